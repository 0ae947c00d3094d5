/-
  CHAPTER 3: transactions that are the same, by the reading.
-/
import Derived.Test.YtdafmioegaelgaaP16
namespace Go.Proofs.Ytdafmioegaelgaa
open Go Go.Am Go.RowKit
set_option linter.unusedVariables false
set_option linter.unusedSimpArgs false
theorem slEqual_ret (a b : List Int) (n : Nat) (hl : a.length ≤ 1048576) : Ret Try.prog 123 [il a, il b] [] n true (Is (bv (decide (a = b))) [] n) := by
  have hL : (ivs a).length = a.length := by simp
  have hM : (ivs b).length = b.length := by simp
  refine Ret.fn ttOk Try.func123 rfl Try.call123 rfl rfl ?_
  conv => whnf
  repeat' first
    | (refine CondP.yes ?_; conv => whnf)
    | (refine CondP.not ?_; conv => whnf)
    | ((first | refine CondP.dec (fun h => ?_) (fun h => ?_) | refine CondP.ndec (fun h => ?_) (fun h => ?_)) <;> first | (exfalso; first | omega | exact h (by assumption) | exact absurd h (by assumption)) | (conv => whnf))
    | (refine Both.mk ?_ ?_ <;> (conv => whnf))
    | (refine Keep.mk (by repeat' first | exact trivial | rfl | refine And.intro ?_ ?_) ?_; conv => whnf)
    | (refine And.intro (by first | decide | omega) ?_; conv => whnf)
    | fail
  · refine FinOk.pure rfl rfl rfl ⟨?_, rfl, rfl⟩
    refine bvI ?_
    have : a ≠ b := fun e => h (by rw [e])
    simp [this]
  · have hab : a.length = b.length := by omega
    refine LoopP.go (fun k : Nat => k ≤ a.length ∧ a.take k = b.take k) (fun k => ⟨[(0, il a), (1, il b), (11, il a), (12, iv (ivs a).length), (13, iv k)], [], 0⟩) (fun k => a.length - k) 0 ⟨Nat.zero_le _, rfl⟩ (Weak.of rfl rfl (by repeat' first | exact trivial | rfl | exact leafI (by first | rfl | omega | (simp (disch := omega) only [Int.reduceToNat, IntKind.bits, Nat.min_eq_left, Int.reducePow, IntWalk.i64_in, IntWalk.rem_in, IntWalk.i64_quo, IntWalk.u8_in, IntWalk.u32_in, IntWalk.u64_in]; done) | (simp (disch := omega) only [Int.reduceToNat, IntKind.bits, Nat.min_eq_left, Int.reducePow, IntWalk.i64_in, IntWalk.rem_in, IntWalk.i64_quo, IntWalk.u8_in, IntWalk.u32_in, IntWalk.u64_in]; omega)) | refine And.intro ?_ ?_) trivial) ?_
    intro k ⟨hk, hp⟩
    conv => whnf
    repeat' first
      | (refine CondP.yes ?_; conv => whnf)
      | (refine CondP.not ?_; conv => whnf)
      | ((first | refine CondP.dec (fun h => ?_) (fun h => ?_) | refine CondP.ndec (fun h => ?_) (fun h => ?_)) <;> first | (exfalso; first | omega | exact h (by assumption) | exact absurd h (by assumption)) | (conv => whnf))
      | (refine Both.mk ?_ ?_ <;> (conv => whnf))
      | (refine Keep.mk (by repeat' first | exact trivial | rfl | refine And.intro ?_ ?_) ?_; conv => whnf)
      | (refine And.intro (by first | decide | omega) ?_; conv => whnf)
      | fail
    · have hka : k < a.length := by omega
      have hkb : k < b.length := by omega
      rw [rowK iv1 a k (by omega)]
      refine ⟨by (first | exact ⟨by omega, by omega, rfl⟩ | (simp only [List.length_map]; exact ⟨by omega, by omega, rfl⟩)), ?_⟩
      conv => whnf
      repeat' first
        | (refine CondP.yes ?_; conv => whnf)
        | (refine CondP.not ?_; conv => whnf)
        | ((first | refine CondP.dec (fun h => ?_) (fun h => ?_) | refine CondP.ndec (fun h => ?_) (fun h => ?_)) <;> first | (exfalso; first | omega | exact h (by assumption) | exact absurd h (by assumption)) | (conv => whnf))
        | (refine Both.mk ?_ ?_ <;> (conv => whnf))
        | (refine Keep.mk (by repeat' first | exact trivial | rfl | refine And.intro ?_ ?_) ?_; conv => whnf)
        | (refine And.intro (by first | decide | omega) ?_; conv => whnf)
        | fail
      rw [rowK iv1 b k (by omega)]
      refine ⟨by (first | exact ⟨by omega, by omega, rfl⟩ | (simp only [List.length_map]; exact ⟨by omega, by omega, rfl⟩)), ?_⟩
      conv => whnf
      repeat' first
        | (refine CondP.yes ?_; conv => whnf)
        | (refine CondP.not ?_; conv => whnf)
        | ((first | refine CondP.dec (fun h => ?_) (fun h => ?_) | refine CondP.ndec (fun h => ?_) (fun h => ?_)) <;> first | (exfalso; first | omega | exact h (by assumption) | exact absurd h (by assumption)) | (conv => whnf))
        | (refine Both.mk ?_ ?_ <;> (conv => whnf))
        | (refine Keep.mk (by repeat' first | exact trivial | rfl | refine And.intro ?_ ?_) ?_; conv => whnf)
        | (refine And.intro (by first | decide | omega) ?_; conv => whnf)
        | fail
      · refine FinOk.pure rfl rfl rfl ⟨?_, rfl, rfl⟩
        refine bvI ?_
        have : a ≠ b := fun e => h (by subst e; rfl)
        simp [this]
      · have he : a[k] = b[k] := by omega
        exact ⟨k + 1, ⟨by omega, by rw [takeS a k hka, takeS b k hkb, hp, he]⟩, by omega, (Weak.of rfl rfl (by repeat' first | exact trivial | rfl | exact leafI (by first | rfl | omega | (simp (disch := omega) only [Int.reduceToNat, IntKind.bits, Nat.min_eq_left, Int.reducePow, IntWalk.i64_in, IntWalk.rem_in, IntWalk.i64_quo, IntWalk.u8_in, IntWalk.u32_in, IntWalk.u64_in]; done) | (simp (disch := omega) only [Int.reduceToNat, IntKind.bits, Nat.min_eq_left, Int.reducePow, IntWalk.i64_in, IntWalk.rem_in, IntWalk.i64_quo, IntWalk.u8_in, IntWalk.u32_in, IntWalk.u64_in]; omega)) | refine And.intro ?_ ?_) trivial)⟩
    · refine FinOk.pure rfl rfl rfl ⟨?_, rfl, rfl⟩
      refine bvI ?_
      rw [List.take_of_length_le (by omega), List.take_of_length_le (by omega)] at hp
      simp [hp]
theorem l1Same_ret (a b : List Int) (n : Nat) (hl : a.length ≤ 1048576) : Ret Try.prog 122 [il a, il b] [] n true (Is (bv (decide (a = b))) [] n) := by
  have hL : (ivs a).length = a.length := by simp
  have hM : (ivs b).length = b.length := by simp
  refine Ret.fn ttOk Try.func122 rfl Try.call122 rfl rfl ?_
  conv => whnf
  repeat' first
    | (refine CondP.yes ?_; conv => whnf)
    | (refine CondP.not ?_; conv => whnf)
    | ((first | refine CondP.dec (fun h => ?_) (fun h => ?_) | refine CondP.ndec (fun h => ?_) (fun h => ?_)) <;> first | (exfalso; first | omega | exact h (by assumption) | exact absurd h (by assumption)) | (conv => whnf))
    | (refine Both.mk ?_ ?_ <;> (conv => whnf))
    | (refine Keep.mk (by repeat' first | exact trivial | rfl | refine And.intro ?_ ?_) ?_; conv => whnf)
    | (refine And.intro (by first | decide | omega) ?_; conv => whnf)
    | fail
  · refine FinOk.pure rfl rfl rfl ⟨?_, rfl, rfl⟩
    refine bvI ?_
    have : a ≠ b := fun e => h (by rw [e])
    simp [this]
  · have hab : a.length = b.length := by omega
    refine LoopP.go (fun k : Nat => k ≤ a.length ∧ a.take k = b.take k) (fun k => ⟨[(0, il a), (1, il b), (5, iv k)], [], 0⟩) (fun k => a.length - k) 0 ⟨Nat.zero_le _, rfl⟩ (Weak.of rfl rfl (by repeat' first | exact trivial | rfl | exact leafI (by first | rfl | omega | (simp (disch := omega) only [Int.reduceToNat, IntKind.bits, Nat.min_eq_left, Int.reducePow, IntWalk.i64_in, IntWalk.rem_in, IntWalk.i64_quo, IntWalk.u8_in, IntWalk.u32_in, IntWalk.u64_in]; done) | (simp (disch := omega) only [Int.reduceToNat, IntKind.bits, Nat.min_eq_left, Int.reducePow, IntWalk.i64_in, IntWalk.rem_in, IntWalk.i64_quo, IntWalk.u8_in, IntWalk.u32_in, IntWalk.u64_in]; omega)) | refine And.intro ?_ ?_) trivial) ?_
    intro k ⟨hk, hp⟩
    conv => whnf
    repeat' first
      | (refine CondP.yes ?_; conv => whnf)
      | (refine CondP.not ?_; conv => whnf)
      | ((first | refine CondP.dec (fun h => ?_) (fun h => ?_) | refine CondP.ndec (fun h => ?_) (fun h => ?_)) <;> first | (exfalso; first | omega | exact h (by assumption) | exact absurd h (by assumption)) | (conv => whnf))
      | (refine Both.mk ?_ ?_ <;> (conv => whnf))
      | (refine Keep.mk (by repeat' first | exact trivial | rfl | refine And.intro ?_ ?_) ?_; conv => whnf)
      | (refine And.intro (by first | decide | omega) ?_; conv => whnf)
      | fail
    · have hka : k < a.length := by omega
      have hkb : k < b.length := by omega
      rw [rowK iv1 a k (by omega)]
      refine ⟨by (first | exact ⟨by omega, by omega, rfl⟩ | (simp only [List.length_map]; exact ⟨by omega, by omega, rfl⟩)), ?_⟩
      conv => whnf
      repeat' first
        | (refine CondP.yes ?_; conv => whnf)
        | (refine CondP.not ?_; conv => whnf)
        | ((first | refine CondP.dec (fun h => ?_) (fun h => ?_) | refine CondP.ndec (fun h => ?_) (fun h => ?_)) <;> first | (exfalso; first | omega | exact h (by assumption) | exact absurd h (by assumption)) | (conv => whnf))
        | (refine Both.mk ?_ ?_ <;> (conv => whnf))
        | (refine Keep.mk (by repeat' first | exact trivial | rfl | refine And.intro ?_ ?_) ?_; conv => whnf)
        | (refine And.intro (by first | decide | omega) ?_; conv => whnf)
        | fail
      rw [rowK iv1 b k (by omega)]
      refine ⟨by (first | exact ⟨by omega, by omega, rfl⟩ | (simp only [List.length_map]; exact ⟨by omega, by omega, rfl⟩)), ?_⟩
      conv => whnf
      repeat' first
        | (refine CondP.yes ?_; conv => whnf)
        | (refine CondP.not ?_; conv => whnf)
        | ((first | refine CondP.dec (fun h => ?_) (fun h => ?_) | refine CondP.ndec (fun h => ?_) (fun h => ?_)) <;> first | (exfalso; first | omega | exact h (by assumption) | exact absurd h (by assumption)) | (conv => whnf))
        | (refine Both.mk ?_ ?_ <;> (conv => whnf))
        | (refine Keep.mk (by repeat' first | exact trivial | rfl | refine And.intro ?_ ?_) ?_; conv => whnf)
        | (refine And.intro (by first | decide | omega) ?_; conv => whnf)
        | fail
      · refine FinOk.pure rfl rfl rfl ⟨?_, rfl, rfl⟩
        refine bvI ?_
        have : a ≠ b := fun e => h (by subst e; rfl)
        simp [this]
      · have he : a[k] = b[k] := by omega
        exact ⟨k + 1, ⟨by omega, by rw [takeS a k hka, takeS b k hkb, hp, he]⟩, by omega, (Weak.of rfl rfl (by repeat' first | exact trivial | rfl | exact leafI (by first | rfl | omega | (simp (disch := omega) only [Int.reduceToNat, IntKind.bits, Nat.min_eq_left, Int.reducePow, IntWalk.i64_in, IntWalk.rem_in, IntWalk.i64_quo, IntWalk.u8_in, IntWalk.u32_in, IntWalk.u64_in]; done) | (simp (disch := omega) only [Int.reduceToNat, IntKind.bits, Nat.min_eq_left, Int.reducePow, IntWalk.i64_in, IntWalk.rem_in, IntWalk.i64_quo, IntWalk.u8_in, IntWalk.u32_in, IntWalk.u64_in]; omega)) | refine And.intro ?_ ?_) trivial)⟩
    · refine FinOk.pure rfl rfl rfl ⟨?_, rfl, rfl⟩
      refine bvI ?_
      rw [List.take_of_length_le (by omega), List.take_of_length_le (by omega)] at hp
      simp [hp]
end Go.Proofs.Ytdafmioegaelgaa
