/-
  CHAPTER 3: the specification's faults of a transaction that is only read.
-/
import Derived.Test.YtdafmioegaelgaaP15
namespace Go.Proofs.Ytdafmioegaelgaa
open Go Go.Am Go.RowKit
set_option linter.unusedVariables false
set_option linter.unusedSimpArgs false
theorem l3Fault_rp (t : TxD) (n : Nat) (hl : t.2.1.length ≤ 1048576) (hl2 : t.2.2.length ≤ 1048576) : Ret Try.prog 44 [.rp (txC t)] [] n true (Is (iv (faultC t)) [] n) := by
  obtain ⟨t1, xs, ys⟩ := t
  dsimp only at hl hl2
  have hL : (xs.map inRow).length = xs.length := by simp
  have hL2 : (ys.map outRow).length = ys.length := by simp
  show Ret Try.prog 44 [.rp [iv t1, insV xs, outsV ys]] [] n true (Is (iv (faultC (t1, xs, ys))) [] n)
  refine Ret.fn ttOk Try.func44 rfl Try.call44 rfl rfl ?_
  by_cases hv : inR 0 65535 t1
  case neg =>
    have hvr := l1In_ret t1 0 65535
    rw [decide_eq_false hv] at hvr
    conv => whnf
    repeat' first
      | (refine CondP.yes ?_; conv => whnf)
      | (refine CondP.not ?_; conv => whnf)
      | ((first | refine CondP.dec (fun h => ?_) (fun h => ?_) | refine CondP.ndec (fun h => ?_) (fun h => ?_)) <;> first | (exfalso; first | omega | exact h (by assumption) | exact absurd h (by assumption)) | (conv => whnf))
      | (refine Both.mk ?_ ?_ <;> (conv => whnf))
      | (refine Keep.mk (by repeat' first | exact trivial | rfl | refine And.intro ?_ ?_) ?_; conv => whnf)
      | (refine And.intro (by first | decide | omega) ?_; conv => whnf)
      | fail
    first | refine CallP.is (hvr _) rfl ?_ | refine CallQ.is (hvr _) rfl rfl ?_
    conv => whnf
    repeat' first
      | (refine CondP.yes ?_; conv => whnf)
      | (refine CondP.not ?_; conv => whnf)
      | ((first | refine CondP.dec (fun h => ?_) (fun h => ?_) | refine CondP.ndec (fun h => ?_) (fun h => ?_)) <;> first | (exfalso; first | omega | exact h (by assumption) | exact absurd h (by assumption)) | (conv => whnf))
      | (refine Both.mk ?_ ?_ <;> (conv => whnf))
      | (refine Keep.mk (by repeat' first | exact trivial | rfl | refine And.intro ?_ ?_) ?_; conv => whnf)
      | (refine And.intro (by first | decide | omega) ?_; conv => whnf)
      | fail
    refine FinOk.pure rfl rfl rfl ⟨?_, rfl, rfl⟩
    unfold faultC; rw [if_pos hv]; try rfl
  have hvr := l1In_ret t1 0 65535
  rw [decide_eq_true hv] at hvr
  have g1 : ¬ ¬ inR 0 65535 t1 := fun h' => h' hv
  conv => whnf
  repeat' first
    | (refine CondP.yes ?_; conv => whnf)
    | (refine CondP.not ?_; conv => whnf)
    | ((first | refine CondP.dec (fun h => ?_) (fun h => ?_) | refine CondP.ndec (fun h => ?_) (fun h => ?_)) <;> first | (exfalso; first | omega | exact h (by assumption) | exact absurd h (by assumption)) | (conv => whnf))
    | (refine Both.mk ?_ ?_ <;> (conv => whnf))
    | (refine Keep.mk (by repeat' first | exact trivial | rfl | refine And.intro ?_ ?_) ?_; conv => whnf)
    | (refine And.intro (by first | decide | omega) ?_; conv => whnf)
    | fail
  first | refine CallP.is (hvr _) rfl ?_ | refine CallQ.is (hvr _) rfl rfl ?_
  conv => whnf
  repeat' first
    | (refine CondP.yes ?_; conv => whnf)
    | (refine CondP.not ?_; conv => whnf)
    | ((first | refine CondP.dec (fun h => ?_) (fun h => ?_) | refine CondP.ndec (fun h => ?_) (fun h => ?_)) <;> first | (exfalso; first | omega | exact h (by assumption) | exact absurd h (by assumption)) | (conv => whnf))
    | (refine Both.mk ?_ ?_ <;> (conv => whnf))
    | (refine Keep.mk (by repeat' first | exact trivial | rfl | refine And.intro ?_ ?_) ?_; conv => whnf)
    | (refine And.intro (by first | decide | omega) ?_; conv => whnf)
    | fail
  · refine FinOk.pure rfl rfl rfl ⟨?_, rfl, rfl⟩
    unfold faultC; rw [if_neg g1, if_pos (by dsimp only; omega)]; try rfl
  · refine FinOk.pure rfl rfl rfl ⟨?_, rfl, rfl⟩
    unfold faultC; rw [if_neg g1, if_neg (by dsimp only; omega), if_pos (by dsimp only; omega)]; try rfl
  · refine FinOk.pure rfl rfl rfl ⟨?_, rfl, rfl⟩
    unfold faultC; rw [if_neg g1, if_neg (by dsimp only; omega), if_neg (by dsimp only; omega), if_pos (by dsimp only; omega)]; try rfl
  have g2 : faultC (t1, xs, ys) = if insC [] xs ≠ 0 then insC [] xs else outsC 0 ys := by
    unfold faultC; rw [if_neg g1, if_neg (by dsimp only; omega), if_neg (by dsimp only; omega), if_neg (by dsimp only; omega)]
  have e0 : insC [] xs = insC (xs.take 0) (xs.drop 0) := by simp
  refine LoopP.go (fun k : Nat => k ≤ xs.length ∧ insC [] xs = insC (xs.take k) (xs.drop k)) (fun k => ⟨[(3, iv k), (0, .rp [iv t1, insV xs, outsV ys])], [], 0⟩) (fun k => xs.length - k) 0 ⟨Nat.zero_le _, e0⟩ (Weak.of rfl rfl (by repeat' first | exact trivial | rfl | exact leafI (by first | rfl | omega | (simp (disch := omega) only [Int.reduceToNat, IntKind.bits, Nat.min_eq_left, Int.reducePow, IntWalk.i64_in, IntWalk.rem_in, IntWalk.i64_quo, IntWalk.u8_in, IntWalk.u32_in, IntWalk.u64_in]; done) | (simp (disch := omega) only [Int.reduceToNat, IntKind.bits, Nat.min_eq_left, Int.reducePow, IntWalk.i64_in, IntWalk.rem_in, IntWalk.i64_quo, IntWalk.u8_in, IntWalk.u32_in, IntWalk.u64_in]; omega)) | refine And.intro ?_ ?_) trivial) ?_
  intro k ⟨hk, hp⟩
  conv => whnf
  repeat' first
    | (refine CondP.yes ?_; conv => whnf)
    | (refine CondP.not ?_; conv => whnf)
    | ((first | refine CondP.dec (fun h => ?_) (fun h => ?_) | refine CondP.ndec (fun h => ?_) (fun h => ?_)) <;> first | (exfalso; first | omega | exact h (by assumption) | exact absurd h (by assumption)) | (conv => whnf))
    | (refine Both.mk ?_ ?_ <;> (conv => whnf))
    | (refine Keep.mk (by repeat' first | exact trivial | rfl | refine And.intro ?_ ?_) ?_; conv => whnf)
    | (refine And.intro (by first | decide | omega) ?_; conv => whnf)
    | fail
  · have hlt : k < xs.length := by omega
    have hat := insC_at xs k hlt
    first | refine CallP.is (l3In_ret xs k xs[k] _ hl hlt rfl) rfl ?_ | refine CallQ.is (l3In_ret xs k xs[k] _ hl hlt rfl) rfl rfl ?_
    conv => whnf
    repeat' first
      | (refine CondP.yes ?_; conv => whnf)
      | (refine CondP.not ?_; conv => whnf)
      | ((first | refine CondP.dec (fun h => ?_) (fun h => ?_) | refine CondP.ndec (fun h => ?_) (fun h => ?_)) <;> first | (exfalso; first | omega | exact h (by assumption) | exact absurd h (by assumption)) | (conv => whnf))
      | (refine Both.mk ?_ ?_ <;> (conv => whnf))
      | (refine Keep.mk (by repeat' first | exact trivial | rfl | refine And.intro ?_ ?_) ?_; conv => whnf)
      | (refine And.intro (by first | decide | omega) ?_; conv => whnf)
      | fail
    · have g3 : inC (xs.take k) xs[k] ≠ 0 := h
      rw [if_pos g3] at hat
      refine FinOk.pure rfl rfl rfl ⟨?_, rfl, rfl⟩
      rw [g2, hp, hat, if_pos g3]; try rfl
    · have g3 : ¬ inC (xs.take k) xs[k] ≠ 0 := h
      rw [if_neg g3] at hat
      exact ⟨k + 1, ⟨by omega, by rw [hp, hat]⟩, by omega, (Weak.of rfl rfl (by repeat' first | exact trivial | rfl | exact leafI (by first | rfl | omega | (simp (disch := omega) only [Int.reduceToNat, IntKind.bits, Nat.min_eq_left, Int.reducePow, IntWalk.i64_in, IntWalk.rem_in, IntWalk.i64_quo, IntWalk.u8_in, IntWalk.u32_in, IntWalk.u64_in]; done) | (simp (disch := omega) only [Int.reduceToNat, IntKind.bits, Nat.min_eq_left, Int.reducePow, IntWalk.i64_in, IntWalk.rem_in, IntWalk.i64_quo, IntWalk.u8_in, IntWalk.u32_in, IntWalk.u64_in]; omega)) | refine And.intro ?_ ?_) trivial)⟩
  · obtain rfl : k = xs.length := by omega
    rw [insC_end] at hp
    rw [g2, hp, if_neg (by decide)]
    first | refine CallP.is (l3Outs_ret ys _ (by omega)) rfl ?_ | refine CallQ.is (l3Outs_ret ys _ (by omega)) rfl rfl ?_
    conv => whnf
    repeat' first
      | (refine CondP.yes ?_; conv => whnf)
      | (refine CondP.not ?_; conv => whnf)
      | ((first | refine CondP.dec (fun h => ?_) (fun h => ?_) | refine CondP.ndec (fun h => ?_) (fun h => ?_)) <;> first | (exfalso; first | omega | exact h (by assumption) | exact absurd h (by assumption)) | (conv => whnf))
      | (refine Both.mk ?_ ?_ <;> (conv => whnf))
      | (refine Keep.mk (by repeat' first | exact trivial | rfl | refine And.intro ?_ ?_) ?_; conv => whnf)
      | (refine And.intro (by first | decide | omega) ?_; conv => whnf)
      | fail
    refine FinOk.pure rfl rfl rfl ⟨?_, rfl, rfl⟩
    rfl
end Go.Proofs.Ytdafmioegaelgaa
