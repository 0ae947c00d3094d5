/-
  CHAPTER 3: the draws, by the reading.
-/
import Derived.Test.YtbghcndemghilaaP20
import Derived.Test.YtbghcndemghilaaP2
import Derived.Test.YtbghcndemghilaaPick
namespace Go.Proofs.Ytbghcndemghilaa
open Go Go.Am Go.RowKit
set_option linter.unusedVariables false
set_option linter.unusedSimpArgs false
/-- A drawn list: some numbers, and the source further on. -/
def DrawL (i n m q : Nat) (c : List Int) (at_ : Int) : AV → Hp → Nat → Prop := fun r ho k => ∃ (l : List Int) (a : Int), r = .own n l.length ∧ ho = [(i, .box [ul c, iv a]), (n, .list 2 1 (ivs l))] ∧ k = n + 1 ∧ l.length ≤ q ∧ at_ ≤ a ∧ a ≤ at_ + m ∧ ∀ z ∈ l, inR 0 65535 z
def DrawI (i n m : Nat) (lo hi : Int) (c : List Int) (at_ : Int) : AV → Hp → Nat → Prop := fun r ho k => ∃ (v a : Int), r = iv v ∧ ho = [(i, .box [ul c, iv a])] ∧ k = n ∧ lo ≤ v ∧ v ≤ hi ∧ at_ ≤ a ∧ a ≤ at_ + m
theorem l2DrawKey_ret (c : List Int) (at_ : Int) (i n : Nat) (hc : ∀ z ∈ c, isU8 z) (hl : c.length ≤ 1048576) (ha : 0 ≤ at_) (ha2 : at_ ≤ 1000) :
    Ret Try.prog 146 [.pt i 0 0] [(i, .box [ul c, iv at_])] n true (Is (iv (pickF c at_ [1, 2, 3, 899])) [(i, .box [ul c, iv (at_ + 1)])] n) := by
  refine Ret.of_run (tt := tt) ttOk Try.func146 rfl Try.call146 [i] [.box [ul c, iv at_]] [.pt 0 0 0] true n _ rfl (nodup1 i) (by exact Nat.le_of_ble_eq_true rfl) rfl rfl ?_
  conv => whnf
  repeat' first
    | (refine CondP.yes ?_; conv => whnf)
    | (refine CondP.not ?_; conv => whnf)
    | ((first | refine CondP.dec (fun h => ?_) (fun h => ?_) | refine CondP.ndec (fun h => ?_) (fun h => ?_)) <;> first | (exfalso; first | omega | exact h (by assumption) | exact absurd h (by assumption)) | (conv => whnf))
    | (refine Both.mk ?_ ?_ <;> (conv => whnf))
    | (refine Keep.mk (by repeat' first | exact trivial | rfl | refine And.intro ?_ ?_) ?_; conv => whnf)
    | (refine And.intro (by first | decide | omega) ?_; conv => whnf)
    | fail
  refine CallP.heapIs (l1Pick_ret c at_ [1, 2, 3, 899] 0 1 _ (by decide) hc hl ha (by omega) (by simp) (by simp)) rfl (by repeat' first | exact trivial | rfl | exact leafI (by first | rfl | omega | (simp (disch := omega) only [Int.reduceToNat, IntKind.bits, Nat.min_eq_left, Int.reducePow, IntWalk.i64_in, IntWalk.rem_in, IntWalk.i64_quo, IntWalk.u8_in, IntWalk.u32_in, IntWalk.u64_in]; done) | (simp (disch := omega) only [Int.reduceToNat, IntKind.bits, Nat.min_eq_left, Int.reducePow, IntWalk.i64_in, IntWalk.rem_in, IntWalk.i64_quo, IntWalk.u8_in, IntWalk.u32_in, IntWalk.u64_in]; omega)) | refine And.intro ?_ ?_) rfl ?_
  conv => whnf
  repeat' first
    | (refine CondP.yes ?_; conv => whnf)
    | (refine CondP.not ?_; conv => whnf)
    | ((first | refine CondP.dec (fun h => ?_) (fun h => ?_) | refine CondP.ndec (fun h => ?_) (fun h => ?_)) <;> first | (exfalso; first | omega | exact h (by assumption) | exact absurd h (by assumption)) | (conv => whnf))
    | (refine Both.mk ?_ ?_ <;> (conv => whnf))
    | (refine Keep.mk (by repeat' first | exact trivial | rfl | refine And.intro ?_ ?_) ?_; conv => whnf)
    | (refine And.intro (by first | decide | omega) ?_; conv => whnf)
    | fail
  refine FinOk.mk' [] rfl rfl rfl rfl rfl rfl rfl ⟨?_, ?_, rfl⟩
  · rfl
  · rfl
theorem l2Draw_ret (c : List Int) (at_ : Int) (i n : Nat) (hc : ∀ z ∈ c, isU8 z) (hl : c.length ≤ 1048576) (ha : 0 ≤ at_) (ha2 : at_ ≤ 100) :
    Ret Try.prog 110 [.pt i 0 0] [(i, .box [ul c, iv at_])] n true (DrawL i n 20 7 c at_) := by
  refine Ret.of_run (tt := tt) ttOk Try.func110 rfl Try.call110 [i] [.box [ul c, iv at_]] [.pt 0 0 0] true n _ rfl (nodup1 i) (by exact Nat.le_of_ble_eq_true rfl) rfl rfl ?_
  have hb := nextF_bd c at_ 5 (by decide)
  conv => whnf
  repeat' first
    | (refine CondP.yes ?_; conv => whnf)
    | (refine CondP.not ?_; conv => whnf)
    | ((first | refine CondP.dec (fun h => ?_) (fun h => ?_) | refine CondP.ndec (fun h => ?_) (fun h => ?_)) <;> first | (exfalso; first | omega | exact h (by assumption) | exact absurd h (by assumption)) | (conv => whnf))
    | (refine Both.mk ?_ ?_ <;> (conv => whnf))
    | (refine Keep.mk (by repeat' first | exact trivial | rfl | refine And.intro ?_ ?_) ?_; conv => whnf)
    | (refine And.intro (by first | decide | omega) ?_; conv => whnf)
    | fail
  refine CallP.heapIs (l1Next_ret c at_ 5 0 _ hc hl ha (by omega) (by decide)) rfl (by repeat' first | exact trivial | rfl | exact leafI (by first | rfl | omega | (simp (disch := omega) only [Int.reduceToNat, IntKind.bits, Nat.min_eq_left, Int.reducePow, IntWalk.i64_in, IntWalk.rem_in, IntWalk.i64_quo, IntWalk.u8_in, IntWalk.u32_in, IntWalk.u64_in]; done) | (simp (disch := omega) only [Int.reduceToNat, IntKind.bits, Nat.min_eq_left, Int.reducePow, IntWalk.i64_in, IntWalk.rem_in, IntWalk.i64_quo, IntWalk.u8_in, IntWalk.u32_in, IntWalk.u64_in]; omega)) | refine And.intro ?_ ?_) rfl ?_
  conv => whnf
  repeat' first
    | (refine CondP.yes ?_; conv => whnf)
    | (refine CondP.not ?_; conv => whnf)
    | ((first | refine CondP.dec (fun h => ?_) (fun h => ?_) | refine CondP.ndec (fun h => ?_) (fun h => ?_)) <;> first | (exfalso; first | omega | exact h (by assumption) | exact absurd h (by assumption)) | (conv => whnf))
    | (refine Both.mk ?_ ?_ <;> (conv => whnf))
    | (refine Keep.mk (by repeat' first | exact trivial | rfl | refine And.intro ?_ ?_) ?_; conv => whnf)
    | (refine And.intro (by first | decide | omega) ?_; conv => whnf)
    | fail
  · refine CallP.heapIs (l2DrawKey_ret c (at_ + 1) 0 _ hc hl (by omega) (by omega)) rfl (by repeat' first | exact trivial | rfl | exact leafI (by first | rfl | omega | (simp (disch := omega) only [Int.reduceToNat, IntKind.bits, Nat.min_eq_left, Int.reducePow, IntWalk.i64_in, IntWalk.rem_in, IntWalk.i64_quo, IntWalk.u8_in, IntWalk.u32_in, IntWalk.u64_in]; done) | (simp (disch := omega) only [Int.reduceToNat, IntKind.bits, Nat.min_eq_left, Int.reducePow, IntWalk.i64_in, IntWalk.rem_in, IntWalk.i64_quo, IntWalk.u8_in, IntWalk.u32_in, IntWalk.u64_in]; omega)) | refine And.intro ?_ ?_) rfl ?_
    conv => whnf
    repeat' first
      | (refine CondP.yes ?_; conv => whnf)
      | (refine CondP.not ?_; conv => whnf)
      | ((first | refine CondP.dec (fun h => ?_) (fun h => ?_) | refine CondP.ndec (fun h => ?_) (fun h => ?_)) <;> first | (exfalso; first | omega | exact h (by assumption) | exact absurd h (by assumption)) | (conv => whnf))
      | (refine Both.mk ?_ ?_ <;> (conv => whnf))
      | (refine Keep.mk (by repeat' first | exact trivial | rfl | refine And.intro ?_ ?_) ?_; conv => whnf)
      | (refine And.intro (by first | decide | omega) ?_; conv => whnf)
      | fail
    have hk := pickF_in c (at_ + 1) 0 899 [1, 2, 3, 899] (by simp) rfl
    refine CallP.is (l2KeyLock_ret _ _ hk) rfl ?_
    conv => whnf
    repeat' first
      | (refine CondP.yes ?_; conv => whnf)
      | (refine CondP.not ?_; conv => whnf)
      | ((first | refine CondP.dec (fun h => ?_) (fun h => ?_) | refine CondP.ndec (fun h => ?_) (fun h => ?_)) <;> first | (exfalso; first | omega | exact h (by assumption) | exact absurd h (by assumption)) | (conv => whnf))
      | (refine Both.mk ?_ ?_ <;> (conv => whnf))
      | (refine Keep.mk (by repeat' first | exact trivial | rfl | refine And.intro ?_ ?_) ?_; conv => whnf)
      | (refine And.intro (by first | decide | omega) ?_; conv => whnf)
      | fail
    exact FinOk.mk' [1] rfl rfl rfl rfl rfl rfl rfl ⟨_, _, rfl, rfl, rfl, by simp, by omega, by omega, (by intro z hz; simp only [List.mem_cons, List.not_mem_nil, or_false] at hz; unfold inR; omega)⟩
  · refine CallP.heapIs (l2DrawKey_ret c (at_ + 1) 0 _ hc hl (by omega) (by omega)) rfl (by repeat' first | exact trivial | rfl | exact leafI (by first | rfl | omega | (simp (disch := omega) only [Int.reduceToNat, IntKind.bits, Nat.min_eq_left, Int.reducePow, IntWalk.i64_in, IntWalk.rem_in, IntWalk.i64_quo, IntWalk.u8_in, IntWalk.u32_in, IntWalk.u64_in]; done) | (simp (disch := omega) only [Int.reduceToNat, IntKind.bits, Nat.min_eq_left, Int.reducePow, IntWalk.i64_in, IntWalk.rem_in, IntWalk.i64_quo, IntWalk.u8_in, IntWalk.u32_in, IntWalk.u64_in]; omega)) | refine And.intro ?_ ?_) rfl ?_
    conv => whnf
    repeat' first
      | (refine CondP.yes ?_; conv => whnf)
      | (refine CondP.not ?_; conv => whnf)
      | ((first | refine CondP.dec (fun h => ?_) (fun h => ?_) | refine CondP.ndec (fun h => ?_) (fun h => ?_)) <;> first | (exfalso; first | omega | exact h (by assumption) | exact absurd h (by assumption)) | (conv => whnf))
      | (refine Both.mk ?_ ?_ <;> (conv => whnf))
      | (refine Keep.mk (by repeat' first | exact trivial | rfl | refine And.intro ?_ ?_) ?_; conv => whnf)
      | (refine And.intro (by first | decide | omega) ?_; conv => whnf)
      | fail
    have hk := pickF_in c (at_ + 1) 0 899 [1, 2, 3, 899] (by simp) rfl
    refine CallP.is (l2KeyLock_ret _ _ hk) rfl ?_
    conv => whnf
    repeat' first
      | (refine CondP.yes ?_; conv => whnf)
      | (refine CondP.not ?_; conv => whnf)
      | ((first | refine CondP.dec (fun h => ?_) (fun h => ?_) | refine CondP.ndec (fun h => ?_) (fun h => ?_)) <;> first | (exfalso; first | omega | exact h (by assumption) | exact absurd h (by assumption)) | (conv => whnf))
      | (refine Both.mk ?_ ?_ <;> (conv => whnf))
      | (refine Keep.mk (by repeat' first | exact trivial | rfl | refine And.intro ?_ ?_) ?_; conv => whnf)
      | (refine And.intro (by first | decide | omega) ?_; conv => whnf)
      | fail
    exact FinOk.mk' [1] rfl rfl rfl rfl rfl rfl rfl ⟨_, _, rfl, rfl, rfl, by simp, by omega, by omega, (by intro z hz; simp only [List.mem_cons, List.not_mem_nil, or_false] at hz; unfold inR; omega)⟩
  · refine CallP.heapIs (l2DrawKey_ret c (at_ + 1) 0 _ hc hl (by omega) (by omega)) rfl (by repeat' first | exact trivial | rfl | exact leafI (by first | rfl | omega | (simp (disch := omega) only [Int.reduceToNat, IntKind.bits, Nat.min_eq_left, Int.reducePow, IntWalk.i64_in, IntWalk.rem_in, IntWalk.i64_quo, IntWalk.u8_in, IntWalk.u32_in, IntWalk.u64_in]; done) | (simp (disch := omega) only [Int.reduceToNat, IntKind.bits, Nat.min_eq_left, Int.reducePow, IntWalk.i64_in, IntWalk.rem_in, IntWalk.i64_quo, IntWalk.u8_in, IntWalk.u32_in, IntWalk.u64_in]; omega)) | refine And.intro ?_ ?_) rfl ?_
    conv => whnf
    repeat' first
      | (refine CondP.yes ?_; conv => whnf)
      | (refine CondP.not ?_; conv => whnf)
      | ((first | refine CondP.dec (fun h => ?_) (fun h => ?_) | refine CondP.ndec (fun h => ?_) (fun h => ?_)) <;> first | (exfalso; first | omega | exact h (by assumption) | exact absurd h (by assumption)) | (conv => whnf))
      | (refine Both.mk ?_ ?_ <;> (conv => whnf))
      | (refine Keep.mk (by repeat' first | exact trivial | rfl | refine And.intro ?_ ?_) ?_; conv => whnf)
      | (refine And.intro (by first | decide | omega) ?_; conv => whnf)
      | fail
    refine CallP.heapIs (l2DrawKey_ret c (at_ + 1 + 1) 0 _ hc hl (by omega) (by omega)) rfl (by repeat' first | exact trivial | rfl | exact leafI (by first | rfl | omega | (simp (disch := omega) only [Int.reduceToNat, IntKind.bits, Nat.min_eq_left, Int.reducePow, IntWalk.i64_in, IntWalk.rem_in, IntWalk.i64_quo, IntWalk.u8_in, IntWalk.u32_in, IntWalk.u64_in]; done) | (simp (disch := omega) only [Int.reduceToNat, IntKind.bits, Nat.min_eq_left, Int.reducePow, IntWalk.i64_in, IntWalk.rem_in, IntWalk.i64_quo, IntWalk.u8_in, IntWalk.u32_in, IntWalk.u64_in]; omega)) | refine And.intro ?_ ?_) rfl ?_
    conv => whnf
    repeat' first
      | (refine CondP.yes ?_; conv => whnf)
      | (refine CondP.not ?_; conv => whnf)
      | ((first | refine CondP.dec (fun h => ?_) (fun h => ?_) | refine CondP.ndec (fun h => ?_) (fun h => ?_)) <;> first | (exfalso; first | omega | exact h (by assumption) | exact absurd h (by assumption)) | (conv => whnf))
      | (refine Both.mk ?_ ?_ <;> (conv => whnf))
      | (refine Keep.mk (by repeat' first | exact trivial | rfl | refine And.intro ?_ ?_) ?_; conv => whnf)
      | (refine And.intro (by first | decide | omega) ?_; conv => whnf)
      | fail
    have hk := pickF_in c (at_ + 1) 0 899 [1, 2, 3, 899] (by simp) rfl
    have hk2 := pickF_in c (at_ + 1 + 1) 0 899 [1, 2, 3, 899] (by simp) rfl
    refine CallP.is (specPairLock_ret _ _ _ hk hk2) rfl ?_
    conv => whnf
    repeat' first
      | (refine CondP.yes ?_; conv => whnf)
      | (refine CondP.not ?_; conv => whnf)
      | ((first | refine CondP.dec (fun h => ?_) (fun h => ?_) | refine CondP.ndec (fun h => ?_) (fun h => ?_)) <;> first | (exfalso; first | omega | exact h (by assumption) | exact absurd h (by assumption)) | (conv => whnf))
      | (refine Both.mk ?_ ?_ <;> (conv => whnf))
      | (refine Keep.mk (by repeat' first | exact trivial | rfl | refine And.intro ?_ ?_) ?_; conv => whnf)
      | (refine And.intro (by first | decide | omega) ?_; conv => whnf)
      | fail
    exact FinOk.mk' [1] rfl rfl rfl rfl rfl rfl rfl ⟨_, _, rfl, rfl, rfl, by simp, by omega, by omega, (by intro z hz; simp only [List.mem_cons, List.not_mem_nil, or_false] at hz; unfold inR; omega)⟩
  · refine CallP.heapIs (l2DrawKey_ret c (at_ + 1) 0 _ hc hl (by omega) (by omega)) rfl (by repeat' first | exact trivial | rfl | exact leafI (by first | rfl | omega | (simp (disch := omega) only [Int.reduceToNat, IntKind.bits, Nat.min_eq_left, Int.reducePow, IntWalk.i64_in, IntWalk.rem_in, IntWalk.i64_quo, IntWalk.u8_in, IntWalk.u32_in, IntWalk.u64_in]; done) | (simp (disch := omega) only [Int.reduceToNat, IntKind.bits, Nat.min_eq_left, Int.reducePow, IntWalk.i64_in, IntWalk.rem_in, IntWalk.i64_quo, IntWalk.u8_in, IntWalk.u32_in, IntWalk.u64_in]; omega)) | refine And.intro ?_ ?_) rfl ?_
    conv => whnf
    repeat' first
      | (refine CondP.yes ?_; conv => whnf)
      | (refine CondP.not ?_; conv => whnf)
      | ((first | refine CondP.dec (fun h => ?_) (fun h => ?_) | refine CondP.ndec (fun h => ?_) (fun h => ?_)) <;> first | (exfalso; first | omega | exact h (by assumption) | exact absurd h (by assumption)) | (conv => whnf))
      | (refine Both.mk ?_ ?_ <;> (conv => whnf))
      | (refine Keep.mk (by repeat' first | exact trivial | rfl | refine And.intro ?_ ?_) ?_; conv => whnf)
      | (refine And.intro (by first | decide | omega) ?_; conv => whnf)
      | fail
    refine CallP.heapIs (l1Next_ret c (at_ + 1 + 1) 6 0 _ hc hl (by omega) (by omega) (by decide)) rfl (by repeat' first | exact trivial | rfl | exact leafI (by first | rfl | omega | (simp (disch := omega) only [Int.reduceToNat, IntKind.bits, Nat.min_eq_left, Int.reducePow, IntWalk.i64_in, IntWalk.rem_in, IntWalk.i64_quo, IntWalk.u8_in, IntWalk.u32_in, IntWalk.u64_in]; done) | (simp (disch := omega) only [Int.reduceToNat, IntKind.bits, Nat.min_eq_left, Int.reducePow, IntWalk.i64_in, IntWalk.rem_in, IntWalk.i64_quo, IntWalk.u8_in, IntWalk.u32_in, IntWalk.u64_in]; omega)) | refine And.intro ?_ ?_) rfl ?_
    conv => whnf
    repeat' first
      | (refine CondP.yes ?_; conv => whnf)
      | (refine CondP.not ?_; conv => whnf)
      | ((first | refine CondP.dec (fun h => ?_) (fun h => ?_) | refine CondP.ndec (fun h => ?_) (fun h => ?_)) <;> first | (exfalso; first | omega | exact h (by assumption) | exact absurd h (by assumption)) | (conv => whnf))
      | (refine Both.mk ?_ ?_ <;> (conv => whnf))
      | (refine Keep.mk (by repeat' first | exact trivial | rfl | refine And.intro ?_ ?_) ?_; conv => whnf)
      | (refine And.intro (by first | decide | omega) ?_; conv => whnf)
      | fail
    have hk := pickF_in c (at_ + 1) 0 899 [1, 2, 3, 899] (by simp) rfl
    have hk2 := nextF_bd c (at_ + 1 + 1) 6 (by decide)
    refine CallP.is (specLaterLock_ret _ _ _ hk (show inR 0 999 _ from ⟨by omega, by omega⟩)) rfl ?_
    conv => whnf
    repeat' first
      | (refine CondP.yes ?_; conv => whnf)
      | (refine CondP.not ?_; conv => whnf)
      | ((first | refine CondP.dec (fun h => ?_) (fun h => ?_) | refine CondP.ndec (fun h => ?_) (fun h => ?_)) <;> first | (exfalso; first | omega | exact h (by assumption) | exact absurd h (by assumption)) | (conv => whnf))
      | (refine Both.mk ?_ ?_ <;> (conv => whnf))
      | (refine Keep.mk (by repeat' first | exact trivial | rfl | refine And.intro ?_ ?_) ?_; conv => whnf)
      | (refine And.intro (by first | decide | omega) ?_; conv => whnf)
      | fail
    exact FinOk.mk' [1] rfl rfl rfl rfl rfl rfl rfl ⟨_, _, rfl, rfl, rfl, by simp, by omega, by omega, (by intro z hz; simp only [List.mem_cons, List.not_mem_nil, or_false] at hz; unfold inR; omega)⟩
  · have hk := nextF_bd c (at_ + 1) 8 (by decide)
    refine CallP.heapIs (l1Next_ret c (at_ + 1) 8 0 _ hc hl (by omega) (by omega) (by decide)) rfl (by repeat' first | exact trivial | rfl | exact leafI (by first | rfl | omega | (simp (disch := omega) only [Int.reduceToNat, IntKind.bits, Nat.min_eq_left, Int.reducePow, IntWalk.i64_in, IntWalk.rem_in, IntWalk.i64_quo, IntWalk.u8_in, IntWalk.u32_in, IntWalk.u64_in]; done) | (simp (disch := omega) only [Int.reduceToNat, IntKind.bits, Nat.min_eq_left, Int.reducePow, IntWalk.i64_in, IntWalk.rem_in, IntWalk.i64_quo, IntWalk.u8_in, IntWalk.u32_in, IntWalk.u64_in]; omega)) | refine And.intro ?_ ?_) rfl ?_
    conv => whnf
    repeat' first
      | (refine CondP.yes ?_; conv => whnf)
      | (refine CondP.not ?_; conv => whnf)
      | ((first | refine CondP.dec (fun h => ?_) (fun h => ?_) | refine CondP.ndec (fun h => ?_) (fun h => ?_)) <;> first | (exfalso; first | omega | exact h (by assumption) | exact absurd h (by assumption)) | (conv => whnf))
      | (refine Both.mk ?_ ?_ <;> (conv => whnf))
      | (refine Keep.mk (by repeat' first | exact trivial | rfl | refine And.intro ?_ ?_) ?_; conv => whnf)
      | (refine And.intro (by first | decide | omega) ?_; conv => whnf)
      | fail
    refine LoopP.go (fun y : List Int × Nat => y.1.length + y.2 ≤ 7 ∧ ∀ z ∈ y.1, inR 0 65535 z)
      (fun y => ⟨[(0, .pt 0 0 0), (3, .own 1 y.1.length), (4, iv y.2)], [(1, .list 2 1 (ivs y.1)), (0, .box [ul c, iv (at_ + 2 + y.1.length)])], 2⟩) (fun y => y.2) ([], (nextF c (at_ + 1) 8).toNat) ⟨by show 0 + _ ≤ 7; omega, by simp⟩ ?_ ?_
    · refine Weak.of rfl rfl ⟨⟨rfl, rfl⟩, ⟨rfl, rfl⟩, ⟨leafI (by show _ = ((nextF c (at_ + 1) 8).toNat : Int); omega), rfl⟩, trivial⟩ ⟨⟨rfl, rfl, rfl⟩, ⟨?_, rfl, rfl⟩, trivial⟩
      show some (AObj.box [ul c, iv (at_ + 1 + 1)]) = some (AObj.box [ul c, iv (at_ + 2 + 0)])
      rw [show at_ + 1 + 1 = at_ + 2 + 0 by omega]
    rintro ⟨l, k⟩ ⟨hlk, hlr⟩
    dsimp only at hlk hlr ⊢
    conv => whnf
    repeat' first
      | (refine CondP.yes ?_; conv => whnf)
      | (refine CondP.not ?_; conv => whnf)
      | ((first | refine CondP.dec (fun h => ?_) (fun h => ?_) | refine CondP.ndec (fun h => ?_) (fun h => ?_)) <;> first | (exfalso; first | omega | exact h (by assumption) | exact absurd h (by assumption)) | (conv => whnf))
      | (refine Both.mk ?_ ?_ <;> (conv => whnf))
      | (refine Keep.mk (by repeat' first | exact trivial | rfl | refine And.intro ?_ ?_) ?_; conv => whnf)
      | (refine And.intro (by first | decide | omega) ?_; conv => whnf)
      | fail
    · refine CallP.heapIs (l1Pick_ret c (at_ + 2 + l.length) [1, 2, 3, 4, 5, 6, 7, 8, 9, 100, 101, 103, 1099] 0 2 _ (by decide) hc hl (by omega) (by omega) (by simp) (by simp)) rfl (by repeat' first | exact trivial | rfl | exact leafI (by first | rfl | omega | (simp (disch := omega) only [Int.reduceToNat, IntKind.bits, Nat.min_eq_left, Int.reducePow, IntWalk.i64_in, IntWalk.rem_in, IntWalk.i64_quo, IntWalk.u8_in, IntWalk.u32_in, IntWalk.u64_in]; done) | (simp (disch := omega) only [Int.reduceToNat, IntKind.bits, Nat.min_eq_left, Int.reducePow, IntWalk.i64_in, IntWalk.rem_in, IntWalk.i64_quo, IntWalk.u8_in, IntWalk.u32_in, IntWalk.u64_in]; omega)) | refine And.intro ?_ ?_) rfl ?_
      conv => whnf
      repeat' first
        | (refine CondP.yes ?_; conv => whnf)
        | (refine CondP.not ?_; conv => whnf)
        | ((first | refine CondP.dec (fun h => ?_) (fun h => ?_) | refine CondP.ndec (fun h => ?_) (fun h => ?_)) <;> first | (exfalso; first | omega | exact h (by assumption) | exact absurd h (by assumption)) | (conv => whnf))
        | (refine Both.mk ?_ ?_ <;> (conv => whnf))
        | (refine Keep.mk (by repeat' first | exact trivial | rfl | refine And.intro ?_ ?_) ?_; conv => whnf)
        | (refine And.intro (by first | decide | omega) ?_; conv => whnf)
        | fail
      refine ⟨⟨by (first | exact True.intro | omega | (simp only [List.length_map, List.length_take, List.length_drop, List.length_append, List.length_set, List.length_replicate, List.length_cons, List.length_nil, four_len, fours_len, maxLen] at *; omega)), by (first | exact True.intro | omega | (simp only [List.length_map, List.length_take, List.length_drop, List.length_append, List.length_set, List.length_replicate, List.length_cons, List.length_nil, four_len, fours_len, maxLen] at *; omega)), by (first | exact True.intro | omega | (simp only [List.length_map, List.length_take, List.length_drop, List.length_append, List.length_set, List.length_replicate, List.length_cons, List.length_nil, four_len, fours_len, maxLen] at *; omega)), by (first | exact True.intro | omega | (simp only [List.length_map, List.length_take, List.length_drop, List.length_append, List.length_set, List.length_replicate, List.length_cons, List.length_nil, four_len, fours_len, maxLen] at *; omega)), by (first | (intro r hr; first | exact row1 hr | exact row1 (List.mem_of_mem_take hr)) | (refine rowsB_ok ?_; rfl))⟩, ?_⟩
      conv => whnf
      repeat' first
        | (refine CondP.yes ?_; conv => whnf)
        | (refine CondP.not ?_; conv => whnf)
        | ((first | refine CondP.dec (fun h => ?_) (fun h => ?_) | refine CondP.ndec (fun h => ?_) (fun h => ?_)) <;> first | (exfalso; first | omega | exact h (by assumption) | exact absurd h (by assumption)) | (conv => whnf))
        | (refine Both.mk ?_ ?_ <;> (conv => whnf))
        | (refine Keep.mk (by repeat' first | exact trivial | rfl | refine And.intro ?_ ?_) ?_; conv => whnf)
        | (refine And.intro (by first | decide | omega) ?_; conv => whnf)
        | fail
      have hvr := pickF_in c (at_ + 2 + l.length) 0 1099 [1, 2, 3, 4, 5, 6, 7, 8, 9, 100, 101, 103, 1099] (by simp) rfl
      generalize pickF c (at_ + 2 + l.length) [1, 2, 3, 4, 5, 6, 7, 8, 9, 100, 101, 103, 1099] = v at *
      refine ⟨(l ++ [v], k - 1), ⟨by simp; omega, fun z hz => (List.mem_append.1 hz).elim (hlr z) (fun h' => by rw [List.mem_singleton.1 h']; exact ⟨by omega, by omega⟩)⟩, by show k - 1 < k; omega, Weak.of rfl rfl ⟨⟨rfl, rfl⟩, ⟨leafW (by simp), rfl⟩, ⟨leafI (by rw [IntWalk.i64_in _ (by omega)]; show _ = ((k - 1 : Nat) : Int); omega), rfl⟩, trivial⟩ ⟨⟨leafO (by rw [takeI]; simp), rfl, rfl⟩, ⟨?_, rfl, rfl⟩, trivial⟩⟩
      show some (AObj.box [ul c, iv (at_ + 2 + l.length + 1)]) = some (AObj.box [ul c, iv (at_ + 2 + (l ++ [v]).length)])
      rw [show ((l ++ [v]).length : Int) = l.length + 1 by simp, show at_ + 2 + (l.length : Int) + 1 = at_ + 2 + (l.length + 1) by omega]
    · exact FinOk.mk' [1] rfl rfl rfl rfl rfl rfl rfl ⟨_, _, rfl, rfl, rfl, by omega, by omega, by omega, hlr⟩
theorem l2Bent_ret (c : List Int) (at_ : Int) (i n : Nat) (hc : ∀ z ∈ c, isU8 z) (hl : c.length ≤ 1048576) (ha : 0 ≤ at_) (ha2 : at_ ≤ 100) :
    Ret Try.prog 123 [.pt i 0 0] [(i, .box [ul c, iv at_])] n true (DrawL i n 30 13 c at_) := by
  refine Ret.of_run (tt := tt) ttOk Try.func123 rfl Try.call123 [i] [.box [ul c, iv at_]] [.pt 0 0 0] true n _ rfl (nodup1 i) (by exact Nat.le_of_ble_eq_true rfl) rfl rfl ?_
  conv => whnf
  repeat' first
    | (refine CondP.yes ?_; conv => whnf)
    | (refine CondP.not ?_; conv => whnf)
    | ((first | refine CondP.dec (fun h => ?_) (fun h => ?_) | refine CondP.ndec (fun h => ?_) (fun h => ?_)) <;> first | (exfalso; first | omega | exact h (by assumption) | exact absurd h (by assumption)) | (conv => whnf))
    | (refine Both.mk ?_ ?_ <;> (conv => whnf))
    | (refine Keep.mk (by repeat' first | exact trivial | rfl | refine And.intro ?_ ?_) ?_; conv => whnf)
    | (refine And.intro (by first | decide | omega) ?_; conv => whnf)
    | fail
  refine CallP.heap (l2Draw_ret c at_ 0 _ hc hl ha ha2) rfl (by repeat' first | exact trivial | rfl | exact leafI (by first | rfl | omega | (simp (disch := omega) only [Int.reduceToNat, IntKind.bits, Nat.min_eq_left, Int.reducePow, IntWalk.i64_in, IntWalk.rem_in, IntWalk.i64_quo, IntWalk.u8_in, IntWalk.u32_in, IntWalk.u64_in]; done) | (simp (disch := omega) only [Int.reduceToNat, IntKind.bits, Nat.min_eq_left, Int.reducePow, IntWalk.i64_in, IntWalk.rem_in, IntWalk.i64_quo, IntWalk.u8_in, IntWalk.u32_in, IntWalk.u64_in]; omega)) | refine And.intro ?_ ?_) rfl ?_
  rintro r ho m ⟨l, a, rfl, rfl, rfl, hll, ha3, ha4, hlr⟩
  conv => whnf
  repeat' first
    | (refine CondP.yes ?_; conv => whnf)
    | (refine CondP.not ?_; conv => whnf)
    | ((first | refine CondP.dec (fun h => ?_) (fun h => ?_) | refine CondP.ndec (fun h => ?_) (fun h => ?_)) <;> first | (exfalso; first | omega | exact h (by assumption) | exact absurd h (by assumption)) | (conv => whnf))
    | (refine Both.mk ?_ ?_ <;> (conv => whnf))
    | (refine Keep.mk (by repeat' first | exact trivial | rfl | refine And.intro ?_ ?_) ?_; conv => whnf)
    | (refine And.intro (by first | decide | omega) ?_; conv => whnf)
    | fail
  have hb := nextF_bd c a 12 (by decide)
  refine CallP.heapIs (l1Next_ret c a 12 0 _ hc hl (by omega) (by omega) (by decide)) rfl (by repeat' first | exact trivial | rfl | exact leafI (by first | rfl | omega | (simp (disch := omega) only [Int.reduceToNat, IntKind.bits, Nat.min_eq_left, Int.reducePow, IntWalk.i64_in, IntWalk.rem_in, IntWalk.i64_quo, IntWalk.u8_in, IntWalk.u32_in, IntWalk.u64_in]; done) | (simp (disch := omega) only [Int.reduceToNat, IntKind.bits, Nat.min_eq_left, Int.reducePow, IntWalk.i64_in, IntWalk.rem_in, IntWalk.i64_quo, IntWalk.u8_in, IntWalk.u32_in, IntWalk.u64_in]; omega)) | refine And.intro ?_ ?_) rfl ?_
  conv => whnf
  repeat' first
    | (refine CondP.yes ?_; conv => whnf)
    | (refine CondP.not ?_; conv => whnf)
    | ((first | refine CondP.dec (fun h => ?_) (fun h => ?_) | refine CondP.ndec (fun h => ?_) (fun h => ?_)) <;> first | (exfalso; first | omega | exact h (by assumption) | exact absurd h (by assumption)) | (conv => whnf))
    | (refine Both.mk ?_ ?_ <;> (conv => whnf))
    | (refine Keep.mk (by repeat' first | exact trivial | rfl | refine And.intro ?_ ?_) ?_; conv => whnf)
    | (refine And.intro (by first | decide | omega) ?_; conv => whnf)
    | fail
  · refine CallP.heapIs (l1Pick_ret c (a + 1) [0, 10, 99, 1100] 0 2 _ (by decide) hc hl (by omega) (by omega) (by simp) (by simp)) rfl (by repeat' first | exact trivial | rfl | exact leafI (by first | rfl | omega | (simp (disch := omega) only [Int.reduceToNat, IntKind.bits, Nat.min_eq_left, Int.reducePow, IntWalk.i64_in, IntWalk.rem_in, IntWalk.i64_quo, IntWalk.u8_in, IntWalk.u32_in, IntWalk.u64_in]; done) | (simp (disch := omega) only [Int.reduceToNat, IntKind.bits, Nat.min_eq_left, Int.reducePow, IntWalk.i64_in, IntWalk.rem_in, IntWalk.i64_quo, IntWalk.u8_in, IntWalk.u32_in, IntWalk.u64_in]; omega)) | refine And.intro ?_ ?_) rfl ?_
    conv => whnf
    repeat' first
      | (refine CondP.yes ?_; conv => whnf)
      | (refine CondP.not ?_; conv => whnf)
      | ((first | refine CondP.dec (fun h => ?_) (fun h => ?_) | refine CondP.ndec (fun h => ?_) (fun h => ?_)) <;> first | (exfalso; first | omega | exact h (by assumption) | exact absurd h (by assumption)) | (conv => whnf))
      | (refine Both.mk ?_ ?_ <;> (conv => whnf))
      | (refine Keep.mk (by repeat' first | exact trivial | rfl | refine And.intro ?_ ?_) ?_; conv => whnf)
      | (refine And.intro (by first | decide | omega) ?_; conv => whnf)
      | fail
    refine ⟨⟨by (first | exact True.intro | omega | (simp only [List.length_map, List.length_take, List.length_drop, List.length_append, List.length_set, List.length_replicate, List.length_cons, List.length_nil, four_len, fours_len, maxLen] at *; omega)), by (first | exact True.intro | omega | (simp only [List.length_map, List.length_take, List.length_drop, List.length_append, List.length_set, List.length_replicate, List.length_cons, List.length_nil, four_len, fours_len, maxLen] at *; omega)), by (first | exact True.intro | omega | (simp only [List.length_map, List.length_take, List.length_drop, List.length_append, List.length_set, List.length_replicate, List.length_cons, List.length_nil, four_len, fours_len, maxLen] at *; omega)), by (first | exact True.intro | omega | (simp only [List.length_map, List.length_take, List.length_drop, List.length_append, List.length_set, List.length_replicate, List.length_cons, List.length_nil, four_len, fours_len, maxLen] at *; omega)), by (first | (intro r hr; first | exact row1 hr | exact row1 (List.mem_of_mem_take hr)) | (refine rowsB_ok ?_; rfl))⟩, ?_⟩
    conv => whnf
    repeat' first
      | (refine CondP.yes ?_; conv => whnf)
      | (refine CondP.not ?_; conv => whnf)
      | ((first | refine CondP.dec (fun h => ?_) (fun h => ?_) | refine CondP.ndec (fun h => ?_) (fun h => ?_)) <;> first | (exfalso; first | omega | exact h (by assumption) | exact absurd h (by assumption)) | (conv => whnf))
      | (refine Both.mk ?_ ?_ <;> (conv => whnf))
      | (refine Keep.mk (by repeat' first | exact trivial | rfl | refine And.intro ?_ ?_) ?_; conv => whnf)
      | (refine And.intro (by first | decide | omega) ?_; conv => whnf)
      | fail
    have hvr := pickF_in c (a + 1) 0 1100 [0, 10, 99, 1100] (by simp) rfl
    generalize pickF c (a + 1) [0, 10, 99, 1100] = v at *
    refine FinOk.mk' [1] rfl rfl rfl rfl rfl rfl rfl ⟨l ++ [v], a + 1 + 1, ?_, ?_, rfl, by simp; omega, by omega, by omega, fun z hz => (List.mem_append.1 hz).elim (hlr z) (fun h' => by rw [List.mem_singleton.1 h']; exact ⟨by omega, by omega⟩)⟩
    · show AV.own n (l.length + 1) = _
      simp
    · show [(i, AObj.box [ul c, iv (a + 1 + 1)]), (n, AObj.list 2 1 (List.take l.length (ivs l) ++ [[iv v]]))] = _
      rw [takeI]; simp
  · exact FinOk.mk' [2] rfl rfl rfl rfl rfl rfl rfl ⟨List.replicate 13 0, a + 1, rfl, rfl, rfl, by simp, by omega, by omega, fun z hz => by rw [List.eq_of_mem_replicate hz]; exact ⟨by decide, by decide⟩⟩
  · exact FinOk.mk' [1] rfl rfl rfl rfl rfl rfl rfl ⟨l, a + 1, rfl, rfl, rfl, by omega, by omega, by omega, hlr⟩
theorem l2Draw_fr (c : List Int) (at_ : Int) (i n : Nat) (hc : ∀ z ∈ c, isU8 z) (hl : c.length ≤ 1048576) (ha : 0 ≤ at_) (ha2 : at_ ≤ 100) :
    Ret Try.prog 110 [.pt i 0 0] [(i, .box [ul c, iv at_])] n true (fun r ho k => ∃ (l : List Int) (a : Int), r = il l ∧ ho = [(i, .box [ul c, iv a])] ∧ k = n ∧ l.length ≤ 7 ∧ at_ ≤ a ∧ a ≤ at_ + 20 ∧ ∀ z ∈ l, inR 0 65535 z) := by
  refine Ret.frBox (fun hin => ?_) (l2Draw_ret c at_ i n hc hl ha ha2)
  rintro _ _ _ ⟨l, a, rfl, rfl, rfl, h1, h2, h3, h4⟩
  exact ⟨il l, _, frCellH (look_cons_ne _ _ (by omega)) ((look_cons_ne _ _ (by omega)).trans (look_cons_eq _ _ _)) (by simp), look_cons_eq _ _ _, rfl, l, a, rfl, rfl, rfl, h1, h2, h3, h4⟩
theorem l2Bent_fr (c : List Int) (at_ : Int) (i n : Nat) (hc : ∀ z ∈ c, isU8 z) (hl : c.length ≤ 1048576) (ha : 0 ≤ at_) (ha2 : at_ ≤ 100) :
    Ret Try.prog 123 [.pt i 0 0] [(i, .box [ul c, iv at_])] n true (fun r ho k => ∃ (l : List Int) (a : Int), r = il l ∧ ho = [(i, .box [ul c, iv a])] ∧ k = n ∧ l.length ≤ 13 ∧ at_ ≤ a ∧ a ≤ at_ + 30 ∧ ∀ z ∈ l, inR 0 65535 z) := by
  refine Ret.frBox (fun hin => ?_) (l2Bent_ret c at_ i n hc hl ha ha2)
  rintro _ _ _ ⟨l, a, rfl, rfl, rfl, h1, h2, h3, h4⟩
  exact ⟨il l, _, frCellH (look_cons_ne _ _ (by omega)) ((look_cons_ne _ _ (by omega)).trans (look_cons_eq _ _ _)) (by simp), look_cons_eq _ _ _, rfl, l, a, rfl, rfl, rfl, h1, h2, h3, h4⟩
end Go.Proofs.Ytbghcndemghilaa
