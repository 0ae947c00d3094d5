/-
  CHAPTER 4: the laws FnBranches and FnTwins.
-/
import Derived.Test.YtbghcndemghilaaP38
import Derived.Test.YtbghcndemghilaaL7
namespace Go.Proofs.Ytbghcndemghilaa
open Go Go.Am Go.RowKit
set_option linter.unusedVariables false
set_option linter.unusedSimpArgs false
theorem l4Draw_fr (c : List Int) (at_ : Int) (i n : Nat) (hc : ∀ z ∈ c, isU8 z) (hl : c.length ≤ 1048576) (ha : 0 ≤ at_) (ha2 : at_ ≤ 100) :
    Ret Try.prog 84 [.pt i 0 0] [(i, .box [ul c, iv at_])] n true (fun r ho k => ∃ (l : List Int) (a : Int), r = il l ∧ ho = [(i, .box [ul c, iv a])] ∧ k = n ∧ l.length ≤ 9 ∧ at_ ≤ a ∧ a ≤ at_ + 30 ∧ ∀ z ∈ l, inD z) := by
  refine Ret.frBox (fun hin => ?_) (l4Draw_ret c at_ i n hc hl ha ha2)
  rintro r ho m ⟨l, a, rfl, rfl, rfl, h1, h2, h3, h4⟩
  exact ⟨il l, [ul c, iv a], .cell (fun _ e => by cases e) (fun _ e => by cases e) (frOwnH (look_cons_ne _ _ (by omega)) ((look_cons_ne _ _ (by omega)).trans (look_cons_eq _ _ _)) (by simp)), look_cons_eq _ _ _, rfl, l, a, rfl, rfl, rfl, h1, h2, h3, h4⟩
theorem drawBranchOf_fr (c : List Int) (n : Nat) (hc : ∀ z ∈ c, isU8 z) (hl : c.length ≤ 1048576) :
    Ret Try.prog 28 [ul c] [] n true (fun r ho k => ∃ (l : List Int) (u : Int), r = .tup [il l, iv u] ∧ ho = [] ∧ k = n ∧ l.length ≤ 9 ∧ -1 ≤ u ∧ u ≤ 20) := by
  refine Ret.fn ttOk Try.func28 rfl Try.call28 rfl rfl ?_
  conv => whnf
  repeat' first
    | (refine CondP.yes ?_; conv => whnf)
    | (refine CondP.not ?_; conv => whnf)
    | ((first | refine CondP.dec (fun h => ?_) (fun h => ?_) | refine CondP.ndec (fun h => ?_) (fun h => ?_)) <;> first | (exfalso; first | omega | exact h (by assumption) | exact absurd h (by assumption)) | (conv => whnf))
    | (refine Both.mk ?_ ?_ <;> (conv => whnf))
    | (refine Keep.mk (by repeat' first | exact trivial | rfl | refine And.intro ?_ ?_) ?_; conv => whnf)
    | (refine And.intro (by first | decide | omega) ?_; conv => whnf)
    | fail
  refine CallP.is (l1Source_ret c _) rfl ?_
  conv => whnf
  repeat' first
    | (refine CondP.yes ?_; conv => whnf)
    | (refine CondP.not ?_; conv => whnf)
    | ((first | refine CondP.dec (fun h => ?_) (fun h => ?_) | refine CondP.ndec (fun h => ?_) (fun h => ?_)) <;> first | (exfalso; first | omega | exact h (by assumption) | exact absurd h (by assumption)) | (conv => whnf))
    | (refine Both.mk ?_ ?_ <;> (conv => whnf))
    | (refine Keep.mk (by repeat' first | exact trivial | rfl | refine And.intro ?_ ?_) ?_; conv => whnf)
    | (refine And.intro (by first | decide | omega) ?_; conv => whnf)
    | fail
  refine CallP.heap (l4Draw_fr c 0 0 _ hc hl (by omega) (by omega)) rfl (by repeat' first | exact trivial | rfl | exact leafI (by first | rfl | omega | (simp (disch := omega) only [Int.reduceToNat, IntKind.bits, Nat.min_eq_left, Int.reducePow, IntWalk.i64_in, IntWalk.rem_in, IntWalk.i64_quo, IntWalk.u8_in, IntWalk.u32_in, IntWalk.u64_in]; done) | (simp (disch := omega) only [Int.reduceToNat, IntKind.bits, Nat.min_eq_left, Int.reducePow, IntWalk.i64_in, IntWalk.rem_in, IntWalk.i64_quo, IntWalk.u8_in, IntWalk.u32_in, IntWalk.u64_in]; omega)) | refine And.intro ?_ ?_) rfl ?_
  rintro r ho m ⟨l, a, rfl, rfl, rfl, h1, h2, h3, h4⟩
  have hL : (ivs l).length = l.length := by simp
  conv => whnf
  repeat' first
    | (refine CondP.yes ?_; conv => whnf)
    | (refine CondP.not ?_; conv => whnf)
    | ((first | refine CondP.dec (fun h => ?_) (fun h => ?_) | refine CondP.ndec (fun h => ?_) (fun h => ?_)) <;> first | (exfalso; first | omega | exact h (by assumption) | exact absurd h (by assumption)) | (conv => whnf))
    | (refine Both.mk ?_ ?_ <;> (conv => whnf))
    | (refine Keep.mk (by repeat' first | exact trivial | rfl | refine And.intro ?_ ?_) ?_; conv => whnf)
    | (refine And.intro (by first | decide | omega) ?_; conv => whnf)
    | fail
  have e1 : IntKind.i64.wrap (((ivs l).length : Int) + 2) = (l.length : Int) + 2 := by rw [hL]; exact IntWalk.i64_in _ (by omega)
  rw [e1]
  have hb := nextF_bd c a ((l.length : Int) + 2) (by omega)
  refine CallP.heapIs (l1Next_ret c a ((l.length : Int) + 2) 0 _ hc hl (by omega) (by omega) (by omega)) rfl (by repeat' first | exact trivial | rfl | exact leafI (by first | rfl | omega | (simp (disch := omega) only [Int.reduceToNat, IntKind.bits, Nat.min_eq_left, Int.reducePow, IntWalk.i64_in, IntWalk.rem_in, IntWalk.i64_quo, IntWalk.u8_in, IntWalk.u32_in, IntWalk.u64_in]; done) | (simp (disch := omega) only [Int.reduceToNat, IntKind.bits, Nat.min_eq_left, Int.reducePow, IntWalk.i64_in, IntWalk.rem_in, IntWalk.i64_quo, IntWalk.u8_in, IntWalk.u32_in, IntWalk.u64_in]; omega)) | refine And.intro ?_ ?_) rfl ?_
  conv => whnf
  repeat' first
    | (refine CondP.yes ?_; conv => whnf)
    | (refine CondP.not ?_; conv => whnf)
    | ((first | refine CondP.dec (fun h => ?_) (fun h => ?_) | refine CondP.ndec (fun h => ?_) (fun h => ?_)) <;> first | (exfalso; first | omega | exact h (by assumption) | exact absurd h (by assumption)) | (conv => whnf))
    | (refine Both.mk ?_ ?_ <;> (conv => whnf))
    | (refine Keep.mk (by repeat' first | exact trivial | rfl | refine And.intro ?_ ?_) ?_; conv => whnf)
    | (refine And.intro (by first | decide | omega) ?_; conv => whnf)
    | fail
  exact FinOk.mk' [] rfl rfl rfl rfl rfl rfl rfl ⟨l, _, rfl, rfl, rfl, h1, by rw [IntWalk.i64_in _ (by omega)]; omega, by rw [IntWalk.i64_in _ (by omega)]; omega⟩
theorem drawHasTwin_fr (c : List Int) (n : Nat) (hc : ∀ z ∈ c, isU8 z) (hl : c.length ≤ 1048576) :
    Ret Try.prog 36 [ul c] [] n true (fun r ho k => ∃ (l : List Int), r = il l ∧ ho = [] ∧ k = n ∧ l.length ≤ 9) := by
  refine Ret.fn ttOk Try.func36 rfl Try.call36 rfl rfl ?_
  conv => whnf
  repeat' first
    | (refine CondP.yes ?_; conv => whnf)
    | (refine CondP.not ?_; conv => whnf)
    | ((first | refine CondP.dec (fun h => ?_) (fun h => ?_) | refine CondP.ndec (fun h => ?_) (fun h => ?_)) <;> first | (exfalso; first | omega | exact h (by assumption) | exact absurd h (by assumption)) | (conv => whnf))
    | (refine Both.mk ?_ ?_ <;> (conv => whnf))
    | (refine Keep.mk (by repeat' first | exact trivial | rfl | refine And.intro ?_ ?_) ?_; conv => whnf)
    | (refine And.intro (by first | decide | omega) ?_; conv => whnf)
    | fail
  refine CallP.is (l1Source_ret c _) rfl ?_
  conv => whnf
  repeat' first
    | (refine CondP.yes ?_; conv => whnf)
    | (refine CondP.not ?_; conv => whnf)
    | ((first | refine CondP.dec (fun h => ?_) (fun h => ?_) | refine CondP.ndec (fun h => ?_) (fun h => ?_)) <;> first | (exfalso; first | omega | exact h (by assumption) | exact absurd h (by assumption)) | (conv => whnf))
    | (refine Both.mk ?_ ?_ <;> (conv => whnf))
    | (refine Keep.mk (by repeat' first | exact trivial | rfl | refine And.intro ?_ ?_) ?_; conv => whnf)
    | (refine And.intro (by first | decide | omega) ?_; conv => whnf)
    | fail
  refine CallP.heap (l4Draw_fr c 0 0 _ hc hl (by omega) (by omega)) rfl (by repeat' first | exact trivial | rfl | exact leafI (by first | rfl | omega | (simp (disch := omega) only [Int.reduceToNat, IntKind.bits, Nat.min_eq_left, Int.reducePow, IntWalk.i64_in, IntWalk.rem_in, IntWalk.i64_quo, IntWalk.u8_in, IntWalk.u32_in, IntWalk.u64_in]; done) | (simp (disch := omega) only [Int.reduceToNat, IntKind.bits, Nat.min_eq_left, Int.reducePow, IntWalk.i64_in, IntWalk.rem_in, IntWalk.i64_quo, IntWalk.u8_in, IntWalk.u32_in, IntWalk.u64_in]; omega)) | refine And.intro ?_ ?_) rfl ?_
  rintro r ho m ⟨l, a, rfl, rfl, rfl, h1, h2, h3, h4⟩
  conv => whnf
  repeat' first
    | (refine CondP.yes ?_; conv => whnf)
    | (refine CondP.not ?_; conv => whnf)
    | ((first | refine CondP.dec (fun h => ?_) (fun h => ?_) | refine CondP.ndec (fun h => ?_) (fun h => ?_)) <;> first | (exfalso; first | omega | exact h (by assumption) | exact absurd h (by assumption)) | (conv => whnf))
    | (refine Both.mk ?_ ?_ <;> (conv => whnf))
    | (refine Keep.mk (by repeat' first | exact trivial | rfl | refine And.intro ?_ ?_) ?_; conv => whnf)
    | (refine And.intro (by first | decide | omega) ?_; conv => whnf)
    | fail
  exact FinOk.mk' [] rfl rfl rfl rfl rfl rfl rfl ⟨l, rfl, rfl, rfl, h1⟩
theorem drawJoinSums_ret (c : List Int) (n : Nat) (hc : ∀ z ∈ c, isU8 z) (hl : c.length ≤ 1048576) :
    Ret Try.prog 38 [ul c] [] n true (Is (.tup [iv (pickF c 0 [7, 2147483646, 2147483647]), iv (pickF c 1 [0, 7, -1])]) [] n) := by
  refine Ret.fn ttOk Try.func38 rfl Try.call38 rfl rfl ?_
  conv => whnf
  repeat' first
    | (refine CondP.yes ?_; conv => whnf)
    | (refine CondP.not ?_; conv => whnf)
    | ((first | refine CondP.dec (fun h => ?_) (fun h => ?_) | refine CondP.ndec (fun h => ?_) (fun h => ?_)) <;> first | (exfalso; first | omega | exact h (by assumption) | exact absurd h (by assumption)) | (conv => whnf))
    | (refine Both.mk ?_ ?_ <;> (conv => whnf))
    | (refine Keep.mk (by repeat' first | exact trivial | rfl | refine And.intro ?_ ?_) ?_; conv => whnf)
    | (refine And.intro (by first | decide | omega) ?_; conv => whnf)
    | fail
  refine CallP.is (l1Source_ret c _) rfl ?_
  conv => whnf
  repeat' first
    | (refine CondP.yes ?_; conv => whnf)
    | (refine CondP.not ?_; conv => whnf)
    | ((first | refine CondP.dec (fun h => ?_) (fun h => ?_) | refine CondP.ndec (fun h => ?_) (fun h => ?_)) <;> first | (exfalso; first | omega | exact h (by assumption) | exact absurd h (by assumption)) | (conv => whnf))
    | (refine Both.mk ?_ ?_ <;> (conv => whnf))
    | (refine Keep.mk (by repeat' first | exact trivial | rfl | refine And.intro ?_ ?_) ?_; conv => whnf)
    | (refine And.intro (by first | decide | omega) ?_; conv => whnf)
    | fail
  refine CallP.heapIs (l1Pick_ret c 0 [7, 2147483646, 2147483647] 0 1 _ (by decide) hc hl (by decide) (by decide) (by simp) (by simp)) rfl (by repeat' first | exact trivial | rfl | exact leafI (by first | rfl | omega | (simp (disch := omega) only [Int.reduceToNat, IntKind.bits, Nat.min_eq_left, Int.reducePow, IntWalk.i64_in, IntWalk.rem_in, IntWalk.i64_quo, IntWalk.u8_in, IntWalk.u32_in, IntWalk.u64_in]; done) | (simp (disch := omega) only [Int.reduceToNat, IntKind.bits, Nat.min_eq_left, Int.reducePow, IntWalk.i64_in, IntWalk.rem_in, IntWalk.i64_quo, IntWalk.u8_in, IntWalk.u32_in, IntWalk.u64_in]; omega)) | refine And.intro ?_ ?_) rfl ?_
  conv => whnf
  repeat' first
    | (refine CondP.yes ?_; conv => whnf)
    | (refine CondP.not ?_; conv => whnf)
    | ((first | refine CondP.dec (fun h => ?_) (fun h => ?_) | refine CondP.ndec (fun h => ?_) (fun h => ?_)) <;> first | (exfalso; first | omega | exact h (by assumption) | exact absurd h (by assumption)) | (conv => whnf))
    | (refine Both.mk ?_ ?_ <;> (conv => whnf))
    | (refine Keep.mk (by repeat' first | exact trivial | rfl | refine And.intro ?_ ?_) ?_; conv => whnf)
    | (refine And.intro (by first | decide | omega) ?_; conv => whnf)
    | fail
  refine CallP.heapIs (l1Pick_ret c 1 [0, 7, -1] 0 2 _ (by decide) hc hl (by decide) (by decide) (by simp) (by simp)) rfl (by repeat' first | exact trivial | rfl | exact leafI (by first | rfl | omega | (simp (disch := omega) only [Int.reduceToNat, IntKind.bits, Nat.min_eq_left, Int.reducePow, IntWalk.i64_in, IntWalk.rem_in, IntWalk.i64_quo, IntWalk.u8_in, IntWalk.u32_in, IntWalk.u64_in]; done) | (simp (disch := omega) only [Int.reduceToNat, IntKind.bits, Nat.min_eq_left, Int.reducePow, IntWalk.i64_in, IntWalk.rem_in, IntWalk.i64_quo, IntWalk.u8_in, IntWalk.u32_in, IntWalk.u64_in]; omega)) | refine And.intro ?_ ?_) rfl ?_
  conv => whnf
  repeat' first
    | (refine CondP.yes ?_; conv => whnf)
    | (refine CondP.not ?_; conv => whnf)
    | ((first | refine CondP.dec (fun h => ?_) (fun h => ?_) | refine CondP.ndec (fun h => ?_) (fun h => ?_)) <;> first | (exfalso; first | omega | exact h (by assumption) | exact absurd h (by assumption)) | (conv => whnf))
    | (refine Both.mk ?_ ?_ <;> (conv => whnf))
    | (refine Keep.mk (by repeat' first | exact trivial | rfl | refine And.intro ?_ ?_) ?_; conv => whnf)
    | (refine And.intro (by first | decide | omega) ?_; conv => whnf)
    | fail
  exact FinOk.mk' [] rfl rfl rfl rfl rfl rfl rfl ⟨rfl, rfl, rfl⟩
theorem drawClimbOf_fr (c : List Int) (n : Nat) (hc : ∀ z ∈ c, isU8 z) (hl : c.length ≤ 1048576) :
    Ret Try.prog 30 [ul c] [] n true (fun r ho k => ∃ (l : List Int) (x u : Int), r = .tup [iv x, iv u, il l] ∧ ho = [] ∧ k = n ∧ l.length ≤ 9) := by
  refine Ret.fn ttOk Try.func30 rfl Try.call30 rfl rfl ?_
  conv => whnf
  repeat' first
    | (refine CondP.yes ?_; conv => whnf)
    | (refine CondP.not ?_; conv => whnf)
    | ((first | refine CondP.dec (fun h => ?_) (fun h => ?_) | refine CondP.ndec (fun h => ?_) (fun h => ?_)) <;> first | (exfalso; first | omega | exact h (by assumption) | exact absurd h (by assumption)) | (conv => whnf))
    | (refine Both.mk ?_ ?_ <;> (conv => whnf))
    | (refine Keep.mk (by repeat' first | exact trivial | rfl | refine And.intro ?_ ?_) ?_; conv => whnf)
    | (refine And.intro (by first | decide | omega) ?_; conv => whnf)
    | fail
  refine CallP.is (l1Source_ret c _) rfl ?_
  conv => whnf
  repeat' first
    | (refine CondP.yes ?_; conv => whnf)
    | (refine CondP.not ?_; conv => whnf)
    | ((first | refine CondP.dec (fun h => ?_) (fun h => ?_) | refine CondP.ndec (fun h => ?_) (fun h => ?_)) <;> first | (exfalso; first | omega | exact h (by assumption) | exact absurd h (by assumption)) | (conv => whnf))
    | (refine Both.mk ?_ ?_ <;> (conv => whnf))
    | (refine Keep.mk (by repeat' first | exact trivial | rfl | refine And.intro ?_ ?_) ?_; conv => whnf)
    | (refine And.intro (by first | decide | omega) ?_; conv => whnf)
    | fail
  refine CallP.heapIs (l1Pick_ret c 0 [7, 2147483646, -1, 5] 0 1 _ (by decide) hc hl (by decide) (by decide) (by simp) (by simp)) rfl (by repeat' first | exact trivial | rfl | exact leafI (by first | rfl | omega | (simp (disch := omega) only [Int.reduceToNat, IntKind.bits, Nat.min_eq_left, Int.reducePow, IntWalk.i64_in, IntWalk.rem_in, IntWalk.i64_quo, IntWalk.u8_in, IntWalk.u32_in, IntWalk.u64_in]; done) | (simp (disch := omega) only [Int.reduceToNat, IntKind.bits, Nat.min_eq_left, Int.reducePow, IntWalk.i64_in, IntWalk.rem_in, IntWalk.i64_quo, IntWalk.u8_in, IntWalk.u32_in, IntWalk.u64_in]; omega)) | refine And.intro ?_ ?_) rfl ?_
  conv => whnf
  repeat' first
    | (refine CondP.yes ?_; conv => whnf)
    | (refine CondP.not ?_; conv => whnf)
    | ((first | refine CondP.dec (fun h => ?_) (fun h => ?_) | refine CondP.ndec (fun h => ?_) (fun h => ?_)) <;> first | (exfalso; first | omega | exact h (by assumption) | exact absurd h (by assumption)) | (conv => whnf))
    | (refine Both.mk ?_ ?_ <;> (conv => whnf))
    | (refine Keep.mk (by repeat' first | exact trivial | rfl | refine And.intro ?_ ?_) ?_; conv => whnf)
    | (refine And.intro (by first | decide | omega) ?_; conv => whnf)
    | fail
  refine CallP.heapIs (l1Pick_ret c 1 [0, 3, 255, 256] 0 2 _ (by decide) hc hl (by decide) (by decide) (by simp) (by simp)) rfl (by repeat' first | exact trivial | rfl | exact leafI (by first | rfl | omega | (simp (disch := omega) only [Int.reduceToNat, IntKind.bits, Nat.min_eq_left, Int.reducePow, IntWalk.i64_in, IntWalk.rem_in, IntWalk.i64_quo, IntWalk.u8_in, IntWalk.u32_in, IntWalk.u64_in]; done) | (simp (disch := omega) only [Int.reduceToNat, IntKind.bits, Nat.min_eq_left, Int.reducePow, IntWalk.i64_in, IntWalk.rem_in, IntWalk.i64_quo, IntWalk.u8_in, IntWalk.u32_in, IntWalk.u64_in]; omega)) | refine And.intro ?_ ?_) rfl ?_
  conv => whnf
  repeat' first
    | (refine CondP.yes ?_; conv => whnf)
    | (refine CondP.not ?_; conv => whnf)
    | ((first | refine CondP.dec (fun h => ?_) (fun h => ?_) | refine CondP.ndec (fun h => ?_) (fun h => ?_)) <;> first | (exfalso; first | omega | exact h (by assumption) | exact absurd h (by assumption)) | (conv => whnf))
    | (refine Both.mk ?_ ?_ <;> (conv => whnf))
    | (refine Keep.mk (by repeat' first | exact trivial | rfl | refine And.intro ?_ ?_) ?_; conv => whnf)
    | (refine And.intro (by first | decide | omega) ?_; conv => whnf)
    | fail
  refine CallP.heap (l4Draw_fr c 2 0 _ hc hl (by omega) (by omega)) rfl (by repeat' first | exact trivial | rfl | exact leafI (by first | rfl | omega | (simp (disch := omega) only [Int.reduceToNat, IntKind.bits, Nat.min_eq_left, Int.reducePow, IntWalk.i64_in, IntWalk.rem_in, IntWalk.i64_quo, IntWalk.u8_in, IntWalk.u32_in, IntWalk.u64_in]; done) | (simp (disch := omega) only [Int.reduceToNat, IntKind.bits, Nat.min_eq_left, Int.reducePow, IntWalk.i64_in, IntWalk.rem_in, IntWalk.i64_quo, IntWalk.u8_in, IntWalk.u32_in, IntWalk.u64_in]; omega)) | refine And.intro ?_ ?_) rfl ?_
  rintro r ho m ⟨l, a, rfl, rfl, rfl, h1, h2, h3, h4⟩
  conv => whnf
  repeat' first
    | (refine CondP.yes ?_; conv => whnf)
    | (refine CondP.not ?_; conv => whnf)
    | ((first | refine CondP.dec (fun h => ?_) (fun h => ?_) | refine CondP.ndec (fun h => ?_) (fun h => ?_)) <;> first | (exfalso; first | omega | exact h (by assumption) | exact absurd h (by assumption)) | (conv => whnf))
    | (refine Both.mk ?_ ?_ <;> (conv => whnf))
    | (refine Keep.mk (by repeat' first | exact trivial | rfl | refine And.intro ?_ ?_) ?_; conv => whnf)
    | (refine And.intro (by first | decide | omega) ?_; conv => whnf)
    | fail
  exact FinOk.mk' [] rfl rfl rfl rfl rfl rfl rfl ⟨l, _, _, rfl, rfl, rfl, h1⟩
theorem implBranchOf_fr (l : List Int) (k n : Nat) (hc : branchC l k = 0) : Ret Try.prog 29 [il l, iv k] [] n true (Is (.agg [iv 0, il (brR (rowsW l) k)]) [] n) := by
  refine Ret.freeze (fun r ho m hq => ?_) (implBranchOf_ret l k n hc)
  obtain ⟨rfl, rfl, rfl⟩ := hq
  exact ⟨.agg [iv 0, il (brR (rowsW l) k)], .agg _ _ ⟨.refl _ rfl (fun _ e => by cases e), frOwn (look_cons_eq _ _ _) (by simp), trivial⟩, rfl, rfl, rfl⟩
theorem lawBranches (c : List Int) (n : Nat) (hc : ∀ z ∈ c, isU8 z) : Ret Try.prog 4 [ul c] [] n true (fun r _ _ => r = bv true) := by
  by_cases hl : c.length ≤ 1048576
  · have hbig := lwBig_ret c
    rw [decide_eq_false (show ¬ 1048576 < (c.length : Int) by omega)] at hbig
    refine Ret.fn ttOk Try.func4 rfl Try.call4 rfl rfl ?_
    conv => whnf
    repeat' first
      | (refine CondP.yes ?_; conv => whnf)
      | (refine CondP.not ?_; conv => whnf)
      | ((first | refine CondP.dec (fun h => ?_) (fun h => ?_) | refine CondP.ndec (fun h => ?_) (fun h => ?_)) <;> first | (exfalso; first | omega | exact h (by assumption) | exact absurd h (by assumption)) | (conv => whnf))
      | (refine Both.mk ?_ ?_ <;> (conv => whnf))
      | (refine Keep.mk (by repeat' first | exact trivial | rfl | refine And.intro ?_ ?_) ?_; conv => whnf)
      | (refine And.intro (by first | decide | omega) ?_; conv => whnf)
      | fail
    refine CallP.is (hbig _) rfl ?_
    conv => whnf
    repeat' first
      | (refine CondP.yes ?_; conv => whnf)
      | (refine CondP.not ?_; conv => whnf)
      | ((first | refine CondP.dec (fun h => ?_) (fun h => ?_) | refine CondP.ndec (fun h => ?_) (fun h => ?_)) <;> first | (exfalso; first | omega | exact h (by assumption) | exact absurd h (by assumption)) | (conv => whnf))
      | (refine Both.mk ?_ ?_ <;> (conv => whnf))
      | (refine Keep.mk (by repeat' first | exact trivial | rfl | refine And.intro ?_ ?_) ?_; conv => whnf)
      | (refine And.intro (by first | decide | omega) ?_; conv => whnf)
      | fail
    refine CallP.pure (drawBranchOf_fr c _ hc hl) rfl ?_
    rintro r ho m ⟨l, u, rfl, rfl, rfl, h9, hu1, hu2⟩
    have hL : (ivs l).length = l.length := by simp
    conv => whnf
    repeat' first
      | (refine CondP.yes ?_; conv => whnf)
      | (refine CondP.not ?_; conv => whnf)
      | ((first | refine CondP.dec (fun h => ?_) (fun h => ?_) | refine CondP.ndec (fun h => ?_) (fun h => ?_)) <;> first | (exfalso; first | omega | exact h (by assumption) | exact absurd h (by assumption)) | (conv => whnf))
      | (refine Both.mk ?_ ?_ <;> (conv => whnf))
      | (refine Keep.mk (by repeat' first | exact trivial | rfl | refine And.intro ?_ ?_) ?_; conv => whnf)
      | (refine And.intro (by first | decide | omega) ?_; conv => whnf)
      | fail
    by_cases hb : branchC l u = 0
    · obtain ⟨h0, j, rfl, hj⟩ := branchC_ok hb
      obtain ⟨l1, l8, ls⟩ := askC_ok.1 h0
      have hR : RowOk l := ⟨l1, l8, ls⟩
      refine CallP.is (implBranchOf_fr l j _ hb) rfl ?_
      conv => whnf
      repeat' first
        | (refine CondP.yes ?_; conv => whnf)
        | (refine CondP.not ?_; conv => whnf)
        | ((first | refine CondP.dec (fun h => ?_) (fun h => ?_) | refine CondP.ndec (fun h => ?_) (fun h => ?_)) <;> first | (exfalso; first | omega | exact h (by assumption) | exact absurd h (by assumption)) | (conv => whnf))
        | (refine Both.mk ?_ ?_ <;> (conv => whnf))
        | (refine Keep.mk (by repeat' first | exact trivial | rfl | refine And.intro ?_ ?_) ?_; conv => whnf)
        | (refine And.intro (by first | decide | omega) ?_; conv => whnf)
        | fail
      refine CallP.pure (drawClimbOf_fr c _ hc hl) rfl ?_
      rintro r ho m ⟨b, x, k, rfl, rfl, rfl, b9⟩
      obtain ⟨v, w, hs⟩ := climbR_two x k b
      have c1 := fun n => specClimbOf_ret x k b n (by omega)
      have c2 := fun n => implClimbOf_ret x k b n (by omega)
      rw [hs] at c1 c2
      have hup := climb_up l j hj
      have hbs := brR_sum (rowsW l) l j hR rfl hj
      have hbl : (brR (rowsW l) j).length ≤ 3 := by rw [brR_len]; exact (rowsW_len l l8).1
      have c3 := fun n => implClimbOf_ret (l.getD j 0) j (brR (rowsW l) j) n (by omega)
      have e3 : climbC (l.getD j 0) j (brR (rowsW l) j) = 0 := by
        rw [climbC, if_pos ⟨hR.at hj, by unfold inR; omega⟩, if_neg (by omega), if_pos ((allB_iff _ _ _).2 hbs)]
      rw [climbR, if_pos e3, Int.toNat_natCast, hup] at c3
      have c4 := fun n => specRootOf_ret l n (by omega)
      have c5 := fun n => implRootOf_ret l n (by omega)
      rw [rootR, if_pos h0] at c4 c5
      generalize brR (rowsW l) j = br at *
      conv => whnf
      repeat' first
        | (refine CondP.yes ?_; conv => whnf)
        | (refine CondP.not ?_; conv => whnf)
        | ((first | refine CondP.dec (fun h => ?_) (fun h => ?_) | refine CondP.ndec (fun h => ?_) (fun h => ?_)) <;> first | (exfalso; first | omega | exact h (by assumption) | exact absurd h (by assumption)) | (conv => whnf))
        | (refine Both.mk ?_ ?_ <;> (conv => whnf))
        | (refine Keep.mk (by repeat' first | exact trivial | rfl | refine And.intro ?_ ?_) ?_; conv => whnf)
        | (refine And.intro (by first | decide | omega) ?_; conv => whnf)
        | fail
      refine CallP.is (c2 _) rfl ?_
      conv => whnf
      repeat' first
        | (refine CondP.yes ?_; conv => whnf)
        | (refine CondP.not ?_; conv => whnf)
        | ((first | refine CondP.dec (fun h => ?_) (fun h => ?_) | refine CondP.ndec (fun h => ?_) (fun h => ?_)) <;> first | (exfalso; first | omega | exact h (by assumption) | exact absurd h (by assumption)) | (conv => whnf))
        | (refine Both.mk ?_ ?_ <;> (conv => whnf))
        | (refine Keep.mk (by repeat' first | exact trivial | rfl | refine And.intro ?_ ?_) ?_; conv => whnf)
        | (refine And.intro (by first | decide | omega) ?_; conv => whnf)
        | fail
      refine CallQ.is (c1 _) rfl rfl ?_
      conv => whnf
      repeat' first
        | (refine CondP.yes ?_; conv => whnf)
        | (refine CondP.not ?_; conv => whnf)
        | ((first | refine CondP.dec (fun h => ?_) (fun h => ?_) | refine CondP.ndec (fun h => ?_) (fun h => ?_)) <;> first | (exfalso; first | omega | exact h (by assumption) | exact absurd h (by assumption)) | (conv => whnf))
        | (refine Both.mk ?_ ?_ <;> (conv => whnf))
        | (refine Keep.mk (by repeat' first | exact trivial | rfl | refine And.intro ?_ ?_) ?_; conv => whnf)
        | (refine And.intro (by first | decide | omega) ?_; conv => whnf)
        | fail
      refine CallQ.is (c1 _) rfl rfl ?_
      conv => whnf
      repeat' first
        | (refine CondP.yes ?_; conv => whnf)
        | (refine CondP.not ?_; conv => whnf)
        | ((first | refine CondP.dec (fun h => ?_) (fun h => ?_) | refine CondP.ndec (fun h => ?_) (fun h => ?_)) <;> first | (exfalso; first | omega | exact h (by assumption) | exact absurd h (by assumption)) | (conv => whnf))
        | (refine Both.mk ?_ ?_ <;> (conv => whnf))
        | (refine Keep.mk (by repeat' first | exact trivial | rfl | refine And.intro ?_ ?_) ?_; conv => whnf)
        | (refine And.intro (by first | decide | omega) ?_; conv => whnf)
        | fail
      have hbr : (ivs br).length = br.length := by simp
      refine CallP.is (c5 _) rfl ?_
      conv => whnf
      repeat' first
        | (refine CondP.yes ?_; conv => whnf)
        | (refine CondP.not ?_; conv => whnf)
        | ((first | refine CondP.dec (fun h => ?_) (fun h => ?_) | refine CondP.ndec (fun h => ?_) (fun h => ?_)) <;> first | (exfalso; first | omega | exact h (by assumption) | exact absurd h (by assumption)) | (conv => whnf))
        | (refine Both.mk ?_ ?_ <;> (conv => whnf))
        | (refine Keep.mk (by repeat' first | exact trivial | rfl | refine And.intro ?_ ?_) ?_; conv => whnf)
        | (refine And.intro (by first | decide | omega) ?_; conv => whnf)
        | fail
      rw [rowK iv1 l j hj, ← getDat l hj]
      refine ⟨⟨by omega, by omega, rfl⟩, ?_⟩
      conv => whnf
      repeat' first
        | (refine CondP.yes ?_; conv => whnf)
        | (refine CondP.not ?_; conv => whnf)
        | ((first | refine CondP.dec (fun h => ?_) (fun h => ?_) | refine CondP.ndec (fun h => ?_) (fun h => ?_)) <;> first | (exfalso; first | omega | exact h (by assumption) | exact absurd h (by assumption)) | (conv => whnf))
        | (refine Both.mk ?_ ?_ <;> (conv => whnf))
        | (refine Keep.mk (by repeat' first | exact trivial | rfl | refine And.intro ?_ ?_) ?_; conv => whnf)
        | (refine And.intro (by first | decide | omega) ?_; conv => whnf)
        | fail
      refine CallN.is rfl (c3) ?_
      conv => whnf
      repeat' first
        | (refine CondP.yes ?_; conv => whnf)
        | (refine CondP.not ?_; conv => whnf)
        | ((first | refine CondP.dec (fun h => ?_) (fun h => ?_) | refine CondP.ndec (fun h => ?_) (fun h => ?_)) <;> first | (exfalso; first | omega | exact h (by assumption) | exact absurd h (by assumption)) | (conv => whnf))
        | (refine Both.mk ?_ ?_ <;> (conv => whnf))
        | (refine Keep.mk (by repeat' first | exact trivial | rfl | refine And.intro ?_ ?_) ?_; conv => whnf)
        | (refine And.intro (by first | decide | omega) ?_; conv => whnf)
        | fail
      refine CallQ.is (c4 _) rfl rfl ?_
      conv => whnf
      repeat' first
        | (refine CondP.yes ?_; conv => whnf)
        | (refine CondP.not ?_; conv => whnf)
        | ((first | refine CondP.dec (fun h => ?_) (fun h => ?_) | refine CondP.ndec (fun h => ?_) (fun h => ?_)) <;> first | (exfalso; first | omega | exact h (by assumption) | exact absurd h (by assumption)) | (conv => whnf))
        | (refine Both.mk ?_ ?_ <;> (conv => whnf))
        | (refine Keep.mk (by repeat' first | exact trivial | rfl | refine And.intro ?_ ?_) ?_; conv => whnf)
        | (refine And.intro (by first | decide | omega) ?_; conv => whnf)
        | fail
      exact FinOk.pure rfl rfl rfl (bvI (decide_eq_true (by omega)))
    · have hbl : l.length ≤ 1048576 := by omega
      have d1 := fun n => specBranchOf_no l u n hbl hb
      have d2 := fun n => implBranchOf_no l u n hbl hb
      obtain ⟨p, q, hs2⟩ := rootR_two l
      have c4 := fun n => specRootOf_ret l n (by omega)
      have c5 := fun n => implRootOf_ret l n (by omega)
      rw [hs2] at c4 c5
      generalize branchC l u = bc at *
      refine CallP.is (d2 _) rfl ?_
      conv => whnf
      repeat' first
        | (refine CondP.yes ?_; conv => whnf)
        | (refine CondP.not ?_; conv => whnf)
        | ((first | refine CondP.dec (fun h => ?_) (fun h => ?_) | refine CondP.ndec (fun h => ?_) (fun h => ?_)) <;> first | (exfalso; first | omega | exact h (by assumption) | exact absurd h (by assumption)) | (conv => whnf))
        | (refine Both.mk ?_ ?_ <;> (conv => whnf))
        | (refine Keep.mk (by repeat' first | exact trivial | rfl | refine And.intro ?_ ?_) ?_; conv => whnf)
        | (refine And.intro (by first | decide | omega) ?_; conv => whnf)
        | fail
      refine CallP.pure (drawClimbOf_fr c _ hc hl) rfl ?_
      rintro r ho m ⟨b, x, k, rfl, rfl, rfl, b9⟩
      obtain ⟨v, w, hs⟩ := climbR_two x k b
      have c1 := fun n => specClimbOf_ret x k b n (by omega)
      have c2 := fun n => implClimbOf_ret x k b n (by omega)
      rw [hs] at c1 c2
      conv => whnf
      repeat' first
        | (refine CondP.yes ?_; conv => whnf)
        | (refine CondP.not ?_; conv => whnf)
        | ((first | refine CondP.dec (fun h => ?_) (fun h => ?_) | refine CondP.ndec (fun h => ?_) (fun h => ?_)) <;> first | (exfalso; first | omega | exact h (by assumption) | exact absurd h (by assumption)) | (conv => whnf))
        | (refine Both.mk ?_ ?_ <;> (conv => whnf))
        | (refine Keep.mk (by repeat' first | exact trivial | rfl | refine And.intro ?_ ?_) ?_; conv => whnf)
        | (refine And.intro (by first | decide | omega) ?_; conv => whnf)
        | fail
      refine CallP.is (c2 _) rfl ?_
      conv => whnf
      repeat' first
        | (refine CondP.yes ?_; conv => whnf)
        | (refine CondP.not ?_; conv => whnf)
        | ((first | refine CondP.dec (fun h => ?_) (fun h => ?_) | refine CondP.ndec (fun h => ?_) (fun h => ?_)) <;> first | (exfalso; first | omega | exact h (by assumption) | exact absurd h (by assumption)) | (conv => whnf))
        | (refine Both.mk ?_ ?_ <;> (conv => whnf))
        | (refine Keep.mk (by repeat' first | exact trivial | rfl | refine And.intro ?_ ?_) ?_; conv => whnf)
        | (refine And.intro (by first | decide | omega) ?_; conv => whnf)
        | fail
      refine CallQ.is (c1 _) rfl rfl ?_
      conv => whnf
      repeat' first
        | (refine CondP.yes ?_; conv => whnf)
        | (refine CondP.not ?_; conv => whnf)
        | ((first | refine CondP.dec (fun h => ?_) (fun h => ?_) | refine CondP.ndec (fun h => ?_) (fun h => ?_)) <;> first | (exfalso; first | omega | exact h (by assumption) | exact absurd h (by assumption)) | (conv => whnf))
        | (refine Both.mk ?_ ?_ <;> (conv => whnf))
        | (refine Keep.mk (by repeat' first | exact trivial | rfl | refine And.intro ?_ ?_) ?_; conv => whnf)
        | (refine And.intro (by first | decide | omega) ?_; conv => whnf)
        | fail
      refine CallQ.is (c1 _) rfl rfl ?_
      conv => whnf
      repeat' first
        | (refine CondP.yes ?_; conv => whnf)
        | (refine CondP.not ?_; conv => whnf)
        | ((first | refine CondP.dec (fun h => ?_) (fun h => ?_) | refine CondP.ndec (fun h => ?_) (fun h => ?_)) <;> first | (exfalso; first | omega | exact h (by assumption) | exact absurd h (by assumption)) | (conv => whnf))
        | (refine Both.mk ?_ ?_ <;> (conv => whnf))
        | (refine Keep.mk (by repeat' first | exact trivial | rfl | refine And.intro ?_ ?_) ?_; conv => whnf)
        | (refine And.intro (by first | decide | omega) ?_; conv => whnf)
        | fail
      refine CallQ.is (d1 _) rfl rfl ?_
      conv => whnf
      repeat' first
        | (refine CondP.yes ?_; conv => whnf)
        | (refine CondP.not ?_; conv => whnf)
        | ((first | refine CondP.dec (fun h => ?_) (fun h => ?_) | refine CondP.ndec (fun h => ?_) (fun h => ?_)) <;> first | (exfalso; first | omega | exact h (by assumption) | exact absurd h (by assumption)) | (conv => whnf))
        | (refine Both.mk ?_ ?_ <;> (conv => whnf))
        | (refine Keep.mk (by repeat' first | exact trivial | rfl | refine And.intro ?_ ?_) ?_; conv => whnf)
        | (refine And.intro (by first | decide | omega) ?_; conv => whnf)
        | fail
      refine CallQ.is (c5 _) rfl rfl ?_
      conv => whnf
      repeat' first
        | (refine CondP.yes ?_; conv => whnf)
        | (refine CondP.not ?_; conv => whnf)
        | ((first | refine CondP.dec (fun h => ?_) (fun h => ?_) | refine CondP.ndec (fun h => ?_) (fun h => ?_)) <;> first | (exfalso; first | omega | exact h (by assumption) | exact absurd h (by assumption)) | (conv => whnf))
        | (refine Both.mk ?_ ?_ <;> (conv => whnf))
        | (refine Keep.mk (by repeat' first | exact trivial | rfl | refine And.intro ?_ ?_) ?_; conv => whnf)
        | (refine And.intro (by first | decide | omega) ?_; conv => whnf)
        | fail
      refine CallQ.is (c4 _) rfl rfl ?_
      conv => whnf
      repeat' first
        | (refine CondP.yes ?_; conv => whnf)
        | (refine CondP.not ?_; conv => whnf)
        | ((first | refine CondP.dec (fun h => ?_) (fun h => ?_) | refine CondP.ndec (fun h => ?_) (fun h => ?_)) <;> first | (exfalso; first | omega | exact h (by assumption) | exact absurd h (by assumption)) | (conv => whnf))
        | (refine Both.mk ?_ ?_ <;> (conv => whnf))
        | (refine Keep.mk (by repeat' first | exact trivial | rfl | refine And.intro ?_ ?_) ?_; conv => whnf)
        | (refine And.intro (by first | decide | omega) ?_; conv => whnf)
        | fail
      exact FinOk.pure rfl rfl rfl (bvI (decide_eq_true rfl))
  · have hbig := lwBig_ret c
    rw [decide_eq_true (show 1048576 < (c.length : Int) by omega)] at hbig
    refine Ret.fn ttOk Try.func4 rfl Try.call4 rfl rfl ?_
    conv => whnf
    repeat' first
      | (refine CondP.yes ?_; conv => whnf)
      | (refine CondP.not ?_; conv => whnf)
      | ((first | refine CondP.dec (fun h => ?_) (fun h => ?_) | refine CondP.ndec (fun h => ?_) (fun h => ?_)) <;> first | (exfalso; first | omega | exact h (by assumption) | exact absurd h (by assumption)) | (conv => whnf))
      | (refine Both.mk ?_ ?_ <;> (conv => whnf))
      | (refine Keep.mk (by repeat' first | exact trivial | rfl | refine And.intro ?_ ?_) ?_; conv => whnf)
      | (refine And.intro (by first | decide | omega) ?_; conv => whnf)
      | fail
    refine CallP.is (hbig _) rfl ?_
    conv => whnf
    repeat' first
      | (refine CondP.yes ?_; conv => whnf)
      | (refine CondP.not ?_; conv => whnf)
      | ((first | refine CondP.dec (fun h => ?_) (fun h => ?_) | refine CondP.ndec (fun h => ?_) (fun h => ?_)) <;> first | (exfalso; first | omega | exact h (by assumption) | exact absurd h (by assumption)) | (conv => whnf))
      | (refine Both.mk ?_ ?_ <;> (conv => whnf))
      | (refine Keep.mk (by repeat' first | exact trivial | rfl | refine And.intro ?_ ?_) ?_; conv => whnf)
      | (refine And.intro (by first | decide | omega) ?_; conv => whnf)
      | fail
    exact FinOk.pure rfl rfl rfl rfl
theorem above2 (a b : Int) : aboveF [a, b] = [joinF a b] := by simp [aboveF, abP, pairF, mateI, parN, List.range_succ]
theorem above3 (a b c : Int) : aboveF [a, b, c] = [joinF a b, joinF c c] := by simp [aboveF, abP, pairF, mateI, parN, List.range_succ]
theorem above4 (a b c d : Int) : aboveF [a, b, c, d] = [joinF a b, joinF c d] := by simp [aboveF, abP, pairF, mateI, parN, List.range_succ]
theorem above8 (a b c d e f g h : Int) : aboveF [a, b, c, d, e, f, g, h] = [joinF a b, joinF c d, joinF e f, joinF g h] := by simp [aboveF, abP, pairF, mateI, parN, List.range_succ]
theorem twin2 (a : Int) (h : askC [a, a] = 0) : twinR [a, a] = true := by
  rw [twinR, decide_eq_true h, rowsW_next (by simp), List.any_cons, twinB_true (i := 0) (by simp) rfl]; rfl
theorem twin4 (a b : Int) (h : askC [a, b, a, b] = 0) : twinR [a, b, a, b] = true := by
  rw [twinR, decide_eq_true h, rowsW_next (by simp), List.any_cons, above4, rowsW_next (by simp), List.any_cons, twinB_true (l := [joinF a b, joinF a b]) (i := 0) (by simp) rfl]; simp
theorem twin8 (a b c d : Int) (h : askC [a, b, c, d, a, b, c, d] = 0) : twinR [a, b, c, d, a, b, c, d] = true := by
  rw [twinR, decide_eq_true h, rowsW_next (by simp), List.any_cons, above8, rowsW_next (by simp), List.any_cons, above4, rowsW_next (by simp), List.any_cons, twinB_true (l := [joinF (joinF a b) (joinF c d), joinF (joinF a b) (joinF c d)]) (i := 0) (by simp) rfl]; simp
theorem twin3 (a b c : Int) (h : askC [a, b, c, c] = 0) : twinR [a, b, c, c] = true := by
  rw [twinR, decide_eq_true h, rowsW_next (by simp), List.any_cons, twinB_true (l := [a, b, c, c]) (i := 1) (by simp) rfl]; rfl
theorem root3 (a b c : Int) : topW [a, b, c, c] = topW [a, b, c] := by
  rw [topW_next (l := [a, b, c, c]) (by simp), topW_next (l := [a, b, c]) (by simp), above4, above3]
theorem shapes4 (l : List Int) (h1 : 1 ≤ l.length) (h4 : l.length ≤ 4) : (∃ x, l = [x]) ∨ (∃ x y, l = [x, y]) ∨ (∃ x y z, l = [x, y, z]) ∨ (∃ x y z w, l = [x, y, z, w]) := by
  match l, h1, h4 with
  | [x], _, _ => exact .inl ⟨x, rfl⟩
  | [x, y], _, _ => exact .inr (.inl ⟨x, y, rfl⟩)
  | [x, y, z], _, _ => exact .inr (.inr (.inl ⟨x, y, z, rfl⟩))
  | [x, y, z, w], _, _ => exact .inr (.inr (.inr ⟨x, y, z, w, rfl⟩))
  | _ :: _ :: _ :: _ :: _ :: r, _, h => simp at h
theorem ask_twice {l m : List Int} (h : askC l = 0) (hm : 1 ≤ m.length ∧ m.length ≤ 8) (hs : ∀ z ∈ m, z ∈ l) : askC m = 0 := askC_ok.2 ⟨hm.1, hm.2, fun z hz => (askC_ok.1 h).2.2 z (hs z hz)⟩
set_option maxHeartbeats 8000000 in
theorem lawTwins (c : List Int) (n : Nat) (hc : ∀ z ∈ c, isU8 z) : Ret Try.prog 5 [ul c] [] n true (fun r _ _ => r = bv true) := by
  by_cases hl : c.length ≤ 1048576
  · have hbig := lwBig_ret c
    rw [decide_eq_false (show ¬ 1048576 < (c.length : Int) by omega)] at hbig
    refine Ret.fn ttOk Try.func5 rfl Try.call5 rfl rfl ?_
    conv => whnf
    repeat' first
      | (refine CondP.yes ?_; conv => whnf)
      | (refine CondP.not ?_; conv => whnf)
      | ((first | refine CondP.dec (fun h => ?_) (fun h => ?_) | refine CondP.ndec (fun h => ?_) (fun h => ?_)) <;> first | (exfalso; first | omega | exact h (by assumption) | exact absurd h (by assumption)) | (conv => whnf))
      | (refine Both.mk ?_ ?_ <;> (conv => whnf))
      | (refine Keep.mk (by repeat' first | exact trivial | rfl | refine And.intro ?_ ?_) ?_; conv => whnf)
      | (refine And.intro (by first | decide | omega) ?_; conv => whnf)
      | fail
    refine CallP.is (hbig _) rfl ?_
    conv => whnf
    repeat' first
      | (refine CondP.yes ?_; conv => whnf)
      | (refine CondP.not ?_; conv => whnf)
      | ((first | refine CondP.dec (fun h => ?_) (fun h => ?_) | refine CondP.ndec (fun h => ?_) (fun h => ?_)) <;> first | (exfalso; first | omega | exact h (by assumption) | exact absurd h (by assumption)) | (conv => whnf))
      | (refine Both.mk ?_ ?_ <;> (conv => whnf))
      | (refine Keep.mk (by repeat' first | exact trivial | rfl | refine And.intro ?_ ?_) ?_; conv => whnf)
      | (refine And.intro (by first | decide | omega) ?_; conv => whnf)
      | fail
    refine CallP.pure (drawHasTwin_fr c _ hc hl) rfl ?_
    rintro r ho m ⟨l, rfl, rfl, rfl, h9⟩
    have hL : (ivs l).length = l.length := by simp
    have c1 := fun n => specHasTwin_ret l n (by omega)
    have c2 := fun n => implHasTwin_ret l n (by omega)
    have c3 := fun n => implRootOf_ret l n (by omega)
    have d1 := fun n => drawJoinSums_ret c n hc hl
    generalize pickF c 0 _ = a at d1
    generalize pickF c 1 _ = b at d1
    have j1 := fun n => implJoinSums_ret a b n
    have j2 := fun n => specJoinSums_ret a b n
    generalize twinR l = tw at c1 c2
    conv => whnf
    repeat' first
      | (refine CondP.yes ?_; conv => whnf)
      | (refine CondP.not ?_; conv => whnf)
      | ((first | refine CondP.dec (fun h => ?_) (fun h => ?_) | refine CondP.ndec (fun h => ?_) (fun h => ?_)) <;> first | (exfalso; first | omega | exact h (by assumption) | exact absurd h (by assumption)) | (conv => whnf))
      | (refine Both.mk ?_ ?_ <;> (conv => whnf))
      | (refine Keep.mk (by repeat' first | exact trivial | rfl | refine And.intro ?_ ?_) ?_; conv => whnf)
      | (refine And.intro (by first | decide | omega) ?_; conv => whnf)
      | fail
    refine CallP.is (c2 _) rfl ?_
    conv => whnf
    repeat' first
      | (refine CondP.yes ?_; conv => whnf)
      | (refine CondP.not ?_; conv => whnf)
      | ((first | refine CondP.dec (fun h => ?_) (fun h => ?_) | refine CondP.ndec (fun h => ?_) (fun h => ?_)) <;> first | (exfalso; first | omega | exact h (by assumption) | exact absurd h (by assumption)) | (conv => whnf))
      | (refine Both.mk ?_ ?_ <;> (conv => whnf))
      | (refine Keep.mk (by repeat' first | exact trivial | rfl | refine And.intro ?_ ?_) ?_; conv => whnf)
      | (refine And.intro (by first | decide | omega) ?_; conv => whnf)
      | fail
    refine CallP.is (d1 _) rfl ?_
    conv => whnf
    repeat' first
      | (refine CondP.yes ?_; conv => whnf)
      | (refine CondP.not ?_; conv => whnf)
      | ((first | refine CondP.dec (fun h => ?_) (fun h => ?_) | refine CondP.ndec (fun h => ?_) (fun h => ?_)) <;> first | (exfalso; first | omega | exact h (by assumption) | exact absurd h (by assumption)) | (conv => whnf))
      | (refine Both.mk ?_ ?_ <;> (conv => whnf))
      | (refine Keep.mk (by repeat' first | exact trivial | rfl | refine And.intro ?_ ?_) ?_; conv => whnf)
      | (refine And.intro (by first | decide | omega) ?_; conv => whnf)
      | fail
    by_cases hab : isSumI a ∧ isSumI b
    · rw [sumIR2_yes hab.1 hab.2] at j1 j2
      have hra : askC [a, b] = 0 := askC_ok.2 ⟨by simp, by simp, by intro z hz; simp at hz; rcases hz with rfl | rfl; exact hab.1; exact hab.2⟩
      have r1 := fun n => implRootOf_ret [a, b] n (by simp)
      have rt : topW [a, b] = joinF a b := by
        rw [topW_next (by simp), above2, topW_end (by simp)]
        rfl
      rw [rootR, if_pos hra, rt] at r1
      generalize joinF a b = ab at *
      refine CallP.is (j1 _) rfl ?_
      conv => whnf
      repeat' first
        | (refine CondP.yes ?_; conv => whnf)
        | (refine CondP.not ?_; conv => whnf)
        | ((first | refine CondP.dec (fun h => ?_) (fun h => ?_) | refine CondP.ndec (fun h => ?_) (fun h => ?_)) <;> first | (exfalso; first | omega | exact h (by assumption) | exact absurd h (by assumption)) | (conv => whnf))
        | (refine Both.mk ?_ ?_ <;> (conv => whnf))
        | (refine Keep.mk (by repeat' first | exact trivial | rfl | refine And.intro ?_ ?_) ?_; conv => whnf)
        | (refine And.intro (by first | decide | omega) ?_; conv => whnf)
        | fail
      refine CallQ.is (c1 _) rfl rfl ?_
      conv => whnf
      repeat' first
        | (refine CondP.yes ?_; conv => whnf)
        | (refine CondP.not ?_; conv => whnf)
        | ((first | refine CondP.dec (fun h => ?_) (fun h => ?_) | refine CondP.ndec (fun h => ?_) (fun h => ?_)) <;> first | (exfalso; first | omega | exact h (by assumption) | exact absurd h (by assumption)) | (conv => whnf))
        | (refine Both.mk ?_ ?_ <;> (conv => whnf))
        | (refine Keep.mk (by repeat' first | exact trivial | rfl | refine And.intro ?_ ?_) ?_; conv => whnf)
        | (refine And.intro (by first | decide | omega) ?_; conv => whnf)
        | fail
      · exact absurd rfl h
      refine CallQ.is (j2 _) rfl rfl ?_
      conv => whnf
      repeat' first
        | (refine CondP.yes ?_; conv => whnf)
        | (refine CondP.not ?_; conv => whnf)
        | ((first | refine CondP.dec (fun h => ?_) (fun h => ?_) | refine CondP.ndec (fun h => ?_) (fun h => ?_)) <;> first | (exfalso; first | omega | exact h (by assumption) | exact absurd h (by assumption)) | (conv => whnf))
        | (refine Both.mk ?_ ?_ <;> (conv => whnf))
        | (refine Keep.mk (by repeat' first | exact trivial | rfl | refine And.intro ?_ ?_) ?_; conv => whnf)
        | (refine And.intro (by first | decide | omega) ?_; conv => whnf)
        | fail
      refine CallQ.is (j2 _) rfl rfl ?_
      conv => whnf
      repeat' first
        | (refine CondP.yes ?_; conv => whnf)
        | (refine CondP.not ?_; conv => whnf)
        | ((first | refine CondP.dec (fun h => ?_) (fun h => ?_) | refine CondP.ndec (fun h => ?_) (fun h => ?_)) <;> first | (exfalso; first | omega | exact h (by assumption) | exact absurd h (by assumption)) | (conv => whnf))
        | (refine Both.mk ?_ ?_ <;> (conv => whnf))
        | (refine Keep.mk (by repeat' first | exact trivial | rfl | refine And.intro ?_ ?_) ?_; conv => whnf)
        | (refine And.intro (by first | decide | omega) ?_; conv => whnf)
        | fail
      refine CallQ.is (r1 _) rfl rfl ?_
      conv => whnf
      repeat' first
        | (refine CondP.yes ?_; conv => whnf)
        | (refine CondP.not ?_; conv => whnf)
        | ((first | refine CondP.dec (fun h => ?_) (fun h => ?_) | refine CondP.ndec (fun h => ?_) (fun h => ?_)) <;> first | (exfalso; first | omega | exact h (by assumption) | exact absurd h (by assumption)) | (conv => whnf))
        | (refine Both.mk ?_ ?_ <;> (conv => whnf))
        | (refine Keep.mk (by repeat' first | exact trivial | rfl | refine And.intro ?_ ?_) ?_; conv => whnf)
        | (refine And.intro (by first | decide | omega) ?_; conv => whnf)
        | fail
      · exact FinOk.pure rfl rfl rfl rfl
      · exact FinOk.pure rfl rfl rfl rfl
      · by_cases h0 : askC l = 0
        · rw [rootR, if_pos h0] at c3
          refine CallP.is (c3 _) rfl ?_
          conv => whnf
          repeat' first
            | (refine CondP.yes ?_; conv => whnf)
            | (refine CondP.not ?_; conv => whnf)
            | ((first | refine CondP.dec (fun h => ?_) (fun h => ?_) | refine CondP.ndec (fun h => ?_) (fun h => ?_)) <;> first | (exfalso; first | omega | exact h (by assumption) | exact absurd h (by assumption)) | (conv => whnf))
            | (refine Both.mk ?_ ?_ <;> (conv => whnf))
            | (refine Keep.mk (by repeat' first | exact trivial | rfl | refine And.intro ?_ ?_) ?_; conv => whnf)
            | (refine And.intro (by first | decide | omega) ?_; conv => whnf)
            | fail
          rcases shapes4 l (by omega) (by omega) with ⟨x, rfl⟩ | ⟨x, y, rfl⟩ | ⟨x, y, z, rfl⟩ | ⟨x, y, z, w, rfl⟩
          · have q1 : (ivs [x]).length = 1 := rfl
            have q2 : ((ivs [x]).length : Int).tmod 2 = 1 := rfl
            have ht := fun n => implHasTwin_ret [x, x] n (by simp)
            rw [twin2 _ (ask_twice h0 (by simp) (by simp))] at ht
            refine ⟨⟨by (first | exact True.intro | omega | (simp only [List.length_map, List.length_take, List.length_drop, List.length_append, List.length_set, List.length_replicate, List.length_cons, List.length_nil, four_len, fours_len, maxLen] at *; omega)), by (first | exact True.intro | omega | (simp only [List.length_map, List.length_take, List.length_drop, List.length_append, List.length_set, List.length_replicate, List.length_cons, List.length_nil, four_len, fours_len, maxLen] at *; omega)), by (first | exact True.intro | omega | (simp only [List.length_map, List.length_take, List.length_drop, List.length_append, List.length_set, List.length_replicate, List.length_cons, List.length_nil, four_len, fours_len, maxLen] at *; omega)), by (first | exact True.intro | omega | (simp only [List.length_map, List.length_take, List.length_drop, List.length_append, List.length_set, List.length_replicate, List.length_cons, List.length_nil, four_len, fours_len, maxLen] at *; omega)), by (first | (intro r hr; first | exact row1 hr | exact row1 (List.mem_of_mem_take hr)) | (refine rowsB_ok ?_; rfl))⟩, ?_⟩
            conv => whnf
            repeat' first
              | (refine CondP.yes ?_; conv => whnf)
              | (refine CondP.not ?_; conv => whnf)
              | ((first | refine CondP.dec (fun h => ?_) (fun h => ?_) | refine CondP.ndec (fun h => ?_) (fun h => ?_)) <;> first | (exfalso; first | omega | exact h (by assumption) | exact absurd h (by assumption)) | (conv => whnf))
              | (refine Both.mk ?_ ?_ <;> (conv => whnf))
              | (refine Keep.mk (by repeat' first | exact trivial | rfl | refine And.intro ?_ ?_) ?_; conv => whnf)
              | (refine And.intro (by first | decide | omega) ?_; conv => whnf)
              | fail
            refine ⟨⟨by (first | exact True.intro | omega | (simp only [List.length_map, List.length_take, List.length_drop, List.length_append, List.length_set, List.length_replicate, List.length_cons, List.length_nil, four_len, fours_len, maxLen] at *; omega)), by (first | exact True.intro | omega | (simp only [List.length_map, List.length_take, List.length_drop, List.length_append, List.length_set, List.length_replicate, List.length_cons, List.length_nil, four_len, fours_len, maxLen] at *; omega)), by (first | exact True.intro | omega | (simp only [List.length_map, List.length_take, List.length_drop, List.length_append, List.length_set, List.length_replicate, List.length_cons, List.length_nil, four_len, fours_len, maxLen] at *; omega)), by (first | exact True.intro | omega | (simp only [List.length_map, List.length_take, List.length_drop, List.length_append, List.length_set, List.length_replicate, List.length_cons, List.length_nil, four_len, fours_len, maxLen] at *; omega)), by (first | (intro r hr; first | exact row1 hr | exact row1 (List.mem_of_mem_take hr)) | (refine rowsB_ok ?_; rfl))⟩, ?_⟩
            conv => whnf
            repeat' first
              | (refine CondP.yes ?_; conv => whnf)
              | (refine CondP.not ?_; conv => whnf)
              | ((first | refine CondP.dec (fun h => ?_) (fun h => ?_) | refine CondP.ndec (fun h => ?_) (fun h => ?_)) <;> first | (exfalso; first | omega | exact h (by assumption) | exact absurd h (by assumption)) | (conv => whnf))
              | (refine Both.mk ?_ ?_ <;> (conv => whnf))
              | (refine Keep.mk (by repeat' first | exact trivial | rfl | refine And.intro ?_ ?_) ?_; conv => whnf)
              | (refine And.intro (by first | decide | omega) ?_; conv => whnf)
              | fail
            refine CallP.convAIs (ht _) (by repeat' first | exact trivial | exact cvSame rfl | exact cvNil | exact cvOwn rfl (by (first | rfl | (simp only [List.length_map]; done) | (simp only [List.length_map]; first | rfl | assumption | omega))) | exact cvcSame rfl | exact cvcNil | exact cvcOwn rfl (by (first | rfl | (simp only [List.length_map]; done) | (simp only [List.length_map]; first | rfl | assumption | omega))) | refine cvBox rfl ?_ rfl | refine cvAgg ?_ | refine And.intro ?_ ?_) rfl (by first | exact trivial | exact ⟨flat_ivs _, trivial⟩) ?_
            conv => whnf
            repeat' first
              | (refine CondP.yes ?_; conv => whnf)
              | (refine CondP.not ?_; conv => whnf)
              | ((first | refine CondP.dec (fun h => ?_) (fun h => ?_) | refine CondP.ndec (fun h => ?_) (fun h => ?_)) <;> first | (exfalso; first | omega | exact h (by assumption) | exact absurd h (by assumption)) | (conv => whnf))
              | (refine Both.mk ?_ ?_ <;> (conv => whnf))
              | (refine Keep.mk (by repeat' first | exact trivial | rfl | refine And.intro ?_ ?_) ?_; conv => whnf)
              | (refine And.intro (by first | decide | omega) ?_; conv => whnf)
              | fail
            exact FinOk.pure rfl rfl rfl rfl
          · have q1 : (ivs [x, y]).length = 2 := rfl
            have q2 : ((ivs [x, y]).length : Int).tmod 2 = 0 := by rw [q1]; rfl
            have ht := fun n => implHasTwin_ret [x, y, x, y] n (by simp)
            rw [twin4 _ _ (ask_twice h0 (by simp) (by simp))] at ht
            refine ⟨⟨by (first | exact True.intro | omega | (simp only [List.length_map, List.length_take, List.length_drop, List.length_append, List.length_set, List.length_replicate, List.length_cons, List.length_nil, four_len, fours_len, maxLen] at *; omega)), by (first | exact True.intro | omega | (simp only [List.length_map, List.length_take, List.length_drop, List.length_append, List.length_set, List.length_replicate, List.length_cons, List.length_nil, four_len, fours_len, maxLen] at *; omega)), by (first | exact True.intro | omega | (simp only [List.length_map, List.length_take, List.length_drop, List.length_append, List.length_set, List.length_replicate, List.length_cons, List.length_nil, four_len, fours_len, maxLen] at *; omega)), by (first | exact True.intro | omega | (simp only [List.length_map, List.length_take, List.length_drop, List.length_append, List.length_set, List.length_replicate, List.length_cons, List.length_nil, four_len, fours_len, maxLen] at *; omega)), by (first | (intro r hr; first | exact row1 hr | exact row1 (List.mem_of_mem_take hr)) | (refine rowsB_ok ?_; rfl))⟩, ?_⟩
            conv => whnf
            repeat' first
              | (refine CondP.yes ?_; conv => whnf)
              | (refine CondP.not ?_; conv => whnf)
              | ((first | refine CondP.dec (fun h => ?_) (fun h => ?_) | refine CondP.ndec (fun h => ?_) (fun h => ?_)) <;> first | (exfalso; first | omega | exact h (by assumption) | exact absurd h (by assumption)) | (conv => whnf))
              | (refine Both.mk ?_ ?_ <;> (conv => whnf))
              | (refine Keep.mk (by repeat' first | exact trivial | rfl | refine And.intro ?_ ?_) ?_; conv => whnf)
              | (refine And.intro (by first | decide | omega) ?_; conv => whnf)
              | fail
            refine ⟨⟨by (first | exact True.intro | omega | (simp only [List.length_map, List.length_take, List.length_drop, List.length_append, List.length_set, List.length_replicate, List.length_cons, List.length_nil, four_len, fours_len, maxLen] at *; omega)), by (first | exact True.intro | omega | (simp only [List.length_map, List.length_take, List.length_drop, List.length_append, List.length_set, List.length_replicate, List.length_cons, List.length_nil, four_len, fours_len, maxLen] at *; omega)), by (first | exact True.intro | omega | (simp only [List.length_map, List.length_take, List.length_drop, List.length_append, List.length_set, List.length_replicate, List.length_cons, List.length_nil, four_len, fours_len, maxLen] at *; omega)), by (first | exact True.intro | omega | (simp only [List.length_map, List.length_take, List.length_drop, List.length_append, List.length_set, List.length_replicate, List.length_cons, List.length_nil, four_len, fours_len, maxLen] at *; omega)), by (first | (intro r hr; first | exact row1 hr | exact row1 (List.mem_of_mem_take hr)) | (refine rowsB_ok ?_; rfl))⟩, ?_⟩
            conv => whnf
            repeat' first
              | (refine CondP.yes ?_; conv => whnf)
              | (refine CondP.not ?_; conv => whnf)
              | ((first | refine CondP.dec (fun h => ?_) (fun h => ?_) | refine CondP.ndec (fun h => ?_) (fun h => ?_)) <;> first | (exfalso; first | omega | exact h (by assumption) | exact absurd h (by assumption)) | (conv => whnf))
              | (refine Both.mk ?_ ?_ <;> (conv => whnf))
              | (refine Keep.mk (by repeat' first | exact trivial | rfl | refine And.intro ?_ ?_) ?_; conv => whnf)
              | (refine And.intro (by first | decide | omega) ?_; conv => whnf)
              | fail
            refine CallP.convAIs (ht _) (by repeat' first | exact trivial | exact cvSame rfl | exact cvNil | exact cvOwn rfl (by (first | rfl | (simp only [List.length_map]; done) | (simp only [List.length_map]; first | rfl | assumption | omega))) | exact cvcSame rfl | exact cvcNil | exact cvcOwn rfl (by (first | rfl | (simp only [List.length_map]; done) | (simp only [List.length_map]; first | rfl | assumption | omega))) | refine cvBox rfl ?_ rfl | refine cvAgg ?_ | refine And.intro ?_ ?_) rfl (by first | exact trivial | exact ⟨flat_ivs _, trivial⟩) ?_
            conv => whnf
            repeat' first
              | (refine CondP.yes ?_; conv => whnf)
              | (refine CondP.not ?_; conv => whnf)
              | ((first | refine CondP.dec (fun h => ?_) (fun h => ?_) | refine CondP.ndec (fun h => ?_) (fun h => ?_)) <;> first | (exfalso; first | omega | exact h (by assumption) | exact absurd h (by assumption)) | (conv => whnf))
              | (refine Both.mk ?_ ?_ <;> (conv => whnf))
              | (refine Keep.mk (by repeat' first | exact trivial | rfl | refine And.intro ?_ ?_) ?_; conv => whnf)
              | (refine And.intro (by first | decide | omega) ?_; conv => whnf)
              | fail
            exact FinOk.pure rfl rfl rfl rfl
          · have q1 : (ivs [x, y, z]).length = 3 := rfl
            have q2 : ((ivs [x, y, z]).length : Int).tmod 2 = 1 := by rw [q1]; rfl
            have ht := fun n => implHasTwin_ret [x, y, z, z] n (by simp)
            rw [twin3 _ _ _ (ask_twice h0 (by simp) (by simp))] at ht
            have hr := fun n => implRootOf_ret [x, y, z, z] n (by simp)
            rw [rootR, if_pos (ask_twice h0 (by simp) (by simp)), root3] at hr
            refine ⟨⟨by (first | exact True.intro | omega | (simp only [List.length_map, List.length_take, List.length_drop, List.length_append, List.length_set, List.length_replicate, List.length_cons, List.length_nil, four_len, fours_len, maxLen] at *; omega)), by (first | exact True.intro | omega | (simp only [List.length_map, List.length_take, List.length_drop, List.length_append, List.length_set, List.length_replicate, List.length_cons, List.length_nil, four_len, fours_len, maxLen] at *; omega)), by (first | exact True.intro | omega | (simp only [List.length_map, List.length_take, List.length_drop, List.length_append, List.length_set, List.length_replicate, List.length_cons, List.length_nil, four_len, fours_len, maxLen] at *; omega)), by (first | exact True.intro | omega | (simp only [List.length_map, List.length_take, List.length_drop, List.length_append, List.length_set, List.length_replicate, List.length_cons, List.length_nil, four_len, fours_len, maxLen] at *; omega)), by (first | (intro r hr; first | exact row1 hr | exact row1 (List.mem_of_mem_take hr)) | (refine rowsB_ok ?_; rfl))⟩, ?_⟩
            conv => whnf
            repeat' first
              | (refine CondP.yes ?_; conv => whnf)
              | (refine CondP.not ?_; conv => whnf)
              | ((first | refine CondP.dec (fun h => ?_) (fun h => ?_) | refine CondP.ndec (fun h => ?_) (fun h => ?_)) <;> first | (exfalso; first | omega | exact h (by assumption) | exact absurd h (by assumption)) | (conv => whnf))
              | (refine Both.mk ?_ ?_ <;> (conv => whnf))
              | (refine Keep.mk (by repeat' first | exact trivial | rfl | refine And.intro ?_ ?_) ?_; conv => whnf)
              | (refine And.intro (by first | decide | omega) ?_; conv => whnf)
              | fail
            refine ⟨⟨by (first | exact True.intro | omega | (simp only [List.length_map, List.length_take, List.length_drop, List.length_append, List.length_set, List.length_replicate, List.length_cons, List.length_nil, four_len, fours_len, maxLen] at *; omega)), by (first | exact True.intro | omega | (simp only [List.length_map, List.length_take, List.length_drop, List.length_append, List.length_set, List.length_replicate, List.length_cons, List.length_nil, four_len, fours_len, maxLen] at *; omega)), by (first | exact True.intro | omega | (simp only [List.length_map, List.length_take, List.length_drop, List.length_append, List.length_set, List.length_replicate, List.length_cons, List.length_nil, four_len, fours_len, maxLen] at *; omega)), by (first | exact True.intro | omega | (simp only [List.length_map, List.length_take, List.length_drop, List.length_append, List.length_set, List.length_replicate, List.length_cons, List.length_nil, four_len, fours_len, maxLen] at *; omega)), by (first | (intro r hr; first | exact row1 hr | exact row1 (List.mem_of_mem_take hr)) | (refine rowsB_ok ?_; rfl))⟩, ?_⟩
            conv => whnf
            repeat' first
              | (refine CondP.yes ?_; conv => whnf)
              | (refine CondP.not ?_; conv => whnf)
              | ((first | refine CondP.dec (fun h => ?_) (fun h => ?_) | refine CondP.ndec (fun h => ?_) (fun h => ?_)) <;> first | (exfalso; first | omega | exact h (by assumption) | exact absurd h (by assumption)) | (conv => whnf))
              | (refine Both.mk ?_ ?_ <;> (conv => whnf))
              | (refine Keep.mk (by repeat' first | exact trivial | rfl | refine And.intro ?_ ?_) ?_; conv => whnf)
              | (refine And.intro (by first | decide | omega) ?_; conv => whnf)
              | fail
            rw [show IntKind.i64.wrap (((ivs [x, y, z]).length : Int) - 1) = ((2 : Nat) : Int) from by rw [q1]; decide]
            rw [rowK iv1 [x, y, z] 2 (by omega)]
            refine ⟨by (first | exact ⟨by omega, by omega, rfl⟩ | (simp only [List.length_map]; exact ⟨by omega, by omega, rfl⟩)), ?_⟩
            conv => whnf
            repeat' first
              | (refine CondP.yes ?_; conv => whnf)
              | (refine CondP.not ?_; conv => whnf)
              | ((first | refine CondP.dec (fun h => ?_) (fun h => ?_) | refine CondP.ndec (fun h => ?_) (fun h => ?_)) <;> first | (exfalso; first | omega | exact h (by assumption) | exact absurd h (by assumption)) | (conv => whnf))
              | (refine Both.mk ?_ ?_ <;> (conv => whnf))
              | (refine Keep.mk (by repeat' first | exact trivial | rfl | refine And.intro ?_ ?_) ?_; conv => whnf)
              | (refine And.intro (by first | decide | omega) ?_; conv => whnf)
              | fail
            all_goals refine ⟨⟨by (first | exact True.intro | omega | (simp only [List.length_map, List.length_take, List.length_drop, List.length_append, List.length_set, List.length_replicate, List.length_cons, List.length_nil, four_len, fours_len, maxLen] at *; omega)), by (first | exact True.intro | omega | (simp only [List.length_map, List.length_take, List.length_drop, List.length_append, List.length_set, List.length_replicate, List.length_cons, List.length_nil, four_len, fours_len, maxLen] at *; omega)), by (first | exact True.intro | omega | (simp only [List.length_map, List.length_take, List.length_drop, List.length_append, List.length_set, List.length_replicate, List.length_cons, List.length_nil, four_len, fours_len, maxLen] at *; omega)), by (first | exact True.intro | omega | (simp only [List.length_map, List.length_take, List.length_drop, List.length_append, List.length_set, List.length_replicate, List.length_cons, List.length_nil, four_len, fours_len, maxLen] at *; omega)), by (first | (intro r hr; first | exact row1 hr | exact row1 (List.mem_of_mem_take hr)) | (refine rowsB_ok ?_; rfl))⟩, ?_⟩
                      conv => whnf
                      repeat' first
                        | (refine CondP.yes ?_; conv => whnf)
                        | (refine CondP.not ?_; conv => whnf)
                        | ((first | refine CondP.dec (fun h => ?_) (fun h => ?_) | refine CondP.ndec (fun h => ?_) (fun h => ?_)) <;> first | (exfalso; first | omega | exact h (by assumption) | exact absurd h (by assumption)) | (conv => whnf))
                        | (refine Both.mk ?_ ?_ <;> (conv => whnf))
                        | (refine Keep.mk (by repeat' first | exact trivial | rfl | refine And.intro ?_ ?_) ?_; conv => whnf)
                        | (refine And.intro (by first | decide | omega) ?_; conv => whnf)
                        | fail
            all_goals
              refine ⟨⟨by simp, by simp, by simp [maxLen], by first | exact trivial | simp, rowsB_ok rfl⟩, ?_⟩
              conv => whnf
              repeat' first
                | (refine CondP.yes ?_; conv => whnf)
                | (refine CondP.not ?_; conv => whnf)
                | ((first | refine CondP.dec (fun h => ?_) (fun h => ?_) | refine CondP.ndec (fun h => ?_) (fun h => ?_)) <;> first | (exfalso; first | omega | exact h (by assumption) | exact absurd h (by assumption)) | (conv => whnf))
                | (refine Both.mk ?_ ?_ <;> (conv => whnf))
                | (refine Keep.mk (by repeat' first | exact trivial | rfl | refine And.intro ?_ ?_) ?_; conv => whnf)
                | (refine And.intro (by first | decide | omega) ?_; conv => whnf)
                | fail
            all_goals (refine CallP.convAIs (ht _) (by repeat' first | exact trivial | exact cvSame rfl | exact cvNil | exact cvOwn rfl (by (first | rfl | (simp only [List.length_map]; done) | (simp only [List.length_map]; first | rfl | assumption | omega))) | exact cvcSame rfl | exact cvcNil | exact cvcOwn rfl (by (first | rfl | (simp only [List.length_map]; done) | (simp only [List.length_map]; first | rfl | assumption | omega))) | refine cvBox rfl ?_ rfl | refine cvAgg ?_ | refine And.intro ?_ ?_) rfl (by first | exact trivial | exact ⟨flat_ivs _, trivial⟩) ?_
                       conv => whnf
                       repeat' first
                         | (refine CondP.yes ?_; conv => whnf)
                         | (refine CondP.not ?_; conv => whnf)
                         | ((first | refine CondP.dec (fun h => ?_) (fun h => ?_) | refine CondP.ndec (fun h => ?_) (fun h => ?_)) <;> first | (exfalso; first | omega | exact h (by assumption) | exact absurd h (by assumption)) | (conv => whnf))
                         | (refine Both.mk ?_ ?_ <;> (conv => whnf))
                         | (refine Keep.mk (by repeat' first | exact trivial | rfl | refine And.intro ?_ ?_) ?_; conv => whnf)
                         | (refine And.intro (by first | decide | omega) ?_; conv => whnf)
                         | fail)
            all_goals (refine CallP.convAIs (hr _) (by repeat' first | exact trivial | exact cvSame rfl | exact cvNil | exact cvOwn rfl (by (first | rfl | (simp only [List.length_map]; done) | (simp only [List.length_map]; first | rfl | assumption | omega))) | exact cvcSame rfl | exact cvcNil | exact cvcOwn rfl (by (first | rfl | (simp only [List.length_map]; done) | (simp only [List.length_map]; first | rfl | assumption | omega))) | refine cvBox rfl ?_ rfl | refine cvAgg ?_ | refine And.intro ?_ ?_) rfl (by first | exact trivial | exact ⟨flat_ivs _, trivial⟩) ?_
                       conv => whnf
                       repeat' first
                         | (refine CondP.yes ?_; conv => whnf)
                         | (refine CondP.not ?_; conv => whnf)
                         | ((first | refine CondP.dec (fun h => ?_) (fun h => ?_) | refine CondP.ndec (fun h => ?_) (fun h => ?_)) <;> first | (exfalso; first | omega | exact h (by assumption) | exact absurd h (by assumption)) | (conv => whnf))
                         | (refine Both.mk ?_ ?_ <;> (conv => whnf))
                         | (refine Keep.mk (by repeat' first | exact trivial | rfl | refine And.intro ?_ ?_) ?_; conv => whnf)
                         | (refine And.intro (by first | decide | omega) ?_; conv => whnf)
                         | fail)
            all_goals (refine CallP.is (c3 _) rfl ?_
                       conv => whnf
                       repeat' first
                         | (refine CondP.yes ?_; conv => whnf)
                         | (refine CondP.not ?_; conv => whnf)
                         | ((first | refine CondP.dec (fun h => ?_) (fun h => ?_) | refine CondP.ndec (fun h => ?_) (fun h => ?_)) <;> first | (exfalso; first | omega | exact h (by assumption) | exact absurd h (by assumption)) | (conv => whnf))
                         | (refine Both.mk ?_ ?_ <;> (conv => whnf))
                         | (refine Keep.mk (by repeat' first | exact trivial | rfl | refine And.intro ?_ ?_) ?_; conv => whnf)
                         | (refine And.intro (by first | decide | omega) ?_; conv => whnf)
                         | fail)
            all_goals exact FinOk.pure rfl rfl rfl (bvI (decide_eq_true rfl))
          · have q1 : (ivs [x, y, z, w]).length = 4 := rfl
            have q2 : ((ivs [x, y, z, w]).length : Int).tmod 2 = 0 := by rw [q1]; rfl
            have ht := fun n => implHasTwin_ret [x, y, z, w, x, y, z, w] n (by simp)
            rw [twin8 _ _ _ _ (ask_twice h0 (by simp) (by simp))] at ht
            refine ⟨⟨by (first | exact True.intro | omega | (simp only [List.length_map, List.length_take, List.length_drop, List.length_append, List.length_set, List.length_replicate, List.length_cons, List.length_nil, four_len, fours_len, maxLen] at *; omega)), by (first | exact True.intro | omega | (simp only [List.length_map, List.length_take, List.length_drop, List.length_append, List.length_set, List.length_replicate, List.length_cons, List.length_nil, four_len, fours_len, maxLen] at *; omega)), by (first | exact True.intro | omega | (simp only [List.length_map, List.length_take, List.length_drop, List.length_append, List.length_set, List.length_replicate, List.length_cons, List.length_nil, four_len, fours_len, maxLen] at *; omega)), by (first | exact True.intro | omega | (simp only [List.length_map, List.length_take, List.length_drop, List.length_append, List.length_set, List.length_replicate, List.length_cons, List.length_nil, four_len, fours_len, maxLen] at *; omega)), by (first | (intro r hr; first | exact row1 hr | exact row1 (List.mem_of_mem_take hr)) | (refine rowsB_ok ?_; rfl))⟩, ?_⟩
            conv => whnf
            repeat' first
              | (refine CondP.yes ?_; conv => whnf)
              | (refine CondP.not ?_; conv => whnf)
              | ((first | refine CondP.dec (fun h => ?_) (fun h => ?_) | refine CondP.ndec (fun h => ?_) (fun h => ?_)) <;> first | (exfalso; first | omega | exact h (by assumption) | exact absurd h (by assumption)) | (conv => whnf))
              | (refine Both.mk ?_ ?_ <;> (conv => whnf))
              | (refine Keep.mk (by repeat' first | exact trivial | rfl | refine And.intro ?_ ?_) ?_; conv => whnf)
              | (refine And.intro (by first | decide | omega) ?_; conv => whnf)
              | fail
            refine ⟨⟨by (first | exact True.intro | omega | (simp only [List.length_map, List.length_take, List.length_drop, List.length_append, List.length_set, List.length_replicate, List.length_cons, List.length_nil, four_len, fours_len, maxLen] at *; omega)), by (first | exact True.intro | omega | (simp only [List.length_map, List.length_take, List.length_drop, List.length_append, List.length_set, List.length_replicate, List.length_cons, List.length_nil, four_len, fours_len, maxLen] at *; omega)), by (first | exact True.intro | omega | (simp only [List.length_map, List.length_take, List.length_drop, List.length_append, List.length_set, List.length_replicate, List.length_cons, List.length_nil, four_len, fours_len, maxLen] at *; omega)), by (first | exact True.intro | omega | (simp only [List.length_map, List.length_take, List.length_drop, List.length_append, List.length_set, List.length_replicate, List.length_cons, List.length_nil, four_len, fours_len, maxLen] at *; omega)), by (first | (intro r hr; first | exact row1 hr | exact row1 (List.mem_of_mem_take hr)) | (refine rowsB_ok ?_; rfl))⟩, ?_⟩
            conv => whnf
            repeat' first
              | (refine CondP.yes ?_; conv => whnf)
              | (refine CondP.not ?_; conv => whnf)
              | ((first | refine CondP.dec (fun h => ?_) (fun h => ?_) | refine CondP.ndec (fun h => ?_) (fun h => ?_)) <;> first | (exfalso; first | omega | exact h (by assumption) | exact absurd h (by assumption)) | (conv => whnf))
              | (refine Both.mk ?_ ?_ <;> (conv => whnf))
              | (refine Keep.mk (by repeat' first | exact trivial | rfl | refine And.intro ?_ ?_) ?_; conv => whnf)
              | (refine And.intro (by first | decide | omega) ?_; conv => whnf)
              | fail
            refine CallP.convAIs (ht _) (by repeat' first | exact trivial | exact cvSame rfl | exact cvNil | exact cvOwn rfl (by (first | rfl | (simp only [List.length_map]; done) | (simp only [List.length_map]; first | rfl | assumption | omega))) | exact cvcSame rfl | exact cvcNil | exact cvcOwn rfl (by (first | rfl | (simp only [List.length_map]; done) | (simp only [List.length_map]; first | rfl | assumption | omega))) | refine cvBox rfl ?_ rfl | refine cvAgg ?_ | refine And.intro ?_ ?_) rfl (by first | exact trivial | exact ⟨flat_ivs _, trivial⟩) ?_
            conv => whnf
            repeat' first
              | (refine CondP.yes ?_; conv => whnf)
              | (refine CondP.not ?_; conv => whnf)
              | ((first | refine CondP.dec (fun h => ?_) (fun h => ?_) | refine CondP.ndec (fun h => ?_) (fun h => ?_)) <;> first | (exfalso; first | omega | exact h (by assumption) | exact absurd h (by assumption)) | (conv => whnf))
              | (refine Both.mk ?_ ?_ <;> (conv => whnf))
              | (refine Keep.mk (by repeat' first | exact trivial | rfl | refine And.intro ?_ ?_) ?_; conv => whnf)
              | (refine And.intro (by first | decide | omega) ?_; conv => whnf)
              | fail
            exact FinOk.pure rfl rfl rfl rfl
        · rw [rootR, if_neg h0] at c3
          refine CallP.is (c3 _) rfl ?_
          conv => whnf
          repeat' first
            | (refine CondP.yes ?_; conv => whnf)
            | (refine CondP.not ?_; conv => whnf)
            | ((first | refine CondP.dec (fun h => ?_) (fun h => ?_) | refine CondP.ndec (fun h => ?_) (fun h => ?_)) <;> first | (exfalso; first | omega | exact h (by assumption) | exact absurd h (by assumption)) | (conv => whnf))
            | (refine Both.mk ?_ ?_ <;> (conv => whnf))
            | (refine Keep.mk (by repeat' first | exact trivial | rfl | refine And.intro ?_ ?_) ?_; conv => whnf)
            | (refine And.intro (by first | decide | omega) ?_; conv => whnf)
            | fail
          all_goals exact FinOk.pure rfl rfl rfl rfl
    · rw [sumIR2_no hab] at j1 j2
      refine CallP.is (j1 _) rfl ?_
      conv => whnf
      repeat' first
        | (refine CondP.yes ?_; conv => whnf)
        | (refine CondP.not ?_; conv => whnf)
        | ((first | refine CondP.dec (fun h => ?_) (fun h => ?_) | refine CondP.ndec (fun h => ?_) (fun h => ?_)) <;> first | (exfalso; first | omega | exact h (by assumption) | exact absurd h (by assumption)) | (conv => whnf))
        | (refine Both.mk ?_ ?_ <;> (conv => whnf))
        | (refine Keep.mk (by repeat' first | exact trivial | rfl | refine And.intro ?_ ?_) ?_; conv => whnf)
        | (refine And.intro (by first | decide | omega) ?_; conv => whnf)
        | fail
      refine CallQ.is (c1 _) rfl rfl ?_
      conv => whnf
      repeat' first
        | (refine CondP.yes ?_; conv => whnf)
        | (refine CondP.not ?_; conv => whnf)
        | ((first | refine CondP.dec (fun h => ?_) (fun h => ?_) | refine CondP.ndec (fun h => ?_) (fun h => ?_)) <;> first | (exfalso; first | omega | exact h (by assumption) | exact absurd h (by assumption)) | (conv => whnf))
        | (refine Both.mk ?_ ?_ <;> (conv => whnf))
        | (refine Keep.mk (by repeat' first | exact trivial | rfl | refine And.intro ?_ ?_) ?_; conv => whnf)
        | (refine And.intro (by first | decide | omega) ?_; conv => whnf)
        | fail
      · exact absurd rfl h
      refine CallQ.is (j2 _) rfl rfl ?_
      conv => whnf
      repeat' first
        | (refine CondP.yes ?_; conv => whnf)
        | (refine CondP.not ?_; conv => whnf)
        | ((first | refine CondP.dec (fun h => ?_) (fun h => ?_) | refine CondP.ndec (fun h => ?_) (fun h => ?_)) <;> first | (exfalso; first | omega | exact h (by assumption) | exact absurd h (by assumption)) | (conv => whnf))
        | (refine Both.mk ?_ ?_ <;> (conv => whnf))
        | (refine Keep.mk (by repeat' first | exact trivial | rfl | refine And.intro ?_ ?_) ?_; conv => whnf)
        | (refine And.intro (by first | decide | omega) ?_; conv => whnf)
        | fail
      refine CallQ.is (j2 _) rfl rfl ?_
      conv => whnf
      repeat' first
        | (refine CondP.yes ?_; conv => whnf)
        | (refine CondP.not ?_; conv => whnf)
        | ((first | refine CondP.dec (fun h => ?_) (fun h => ?_) | refine CondP.ndec (fun h => ?_) (fun h => ?_)) <;> first | (exfalso; first | omega | exact h (by assumption) | exact absurd h (by assumption)) | (conv => whnf))
        | (refine Both.mk ?_ ?_ <;> (conv => whnf))
        | (refine Keep.mk (by repeat' first | exact trivial | rfl | refine And.intro ?_ ?_) ?_; conv => whnf)
        | (refine And.intro (by first | decide | omega) ?_; conv => whnf)
        | fail
      · exact FinOk.pure rfl rfl rfl rfl
      · exact FinOk.pure rfl rfl rfl rfl
      · by_cases h0 : askC l = 0
        · rw [rootR, if_pos h0] at c3
          refine CallP.is (c3 _) rfl ?_
          conv => whnf
          repeat' first
            | (refine CondP.yes ?_; conv => whnf)
            | (refine CondP.not ?_; conv => whnf)
            | ((first | refine CondP.dec (fun h => ?_) (fun h => ?_) | refine CondP.ndec (fun h => ?_) (fun h => ?_)) <;> first | (exfalso; first | omega | exact h (by assumption) | exact absurd h (by assumption)) | (conv => whnf))
            | (refine Both.mk ?_ ?_ <;> (conv => whnf))
            | (refine Keep.mk (by repeat' first | exact trivial | rfl | refine And.intro ?_ ?_) ?_; conv => whnf)
            | (refine And.intro (by first | decide | omega) ?_; conv => whnf)
            | fail
          rcases shapes4 l (by omega) (by omega) with ⟨x, rfl⟩ | ⟨x, y, rfl⟩ | ⟨x, y, z, rfl⟩ | ⟨x, y, z, w, rfl⟩
          · have q1 : (ivs [x]).length = 1 := rfl
            have q2 : ((ivs [x]).length : Int).tmod 2 = 1 := rfl
            have ht := fun n => implHasTwin_ret [x, x] n (by simp)
            rw [twin2 _ (ask_twice h0 (by simp) (by simp))] at ht
            refine ⟨⟨by (first | exact True.intro | omega | (simp only [List.length_map, List.length_take, List.length_drop, List.length_append, List.length_set, List.length_replicate, List.length_cons, List.length_nil, four_len, fours_len, maxLen] at *; omega)), by (first | exact True.intro | omega | (simp only [List.length_map, List.length_take, List.length_drop, List.length_append, List.length_set, List.length_replicate, List.length_cons, List.length_nil, four_len, fours_len, maxLen] at *; omega)), by (first | exact True.intro | omega | (simp only [List.length_map, List.length_take, List.length_drop, List.length_append, List.length_set, List.length_replicate, List.length_cons, List.length_nil, four_len, fours_len, maxLen] at *; omega)), by (first | exact True.intro | omega | (simp only [List.length_map, List.length_take, List.length_drop, List.length_append, List.length_set, List.length_replicate, List.length_cons, List.length_nil, four_len, fours_len, maxLen] at *; omega)), by (first | (intro r hr; first | exact row1 hr | exact row1 (List.mem_of_mem_take hr)) | (refine rowsB_ok ?_; rfl))⟩, ?_⟩
            conv => whnf
            repeat' first
              | (refine CondP.yes ?_; conv => whnf)
              | (refine CondP.not ?_; conv => whnf)
              | ((first | refine CondP.dec (fun h => ?_) (fun h => ?_) | refine CondP.ndec (fun h => ?_) (fun h => ?_)) <;> first | (exfalso; first | omega | exact h (by assumption) | exact absurd h (by assumption)) | (conv => whnf))
              | (refine Both.mk ?_ ?_ <;> (conv => whnf))
              | (refine Keep.mk (by repeat' first | exact trivial | rfl | refine And.intro ?_ ?_) ?_; conv => whnf)
              | (refine And.intro (by first | decide | omega) ?_; conv => whnf)
              | fail
            refine ⟨⟨by (first | exact True.intro | omega | (simp only [List.length_map, List.length_take, List.length_drop, List.length_append, List.length_set, List.length_replicate, List.length_cons, List.length_nil, four_len, fours_len, maxLen] at *; omega)), by (first | exact True.intro | omega | (simp only [List.length_map, List.length_take, List.length_drop, List.length_append, List.length_set, List.length_replicate, List.length_cons, List.length_nil, four_len, fours_len, maxLen] at *; omega)), by (first | exact True.intro | omega | (simp only [List.length_map, List.length_take, List.length_drop, List.length_append, List.length_set, List.length_replicate, List.length_cons, List.length_nil, four_len, fours_len, maxLen] at *; omega)), by (first | exact True.intro | omega | (simp only [List.length_map, List.length_take, List.length_drop, List.length_append, List.length_set, List.length_replicate, List.length_cons, List.length_nil, four_len, fours_len, maxLen] at *; omega)), by (first | (intro r hr; first | exact row1 hr | exact row1 (List.mem_of_mem_take hr)) | (refine rowsB_ok ?_; rfl))⟩, ?_⟩
            conv => whnf
            repeat' first
              | (refine CondP.yes ?_; conv => whnf)
              | (refine CondP.not ?_; conv => whnf)
              | ((first | refine CondP.dec (fun h => ?_) (fun h => ?_) | refine CondP.ndec (fun h => ?_) (fun h => ?_)) <;> first | (exfalso; first | omega | exact h (by assumption) | exact absurd h (by assumption)) | (conv => whnf))
              | (refine Both.mk ?_ ?_ <;> (conv => whnf))
              | (refine Keep.mk (by repeat' first | exact trivial | rfl | refine And.intro ?_ ?_) ?_; conv => whnf)
              | (refine And.intro (by first | decide | omega) ?_; conv => whnf)
              | fail
            refine CallP.convAIs (ht _) (by repeat' first | exact trivial | exact cvSame rfl | exact cvNil | exact cvOwn rfl (by (first | rfl | (simp only [List.length_map]; done) | (simp only [List.length_map]; first | rfl | assumption | omega))) | exact cvcSame rfl | exact cvcNil | exact cvcOwn rfl (by (first | rfl | (simp only [List.length_map]; done) | (simp only [List.length_map]; first | rfl | assumption | omega))) | refine cvBox rfl ?_ rfl | refine cvAgg ?_ | refine And.intro ?_ ?_) rfl (by first | exact trivial | exact ⟨flat_ivs _, trivial⟩) ?_
            conv => whnf
            repeat' first
              | (refine CondP.yes ?_; conv => whnf)
              | (refine CondP.not ?_; conv => whnf)
              | ((first | refine CondP.dec (fun h => ?_) (fun h => ?_) | refine CondP.ndec (fun h => ?_) (fun h => ?_)) <;> first | (exfalso; first | omega | exact h (by assumption) | exact absurd h (by assumption)) | (conv => whnf))
              | (refine Both.mk ?_ ?_ <;> (conv => whnf))
              | (refine Keep.mk (by repeat' first | exact trivial | rfl | refine And.intro ?_ ?_) ?_; conv => whnf)
              | (refine And.intro (by first | decide | omega) ?_; conv => whnf)
              | fail
            exact FinOk.pure rfl rfl rfl rfl
          · have q1 : (ivs [x, y]).length = 2 := rfl
            have q2 : ((ivs [x, y]).length : Int).tmod 2 = 0 := by rw [q1]; rfl
            have ht := fun n => implHasTwin_ret [x, y, x, y] n (by simp)
            rw [twin4 _ _ (ask_twice h0 (by simp) (by simp))] at ht
            refine ⟨⟨by (first | exact True.intro | omega | (simp only [List.length_map, List.length_take, List.length_drop, List.length_append, List.length_set, List.length_replicate, List.length_cons, List.length_nil, four_len, fours_len, maxLen] at *; omega)), by (first | exact True.intro | omega | (simp only [List.length_map, List.length_take, List.length_drop, List.length_append, List.length_set, List.length_replicate, List.length_cons, List.length_nil, four_len, fours_len, maxLen] at *; omega)), by (first | exact True.intro | omega | (simp only [List.length_map, List.length_take, List.length_drop, List.length_append, List.length_set, List.length_replicate, List.length_cons, List.length_nil, four_len, fours_len, maxLen] at *; omega)), by (first | exact True.intro | omega | (simp only [List.length_map, List.length_take, List.length_drop, List.length_append, List.length_set, List.length_replicate, List.length_cons, List.length_nil, four_len, fours_len, maxLen] at *; omega)), by (first | (intro r hr; first | exact row1 hr | exact row1 (List.mem_of_mem_take hr)) | (refine rowsB_ok ?_; rfl))⟩, ?_⟩
            conv => whnf
            repeat' first
              | (refine CondP.yes ?_; conv => whnf)
              | (refine CondP.not ?_; conv => whnf)
              | ((first | refine CondP.dec (fun h => ?_) (fun h => ?_) | refine CondP.ndec (fun h => ?_) (fun h => ?_)) <;> first | (exfalso; first | omega | exact h (by assumption) | exact absurd h (by assumption)) | (conv => whnf))
              | (refine Both.mk ?_ ?_ <;> (conv => whnf))
              | (refine Keep.mk (by repeat' first | exact trivial | rfl | refine And.intro ?_ ?_) ?_; conv => whnf)
              | (refine And.intro (by first | decide | omega) ?_; conv => whnf)
              | fail
            refine ⟨⟨by (first | exact True.intro | omega | (simp only [List.length_map, List.length_take, List.length_drop, List.length_append, List.length_set, List.length_replicate, List.length_cons, List.length_nil, four_len, fours_len, maxLen] at *; omega)), by (first | exact True.intro | omega | (simp only [List.length_map, List.length_take, List.length_drop, List.length_append, List.length_set, List.length_replicate, List.length_cons, List.length_nil, four_len, fours_len, maxLen] at *; omega)), by (first | exact True.intro | omega | (simp only [List.length_map, List.length_take, List.length_drop, List.length_append, List.length_set, List.length_replicate, List.length_cons, List.length_nil, four_len, fours_len, maxLen] at *; omega)), by (first | exact True.intro | omega | (simp only [List.length_map, List.length_take, List.length_drop, List.length_append, List.length_set, List.length_replicate, List.length_cons, List.length_nil, four_len, fours_len, maxLen] at *; omega)), by (first | (intro r hr; first | exact row1 hr | exact row1 (List.mem_of_mem_take hr)) | (refine rowsB_ok ?_; rfl))⟩, ?_⟩
            conv => whnf
            repeat' first
              | (refine CondP.yes ?_; conv => whnf)
              | (refine CondP.not ?_; conv => whnf)
              | ((first | refine CondP.dec (fun h => ?_) (fun h => ?_) | refine CondP.ndec (fun h => ?_) (fun h => ?_)) <;> first | (exfalso; first | omega | exact h (by assumption) | exact absurd h (by assumption)) | (conv => whnf))
              | (refine Both.mk ?_ ?_ <;> (conv => whnf))
              | (refine Keep.mk (by repeat' first | exact trivial | rfl | refine And.intro ?_ ?_) ?_; conv => whnf)
              | (refine And.intro (by first | decide | omega) ?_; conv => whnf)
              | fail
            refine CallP.convAIs (ht _) (by repeat' first | exact trivial | exact cvSame rfl | exact cvNil | exact cvOwn rfl (by (first | rfl | (simp only [List.length_map]; done) | (simp only [List.length_map]; first | rfl | assumption | omega))) | exact cvcSame rfl | exact cvcNil | exact cvcOwn rfl (by (first | rfl | (simp only [List.length_map]; done) | (simp only [List.length_map]; first | rfl | assumption | omega))) | refine cvBox rfl ?_ rfl | refine cvAgg ?_ | refine And.intro ?_ ?_) rfl (by first | exact trivial | exact ⟨flat_ivs _, trivial⟩) ?_
            conv => whnf
            repeat' first
              | (refine CondP.yes ?_; conv => whnf)
              | (refine CondP.not ?_; conv => whnf)
              | ((first | refine CondP.dec (fun h => ?_) (fun h => ?_) | refine CondP.ndec (fun h => ?_) (fun h => ?_)) <;> first | (exfalso; first | omega | exact h (by assumption) | exact absurd h (by assumption)) | (conv => whnf))
              | (refine Both.mk ?_ ?_ <;> (conv => whnf))
              | (refine Keep.mk (by repeat' first | exact trivial | rfl | refine And.intro ?_ ?_) ?_; conv => whnf)
              | (refine And.intro (by first | decide | omega) ?_; conv => whnf)
              | fail
            exact FinOk.pure rfl rfl rfl rfl
          · have q1 : (ivs [x, y, z]).length = 3 := rfl
            have q2 : ((ivs [x, y, z]).length : Int).tmod 2 = 1 := by rw [q1]; rfl
            have ht := fun n => implHasTwin_ret [x, y, z, z] n (by simp)
            rw [twin3 _ _ _ (ask_twice h0 (by simp) (by simp))] at ht
            have hr := fun n => implRootOf_ret [x, y, z, z] n (by simp)
            rw [rootR, if_pos (ask_twice h0 (by simp) (by simp)), root3] at hr
            refine ⟨⟨by (first | exact True.intro | omega | (simp only [List.length_map, List.length_take, List.length_drop, List.length_append, List.length_set, List.length_replicate, List.length_cons, List.length_nil, four_len, fours_len, maxLen] at *; omega)), by (first | exact True.intro | omega | (simp only [List.length_map, List.length_take, List.length_drop, List.length_append, List.length_set, List.length_replicate, List.length_cons, List.length_nil, four_len, fours_len, maxLen] at *; omega)), by (first | exact True.intro | omega | (simp only [List.length_map, List.length_take, List.length_drop, List.length_append, List.length_set, List.length_replicate, List.length_cons, List.length_nil, four_len, fours_len, maxLen] at *; omega)), by (first | exact True.intro | omega | (simp only [List.length_map, List.length_take, List.length_drop, List.length_append, List.length_set, List.length_replicate, List.length_cons, List.length_nil, four_len, fours_len, maxLen] at *; omega)), by (first | (intro r hr; first | exact row1 hr | exact row1 (List.mem_of_mem_take hr)) | (refine rowsB_ok ?_; rfl))⟩, ?_⟩
            conv => whnf
            repeat' first
              | (refine CondP.yes ?_; conv => whnf)
              | (refine CondP.not ?_; conv => whnf)
              | ((first | refine CondP.dec (fun h => ?_) (fun h => ?_) | refine CondP.ndec (fun h => ?_) (fun h => ?_)) <;> first | (exfalso; first | omega | exact h (by assumption) | exact absurd h (by assumption)) | (conv => whnf))
              | (refine Both.mk ?_ ?_ <;> (conv => whnf))
              | (refine Keep.mk (by repeat' first | exact trivial | rfl | refine And.intro ?_ ?_) ?_; conv => whnf)
              | (refine And.intro (by first | decide | omega) ?_; conv => whnf)
              | fail
            refine ⟨⟨by (first | exact True.intro | omega | (simp only [List.length_map, List.length_take, List.length_drop, List.length_append, List.length_set, List.length_replicate, List.length_cons, List.length_nil, four_len, fours_len, maxLen] at *; omega)), by (first | exact True.intro | omega | (simp only [List.length_map, List.length_take, List.length_drop, List.length_append, List.length_set, List.length_replicate, List.length_cons, List.length_nil, four_len, fours_len, maxLen] at *; omega)), by (first | exact True.intro | omega | (simp only [List.length_map, List.length_take, List.length_drop, List.length_append, List.length_set, List.length_replicate, List.length_cons, List.length_nil, four_len, fours_len, maxLen] at *; omega)), by (first | exact True.intro | omega | (simp only [List.length_map, List.length_take, List.length_drop, List.length_append, List.length_set, List.length_replicate, List.length_cons, List.length_nil, four_len, fours_len, maxLen] at *; omega)), by (first | (intro r hr; first | exact row1 hr | exact row1 (List.mem_of_mem_take hr)) | (refine rowsB_ok ?_; rfl))⟩, ?_⟩
            conv => whnf
            repeat' first
              | (refine CondP.yes ?_; conv => whnf)
              | (refine CondP.not ?_; conv => whnf)
              | ((first | refine CondP.dec (fun h => ?_) (fun h => ?_) | refine CondP.ndec (fun h => ?_) (fun h => ?_)) <;> first | (exfalso; first | omega | exact h (by assumption) | exact absurd h (by assumption)) | (conv => whnf))
              | (refine Both.mk ?_ ?_ <;> (conv => whnf))
              | (refine Keep.mk (by repeat' first | exact trivial | rfl | refine And.intro ?_ ?_) ?_; conv => whnf)
              | (refine And.intro (by first | decide | omega) ?_; conv => whnf)
              | fail
            rw [show IntKind.i64.wrap (((ivs [x, y, z]).length : Int) - 1) = ((2 : Nat) : Int) from by rw [q1]; decide]
            rw [rowK iv1 [x, y, z] 2 (by omega)]
            refine ⟨by (first | exact ⟨by omega, by omega, rfl⟩ | (simp only [List.length_map]; exact ⟨by omega, by omega, rfl⟩)), ?_⟩
            conv => whnf
            repeat' first
              | (refine CondP.yes ?_; conv => whnf)
              | (refine CondP.not ?_; conv => whnf)
              | ((first | refine CondP.dec (fun h => ?_) (fun h => ?_) | refine CondP.ndec (fun h => ?_) (fun h => ?_)) <;> first | (exfalso; first | omega | exact h (by assumption) | exact absurd h (by assumption)) | (conv => whnf))
              | (refine Both.mk ?_ ?_ <;> (conv => whnf))
              | (refine Keep.mk (by repeat' first | exact trivial | rfl | refine And.intro ?_ ?_) ?_; conv => whnf)
              | (refine And.intro (by first | decide | omega) ?_; conv => whnf)
              | fail
            all_goals refine ⟨⟨by (first | exact True.intro | omega | (simp only [List.length_map, List.length_take, List.length_drop, List.length_append, List.length_set, List.length_replicate, List.length_cons, List.length_nil, four_len, fours_len, maxLen] at *; omega)), by (first | exact True.intro | omega | (simp only [List.length_map, List.length_take, List.length_drop, List.length_append, List.length_set, List.length_replicate, List.length_cons, List.length_nil, four_len, fours_len, maxLen] at *; omega)), by (first | exact True.intro | omega | (simp only [List.length_map, List.length_take, List.length_drop, List.length_append, List.length_set, List.length_replicate, List.length_cons, List.length_nil, four_len, fours_len, maxLen] at *; omega)), by (first | exact True.intro | omega | (simp only [List.length_map, List.length_take, List.length_drop, List.length_append, List.length_set, List.length_replicate, List.length_cons, List.length_nil, four_len, fours_len, maxLen] at *; omega)), by (first | (intro r hr; first | exact row1 hr | exact row1 (List.mem_of_mem_take hr)) | (refine rowsB_ok ?_; rfl))⟩, ?_⟩
                      conv => whnf
                      repeat' first
                        | (refine CondP.yes ?_; conv => whnf)
                        | (refine CondP.not ?_; conv => whnf)
                        | ((first | refine CondP.dec (fun h => ?_) (fun h => ?_) | refine CondP.ndec (fun h => ?_) (fun h => ?_)) <;> first | (exfalso; first | omega | exact h (by assumption) | exact absurd h (by assumption)) | (conv => whnf))
                        | (refine Both.mk ?_ ?_ <;> (conv => whnf))
                        | (refine Keep.mk (by repeat' first | exact trivial | rfl | refine And.intro ?_ ?_) ?_; conv => whnf)
                        | (refine And.intro (by first | decide | omega) ?_; conv => whnf)
                        | fail
            all_goals
              refine ⟨⟨by simp, by simp, by simp [maxLen], by first | exact trivial | simp, rowsB_ok rfl⟩, ?_⟩
              conv => whnf
              repeat' first
                | (refine CondP.yes ?_; conv => whnf)
                | (refine CondP.not ?_; conv => whnf)
                | ((first | refine CondP.dec (fun h => ?_) (fun h => ?_) | refine CondP.ndec (fun h => ?_) (fun h => ?_)) <;> first | (exfalso; first | omega | exact h (by assumption) | exact absurd h (by assumption)) | (conv => whnf))
                | (refine Both.mk ?_ ?_ <;> (conv => whnf))
                | (refine Keep.mk (by repeat' first | exact trivial | rfl | refine And.intro ?_ ?_) ?_; conv => whnf)
                | (refine And.intro (by first | decide | omega) ?_; conv => whnf)
                | fail
            all_goals (refine CallP.convAIs (ht _) (by repeat' first | exact trivial | exact cvSame rfl | exact cvNil | exact cvOwn rfl (by (first | rfl | (simp only [List.length_map]; done) | (simp only [List.length_map]; first | rfl | assumption | omega))) | exact cvcSame rfl | exact cvcNil | exact cvcOwn rfl (by (first | rfl | (simp only [List.length_map]; done) | (simp only [List.length_map]; first | rfl | assumption | omega))) | refine cvBox rfl ?_ rfl | refine cvAgg ?_ | refine And.intro ?_ ?_) rfl (by first | exact trivial | exact ⟨flat_ivs _, trivial⟩) ?_
                       conv => whnf
                       repeat' first
                         | (refine CondP.yes ?_; conv => whnf)
                         | (refine CondP.not ?_; conv => whnf)
                         | ((first | refine CondP.dec (fun h => ?_) (fun h => ?_) | refine CondP.ndec (fun h => ?_) (fun h => ?_)) <;> first | (exfalso; first | omega | exact h (by assumption) | exact absurd h (by assumption)) | (conv => whnf))
                         | (refine Both.mk ?_ ?_ <;> (conv => whnf))
                         | (refine Keep.mk (by repeat' first | exact trivial | rfl | refine And.intro ?_ ?_) ?_; conv => whnf)
                         | (refine And.intro (by first | decide | omega) ?_; conv => whnf)
                         | fail)
            all_goals (refine CallP.convAIs (hr _) (by repeat' first | exact trivial | exact cvSame rfl | exact cvNil | exact cvOwn rfl (by (first | rfl | (simp only [List.length_map]; done) | (simp only [List.length_map]; first | rfl | assumption | omega))) | exact cvcSame rfl | exact cvcNil | exact cvcOwn rfl (by (first | rfl | (simp only [List.length_map]; done) | (simp only [List.length_map]; first | rfl | assumption | omega))) | refine cvBox rfl ?_ rfl | refine cvAgg ?_ | refine And.intro ?_ ?_) rfl (by first | exact trivial | exact ⟨flat_ivs _, trivial⟩) ?_
                       conv => whnf
                       repeat' first
                         | (refine CondP.yes ?_; conv => whnf)
                         | (refine CondP.not ?_; conv => whnf)
                         | ((first | refine CondP.dec (fun h => ?_) (fun h => ?_) | refine CondP.ndec (fun h => ?_) (fun h => ?_)) <;> first | (exfalso; first | omega | exact h (by assumption) | exact absurd h (by assumption)) | (conv => whnf))
                         | (refine Both.mk ?_ ?_ <;> (conv => whnf))
                         | (refine Keep.mk (by repeat' first | exact trivial | rfl | refine And.intro ?_ ?_) ?_; conv => whnf)
                         | (refine And.intro (by first | decide | omega) ?_; conv => whnf)
                         | fail)
            all_goals (refine CallP.is (c3 _) rfl ?_
                       conv => whnf
                       repeat' first
                         | (refine CondP.yes ?_; conv => whnf)
                         | (refine CondP.not ?_; conv => whnf)
                         | ((first | refine CondP.dec (fun h => ?_) (fun h => ?_) | refine CondP.ndec (fun h => ?_) (fun h => ?_)) <;> first | (exfalso; first | omega | exact h (by assumption) | exact absurd h (by assumption)) | (conv => whnf))
                         | (refine Both.mk ?_ ?_ <;> (conv => whnf))
                         | (refine Keep.mk (by repeat' first | exact trivial | rfl | refine And.intro ?_ ?_) ?_; conv => whnf)
                         | (refine And.intro (by first | decide | omega) ?_; conv => whnf)
                         | fail)
            all_goals exact FinOk.pure rfl rfl rfl (bvI (decide_eq_true rfl))
          · have q1 : (ivs [x, y, z, w]).length = 4 := rfl
            have q2 : ((ivs [x, y, z, w]).length : Int).tmod 2 = 0 := by rw [q1]; rfl
            have ht := fun n => implHasTwin_ret [x, y, z, w, x, y, z, w] n (by simp)
            rw [twin8 _ _ _ _ (ask_twice h0 (by simp) (by simp))] at ht
            refine ⟨⟨by (first | exact True.intro | omega | (simp only [List.length_map, List.length_take, List.length_drop, List.length_append, List.length_set, List.length_replicate, List.length_cons, List.length_nil, four_len, fours_len, maxLen] at *; omega)), by (first | exact True.intro | omega | (simp only [List.length_map, List.length_take, List.length_drop, List.length_append, List.length_set, List.length_replicate, List.length_cons, List.length_nil, four_len, fours_len, maxLen] at *; omega)), by (first | exact True.intro | omega | (simp only [List.length_map, List.length_take, List.length_drop, List.length_append, List.length_set, List.length_replicate, List.length_cons, List.length_nil, four_len, fours_len, maxLen] at *; omega)), by (first | exact True.intro | omega | (simp only [List.length_map, List.length_take, List.length_drop, List.length_append, List.length_set, List.length_replicate, List.length_cons, List.length_nil, four_len, fours_len, maxLen] at *; omega)), by (first | (intro r hr; first | exact row1 hr | exact row1 (List.mem_of_mem_take hr)) | (refine rowsB_ok ?_; rfl))⟩, ?_⟩
            conv => whnf
            repeat' first
              | (refine CondP.yes ?_; conv => whnf)
              | (refine CondP.not ?_; conv => whnf)
              | ((first | refine CondP.dec (fun h => ?_) (fun h => ?_) | refine CondP.ndec (fun h => ?_) (fun h => ?_)) <;> first | (exfalso; first | omega | exact h (by assumption) | exact absurd h (by assumption)) | (conv => whnf))
              | (refine Both.mk ?_ ?_ <;> (conv => whnf))
              | (refine Keep.mk (by repeat' first | exact trivial | rfl | refine And.intro ?_ ?_) ?_; conv => whnf)
              | (refine And.intro (by first | decide | omega) ?_; conv => whnf)
              | fail
            refine ⟨⟨by (first | exact True.intro | omega | (simp only [List.length_map, List.length_take, List.length_drop, List.length_append, List.length_set, List.length_replicate, List.length_cons, List.length_nil, four_len, fours_len, maxLen] at *; omega)), by (first | exact True.intro | omega | (simp only [List.length_map, List.length_take, List.length_drop, List.length_append, List.length_set, List.length_replicate, List.length_cons, List.length_nil, four_len, fours_len, maxLen] at *; omega)), by (first | exact True.intro | omega | (simp only [List.length_map, List.length_take, List.length_drop, List.length_append, List.length_set, List.length_replicate, List.length_cons, List.length_nil, four_len, fours_len, maxLen] at *; omega)), by (first | exact True.intro | omega | (simp only [List.length_map, List.length_take, List.length_drop, List.length_append, List.length_set, List.length_replicate, List.length_cons, List.length_nil, four_len, fours_len, maxLen] at *; omega)), by (first | (intro r hr; first | exact row1 hr | exact row1 (List.mem_of_mem_take hr)) | (refine rowsB_ok ?_; rfl))⟩, ?_⟩
            conv => whnf
            repeat' first
              | (refine CondP.yes ?_; conv => whnf)
              | (refine CondP.not ?_; conv => whnf)
              | ((first | refine CondP.dec (fun h => ?_) (fun h => ?_) | refine CondP.ndec (fun h => ?_) (fun h => ?_)) <;> first | (exfalso; first | omega | exact h (by assumption) | exact absurd h (by assumption)) | (conv => whnf))
              | (refine Both.mk ?_ ?_ <;> (conv => whnf))
              | (refine Keep.mk (by repeat' first | exact trivial | rfl | refine And.intro ?_ ?_) ?_; conv => whnf)
              | (refine And.intro (by first | decide | omega) ?_; conv => whnf)
              | fail
            refine CallP.convAIs (ht _) (by repeat' first | exact trivial | exact cvSame rfl | exact cvNil | exact cvOwn rfl (by (first | rfl | (simp only [List.length_map]; done) | (simp only [List.length_map]; first | rfl | assumption | omega))) | exact cvcSame rfl | exact cvcNil | exact cvcOwn rfl (by (first | rfl | (simp only [List.length_map]; done) | (simp only [List.length_map]; first | rfl | assumption | omega))) | refine cvBox rfl ?_ rfl | refine cvAgg ?_ | refine And.intro ?_ ?_) rfl (by first | exact trivial | exact ⟨flat_ivs _, trivial⟩) ?_
            conv => whnf
            repeat' first
              | (refine CondP.yes ?_; conv => whnf)
              | (refine CondP.not ?_; conv => whnf)
              | ((first | refine CondP.dec (fun h => ?_) (fun h => ?_) | refine CondP.ndec (fun h => ?_) (fun h => ?_)) <;> first | (exfalso; first | omega | exact h (by assumption) | exact absurd h (by assumption)) | (conv => whnf))
              | (refine Both.mk ?_ ?_ <;> (conv => whnf))
              | (refine Keep.mk (by repeat' first | exact trivial | rfl | refine And.intro ?_ ?_) ?_; conv => whnf)
              | (refine And.intro (by first | decide | omega) ?_; conv => whnf)
              | fail
            exact FinOk.pure rfl rfl rfl rfl
        · rw [rootR, if_neg h0] at c3
          refine CallP.is (c3 _) rfl ?_
          conv => whnf
          repeat' first
            | (refine CondP.yes ?_; conv => whnf)
            | (refine CondP.not ?_; conv => whnf)
            | ((first | refine CondP.dec (fun h => ?_) (fun h => ?_) | refine CondP.ndec (fun h => ?_) (fun h => ?_)) <;> first | (exfalso; first | omega | exact h (by assumption) | exact absurd h (by assumption)) | (conv => whnf))
            | (refine Both.mk ?_ ?_ <;> (conv => whnf))
            | (refine Keep.mk (by repeat' first | exact trivial | rfl | refine And.intro ?_ ?_) ?_; conv => whnf)
            | (refine And.intro (by first | decide | omega) ?_; conv => whnf)
            | fail
          all_goals exact FinOk.pure rfl rfl rfl rfl
  · have hbig := lwBig_ret c
    rw [decide_eq_true (show 1048576 < (c.length : Int) by omega)] at hbig
    refine Ret.fn ttOk Try.func5 rfl Try.call5 rfl rfl ?_
    conv => whnf
    repeat' first
      | (refine CondP.yes ?_; conv => whnf)
      | (refine CondP.not ?_; conv => whnf)
      | ((first | refine CondP.dec (fun h => ?_) (fun h => ?_) | refine CondP.ndec (fun h => ?_) (fun h => ?_)) <;> first | (exfalso; first | omega | exact h (by assumption) | exact absurd h (by assumption)) | (conv => whnf))
      | (refine Both.mk ?_ ?_ <;> (conv => whnf))
      | (refine Keep.mk (by repeat' first | exact trivial | rfl | refine And.intro ?_ ?_) ?_; conv => whnf)
      | (refine And.intro (by first | decide | omega) ?_; conv => whnf)
      | fail
    refine CallP.is (hbig _) rfl ?_
    conv => whnf
    repeat' first
      | (refine CondP.yes ?_; conv => whnf)
      | (refine CondP.not ?_; conv => whnf)
      | ((first | refine CondP.dec (fun h => ?_) (fun h => ?_) | refine CondP.ndec (fun h => ?_) (fun h => ?_)) <;> first | (exfalso; first | omega | exact h (by assumption) | exact absurd h (by assumption)) | (conv => whnf))
      | (refine Both.mk ?_ ?_ <;> (conv => whnf))
      | (refine Keep.mk (by repeat' first | exact trivial | rfl | refine And.intro ?_ ?_) ?_; conv => whnf)
      | (refine And.intro (by first | decide | omega) ?_; conv => whnf)
      | fail
    exact FinOk.pure rfl rfl rfl rfl
end Go.Proofs.Ytbghcndemghilaa
