/-
  CHAPTER 4: the exact laws.
-/
import Derived.Test.YtbghcndemghilaaP37
import Derived.Test.YtbghcndemghilaaL2
namespace Go.Proofs.Ytbghcndemghilaa
open Go Go.Am Go.RowKit
set_option linter.unusedVariables false
set_option linter.unusedSimpArgs false
theorem flat_ivs (zs : List Int) : ∀ r ∈ ivs zs, ∀ c ∈ r, ∃ u, c = AV.val u := by
  intro r hr c hc
  simp only [List.mem_map] at hr
  obtain ⟨z, _, rfl⟩ := hr
  simp only [List.mem_singleton] at hc
  exact ⟨_, hc⟩
theorem eqI_yes (a : List Int) (n : Nat) (hl : a.length ≤ 1048576) : Ret Try.prog 57 [il a, il a] [] n true (Is (bv true) [] n) := by
  have := eqInt64S_ret a a n hl
  rwa [decide_eq_true rfl] at this
theorem eqIR_yes (cs : List AV) (a b : Int) (hc : cs = [iv a, iv b]) (n : Nat) : Ret Try.prog 56 [.agg cs, .agg cs] [] n true (Is (bv true) [] n) := by
  subst hc
  have := eqIntResult_ret a b a b n
  rwa [decide_eq_true rfl, decide_eq_true rfl] at this
theorem sumIR_two (l : List Int) : ∃ a b, sumIR l = [iv a, iv b] := by
  unfold sumIR
  split
  · exact ⟨_, _, rfl⟩
  · split <;> exact ⟨_, _, rfl⟩
theorem rootR_two (l : List Int) : ∃ a b, rootR l = [iv a, iv b] := by
  unfold rootR
  split <;> exact ⟨_, _, rfl⟩
theorem climbR_two (x k : Int) (l : List Int) : ∃ a b, climbR x k l = [iv a, iv b] := by
  unfold climbR
  split <;> exact ⟨_, _, rfl⟩
theorem lawJoinSums (a b : Int) (n : Nat) : Ret Try.prog 12 [iv a, iv b] [] n true (fun r _ _ => r = bv true) := by
  obtain ⟨x, y, hs⟩ := sumIR_two [a, b]
  have h1 := specJoinSums_ret a b
  have h2 := implJoinSums_ret a b
  rw [hs] at h1 h2
  refine Ret.fn ttOk Try.func12 rfl Try.call12 rfl rfl ?_
  conv => whnf
  repeat' first
    | (refine CondP.yes ?_; conv => whnf)
    | (refine CondP.not ?_; conv => whnf)
    | ((first | refine CondP.dec (fun h => ?_) (fun h => ?_) | refine CondP.ndec (fun h => ?_) (fun h => ?_)) <;> first | (exfalso; first | omega | exact h (by assumption) | exact absurd h (by assumption)) | (conv => whnf))
    | (refine Both.mk ?_ ?_ <;> (conv => whnf))
    | (refine Keep.mk (by repeat' first | exact trivial | rfl | refine And.intro ?_ ?_) ?_; conv => whnf)
    | (refine And.intro (by first | decide | omega) ?_; conv => whnf)
    | fail
  refine CallP.is (h1 _) rfl ?_
  conv => whnf
  repeat' first
    | (refine CondP.yes ?_; conv => whnf)
    | (refine CondP.not ?_; conv => whnf)
    | ((first | refine CondP.dec (fun h => ?_) (fun h => ?_) | refine CondP.ndec (fun h => ?_) (fun h => ?_)) <;> first | (exfalso; first | omega | exact h (by assumption) | exact absurd h (by assumption)) | (conv => whnf))
    | (refine Both.mk ?_ ?_ <;> (conv => whnf))
    | (refine Keep.mk (by repeat' first | exact trivial | rfl | refine And.intro ?_ ?_) ?_; conv => whnf)
    | (refine And.intro (by first | decide | omega) ?_; conv => whnf)
    | fail
  refine CallP.is (h2 _) rfl ?_
  conv => whnf
  repeat' first
    | (refine CondP.yes ?_; conv => whnf)
    | (refine CondP.not ?_; conv => whnf)
    | ((first | refine CondP.dec (fun h => ?_) (fun h => ?_) | refine CondP.ndec (fun h => ?_) (fun h => ?_)) <;> first | (exfalso; first | omega | exact h (by assumption) | exact absurd h (by assumption)) | (conv => whnf))
    | (refine Both.mk ?_ ?_ <;> (conv => whnf))
    | (refine Keep.mk (by repeat' first | exact trivial | rfl | refine And.intro ?_ ?_) ?_; conv => whnf)
    | (refine And.intro (by first | decide | omega) ?_; conv => whnf)
    | fail
  refine CallP.is (eqIR_yes _ x y rfl _) rfl ?_
  conv => whnf
  repeat' first
    | (refine CondP.yes ?_; conv => whnf)
    | (refine CondP.not ?_; conv => whnf)
    | ((first | refine CondP.dec (fun h => ?_) (fun h => ?_) | refine CondP.ndec (fun h => ?_) (fun h => ?_)) <;> first | (exfalso; first | omega | exact h (by assumption) | exact absurd h (by assumption)) | (conv => whnf))
    | (refine Both.mk ?_ ?_ <;> (conv => whnf))
    | (refine Keep.mk (by repeat' first | exact trivial | rfl | refine And.intro ?_ ?_) ?_; conv => whnf)
    | (refine And.intro (by first | decide | omega) ?_; conv => whnf)
    | fail
  exact FinOk.pure rfl rfl rfl rfl
theorem lawRootOf (l : List Int) (n : Nat) : Ret Try.prog 8 [il l] [] n true (fun r _ _ => r = bv true) := by
  have hL : (ivs l).length = l.length := by simp
  by_cases hb : l.length ≤ 1048576
  · obtain ⟨x, y, hs⟩ := rootR_two l
    have h1 := fun n => specRootOf_ret l n hb
    have h2 := fun n => implRootOf_ret l n hb
    rw [hs] at h1 h2
    refine Ret.fn ttOk Try.func8 rfl Try.call8 rfl rfl ?_
    conv => whnf
    repeat' first
      | (refine CondP.yes ?_; conv => whnf)
      | (refine CondP.not ?_; conv => whnf)
      | ((first | refine CondP.dec (fun h => ?_) (fun h => ?_) | refine CondP.ndec (fun h => ?_) (fun h => ?_)) <;> first | (exfalso; first | omega | exact h (by assumption) | exact absurd h (by assumption)) | (conv => whnf))
      | (refine Both.mk ?_ ?_ <;> (conv => whnf))
      | (refine Keep.mk (by repeat' first | exact trivial | rfl | refine And.intro ?_ ?_) ?_; conv => whnf)
      | (refine And.intro (by first | decide | omega) ?_; conv => whnf)
      | fail
    refine CallP.is (toInt64S_ret l _ hb) rfl ?_
    conv => whnf
    repeat' first
      | (refine CondP.yes ?_; conv => whnf)
      | (refine CondP.not ?_; conv => whnf)
      | ((first | refine CondP.dec (fun h => ?_) (fun h => ?_) | refine CondP.ndec (fun h => ?_) (fun h => ?_)) <;> first | (exfalso; first | omega | exact h (by assumption) | exact absurd h (by assumption)) | (conv => whnf))
      | (refine Both.mk ?_ ?_ <;> (conv => whnf))
      | (refine Keep.mk (by repeat' first | exact trivial | rfl | refine And.intro ?_ ?_) ?_; conv => whnf)
      | (refine And.intro (by first | decide | omega) ?_; conv => whnf)
      | fail
    refine CallP.convAIs (h1 _) (by repeat' first | exact trivial | exact cvSame rfl | exact cvNil | exact cvOwn rfl (by (first | rfl | (simp only [List.length_map]; done) | (simp only [List.length_map]; first | rfl | assumption | omega))) | exact cvcSame rfl | exact cvcNil | exact cvcOwn rfl (by (first | rfl | (simp only [List.length_map]; done) | (simp only [List.length_map]; first | rfl | assumption | omega))) | refine cvBox rfl ?_ rfl | refine cvAgg ?_ | refine And.intro ?_ ?_) rfl (by first | exact trivial | exact ⟨flat_ivs _, trivial⟩) ?_
    conv => whnf
    repeat' first
      | (refine CondP.yes ?_; conv => whnf)
      | (refine CondP.not ?_; conv => whnf)
      | ((first | refine CondP.dec (fun h => ?_) (fun h => ?_) | refine CondP.ndec (fun h => ?_) (fun h => ?_)) <;> first | (exfalso; first | omega | exact h (by assumption) | exact absurd h (by assumption)) | (conv => whnf))
      | (refine Both.mk ?_ ?_ <;> (conv => whnf))
      | (refine Keep.mk (by repeat' first | exact trivial | rfl | refine And.intro ?_ ?_) ?_; conv => whnf)
      | (refine And.intro (by first | decide | omega) ?_; conv => whnf)
      | fail
    refine CallP.is (toInt64S_ret l _ hb) rfl ?_
    conv => whnf
    repeat' first
      | (refine CondP.yes ?_; conv => whnf)
      | (refine CondP.not ?_; conv => whnf)
      | ((first | refine CondP.dec (fun h => ?_) (fun h => ?_) | refine CondP.ndec (fun h => ?_) (fun h => ?_)) <;> first | (exfalso; first | omega | exact h (by assumption) | exact absurd h (by assumption)) | (conv => whnf))
      | (refine Both.mk ?_ ?_ <;> (conv => whnf))
      | (refine Keep.mk (by repeat' first | exact trivial | rfl | refine And.intro ?_ ?_) ?_; conv => whnf)
      | (refine And.intro (by first | decide | omega) ?_; conv => whnf)
      | fail
    refine CallP.convAIs (h2 _) (by repeat' first | exact trivial | exact cvSame rfl | exact cvNil | exact cvOwn rfl (by (first | rfl | (simp only [List.length_map]; done) | (simp only [List.length_map]; first | rfl | assumption | omega))) | exact cvcSame rfl | exact cvcNil | exact cvcOwn rfl (by (first | rfl | (simp only [List.length_map]; done) | (simp only [List.length_map]; first | rfl | assumption | omega))) | refine cvBox rfl ?_ rfl | refine cvAgg ?_ | refine And.intro ?_ ?_) rfl (by first | exact trivial | exact ⟨flat_ivs _, trivial⟩) ?_
    conv => whnf
    repeat' first
      | (refine CondP.yes ?_; conv => whnf)
      | (refine CondP.not ?_; conv => whnf)
      | ((first | refine CondP.dec (fun h => ?_) (fun h => ?_) | refine CondP.ndec (fun h => ?_) (fun h => ?_)) <;> first | (exfalso; first | omega | exact h (by assumption) | exact absurd h (by assumption)) | (conv => whnf))
      | (refine Both.mk ?_ ?_ <;> (conv => whnf))
      | (refine Keep.mk (by repeat' first | exact trivial | rfl | refine And.intro ?_ ?_) ?_; conv => whnf)
      | (refine And.intro (by first | decide | omega) ?_; conv => whnf)
      | fail
    refine CallP.is (eqIR_yes _ x y rfl _) rfl ?_
    conv => whnf
    repeat' first
      | (refine CondP.yes ?_; conv => whnf)
      | (refine CondP.not ?_; conv => whnf)
      | ((first | refine CondP.dec (fun h => ?_) (fun h => ?_) | refine CondP.ndec (fun h => ?_) (fun h => ?_)) <;> first | (exfalso; first | omega | exact h (by assumption) | exact absurd h (by assumption)) | (conv => whnf))
      | (refine Both.mk ?_ ?_ <;> (conv => whnf))
      | (refine Keep.mk (by repeat' first | exact trivial | rfl | refine And.intro ?_ ?_) ?_; conv => whnf)
      | (refine And.intro (by first | decide | omega) ?_; conv => whnf)
      | fail
    refine CallP.is (toInt64S_ret l _ hb) rfl ?_
    conv => whnf
    repeat' first
      | (refine CondP.yes ?_; conv => whnf)
      | (refine CondP.not ?_; conv => whnf)
      | ((first | refine CondP.dec (fun h => ?_) (fun h => ?_) | refine CondP.ndec (fun h => ?_) (fun h => ?_)) <;> first | (exfalso; first | omega | exact h (by assumption) | exact absurd h (by assumption)) | (conv => whnf))
      | (refine Both.mk ?_ ?_ <;> (conv => whnf))
      | (refine Keep.mk (by repeat' first | exact trivial | rfl | refine And.intro ?_ ?_) ?_; conv => whnf)
      | (refine And.intro (by first | decide | omega) ?_; conv => whnf)
      | fail
    refine CallP.convAIs (eqI_yes l _ hb) (by repeat' first | exact trivial | exact cvSame rfl | exact cvNil | exact cvOwn rfl (by (first | rfl | (simp only [List.length_map]; done) | (simp only [List.length_map]; first | rfl | assumption | omega))) | exact cvcSame rfl | exact cvcNil | exact cvcOwn rfl (by (first | rfl | (simp only [List.length_map]; done) | (simp only [List.length_map]; first | rfl | assumption | omega))) | refine cvBox rfl ?_ rfl | refine cvAgg ?_ | refine And.intro ?_ ?_) rfl (by first | exact trivial | exact ⟨flat_ivs _, trivial⟩) ?_
    conv => whnf
    repeat' first
      | (refine CondP.yes ?_; conv => whnf)
      | (refine CondP.not ?_; conv => whnf)
      | ((first | refine CondP.dec (fun h => ?_) (fun h => ?_) | refine CondP.ndec (fun h => ?_) (fun h => ?_)) <;> first | (exfalso; first | omega | exact h (by assumption) | exact absurd h (by assumption)) | (conv => whnf))
      | (refine Both.mk ?_ ?_ <;> (conv => whnf))
      | (refine Keep.mk (by repeat' first | exact trivial | rfl | refine And.intro ?_ ?_) ?_; conv => whnf)
      | (refine And.intro (by first | decide | omega) ?_; conv => whnf)
      | fail
    exact FinOk.pure rfl rfl rfl rfl
  · refine Ret.fn ttOk Try.func8 rfl Try.call8 rfl rfl ?_
    conv => whnf
    repeat' first
      | (refine CondP.yes ?_; conv => whnf)
      | (refine CondP.not ?_; conv => whnf)
      | ((first | refine CondP.dec (fun h => ?_) (fun h => ?_) | refine CondP.ndec (fun h => ?_) (fun h => ?_)) <;> first | (exfalso; first | omega | exact h (by assumption) | exact absurd h (by assumption)) | (conv => whnf))
      | (refine Both.mk ?_ ?_ <;> (conv => whnf))
      | (refine Keep.mk (by repeat' first | exact trivial | rfl | refine And.intro ?_ ?_) ?_; conv => whnf)
      | (refine And.intro (by first | decide | omega) ?_; conv => whnf)
      | fail
    exact FinOk.pure rfl rfl rfl rfl
theorem lawHasTwin (l : List Int) (n : Nat) : Ret Try.prog 11 [il l] [] n true (fun r _ _ => r = bv true) := by
  have hL : (ivs l).length = l.length := by simp
  by_cases hb : l.length ≤ 1048576
  · have h1 := fun n => specHasTwin_ret l n hb
    have h2 := fun n => implHasTwin_ret l n hb
    generalize twinR l = t at h1 h2
    cases t <;> (
      refine Ret.fn ttOk Try.func11 rfl Try.call11 rfl rfl ?_
      conv => whnf
      repeat' first
        | (refine CondP.yes ?_; conv => whnf)
        | (refine CondP.not ?_; conv => whnf)
        | ((first | refine CondP.dec (fun h => ?_) (fun h => ?_) | refine CondP.ndec (fun h => ?_) (fun h => ?_)) <;> first | (exfalso; first | omega | exact h (by assumption) | exact absurd h (by assumption)) | (conv => whnf))
        | (refine Both.mk ?_ ?_ <;> (conv => whnf))
        | (refine Keep.mk (by repeat' first | exact trivial | rfl | refine And.intro ?_ ?_) ?_; conv => whnf)
        | (refine And.intro (by first | decide | omega) ?_; conv => whnf)
        | fail
      refine CallP.is (toInt64S_ret l _ hb) rfl ?_
      conv => whnf
      repeat' first
        | (refine CondP.yes ?_; conv => whnf)
        | (refine CondP.not ?_; conv => whnf)
        | ((first | refine CondP.dec (fun h => ?_) (fun h => ?_) | refine CondP.ndec (fun h => ?_) (fun h => ?_)) <;> first | (exfalso; first | omega | exact h (by assumption) | exact absurd h (by assumption)) | (conv => whnf))
        | (refine Both.mk ?_ ?_ <;> (conv => whnf))
        | (refine Keep.mk (by repeat' first | exact trivial | rfl | refine And.intro ?_ ?_) ?_; conv => whnf)
        | (refine And.intro (by first | decide | omega) ?_; conv => whnf)
        | fail
      refine CallP.convAIs (h1 _) (by repeat' first | exact trivial | exact cvSame rfl | exact cvNil | exact cvOwn rfl (by (first | rfl | (simp only [List.length_map]; done) | (simp only [List.length_map]; first | rfl | assumption | omega))) | exact cvcSame rfl | exact cvcNil | exact cvcOwn rfl (by (first | rfl | (simp only [List.length_map]; done) | (simp only [List.length_map]; first | rfl | assumption | omega))) | refine cvBox rfl ?_ rfl | refine cvAgg ?_ | refine And.intro ?_ ?_) rfl (by first | exact trivial | exact ⟨flat_ivs _, trivial⟩) ?_
      conv => whnf
      repeat' first
        | (refine CondP.yes ?_; conv => whnf)
        | (refine CondP.not ?_; conv => whnf)
        | ((first | refine CondP.dec (fun h => ?_) (fun h => ?_) | refine CondP.ndec (fun h => ?_) (fun h => ?_)) <;> first | (exfalso; first | omega | exact h (by assumption) | exact absurd h (by assumption)) | (conv => whnf))
        | (refine Both.mk ?_ ?_ <;> (conv => whnf))
        | (refine Keep.mk (by repeat' first | exact trivial | rfl | refine And.intro ?_ ?_) ?_; conv => whnf)
        | (refine And.intro (by first | decide | omega) ?_; conv => whnf)
        | fail
      refine CallP.is (toInt64S_ret l _ hb) rfl ?_
      conv => whnf
      repeat' first
        | (refine CondP.yes ?_; conv => whnf)
        | (refine CondP.not ?_; conv => whnf)
        | ((first | refine CondP.dec (fun h => ?_) (fun h => ?_) | refine CondP.ndec (fun h => ?_) (fun h => ?_)) <;> first | (exfalso; first | omega | exact h (by assumption) | exact absurd h (by assumption)) | (conv => whnf))
        | (refine Both.mk ?_ ?_ <;> (conv => whnf))
        | (refine Keep.mk (by repeat' first | exact trivial | rfl | refine And.intro ?_ ?_) ?_; conv => whnf)
        | (refine And.intro (by first | decide | omega) ?_; conv => whnf)
        | fail
      refine CallP.convAIs (h2 _) (by repeat' first | exact trivial | exact cvSame rfl | exact cvNil | exact cvOwn rfl (by (first | rfl | (simp only [List.length_map]; done) | (simp only [List.length_map]; first | rfl | assumption | omega))) | exact cvcSame rfl | exact cvcNil | exact cvcOwn rfl (by (first | rfl | (simp only [List.length_map]; done) | (simp only [List.length_map]; first | rfl | assumption | omega))) | refine cvBox rfl ?_ rfl | refine cvAgg ?_ | refine And.intro ?_ ?_) rfl (by first | exact trivial | exact ⟨flat_ivs _, trivial⟩) ?_
      conv => whnf
      repeat' first
        | (refine CondP.yes ?_; conv => whnf)
        | (refine CondP.not ?_; conv => whnf)
        | ((first | refine CondP.dec (fun h => ?_) (fun h => ?_) | refine CondP.ndec (fun h => ?_) (fun h => ?_)) <;> first | (exfalso; first | omega | exact h (by assumption) | exact absurd h (by assumption)) | (conv => whnf))
        | (refine Both.mk ?_ ?_ <;> (conv => whnf))
        | (refine Keep.mk (by repeat' first | exact trivial | rfl | refine And.intro ?_ ?_) ?_; conv => whnf)
        | (refine And.intro (by first | decide | omega) ?_; conv => whnf)
        | fail
      refine CallP.is (toInt64S_ret l _ hb) rfl ?_
      conv => whnf
      repeat' first
        | (refine CondP.yes ?_; conv => whnf)
        | (refine CondP.not ?_; conv => whnf)
        | ((first | refine CondP.dec (fun h => ?_) (fun h => ?_) | refine CondP.ndec (fun h => ?_) (fun h => ?_)) <;> first | (exfalso; first | omega | exact h (by assumption) | exact absurd h (by assumption)) | (conv => whnf))
        | (refine Both.mk ?_ ?_ <;> (conv => whnf))
        | (refine Keep.mk (by repeat' first | exact trivial | rfl | refine And.intro ?_ ?_) ?_; conv => whnf)
        | (refine And.intro (by first | decide | omega) ?_; conv => whnf)
        | fail
      refine CallP.convAIs (eqI_yes l _ hb) (by repeat' first | exact trivial | exact cvSame rfl | exact cvNil | exact cvOwn rfl (by (first | rfl | (simp only [List.length_map]; done) | (simp only [List.length_map]; first | rfl | assumption | omega))) | exact cvcSame rfl | exact cvcNil | exact cvcOwn rfl (by (first | rfl | (simp only [List.length_map]; done) | (simp only [List.length_map]; first | rfl | assumption | omega))) | refine cvBox rfl ?_ rfl | refine cvAgg ?_ | refine And.intro ?_ ?_) rfl (by first | exact trivial | exact ⟨flat_ivs _, trivial⟩) ?_
      conv => whnf
      repeat' first
        | (refine CondP.yes ?_; conv => whnf)
        | (refine CondP.not ?_; conv => whnf)
        | ((first | refine CondP.dec (fun h => ?_) (fun h => ?_) | refine CondP.ndec (fun h => ?_) (fun h => ?_)) <;> first | (exfalso; first | omega | exact h (by assumption) | exact absurd h (by assumption)) | (conv => whnf))
        | (refine Both.mk ?_ ?_ <;> (conv => whnf))
        | (refine Keep.mk (by repeat' first | exact trivial | rfl | refine And.intro ?_ ?_) ?_; conv => whnf)
        | (refine And.intro (by first | decide | omega) ?_; conv => whnf)
        | fail
      exact FinOk.pure rfl rfl rfl rfl)
  · refine Ret.fn ttOk Try.func11 rfl Try.call11 rfl rfl ?_
    conv => whnf
    repeat' first
      | (refine CondP.yes ?_; conv => whnf)
      | (refine CondP.not ?_; conv => whnf)
      | ((first | refine CondP.dec (fun h => ?_) (fun h => ?_) | refine CondP.ndec (fun h => ?_) (fun h => ?_)) <;> first | (exfalso; first | omega | exact h (by assumption) | exact absurd h (by assumption)) | (conv => whnf))
      | (refine Both.mk ?_ ?_ <;> (conv => whnf))
      | (refine Keep.mk (by repeat' first | exact trivial | rfl | refine And.intro ?_ ?_) ?_; conv => whnf)
      | (refine And.intro (by first | decide | omega) ?_; conv => whnf)
      | fail
    exact FinOk.pure rfl rfl rfl rfl
theorem lawClimbOf (x k : Int) (l : List Int) (n : Nat) : Ret Try.prog 10 [iv x, iv k, il l] [] n true (fun r _ _ => r = bv true) := by
  have hL : (ivs l).length = l.length := by simp
  by_cases hb : l.length ≤ 1048576
  · obtain ⟨u, v, hs⟩ := climbR_two x k l
    have h1 := fun n => specClimbOf_ret x k l n hb
    have h2 := fun n => implClimbOf_ret x k l n hb
    rw [hs] at h1 h2
    refine Ret.fn ttOk Try.func10 rfl Try.call10 rfl rfl ?_
    conv => whnf
    repeat' first
      | (refine CondP.yes ?_; conv => whnf)
      | (refine CondP.not ?_; conv => whnf)
      | ((first | refine CondP.dec (fun h => ?_) (fun h => ?_) | refine CondP.ndec (fun h => ?_) (fun h => ?_)) <;> first | (exfalso; first | omega | exact h (by assumption) | exact absurd h (by assumption)) | (conv => whnf))
      | (refine Both.mk ?_ ?_ <;> (conv => whnf))
      | (refine Keep.mk (by repeat' first | exact trivial | rfl | refine And.intro ?_ ?_) ?_; conv => whnf)
      | (refine And.intro (by first | decide | omega) ?_; conv => whnf)
      | fail
    refine CallP.is (toInt64S_ret l _ hb) rfl ?_
    conv => whnf
    repeat' first
      | (refine CondP.yes ?_; conv => whnf)
      | (refine CondP.not ?_; conv => whnf)
      | ((first | refine CondP.dec (fun h => ?_) (fun h => ?_) | refine CondP.ndec (fun h => ?_) (fun h => ?_)) <;> first | (exfalso; first | omega | exact h (by assumption) | exact absurd h (by assumption)) | (conv => whnf))
      | (refine Both.mk ?_ ?_ <;> (conv => whnf))
      | (refine Keep.mk (by repeat' first | exact trivial | rfl | refine And.intro ?_ ?_) ?_; conv => whnf)
      | (refine And.intro (by first | decide | omega) ?_; conv => whnf)
      | fail
    refine CallP.convAIs (h1 _) (by repeat' first | exact trivial | exact cvSame rfl | exact cvNil | exact cvOwn rfl (by (first | rfl | (simp only [List.length_map]; done) | (simp only [List.length_map]; first | rfl | assumption | omega))) | exact cvcSame rfl | exact cvcNil | exact cvcOwn rfl (by (first | rfl | (simp only [List.length_map]; done) | (simp only [List.length_map]; first | rfl | assumption | omega))) | refine cvBox rfl ?_ rfl | refine cvAgg ?_ | refine And.intro ?_ ?_) rfl (by first | exact trivial | exact ⟨flat_ivs _, trivial⟩) ?_
    conv => whnf
    repeat' first
      | (refine CondP.yes ?_; conv => whnf)
      | (refine CondP.not ?_; conv => whnf)
      | ((first | refine CondP.dec (fun h => ?_) (fun h => ?_) | refine CondP.ndec (fun h => ?_) (fun h => ?_)) <;> first | (exfalso; first | omega | exact h (by assumption) | exact absurd h (by assumption)) | (conv => whnf))
      | (refine Both.mk ?_ ?_ <;> (conv => whnf))
      | (refine Keep.mk (by repeat' first | exact trivial | rfl | refine And.intro ?_ ?_) ?_; conv => whnf)
      | (refine And.intro (by first | decide | omega) ?_; conv => whnf)
      | fail
    refine CallP.is (toInt64S_ret l _ hb) rfl ?_
    conv => whnf
    repeat' first
      | (refine CondP.yes ?_; conv => whnf)
      | (refine CondP.not ?_; conv => whnf)
      | ((first | refine CondP.dec (fun h => ?_) (fun h => ?_) | refine CondP.ndec (fun h => ?_) (fun h => ?_)) <;> first | (exfalso; first | omega | exact h (by assumption) | exact absurd h (by assumption)) | (conv => whnf))
      | (refine Both.mk ?_ ?_ <;> (conv => whnf))
      | (refine Keep.mk (by repeat' first | exact trivial | rfl | refine And.intro ?_ ?_) ?_; conv => whnf)
      | (refine And.intro (by first | decide | omega) ?_; conv => whnf)
      | fail
    refine CallP.convAIs (h2 _) (by repeat' first | exact trivial | exact cvSame rfl | exact cvNil | exact cvOwn rfl (by (first | rfl | (simp only [List.length_map]; done) | (simp only [List.length_map]; first | rfl | assumption | omega))) | exact cvcSame rfl | exact cvcNil | exact cvcOwn rfl (by (first | rfl | (simp only [List.length_map]; done) | (simp only [List.length_map]; first | rfl | assumption | omega))) | refine cvBox rfl ?_ rfl | refine cvAgg ?_ | refine And.intro ?_ ?_) rfl (by first | exact trivial | exact ⟨flat_ivs _, trivial⟩) ?_
    conv => whnf
    repeat' first
      | (refine CondP.yes ?_; conv => whnf)
      | (refine CondP.not ?_; conv => whnf)
      | ((first | refine CondP.dec (fun h => ?_) (fun h => ?_) | refine CondP.ndec (fun h => ?_) (fun h => ?_)) <;> first | (exfalso; first | omega | exact h (by assumption) | exact absurd h (by assumption)) | (conv => whnf))
      | (refine Both.mk ?_ ?_ <;> (conv => whnf))
      | (refine Keep.mk (by repeat' first | exact trivial | rfl | refine And.intro ?_ ?_) ?_; conv => whnf)
      | (refine And.intro (by first | decide | omega) ?_; conv => whnf)
      | fail
    refine CallP.is (eqIR_yes _ u v rfl _) rfl ?_
    conv => whnf
    repeat' first
      | (refine CondP.yes ?_; conv => whnf)
      | (refine CondP.not ?_; conv => whnf)
      | ((first | refine CondP.dec (fun h => ?_) (fun h => ?_) | refine CondP.ndec (fun h => ?_) (fun h => ?_)) <;> first | (exfalso; first | omega | exact h (by assumption) | exact absurd h (by assumption)) | (conv => whnf))
      | (refine Both.mk ?_ ?_ <;> (conv => whnf))
      | (refine Keep.mk (by repeat' first | exact trivial | rfl | refine And.intro ?_ ?_) ?_; conv => whnf)
      | (refine And.intro (by first | decide | omega) ?_; conv => whnf)
      | fail
    refine CallP.is (toInt64S_ret l _ hb) rfl ?_
    conv => whnf
    repeat' first
      | (refine CondP.yes ?_; conv => whnf)
      | (refine CondP.not ?_; conv => whnf)
      | ((first | refine CondP.dec (fun h => ?_) (fun h => ?_) | refine CondP.ndec (fun h => ?_) (fun h => ?_)) <;> first | (exfalso; first | omega | exact h (by assumption) | exact absurd h (by assumption)) | (conv => whnf))
      | (refine Both.mk ?_ ?_ <;> (conv => whnf))
      | (refine Keep.mk (by repeat' first | exact trivial | rfl | refine And.intro ?_ ?_) ?_; conv => whnf)
      | (refine And.intro (by first | decide | omega) ?_; conv => whnf)
      | fail
    refine CallP.convAIs (eqI_yes l _ hb) (by repeat' first | exact trivial | exact cvSame rfl | exact cvNil | exact cvOwn rfl (by (first | rfl | (simp only [List.length_map]; done) | (simp only [List.length_map]; first | rfl | assumption | omega))) | exact cvcSame rfl | exact cvcNil | exact cvcOwn rfl (by (first | rfl | (simp only [List.length_map]; done) | (simp only [List.length_map]; first | rfl | assumption | omega))) | refine cvBox rfl ?_ rfl | refine cvAgg ?_ | refine And.intro ?_ ?_) rfl (by first | exact trivial | exact ⟨flat_ivs _, trivial⟩) ?_
    conv => whnf
    repeat' first
      | (refine CondP.yes ?_; conv => whnf)
      | (refine CondP.not ?_; conv => whnf)
      | ((first | refine CondP.dec (fun h => ?_) (fun h => ?_) | refine CondP.ndec (fun h => ?_) (fun h => ?_)) <;> first | (exfalso; first | omega | exact h (by assumption) | exact absurd h (by assumption)) | (conv => whnf))
      | (refine Both.mk ?_ ?_ <;> (conv => whnf))
      | (refine Keep.mk (by repeat' first | exact trivial | rfl | refine And.intro ?_ ?_) ?_; conv => whnf)
      | (refine And.intro (by first | decide | omega) ?_; conv => whnf)
      | fail
    exact FinOk.pure rfl rfl rfl rfl
  · refine Ret.fn ttOk Try.func10 rfl Try.call10 rfl rfl ?_
    conv => whnf
    repeat' first
      | (refine CondP.yes ?_; conv => whnf)
      | (refine CondP.not ?_; conv => whnf)
      | ((first | refine CondP.dec (fun h => ?_) (fun h => ?_) | refine CondP.ndec (fun h => ?_) (fun h => ?_)) <;> first | (exfalso; first | omega | exact h (by assumption) | exact absurd h (by assumption)) | (conv => whnf))
      | (refine Both.mk ?_ ?_ <;> (conv => whnf))
      | (refine Keep.mk (by repeat' first | exact trivial | rfl | refine And.intro ?_ ?_) ?_; conv => whnf)
      | (refine And.intro (by first | decide | omega) ?_; conv => whnf)
      | fail
    exact FinOk.pure rfl rfl rfl rfl
theorem lawBranchOf_yes (l : List Int) (k n : Nat) (hc : branchC l k = 0) : Ret Try.prog 9 [il l, iv k] [] n true (fun r _ _ => r = bv true) := by
  have hL : (ivs l).length = l.length := by simp
  obtain ⟨h0, j, hj, hk⟩ := branchC_ok hc
  obtain ⟨l1, l8, ls⟩ := askC_ok.1 h0
  have hb : l.length ≤ 1048576 := by omega
  have h1 := fun n => specBranchOf_ret l k n hc
  have h2 := fun n => implBranchOf_ret l k n hc
  have h3 : (brR (rowsW l) k).length ≤ 3 := by rw [brR_len]; exact (rowsW_len l l8).1
  generalize brR (rowsW l) k = b at h1 h2 h3
  refine Ret.fn ttOk Try.func9 rfl Try.call9 rfl rfl ?_
  conv => whnf
  repeat' first
    | (refine CondP.yes ?_; conv => whnf)
    | (refine CondP.not ?_; conv => whnf)
    | ((first | refine CondP.dec (fun h => ?_) (fun h => ?_) | refine CondP.ndec (fun h => ?_) (fun h => ?_)) <;> first | (exfalso; first | omega | exact h (by assumption) | exact absurd h (by assumption)) | (conv => whnf))
    | (refine Both.mk ?_ ?_ <;> (conv => whnf))
    | (refine Keep.mk (by repeat' first | exact trivial | rfl | refine And.intro ?_ ?_) ?_; conv => whnf)
    | (refine And.intro (by first | decide | omega) ?_; conv => whnf)
    | fail
  refine CallP.is (toInt64S_ret l _ hb) rfl ?_
  conv => whnf
  repeat' first
    | (refine CondP.yes ?_; conv => whnf)
    | (refine CondP.not ?_; conv => whnf)
    | ((first | refine CondP.dec (fun h => ?_) (fun h => ?_) | refine CondP.ndec (fun h => ?_) (fun h => ?_)) <;> first | (exfalso; first | omega | exact h (by assumption) | exact absurd h (by assumption)) | (conv => whnf))
    | (refine Both.mk ?_ ?_ <;> (conv => whnf))
    | (refine Keep.mk (by repeat' first | exact trivial | rfl | refine And.intro ?_ ?_) ?_; conv => whnf)
    | (refine And.intro (by first | decide | omega) ?_; conv => whnf)
    | fail
  refine CallP.convAIs (h1 _) (by repeat' first | exact trivial | exact cvSame rfl | exact cvNil | exact cvOwn rfl (by (first | rfl | (simp only [List.length_map]; done) | (simp only [List.length_map]; first | rfl | assumption | omega))) | exact cvcSame rfl | exact cvcNil | exact cvcOwn rfl (by (first | rfl | (simp only [List.length_map]; done) | (simp only [List.length_map]; first | rfl | assumption | omega))) | refine cvBox rfl ?_ rfl | refine cvAgg ?_ | refine And.intro ?_ ?_) rfl (by first | exact trivial | exact ⟨flat_ivs _, trivial⟩) ?_
  conv => whnf
  repeat' first
    | (refine CondP.yes ?_; conv => whnf)
    | (refine CondP.not ?_; conv => whnf)
    | ((first | refine CondP.dec (fun h => ?_) (fun h => ?_) | refine CondP.ndec (fun h => ?_) (fun h => ?_)) <;> first | (exfalso; first | omega | exact h (by assumption) | exact absurd h (by assumption)) | (conv => whnf))
    | (refine Both.mk ?_ ?_ <;> (conv => whnf))
    | (refine Keep.mk (by repeat' first | exact trivial | rfl | refine And.intro ?_ ?_) ?_; conv => whnf)
    | (refine And.intro (by first | decide | omega) ?_; conv => whnf)
    | fail
  refine CallP.is (toInt64S_ret l _ hb) rfl ?_
  conv => whnf
  repeat' first
    | (refine CondP.yes ?_; conv => whnf)
    | (refine CondP.not ?_; conv => whnf)
    | ((first | refine CondP.dec (fun h => ?_) (fun h => ?_) | refine CondP.ndec (fun h => ?_) (fun h => ?_)) <;> first | (exfalso; first | omega | exact h (by assumption) | exact absurd h (by assumption)) | (conv => whnf))
    | (refine Both.mk ?_ ?_ <;> (conv => whnf))
    | (refine Keep.mk (by repeat' first | exact trivial | rfl | refine And.intro ?_ ?_) ?_; conv => whnf)
    | (refine And.intro (by first | decide | omega) ?_; conv => whnf)
    | fail
  refine CallP.convAIs (h2 _) (by repeat' first | exact trivial | exact cvSame rfl | exact cvNil | exact cvOwn rfl (by (first | rfl | (simp only [List.length_map]; done) | (simp only [List.length_map]; first | rfl | assumption | omega))) | exact cvcSame rfl | exact cvcNil | exact cvcOwn rfl (by (first | rfl | (simp only [List.length_map]; done) | (simp only [List.length_map]; first | rfl | assumption | omega))) | refine cvBox rfl ?_ rfl | refine cvAgg ?_ | refine And.intro ?_ ?_) rfl (by first | exact trivial | exact ⟨flat_ivs _, trivial⟩) ?_
  conv => whnf
  repeat' first
    | (refine CondP.yes ?_; conv => whnf)
    | (refine CondP.not ?_; conv => whnf)
    | ((first | refine CondP.dec (fun h => ?_) (fun h => ?_) | refine CondP.ndec (fun h => ?_) (fun h => ?_)) <;> first | (exfalso; first | omega | exact h (by assumption) | exact absurd h (by assumption)) | (conv => whnf))
    | (refine Both.mk ?_ ?_ <;> (conv => whnf))
    | (refine Keep.mk (by repeat' first | exact trivial | rfl | refine And.intro ?_ ?_) ?_; conv => whnf)
    | (refine And.intro (by first | decide | omega) ?_; conv => whnf)
    | fail
  refine CallP.convAIs (eqIntsResult_yes 0 b _ (by omega)) (by repeat' first | exact trivial | exact cvSame rfl | exact cvNil | exact cvOwn rfl (by (first | rfl | (simp only [List.length_map]; done) | (simp only [List.length_map]; first | rfl | assumption | omega))) | exact cvcSame rfl | exact cvcNil | exact cvcOwn rfl (by (first | rfl | (simp only [List.length_map]; done) | (simp only [List.length_map]; first | rfl | assumption | omega))) | refine cvBox rfl ?_ rfl | refine cvAgg ?_ | refine And.intro ?_ ?_) rfl (by first | exact trivial | exact ⟨flat_ivs _, trivial⟩) ?_
  conv => whnf
  repeat' first
    | (refine CondP.yes ?_; conv => whnf)
    | (refine CondP.not ?_; conv => whnf)
    | ((first | refine CondP.dec (fun h => ?_) (fun h => ?_) | refine CondP.ndec (fun h => ?_) (fun h => ?_)) <;> first | (exfalso; first | omega | exact h (by assumption) | exact absurd h (by assumption)) | (conv => whnf))
    | (refine Both.mk ?_ ?_ <;> (conv => whnf))
    | (refine Keep.mk (by repeat' first | exact trivial | rfl | refine And.intro ?_ ?_) ?_; conv => whnf)
    | (refine And.intro (by first | decide | omega) ?_; conv => whnf)
    | fail
  refine CallP.is (toInt64S_ret l _ hb) rfl ?_
  conv => whnf
  repeat' first
    | (refine CondP.yes ?_; conv => whnf)
    | (refine CondP.not ?_; conv => whnf)
    | ((first | refine CondP.dec (fun h => ?_) (fun h => ?_) | refine CondP.ndec (fun h => ?_) (fun h => ?_)) <;> first | (exfalso; first | omega | exact h (by assumption) | exact absurd h (by assumption)) | (conv => whnf))
    | (refine Both.mk ?_ ?_ <;> (conv => whnf))
    | (refine Keep.mk (by repeat' first | exact trivial | rfl | refine And.intro ?_ ?_) ?_; conv => whnf)
    | (refine And.intro (by first | decide | omega) ?_; conv => whnf)
    | fail
  refine CallP.convAIs (eqI_yes l _ hb) (by repeat' first | exact trivial | exact cvSame rfl | exact cvNil | exact cvOwn rfl (by (first | rfl | (simp only [List.length_map]; done) | (simp only [List.length_map]; first | rfl | assumption | omega))) | exact cvcSame rfl | exact cvcNil | exact cvcOwn rfl (by (first | rfl | (simp only [List.length_map]; done) | (simp only [List.length_map]; first | rfl | assumption | omega))) | refine cvBox rfl ?_ rfl | refine cvAgg ?_ | refine And.intro ?_ ?_) rfl (by first | exact trivial | exact ⟨flat_ivs _, trivial⟩) ?_
  conv => whnf
  repeat' first
    | (refine CondP.yes ?_; conv => whnf)
    | (refine CondP.not ?_; conv => whnf)
    | ((first | refine CondP.dec (fun h => ?_) (fun h => ?_) | refine CondP.ndec (fun h => ?_) (fun h => ?_)) <;> first | (exfalso; first | omega | exact h (by assumption) | exact absurd h (by assumption)) | (conv => whnf))
    | (refine Both.mk ?_ ?_ <;> (conv => whnf))
    | (refine Keep.mk (by repeat' first | exact trivial | rfl | refine And.intro ?_ ?_) ?_; conv => whnf)
    | (refine And.intro (by first | decide | omega) ?_; conv => whnf)
    | fail
  refine CallP.heapIs (markInt64S_ret l 3 1 _ hb (by omega)) rfl (by repeat' first | exact trivial | rfl | exact leafI (by first | rfl | omega | (simp (disch := omega) only [Int.reduceToNat, IntKind.bits, Nat.min_eq_left, Int.reducePow, IntWalk.i64_in, IntWalk.rem_in, IntWalk.i64_quo, IntWalk.u8_in, IntWalk.u32_in, IntWalk.u64_in]; done) | (simp (disch := omega) only [Int.reduceToNat, IntKind.bits, Nat.min_eq_left, Int.reducePow, IntWalk.i64_in, IntWalk.rem_in, IntWalk.i64_quo, IntWalk.u8_in, IntWalk.u32_in, IntWalk.u64_in]; omega)) | refine And.intro ?_ ?_) rfl ?_
  conv => whnf
  repeat' first
    | (refine CondP.yes ?_; conv => whnf)
    | (refine CondP.not ?_; conv => whnf)
    | ((first | refine CondP.dec (fun h => ?_) (fun h => ?_) | refine CondP.ndec (fun h => ?_) (fun h => ?_)) <;> first | (exfalso; first | omega | exact h (by assumption) | exact absurd h (by assumption)) | (conv => whnf))
    | (refine Both.mk ?_ ?_ <;> (conv => whnf))
    | (refine Keep.mk (by repeat' first | exact trivial | rfl | refine And.intro ?_ ?_) ?_; conv => whnf)
    | (refine And.intro (by first | decide | omega) ?_; conv => whnf)
    | fail
  refine CallP.convAIs (eqIntsResult_yes 0 b _ (by omega)) (by repeat' first | exact trivial | exact cvSame rfl | exact cvNil | exact cvOwn rfl (by (first | rfl | (simp only [List.length_map]; done) | (simp only [List.length_map]; first | rfl | assumption | omega))) | exact cvcSame rfl | exact cvcNil | exact cvcOwn rfl (by (first | rfl | (simp only [List.length_map]; done) | (simp only [List.length_map]; first | rfl | assumption | omega))) | refine cvBox rfl ?_ rfl | refine cvAgg ?_ | refine And.intro ?_ ?_) rfl (by first | exact trivial | exact ⟨flat_ivs _, trivial⟩) ?_
  conv => whnf
  repeat' first
    | (refine CondP.yes ?_; conv => whnf)
    | (refine CondP.not ?_; conv => whnf)
    | ((first | refine CondP.dec (fun h => ?_) (fun h => ?_) | refine CondP.ndec (fun h => ?_) (fun h => ?_)) <;> first | (exfalso; first | omega | exact h (by assumption) | exact absurd h (by assumption)) | (conv => whnf))
    | (refine Both.mk ?_ ?_ <;> (conv => whnf))
    | (refine Keep.mk (by repeat' first | exact trivial | rfl | refine And.intro ?_ ?_) ?_; conv => whnf)
    | (refine And.intro (by first | decide | omega) ?_; conv => whnf)
    | fail
  refine CallP.heapIs (markIntsResult_ret 0 b 4 1 _ (by omega) (by omega)) rfl (by repeat' first | exact trivial | rfl | exact leafI (by first | rfl | omega | (simp (disch := omega) only [Int.reduceToNat, IntKind.bits, Nat.min_eq_left, Int.reducePow, IntWalk.i64_in, IntWalk.rem_in, IntWalk.i64_quo, IntWalk.u8_in, IntWalk.u32_in, IntWalk.u64_in]; done) | (simp (disch := omega) only [Int.reduceToNat, IntKind.bits, Nat.min_eq_left, Int.reducePow, IntWalk.i64_in, IntWalk.rem_in, IntWalk.i64_quo, IntWalk.u8_in, IntWalk.u32_in, IntWalk.u64_in]; omega)) | refine And.intro ?_ ?_) rfl ?_
  conv => whnf
  repeat' first
    | (refine CondP.yes ?_; conv => whnf)
    | (refine CondP.not ?_; conv => whnf)
    | ((first | refine CondP.dec (fun h => ?_) (fun h => ?_) | refine CondP.ndec (fun h => ?_) (fun h => ?_)) <;> first | (exfalso; first | omega | exact h (by assumption) | exact absurd h (by assumption)) | (conv => whnf))
    | (refine Both.mk ?_ ?_ <;> (conv => whnf))
    | (refine Keep.mk (by repeat' first | exact trivial | rfl | refine And.intro ?_ ?_) ?_; conv => whnf)
    | (refine And.intro (by first | decide | omega) ?_; conv => whnf)
    | fail
  refine CallP.heapIs (heldIntsResult_ret 0 b.length 4 1 _ (by omega) (by omega)) rfl (by repeat' first | exact trivial | rfl | exact leafI (by first | rfl | omega | (simp (disch := omega) only [Int.reduceToNat, IntKind.bits, Nat.min_eq_left, Int.reducePow, IntWalk.i64_in, IntWalk.rem_in, IntWalk.i64_quo, IntWalk.u8_in, IntWalk.u32_in, IntWalk.u64_in]; done) | (simp (disch := omega) only [Int.reduceToNat, IntKind.bits, Nat.min_eq_left, Int.reducePow, IntWalk.i64_in, IntWalk.rem_in, IntWalk.i64_quo, IntWalk.u8_in, IntWalk.u32_in, IntWalk.u64_in]; omega)) | refine And.intro ?_ ?_) rfl ?_
  conv => whnf
  repeat' first
    | (refine CondP.yes ?_; conv => whnf)
    | (refine CondP.not ?_; conv => whnf)
    | ((first | refine CondP.dec (fun h => ?_) (fun h => ?_) | refine CondP.ndec (fun h => ?_) (fun h => ?_)) <;> first | (exfalso; first | omega | exact h (by assumption) | exact absurd h (by assumption)) | (conv => whnf))
    | (refine Both.mk ?_ ?_ <;> (conv => whnf))
    | (refine Keep.mk (by repeat' first | exact trivial | rfl | refine And.intro ?_ ?_) ?_; conv => whnf)
    | (refine And.intro (by first | decide | omega) ?_; conv => whnf)
    | fail
  refine CallP.is (toInt64S_ret l _ hb) rfl ?_
  conv => whnf
  repeat' first
    | (refine CondP.yes ?_; conv => whnf)
    | (refine CondP.not ?_; conv => whnf)
    | ((first | refine CondP.dec (fun h => ?_) (fun h => ?_) | refine CondP.ndec (fun h => ?_) (fun h => ?_)) <;> first | (exfalso; first | omega | exact h (by assumption) | exact absurd h (by assumption)) | (conv => whnf))
    | (refine Both.mk ?_ ?_ <;> (conv => whnf))
    | (refine Keep.mk (by repeat' first | exact trivial | rfl | refine And.intro ?_ ?_) ?_; conv => whnf)
    | (refine And.intro (by first | decide | omega) ?_; conv => whnf)
    | fail
  refine CallP.convAIs (h2 _) (by repeat' first | exact trivial | exact cvSame rfl | exact cvNil | exact cvOwn rfl (by (first | rfl | (simp only [List.length_map]; done) | (simp only [List.length_map]; first | rfl | assumption | omega))) | exact cvcSame rfl | exact cvcNil | exact cvcOwn rfl (by (first | rfl | (simp only [List.length_map]; done) | (simp only [List.length_map]; first | rfl | assumption | omega))) | refine cvBox rfl ?_ rfl | refine cvAgg ?_ | refine And.intro ?_ ?_) rfl (by first | exact trivial | exact ⟨flat_ivs _, trivial⟩) ?_
  conv => whnf
  repeat' first
    | (refine CondP.yes ?_; conv => whnf)
    | (refine CondP.not ?_; conv => whnf)
    | ((first | refine CondP.dec (fun h => ?_) (fun h => ?_) | refine CondP.ndec (fun h => ?_) (fun h => ?_)) <;> first | (exfalso; first | omega | exact h (by assumption) | exact absurd h (by assumption)) | (conv => whnf))
    | (refine Both.mk ?_ ?_ <;> (conv => whnf))
    | (refine Keep.mk (by repeat' first | exact trivial | rfl | refine And.intro ?_ ?_) ?_; conv => whnf)
    | (refine And.intro (by first | decide | omega) ?_; conv => whnf)
    | fail
  refine CallP.convAIs (eqIntsResult_yes 0 b _ (by omega)) (by repeat' first | exact trivial | exact cvSame rfl | exact cvNil | exact cvOwn rfl (by (first | rfl | (simp only [List.length_map]; done) | (simp only [List.length_map]; first | rfl | assumption | omega))) | exact cvcSame rfl | exact cvcNil | exact cvcOwn rfl (by (first | rfl | (simp only [List.length_map]; done) | (simp only [List.length_map]; first | rfl | assumption | omega))) | refine cvBox rfl ?_ rfl | refine cvAgg ?_ | refine And.intro ?_ ?_) rfl (by first | exact trivial | exact ⟨flat_ivs _, trivial⟩) ?_
  conv => whnf
  repeat' first
    | (refine CondP.yes ?_; conv => whnf)
    | (refine CondP.not ?_; conv => whnf)
    | ((first | refine CondP.dec (fun h => ?_) (fun h => ?_) | refine CondP.ndec (fun h => ?_) (fun h => ?_)) <;> first | (exfalso; first | omega | exact h (by assumption) | exact absurd h (by assumption)) | (conv => whnf))
    | (refine Both.mk ?_ ?_ <;> (conv => whnf))
    | (refine Keep.mk (by repeat' first | exact trivial | rfl | refine And.intro ?_ ?_) ?_; conv => whnf)
    | (refine And.intro (by first | decide | omega) ?_; conv => whnf)
    | fail
  refine CallP.heapIs (heldIntsResult_ret 0 b.length 4 1 _ (by omega) (by omega)) rfl (by repeat' first | exact trivial | rfl | exact leafI (by first | rfl | omega | (simp (disch := omega) only [Int.reduceToNat, IntKind.bits, Nat.min_eq_left, Int.reducePow, IntWalk.i64_in, IntWalk.rem_in, IntWalk.i64_quo, IntWalk.u8_in, IntWalk.u32_in, IntWalk.u64_in]; done) | (simp (disch := omega) only [Int.reduceToNat, IntKind.bits, Nat.min_eq_left, Int.reducePow, IntWalk.i64_in, IntWalk.rem_in, IntWalk.i64_quo, IntWalk.u8_in, IntWalk.u32_in, IntWalk.u64_in]; omega)) | refine And.intro ?_ ?_) rfl ?_
  conv => whnf
  repeat' first
    | (refine CondP.yes ?_; conv => whnf)
    | (refine CondP.not ?_; conv => whnf)
    | ((first | refine CondP.dec (fun h => ?_) (fun h => ?_) | refine CondP.ndec (fun h => ?_) (fun h => ?_)) <;> first | (exfalso; first | omega | exact h (by assumption) | exact absurd h (by assumption)) | (conv => whnf))
    | (refine Both.mk ?_ ?_ <;> (conv => whnf))
    | (refine Keep.mk (by repeat' first | exact trivial | rfl | refine And.intro ?_ ?_) ?_; conv => whnf)
    | (refine And.intro (by first | decide | omega) ?_; conv => whnf)
    | fail
  exact FinOk.pure rfl rfl rfl rfl
theorem lawBranchOf_no (l : List Int) (k : Int) (n : Nat) (hc : branchC l k ≠ 0) : Ret Try.prog 9 [il l, iv k] [] n true (fun r _ _ => r = bv true) := by
  have hL : (ivs l).length = l.length := by simp
  by_cases hb : l.length ≤ 1048576
  · have h1 := fun n => specBranchOf_no l k n hb hc
    have h2 := fun n => implBranchOf_no l k n hb hc
    generalize branchC l k = c at *
    refine Ret.fn ttOk Try.func9 rfl Try.call9 rfl rfl ?_
    conv => whnf
    repeat' first
      | (refine CondP.yes ?_; conv => whnf)
      | (refine CondP.not ?_; conv => whnf)
      | ((first | refine CondP.dec (fun h => ?_) (fun h => ?_) | refine CondP.ndec (fun h => ?_) (fun h => ?_)) <;> first | (exfalso; first | omega | exact h (by assumption) | exact absurd h (by assumption)) | (conv => whnf))
      | (refine Both.mk ?_ ?_ <;> (conv => whnf))
      | (refine Keep.mk (by repeat' first | exact trivial | rfl | refine And.intro ?_ ?_) ?_; conv => whnf)
      | (refine And.intro (by first | decide | omega) ?_; conv => whnf)
      | fail
    refine CallP.is (toInt64S_ret l _ hb) rfl ?_
    conv => whnf
    repeat' first
      | (refine CondP.yes ?_; conv => whnf)
      | (refine CondP.not ?_; conv => whnf)
      | ((first | refine CondP.dec (fun h => ?_) (fun h => ?_) | refine CondP.ndec (fun h => ?_) (fun h => ?_)) <;> first | (exfalso; first | omega | exact h (by assumption) | exact absurd h (by assumption)) | (conv => whnf))
      | (refine Both.mk ?_ ?_ <;> (conv => whnf))
      | (refine Keep.mk (by repeat' first | exact trivial | rfl | refine And.intro ?_ ?_) ?_; conv => whnf)
      | (refine And.intro (by first | decide | omega) ?_; conv => whnf)
      | fail
    refine CallP.convAIs (h1 _) (by repeat' first | exact trivial | exact cvSame rfl | exact cvNil | exact cvOwn rfl (by (first | rfl | (simp only [List.length_map]; done) | (simp only [List.length_map]; first | rfl | assumption | omega))) | exact cvcSame rfl | exact cvcNil | exact cvcOwn rfl (by (first | rfl | (simp only [List.length_map]; done) | (simp only [List.length_map]; first | rfl | assumption | omega))) | refine cvBox rfl ?_ rfl | refine cvAgg ?_ | refine And.intro ?_ ?_) rfl (by first | exact trivial | exact ⟨flat_ivs _, trivial⟩) ?_
    conv => whnf
    repeat' first
      | (refine CondP.yes ?_; conv => whnf)
      | (refine CondP.not ?_; conv => whnf)
      | ((first | refine CondP.dec (fun h => ?_) (fun h => ?_) | refine CondP.ndec (fun h => ?_) (fun h => ?_)) <;> first | (exfalso; first | omega | exact h (by assumption) | exact absurd h (by assumption)) | (conv => whnf))
      | (refine Both.mk ?_ ?_ <;> (conv => whnf))
      | (refine Keep.mk (by repeat' first | exact trivial | rfl | refine And.intro ?_ ?_) ?_; conv => whnf)
      | (refine And.intro (by first | decide | omega) ?_; conv => whnf)
      | fail
    refine CallP.is (toInt64S_ret l _ hb) rfl ?_
    conv => whnf
    repeat' first
      | (refine CondP.yes ?_; conv => whnf)
      | (refine CondP.not ?_; conv => whnf)
      | ((first | refine CondP.dec (fun h => ?_) (fun h => ?_) | refine CondP.ndec (fun h => ?_) (fun h => ?_)) <;> first | (exfalso; first | omega | exact h (by assumption) | exact absurd h (by assumption)) | (conv => whnf))
      | (refine Both.mk ?_ ?_ <;> (conv => whnf))
      | (refine Keep.mk (by repeat' first | exact trivial | rfl | refine And.intro ?_ ?_) ?_; conv => whnf)
      | (refine And.intro (by first | decide | omega) ?_; conv => whnf)
      | fail
    refine CallP.convAIs (h2 _) (by repeat' first | exact trivial | exact cvSame rfl | exact cvNil | exact cvOwn rfl (by (first | rfl | (simp only [List.length_map]; done) | (simp only [List.length_map]; first | rfl | assumption | omega))) | exact cvcSame rfl | exact cvcNil | exact cvcOwn rfl (by (first | rfl | (simp only [List.length_map]; done) | (simp only [List.length_map]; first | rfl | assumption | omega))) | refine cvBox rfl ?_ rfl | refine cvAgg ?_ | refine And.intro ?_ ?_) rfl (by first | exact trivial | exact ⟨flat_ivs _, trivial⟩) ?_
    conv => whnf
    repeat' first
      | (refine CondP.yes ?_; conv => whnf)
      | (refine CondP.not ?_; conv => whnf)
      | ((first | refine CondP.dec (fun h => ?_) (fun h => ?_) | refine CondP.ndec (fun h => ?_) (fun h => ?_)) <;> first | (exfalso; first | omega | exact h (by assumption) | exact absurd h (by assumption)) | (conv => whnf))
      | (refine Both.mk ?_ ?_ <;> (conv => whnf))
      | (refine Keep.mk (by repeat' first | exact trivial | rfl | refine And.intro ?_ ?_) ?_; conv => whnf)
      | (refine And.intro (by first | decide | omega) ?_; conv => whnf)
      | fail
    refine CallP.convAIs (eqIntsResult_yes c [] _ (Nat.zero_le _)) (by repeat' first | exact trivial | exact cvSame rfl | exact cvNil | exact cvOwn rfl (by (first | rfl | (simp only [List.length_map]; done) | (simp only [List.length_map]; first | rfl | assumption | omega))) | exact cvcSame rfl | exact cvcNil | exact cvcOwn rfl (by (first | rfl | (simp only [List.length_map]; done) | (simp only [List.length_map]; first | rfl | assumption | omega))) | refine cvBox rfl ?_ rfl | refine cvAgg ?_ | refine And.intro ?_ ?_) rfl (by first | exact trivial | exact ⟨flat_ivs _, trivial⟩) ?_
    conv => whnf
    repeat' first
      | (refine CondP.yes ?_; conv => whnf)
      | (refine CondP.not ?_; conv => whnf)
      | ((first | refine CondP.dec (fun h => ?_) (fun h => ?_) | refine CondP.ndec (fun h => ?_) (fun h => ?_)) <;> first | (exfalso; first | omega | exact h (by assumption) | exact absurd h (by assumption)) | (conv => whnf))
      | (refine Both.mk ?_ ?_ <;> (conv => whnf))
      | (refine Keep.mk (by repeat' first | exact trivial | rfl | refine And.intro ?_ ?_) ?_; conv => whnf)
      | (refine And.intro (by first | decide | omega) ?_; conv => whnf)
      | fail
    refine CallP.is (toInt64S_ret l _ hb) rfl ?_
    conv => whnf
    repeat' first
      | (refine CondP.yes ?_; conv => whnf)
      | (refine CondP.not ?_; conv => whnf)
      | ((first | refine CondP.dec (fun h => ?_) (fun h => ?_) | refine CondP.ndec (fun h => ?_) (fun h => ?_)) <;> first | (exfalso; first | omega | exact h (by assumption) | exact absurd h (by assumption)) | (conv => whnf))
      | (refine Both.mk ?_ ?_ <;> (conv => whnf))
      | (refine Keep.mk (by repeat' first | exact trivial | rfl | refine And.intro ?_ ?_) ?_; conv => whnf)
      | (refine And.intro (by first | decide | omega) ?_; conv => whnf)
      | fail
    refine CallP.convAIs (eqI_yes l _ hb) (by repeat' first | exact trivial | exact cvSame rfl | exact cvNil | exact cvOwn rfl (by (first | rfl | (simp only [List.length_map]; done) | (simp only [List.length_map]; first | rfl | assumption | omega))) | exact cvcSame rfl | exact cvcNil | exact cvcOwn rfl (by (first | rfl | (simp only [List.length_map]; done) | (simp only [List.length_map]; first | rfl | assumption | omega))) | refine cvBox rfl ?_ rfl | refine cvAgg ?_ | refine And.intro ?_ ?_) rfl (by first | exact trivial | exact ⟨flat_ivs _, trivial⟩) ?_
    conv => whnf
    repeat' first
      | (refine CondP.yes ?_; conv => whnf)
      | (refine CondP.not ?_; conv => whnf)
      | ((first | refine CondP.dec (fun h => ?_) (fun h => ?_) | refine CondP.ndec (fun h => ?_) (fun h => ?_)) <;> first | (exfalso; first | omega | exact h (by assumption) | exact absurd h (by assumption)) | (conv => whnf))
      | (refine Both.mk ?_ ?_ <;> (conv => whnf))
      | (refine Keep.mk (by repeat' first | exact trivial | rfl | refine And.intro ?_ ?_) ?_; conv => whnf)
      | (refine And.intro (by first | decide | omega) ?_; conv => whnf)
      | fail
    refine CallP.heapIs (markInt64S_ret l 2 1 _ hb (by omega)) rfl (by repeat' first | exact trivial | rfl | exact leafI (by first | rfl | omega | (simp (disch := omega) only [Int.reduceToNat, IntKind.bits, Nat.min_eq_left, Int.reducePow, IntWalk.i64_in, IntWalk.rem_in, IntWalk.i64_quo, IntWalk.u8_in, IntWalk.u32_in, IntWalk.u64_in]; done) | (simp (disch := omega) only [Int.reduceToNat, IntKind.bits, Nat.min_eq_left, Int.reducePow, IntWalk.i64_in, IntWalk.rem_in, IntWalk.i64_quo, IntWalk.u8_in, IntWalk.u32_in, IntWalk.u64_in]; omega)) | refine And.intro ?_ ?_) rfl ?_
    conv => whnf
    repeat' first
      | (refine CondP.yes ?_; conv => whnf)
      | (refine CondP.not ?_; conv => whnf)
      | ((first | refine CondP.dec (fun h => ?_) (fun h => ?_) | refine CondP.ndec (fun h => ?_) (fun h => ?_)) <;> first | (exfalso; first | omega | exact h (by assumption) | exact absurd h (by assumption)) | (conv => whnf))
      | (refine Both.mk ?_ ?_ <;> (conv => whnf))
      | (refine Keep.mk (by repeat' first | exact trivial | rfl | refine And.intro ?_ ?_) ?_; conv => whnf)
      | (refine And.intro (by first | decide | omega) ?_; conv => whnf)
      | fail
    refine CallP.convAIs (eqIntsResult_yes c [] _ (Nat.zero_le _)) (by repeat' first | exact trivial | exact cvSame rfl | exact cvNil | exact cvOwn rfl (by (first | rfl | (simp only [List.length_map]; done) | (simp only [List.length_map]; first | rfl | assumption | omega))) | exact cvcSame rfl | exact cvcNil | exact cvcOwn rfl (by (first | rfl | (simp only [List.length_map]; done) | (simp only [List.length_map]; first | rfl | assumption | omega))) | refine cvBox rfl ?_ rfl | refine cvAgg ?_ | refine And.intro ?_ ?_) rfl (by first | exact trivial | exact ⟨flat_ivs _, trivial⟩) ?_
    conv => whnf
    repeat' first
      | (refine CondP.yes ?_; conv => whnf)
      | (refine CondP.not ?_; conv => whnf)
      | ((first | refine CondP.dec (fun h => ?_) (fun h => ?_) | refine CondP.ndec (fun h => ?_) (fun h => ?_)) <;> first | (exfalso; first | omega | exact h (by assumption) | exact absurd h (by assumption)) | (conv => whnf))
      | (refine Both.mk ?_ ?_ <;> (conv => whnf))
      | (refine Keep.mk (by repeat' first | exact trivial | rfl | refine And.intro ?_ ?_) ?_; conv => whnf)
      | (refine And.intro (by first | decide | omega) ?_; conv => whnf)
      | fail
    refine CallP.is (markIntsResult_nil c 1 _) rfl ?_
    conv => whnf
    repeat' first
      | (refine CondP.yes ?_; conv => whnf)
      | (refine CondP.not ?_; conv => whnf)
      | ((first | refine CondP.dec (fun h => ?_) (fun h => ?_) | refine CondP.ndec (fun h => ?_) (fun h => ?_)) <;> first | (exfalso; first | omega | exact h (by assumption) | exact absurd h (by assumption)) | (conv => whnf))
      | (refine Both.mk ?_ ?_ <;> (conv => whnf))
      | (refine Keep.mk (by repeat' first | exact trivial | rfl | refine And.intro ?_ ?_) ?_; conv => whnf)
      | (refine And.intro (by first | decide | omega) ?_; conv => whnf)
      | fail
    refine CallP.is (heldIntsResult_nil c 1 _ (by decide)) rfl ?_
    conv => whnf
    repeat' first
      | (refine CondP.yes ?_; conv => whnf)
      | (refine CondP.not ?_; conv => whnf)
      | ((first | refine CondP.dec (fun h => ?_) (fun h => ?_) | refine CondP.ndec (fun h => ?_) (fun h => ?_)) <;> first | (exfalso; first | omega | exact h (by assumption) | exact absurd h (by assumption)) | (conv => whnf))
      | (refine Both.mk ?_ ?_ <;> (conv => whnf))
      | (refine Keep.mk (by repeat' first | exact trivial | rfl | refine And.intro ?_ ?_) ?_; conv => whnf)
      | (refine And.intro (by first | decide | omega) ?_; conv => whnf)
      | fail
    refine CallP.is (toInt64S_ret l _ hb) rfl ?_
    conv => whnf
    repeat' first
      | (refine CondP.yes ?_; conv => whnf)
      | (refine CondP.not ?_; conv => whnf)
      | ((first | refine CondP.dec (fun h => ?_) (fun h => ?_) | refine CondP.ndec (fun h => ?_) (fun h => ?_)) <;> first | (exfalso; first | omega | exact h (by assumption) | exact absurd h (by assumption)) | (conv => whnf))
      | (refine Both.mk ?_ ?_ <;> (conv => whnf))
      | (refine Keep.mk (by repeat' first | exact trivial | rfl | refine And.intro ?_ ?_) ?_; conv => whnf)
      | (refine And.intro (by first | decide | omega) ?_; conv => whnf)
      | fail
    refine CallP.convAIs (h2 _) (by repeat' first | exact trivial | exact cvSame rfl | exact cvNil | exact cvOwn rfl (by (first | rfl | (simp only [List.length_map]; done) | (simp only [List.length_map]; first | rfl | assumption | omega))) | exact cvcSame rfl | exact cvcNil | exact cvcOwn rfl (by (first | rfl | (simp only [List.length_map]; done) | (simp only [List.length_map]; first | rfl | assumption | omega))) | refine cvBox rfl ?_ rfl | refine cvAgg ?_ | refine And.intro ?_ ?_) rfl (by first | exact trivial | exact ⟨flat_ivs _, trivial⟩) ?_
    conv => whnf
    repeat' first
      | (refine CondP.yes ?_; conv => whnf)
      | (refine CondP.not ?_; conv => whnf)
      | ((first | refine CondP.dec (fun h => ?_) (fun h => ?_) | refine CondP.ndec (fun h => ?_) (fun h => ?_)) <;> first | (exfalso; first | omega | exact h (by assumption) | exact absurd h (by assumption)) | (conv => whnf))
      | (refine Both.mk ?_ ?_ <;> (conv => whnf))
      | (refine Keep.mk (by repeat' first | exact trivial | rfl | refine And.intro ?_ ?_) ?_; conv => whnf)
      | (refine And.intro (by first | decide | omega) ?_; conv => whnf)
      | fail
    refine CallP.convAIs (eqIntsResult_yes c [] _ (Nat.zero_le _)) (by repeat' first | exact trivial | exact cvSame rfl | exact cvNil | exact cvOwn rfl (by (first | rfl | (simp only [List.length_map]; done) | (simp only [List.length_map]; first | rfl | assumption | omega))) | exact cvcSame rfl | exact cvcNil | exact cvcOwn rfl (by (first | rfl | (simp only [List.length_map]; done) | (simp only [List.length_map]; first | rfl | assumption | omega))) | refine cvBox rfl ?_ rfl | refine cvAgg ?_ | refine And.intro ?_ ?_) rfl (by first | exact trivial | exact ⟨flat_ivs _, trivial⟩) ?_
    conv => whnf
    repeat' first
      | (refine CondP.yes ?_; conv => whnf)
      | (refine CondP.not ?_; conv => whnf)
      | ((first | refine CondP.dec (fun h => ?_) (fun h => ?_) | refine CondP.ndec (fun h => ?_) (fun h => ?_)) <;> first | (exfalso; first | omega | exact h (by assumption) | exact absurd h (by assumption)) | (conv => whnf))
      | (refine Both.mk ?_ ?_ <;> (conv => whnf))
      | (refine Keep.mk (by repeat' first | exact trivial | rfl | refine And.intro ?_ ?_) ?_; conv => whnf)
      | (refine And.intro (by first | decide | omega) ?_; conv => whnf)
      | fail
    refine CallP.is (heldIntsResult_nil c 1 _ (by decide)) rfl ?_
    conv => whnf
    repeat' first
      | (refine CondP.yes ?_; conv => whnf)
      | (refine CondP.not ?_; conv => whnf)
      | ((first | refine CondP.dec (fun h => ?_) (fun h => ?_) | refine CondP.ndec (fun h => ?_) (fun h => ?_)) <;> first | (exfalso; first | omega | exact h (by assumption) | exact absurd h (by assumption)) | (conv => whnf))
      | (refine Both.mk ?_ ?_ <;> (conv => whnf))
      | (refine Keep.mk (by repeat' first | exact trivial | rfl | refine And.intro ?_ ?_) ?_; conv => whnf)
      | (refine And.intro (by first | decide | omega) ?_; conv => whnf)
      | fail
    exact FinOk.pure rfl rfl rfl rfl
  · refine Ret.fn ttOk Try.func9 rfl Try.call9 rfl rfl ?_
    conv => whnf
    repeat' first
      | (refine CondP.yes ?_; conv => whnf)
      | (refine CondP.not ?_; conv => whnf)
      | ((first | refine CondP.dec (fun h => ?_) (fun h => ?_) | refine CondP.ndec (fun h => ?_) (fun h => ?_)) <;> first | (exfalso; first | omega | exact h (by assumption) | exact absurd h (by assumption)) | (conv => whnf))
      | (refine Both.mk ?_ ?_ <;> (conv => whnf))
      | (refine Keep.mk (by repeat' first | exact trivial | rfl | refine And.intro ?_ ?_) ?_; conv => whnf)
      | (refine And.intro (by first | decide | omega) ?_; conv => whnf)
      | fail
    exact FinOk.pure rfl rfl rfl rfl
theorem lawBranchOf (l : List Int) (k : Int) (n : Nat) : Ret Try.prog 9 [il l, iv k] [] n true (fun r _ _ => r = bv true) := by
  by_cases hc : branchC l k = 0
  · obtain ⟨_, j, rfl, _⟩ := branchC_ok hc
    exact lawBranchOf_yes l j n hc
  · exact lawBranchOf_no l k n hc
end Go.Proofs.Ytbghcndemghilaa
