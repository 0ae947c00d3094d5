/-
  CHAPTER 2: the law FnPrograms, the walk.
-/
import Derived.Test.YtgebhcahgmonpaaL5
import Derived.Test.YtgebhcahgmonpaaAmF
namespace Go.Proofs.Ytgebhcahgmonpaa
open Go Go.Am Go.RowKit
set_option linter.unusedVariables false
set_option linter.unusedSimpArgs false
theorem look2 {n : Nat} (o o' : AObj) : Go.Am.look [(n, o), (n + 1, o')] (n + 1) = some o' := by
  rw [look_cons_ne _ _ (by omega), look_cons_eq]
theorem draw_fr (c : List Int) (n : Nat) (hc : ∀ z ∈ c, isU8 z) (hl : c.length ≤ 1048576) :
    Ret Try.prog 25 [ul c] [] n true (fun r ho m => ∃ (p s : List Int) (t u : Int), r = .tup [il p, il s, iv t, iv u] ∧ ho = [] ∧ m = n ∧ p.length ≤ 13 ∧ s.length ≤ 20) := by
  refine (drawRun_ret c n hc hl).freeze ?_
  rintro r ho m ⟨p, s, t, u, rfl, rfl, rfl, hp, hs⟩
  exact ⟨_, .tup _ [il p, il s, iv t, iv u] ⟨frOwn (look_cons_eq _ _ _) (by simp), frOwn (look2 _ _) (by simp), .refl _ rfl (fun _ e => by cases e), .refl _ rfl (fun _ e => by cases e), trivial⟩, p, s, t, u, rfl, rfl, rfl, hp, hs⟩
theorem run2_bad (t u : Int) : ∀ (p s : List Int), (run2 t u p s).1 ≠ 0 → (run2 t u p s).2 = []
  | [], s, h => absurd rfl h
  | op :: p, s, h => by
    rw [run2] at h ⊢
    split
    · rename_i h1; rw [if_pos h1] at h; exact run2_bad t u p _ h
    · rfl
theorem ansR_bad (p s : List Int) (t u : Int) (h : (ansR p s t u).1 ≠ 0) : (ansR p s t u).2 = [] := by
  unfold ansR at h ⊢
  split
  · rename_i h1; rw [if_pos h1] at h; exact run2_bad t u p s h
  · rfl
theorem ansR_fault (p s : List Int) (t u : Int) (h : progC p ≠ 0) : (ansR p s t u).1 = progC p := by
  have hr : runC p s t u = progC p := by unfold runC; rw [if_neg h]
  unfold ansR
  rw [if_neg (by rw [hr]; exact h), hr]
theorem lwNums_yes (a : List Int) (n : Nat) (hl : a.length ≤ 1048576) : Ret Try.prog 28 [il a, il a] [] n true (Is (bv true) [] n) := by
  have := lwNums_ret a a n hl
  simpa using this
theorem run_fr (p s : List Int) (t u : Int) (n : Nat) : Ret Try.prog 26 [il p, il s, iv t, iv u] [] n true (Is (.agg [iv (ansR p s t u).1, il (ansR p s t u).2]) [] n) ∧ Ret Try.prog 27 [il p, il s, iv t, iv u] [] n true (Is (.agg [iv (ansR p s t u).1, il (ansR p s t u).2]) [] n) := by
  rcases run_ans p s t u with ⟨h0, hr⟩ | ⟨h0, hr⟩
  · have h2 : (ansR p s t u).2 = [] := ansR_bad p s t u h0
    rw [h2]
    constructor
    · refine (hr n).1.freeze ?_
      rintro r ho m ⟨rfl, rfl, rfl⟩
      exact ⟨_, .agg _ [iv (ansR p s t u).1, il []] ⟨.refl _ rfl (fun _ e => by cases e), .nil, trivial⟩, rfl, rfl, rfl⟩
    · refine (hr n).2.freeze ?_
      rintro r ho m ⟨rfl, rfl, rfl⟩
      exact ⟨_, .agg _ [iv (ansR p s t u).1, il []] ⟨.refl _ rfl (fun _ e => by cases e), .nil, trivial⟩, rfl, rfl, rfl⟩
  · constructor
    · refine (hr n).1.freeze ?_
      rintro r ho m ⟨rfl, rfl, rfl⟩
      rw [h0]
      exact ⟨_, .agg _ [iv 0, il (ansR p s t u).2] ⟨.refl _ rfl (fun _ e => by cases e), frOwn (look_cons_eq _ _ _) (by simp), trivial⟩, rfl, rfl, rfl⟩
    · refine (hr n).2.freeze ?_
      rintro r ho m ⟨rfl, rfl, rfl⟩
      rw [h0]
      exact ⟨_, .agg _ [iv 0, il (ansR p s t u).2] ⟨.refl _ rfl (fun _ e => by cases e), frOwn (look_cons_eq _ _ _) (by simp), trivial⟩, rfl, rfl, rfl⟩
theorem lawPrograms (c : List Int) (n : Nat) (hc : ∀ z ∈ c, isU8 z) : Ret Try.prog 4 [ul c] [] n true (fun r _ _ => r = bv true) := by
  by_cases hl : c.length ≤ 1048576
  · have hbig := lwBig_ret c
    rw [decide_eq_false (show ¬ 1048576 < (c.length : Int) by omega)] at hbig
    refine Ret.fn ttOk Try.func4 rfl Try.call4 rfl rfl ?_
    conv => whnf
    repeat' first
      | (refine CondP.yes ?_; conv => whnf)
      | (refine CondP.not ?_; conv => whnf)
      | ((first | refine CondP.dec (fun h => ?_) (fun h => ?_) | refine CondP.ndec (fun h => ?_) (fun h => ?_)) <;> first | (exfalso; first | omega | contradiction) | (conv => whnf))
      | (refine Both.mk ?_ ?_ <;> (conv => whnf))
      | (refine And.intro (by first | decide | omega) ?_; conv => whnf)
      | fail
    refine CallP.is (hbig _) rfl ?_
    conv => whnf
    repeat' first
      | (refine CondP.yes ?_; conv => whnf)
      | (refine CondP.not ?_; conv => whnf)
      | ((first | refine CondP.dec (fun h => ?_) (fun h => ?_) | refine CondP.ndec (fun h => ?_) (fun h => ?_)) <;> first | (exfalso; first | omega | contradiction) | (conv => whnf))
      | (refine Both.mk ?_ ?_ <;> (conv => whnf))
      | (refine And.intro (by first | decide | omega) ?_; conv => whnf)
      | fail
    refine CallP.pure (draw_fr c _ hc hl) rfl ?_
    rintro r ho m ⟨p, s, t, u, rfl, rfl, rfl, hpl, hsl⟩
    conv => whnf
    repeat' first
      | (refine CondP.yes ?_; conv => whnf)
      | (refine CondP.not ?_; conv => whnf)
      | ((first | refine CondP.dec (fun h => ?_) (fun h => ?_) | refine CondP.ndec (fun h => ?_) (fun h => ?_)) <;> first | (exfalso; first | omega | contradiction) | (conv => whnf))
      | (refine Both.mk ?_ ?_ <;> (conv => whnf))
      | (refine And.intro (by first | decide | omega) ?_; conv => whnf)
      | fail
    have hL : (ivs p).length = p.length := by simp
    refine CallP.is ((run_fr p s t u _).1) rfl ?_
    conv => whnf
    repeat' first
      | (refine CondP.yes ?_; conv => whnf)
      | (refine CondP.not ?_; conv => whnf)
      | ((first | refine CondP.dec (fun h => ?_) (fun h => ?_) | refine CondP.ndec (fun h => ?_) (fun h => ?_)) <;> first | (exfalso; first | omega | contradiction) | (conv => whnf))
      | (refine Both.mk ?_ ?_ <;> (conv => whnf))
      | (refine And.intro (by first | decide | omega) ?_; conv => whnf)
      | fail
    refine CallP.is ((run_fr p s t u _).2) rfl ?_
    conv => whnf
    repeat' first
      | (refine CondP.yes ?_; conv => whnf)
      | (refine CondP.not ?_; conv => whnf)
      | ((first | refine CondP.dec (fun h => ?_) (fun h => ?_) | refine CondP.ndec (fun h => ?_) (fun h => ?_)) <;> first | (exfalso; first | omega | contradiction) | (conv => whnf))
      | (refine Both.mk ?_ ?_ <;> (conv => whnf))
      | (refine And.intro (by first | decide | omega) ?_; conv => whnf)
      | fail
    have hrl := ansR_len p s t u
    refine CallP.is (lwNums_yes _ _ (by omega)) rfl ?_
    conv => whnf
    repeat' first
      | (refine CondP.yes ?_; conv => whnf)
      | (refine CondP.not ?_; conv => whnf)
      | ((first | refine CondP.dec (fun h => ?_) (fun h => ?_) | refine CondP.ndec (fun h => ?_) (fun h => ?_)) <;> first | (exfalso; first | omega | contradiction) | (conv => whnf))
      | (refine Both.mk ?_ ?_ <;> (conv => whnf))
      | (refine And.intro (by first | decide | omega) ?_; conv => whnf)
      | fail
    refine CallP.is (implOpens_ret p s t u _) rfl ?_
    conv => whnf
    repeat' first
      | (refine CondP.yes ?_; conv => whnf)
      | (refine CondP.not ?_; conv => whnf)
      | ((first | refine CondP.dec (fun h => ?_) (fun h => ?_) | refine CondP.ndec (fun h => ?_) (fun h => ?_)) <;> first | (exfalso; first | omega | contradiction) | (conv => whnf))
      | (refine Both.mk ?_ ?_ <;> (conv => whnf))
      | (refine And.intro (by first | decide | omega) ?_; conv => whnf)
      | fail
    refine CallP.is (specOpens_ret p s t u _) rfl ?_
    conv => whnf
    repeat' first
      | (refine CondP.yes ?_; conv => whnf)
      | (refine CondP.not ?_; conv => whnf)
      | ((first | refine CondP.dec (fun h => ?_) (fun h => ?_) | refine CondP.ndec (fun h => ?_) (fun h => ?_)) <;> first | (exfalso; first | omega | contradiction) | (conv => whnf))
      | (refine Both.mk ?_ ?_ <;> (conv => whnf))
      | (refine And.intro (by first | decide | omega) ?_; conv => whnf)
      | fail
    refine CallP.is (implProgramFault_ret p _) rfl ?_
    conv => whnf
    repeat' first
      | (refine CondP.yes ?_; conv => whnf)
      | (refine CondP.not ?_; conv => whnf)
      | ((first | refine CondP.dec (fun h => ?_) (fun h => ?_) | refine CondP.ndec (fun h => ?_) (fun h => ?_)) <;> first | (exfalso; first | omega | contradiction) | (conv => whnf))
      | (refine Both.mk ?_ ?_ <;> (conv => whnf))
      | (refine And.intro (by first | decide | omega) ?_; conv => whnf)
      | fail
    refine CallP.is (specProgramFault_ret p _) rfl ?_
    conv => whnf
    repeat' first
      | (refine CondP.yes ?_; conv => whnf)
      | (refine CondP.not ?_; conv => whnf)
      | ((first | refine CondP.dec (fun h => ?_) (fun h => ?_) | refine CondP.ndec (fun h => ?_) (fun h => ?_)) <;> first | (exfalso; first | omega | contradiction) | (conv => whnf))
      | (refine Both.mk ?_ ?_ <;> (conv => whnf))
      | (refine And.intro (by first | decide | omega) ?_; conv => whnf)
      | fail
    refine CallP.is (implProgramFault_ret p _) rfl ?_
    conv => whnf
    repeat' first
      | (refine CondP.yes ?_; conv => whnf)
      | (refine CondP.not ?_; conv => whnf)
      | ((first | refine CondP.dec (fun h => ?_) (fun h => ?_) | refine CondP.ndec (fun h => ?_) (fun h => ?_)) <;> first | (exfalso; first | omega | contradiction) | (conv => whnf))
      | (refine Both.mk ?_ ?_ <;> (conv => whnf))
      | (refine And.intro (by first | decide | omega) ?_; conv => whnf)
      | fail
    · have hf := ansR_fault p s t u (by assumption)
      refine CallQ.is (implProgramFault_ret p _) rfl rfl ?_
      conv => whnf
      repeat' first
        | (refine CondP.yes ?_; conv => whnf)
        | (refine CondP.not ?_; conv => whnf)
        | ((first | refine CondP.dec (fun h => ?_) (fun h => ?_) | refine CondP.ndec (fun h => ?_) (fun h => ?_)) <;> first | (exfalso; first | omega | contradiction) | (conv => whnf))
        | (refine Both.mk ?_ ?_ <;> (conv => whnf))
        | (refine And.intro (by first | decide | omega) ?_; conv => whnf)
        | fail
      all_goals rw [decide_eq_true hf]
      all_goals exact FinOk.pure rfl rfl rfl rfl
    · have hp0 : progC p = 0 := by omega
      have hp12 := (progC_ok hp0).1
      have hat := atF_bd c 3 (p.length + 1) (by omega)
      have hw : IntKind.i64.wrap (((ivs p).length : Int) + 1) = p.length + 1 := by rw [hL]; exact IntWalk.i64_in _ (by omega)
      rw [hw]
      refine CallP.is (lwAt_ret c 3 (p.length + 1) _ hc hl (by decide) (by decide) (by omega)) rfl ?_
      conv => whnf
      repeat' first
        | (refine CondP.yes ?_; conv => whnf)
        | (refine CondP.not ?_; conv => whnf)
        | ((first | refine CondP.dec (fun h => ?_) (fun h => ?_) | refine CondP.ndec (fun h => ?_) (fun h => ?_)) <;> first | (exfalso; first | omega | contradiction) | (conv => whnf))
        | (refine Both.mk ?_ ?_ <;> (conv => whnf))
        | (refine And.intro (by first | decide | omega) ?_; conv => whnf)
        | fail
      generalize atF c 3 (p.length + 1) = k at *
      have e1 : List.take (k.toNat - Int.toNat 0) (List.drop (Int.toNat 0) (ivs p)) = ivs (p.take k.toNat) := by simp [ivs, List.map_take]
      have e2 : List.drop k.toNat (ivs p) = ivs (p.drop k.toNat) := by simp [ivs, List.map_drop]
      obtain ⟨g1, g2⟩ := ans_split p s t u k.toNat hp0
      rw [e1]
      refine CallP.is ((run_fr (p.take k.toNat) s t u _).1) rfl ?_
      conv => whnf
      repeat' first
        | (refine CondP.yes ?_; conv => whnf)
        | (refine CondP.not ?_; conv => whnf)
        | ((first | refine CondP.dec (fun h => ?_) (fun h => ?_) | refine CondP.ndec (fun h => ?_) (fun h => ?_)) <;> first | (exfalso; first | omega | contradiction) | (conv => whnf))
        | (refine Both.mk ?_ ?_ <;> (conv => whnf))
        | (refine And.intro (by first | decide | omega) ?_; conv => whnf)
        | fail
      · have g3 := g1 (by assumption)
        rw [decide_eq_true g3]
        exact FinOk.pure rfl rfl rfl rfl
      · have g3 := g2 (by omega)
        have r2 : ∀ m, Ret Try.prog 26 [il (p.drop k.toNat), il (ansR (p.take k.toNat) s t u).2, iv t, iv u] [] m true (Is (.agg [iv (ansR p s t u).1, il (ansR p s t u).2]) [] m) := by
          intro m
          have := (run_fr (p.drop k.toNat) (ansR (p.take k.toNat) s t u).2 t u m).1
          rwa [g3] at this
        refine ⟨⟨by omega, by rw [hL]; omega, ?_⟩, ?_⟩
        · rcases p with _ | ⟨z, p⟩
          · left; simp at hat; omega
          · right; rfl
        conv => whnf
        repeat' first
          | (refine CondP.yes ?_; conv => whnf)
          | (refine CondP.not ?_; conv => whnf)
          | ((first | refine CondP.dec (fun h => ?_) (fun h => ?_) | refine CondP.ndec (fun h => ?_) (fun h => ?_)) <;> first | (exfalso; first | omega | contradiction) | (conv => whnf))
          | (refine Both.mk ?_ ?_ <;> (conv => whnf))
          | (refine And.intro (by first | decide | omega) ?_; conv => whnf)
          | fail
        rw [e2]
        refine CallN.is rfl (r2) ?_
        conv => whnf
        repeat' first
          | (refine CondP.yes ?_; conv => whnf)
          | (refine CondP.not ?_; conv => whnf)
          | ((first | refine CondP.dec (fun h => ?_) (fun h => ?_) | refine CondP.ndec (fun h => ?_) (fun h => ?_)) <;> first | (exfalso; first | omega | contradiction) | (conv => whnf))
          | (refine Both.mk ?_ ?_ <;> (conv => whnf))
          | (refine And.intro (by first | decide | omega) ?_; conv => whnf)
          | fail
        refine CallP.is (lwNums_yes _ _ (by omega)) rfl ?_
        conv => whnf
        repeat' first
          | (refine CondP.yes ?_; conv => whnf)
          | (refine CondP.not ?_; conv => whnf)
          | ((first | refine CondP.dec (fun h => ?_) (fun h => ?_) | refine CondP.ndec (fun h => ?_) (fun h => ?_)) <;> first | (exfalso; first | omega | contradiction) | (conv => whnf))
          | (refine Both.mk ?_ ?_ <;> (conv => whnf))
          | (refine And.intro (by first | decide | omega) ?_; conv => whnf)
          | fail
        · exact FinOk.pure rfl rfl rfl rfl
        · rw [decide_eq_true (show (((ivs (ansR p s t u).2).length : Int) ≤ 8) by simp only [List.length_map]; omega)]
          exact FinOk.pure rfl rfl rfl rfl
  · have hbig := lwBig_ret c
    rw [decide_eq_true (show 1048576 < (c.length : Int) by omega)] at hbig
    refine Ret.fn ttOk Try.func4 rfl Try.call4 rfl rfl ?_
    conv => whnf
    repeat' first
      | (refine CondP.yes ?_; conv => whnf)
      | (refine CondP.not ?_; conv => whnf)
      | ((first | refine CondP.dec (fun h => ?_) (fun h => ?_) | refine CondP.ndec (fun h => ?_) (fun h => ?_)) <;> first | (exfalso; first | omega | contradiction) | (conv => whnf))
      | (refine Both.mk ?_ ?_ <;> (conv => whnf))
      | (refine And.intro (by first | decide | omega) ?_; conv => whnf)
      | fail
    refine CallP.is (hbig _) rfl ?_
    conv => whnf
    repeat' first
      | (refine CondP.yes ?_; conv => whnf)
      | (refine CondP.not ?_; conv => whnf)
      | ((first | refine CondP.dec (fun h => ?_) (fun h => ?_) | refine CondP.ndec (fun h => ?_) (fun h => ?_)) <;> first | (exfalso; first | omega | contradiction) | (conv => whnf))
      | (refine Both.mk ?_ ?_ <;> (conv => whnf))
      | (refine And.intro (by first | decide | omega) ?_; conv => whnf)
      | fail
    exact FinOk.pure rfl rfl rfl rfl
end Go.Proofs.Ytgebhcahgmonpaa
