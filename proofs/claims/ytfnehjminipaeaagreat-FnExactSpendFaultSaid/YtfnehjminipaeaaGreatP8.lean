/-
  CHAPTER 2, the specification's run and the two Opens, by the reading.
-/
import Derived.Test.YtfnehjminipaeaaGreatP5
namespace Go.Proofs.YtfnehjminipaeaaGreat
open Go Go.Am Go.RowKit
set_option linter.unusedVariables false
set_option linter.unusedSimpArgs false
theorem flat_ivs (zs : List Int) : ∀ r ∈ ivs zs, ∀ c ∈ r, ∃ u, c = AV.val u := by
  intro r hr c hc
  obtain ⟨z, _, rfl⟩ := List.mem_map.1 hr
  simp only [List.mem_cons, List.not_mem_nil, or_false] at hc
  exact ⟨_, hc⟩
theorem l2Run_ret (p s : List Int) (t u : Int) (n : Nat) (hp : opsB p = true) (hpl : p.length ≤ 12) (hl : s.length ≤ 8) (hs : allB 0 9999 s = true) : Ret Tryz.prog 302 [il p, il s, iv t, iv u] [] n true (StQ n (run2 t u p s)) := by
  refine Ret.fn ttOk Tryz.func302 rfl Tryz.call302 rfl rfl ?_
  refine Goes ?_
  repeat' first | refine W2.m ?_ ?_ | refine W1.m fun h => ?_ | fail
  first | refine CallP.is (l1Ints_ret s _ (by omega)) rfl ?_ | refine CallQ.is (l1Ints_ret s _ (by omega)) rfl rfl ?_
  refine Goes ?_
  repeat' first | refine W2.m ?_ ?_ | refine W1.m fun h => ?_ | fail
  refine LoopP.go (fun y : Nat × List Int => y.1 ≤ p.length ∧ y.2.length ≤ 8 ∧ allB 0 9999 y.2 = true ∧ run2 t u p s = run2 t u (p.drop y.1) y.2)
    (fun y => ⟨[(0, il p), (2, iv t), (3, iv u), (10, .own 0 y.2.length), (11, iv y.1)], [(0, .list 2 1 (ivs y.2))], 1⟩) (fun y => p.length - y.1) (0, s) ⟨Nat.zero_le _, hl, hs, by rw [List.drop_zero]⟩ ?_ ?_
  · exact Weak.of rfl rfl ktA ktA
  rintro ⟨k, s'⟩ ⟨hk, hl', hs', hr⟩
  dsimp only at hk hl' hs' hr ⊢
  refine Goes ?_
  repeat' first | refine W2.m ?_ ?_ | refine W1.m fun h => ?_ | fail
  · simp only [List.length_map] at h
    have hlt : k < p.length := by omega
    rw [rowK iv1 p k (by omega)]
    refine ⟨by (first | exact ⟨by omega, by omega, rfl⟩ | (simp only [List.length_map]; exact ⟨by omega, by omega, rfl⟩)), ?_⟩
    refine Goes ?_
    repeat' first | refine W2.m ?_ ?_ | refine W1.m fun h => ?_ | fail
    have hst := l2Step_ret p[k] s' t u 1 (opsB_at hp hlt) hl' hs'
    rw [List.drop_eq_getElem_cons hlt, run2] at hr
    refine CallP.conv hst (by show [iv p[k], AV.lst (List.take s'.length (ivs s')), iv t, iv u] = _; rw [takeI]) (by repeat' first | exact trivial | exact Nat.le_refl _ | (show _ ≤ List.length _; exact lenA) | refine And.intro ?_ ?_) ?_
    rintro r ho m hq
    rcases hq with ⟨hc, rfl, rfl, rfl⟩ | ⟨hc, rfl, rfl, rfl⟩
    · refine ⟨⟨rfl, flat_ivs _, trivial⟩, ?_⟩
      rw [if_pos hc] at hr
      obtain ⟨g1, g2⟩ := step2_ok (opsB_at hp hlt) hl' hs' hc
      refine Goes ?_
      repeat' first | refine W2.m ?_ ?_ | refine W1.m fun h => ?_ | fail
      refine ⟨(k + 1, (step2 p[k] s' t u).2), ⟨by show k + 1 ≤ _; omega, g1, g2, hr⟩, by show _ - (k + 1) < _ - k; omega, ?_⟩
      exact Weak.ren [1] rfl rfl ktA ktA
    · refine ⟨⟨rfl, trivial⟩, ?_⟩
      rw [if_neg hc] at hr
      refine Goes ?_
      repeat' first | refine W2.m ?_ ?_ | refine W1.m fun h => ?_ | fail
      rw [hr]
      exact FinOk.mk' [] rfl rfl rfl rfl rfl rfl rfl (.inr ⟨hc, rfl, rfl, rfl⟩)
  · simp only [List.length_map] at h
    obtain rfl : k = p.length := by omega
    rw [List.drop_length, run2] at hr
    rw [hr]
    exact FinOk.mk' [0] rfl rfl rfl rfl rfl rfl rfl (.inl ⟨rfl, rfl, rfl, rfl⟩)
theorem specRun_bad (p s : List Int) (t u : Int) (n : Nat) (hbad : runC p s t u ≠ 0) : Ret Tryz.prog 279 [il p, il s, iv t, iv u] [] n true (Is (.agg [iv (runC p s t u), nl]) [] n) := by
  refine Ret.fn ttOk Tryz.func279 rfl Tryz.call279 rfl rfl ?_
  refine Goes ?_
  repeat' first | refine W2.m ?_ ?_ | refine W1.m fun h => ?_ | fail
  have hL : (ivs s).length = s.length := by simp
  first | refine CallP.is (l2Fault_ret _ _) rfl ?_ | refine CallQ.is (l2Fault_ret _ _) rfl rfl ?_
  refine Goes ?_
  repeat' first | refine W2.m ?_ ?_ | refine W1.m fun h => ?_ | fail
  · have h1 : ¬ progC p = 0 := by assumption
    refine FinOk.pure rfl rfl rfl ⟨?_, rfl, rfl⟩
    unfold runC; rw [if_neg h1]
  · have h1 : progC p = 0 := by omega
    have h2 : 8 < s.length := by omega
    refine FinOk.pure rfl rfl rfl ⟨?_, rfl, rfl⟩
    unfold runC stackC; rw [if_pos h1, if_pos h2]; rfl
  have h1 : progC p = 0 := by omega
  have h2 : ¬ 8 < s.length := by omega
  have ha := l1All_ret s 0 9999
  cases h3 : allB 0 9999 s with
  | false =>
    rw [h3] at ha
    first | refine CallP.is (ha _ (by omega)) rfl ?_ | refine CallQ.is (ha _ (by omega)) rfl rfl ?_
    refine Goes ?_
    repeat' first | refine W2.m ?_ ?_ | refine W1.m fun h => ?_ | fail
    refine FinOk.pure rfl rfl rfl ⟨?_, rfl, rfl⟩
    unfold runC stackC; rw [if_pos h1, if_neg h2, h3]; rfl
  | true =>
    rw [h3] at ha
    first | refine CallP.is (ha _ (by omega)) rfl ?_ | refine CallQ.is (ha _ (by omega)) rfl rfl ?_
    refine Goes ?_
    repeat' first | refine W2.m ?_ ?_ | refine W1.m fun h => ?_ | fail
    have h4 : stackC s = 0 := by unfold stackC; rw [if_neg h2, h3]; rfl
    first | refine CallP.is (l1In_ret _ _ _ _) rfl ?_ | refine CallQ.is (l1In_ret _ _ _ _) rfl rfl ?_
    refine Goes ?_
    repeat' first | refine W2.m ?_ ?_ | refine W1.m fun h => ?_ | fail
    · have h5 : ¬ inR 0 2147483646 t := by assumption
      refine FinOk.pure rfl rfl rfl ⟨?_, rfl, rfl⟩
      unfold runC; rw [if_pos h1, if_pos h4, if_neg (fun h' => h5 h'.1)]
    have h5 : inR 0 2147483646 t := by assumption
    first | refine CallP.is (l1In_ret _ _ _ _) rfl ?_ | refine CallQ.is (l1In_ret _ _ _ _) rfl rfl ?_
    refine Goes ?_
    repeat' first | refine W2.m ?_ ?_ | refine W1.m fun h => ?_ | fail
    · have h6 : ¬ inR 0 9999 u := by assumption
      refine FinOk.pure rfl rfl rfl ⟨?_, rfl, rfl⟩
      unfold runC; rw [if_pos h1, if_pos h4, if_neg (fun h' => h6 h'.2)]
    · have h6 : inR 0 9999 u := by assumption
      exfalso
      refine absurd ?_ hbad
      unfold runC; rw [if_pos h1, if_pos h4, if_pos ⟨h5, h6⟩]
theorem specRun_ret (p s : List Int) (t u : Int) (n : Nat) (h : runC p s t u = 0) : Ret Tryz.prog 279 [il p, il s, iv t, iv u] [] n true (RunQ (run2 t u p s) n) := by
  obtain ⟨h1, h2, h3, h4, h5, h6⟩ := runC_ok h
  have hpc : progC p = 0 := by unfold progC; rw [if_neg (by omega), if_pos h2]
  have hf := l2Fault_ret p
  rw [hpc] at hf
  have ha := l1All_ret s 0 9999
  rw [h4] at ha
  have hL : (ivs s).length = s.length := by simp
  refine Ret.fn ttOk Tryz.func279 rfl Tryz.call279 rfl rfl ?_
  refine Goes ?_
  repeat' first | refine W2.m ?_ ?_ | refine W1.m fun h => ?_ | fail
  first | refine CallP.is (hf _) rfl ?_ | refine CallQ.is (hf _) rfl rfl ?_
  refine Goes ?_
  repeat' first | refine W2.m ?_ ?_ | refine W1.m fun h => ?_ | fail
  first | refine CallP.is (ha _ (by omega)) rfl ?_ | refine CallQ.is (ha _ (by omega)) rfl rfl ?_
  refine Goes ?_
  repeat' first | refine W2.m ?_ ?_ | refine W1.m fun h => ?_ | fail
  first | refine CallP.is (l1In_ret _ _ _ _) rfl ?_ | refine CallQ.is (l1In_ret _ _ _ _) rfl rfl ?_
  refine Goes ?_
  repeat' first | refine W2.m ?_ ?_ | refine W1.m fun h => ?_ | fail
  first | refine CallP.is (l1In_ret _ _ _ _) rfl ?_ | refine CallQ.is (l1In_ret _ _ _ _) rfl rfl ?_
  refine Goes ?_
  repeat' first | refine W2.m ?_ ?_ | refine W1.m fun h => ?_ | fail
  refine CallP.pure (l2Run_ret p s t u _ h2 h1 h3 h4) rfl ?_
  rintro r ho m hq
  rcases hq with ⟨hc, rfl, rfl, rfl⟩ | ⟨hc, rfl, rfl, rfl⟩
  · refine Goes ?_
    repeat' first | refine W2.m ?_ ?_ | refine W1.m fun h => ?_ | fail
    exact FinOk.mk' [1] rfl rfl rfl rfl rfl rfl rfl (.inl ⟨hc, rfl, rfl, rfl⟩)
  · refine Goes ?_
    repeat' first | refine W2.m ?_ ?_ | refine W1.m fun h => ?_ | fail
    exact FinOk.mk' [] rfl rfl rfl rfl rfl rfl rfl (.inr ⟨hc, rfl, rfl, rfl⟩)
/-- What a run leaves is truthy. -/
def topB (x : Int × List Int) : Bool := decide (x.1 = 0) && (decide (0 < x.2.length) && !decide (x.2.getD (x.2.length - 1) 0 = 0))
def opensB (p s : List Int) (t u : Int) : Bool := decide (runC p s t u = 0) && topB (run2 t u p s)
theorem run2_len (t u : Int) : ∀ (p s : List Int), opsB p = true → s.length ≤ 8 → allB 0 9999 s = true → (run2 t u p s).2.length ≤ 8
  | [], s, _, hl, _ => hl
  | op :: p, s, hp, hl, hs => by
    have hop : opB op = true ∧ opsB p = true := by unfold opsB at *; rw [List.all_cons, Bool.and_eq_true] at hp; exact hp
    rw [run2]
    split
    · rename_i h
      obtain ⟨g1, g2⟩ := step2_ok hop.1 hl hs h
      exact run2_len t u p _ hop.2 g1 g2
    · simp
theorem implOpens_ret (p s : List Int) (t u : Int) (n : Nat) : Ret Tryz.prog 28 [il p, il s, iv t, iv u] [] n true (Is (bv (opensB p s t u)) [] n) := by
  by_cases h : runC p s t u = 0
  · have hI := fun n => implRun_ret p s t u n h
    unfold opensB
    rw [decide_eq_true h, Bool.true_and]
    have hlen : (run2 t u p s).2.length ≤ 8 := by
      obtain ⟨_, h2, h3, h4, _, _⟩ := runC_ok h
      exact run2_len t u p s h2 h3 h4
    generalize run2 t u p s = xx at hI hlen ⊢
    obtain ⟨c0, l⟩ := xx
    refine Ret.fn ttOk Tryz.func28 rfl Tryz.call28 rfl rfl ?_
    refine Goes ?_
    repeat' first | refine W2.m ?_ ?_ | refine W1.m fun h => ?_ | fail
    refine CallP.pure (hI _) rfl ?_
    rintro r ho m hq
    rcases hq with ⟨hc, rfl, rfl, rfl⟩ | ⟨hc, rfl, rfl, rfl⟩
    · dsimp only at hc ⊢
      subst hc
      rcases List.eq_nil_or_concat l with rfl | ⟨l1, x, rfl⟩
      · refine Goes ?_
        repeat' first | refine W2.m ?_ ?_ | refine W1.m fun h => ?_ | fail
        refine FinOk.pure rfl rfl rfl ⟨?_, rfl, rfl⟩
        rfl
      rw [List.concat_eq_append] at *
      dsimp only at hlen
      have hL : (l1 ++ [x]).length = l1.length + 1 := by simp
      have htop : topB (0, l1 ++ [x]) = !decide (x = 0) := by
        unfold topB; simp [List.getD_eq_getElem?_getD]
      rw [htop]
      have hw : IntKind.i64.wrap (((l1 ++ [x]).length : Int) - 1) = (l1.length : Int) := lenS l1 x (by omega)
      refine Goes ?_
      repeat' first | refine W2.m ?_ ?_ | refine W1.m fun h => ?_ | fail
      simp only [hw]
      rw [getL0]
      refine ⟨by simp, ?_⟩
      refine Goes ?_
      repeat' first | refine W2.m ?_ ?_ | refine W1.m fun h => ?_ | fail
      refine FinOk.pure rfl rfl rfl ⟨?_, rfl, rfl⟩
      refine bvI ?_
      by_cases hx : x = 0 <;> simp [hx]
    · dsimp only at hc ⊢
      have htop : topB (c0, l) = false := by unfold topB; rw [decide_eq_false hc]; rfl
      rw [htop]
      refine Goes ?_
      repeat' first | refine W2.m ?_ ?_ | refine W1.m fun h => ?_ | fail
      all_goals first
        | (refine FinOk.pure rfl rfl rfl ⟨?_, rfl, rfl⟩; rfl)
        | (exfalso; exact hc (by first | assumption | omega))
  · refine Ret.fn ttOk Tryz.func28 rfl Tryz.call28 rfl rfl ?_
    refine Goes ?_
    repeat' first | refine W2.m ?_ ?_ | refine W1.m fun h => ?_ | fail
    first | refine CallP.is (implRun_bad p s t u _ h) rfl ?_ | refine CallQ.is (implRun_bad p s t u _ h) rfl rfl ?_
    refine Goes ?_
    repeat' first | refine W2.m ?_ ?_ | refine W1.m fun h => ?_ | fail
    refine FinOk.pure rfl rfl rfl ⟨?_, rfl, rfl⟩
    refine bvI ?_
    unfold opensB; rw [decide_eq_false h]; rfl
theorem l2Opens_ret (p s : List Int) (t u : Int) (n : Nat) : Ret Tryz.prog 248 [il p, il s, iv t, iv u] [] n true (Is (bv (opensB p s t u)) [] n) := by
  by_cases h : runC p s t u = 0
  · have hI := fun n => specRun_ret p s t u n h
    unfold opensB
    rw [decide_eq_true h, Bool.true_and]
    have hlen : (run2 t u p s).2.length ≤ 8 := by
      obtain ⟨_, h2, h3, h4, _, _⟩ := runC_ok h
      exact run2_len t u p s h2 h3 h4
    generalize run2 t u p s = xx at hI hlen ⊢
    obtain ⟨c0, l⟩ := xx
    refine Ret.fn ttOk Tryz.func248 rfl Tryz.call248 rfl rfl ?_
    refine Goes ?_
    repeat' first | refine W2.m ?_ ?_ | refine W1.m fun h => ?_ | fail
    refine CallP.pure (hI _) rfl ?_
    rintro r ho m hq
    rcases hq with ⟨hc, rfl, rfl, rfl⟩ | ⟨hc, rfl, rfl, rfl⟩
    · dsimp only at hc ⊢
      subst hc
      rcases List.eq_nil_or_concat l with rfl | ⟨l1, x, rfl⟩
      · refine Goes ?_
        repeat' first | refine W2.m ?_ ?_ | refine W1.m fun h => ?_ | fail
        refine FinOk.pure rfl rfl rfl ⟨?_, rfl, rfl⟩
        rfl
      rw [List.concat_eq_append] at *
      dsimp only at hlen
      have hL : (l1 ++ [x]).length = l1.length + 1 := by simp
      have htop : topB (0, l1 ++ [x]) = !decide (x = 0) := by
        unfold topB; simp [List.getD_eq_getElem?_getD]
      rw [htop]
      have hw : IntKind.i64.wrap (((l1 ++ [x]).length : Int) - 1) = (l1.length : Int) := lenS l1 x (by omega)
      refine Goes ?_
      repeat' first | refine W2.m ?_ ?_ | refine W1.m fun h => ?_ | fail
      simp only [hw]
      rw [getL0]
      refine ⟨by simp, ?_⟩
      refine Goes ?_
      repeat' first | refine W2.m ?_ ?_ | refine W1.m fun h => ?_ | fail
      refine FinOk.pure rfl rfl rfl ⟨?_, rfl, rfl⟩
      refine bvI ?_
      by_cases hx : x = 0 <;> simp [hx]
    · dsimp only at hc ⊢
      have htop : topB (c0, l) = false := by unfold topB; rw [decide_eq_false hc]; rfl
      rw [htop]
      refine Goes ?_
      repeat' first | refine W2.m ?_ ?_ | refine W1.m fun h => ?_ | fail
      all_goals first
        | (refine FinOk.pure rfl rfl rfl ⟨?_, rfl, rfl⟩; rfl)
        | (exfalso; exact hc (by first | assumption | omega))
  · refine Ret.fn ttOk Tryz.func248 rfl Tryz.call248 rfl rfl ?_
    refine Goes ?_
    repeat' first | refine W2.m ?_ ?_ | refine W1.m fun h => ?_ | fail
    first | refine CallP.is (specRun_bad p s t u _ h) rfl ?_ | refine CallQ.is (specRun_bad p s t u _ h) rfl rfl ?_
    refine Goes ?_
    repeat' first | refine W2.m ?_ ?_ | refine W1.m fun h => ?_ | fail
    refine FinOk.pure rfl rfl rfl ⟨?_, rfl, rfl⟩
    refine bvI ?_
    unfold opensB; rw [decide_eq_false h]; rfl
end Go.Proofs.YtfnehjminipaeaaGreat
