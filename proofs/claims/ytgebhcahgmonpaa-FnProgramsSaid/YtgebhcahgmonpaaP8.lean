/-
  CHAPTER 2, the specification's run and the two Opens, by the reading.
-/
import Derived.Test.YtgebhcahgmonpaaP7
namespace Go.Proofs.Ytgebhcahgmonpaa
open Go Go.Am Go.RowKit
set_option linter.unusedVariables false
set_option linter.unusedSimpArgs false
theorem flat_ivs (zs : List Int) : ∀ r ∈ ivs zs, ∀ c ∈ r, ∃ u, c = AV.val u := by
  intro r hr c hc
  obtain ⟨z, _, rfl⟩ := List.mem_map.1 hr
  simp only [List.mem_cons, List.not_mem_nil, or_false] at hc
  exact ⟨_, hc⟩
theorem l2Run_ret (p s : List Int) (t u : Int) (n : Nat) (hp : opsB p = true) (hpl : p.length ≤ 12) (hl : s.length ≤ 8) (hs : allB 0 9999 s = true) : Ret Try.prog 59 [il p, il s, iv t, iv u] [] n true (StQ n (run2 t u p s)) := by
  refine Ret.fn ttOk Try.func59 rfl Try.call59 rfl rfl ?_
  conv => whnf
  repeat' first
    | (refine CondP.yes ?_; conv => whnf)
    | (refine CondP.not ?_; conv => whnf)
    | ((first | refine CondP.dec (fun h => ?_) (fun h => ?_) | refine CondP.ndec (fun h => ?_) (fun h => ?_)) <;> first | (exfalso; first | omega | contradiction) | (conv => whnf))
    | (refine Both.mk ?_ ?_ <;> (conv => whnf))
    | (refine And.intro (by first | decide | omega) ?_; conv => whnf)
    | fail
  refine CallP.is (l1Ints_ret s _ (by omega)) rfl ?_
  conv => whnf
  repeat' first
    | (refine CondP.yes ?_; conv => whnf)
    | (refine CondP.not ?_; conv => whnf)
    | ((first | refine CondP.dec (fun h => ?_) (fun h => ?_) | refine CondP.ndec (fun h => ?_) (fun h => ?_)) <;> first | (exfalso; first | omega | contradiction) | (conv => whnf))
    | (refine Both.mk ?_ ?_ <;> (conv => whnf))
    | (refine And.intro (by first | decide | omega) ?_; conv => whnf)
    | fail
  refine LoopP.go (fun y : Nat × List Int => y.1 ≤ p.length ∧ y.2.length ≤ 8 ∧ allB 0 9999 y.2 = true ∧ run2 t u p s = run2 t u (p.drop y.1) y.2)
    (fun y => ⟨[(0, il p), (2, iv t), (3, iv u), (10, .own 0 y.2.length), (11, iv y.1)], [(0, .list 2 1 (ivs y.2))], 1⟩) (fun y => p.length - y.1) (0, s) ⟨Nat.zero_le _, hl, hs, by rw [List.drop_zero]⟩ ?_ ?_
  · exact Weak.of rfl rfl (by repeat' first | exact trivial | rfl | exact leafI (by first | rfl | omega | (simp (disch := omega) only [Int.reduceToNat, IntKind.bits, Nat.min_eq_left, Int.reducePow, IntWalk.i64_in, IntWalk.rem_in, IntWalk.i64_quo, IntWalk.u8_in, IntWalk.u32_in, IntWalk.u64_in]; done) | (simp (disch := omega) only [Int.reduceToNat, IntKind.bits, Nat.min_eq_left, Int.reducePow, IntWalk.i64_in, IntWalk.rem_in, IntWalk.i64_quo, IntWalk.u8_in, IntWalk.u32_in, IntWalk.u64_in]; omega)) | refine And.intro ?_ ?_) (by repeat' first | exact trivial | rfl | exact leafI (by first | rfl | omega | (simp (disch := omega) only [Int.reduceToNat, IntKind.bits, Nat.min_eq_left, Int.reducePow, IntWalk.i64_in, IntWalk.rem_in, IntWalk.i64_quo, IntWalk.u8_in, IntWalk.u32_in, IntWalk.u64_in]; done) | (simp (disch := omega) only [Int.reduceToNat, IntKind.bits, Nat.min_eq_left, Int.reducePow, IntWalk.i64_in, IntWalk.rem_in, IntWalk.i64_quo, IntWalk.u8_in, IntWalk.u32_in, IntWalk.u64_in]; omega)) | refine And.intro ?_ ?_)
  rintro ⟨k, s'⟩ ⟨hk, hl', hs', hr⟩
  dsimp only at hk hl' hs' hr ⊢
  conv => whnf
  repeat' first
    | (refine CondP.yes ?_; conv => whnf)
    | (refine CondP.not ?_; conv => whnf)
    | ((first | refine CondP.dec (fun h => ?_) (fun h => ?_) | refine CondP.ndec (fun h => ?_) (fun h => ?_)) <;> first | (exfalso; first | omega | contradiction) | (conv => whnf))
    | (refine Both.mk ?_ ?_ <;> (conv => whnf))
    | (refine And.intro (by first | decide | omega) ?_; conv => whnf)
    | fail
  · simp only [List.length_map] at h
    have hlt : k < p.length := by omega
    rw [rowK iv1 p k (by omega)]
    refine ⟨by (first | exact ⟨by omega, by omega, rfl⟩ | (simp only [List.length_map]; exact ⟨by omega, by omega, rfl⟩)), ?_⟩
    conv => whnf
    repeat' first
      | (refine CondP.yes ?_; conv => whnf)
      | (refine CondP.not ?_; conv => whnf)
      | ((first | refine CondP.dec (fun h => ?_) (fun h => ?_) | refine CondP.ndec (fun h => ?_) (fun h => ?_)) <;> first | (exfalso; first | omega | contradiction) | (conv => whnf))
      | (refine Both.mk ?_ ?_ <;> (conv => whnf))
      | (refine And.intro (by first | decide | omega) ?_; conv => whnf)
      | fail
    have hst := l2Step_ret p[k] s' t u 1 (opsB_at hp hlt) hl' hs'
    rw [List.drop_eq_getElem_cons hlt, run2] at hr
    refine CallP.conv hst (by show [iv p[k], AV.lst (List.take s'.length (ivs s')), iv t, iv u] = _; rw [takeI]) (by repeat' first | exact trivial | exact Nat.le_refl _ | (show _ ≤ List.length _; (first | trivial | omega | (simp only [List.length_map, List.length_take, List.length_drop, List.length_append, List.length_set, List.length_replicate, List.length_cons, List.length_nil, four_len, fours_len, maxLen] at *; omega))) | refine And.intro ?_ ?_) ?_
    rintro r ho m hq
    rcases hq with ⟨hc, rfl, rfl, rfl⟩ | ⟨hc, rfl, rfl, rfl⟩
    · refine ⟨⟨rfl, flat_ivs _, trivial⟩, ?_⟩
      rw [if_pos hc] at hr
      obtain ⟨g1, g2⟩ := step2_ok (opsB_at hp hlt) hl' hs' hc
      conv => whnf
      repeat' first
        | (refine CondP.yes ?_; conv => whnf)
        | (refine CondP.not ?_; conv => whnf)
        | ((first | refine CondP.dec (fun h => ?_) (fun h => ?_) | refine CondP.ndec (fun h => ?_) (fun h => ?_)) <;> first | (exfalso; first | omega | contradiction) | (conv => whnf))
        | (refine Both.mk ?_ ?_ <;> (conv => whnf))
        | (refine And.intro (by first | decide | omega) ?_; conv => whnf)
        | fail
      refine ⟨(k + 1, (step2 p[k] s' t u).2), ⟨by show k + 1 ≤ _; omega, g1, g2, hr⟩, by show _ - (k + 1) < _ - k; omega, ?_⟩
      exact Weak.ren [1] rfl rfl (by repeat' first | exact trivial | rfl | exact leafI (by first | rfl | omega | (simp (disch := omega) only [Int.reduceToNat, IntKind.bits, Nat.min_eq_left, Int.reducePow, IntWalk.i64_in, IntWalk.rem_in, IntWalk.i64_quo, IntWalk.u8_in, IntWalk.u32_in, IntWalk.u64_in]; done) | (simp (disch := omega) only [Int.reduceToNat, IntKind.bits, Nat.min_eq_left, Int.reducePow, IntWalk.i64_in, IntWalk.rem_in, IntWalk.i64_quo, IntWalk.u8_in, IntWalk.u32_in, IntWalk.u64_in]; omega)) | refine And.intro ?_ ?_) (by repeat' first | exact trivial | rfl | exact leafI (by first | rfl | omega | (simp (disch := omega) only [Int.reduceToNat, IntKind.bits, Nat.min_eq_left, Int.reducePow, IntWalk.i64_in, IntWalk.rem_in, IntWalk.i64_quo, IntWalk.u8_in, IntWalk.u32_in, IntWalk.u64_in]; done) | (simp (disch := omega) only [Int.reduceToNat, IntKind.bits, Nat.min_eq_left, Int.reducePow, IntWalk.i64_in, IntWalk.rem_in, IntWalk.i64_quo, IntWalk.u8_in, IntWalk.u32_in, IntWalk.u64_in]; omega)) | refine And.intro ?_ ?_)
    · refine ⟨⟨rfl, trivial⟩, ?_⟩
      rw [if_neg hc] at hr
      conv => whnf
      repeat' first
        | (refine CondP.yes ?_; conv => whnf)
        | (refine CondP.not ?_; conv => whnf)
        | ((first | refine CondP.dec (fun h => ?_) (fun h => ?_) | refine CondP.ndec (fun h => ?_) (fun h => ?_)) <;> first | (exfalso; first | omega | contradiction) | (conv => whnf))
        | (refine Both.mk ?_ ?_ <;> (conv => whnf))
        | (refine And.intro (by first | decide | omega) ?_; conv => whnf)
        | fail
      rw [hr]
      exact FinOk.mk' [] rfl rfl rfl rfl rfl rfl rfl (.inr ⟨hc, rfl, rfl, rfl⟩)
  · simp only [List.length_map] at h
    obtain rfl : k = p.length := by omega
    rw [List.drop_length, run2] at hr
    rw [hr]
    exact FinOk.mk' [0] rfl rfl rfl rfl rfl rfl rfl (.inl ⟨rfl, rfl, rfl, rfl⟩)
theorem specRun_bad (p s : List Int) (t u : Int) (n : Nat) (hbad : runC p s t u ≠ 0) : Ret Try.prog 27 [il p, il s, iv t, iv u] [] n true (Is (.agg [iv (runC p s t u), nl]) [] n) := by
  refine Ret.fn ttOk Try.func27 rfl Try.call27 rfl rfl ?_
  conv => whnf
  repeat' first
    | (refine CondP.yes ?_; conv => whnf)
    | (refine CondP.not ?_; conv => whnf)
    | ((first | refine CondP.dec (fun h => ?_) (fun h => ?_) | refine CondP.ndec (fun h => ?_) (fun h => ?_)) <;> first | (exfalso; first | omega | contradiction) | (conv => whnf))
    | (refine Both.mk ?_ ?_ <;> (conv => whnf))
    | (refine And.intro (by first | decide | omega) ?_; conv => whnf)
    | fail
  have hL : (ivs s).length = s.length := by simp
  refine CallP.is (l2Fault_ret _ _) rfl ?_
  conv => whnf
  repeat' first
    | (refine CondP.yes ?_; conv => whnf)
    | (refine CondP.not ?_; conv => whnf)
    | ((first | refine CondP.dec (fun h => ?_) (fun h => ?_) | refine CondP.ndec (fun h => ?_) (fun h => ?_)) <;> first | (exfalso; first | omega | contradiction) | (conv => whnf))
    | (refine Both.mk ?_ ?_ <;> (conv => whnf))
    | (refine And.intro (by first | decide | omega) ?_; conv => whnf)
    | fail
  · have h1 : ¬ progC p = 0 := by assumption
    refine FinOk.pure rfl rfl rfl ⟨?_, rfl, rfl⟩
    unfold runC; rw [if_neg h1]
  · have h1 : progC p = 0 := by omega
    have h2 : 8 < s.length := by omega
    refine FinOk.pure rfl rfl rfl ⟨?_, rfl, rfl⟩
    unfold runC stackC; rw [if_pos h1, if_pos h2]; rfl
  have h1 : progC p = 0 := by omega
  have h2 : ¬ 8 < s.length := by omega
  have ha := l1All_ret s 0 9999
  cases h3 : allB 0 9999 s with
  | false =>
    rw [h3] at ha
    refine CallP.is (ha _ (by omega)) rfl ?_
    conv => whnf
    repeat' first
      | (refine CondP.yes ?_; conv => whnf)
      | (refine CondP.not ?_; conv => whnf)
      | ((first | refine CondP.dec (fun h => ?_) (fun h => ?_) | refine CondP.ndec (fun h => ?_) (fun h => ?_)) <;> first | (exfalso; first | omega | contradiction) | (conv => whnf))
      | (refine Both.mk ?_ ?_ <;> (conv => whnf))
      | (refine And.intro (by first | decide | omega) ?_; conv => whnf)
      | fail
    refine FinOk.pure rfl rfl rfl ⟨?_, rfl, rfl⟩
    unfold runC stackC; rw [if_pos h1, if_neg h2, h3]; rfl
  | true =>
    rw [h3] at ha
    refine CallP.is (ha _ (by omega)) rfl ?_
    conv => whnf
    repeat' first
      | (refine CondP.yes ?_; conv => whnf)
      | (refine CondP.not ?_; conv => whnf)
      | ((first | refine CondP.dec (fun h => ?_) (fun h => ?_) | refine CondP.ndec (fun h => ?_) (fun h => ?_)) <;> first | (exfalso; first | omega | contradiction) | (conv => whnf))
      | (refine Both.mk ?_ ?_ <;> (conv => whnf))
      | (refine And.intro (by first | decide | omega) ?_; conv => whnf)
      | fail
    have h4 : stackC s = 0 := by unfold stackC; rw [if_neg h2, h3]; rfl
    refine CallP.is (l1In_ret _ _ _ _) rfl ?_
    conv => whnf
    repeat' first
      | (refine CondP.yes ?_; conv => whnf)
      | (refine CondP.not ?_; conv => whnf)
      | ((first | refine CondP.dec (fun h => ?_) (fun h => ?_) | refine CondP.ndec (fun h => ?_) (fun h => ?_)) <;> first | (exfalso; first | omega | contradiction) | (conv => whnf))
      | (refine Both.mk ?_ ?_ <;> (conv => whnf))
      | (refine And.intro (by first | decide | omega) ?_; conv => whnf)
      | fail
    · have h5 : ¬ inR 0 2147483646 t := by assumption
      refine FinOk.pure rfl rfl rfl ⟨?_, rfl, rfl⟩
      unfold runC; rw [if_pos h1, if_pos h4, if_neg (fun h' => h5 h'.1)]
    have h5 : inR 0 2147483646 t := by assumption
    refine CallP.is (l1In_ret _ _ _ _) rfl ?_
    conv => whnf
    repeat' first
      | (refine CondP.yes ?_; conv => whnf)
      | (refine CondP.not ?_; conv => whnf)
      | ((first | refine CondP.dec (fun h => ?_) (fun h => ?_) | refine CondP.ndec (fun h => ?_) (fun h => ?_)) <;> first | (exfalso; first | omega | contradiction) | (conv => whnf))
      | (refine Both.mk ?_ ?_ <;> (conv => whnf))
      | (refine And.intro (by first | decide | omega) ?_; conv => whnf)
      | fail
    · have h6 : ¬ inR 0 9999 u := by assumption
      refine FinOk.pure rfl rfl rfl ⟨?_, rfl, rfl⟩
      unfold runC; rw [if_pos h1, if_pos h4, if_neg (fun h' => h6 h'.2)]
    · have h6 : inR 0 9999 u := by assumption
      exfalso
      refine absurd ?_ hbad
      unfold runC; rw [if_pos h1, if_pos h4, if_pos ⟨h5, h6⟩]
theorem specRun_ret (p s : List Int) (t u : Int) (n : Nat) (h : runC p s t u = 0) : Ret Try.prog 27 [il p, il s, iv t, iv u] [] n true (RunQ (run2 t u p s) n) := by
  obtain ⟨h1, h2, h3, h4, h5, h6⟩ := runC_ok h
  have hpc : progC p = 0 := by unfold progC; rw [if_neg (by omega), if_pos h2]
  have hf := l2Fault_ret p
  rw [hpc] at hf
  have ha := l1All_ret s 0 9999
  rw [h4] at ha
  have hL : (ivs s).length = s.length := by simp
  refine Ret.fn ttOk Try.func27 rfl Try.call27 rfl rfl ?_
  conv => whnf
  repeat' first
    | (refine CondP.yes ?_; conv => whnf)
    | (refine CondP.not ?_; conv => whnf)
    | ((first | refine CondP.dec (fun h => ?_) (fun h => ?_) | refine CondP.ndec (fun h => ?_) (fun h => ?_)) <;> first | (exfalso; first | omega | contradiction) | (conv => whnf))
    | (refine Both.mk ?_ ?_ <;> (conv => whnf))
    | (refine And.intro (by first | decide | omega) ?_; conv => whnf)
    | fail
  refine CallP.is (hf _) rfl ?_
  conv => whnf
  repeat' first
    | (refine CondP.yes ?_; conv => whnf)
    | (refine CondP.not ?_; conv => whnf)
    | ((first | refine CondP.dec (fun h => ?_) (fun h => ?_) | refine CondP.ndec (fun h => ?_) (fun h => ?_)) <;> first | (exfalso; first | omega | contradiction) | (conv => whnf))
    | (refine Both.mk ?_ ?_ <;> (conv => whnf))
    | (refine And.intro (by first | decide | omega) ?_; conv => whnf)
    | fail
  refine CallP.is (ha _ (by omega)) rfl ?_
  conv => whnf
  repeat' first
    | (refine CondP.yes ?_; conv => whnf)
    | (refine CondP.not ?_; conv => whnf)
    | ((first | refine CondP.dec (fun h => ?_) (fun h => ?_) | refine CondP.ndec (fun h => ?_) (fun h => ?_)) <;> first | (exfalso; first | omega | contradiction) | (conv => whnf))
    | (refine Both.mk ?_ ?_ <;> (conv => whnf))
    | (refine And.intro (by first | decide | omega) ?_; conv => whnf)
    | fail
  refine CallP.is (l1In_ret _ _ _ _) rfl ?_
  conv => whnf
  repeat' first
    | (refine CondP.yes ?_; conv => whnf)
    | (refine CondP.not ?_; conv => whnf)
    | ((first | refine CondP.dec (fun h => ?_) (fun h => ?_) | refine CondP.ndec (fun h => ?_) (fun h => ?_)) <;> first | (exfalso; first | omega | contradiction) | (conv => whnf))
    | (refine Both.mk ?_ ?_ <;> (conv => whnf))
    | (refine And.intro (by first | decide | omega) ?_; conv => whnf)
    | fail
  refine CallP.is (l1In_ret _ _ _ _) rfl ?_
  conv => whnf
  repeat' first
    | (refine CondP.yes ?_; conv => whnf)
    | (refine CondP.not ?_; conv => whnf)
    | ((first | refine CondP.dec (fun h => ?_) (fun h => ?_) | refine CondP.ndec (fun h => ?_) (fun h => ?_)) <;> first | (exfalso; first | omega | contradiction) | (conv => whnf))
    | (refine Both.mk ?_ ?_ <;> (conv => whnf))
    | (refine And.intro (by first | decide | omega) ?_; conv => whnf)
    | fail
  refine CallP.pure (l2Run_ret p s t u _ h2 h1 h3 h4) rfl ?_
  rintro r ho m hq
  rcases hq with ⟨hc, rfl, rfl, rfl⟩ | ⟨hc, rfl, rfl, rfl⟩
  · conv => whnf
    repeat' first
      | (refine CondP.yes ?_; conv => whnf)
      | (refine CondP.not ?_; conv => whnf)
      | ((first | refine CondP.dec (fun h => ?_) (fun h => ?_) | refine CondP.ndec (fun h => ?_) (fun h => ?_)) <;> first | (exfalso; first | omega | contradiction) | (conv => whnf))
      | (refine Both.mk ?_ ?_ <;> (conv => whnf))
      | (refine And.intro (by first | decide | omega) ?_; conv => whnf)
      | fail
    exact FinOk.mk' [1] rfl rfl rfl rfl rfl rfl rfl (.inl ⟨hc, rfl, rfl, rfl⟩)
  · conv => whnf
    repeat' first
      | (refine CondP.yes ?_; conv => whnf)
      | (refine CondP.not ?_; conv => whnf)
      | ((first | refine CondP.dec (fun h => ?_) (fun h => ?_) | refine CondP.ndec (fun h => ?_) (fun h => ?_)) <;> first | (exfalso; first | omega | contradiction) | (conv => whnf))
      | (refine Both.mk ?_ ?_ <;> (conv => whnf))
      | (refine And.intro (by first | decide | omega) ?_; conv => whnf)
      | fail
    exact FinOk.mk' [] rfl rfl rfl rfl rfl rfl rfl (.inr ⟨hc, rfl, rfl, rfl⟩)
/-- What a run leaves is truthy. -/
def topB (x : Int × List Int) : Bool := decide (x.1 = 0) && (decide (0 < x.2.length) && !decide (x.2.getD (x.2.length - 1) 0 = 0))
def opensB (p s : List Int) (t u : Int) : Bool := decide (runC p s t u = 0) && topB (run2 t u p s)
theorem run2_len (t u : Int) : ∀ (p s : List Int), opsB p = true → s.length ≤ 8 → allB 0 9999 s = true → (run2 t u p s).2.length ≤ 8
  | [], s, _, hl, _ => hl
  | op :: p, s, hp, hl, hs => by
    have hop : opB op = true ∧ opsB p = true := by unfold opsB at *; rw [List.all_cons, Bool.and_eq_true] at hp; exact hp
    rw [run2]
    split
    · rename_i h
      obtain ⟨g1, g2⟩ := step2_ok hop.1 hl hs h
      exact run2_len t u p _ hop.2 g1 g2
    · simp
theorem implOpens_ret (p s : List Int) (t u : Int) (n : Nat) : Ret Try.prog 22 [il p, il s, iv t, iv u] [] n true (Is (bv (opensB p s t u)) [] n) := by
  by_cases h : runC p s t u = 0
  · have hI := fun n => implRun_ret p s t u n h
    unfold opensB
    rw [decide_eq_true h, Bool.true_and]
    have hlen : (run2 t u p s).2.length ≤ 8 := by
      obtain ⟨_, h2, h3, h4, _, _⟩ := runC_ok h
      exact run2_len t u p s h2 h3 h4
    generalize run2 t u p s = xx at hI hlen ⊢
    obtain ⟨c0, l⟩ := xx
    refine Ret.fn ttOk Try.func22 rfl Try.call22 rfl rfl ?_
    conv => whnf
    repeat' first
      | (refine CondP.yes ?_; conv => whnf)
      | (refine CondP.not ?_; conv => whnf)
      | ((first | refine CondP.dec (fun h => ?_) (fun h => ?_) | refine CondP.ndec (fun h => ?_) (fun h => ?_)) <;> first | (exfalso; first | omega | contradiction) | (conv => whnf))
      | (refine Both.mk ?_ ?_ <;> (conv => whnf))
      | (refine And.intro (by first | decide | omega) ?_; conv => whnf)
      | fail
    refine CallP.pure (hI _) rfl ?_
    rintro r ho m hq
    rcases hq with ⟨hc, rfl, rfl, rfl⟩ | ⟨hc, rfl, rfl, rfl⟩
    · dsimp only at hc ⊢
      subst hc
      rcases List.eq_nil_or_concat l with rfl | ⟨l1, x, rfl⟩
      · conv => whnf
        repeat' first
          | (refine CondP.yes ?_; conv => whnf)
          | (refine CondP.not ?_; conv => whnf)
          | ((first | refine CondP.dec (fun h => ?_) (fun h => ?_) | refine CondP.ndec (fun h => ?_) (fun h => ?_)) <;> first | (exfalso; first | omega | contradiction) | (conv => whnf))
          | (refine Both.mk ?_ ?_ <;> (conv => whnf))
          | (refine And.intro (by first | decide | omega) ?_; conv => whnf)
          | fail
        refine FinOk.pure rfl rfl rfl ⟨?_, rfl, rfl⟩
        rfl
      rw [List.concat_eq_append] at *
      dsimp only at hlen
      have hL : (l1 ++ [x]).length = l1.length + 1 := by simp
      have htop : topB (0, l1 ++ [x]) = !decide (x = 0) := by
        unfold topB; simp [List.getD_eq_getElem?_getD]
      rw [htop]
      have hw : IntKind.i64.wrap (((l1 ++ [x]).length : Int) - 1) = (l1.length : Int) := lenS l1 x (by omega)
      conv => whnf
      repeat' first
        | (refine CondP.yes ?_; conv => whnf)
        | (refine CondP.not ?_; conv => whnf)
        | ((first | refine CondP.dec (fun h => ?_) (fun h => ?_) | refine CondP.ndec (fun h => ?_) (fun h => ?_)) <;> first | (exfalso; first | omega | contradiction) | (conv => whnf))
        | (refine Both.mk ?_ ?_ <;> (conv => whnf))
        | (refine And.intro (by first | decide | omega) ?_; conv => whnf)
        | fail
      simp only [hw]
      rw [getL0]
      refine ⟨by simp, ?_⟩
      conv => whnf
      repeat' first
        | (refine CondP.yes ?_; conv => whnf)
        | (refine CondP.not ?_; conv => whnf)
        | ((first | refine CondP.dec (fun h => ?_) (fun h => ?_) | refine CondP.ndec (fun h => ?_) (fun h => ?_)) <;> first | (exfalso; first | omega | contradiction) | (conv => whnf))
        | (refine Both.mk ?_ ?_ <;> (conv => whnf))
        | (refine And.intro (by first | decide | omega) ?_; conv => whnf)
        | fail
      refine FinOk.pure rfl rfl rfl ⟨?_, rfl, rfl⟩
      refine bvI ?_
      by_cases hx : x = 0 <;> simp [hx]
    · dsimp only at hc ⊢
      have htop : topB (c0, l) = false := by unfold topB; rw [decide_eq_false hc]; rfl
      rw [htop]
      conv => whnf
      repeat' first
        | (refine CondP.yes ?_; conv => whnf)
        | (refine CondP.not ?_; conv => whnf)
        | ((first | refine CondP.dec (fun h => ?_) (fun h => ?_) | refine CondP.ndec (fun h => ?_) (fun h => ?_)) <;> first | (exfalso; first | omega | contradiction) | (conv => whnf))
        | (refine Both.mk ?_ ?_ <;> (conv => whnf))
        | (refine And.intro (by first | decide | omega) ?_; conv => whnf)
        | fail
      all_goals first
        | (refine FinOk.pure rfl rfl rfl ⟨?_, rfl, rfl⟩; rfl)
        | (exfalso; exact hc (by first | assumption | omega))
  · refine Ret.fn ttOk Try.func22 rfl Try.call22 rfl rfl ?_
    conv => whnf
    repeat' first
      | (refine CondP.yes ?_; conv => whnf)
      | (refine CondP.not ?_; conv => whnf)
      | ((first | refine CondP.dec (fun h => ?_) (fun h => ?_) | refine CondP.ndec (fun h => ?_) (fun h => ?_)) <;> first | (exfalso; first | omega | contradiction) | (conv => whnf))
      | (refine Both.mk ?_ ?_ <;> (conv => whnf))
      | (refine And.intro (by first | decide | omega) ?_; conv => whnf)
      | fail
    refine CallP.is (implRun_bad p s t u _ h) rfl ?_
    conv => whnf
    repeat' first
      | (refine CondP.yes ?_; conv => whnf)
      | (refine CondP.not ?_; conv => whnf)
      | ((first | refine CondP.dec (fun h => ?_) (fun h => ?_) | refine CondP.ndec (fun h => ?_) (fun h => ?_)) <;> first | (exfalso; first | omega | contradiction) | (conv => whnf))
      | (refine Both.mk ?_ ?_ <;> (conv => whnf))
      | (refine And.intro (by first | decide | omega) ?_; conv => whnf)
      | fail
    refine FinOk.pure rfl rfl rfl ⟨?_, rfl, rfl⟩
    refine bvI ?_
    unfold opensB; rw [decide_eq_false h]; rfl
theorem l2Opens_ret (p s : List Int) (t u : Int) (n : Nat) : Ret Try.prog 60 [il p, il s, iv t, iv u] [] n true (Is (bv (opensB p s t u)) [] n) := by
  by_cases h : runC p s t u = 0
  · have hI := fun n => specRun_ret p s t u n h
    unfold opensB
    rw [decide_eq_true h, Bool.true_and]
    have hlen : (run2 t u p s).2.length ≤ 8 := by
      obtain ⟨_, h2, h3, h4, _, _⟩ := runC_ok h
      exact run2_len t u p s h2 h3 h4
    generalize run2 t u p s = xx at hI hlen ⊢
    obtain ⟨c0, l⟩ := xx
    refine Ret.fn ttOk Try.func60 rfl Try.call60 rfl rfl ?_
    conv => whnf
    repeat' first
      | (refine CondP.yes ?_; conv => whnf)
      | (refine CondP.not ?_; conv => whnf)
      | ((first | refine CondP.dec (fun h => ?_) (fun h => ?_) | refine CondP.ndec (fun h => ?_) (fun h => ?_)) <;> first | (exfalso; first | omega | contradiction) | (conv => whnf))
      | (refine Both.mk ?_ ?_ <;> (conv => whnf))
      | (refine And.intro (by first | decide | omega) ?_; conv => whnf)
      | fail
    refine CallP.pure (hI _) rfl ?_
    rintro r ho m hq
    rcases hq with ⟨hc, rfl, rfl, rfl⟩ | ⟨hc, rfl, rfl, rfl⟩
    · dsimp only at hc ⊢
      subst hc
      rcases List.eq_nil_or_concat l with rfl | ⟨l1, x, rfl⟩
      · conv => whnf
        repeat' first
          | (refine CondP.yes ?_; conv => whnf)
          | (refine CondP.not ?_; conv => whnf)
          | ((first | refine CondP.dec (fun h => ?_) (fun h => ?_) | refine CondP.ndec (fun h => ?_) (fun h => ?_)) <;> first | (exfalso; first | omega | contradiction) | (conv => whnf))
          | (refine Both.mk ?_ ?_ <;> (conv => whnf))
          | (refine And.intro (by first | decide | omega) ?_; conv => whnf)
          | fail
        refine FinOk.pure rfl rfl rfl ⟨?_, rfl, rfl⟩
        rfl
      rw [List.concat_eq_append] at *
      dsimp only at hlen
      have hL : (l1 ++ [x]).length = l1.length + 1 := by simp
      have htop : topB (0, l1 ++ [x]) = !decide (x = 0) := by
        unfold topB; simp [List.getD_eq_getElem?_getD]
      rw [htop]
      have hw : IntKind.i64.wrap (((l1 ++ [x]).length : Int) - 1) = (l1.length : Int) := lenS l1 x (by omega)
      conv => whnf
      repeat' first
        | (refine CondP.yes ?_; conv => whnf)
        | (refine CondP.not ?_; conv => whnf)
        | ((first | refine CondP.dec (fun h => ?_) (fun h => ?_) | refine CondP.ndec (fun h => ?_) (fun h => ?_)) <;> first | (exfalso; first | omega | contradiction) | (conv => whnf))
        | (refine Both.mk ?_ ?_ <;> (conv => whnf))
        | (refine And.intro (by first | decide | omega) ?_; conv => whnf)
        | fail
      simp only [hw]
      rw [getL0]
      refine ⟨by simp, ?_⟩
      conv => whnf
      repeat' first
        | (refine CondP.yes ?_; conv => whnf)
        | (refine CondP.not ?_; conv => whnf)
        | ((first | refine CondP.dec (fun h => ?_) (fun h => ?_) | refine CondP.ndec (fun h => ?_) (fun h => ?_)) <;> first | (exfalso; first | omega | contradiction) | (conv => whnf))
        | (refine Both.mk ?_ ?_ <;> (conv => whnf))
        | (refine And.intro (by first | decide | omega) ?_; conv => whnf)
        | fail
      refine FinOk.pure rfl rfl rfl ⟨?_, rfl, rfl⟩
      refine bvI ?_
      by_cases hx : x = 0 <;> simp [hx]
    · dsimp only at hc ⊢
      have htop : topB (c0, l) = false := by unfold topB; rw [decide_eq_false hc]; rfl
      rw [htop]
      conv => whnf
      repeat' first
        | (refine CondP.yes ?_; conv => whnf)
        | (refine CondP.not ?_; conv => whnf)
        | ((first | refine CondP.dec (fun h => ?_) (fun h => ?_) | refine CondP.ndec (fun h => ?_) (fun h => ?_)) <;> first | (exfalso; first | omega | contradiction) | (conv => whnf))
        | (refine Both.mk ?_ ?_ <;> (conv => whnf))
        | (refine And.intro (by first | decide | omega) ?_; conv => whnf)
        | fail
      all_goals first
        | (refine FinOk.pure rfl rfl rfl ⟨?_, rfl, rfl⟩; rfl)
        | (exfalso; exact hc (by first | assumption | omega))
  · refine Ret.fn ttOk Try.func60 rfl Try.call60 rfl rfl ?_
    conv => whnf
    repeat' first
      | (refine CondP.yes ?_; conv => whnf)
      | (refine CondP.not ?_; conv => whnf)
      | ((first | refine CondP.dec (fun h => ?_) (fun h => ?_) | refine CondP.ndec (fun h => ?_) (fun h => ?_)) <;> first | (exfalso; first | omega | contradiction) | (conv => whnf))
      | (refine Both.mk ?_ ?_ <;> (conv => whnf))
      | (refine And.intro (by first | decide | omega) ?_; conv => whnf)
      | fail
    refine CallP.is (specRun_bad p s t u _ h) rfl ?_
    conv => whnf
    repeat' first
      | (refine CondP.yes ?_; conv => whnf)
      | (refine CondP.not ?_; conv => whnf)
      | ((first | refine CondP.dec (fun h => ?_) (fun h => ?_) | refine CondP.ndec (fun h => ?_) (fun h => ?_)) <;> first | (exfalso; first | omega | contradiction) | (conv => whnf))
      | (refine Both.mk ?_ ?_ <;> (conv => whnf))
      | (refine And.intro (by first | decide | omega) ?_; conv => whnf)
      | fail
    refine FinOk.pure rfl rfl rfl ⟨?_, rfl, rfl⟩
    refine bvI ?_
    unfold opensB; rw [decide_eq_false h]; rfl
theorem specOpens_ret (p s : List Int) (t u : Int) (n : Nat) : Ret Try.prog 29 [il p, il s, iv t, iv u] [] n true (Is (bv (opensB p s t u)) [] n) := by
  refine Ret.fn ttOk Try.func29 rfl Try.call29 rfl rfl ?_
  conv => whnf
  repeat' first
    | (refine CondP.yes ?_; conv => whnf)
    | (refine CondP.not ?_; conv => whnf)
    | ((first | refine CondP.dec (fun h => ?_) (fun h => ?_) | refine CondP.ndec (fun h => ?_) (fun h => ?_)) <;> first | (exfalso; first | omega | contradiction) | (conv => whnf))
    | (refine Both.mk ?_ ?_ <;> (conv => whnf))
    | (refine And.intro (by first | decide | omega) ?_; conv => whnf)
    | fail
  refine CallP.is (l2Opens_ret _ _ _ _ _) rfl ?_
  conv => whnf
  repeat' first
    | (refine CondP.yes ?_; conv => whnf)
    | (refine CondP.not ?_; conv => whnf)
    | ((first | refine CondP.dec (fun h => ?_) (fun h => ?_) | refine CondP.ndec (fun h => ?_) (fun h => ?_)) <;> first | (exfalso; first | omega | contradiction) | (conv => whnf))
    | (refine Both.mk ?_ ?_ <;> (conv => whnf))
    | (refine And.intro (by first | decide | omega) ?_; conv => whnf)
    | fail
  refine FinOk.pure rfl rfl rfl ⟨?_, rfl, rfl⟩
  try rfl
end Go.Proofs.Ytgebhcahgmonpaa
