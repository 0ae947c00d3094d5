/-
  CHAPTER 2, runs of programs, by the reading.
-/
import Derived.Test.YtgebhcahgmonpaaP4
namespace Go.Proofs.Ytgebhcahgmonpaa
open Go Go.Am Go.RowKit
set_option linter.unusedVariables false
set_option linter.unusedSimpArgs false
theorem allB_app {lo hi : Int} (a b : List Int) : allB lo hi (a ++ b) = (allB lo hi a && allB lo hi b) := by unfold allB; rw [List.all_append]
theorem allB_one {lo hi x : Int} (h : allB lo hi [x] = true) : inR lo hi x := by
  unfold inR; simpa [allB] using h
theorem step_ret (i j n : Nat) (hij : i ≠ j) (s e : List Int) (op t u : Int) (hop : opB op = true) (hl : s.length ≤ 8) (hs : allB 0 9999 s = true) (ht : inR 0 2147483646 t) :
    Ret Try.prog 56 [.pt i 0 0, iv op] (mh i j s e t u) n false (StepQ i j t u n (step2 op s t u)) := by
  by_cases hp : 100 ≤ op ∧ op ≤ 1099
  · exact step_push i j n hij s e op t u hl hp
  have h9 : op = 1 ∨ op = 2 ∨ op = 3 ∨ op = 4 ∨ op = 5 ∨ op = 6 ∨ op = 7 ∨ op = 8 ∨ op = 9 := by
    simp [opB] at hop; omega
  rcases List.eq_nil_or_concat s with rfl | ⟨s1, x, rfl⟩
  · have hz : ([] : List Int).length < 1 := by decide
    have hz2 : ([] : List Int).length < 2 := by decide
    rcases h9 with rfl | rfl | rfl | rfl | rfl | rfl | rfl | rfl | rfl
    · exact step_few1 i j n hij _ e t u hz
    · exact step_few2 i j n hij _ e t u hz
    · exact step_few3 i j n hij _ e t u hz2
    · exact step_few4 i j n hij _ e t u hz2
    · exact step_few5 i j n hij _ e t u hz2
    · exact step_few6 i j n hij _ e t u hz
    · exact step_few7 i j n hij _ e t u hz
    · exact step_few8 i j n hij _ e t u hz2
    · exact step_few9 i j n hij _ e t u hz
  rw [List.concat_eq_append] at hl hs ⊢
  have hx : inR 0 9999 x := by rw [allB_app] at hs; simp only [Bool.and_eq_true] at hs; exact allB_one hs.2
  have hs1 : allB 0 9999 s1 = true := by rw [allB_app] at hs; simp only [Bool.and_eq_true] at hs; exact hs.1
  have two : ∀ {op : Int}, (op = 3 ∨ op = 4 ∨ op = 5 ∨ op = 8) → Ret Try.prog 56 [.pt i 0 0, iv op] (mh i j (s1 ++ [x]) e t u) n false (StepQ i j t u n (step2 op (s1 ++ [x]) t u)) := by
    intro op hop
    rcases List.eq_nil_or_concat s1 with rfl | ⟨s2, y, rfl⟩
    · have hz2 : ([] ++ [x] : List Int).length < 2 := by simp
      rcases hop with rfl | rfl | rfl | rfl
      · exact step_few3 i j n hij _ e t u hz2
      · exact step_few4 i j n hij _ e t u hz2
      · exact step_few5 i j n hij _ e t u hz2
      · exact step_few8 i j n hij _ e t u hz2
    rw [List.concat_eq_append] at hl hs1 ⊢
    have hy : inR 0 9999 y := by rw [allB_app] at hs1; simp only [Bool.and_eq_true] at hs1; exact allB_one hs1.2
    rcases hop with rfl | rfl | rfl | rfl
    · exact step_swap i j n hij s2 e y x t u hl
    · by_cases h : 9999 < x + y
      · exact step_addN i j n hij s2 e y x t u hl hx hy h
      · exact step_addY i j n hij s2 e y x t u hl hx hy h
    · exact step_equal i j n hij s2 e y x t u hl
    · exact step_sign i j n hij s2 e y x t u hl ht
  rcases h9 with rfl | rfl | rfl | rfl | rfl | rfl | rfl | rfl | rfl
  · by_cases h8 : s1.length + 1 = 8
    · exact step_dup8 i j n hij s1 e x t u h8
    · exact step_dup i j n hij s1 e x t u hl h8
  · exact step_drop i j n hij s1 e x t u hl
  · exact two (.inl rfl)
  · exact two (.inr (.inl rfl))
  · exact two (.inr (.inr (.inl rfl)))
  · exact step_verify i j n hij s1 e x t u hl
  · exact step_sum i j n hij s1 e x t u hl hx
  · exact two (.inr (.inr (.inr rfl)))
  · exact step_after i j n hij s1 e x t u hl
/-- What a step leaves is a stack. -/
theorem flagI_in (b : Bool) : allB 0 9999 [flagI b] = true := by cases b <;> rfl
theorem step2_ok {op : Int} {s : List Int} {t u : Int} (hop : opB op = true) (hl : s.length ≤ 8) (hs : allB 0 9999 s = true) (h0 : (step2 op s t u).1 = 0) : (step2 op s t u).2.length ≤ 8 ∧ allB 0 9999 (step2 op s t u).2 = true := by
  have hlen : (step2 op s t u).2.length ≤ 8 := by
    unfold step2 at *
    split
    · simp
    · split
      · simp
      · rename_i h1 h2
        rw [if_neg h1, if_neg h2] at h0
        have := fun h => h2 ⟨h0, h⟩
        omega
  refine ⟨hlen, ?_⟩
  by_cases hfew : s.length < needs op
  · rw [step2_few hfew]; rfl
  have hv : step2 op s t u = (10, []) ∨ step2 op s t u = out2 op s t u := by
    rw [step2_val hfew rfl]; split
    · exact .inl rfl
    · exact .inr rfl
  rcases hv with e | e
  · rw [e]; rfl
  rw [e] at h0 ⊢
  by_cases hn0 : needs op = 0
  · have hop' : 100 ≤ op ∧ op ≤ 1099 := by
      unfold needs at hn0
      simp [opB] at hop
      split at hn0
      · omega
      · split at hn0 <;> omega
    unfold out2
    rw [if_pos hn0, allB_app, hs]
    simp [allB]; omega
  rcases List.eq_nil_or_concat s with rfl | ⟨s1, x, rfl⟩
  · simp at hfew; exact absurd hfew hn0
  rw [List.concat_eq_append] at *
  rw [allB_app, Bool.and_eq_true] at hs
  have hx := allB_one hs.2
  by_cases hn1 : needs op = 1
  · rw [out2_one s1 x t u hn1] at *
    unfold one2
    have hsm : allB 0 9999 [sumI [x] % 1000] = true := by simp [allB]; omega
    repeat' split
    all_goals first
      | rfl
      | exact hs.1
      | (rw [allB_app, hs.1, hsm]; rfl)
      | (rw [allB_app, hs.1]; unfold inR at hx; simp [allB]; omega)
  · have hn2 : needs op = 2 := by
      have h3 : needs op = 0 ∨ needs op = 1 ∨ needs op = 2 := by unfold needs; (repeat' split) <;> simp
      omega
    rcases List.eq_nil_or_concat s1 with rfl | ⟨s2, y, rfl⟩
    · rw [hn2] at hfew; simp at hfew
    rw [List.concat_eq_append] at *
    rw [allB_app, Bool.and_eq_true] at hs
    have hy := allB_one hs.1.2
    rw [out2_two s2 y x t u hn2] at *
    unfold inR at hx hy
    unfold two2
    repeat' split
    all_goals first
      | rfl
      | (rw [allB_app, hs.1.1, flagI_in]; rfl)
      | (rw [allB_app, hs.1.1]; simp [allB]; omega)
theorem implRun_bad (p s : List Int) (t u : Int) (n : Nat) (h : runC p s t u ≠ 0) : Ret Try.prog 26 [il p, il s, iv t, iv u] [] n true (Is (.agg [iv (runC p s t u), nl]) [] n) := by
  refine Ret.fn ttOk Try.func26 rfl Try.call26 rfl rfl ?_
  conv => whnf
  repeat' first
    | (refine CondP.yes ?_; conv => whnf)
    | (refine CondP.not ?_; conv => whnf)
    | ((first | refine CondP.dec (fun h => ?_) (fun h => ?_) | refine CondP.ndec (fun h => ?_) (fun h => ?_)) <;> first | (exfalso; first | omega | contradiction) | (conv => whnf))
    | (refine Both.mk ?_ ?_ <;> (conv => whnf))
    | (refine And.intro (by first | decide | omega) ?_; conv => whnf)
    | fail
  refine CallP.is (runFault_ret p s t u _) rfl ?_
  conv => whnf
  repeat' first
    | (refine CondP.yes ?_; conv => whnf)
    | (refine CondP.not ?_; conv => whnf)
    | ((first | refine CondP.dec (fun h => ?_) (fun h => ?_) | refine CondP.ndec (fun h => ?_) (fun h => ?_)) <;> first | (exfalso; first | omega | contradiction) | (conv => whnf))
    | (refine Both.mk ?_ ?_ <;> (conv => whnf))
    | (refine And.intro (by first | decide | omega) ?_; conv => whnf)
    | fail
  refine FinOk.pure rfl rfl rfl ⟨?_, rfl, rfl⟩
  rfl
theorem runC_ok {p s : List Int} {t u : Int} (h : runC p s t u = 0) : p.length ≤ 12 ∧ opsB p = true ∧ s.length ≤ 8 ∧ allB 0 9999 s = true ∧ inR 0 2147483646 t ∧ inR 0 9999 u := by
  unfold runC at h
  split at h
  · rename_i hp
    split at h
    · rename_i hs
      split at h
      · rename_i ht
        unfold progC at hp
        unfold stackC at hs
        split at hp
        · omega
        · split at hp
          · split at hs
            · omega
            · split at hs
              · exact ⟨by omega, by assumption, by omega, by assumption, ht.1, ht.2⟩
              · omega
          · omega
      · omega
    · exact absurd h (by assumption)
  · exact absurd h (by assumption)
def RunQ (x : Int × List Int) (n : Nat) : AV → Hp → Nat → Prop := fun r ho m => (x.1 = 0 ∧ r = .agg [iv 0, .own n x.2.length] ∧ ho = [(n, .list 2 1 (ivs x.2))] ∧ m = n + 1) ∨ (x.1 ≠ 0 ∧ r = .agg [iv x.1, nl] ∧ ho = [] ∧ m = n)
theorem implRun_ret (p s : List Int) (t u : Int) (n : Nat) (h : runC p s t u = 0) : Ret Try.prog 26 [il p, il s, iv t, iv u] [] n true (RunQ (run2 t u p s) n) := by
  obtain ⟨h1, h2, h3, h4, h5, h6⟩ := runC_ok h
  have hf := runFault_ret p s t u
  rw [h] at hf
  refine Ret.fn ttOk Try.func26 rfl Try.call26 rfl rfl ?_
  conv => whnf
  repeat' first
    | (refine CondP.yes ?_; conv => whnf)
    | (refine CondP.not ?_; conv => whnf)
    | ((first | refine CondP.dec (fun h => ?_) (fun h => ?_) | refine CondP.ndec (fun h => ?_) (fun h => ?_)) <;> first | (exfalso; first | omega | contradiction) | (conv => whnf))
    | (refine Both.mk ?_ ?_ <;> (conv => whnf))
    | (refine And.intro (by first | decide | omega) ?_; conv => whnf)
    | fail
  refine CallP.is (hf _) rfl ?_
  conv => whnf
  repeat' first
    | (refine CondP.yes ?_; conv => whnf)
    | (refine CondP.not ?_; conv => whnf)
    | ((first | refine CondP.dec (fun h => ?_) (fun h => ?_) | refine CondP.ndec (fun h => ?_) (fun h => ?_)) <;> first | (exfalso; first | omega | contradiction) | (conv => whnf))
    | (refine Both.mk ?_ ?_ <;> (conv => whnf))
    | (refine And.intro (by first | decide | omega) ?_; conv => whnf)
    | fail
  refine ⟨⟨Nat.zero_le _, by simp only [List.length_map]; show (0 + _) * 8 ≤ _; omega, by simp only [List.length_map, maxLen]; show 0 + _ ≤ _; omega, trivial, by (first | (refine rowsB_ok ?_; rfl) | (intro r hr; first | exact row1 hr | exact row1 (List.mem_of_mem_take hr)))⟩, ?_⟩
  conv => whnf
  repeat' first
    | (refine CondP.yes ?_; conv => whnf)
    | (refine CondP.not ?_; conv => whnf)
    | ((first | refine CondP.dec (fun h => ?_) (fun h => ?_) | refine CondP.ndec (fun h => ?_) (fun h => ?_)) <;> first | (exfalso; first | omega | contradiction) | (conv => whnf))
    | (refine Both.mk ?_ ?_ <;> (conv => whnf))
    | (refine And.intro (by first | decide | omega) ?_; conv => whnf)
    | fail
  refine LoopP.go (fun y : Nat × List Int => y.1 ≤ p.length ∧ y.2.length ≤ 8 ∧ allB 0 9999 y.2 = true ∧ run2 t u p s = run2 t u (p.drop y.1) y.2)
    (fun y => ⟨[(32, il p), (33, iv p.length), (34, iv y.1), (10, .pt 2 0 0), (8, .pt 0 0 0)], [(2, .box [.own 1 y.2.length, iv t, iv u]), (1, .list 2 1 (ivs (y.2 ++ []))), (0, .box [iv 0, nl])], 3⟩) (fun y => p.length - y.1) (0, s) ⟨Nat.zero_le _, h3, h4, by rw [List.drop_zero]⟩ ?_ ?_
  · rw [List.length_map, List.length_map]
    refine Weak.of rfl rfl (by repeat' first | exact trivial | rfl | exact leafI (by first | rfl | omega | (simp (disch := omega) only [Int.reduceToNat, IntKind.bits, Nat.min_eq_left, Int.reducePow, IntWalk.i64_in, IntWalk.rem_in, IntWalk.i64_quo, IntWalk.u8_in, IntWalk.u32_in, IntWalk.u64_in]; done) | (simp (disch := omega) only [Int.reduceToNat, IntKind.bits, Nat.min_eq_left, Int.reducePow, IntWalk.i64_in, IntWalk.rem_in, IntWalk.i64_quo, IntWalk.u8_in, IntWalk.u32_in, IntWalk.u64_in]; omega)) | refine And.intro ?_ ?_) ?_
    refine ⟨⟨?_, rfl, rfl⟩, ⟨leafO (by simp), rfl, rfl⟩, ⟨rfl, rfl, rfl⟩, trivial⟩
    show some (AObj.box [.own 1 (0 + s.length), iv t, iv u]) = _
    rw [Nat.zero_add]
  rintro ⟨k, s'⟩ ⟨hk, hl', hs', hr⟩
  dsimp only at hk hl' hs' hr ⊢
  conv => whnf
  repeat' first
    | (refine CondP.yes ?_; conv => whnf)
    | (refine CondP.not ?_; conv => whnf)
    | ((first | refine CondP.dec (fun h => ?_) (fun h => ?_) | refine CondP.ndec (fun h => ?_) (fun h => ?_)) <;> first | (exfalso; first | omega | contradiction) | (conv => whnf))
    | (refine Both.mk ?_ ?_ <;> (conv => whnf))
    | (refine And.intro (by first | decide | omega) ?_; conv => whnf)
    | fail
  · have hlt : k < p.length := by omega
    rw [rowK iv1 p k (by omega)]
    refine ⟨by (first | exact ⟨by omega, by omega, rfl⟩ | (simp only [List.length_map]; exact ⟨by omega, by omega, rfl⟩)), ?_⟩
    conv => whnf
    repeat' first
      | (refine CondP.yes ?_; conv => whnf)
      | (refine CondP.not ?_; conv => whnf)
      | ((first | refine CondP.dec (fun h => ?_) (fun h => ?_) | refine CondP.ndec (fun h => ?_) (fun h => ?_)) <;> first | (exfalso; first | omega | contradiction) | (conv => whnf))
      | (refine Both.mk ?_ ?_ <;> (conv => whnf))
      | (refine And.intro (by first | decide | omega) ?_; conv => whnf)
      | fail
    refine CallP.heap (step_ret 2 1 _ (by decide) s' [] p[k] t u (opsB_at h2 hlt) hl' hs' h5) rfl (by repeat' first | exact trivial | rfl | exact leafI (by first | rfl | omega | (simp (disch := omega) only [Int.reduceToNat, IntKind.bits, Nat.min_eq_left, Int.reducePow, IntWalk.i64_in, IntWalk.rem_in, IntWalk.i64_quo, IntWalk.u8_in, IntWalk.u32_in, IntWalk.u64_in]; done) | (simp (disch := omega) only [Int.reduceToNat, IntKind.bits, Nat.min_eq_left, Int.reducePow, IntWalk.i64_in, IntWalk.rem_in, IntWalk.i64_quo, IntWalk.u8_in, IntWalk.u32_in, IntWalk.u64_in]; omega)) | refine And.intro ?_ ?_) rfl ?_
    rintro r ho m ⟨s2, e2, rfl, rfl, rfl, hs2⟩
    rw [List.drop_eq_getElem_cons hlt, run2] at hr
    conv => whnf
    repeat' first
      | (refine CondP.yes ?_; conv => whnf)
      | (refine CondP.not ?_; conv => whnf)
      | ((first | refine CondP.dec (fun h => ?_) (fun h => ?_) | refine CondP.ndec (fun h => ?_) (fun h => ?_)) <;> first | (exfalso; first | omega | contradiction) | (conv => whnf))
      | (refine Both.mk ?_ ?_ <;> (conv => whnf))
      | (refine And.intro (by first | decide | omega) ?_; conv => whnf)
      | fail
    · have hne : ¬ (step2 p[k] s' t u).1 = 0 := by assumption
      rw [if_neg hne] at hr
      refine FinOk.pure rfl rfl rfl (.inr ⟨?_, ?_, rfl, rfl⟩)
      · rw [hr]; exact hne
      · rw [hr]
    · have he : (step2 p[k] s' t u).1 = 0 := Decidable.not_not.1 h
      rw [if_pos he] at hr
      obtain ⟨g1, g2⟩ := step2_ok (opsB_at h2 hlt) hl' hs' he
      have hs2' := hs2 he
      subst hs2'
      refine ⟨(k + 1, (step2 p[k] s' t u).2), ⟨by show k + 1 ≤ _; omega, g1, g2, hr⟩, by show _ - (k + 1) < _ - k; omega, ?_⟩
      refine Weak.trans (Weak.trunc 1 2 1 _ (ivs ((step2 p[k] s' t u).2 ++ [])) (step2 p[k] s' t u).2.length rfl (by rw [takeL, List.append_nil])) ?_
      exact Weak.of rfl rfl (by repeat' first | exact trivial | rfl | exact leafI (by first | rfl | omega | (simp (disch := omega) only [Int.reduceToNat, IntKind.bits, Nat.min_eq_left, Int.reducePow, IntWalk.i64_in, IntWalk.rem_in, IntWalk.i64_quo, IntWalk.u8_in, IntWalk.u32_in, IntWalk.u64_in]; done) | (simp (disch := omega) only [Int.reduceToNat, IntKind.bits, Nat.min_eq_left, Int.reducePow, IntWalk.i64_in, IntWalk.rem_in, IntWalk.i64_quo, IntWalk.u8_in, IntWalk.u32_in, IntWalk.u64_in]; omega)) | refine And.intro ?_ ?_) (by repeat' first | exact trivial | rfl | exact leafI (by first | rfl | omega | (simp (disch := omega) only [Int.reduceToNat, IntKind.bits, Nat.min_eq_left, Int.reducePow, IntWalk.i64_in, IntWalk.rem_in, IntWalk.i64_quo, IntWalk.u8_in, IntWalk.u32_in, IntWalk.u64_in]; done) | (simp (disch := omega) only [Int.reduceToNat, IntKind.bits, Nat.min_eq_left, Int.reducePow, IntWalk.i64_in, IntWalk.rem_in, IntWalk.i64_quo, IntWalk.u8_in, IntWalk.u32_in, IntWalk.u64_in]; omega)) | refine And.intro ?_ ?_)
  · obtain rfl : k = p.length := by omega
    rw [List.drop_length, run2] at hr
    refine FinOk.mk' [1] rfl rfl rfl rfl rfl rfl rfl (.inl ⟨?_, ?_, ?_, rfl⟩)
    · rw [hr]
    · rw [hr]; rfl
    · rw [hr]
      show [(n, AObj.list 2 1 (ivs (s' ++ [])))] = _
      rw [List.append_nil]
end Go.Proofs.Ytgebhcahgmonpaa
