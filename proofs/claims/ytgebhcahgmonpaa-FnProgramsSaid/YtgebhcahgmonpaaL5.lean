/-
  CHAPTER 2: the law FnPrograms.
-/
import Derived.Test.YtgebhcahgmonpaaP10
import Derived.Test.YtgebhcahgmonpaaL3
namespace Go.Proofs.Ytgebhcahgmonpaa
open Go Go.Am Go.RowKit
set_option linter.unusedVariables false
set_option linter.unusedSimpArgs false
theorem run2_app (t u : Int) : ∀ (p q s : List Int), run2 t u (p ++ q) s = if (run2 t u p s).1 = 0 then run2 t u q (run2 t u p s).2 else ((run2 t u p s).1, [])
  | [], q, s => by simp [run2]
  | op :: p, q, s => by
    rw [List.cons_append, run2, run2]
    by_cases h : (step2 op s t u).1 = 0
    · rw [if_pos h, if_pos h]; exact run2_app t u p q _
    · rw [if_neg h, if_neg h, if_neg h]
theorem run2_ok (t u : Int) : ∀ (p s : List Int), opsB p = true → s.length ≤ 8 → allB 0 9999 s = true → (run2 t u p s).1 = 0 → (run2 t u p s).2.length ≤ 8 ∧ allB 0 9999 (run2 t u p s).2 = true
  | [], s, _, hl, hs, _ => ⟨hl, hs⟩
  | op :: p, s, hp, hl, hs, h0 => by
    have hop : opB op = true ∧ opsB p = true := by unfold opsB at *; rw [List.all_cons, Bool.and_eq_true] at hp; exact hp
    rw [run2] at h0 ⊢
    by_cases h : (step2 op s t u).1 = 0
    · rw [if_pos h] at h0 ⊢
      obtain ⟨g1, g2⟩ := step2_ok hop.1 hl hs h
      exact run2_ok t u p _ hop.2 g1 g2 h0
    · rw [if_neg h] at h0
      exact absurd h0 h
/-- A run's answer, in one: a code and a stack. -/
def ansR (p s : List Int) (t u : Int) : Int × List Int := if runC p s t u = 0 then run2 t u p s else (runC p s t u, [])
theorem ansR_len (p s : List Int) (t u : Int) : (ansR p s t u).2.length ≤ 8 := by
  unfold ansR
  split
  · rename_i h
    obtain ⟨_, h2, h3, h4, _, _⟩ := runC_ok h
    exact run2_len t u p s h2 h3 h4
  · simp
/-- What a run answers: the two, in one. -/
theorem run_ans (p s : List Int) (t u : Int) : ((ansR p s t u).1 ≠ 0 ∧ ∀ n, Ret Try.prog 26 [il p, il s, iv t, iv u] [] n true (Is (.agg [iv (ansR p s t u).1, nl]) [] n) ∧ Ret Try.prog 27 [il p, il s, iv t, iv u] [] n true (Is (.agg [iv (ansR p s t u).1, nl]) [] n)) ∨
    ((ansR p s t u).1 = 0 ∧ ∀ n, Ret Try.prog 26 [il p, il s, iv t, iv u] [] n true (Is (.agg [iv 0, .own n (ansR p s t u).2.length]) [(n, .list 2 1 (ivs (ansR p s t u).2))] (n + 1)) ∧ Ret Try.prog 27 [il p, il s, iv t, iv u] [] n true (Is (.agg [iv 0, .own n (ansR p s t u).2.length]) [(n, .list 2 1 (ivs (ansR p s t u).2))] (n + 1))) := by
  unfold ansR
  by_cases h : runC p s t u = 0
  · rw [if_pos h]
    by_cases h0 : (run2 t u p s).1 = 0
    · exact .inr ⟨h0, fun n => ⟨implRun_yes p s t u n h h0, specRun_yes p s t u n h h0⟩⟩
    · exact .inl ⟨h0, fun n => ⟨implRun_no p s t u n h h0, specRun_no p s t u n h h0⟩⟩
  · rw [if_neg h]
    exact .inl ⟨h, fun n => ⟨implRun_bad p s t u n h, specRun_bad p s t u n h⟩⟩
theorem opsB_split {p : List Int} {k : Nat} (h : opsB p = true) : opsB (p.take k) = true ∧ opsB (p.drop k) = true := by
  unfold opsB at *
  rw [← List.take_append_drop k p, List.all_append, Bool.and_eq_true] at h
  exact h
theorem progC_ok {p : List Int} (h : progC p = 0) : p.length ≤ 12 ∧ opsB p = true := by
  unfold progC at h
  split at h
  · omega
  · split at h
    · exact ⟨by omega, by assumption⟩
    · omega
theorem progC_split {p : List Int} {k : Nat} (h : progC p = 0) : progC (p.take k) = 0 ∧ progC (p.drop k) = 0 := by
  obtain ⟨h1, h2⟩ := progC_ok h
  obtain ⟨h3, h4⟩ := opsB_split (k := k) h2
  unfold progC
  rw [if_neg (by rw [List.length_take]; omega), if_pos h3, if_neg (by rw [List.length_drop]; omega), if_pos h4]
  exact ⟨rfl, rfl⟩
/-- A program in two parts. -/
theorem ans_split (p s : List Int) (t u : Int) (k : Nat) (hp : progC p = 0) :
    ((ansR (p.take k) s t u).1 ≠ 0 → (ansR (p.take k) s t u).1 = (ansR p s t u).1) ∧
    ((ansR (p.take k) s t u).1 = 0 → ansR (p.drop k) (ansR (p.take k) s t u).2 t u = ansR p s t u) := by
  obtain ⟨hp1, hp2⟩ := progC_split (k := k) hp
  have hc1 : runC (p.take k) s t u = runC p s t u := by unfold runC; rw [if_pos hp1, if_pos hp]
  by_cases h : runC p s t u = 0
  · have h1 : runC (p.take k) s t u = 0 := by rw [hc1, h]
    obtain ⟨_, g2, g3, g4, g5, g6⟩ := runC_ok h1
    have e1 : ansR (p.take k) s t u = run2 t u (p.take k) s := by unfold ansR; rw [if_pos h1]
    have e2 : ansR p s t u = run2 t u p s := by unfold ansR; rw [if_pos h]
    have e3 := run2_app t u (p.take k) (p.drop k) s
    rw [List.take_append_drop] at e3
    rw [e1, e2]
    constructor
    · intro hne
      rw [e3, if_neg hne]
    · intro h0
      rw [e3, if_pos h0]
      have hst := run2_ok t u (p.take k) s g2 g3 g4 h0
      have h2 : runC (p.drop k) (run2 t u (p.take k) s).2 t u = 0 := runC_mk (progC_ok hp2).1 (progC_ok hp2).2 hst.1 hst.2 g5 g6
      unfold ansR; rw [if_pos h2]
  · have e1 : ansR (p.take k) s t u = (runC p s t u, []) := by unfold ansR; rw [if_neg (by rw [hc1]; exact h), hc1]
    have e2 : ansR p s t u = (runC p s t u, []) := by unfold ansR; rw [if_neg h]
    rw [e1, e2]
    exact ⟨fun _ => rfl, fun h0 => absurd h0 h⟩
end Go.Proofs.Ytgebhcahgmonpaa
