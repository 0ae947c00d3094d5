/-
  PLAIN FACTS for chapter 3: what a transaction without faults is like.
-/
import Derived.Test.YtdafmioegaelgaaM6
namespace Go.Am
open Go.RowKit
set_option linter.unusedVariables false
theorem stackC_ok {s : List Int} (h : stackC s = 0) : s.length ≤ 8 ∧ allB 0 9999 s = true := by
  unfold stackC at h
  split at h
  · cases h
  · split at h
    · rename_i h1 h2; exact ⟨by omega, h2⟩
    · cases h
theorem progC_ok {p : List Int} (h : progC p = 0) : p.length ≤ 12 ∧ opsB p = true := by
  unfold progC at h
  split at h
  · cases h
  · split at h
    · rename_i h1 h2; exact ⟨by omega, h2⟩
    · cases h
theorem inC_ok {e : List InD} {x : InD} (h : inC e x = 0) : inR 0 2147483646 x.1 ∧ inR 0 3 x.2.1 ∧ stackC x.2.2 = 0 ∧ dupB e x = false := by
  unfold inC at h
  split at h
  · cases h
  · rename_i h1
    split at h
    · cases h
    · rename_i h2
      split at h
      · rename_i h3; exact absurd h h3
      · rename_i h3
        split at h
        · cases h
        · rename_i h4
          exact ⟨Decidable.not_not.1 h1, Decidable.not_not.1 h2, Decidable.not_not.1 h3, by simpa using h4⟩
theorem insC_ok : ∀ (xs e : List InD), insC e xs = 0 → ∀ x ∈ xs, okI x
  | [], _, _, x, hx => by cases hx
  | y :: r, e, h, x, hx => by
    rw [insC] at h
    split at h
    · rename_i h1; exact absurd h h1
    · rename_i h1
      obtain ⟨g1, g2, g3, _⟩ := inC_ok (Decidable.not_not.1 h1)
      rcases List.mem_cons.1 hx with rfl | hx
      · obtain ⟨k1, k2⟩ := stackC_ok g3
        refine ⟨g1, g2, k1, fun z hz => ?_⟩
        have := List.all_eq_true.1 k2 z hz
        simp at this
        exact ⟨this.1, by omega⟩
      · exact insC_ok r _ h x hx
theorem outsC_ok : ∀ (ys : List OutD) (s : Int), outsC s ys = 0 → ∀ y ∈ ys, okO y
  | [], _, _, y, hy => by cases hy
  | x :: r, s, h, y, hy => by
    rw [outsC] at h
    split at h
    · cases h
    · rename_i h1
      split at h
      · rename_i h2; exact absurd h h2
      · rename_i h2
        rcases List.mem_cons.1 hy with rfl | hy
        · obtain ⟨k1, k2⟩ := progC_ok (Decidable.not_not.1 h2)
          have h1' := Decidable.not_not.1 h1
          unfold inR at h1'
          refine ⟨⟨h1'.1, by omega⟩, k1, fun z hz => ?_⟩
          have := List.all_eq_true.1 k2 z hz
          unfold opB at this
          simp at this
          unfold inR; omega
        · exact outsC_ok r _ h y hy
theorem fault_parts {t : TxD} (h : faultC t = 0) : inR 0 65535 t.1 ∧ t.2.1.length ≤ 4 ∧ 1 ≤ t.2.2.length ∧ t.2.2.length ≤ 4 ∧ insC [] t.2.1 = 0 ∧ outsC 0 t.2.2 = 0 := by
  unfold faultC at h
  split at h
  · cases h
  rename_i h1
  split at h
  · cases h
  rename_i h2
  split at h
  · cases h
  rename_i h3
  split at h
  · cases h
  rename_i h4
  split at h
  · rename_i h5; exact absurd h h5
  rename_i h5
  exact ⟨Decidable.not_not.1 h1, by omega, by omega, by omega, Decidable.not_not.1 h5, h⟩
theorem fault_ok {t : TxD} (h : faultC t = 0) : okT t := by
  obtain ⟨h1, h2, h3, h4, h5, h6⟩ := fault_parts h
  exact ⟨h1, h2, h4, insC_ok _ _ h5, outsC_ok _ _ h6⟩
theorem fault_mk {t : TxD} (h1 : inR 0 65535 t.1) (h2 : t.2.1.length ≤ 4) (h3 : 1 ≤ t.2.2.length) (h4 : t.2.2.length ≤ 4) (h5 : insC [] t.2.1 = 0) (h6 : outsC 0 t.2.2 = 0) : faultC t = 0 := by
  unfold faultC
  rw [if_neg (fun h => h h1), if_neg (by omega), if_neg (by omega), if_neg (by omega), if_neg (fun h => h h5)]
  exact h6
/-- Without its proofs. -/
def bareI (x : InD) : InD := (x.1, x.2.1, [])
def bareT (t : TxD) : TxD := (t.1, t.2.1.map bareI, t.2.2)
theorem dupB_bare (e : List InD) (x : InD) : dupB (e.map bareI) (bareI x) = dupB e x := by
  unfold dupB; rw [List.any_map]; rfl
theorem insC_bare : ∀ (xs e : List InD), insC e xs = 0 → insC (e.map bareI) (xs.map bareI) = 0
  | [], e, _ => rfl
  | y :: r, e, h => by
    rw [insC] at h
    split at h
    · rename_i h1; exact absurd h h1
    · rename_i h1
      obtain ⟨g1, g2, g3, g4⟩ := inC_ok (Decidable.not_not.1 h1)
      have hz : inC (e.map bareI) (bareI y) = 0 := by
        unfold inC
        rw [if_neg (fun h => h g1), if_neg (fun h => h g2), if_neg (by show ¬ stackC [] ≠ 0; decide), dupB_bare, g4]; rfl
      rw [List.map_cons, insC, if_neg (fun h => h hz)]
      have := insC_bare r (e ++ [y]) h
      rw [List.map_append] at this
      exact this
theorem fault_bare {t : TxD} (h : faultC t = 0) : faultC (bareT t) = 0 := by
  obtain ⟨h1, h2, h3, h4, h5, h6⟩ := fault_parts h
  refine fault_mk h1 (by simpa [bareT] using h2) h3 h4 (insC_bare _ [] h5) h6
theorem packI_bare (x : InD) : packI (bareI x) = bigN x.1 ++ putN x.2.1 ++ [0] := by
  have : listN [] = [0] := by unfold listN numsN putN; rw [if_pos (by decide)]; rfl
  unfold packI bareI; rw [this]
end Go.Am
