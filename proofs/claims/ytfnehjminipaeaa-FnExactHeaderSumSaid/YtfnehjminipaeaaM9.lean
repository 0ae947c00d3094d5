/-
  CHAPTER 4: rows of sums, as Lean says them.
-/
import Derived.Test.YtfnehjminipaeaaM1
namespace Go.Proofs.Ytfnehjminipaeaa
open Go Go.Am Go.RowKit
set_option linter.unusedVariables false
set_option linter.unusedSimpArgs false
def joinF (a b : Int) : Int := sumI [a, b]
theorem joinF_bd (a b : Int) : 0 ≤ joinF a b ∧ joinF a b ≤ 2147483646 := sumI_bd _
abbrev isSumI (z : Int) : Prop := 0 ≤ z ∧ z ≤ 2147483646
/-- The place of the sum that is joined with the one at place k, of n. -/
def parN (k n : Nat) : Nat := if k % 2 = 1 then k - 1 else if k + 1 < n then k + 1 else k
theorem parN_lt {k n : Nat} (h : k < n) : parN k n < n := by unfold parN; split <;> (try split) <;> omega
def mateI (l : List Int) (k : Nat) : Int := l.getD (parN k l.length) 0
def pairF (l : List Int) (i : Nat) : Int := joinF (l.getD (2 * i) 0) (mateI l (2 * i))
def abP (l : List Int) (i : Nat) : List Int := (List.range i).map (pairF l)
theorem abP_len (l : List Int) (i : Nat) : (abP l i).length = i := by simp [abP]
theorem abP_snoc (l : List Int) (i : Nat) : abP l (i + 1) = abP l i ++ [pairF l i] := by simp [abP, List.range_succ]
def aboveF (l : List Int) : List Int := abP l ((l.length + 1) / 2)
theorem aboveF_len (l : List Int) : (aboveF l).length = (l.length + 1) / 2 := abP_len _ _
theorem abP_sum (l : List Int) (i : Nat) : ∀ z ∈ abP l i, isSumI z := by
  intro z hz
  simp only [abP, List.mem_map] at hz
  obtain ⟨k, _, rfl⟩ := hz
  exact joinF_bd _ _
theorem aboveF_sum (l : List Int) : ∀ z ∈ aboveF l, isSumI z := abP_sum _ _
theorem aboveF_at (l : List Int) (i : Nat) (h : i < (l.length + 1) / 2) : (aboveF l).getD i 0 = pairF l i := by
  simp [aboveF, abP, List.getD_eq_getElem?_getD, h]
def rowsW (l : List Int) : List (List Int) := if h : l.length ≤ 1 then [] else l :: rowsW (aboveF l)
termination_by l.length
decreasing_by rw [aboveF_len]; omega
def topW (l : List Int) : Int := if h : l.length ≤ 1 then l.getD 0 0 else topW (aboveF l)
termination_by l.length
decreasing_by rw [aboveF_len]; omega
theorem rowsW_end {l : List Int} (h : l.length ≤ 1) : rowsW l = [] := by rw [rowsW, dif_pos h]
theorem rowsW_next {l : List Int} (h : ¬ l.length ≤ 1) : rowsW l = l :: rowsW (aboveF l) := by rw [rowsW, dif_neg h]
theorem topW_end {l : List Int} (h : l.length ≤ 1) : topW l = l.getD 0 0 := by rw [topW, dif_pos h]
theorem topW_next {l : List Int} (h : ¬ l.length ≤ 1) : topW l = topW (aboveF l) := by rw [topW, dif_neg h]
/-- The branch of a leaf, along the rows. -/
def brR : List (List Int) → Nat → List Int
  | [], _ => []
  | r :: rs, k => mateI r k :: brR rs (k / 2)
theorem brR_len : ∀ (rs : List (List Int)) (k : Nat), (brR rs k).length = rs.length
  | [], _ => rfl
  | r :: rs, k => by simp [brR, brR_len rs]
def twinB (l : List Int) : Bool := (List.range (l.length / 2)).any fun i => decide (l.getD (2 * i) 0 = l.getD (2 * i + 1) 0)
def climbF : Int → Nat → List Int → Int
  | x, _, [] => x
  | x, k, b :: bs => climbF (if k % 2 = 0 then joinF x b else joinF b x) (k / 2) bs
def askC (l : List Int) : Int := if l.length < 1 ∨ 8 < l.length then 2 else if allB 0 2147483646 l then 0 else 3
theorem allB_iff (lo hi : Int) (l : List Int) : allB lo hi l = true ↔ ∀ z ∈ l, lo ≤ z ∧ z ≤ hi := by simp [allB]
theorem askC_ok {l : List Int} : askC l = 0 ↔ 1 ≤ l.length ∧ l.length ≤ 8 ∧ ∀ z ∈ l, isSumI z := by
  unfold askC
  split
  · exact ⟨fun h => by simp at h, fun h => by omega⟩
  · split
    · rename_i h1 h2
      exact ⟨fun _ => ⟨by omega, by omega, (allB_iff _ _ _).1 h2⟩, fun _ => rfl⟩
    · rename_i h1 h2
      exact ⟨fun h => by simp at h, fun h => absurd ((allB_iff _ _ _).2 h.2.2) h2⟩
/-! rows fit -/
structure RowOk (l : List Int) : Prop where
  pos : 1 ≤ l.length
  le : l.length ≤ 8
  sum : ∀ z ∈ l, isSumI z
theorem RowOk.above {l : List Int} (h : RowOk l) : RowOk (aboveF l) := ⟨by rw [aboveF_len]; have := h.pos; omega, by rw [aboveF_len]; have := h.le; omega, aboveF_sum l⟩
theorem RowOk.at {l : List Int} (h : RowOk l) {k : Nat} (hk : k < l.length) : isSumI (l.getD k 0) := by
  rw [List.getD_eq_getElem?_getD, List.getElem?_eq_getElem hk]
  exact h.sum _ (List.getElem_mem hk)
theorem RowOk.mate {l : List Int} (h : RowOk l) {k : Nat} (hk : k < l.length) : isSumI (mateI l k) := h.at (parN_lt hk)
theorem topW_sum (l : List Int) (h : RowOk l) : isSumI (topW l) := by
  by_cases hl : l.length ≤ 1
  · rw [topW_end hl]; exact h.at h.pos
  · rw [topW_next hl]
    exact topW_sum (aboveF l) h.above
termination_by l.length
decreasing_by rw [aboveF_len]; omega
theorem rowsW_ok (l : List Int) (h : RowOk l) : ∀ r ∈ rowsW l, RowOk r := by
  by_cases hl : l.length ≤ 1
  · rw [rowsW_end hl]; intro r hr; cases hr
  · rw [rowsW_next hl]
    intro r hr
    rcases List.mem_cons.1 hr with rfl | hr
    · exact h
    · exact rowsW_ok (aboveF l) h.above r hr
termination_by l.length
decreasing_by rw [aboveF_len]; omega
theorem rowsW_len (l : List Int) (h : l.length ≤ 8) : (rowsW l).length ≤ 3 ∧ (l.length ≤ 4 → (rowsW l).length ≤ 2) ∧ (l.length ≤ 2 → (rowsW l).length ≤ 1) := by
  have step : ∀ (l : List Int), ¬ l.length ≤ 1 → (rowsW l).length = (rowsW (aboveF l)).length + 1 := fun l hl => by rw [rowsW_next hl]; simp
  have z : ∀ (l : List Int), l.length ≤ 1 → (rowsW l).length = 0 := fun l hl => by rw [rowsW_end hl]; rfl
  have two : ∀ (l : List Int), l.length ≤ 2 → (rowsW l).length ≤ 1 := by
    intro l hl
    by_cases h1 : l.length ≤ 1
    · rw [z l h1]; omega
    · rw [step l h1, z _ (by rw [aboveF_len]; omega)]
      omega
  have four : ∀ (l : List Int), l.length ≤ 4 → (rowsW l).length ≤ 2 := by
    intro l hl
    by_cases h1 : l.length ≤ 1
    · rw [z l h1]; omega
    · rw [step l h1]
      have := two (aboveF l) (by rw [aboveF_len]; omega)
      omega
  refine ⟨?_, four l, two l⟩
  by_cases h1 : l.length ≤ 1
  · rw [z l h1]; omega
  · rw [step l h1]
    have := four (aboveF l) (by rw [aboveF_len]; omega)
    omega
/-- From each leaf its branch leads up. -/
theorem climb_up (l : List Int) (k : Nat) (hk : k < l.length) : climbF (l.getD k 0) k (brR (rowsW l) k) = topW l := by
  by_cases hl : l.length ≤ 1
  · rw [rowsW_end hl, topW_end hl]
    obtain rfl : k = 0 := by omega
    rfl
  · rw [rowsW_next hl, topW_next hl]
    have ih := climb_up (aboveF l) (k / 2) (by rw [aboveF_len]; omega)
    rw [aboveF_at l (k / 2) (by omega)] at ih
    rw [← ih]
    show climbF (if k % 2 = 0 then joinF (l.getD k 0) (mateI l k) else joinF (mateI l k) (l.getD k 0)) (k / 2) (brR (rowsW (aboveF l)) (k / 2)) = _
    congr 1
    by_cases h2 : k % 2 = 0
    · have e : 2 * (k / 2) = k := by omega
      rw [if_pos h2, pairF, e]
    · have e : 2 * (k / 2) = k - 1 := by omega
      rw [if_neg h2, pairF, e]
      have e1 : mateI l k = l.getD (k - 1) 0 := by unfold mateI parN; rw [if_pos (by omega)]
      have e2 : mateI l (k - 1) = l.getD k 0 := by unfold mateI parN; rw [if_neg (by omega), if_pos (by omega)]; congr 1; omega
      rw [e1, e2]
termination_by l.length
decreasing_by rw [aboveF_len]; omega
theorem brR_sum : ∀ (rs : List (List Int)) (l : List Int) (k : Nat), RowOk l → rs = rowsW l → k < l.length → ∀ z ∈ brR rs k, isSumI z
  | [], _, _, _, _, _, z, hz => by cases hz
  | r :: rs, l, k, hl, he, hk, z, hz => by
    by_cases h1 : l.length ≤ 1
    · rw [rowsW_end h1] at he; cases he
    · rw [rowsW_next h1] at he
      simp only [List.cons.injEq] at he
      obtain ⟨rfl, he⟩ := he
      rcases List.mem_cons.1 hz with rfl | hz
      · exact hl.mate hk
      · exact brR_sum rs (aboveF r) (k / 2) hl.above he (by rw [aboveF_len]; omega) z hz
end Go.Proofs.Ytfnehjminipaeaa
