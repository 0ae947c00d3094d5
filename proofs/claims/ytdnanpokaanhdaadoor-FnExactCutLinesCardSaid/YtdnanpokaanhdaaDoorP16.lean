/-
  CHAPTER 3: the laws' own functions over transactions, by the reading.
-/
import Derived.Test.YtdnanpokaanhdaaDoorP15
namespace Go.Proofs.YtdnanpokaanhdaaDoor
open Go Go.Am Go.RowKit
set_option linter.unusedVariables false
set_option linter.unusedSimpArgs false
def fillR {α : Type} (f : α → List AV) (z : List AV) (xs : List α) (k : Nat) : List (List AV) := (xs.take k).map f ++ List.replicate (xs.length - k) z
theorem fillR_len {α : Type} (f : α → List AV) (z : List AV) (xs : List α) (k : Nat) (h : k ≤ xs.length) : (fillR f z xs k).length = xs.length := by simp only [fillR, List.length_append, List.length_map, List.length_take, List.length_replicate]; omega
theorem fillR_all {α : Type} (f : α → List AV) (z : List AV) (xs : List α) : fillR f z xs xs.length = xs.map f := by unfold fillR; rw [Nat.sub_self, List.take_length, List.replicate_zero, List.append_nil]
theorem fillR_at {α : Type} (f : α → List AV) (z : List AV) (xs : List α) (k : Nat) (h : k < xs.length) : (fillR f z xs k).getD k [] = z := by
  unfold fillR
  rw [List.getD_eq_getElem?_getD, List.getElem?_append_right (by simp only [List.length_map, List.length_take]; omega)]
  simp only [List.length_map, List.length_take]
  rw [List.getElem?_replicate, if_pos (by omega)]; rfl
theorem fillR_set {α : Type} (f : α → List AV) (z : List AV) (xs : List α) (k : Nat) (h : k < xs.length) : (fillR f z xs k).set k (f xs[k]) = fillR f z xs (k + 1) := by
  unfold fillR
  rw [takeS xs k h, List.map_append, show xs.length - k = (xs.length - (k + 1)) + 1 by omega, List.replicate_succ, List.set_append_right _ _ (by simp only [List.length_map, List.length_take]; omega)]
  simp only [List.length_map, List.length_take]
  have : k - min k xs.length = 0 := by omega
  rw [this, List.set_cons_zero, List.append_assoc]; rfl
/-- A whole row that is stored. -/
theorem setRowR {α : Type} (f : α → List AV) (z : List AV) (xs : List α) (k : Nat) (h : k < xs.length) (cs : List AV) (hcs : cs = f xs[k]) (s : Nat) (hs : z.length = s) :
    (fillR f z xs k).set (Int.toNat (k : Int)) (((fillR f z xs k).getD (Int.toNat (k : Int)) []).take 0 ++ cs ++ ((fillR f z xs k).getD (Int.toNat (k : Int)) []).drop (0 + s)) = fillR f z xs (k + 1) := by
  rw [show Int.toNat (k : Int) = k from rfl, fillR_at f z xs k h, List.take_zero, List.nil_append, List.drop_of_length_le (by omega), List.append_nil, hcs, fillR_set f z xs k h]
theorem toByteS_fr (zs : List Int) (n : Nat) (hl : zs.length ≤ 1048576) : Ret Tryd.prog 5 [ul zs] [] n true (Is (ul zs) [] n) :=
  Ret.freeze (by rintro _ _ _ ⟨rfl, rfl, rfl⟩; exact ⟨_, frCell (look_cons_eq _ _ _) (by simp), rfl, rfl, rfl⟩) (toByteS_ret zs n hl)
/-- How much there is of it. -/
def sizeT (t : TxD) : Nat := t.2.1.length + (t.2.1.map fun x => x.2.2.length).sum + (t.2.2.length + (t.2.2.map fun y => y.2.length).sum)
structure Fits (t : TxD) : Prop where
  ins : t.2.1.length ≤ 1048576
  outs : t.2.2.length ≤ 1048576
  proofs : ∀ x ∈ t.2.1, x.2.2.length ≤ 1048576
  locks : ∀ y ∈ t.2.2, y.2.length ≤ 1048576
def leftI (a b : Int) : Int := if b ≤ a then a - b else -1
theorem leftI_neg {a b : Int} (h : leftI a b < 0) (ha : 0 ≤ a) : leftI a b = -1 ∧ a < b := by
  unfold leftI at *
  split at h
  · omega
  · rename_i h'; rw [if_neg h']; exact ⟨rfl, by omega⟩
theorem leftI_pos {a b : Int} (h : ¬ leftI a b < 0) : leftI a b = a - b ∧ b ≤ a := by
  unfold leftI at *
  split at h
  · rename_i h'; rw [if_pos h']; exact ⟨rfl, h'⟩
  · omega
def psum {α : Type} (g : α → Nat) (xs : List α) : Nat := (xs.map g).sum
theorem psum_take {α : Type} (g : α → Nat) (xs : List α) (k : Nat) (h : k < xs.length) : psum g (xs.take (k + 1)) = psum g (xs.take k) + g xs[k] := by
  unfold psum; rw [takeS xs k h, List.map_append, List.sum_append]; simp
theorem psum_le {α : Type} (g : α → Nat) (xs : List α) (k : Nat) : psum g (xs.take k) ≤ psum g xs := by
  have : psum g xs = psum g (xs.take k) + psum g (xs.drop k) := by
    unfold psum; rw [← List.sum_append, ← List.map_append, List.take_append_drop]
  omega
theorem psum_mem {α : Type} (g : α → Nat) (xs : List α) : ∀ x ∈ xs, g x ≤ psum g xs := by
  intro x hx
  unfold psum
  induction xs with
  | nil => cases hx
  | cons a r ih =>
    simp only [List.map_cons, List.sum_cons]
    rcases List.mem_cons.1 hx with rfl | h
    · omega
    · have := ih h; omega
abbrev pIn (x : InD) : Nat := x.2.2.length
abbrev pOut (y : OutD) : Nat := y.2.length
/-- What memory can hold. -/
structure Mem (t : TxD) : Prop where
  ins : t.2.1.length ≤ 9223372036854775807
  outs : t.2.2.length ≤ 9223372036854775807
  proofs : ∀ x ∈ t.2.1, pIn x ≤ 9223372036854775807
  locks : ∀ y ∈ t.2.2, pOut y ≤ 9223372036854775807
def sizeX (t : TxD) : Nat := t.2.1.length + psum pIn t.2.1 + (t.2.2.length + psum pOut t.2.2)
theorem fits_of {t : TxD} (h : sizeX t ≤ 1048576) : Fits t := by
  unfold sizeX at h
  refine ⟨by omega, by omega, fun x hx => ?_, fun y hy => ?_⟩
  · have := psum_mem pIn t.2.1 x hx; dsimp only [pIn] at this; omega
  · have := psum_mem pOut t.2.2 y hy; dsimp only [pOut] at this; omega
end Go.Proofs.YtdnanpokaanhdaaDoor
