/-
  MARKS, one thing after another.
-/
import Derived.Test.YtdnanpokaanhdaaDoorP16
namespace Go.Proofs.YtdnanpokaanhdaaDoor
open Go Go.Am Go.RowKit
set_option linter.unusedVariables false
set_option linter.unusedSimpArgs false
/-! ### marks, one thing after another -/
def mkL {α : Type} (f : Nat → α → α) (g : Nat → α → Nat) : Nat → List α → List α
  | _, [] => []
  | m, x :: r => f m x :: mkL f g (g m x) r
def nL {α : Type} (g : Nat → α → Nat) : Nat → List α → Nat
  | m, [] => m
  | m, x :: r => nL g (g m x) r
section
variable {α : Type} {f : Nat → α → α} {g : Nat → α → Nat}
theorem mkL_len : ∀ (l : List α) (m : Nat), (mkL f g m l).length = l.length
  | [], m => rfl
  | x :: r, m => by simp [mkL, mkL_len r]
theorem mkL_app : ∀ (l : List α) (x : α) (m : Nat), mkL f g m (l ++ [x]) = mkL f g m l ++ [f (nL g m l) x] ∧ nL g m (l ++ [x]) = g (nL g m l) x
  | [], x, m => ⟨rfl, rfl⟩
  | y :: r, x, m => by
    obtain ⟨h1, h2⟩ := mkL_app r x (g m y)
    exact ⟨by simp only [List.cons_append, mkL, nL, h1], by simp only [List.cons_append, nL, h2]⟩
theorem mkL_at : ∀ (xs : List α) (m k : Nat) (h : k < xs.length) (h' : k < (mkL f g m xs).length), (mkL f g m xs)[k] = f (nL g m (xs.take k)) xs[k]
  | x :: r, m, 0, _, _ => rfl
  | x :: r, m, k + 1, h, _ => mkL_at r (g m x) k (by simpa using h) (by rw [mkL_len]; simpa using h)
def mkLP (f : Nat → α → α) (g : Nat → α → Nat) (m : Nat) (xs : List α) (k : Nat) : List α := mkL f g m (xs.take k) ++ xs.drop k
theorem mkLP_zero (m : Nat) (xs : List α) : mkLP f g m xs 0 = xs := by simp [mkLP, mkL]
theorem mkLP_all (m : Nat) (xs : List α) : mkLP f g m xs xs.length = mkL f g m xs := by simp [mkLP]
theorem mkLP_len (m : Nat) (xs : List α) (k : Nat) (h : k ≤ xs.length) : (mkLP f g m xs k).length = xs.length := by simp [mkLP, mkL_len]; omega
theorem mkLP_at (m : Nat) (xs : List α) (k : Nat) (h : k < xs.length) : (mkLP f g m xs k)[k]? = some xs[k] := by
  rw [mkLP, List.getElem?_append_right (by rw [mkL_len, List.length_take]; omega), mkL_len, List.length_take, List.getElem?_drop, show k + (k - min k xs.length) = k by omega, List.getElem?_eq_getElem h]
theorem mkLP_set (m : Nat) (xs : List α) (k : Nat) (h : k < xs.length) : (mkLP f g m xs k).set k (f (nL g m (xs.take k)) xs[k]) = mkLP f g m xs (k + 1) := by
  unfold mkLP
  rw [takeS xs k h, (mkL_app _ _ _).1, List.set_append_right _ _ (by rw [mkL_len, List.length_take]; omega), mkL_len, List.length_take, show k - min k xs.length = 0 by omega, List.drop_eq_getElem_cons h, List.set_cons_zero, List.append_assoc]
  rfl
theorem nL_app : ∀ (l : List α) (x : α) (m : Nat), nL g m (l ++ [x]) = g (nL g m l) x
  | [], x, m => rfl
  | y :: r, x, m => nL_app r x (g m y)
theorem nL_step (m : Nat) (xs : List α) (k : Nat) (h : k < xs.length) : nL g m (xs.take (k + 1)) = g (nL g m (xs.take k)) xs[k] := by
  rw [takeS xs k h, nL_app]
theorem nL_le (s : α → Nat) (c : Nat) (hg : ∀ m x, g m x ≤ m + c + 2 * s x) : ∀ (xs : List α) (m : Nat), nL g m xs ≤ m + c * xs.length + 2 * psum s xs
  | [], m => by simp [nL, psum]
  | x :: r, m => by
    have h1 := nL_le s c hg r (g m x)
    have h2 := hg m x
    have h3 : psum s (x :: r) = s x + psum s r := by simp [psum]
    rw [nL, h3, List.length_cons, Nat.mul_add]
    omega
end
end Go.Proofs.YtdnanpokaanhdaaDoor
