/-
  STRINGS: bytes, arguments (chapter 9), rests (chapter 10).
-/
import Derived.Test.YtdnanpokaanhdaaDoorAmT
import Derived.Test.YtdnanpokaanhdaaDoorM1
namespace Go.Proofs.YtdnanpokaanhdaaDoor
open Go Go.Am Go.RowKit
set_option linter.unusedVariables false
set_option linter.unusedSimpArgs false
abbrev sv (b : ByteArray) : AV := .val (.string b)
/-- A string's k-th byte. -/
def chB (b : ByteArray) (k : Nat) : Int := ((b.toList.getD k 0).toNat : Int)
theorem chB_u8 (b : ByteArray) (k : Nat) : 0 ≤ chB b k ∧ chB b k ≤ 255 := by
  have := (b.toList.getD k 0).toNat_lt
  unfold chB
  omega
theorem byteRowK (b : ByteArray) (k : Nat) (h : k < b.size) : (byteRows b).getD (Int.toNat (k : Int)) [] = [uv (chB b k)] := by
  have hl : k < b.toList.length := by rw [ByteArray.toList_eq, Array.length_toList]; exact h
  unfold byteRows
  rw [rowK (fun c => [byteV c]) b.toList k hl]
  simp [byteV, chB, List.getD_eq_getElem?_getD, hl]
theorem byteAtK (b : ByteArray) (k : Nat) : byteAt b (k : Int) = uv (chB b k) := rfl
/-- A letter or a digit. -/
def letterI (z : Int) : Prop := (97 ≤ z ∧ z ≤ 122) ∨ (65 ≤ z ∧ z ≤ 90) ∨ (48 ≤ z ∧ z ≤ 57)
instance (z : Int) : Decidable (letterI z) := inferInstanceAs (Decidable (_ ∨ _))
def letTo (b : ByteArray) : Nat → Bool
  | 0 => true
  | k + 1 => letTo b k && decide (letterI (chB b k))
theorem letTo_no {b : ByteArray} {k : Nat} (h' : ¬ letterI (chB b k)) : ∀ {n : Nat}, k < n → letTo b n = false
  | 0, h => absurd h (Nat.not_lt_zero _)
  | n + 1, h => by
    rw [letTo]
    by_cases hk : k = n
    · subst hk; simp [h']
    · rw [letTo_no h' (by omega)]; rfl
def argF (b : ByteArray) : Bool := decide (b.size ≤ 12) && letTo b b.size
end Go.Proofs.YtdnanpokaanhdaaDoor
