/-
  PLAIN FACTS for chapter 3: the faults of a transaction.
-/
import Derived.Test.YtdafmioegaelgaaM5
namespace Go.Am
open Go.RowKit
set_option linter.unusedVariables false
def dupB (e : List InD) (x : InD) : Bool := e.any fun y => decide (y.1 = x.1) && decide (y.2.1 = x.2.1)
def inC (e : List InD) (x : InD) : Int :=
  if ¬ inR 0 2147483646 x.1 then 3 else if ¬ inR 0 3 x.2.1 then 3 else if stackC x.2.2 ≠ 0 then stackC x.2.2 else if dupB e x then 6 else 0
def insC : List InD → List InD → Int
  | _, [] => 0
  | e, x :: r => if inC e x ≠ 0 then inC e x else insC (e ++ [x]) r
def outsC (s : Int) : List OutD → Int
  | [] => if inR 0 1000000 s then 0 else 7
  | y :: r => if ¬ inR 0 1000000 y.1 then 3 else if progC y.2 ≠ 0 then progC y.2 else outsC (s + y.1) r
def faultC (t : TxD) : Int :=
  if ¬ inR 0 65535 t.1 then 3 else if 4 < t.2.1.length then 2 else if t.2.2.length < 1 then 2 else if 4 < t.2.2.length then 2 else
  if insC [] t.2.1 ≠ 0 then insC [] t.2.1 else outsC 0 t.2.2
theorem insC_at (xs : List InD) (k : Nat) (h : k < xs.length) : insC (xs.take k) (xs.drop k) = if inC (xs.take k) xs[k] ≠ 0 then inC (xs.take k) xs[k] else insC (xs.take (k + 1)) (xs.drop (k + 1)) := by
  rw [List.drop_eq_getElem_cons h, insC, takeS xs k h]
theorem insC_end (xs : List InD) : insC (xs.take xs.length) (xs.drop xs.length) = 0 := by rw [List.drop_length, insC]
theorem outsC_at (s : Int) (ys : List OutD) (k : Nat) (h : k < ys.length) : outsC s (ys.drop k) = if ¬ inR 0 1000000 ys[k].1 then 3 else if progC ys[k].2 ≠ 0 then progC ys[k].2 else outsC (s + ys[k].1) (ys.drop (k + 1)) := by
  rw [List.drop_eq_getElem_cons h, outsC]
theorem dupB_take (e : List InD) (x : InD) (k : Nat) (h : k < e.length) : dupB (e.take (k + 1)) x = (dupB (e.take k) x || (decide (e[k].1 = x.1) && decide (e[k].2.1 = x.2.1))) := by
  rw [takeS e k h]; unfold dupB; rw [List.any_append]; simp
theorem dupB_yes {e : List InD} {x : InD} {k : Nat} (h : k < e.length) (h' : (decide (e[k].1 = x.1) && decide (e[k].2.1 = x.2.1)) = true) : dupB e x = true := List.any_eq_true.2 ⟨_, List.getElem_mem h, h'⟩
/-- The values of outputs, and what they come to. -/
def valsL (ys : List OutD) : List Int := ys.map (·.1)
def sumV : List Int → Int := fun l => l.foldl (· + ·) 0
theorem sumV_snoc (l : List Int) (x : Int) : sumV (l ++ [x]) = sumV l + x := by simp [sumV]
theorem sumV_take (l : List Int) (k : Nat) (h : k < l.length) : sumV (l.take (k + 1)) = sumV (l.take k) + l[k] := by rw [takeS l k h, sumV_snoc]
theorem sumV_to (l : List Int) (h : ∀ z ∈ l, inR 0 1000000 z) : ∀ k, k ≤ l.length → 0 ≤ sumV (l.take k) ∧ sumV (l.take k) ≤ 1000000 * k
  | 0, _ => by simp [sumV]
  | k + 1, hk => by
    have h1 := sumV_to l h k (by omega)
    have h2 := h l[k] (List.getElem_mem (by omega))
    unfold inR at h2
    rw [sumV_take l k (by omega)]
    omega
theorem sumV_bd (l : List Int) (h : ∀ z ∈ l, inR 0 1000000 z) : 0 ≤ sumV l ∧ sumV l ≤ 1000000 * l.length := by
  have := sumV_to l h l.length (Nat.le_refl _)
  rwa [List.take_length] at this
end Go.Am
