/-
  CHAPTER 2, programs, function by function, by the reading.
-/
import Derived.Test.YtdnanpokaanhdaaDoorP1
namespace Go.Proofs.YtdnanpokaanhdaaDoor
open Go Go.Am Go.RowKit
set_option linter.unusedVariables false
set_option linter.unusedSimpArgs false
def kindI (op : Int) : Int := if op = 1 then 2 else if op = 2 ∨ op = 6 ∨ op = 7 ∨ op = 9 then 3 else if op = 3 ∨ op = 4 ∨ op = 5 ∨ op = 8 then 4 else if 100 ≤ op ∧ op ≤ 1099 then 1 else 0
theorem kindI_zero (op : Int) : kindI op = 0 ↔ opB op = false := by
  unfold kindI opB
  constructor
  · intro h
    repeat' split at h
    all_goals first | omega | (simp; omega)
  · intro h
    simp at h
    repeat' split
    all_goals omega
/-- The machine. -/
abbrev mh (i j : Nat) (s e : List Int) (t u : Int) : Hp := [(i, .box [.own j s.length, iv t, iv u]), (j, .list 2 1 (ivs (s ++ e)))]
theorem takeL (s e : List Int) : List.take s.length (ivs (s ++ e)) = ivs s := by
  rw [show ivs (s ++ e) = ivs s ++ ivs e from List.map_append .., List.take_left' (by simp)]
theorem getL (s e : List Int) (x : Int) : (ivs (s ++ [x] ++ e)).getD (Int.toNat (s.length : Int)) [] = [iv x] := by
  rw [rowK iv1 _ _ (by simp)]; simp
theorem lenS (s : List Int) (x : Int) (h : s.length ≤ 1000) : IntKind.i64.wrap (((s ++ [x]).length : Nat) - 1 : Int) = (s.length : Int) := by
  rw [List.length_append]; simp only [List.length_cons, List.length_nil]; rw [IntWalk.i64_in _ (by omega)]; omega
theorem allB1 {x : Int} (h : inR 0 9999 x) : allB 0 2147483646 [x] = true := by
  unfold inR at h
  simp [allB]; omega
def faultI (k : Int) (n : Nat) : Int := if k = 4 then (if n < 2 then 4 else 0) else if k = 3 then (if n < 1 then 4 else 0) else if k = 2 then (if n < 1 then 4 else if n = 8 then 10 else 0) else if k = 1 then (if n = 8 then 10 else 0) else 0
abbrev fv (f : Nat) : AV := .val (.func (.func f) #[] #[])
end Go.Proofs.YtdnanpokaanhdaaDoor
