/-
  PLAIN FACTS for chapter 2: operations, programs, stacks.
-/
import Derived.Test.YtdafmioegaelgaaM1
namespace Go.Am
set_option linter.unusedVariables false

def opB (op : Int) : Bool := (decide (1 ≤ op) && decide (op ≤ 9)) || (decide (100 ≤ op) && decide (op ≤ 1099))
theorem opB_eq (op : Int) : opB op = (decide (inR 1 9 op) || decide (inR 100 1099 op)) := by
  rw [Bool.eq_iff_iff]
  simp only [opB, Bool.or_eq_true, Bool.and_eq_true, decide_eq_true_eq]
  exact Iff.rfl
def opsB (p : List Int) : Bool := p.all opB
theorem opsB_take {p : List Int} {k : Nat} (h : k < p.length) : opsB (p.take (k + 1)) = (opsB (p.take k) && opB p[k]) := by
  rw [takeS p k h]; unfold opsB; rw [List.all_append]; simp
theorem opsB_at {p : List Int} (h : opsB p = true) {k : Nat} (hk : k < p.length) : opB p[k] = true := List.all_eq_true.1 h p[k] (List.getElem_mem hk)
theorem opsB_no {p : List Int} {k : Nat} (hk : k < p.length) (h : opB p[k] = false) : opsB p = false := by
  cases hb : opsB p with
  | false => rfl
  | true => rw [opsB_at hb hk] at h; cases h
def progC (p : List Int) : Int := if 12 < p.length then 2 else if opsB p then 0 else 1
def keyB (k : Int) : Bool := decide (inR 0 899 k)
def signF (k t : Int) : Int := sumI [k, t, 7] % 1000
theorem signF_bd (k t : Int) : 0 ≤ signF k t ∧ signF k t ≤ 999 := by unfold signF; omega
def signR (k t : Int) : List AV := if inR 0 899 k ∧ inR 0 2147483646 t then [iv 0, iv (signF k t)] else [iv 3, iv 0]
def needs (op : Int) : Nat := if op = 1 ∨ op = 2 ∨ op = 6 ∨ op = 7 ∨ op = 9 then 1 else if op = 3 ∨ op = 4 ∨ op = 5 ∨ op = 8 then 2 else 0
def flagI (b : Bool) : Int := if b then 1 else 0
/-- An operation of one number. -/
def one2 (op : Int) (rest : List Int) (top height : Int) : Int × List Int :=
  if op = 1 then (0, rest ++ [top, top]) else if op = 7 then (0, rest ++ [sumI [top] % 1000]) else if op = 6 ∧ top = 0 then (8, []) else if op = 9 ∧ height < top then (8, []) else (0, rest)
/-- An operation of two numbers, b the upper one. -/
def two2 (op : Int) (rest : List Int) (a b text : Int) : Int × List Int :=
  if op = 3 then (0, rest ++ [b, a]) else if op = 4 then (if 9999 < a + b then (3, []) else (0, rest ++ [a + b])) else if op = 5 then (0, rest ++ [flagI (decide (a = b))]) else (0, rest ++ [flagI (decide (inR 0 899 b) && decide (signF b text = a))])
def out2 (op : Int) (s : List Int) (text height : Int) : Int × List Int :=
  if needs op = 0 then (0, s ++ [op - 100]) else if needs op = 1 then one2 op (s.take (s.length - 1)) (s.getD (s.length - 1) 0) height
  else two2 op (s.take (s.length - 2)) (s.getD (s.length - 2) 0) (s.getD (s.length - 1) 0) text
/-- A step: a code, and the stack behind it. -/
def step2 (op : Int) (s : List Int) (text height : Int) : Int × List Int :=
  if s.length < needs op then (4, []) else
  if (out2 op s text height).1 = 0 ∧ 8 < (out2 op s text height).2.length then (10, []) else out2 op s text height
def run2 (text height : Int) : List Int → List Int → Int × List Int
  | [], s => (0, s)
  | op :: p, s => if (step2 op s text height).1 = 0 then run2 text height p (step2 op s text height).2 else ((step2 op s text height).1, [])
def stackC (s : List Int) : Int := if 8 < s.length then 2 else if allB 0 9999 s then 0 else 3
def runC (p s : List Int) (text height : Int) : Int :=
  if progC p = 0 then if stackC s = 0 then if inR 0 2147483646 text ∧ inR 0 9999 height then 0 else 3 else stackC s else progC p
end Go.Am
