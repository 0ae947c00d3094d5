/-
  PLAIN FACTS for chapter 5: coins.
-/
import Derived.Test.YtfnehjminipaeaaGreatM1
namespace Go.Am
open Go.RowKit
set_option linter.unusedVariables false

structure CoinD where
  tx : Int
  out : Int
  val : Int
  lock : List Int
  h : Int
  base : Bool
deriving DecidableEq
theorem coin_eq {a b : CoinD} : a = b ↔ a.tx = b.tx ∧ a.out = b.out ∧ a.val = b.val ∧ a.lock = b.lock ∧ a.h = b.h ∧ a.base = b.base := by
  cases a; cases b; simp
abbrev coinRow (c : CoinD) : List AV := [iv c.tx, iv c.out, iv c.val, il c.lock, iv c.h, bv c.base]
abbrev coinV (c : CoinD) : AV := .agg (coinRow c)
abbrev coinsV (l : List CoinD) : AV := .lst (l.map coinRow)
def coinC (c : CoinD) : Int := if inR 0 2147483646 c.tx ∧ inR 0 3 c.out ∧ inR 0 1000000 c.val ∧ inR 0 9999 c.h then progC c.lock else 3
/-- Whose key comes first. -/
def lessP (a b : CoinD) : Prop := a.tx < b.tx ∨ a.tx = b.tx ∧ a.out < b.out
instance (a b : CoinD) : Decidable (lessP a b) := inferInstanceAs (Decidable (_ ∨ _ ∧ _))
def ordP : Option CoinD → CoinD → Bool
  | none, _ => true
  | some q, c => decide (lessP q c)
def cgC (p : Option CoinD) : List CoinD → Int
  | [] => 0
  | c :: r => if coinC c ≠ 0 then coinC c else if ordP p c = true then cgC (some c) r else 1
abbrev valsC (l : List CoinD) : List Int := l.map (·.val)
def coinsC (l : List CoinD) : Int := if 40 < l.length then 2 else if cgC none l ≠ 0 then cgC none l else if inR 0 1000000 (sumV (valsC l)) then 0 else 7
def prevC (l : List CoinD) (k : Nat) : Option CoinD := (l.take k).getLast?
theorem prevC_zero (l : List CoinD) : prevC l 0 = none := by simp [prevC]
theorem prevC_succ (l : List CoinD) (k : Nat) (h : k < l.length) : prevC l (k + 1) = some l[k] := by
  rw [prevC, takeS l k h, List.getLast?_append]; rfl
theorem cgC_at (l : List CoinD) (k : Nat) (h : k < l.length) : cgC (prevC l k) (l.drop k) = if coinC l[k] ≠ 0 then coinC l[k] else if ordP (prevC l k) l[k] = true then cgC (prevC l (k + 1)) (l.drop (k + 1)) else 1 := by
  rw [prevC_succ l k h, List.drop_eq_getElem_cons h, cgC]
theorem cgC_end (l : List CoinD) : cgC (prevC l l.length) (l.drop l.length) = 0 := by rw [List.drop_length, cgC]
theorem coinC_val {c : CoinD} (h : ¬ coinC c ≠ 0) : inR 0 1000000 c.val := by
  unfold coinC at h
  split at h
  · rename_i h'; exact h'.2.2.1
  · simp at h
def cmpI (a b : Int) : Int := if a < b then -1 else if b < a then 1 else 0
def cmpC (a b : CoinD) : Int := if cmpI a.tx b.tx ≠ 0 then cmpI a.tx b.tx else cmpI a.out b.out
theorem cmpC_less (a b : CoinD) : ¬ 0 ≤ cmpC a b ↔ lessP a b := by
  unfold cmpC cmpI lessP
  repeat' split
  all_goals omega
/-- How much there is of it. -/
abbrev pCoin (c : CoinD) : Nat := c.lock.length
structure FitsC (l : List CoinD) : Prop where
  len : l.length ≤ 1048576
  locks : ∀ c ∈ l, pCoin c ≤ 1048576
structure MemC (l : List CoinD) : Prop where
  len : l.length ≤ 9223372036854775807
  locks : ∀ c ∈ l, pCoin c ≤ 9223372036854775807
end Go.Am
