/-
  PLAIN FACTS for chapter 1, and words for what is read.
-/
import Derived.Test.YtbghcndemghilaaAmC
import Derived.IntWalk
namespace Go.Am
open Go.RowKit
set_option linter.unusedVariables false

abbrev uv (n : Int) : AV := .val (.int .u8 n)
/-- A list of numbers, as it is read. -/
abbrev ivs (zs : List Int) : List (List AV) := zs.map fun z => [iv z]
abbrev uvs (zs : List Int) : List (List AV) := zs.map fun z => [uv z]
abbrev il (zs : List Int) : AV := .lst (ivs zs)
abbrev ul (zs : List Int) : AV := .lst (uvs zs)
abbrev uv1 (z : Int) : List AV := [uv z]
def isU8 (z : Int) : Prop := 0 ≤ z ∧ z ≤ 255
def inR (lo hi z : Int) : Prop := lo ≤ z ∧ z ≤ hi
instance (lo hi z : Int) : Decidable (inR lo hi z) := inferInstanceAs (Decidable (_ ∧ _))

theorem leafI {k : IntKind} {x y : Int} (h : x = y) : some (AV.val (Value.int k x)) = some (AV.val (Value.int k y)) := by rw [h]
theorem ivI {x y : Int} (h : x = y) : iv x = iv y := by rw [h]
theorem bvI {x y : Bool} (h : x = y) : bv x = bv y := by rw [h]
theorem rowN {α β : Type} (f : α → List β) (zs : List α) (k : Nat) (h : k < zs.length) : (zs.map f).getD k [] = f zs[k] := by
  simp [List.getD_eq_getElem?_getD, h]
theorem rowK {α β : Type} (f : α → List β) (zs : List α) (k : Nat) (h : k < zs.length) : (zs.map f).getD (Int.toNat (k : Int)) [] = f zs[k] := rowN f zs k h
theorem takeS {α : Type} (zs : List α) (k : Nat) (h : k < zs.length) : zs.take (k + 1) = zs.take k ++ [zs[k]] := List.take_succ_eq_append_getElem h

/-- A number's four bytes. -/
def four (n : Int) : List Int := [n.fdiv (2 ^ 24) % 256, n.fdiv (2 ^ 16) % 256, n.fdiv (2 ^ 8) % 256, n % 256]
theorem four_len (n : Int) : (four n).length = 4 := rfl
def fours (l : List Int) : List Int := (l.map four).flatten
theorem fours_len (l : List Int) : (fours l).length = 4 * l.length := by
  induction l with
  | nil => rfl
  | cons a r ih => simp only [fours, List.map_cons, List.flatten_cons, List.length_append, four_len] at *; simp only [List.length_cons]; omega
/-- All within. -/
def allB (lo hi : Int) (l : List Int) : Bool := l.all fun z => decide (lo ≤ z) && decide (z ≤ hi)
theorem allB_take {lo hi : Int} {l : List Int} {k : Nat} (h : k < l.length) : allB lo hi (l.take (k + 1)) = (allB lo hi (l.take k) && (decide (lo ≤ l[k]) && decide (l[k] ≤ hi))) := by
  rw [takeS l k h]; unfold allB; rw [List.all_append]; simp
theorem allB_at {lo hi : Int} {l : List Int} (h : allB lo hi l = true) {k : Nat} (hk : k < l.length) : lo ≤ l[k] ∧ l[k] ≤ hi := by
  have := List.all_eq_true.1 h l[k] (List.getElem_mem hk)
  simpa using this
theorem allB_no {lo hi : Int} {l : List Int} {k : Nat} (hk : k < l.length) (h : ¬ (lo ≤ l[k] ∧ l[k] ≤ hi)) : allB lo hi l = false := by
  cases hb : allB lo hi l with
  | false => rfl
  | true => exact absurd (allB_at hb hk) h

theorem leafO {e s : Nat} {x y : List (List AV)} (h : x = y) : some (AObj.list e s x) = some (AObj.list e s y) := by rw [h]
theorem leafW {i x y : Nat} (h : x = y) : some (AV.own i x) = some (AV.own i y) := by rw [h]
theorem row1 {α : Type} {g : α → AV} {zs : List α} {r : List AV} (h : r ∈ zs.map fun z => [g z]) : r.length = 1 := by
  obtain ⟨_, _, rfl⟩ := List.mem_map.1 h; rfl
theorem takeM {α β : Type} (f : α → β) {l : List α} {n : Nat} (h : l.length = n) : (l.map f).take n = l.map f := List.take_of_length_le (by simp [h])

theorem ownI {i x y : Nat} (h : x = y) : AV.own i x = AV.own i y := by rw [h]
theorem objI {i e s : Nat} {x y : List (List AV)} (h : x = y) : [(i, AObj.list e s x)] = [(i, AObj.list e s y)] := by rw [h]

theorem setM {α β : Type} (f : α → β) (l : List α) (k : Nat) (x : α) : (l.map f).set k (f x) = (l.set k x).map f := by rw [List.map_set]
def rowsB (s : Nat) (l : List (List AV)) : Bool := l.all fun r => Nat.beq r.length s
theorem rowsB_ok {s : Nat} {l : List (List AV)} (h : rowsB s l = true) : ∀ r ∈ l, r.length = s := fun r hr => Nat.eq_of_beq_eq_true (List.all_eq_true.1 h r hr)
abbrev iv1 (z : Int) : List AV := [iv z]

theorem setRow (l : List Int) (k : Nat) (x : Int) (h : k < l.length) (s : Nat) (hs : s = 1) :
    (ivs l).set (Int.toNat (k : Int)) (((ivs l).getD (Int.toNat (k : Int)) []).take 0 ++ (iv x).cells ++ ((ivs l).getD (Int.toNat (k : Int)) []).drop (0 + s)) = ivs (l.set k x) := by
  subst hs
  rw [rowK iv1 l k h]
  show (l.map iv1).set k (iv1 x) = _
  rw [setM]
/-- What a source of choices answers. -/
def nextF (c : List Int) (a k : Int) : Int :=
  if k < 1 then 0 else if c.length = 0 then (a * 7) % k else
  if 200 < k then ((c.getD (a % c.length).toNat 0 + a / c.length * 37) * 251 + c.getD ((a + 1) % c.length).toNat 0 * 13 + a) % k
  else (c.getD (a % c.length).toNat 0 + a / c.length * 37) % k
theorem nextF_bd (c : List Int) (a k : Int) (hk : 1 ≤ k) : 0 ≤ nextF c a k ∧ nextF c a k < k := by
  unfold nextF
  rw [if_neg (by omega)]
  split
  · exact ⟨Int.emod_nonneg _ (by omega), Int.emod_lt_of_pos _ (by omega)⟩
  · split
    · exact ⟨Int.emod_nonneg _ (by omega), Int.emod_lt_of_pos _ (by omega)⟩
    · exact ⟨Int.emod_nonneg _ (by omega), Int.emod_lt_of_pos _ (by omega)⟩
theorem nextF_lo (c : List Int) (a k : Int) (hk : k < 1) : nextF c a k = 0 := by unfold nextF; rw [if_pos hk]
theorem modN {a : Int} {m : Nat} (ha : 0 ≤ a) (hm : 0 < m) : a.tmod (m : Int) = (((a % (m : Int)).toNat : Nat) : Int) ∧ (a % (m : Int)).toNat < m := by
  have h1 := Int.emod_nonneg a (show (m : Int) ≠ 0 by omega)
  have h2 := Int.emod_lt_of_pos a (show (0 : Int) < m by omega)
  rw [Int.tmod_eq_emod_of_nonneg ha]
  omega
theorem getU8 {c : List Int} (hc : ∀ z ∈ c, isU8 z) {j : Nat} (hj : j < c.length) : c.getD j 0 = c[j] ∧ 0 ≤ c[j] ∧ c[j] ≤ 255 := by
  have := hc c[j] (List.getElem_mem hj)
  exact ⟨by simp [List.getD_eq_getElem?_getD, hj], this.1, this.2⟩
end Go.Am
/-
  PLAIN FACTS for chapter 2: operations, programs, stacks.
-/
namespace Go.Am
set_option linter.unusedVariables false

def opB (op : Int) : Bool := (decide (1 ≤ op) && decide (op ≤ 9)) || (decide (100 ≤ op) && decide (op ≤ 1099))
theorem opB_eq (op : Int) : opB op = (decide (inR 1 9 op) || decide (inR 100 1099 op)) := by
  rw [Bool.eq_iff_iff]
  simp only [opB, Bool.or_eq_true, Bool.and_eq_true, decide_eq_true_eq]
  exact Iff.rfl
def opsB (p : List Int) : Bool := p.all opB
theorem opsB_take {p : List Int} {k : Nat} (h : k < p.length) : opsB (p.take (k + 1)) = (opsB (p.take k) && opB p[k]) := by
  rw [takeS p k h]; unfold opsB; rw [List.all_append]; simp
theorem opsB_at {p : List Int} (h : opsB p = true) {k : Nat} (hk : k < p.length) : opB p[k] = true := List.all_eq_true.1 h p[k] (List.getElem_mem hk)
theorem opsB_no {p : List Int} {k : Nat} (hk : k < p.length) (h : opB p[k] = false) : opsB p = false := by
  cases hb : opsB p with
  | false => rfl
  | true => rw [opsB_at hb hk] at h; cases h
def progC (p : List Int) : Int := if 12 < p.length then 2 else if opsB p then 0 else 1
def stackC (s : List Int) : Int := if 8 < s.length then 2 else if allB 0 9999 s then 0 else 3
end Go.Am
