/-
  PLAIN FACTS for chapter 1, and words for what is read.
-/
import Derived.Test.YtdafmioegaelgaaAmC
import Derived.IntWalk
namespace Go.Am
open Go.RowKit
set_option linter.unusedVariables false

abbrev uv (n : Int) : AV := .val (.int .u8 n)
/-- A list of numbers, as it is read. -/
abbrev ivs (zs : List Int) : List (List AV) := zs.map fun z => [iv z]
abbrev uvs (zs : List Int) : List (List AV) := zs.map fun z => [uv z]
abbrev il (zs : List Int) : AV := .lst (ivs zs)
abbrev ul (zs : List Int) : AV := .lst (uvs zs)
abbrev uv1 (z : Int) : List AV := [uv z]
def isU8 (z : Int) : Prop := 0 ≤ z ∧ z ≤ 255
def isI64 (z : Int) : Prop := -9223372036854775808 ≤ z ∧ z ≤ 9223372036854775807
def inR (lo hi z : Int) : Prop := lo ≤ z ∧ z ≤ hi
instance (lo hi z : Int) : Decidable (inR lo hi z) := inferInstanceAs (Decidable (_ ∧ _))

theorem leafI {k : IntKind} {x y : Int} (h : x = y) : some (AV.val (Value.int k x)) = some (AV.val (Value.int k y)) := by rw [h]
theorem ivI {x y : Int} (h : x = y) : iv x = iv y := by rw [h]
theorem bvI {x y : Bool} (h : x = y) : bv x = bv y := by rw [h]
theorem rowN {α β : Type} (f : α → List β) (zs : List α) (k : Nat) (h : k < zs.length) : (zs.map f).getD k [] = f zs[k] := by
  simp [List.getD_eq_getElem?_getD, h]
theorem rowK {α β : Type} (f : α → List β) (zs : List α) (k : Nat) (h : k < zs.length) : (zs.map f).getD (Int.toNat (k : Int)) [] = f zs[k] := rowN f zs k h
theorem takeS {α : Type} (zs : List α) (k : Nat) (h : k < zs.length) : zs.take (k + 1) = zs.take k ++ [zs[k]] := List.take_succ_eq_append_getElem h

/-- The sum of bytes. -/
def sumF (zs : List Int) : Int := zs.foldl (fun s b => (s * 33 + b + 1) % 2147483647) 5381
theorem sumF_snoc (zs : List Int) (b : Int) : sumF (zs ++ [b]) = (sumF zs * 33 + b + 1) % 2147483647 := by simp [sumF]
theorem sumF_bd (zs : List Int) : 0 ≤ sumF zs ∧ sumF zs ≤ 2147483646 := by
  rcases List.eq_nil_or_concat zs with rfl | ⟨l, b, rfl⟩
  · simp [sumF]
  · rw [List.concat_eq_append, sumF_snoc]; omega
theorem sumF_take (zs : List Int) (k : Nat) (h : k < zs.length) : sumF (zs.take (k + 1)) = (sumF (zs.take k) * 33 + zs[k] + 1) % 2147483647 := by
  rw [takeS zs k h, sumF_snoc]
/-- A number's four bytes. -/
def four (n : Int) : List Int := [n.fdiv (2 ^ 24) % 256, n.fdiv (2 ^ 16) % 256, n.fdiv (2 ^ 8) % 256, n % 256]
theorem four_len (n : Int) : (four n).length = 4 := rfl
theorem four_u8 (n : Int) : ∀ z ∈ four n, isU8 z := by
  intro z hz
  simp only [four, List.mem_cons, List.not_mem_nil, or_false] at hz
  unfold isU8
  rcases hz with rfl | rfl | rfl | rfl <;> omega
def fours (l : List Int) : List Int := (l.map four).flatten
theorem fours_len (l : List Int) : (fours l).length = 4 * l.length := by
  induction l with
  | nil => rfl
  | cons a r ih => simp only [fours, List.map_cons, List.flatten_cons, List.length_append, four_len] at *; simp only [List.length_cons]; omega
theorem fours_snoc (l : List Int) (z : Int) : fours (l ++ [z]) = fours l ++ four z := by simp [fours]
theorem fours_u8 (l : List Int) : ∀ z ∈ fours l, isU8 z := by
  intro z hz
  simp only [fours, List.mem_flatten, List.mem_map] at hz
  obtain ⟨_, ⟨n, _, rfl⟩, h⟩ := hz
  exact four_u8 n z h
def sumI (l : List Int) : Int := sumF (fours l)
theorem sumI_bd (l : List Int) : 0 ≤ sumI l ∧ sumI l ≤ 2147483646 := sumF_bd _

/-- All within. -/
def allB (lo hi : Int) (l : List Int) : Bool := l.all fun z => decide (lo ≤ z) && decide (z ≤ hi)
theorem allB_take {lo hi : Int} {l : List Int} {k : Nat} (h : k < l.length) : allB lo hi (l.take (k + 1)) = (allB lo hi (l.take k) && (decide (lo ≤ l[k]) && decide (l[k] ≤ hi))) := by
  rw [takeS l k h]; unfold allB; rw [List.all_append]; simp
theorem allB_at {lo hi : Int} {l : List Int} (h : allB lo hi l = true) {k : Nat} (hk : k < l.length) : lo ≤ l[k] ∧ l[k] ≤ hi := by
  have := List.all_eq_true.1 h l[k] (List.getElem_mem hk)
  simpa using this
theorem allB_no {lo hi : Int} {l : List Int} {k : Nat} (hk : k < l.length) (h : ¬ (lo ≤ l[k] ∧ l[k] ≤ hi)) : allB lo hi l = false := by
  cases hb : allB lo hi l with
  | false => rfl
  | true => exact absurd (allB_at hb hk) h

theorem leafO {e s : Nat} {x y : List (List AV)} (h : x = y) : some (AObj.list e s x) = some (AObj.list e s y) := by rw [h]
theorem leafW {i x y : Nat} (h : x = y) : some (AV.own i x) = some (AV.own i y) := by rw [h]
theorem row1 {α : Type} {g : α → AV} {zs : List α} {r : List AV} (h : r ∈ zs.map fun z => [g z]) : r.length = 1 := by
  obtain ⟨_, _, rfl⟩ := List.mem_map.1 h; rfl
theorem takeM {α β : Type} (f : α → β) {l : List α} {n : Nat} (h : l.length = n) : (l.map f).take n = l.map f := List.take_of_length_le (by simp [h])

theorem ownI {i x y : Nat} (h : x = y) : AV.own i x = AV.own i y := by rw [h]
theorem objI {i e s : Nat} {x y : List (List AV)} (h : x = y) : [(i, AObj.list e s x)] = [(i, AObj.list e s y)] := by rw [h]

/-- What has been copied so far, zeros behind. -/
def fillZ (zs : List Int) (k : Nat) : List Int := zs.take k ++ List.replicate (zs.length - k) 0
theorem fillZ_len (zs : List Int) (k : Nat) (h : k ≤ zs.length) : (fillZ zs k).length = zs.length := by simp only [fillZ, List.length_append, List.length_take, List.length_replicate]; omega
theorem fillZ_set (zs : List Int) (k : Nat) (h : k < zs.length) : (fillZ zs k).set k zs[k] = fillZ zs (k + 1) := by
  unfold fillZ
  rw [takeS zs k h, show zs.length - k = (zs.length - (k + 1)) + 1 by omega, List.replicate_succ, List.set_append_right _ _ (by rw [List.length_take]; omega), List.length_take]
  have : k - min k zs.length = 0 := by omega
  rw [this, List.set_cons_zero, List.append_assoc]; rfl
theorem fillZ_all (zs : List Int) : fillZ zs zs.length = zs := by unfold fillZ; rw [Nat.sub_self, List.take_length, List.replicate_zero, List.append_nil]
theorem fillZ_zero (zs : List Int) : fillZ zs 0 = List.replicate zs.length 0 := by unfold fillZ; rw [Nat.sub_zero, List.take_zero, List.nil_append]
theorem setM {α β : Type} (f : α → β) (l : List α) (k : Nat) (x : α) : (l.map f).set k (f x) = (l.set k x).map f := by rw [List.map_set]
theorem replM {α β : Type} (f : α → β) (n : Nat) (x : α) : List.replicate n (f x) = (List.replicate n x).map f := by simp
def rowsB (s : Nat) (l : List (List AV)) : Bool := l.all fun r => Nat.beq r.length s
theorem rowsB_ok {s : Nat} {l : List (List AV)} (h : rowsB s l = true) : ∀ r ∈ l, r.length = s := fun r hr => Nat.eq_of_beq_eq_true (List.all_eq_true.1 h r hr)
abbrev iv1 (z : Int) : List AV := [iv z]

theorem setRow (l : List Int) (k : Nat) (x : Int) (h : k < l.length) (s : Nat) (hs : s = 1) :
    (ivs l).set (Int.toNat (k : Int)) (((ivs l).getD (Int.toNat (k : Int)) []).take 0 ++ (iv x).cells ++ ((ivs l).getD (Int.toNat (k : Int)) []).drop (0 + s)) = ivs (l.set k x) := by
  subst hs
  rw [rowK iv1 l k h]
  show (l.map iv1).set k (iv1 x) = _
  rw [setM]
/-- The marks that a law lays. -/
def marks (k0 m : Nat) : List Int := (List.range m).map fun j : Nat => ((k0 + j : Nat) : Int)
theorem marks_len (k0 m : Nat) : (marks k0 m).length = m := by simp [marks]
theorem marks_snoc (k0 m : Nat) : marks k0 (m + 1) = marks k0 m ++ [((k0 + m : Nat) : Int)] := by simp [marks, List.range_succ]
theorem marks_at (k0 m j : Nat) (h : j < (marks k0 m).length) : (marks k0 m)[j] = ((k0 + j : Nat) : Int) := by simp [marks]
def markP (k0 : Nat) (zs : List Int) (k : Nat) : List Int := marks k0 k ++ zs.drop k
theorem markP_len (k0 : Nat) (zs : List Int) (k : Nat) (h : k ≤ zs.length) : (markP k0 zs k).length = zs.length := by
  simp only [markP, List.length_append, marks_len, List.length_drop]; omega
theorem markP_set (k0 : Nat) (zs : List Int) (k : Nat) (h : k < zs.length) : (markP k0 zs k).set k ((k0 + k : Nat) : Int) = markP k0 zs (k + 1) := by
  unfold markP
  rw [marks_snoc, List.set_append_right _ _ (by rw [marks_len]; omega), marks_len, Nat.sub_self, List.drop_eq_getElem_cons h, List.set_cons_zero, List.append_assoc]; rfl
theorem markP_all (k0 : Nat) (zs : List Int) : markP k0 zs zs.length = marks k0 zs.length := by unfold markP; rw [List.drop_length, List.append_nil]

/-- What a source of choices answers. -/
def nextF (c : List Int) (a k : Int) : Int :=
  if k < 1 then 0 else if c.length = 0 then (a * 7) % k else
  if 200 < k then ((c.getD (a % c.length).toNat 0 + a / c.length * 37) * 251 + c.getD ((a + 1) % c.length).toNat 0 * 13 + a) % k
  else (c.getD (a % c.length).toNat 0 + a / c.length * 37) % k
theorem nextF_bd (c : List Int) (a k : Int) (hk : 1 ≤ k) : 0 ≤ nextF c a k ∧ nextF c a k < k := by
  unfold nextF
  rw [if_neg (by omega)]
  split
  · exact ⟨Int.emod_nonneg _ (by omega), Int.emod_lt_of_pos _ (by omega)⟩
  · split
    · exact ⟨Int.emod_nonneg _ (by omega), Int.emod_lt_of_pos _ (by omega)⟩
    · exact ⟨Int.emod_nonneg _ (by omega), Int.emod_lt_of_pos _ (by omega)⟩
theorem nextF_lo (c : List Int) (a k : Int) (hk : k < 1) : nextF c a k = 0 := by unfold nextF; rw [if_pos hk]
theorem modN {a : Int} {m : Nat} (ha : 0 ≤ a) (hm : 0 < m) : a.tmod (m : Int) = (((a % (m : Int)).toNat : Nat) : Int) ∧ (a % (m : Int)).toNat < m := by
  have h1 := Int.emod_nonneg a (show (m : Int) ≠ 0 by omega)
  have h2 := Int.emod_lt_of_pos a (show (0 : Int) < m by omega)
  rw [Int.tmod_eq_emod_of_nonneg ha]
  omega
theorem getU8 {c : List Int} (hc : ∀ z ∈ c, isU8 z) {j : Nat} (hj : j < c.length) : c.getD j 0 = c[j] ∧ 0 ≤ c[j] ∧ c[j] ≤ 255 := by
  have := hc c[j] (List.getElem_mem hj)
  exact ⟨by simp [List.getD_eq_getElem?_getD, hj], this.1, this.2⟩
end Go.Am
