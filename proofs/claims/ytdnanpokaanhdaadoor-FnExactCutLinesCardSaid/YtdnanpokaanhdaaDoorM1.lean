/-
  PLAIN FACTS for chapter 1, and words for what is read.
-/
import Derived.Test.YtdnanpokaanhdaaDoorAmC
import Derived.IntWalk
namespace Go.Am
open Go.RowKit
set_option linter.unusedVariables false

abbrev uv (n : Int) : AV := .val (.int .u8 n)
/-- A list of numbers, as it is read. -/
abbrev ivs (zs : List Int) : List (List AV) := zs.map fun z => [iv z]
abbrev uvs (zs : List Int) : List (List AV) := zs.map fun z => [uv z]
abbrev il (zs : List Int) : AV := .lst (ivs zs)
abbrev ul (zs : List Int) : AV := .lst (uvs zs)
abbrev uv1 (z : Int) : List AV := [uv z]
def isU8 (z : Int) : Prop := 0 ≤ z ∧ z ≤ 255
def isI64 (z : Int) : Prop := -9223372036854775808 ≤ z ∧ z ≤ 9223372036854775807
def inR (lo hi z : Int) : Prop := lo ≤ z ∧ z ≤ hi
instance (lo hi z : Int) : Decidable (inR lo hi z) := inferInstanceAs (Decidable (_ ∧ _))

theorem leafI {k : IntKind} {x y : Int} (h : x = y) : some (AV.val (Value.int k x)) = some (AV.val (Value.int k y)) := by rw [h]
theorem ivI {x y : Int} (h : x = y) : iv x = iv y := by rw [h]
theorem bvI {x y : Bool} (h : x = y) : bv x = bv y := by rw [h]
theorem rowN {α β : Type} (f : α → List β) (zs : List α) (k : Nat) (h : k < zs.length) : (zs.map f).getD k [] = f zs[k] := by
  simp [List.getD_eq_getElem?_getD, h]
theorem rowK {α β : Type} (f : α → List β) (zs : List α) (k : Nat) (h : k < zs.length) : (zs.map f).getD (Int.toNat (k : Int)) [] = f zs[k] := rowN f zs k h
theorem takeS {α : Type} (zs : List α) (k : Nat) (h : k < zs.length) : zs.take (k + 1) = zs.take k ++ [zs[k]] := List.take_succ_eq_append_getElem h

/-- The sum of bytes. -/
def sumF (zs : List Int) : Int := zs.foldl (fun s b => (s * 33 + b + 1) % 2147483647) 5381
theorem sumF_snoc (zs : List Int) (b : Int) : sumF (zs ++ [b]) = (sumF zs * 33 + b + 1) % 2147483647 := by simp [sumF]
theorem sumF_bd (zs : List Int) : 0 ≤ sumF zs ∧ sumF zs ≤ 2147483646 := by
  rcases List.eq_nil_or_concat zs with rfl | ⟨l, b, rfl⟩
  · simp [sumF]
  · rw [List.concat_eq_append, sumF_snoc]; omega
theorem sumF_take (zs : List Int) (k : Nat) (h : k < zs.length) : sumF (zs.take (k + 1)) = (sumF (zs.take k) * 33 + zs[k] + 1) % 2147483647 := by
  rw [takeS zs k h, sumF_snoc]
/-- A number's four bytes. -/
def four (n : Int) : List Int := [n.fdiv (2 ^ 24) % 256, n.fdiv (2 ^ 16) % 256, n.fdiv (2 ^ 8) % 256, n % 256]
theorem four_len (n : Int) : (four n).length = 4 := rfl
theorem four_u8 (n : Int) : ∀ z ∈ four n, isU8 z := by
  intro z hz
  simp only [four, List.mem_cons, List.not_mem_nil, or_false] at hz
  unfold isU8
  rcases hz with rfl | rfl | rfl | rfl <;> omega
def fours (l : List Int) : List Int := (l.map four).flatten
theorem fours_len (l : List Int) : (fours l).length = 4 * l.length := by
  induction l with
  | nil => rfl
  | cons a r ih => simp only [fours, List.map_cons, List.flatten_cons, List.length_append, four_len] at *; simp only [List.length_cons]; omega
theorem fours_snoc (l : List Int) (z : Int) : fours (l ++ [z]) = fours l ++ four z := by simp [fours]
theorem fours_u8 (l : List Int) : ∀ z ∈ fours l, isU8 z := by
  intro z hz
  simp only [fours, List.mem_flatten, List.mem_map] at hz
  obtain ⟨_, ⟨n, _, rfl⟩, h⟩ := hz
  exact four_u8 n z h
def sumI (l : List Int) : Int := sumF (fours l)
theorem sumI_bd (l : List Int) : 0 ≤ sumI l ∧ sumI l ≤ 2147483646 := sumF_bd _

/-- All within. -/
def allB (lo hi : Int) (l : List Int) : Bool := l.all fun z => decide (lo ≤ z) && decide (z ≤ hi)
theorem allB_take {lo hi : Int} {l : List Int} {k : Nat} (h : k < l.length) : allB lo hi (l.take (k + 1)) = (allB lo hi (l.take k) && (decide (lo ≤ l[k]) && decide (l[k] ≤ hi))) := by
  rw [takeS l k h]; unfold allB; rw [List.all_append]; simp
theorem allB_at {lo hi : Int} {l : List Int} (h : allB lo hi l = true) {k : Nat} (hk : k < l.length) : lo ≤ l[k] ∧ l[k] ≤ hi := by
  have := List.all_eq_true.1 h l[k] (List.getElem_mem hk)
  simpa using this
theorem allB_no {lo hi : Int} {l : List Int} {k : Nat} (hk : k < l.length) (h : ¬ (lo ≤ l[k] ∧ l[k] ≤ hi)) : allB lo hi l = false := by
  cases hb : allB lo hi l with
  | false => rfl
  | true => exact absurd (allB_at hb hk) h

theorem leafO {e s : Nat} {x y : List (List AV)} (h : x = y) : some (AObj.list e s x) = some (AObj.list e s y) := by rw [h]
theorem leafW {i x y : Nat} (h : x = y) : some (AV.own i x) = some (AV.own i y) := by rw [h]
theorem row1 {α : Type} {g : α → AV} {zs : List α} {r : List AV} (h : r ∈ zs.map fun z => [g z]) : r.length = 1 := by
  obtain ⟨_, _, rfl⟩ := List.mem_map.1 h; rfl
theorem takeM {α β : Type} (f : α → β) {l : List α} {n : Nat} (h : l.length = n) : (l.map f).take n = l.map f := List.take_of_length_le (by simp [h])

theorem ownI {i x y : Nat} (h : x = y) : AV.own i x = AV.own i y := by rw [h]
theorem objI {i e s : Nat} {x y : List (List AV)} (h : x = y) : [(i, AObj.list e s x)] = [(i, AObj.list e s y)] := by rw [h]

/-- What has been copied so far, zeros behind. -/
def fillZ (zs : List Int) (k : Nat) : List Int := zs.take k ++ List.replicate (zs.length - k) 0
theorem fillZ_len (zs : List Int) (k : Nat) (h : k ≤ zs.length) : (fillZ zs k).length = zs.length := by simp only [fillZ, List.length_append, List.length_take, List.length_replicate]; omega
theorem fillZ_set (zs : List Int) (k : Nat) (h : k < zs.length) : (fillZ zs k).set k zs[k] = fillZ zs (k + 1) := by
  unfold fillZ
  rw [takeS zs k h, show zs.length - k = (zs.length - (k + 1)) + 1 by omega, List.replicate_succ, List.set_append_right _ _ (by rw [List.length_take]; omega), List.length_take]
  have : k - min k zs.length = 0 := by omega
  rw [this, List.set_cons_zero, List.append_assoc]; rfl
theorem fillZ_all (zs : List Int) : fillZ zs zs.length = zs := by unfold fillZ; rw [Nat.sub_self, List.take_length, List.replicate_zero, List.append_nil]
theorem fillZ_zero (zs : List Int) : fillZ zs 0 = List.replicate zs.length 0 := by unfold fillZ; rw [Nat.sub_zero, List.take_zero, List.nil_append]
theorem setM {α β : Type} (f : α → β) (l : List α) (k : Nat) (x : α) : (l.map f).set k (f x) = (l.set k x).map f := by rw [List.map_set]
theorem replM {α β : Type} (f : α → β) (n : Nat) (x : α) : List.replicate n (f x) = (List.replicate n x).map f := by simp
def rowsB (s : Nat) (l : List (List AV)) : Bool := l.all fun r => Nat.beq r.length s
theorem rowsB_ok {s : Nat} {l : List (List AV)} (h : rowsB s l = true) : ∀ r ∈ l, r.length = s := fun r hr => Nat.eq_of_beq_eq_true (List.all_eq_true.1 h r hr)
abbrev iv1 (z : Int) : List AV := [iv z]

theorem setRow (l : List Int) (k : Nat) (x : Int) (h : k < l.length) (s : Nat) (hs : s = 1) :
    (ivs l).set (Int.toNat (k : Int)) (((ivs l).getD (Int.toNat (k : Int)) []).take 0 ++ (iv x).cells ++ ((ivs l).getD (Int.toNat (k : Int)) []).drop (0 + s)) = ivs (l.set k x) := by
  subst hs
  rw [rowK iv1 l k h]
  show (l.map iv1).set k (iv1 x) = _
  rw [setM]
/-- The marks that a law lays. -/
def marks (k0 m : Nat) : List Int := (List.range m).map fun j : Nat => ((k0 + j : Nat) : Int)
theorem marks_len (k0 m : Nat) : (marks k0 m).length = m := by simp [marks]
theorem marks_snoc (k0 m : Nat) : marks k0 (m + 1) = marks k0 m ++ [((k0 + m : Nat) : Int)] := by simp [marks, List.range_succ]
theorem marks_at (k0 m j : Nat) (h : j < (marks k0 m).length) : (marks k0 m)[j] = ((k0 + j : Nat) : Int) := by simp [marks]
def markP (k0 : Nat) (zs : List Int) (k : Nat) : List Int := marks k0 k ++ zs.drop k
theorem markP_len (k0 : Nat) (zs : List Int) (k : Nat) (h : k ≤ zs.length) : (markP k0 zs k).length = zs.length := by
  simp only [markP, List.length_append, marks_len, List.length_drop]; omega
theorem markP_set (k0 : Nat) (zs : List Int) (k : Nat) (h : k < zs.length) : (markP k0 zs k).set k ((k0 + k : Nat) : Int) = markP k0 zs (k + 1) := by
  unfold markP
  rw [marks_snoc, List.set_append_right _ _ (by rw [marks_len]; omega), marks_len, Nat.sub_self, List.drop_eq_getElem_cons h, List.set_cons_zero, List.append_assoc]; rfl
theorem markP_all (k0 : Nat) (zs : List Int) : markP k0 zs zs.length = marks k0 zs.length := by unfold markP; rw [List.drop_length, List.append_nil]

/-- What a source of choices answers. -/
def nextF (c : List Int) (a k : Int) : Int :=
  if k < 1 then 0 else if c.length = 0 then (a * 7) % k else
  if 200 < k then ((c.getD (a % c.length).toNat 0 + a / c.length * 37) * 251 + c.getD ((a + 1) % c.length).toNat 0 * 13 + a) % k
  else (c.getD (a % c.length).toNat 0 + a / c.length * 37) % k
theorem nextF_bd (c : List Int) (a k : Int) (hk : 1 ≤ k) : 0 ≤ nextF c a k ∧ nextF c a k < k := by
  unfold nextF
  rw [if_neg (by omega)]
  split
  · exact ⟨Int.emod_nonneg _ (by omega), Int.emod_lt_of_pos _ (by omega)⟩
  · split
    · exact ⟨Int.emod_nonneg _ (by omega), Int.emod_lt_of_pos _ (by omega)⟩
    · exact ⟨Int.emod_nonneg _ (by omega), Int.emod_lt_of_pos _ (by omega)⟩
theorem nextF_lo (c : List Int) (a k : Int) (hk : k < 1) : nextF c a k = 0 := by unfold nextF; rw [if_pos hk]
theorem modN {a : Int} {m : Nat} (ha : 0 ≤ a) (hm : 0 < m) : a.tmod (m : Int) = (((a % (m : Int)).toNat : Nat) : Int) ∧ (a % (m : Int)).toNat < m := by
  have h1 := Int.emod_nonneg a (show (m : Int) ≠ 0 by omega)
  have h2 := Int.emod_lt_of_pos a (show (0 : Int) < m by omega)
  rw [Int.tmod_eq_emod_of_nonneg ha]
  omega
theorem getU8 {c : List Int} (hc : ∀ z ∈ c, isU8 z) {j : Nat} (hj : j < c.length) : c.getD j 0 = c[j] ∧ 0 ≤ c[j] ∧ c[j] ≤ 255 := by
  have := hc c[j] (List.getElem_mem hj)
  exact ⟨by simp [List.getD_eq_getElem?_getD, hj], this.1, this.2⟩
/-- Numbers that are equal. -/
theorem numA {p : Prop} (h : p := by first | rfl | omega | (simp (disch := omega) only [Int.reduceToNat, IntKind.bits, Nat.min_eq_left, Int.reducePow, IntWalk.i64_in, IntWalk.rem_in, IntWalk.i64_quo, IntWalk.u8_in, IntWalk.u32_in, IntWalk.u64_in]; done) | (simp (disch := omega) only [Int.reduceToNat, IntKind.bits, Nat.min_eq_left, Int.reducePow, IntWalk.i64_in, IntWalk.rem_in, IntWalk.i64_quo, IntWalk.u8_in, IntWalk.u32_in, IntWalk.u64_in]; omega)) : p := h
/-- Cells that are the same, numbers by reckoning. -/
theorem ktA {p : Prop} (h : p := by repeat' first | exact trivial | rfl | exact leafI numA | refine And.intro ?_ ?_ | fail) : p := h
theorem lenA {p : Prop} (h : p := by (first | exact True.intro | omega | (simp only [List.length_map, List.length_take, List.length_drop, List.length_append, List.length_set, List.length_replicate, List.length_cons, List.length_nil, four_len, fours_len, maxLen] at *; omega))) : p := h
theorem rwsA {p : Prop} (h : p := by (first | (intro r hr; first | exact row1 hr | exact row1 (List.mem_of_mem_take hr)) | (refine rowsB_ok ?_; rfl))) : p := h
end Go.Am
/-
  PLAIN FACTS for chapter 2: operations, programs, stacks.
-/
namespace Go.Am
set_option linter.unusedVariables false

def opB (op : Int) : Bool := (decide (1 ≤ op) && decide (op ≤ 9)) || (decide (100 ≤ op) && decide (op ≤ 1099))
theorem opB_eq (op : Int) : opB op = (decide (inR 1 9 op) || decide (inR 100 1099 op)) := by
  rw [Bool.eq_iff_iff]
  simp only [opB, Bool.or_eq_true, Bool.and_eq_true, decide_eq_true_eq]
  exact Iff.rfl
def opsB (p : List Int) : Bool := p.all opB
theorem opsB_take {p : List Int} {k : Nat} (h : k < p.length) : opsB (p.take (k + 1)) = (opsB (p.take k) && opB p[k]) := by
  rw [takeS p k h]; unfold opsB; rw [List.all_append]; simp
theorem opsB_at {p : List Int} (h : opsB p = true) {k : Nat} (hk : k < p.length) : opB p[k] = true := List.all_eq_true.1 h p[k] (List.getElem_mem hk)
theorem opsB_no {p : List Int} {k : Nat} (hk : k < p.length) (h : opB p[k] = false) : opsB p = false := by
  cases hb : opsB p with
  | false => rfl
  | true => rw [opsB_at hb hk] at h; cases h
def progC (p : List Int) : Int := if 12 < p.length then 2 else if opsB p then 0 else 1
def keyB (k : Int) : Bool := decide (inR 0 899 k)
def signF (k t : Int) : Int := sumI [k, t, 7] % 1000
theorem signF_bd (k t : Int) : 0 ≤ signF k t ∧ signF k t ≤ 999 := by unfold signF; omega
def signR (k t : Int) : List AV := if inR 0 899 k ∧ inR 0 2147483646 t then [iv 0, iv (signF k t)] else [iv 3, iv 0]
def needs (op : Int) : Nat := if op = 1 ∨ op = 2 ∨ op = 6 ∨ op = 7 ∨ op = 9 then 1 else if op = 3 ∨ op = 4 ∨ op = 5 ∨ op = 8 then 2 else 0
def flagI (b : Bool) : Int := if b then 1 else 0
/-- An operation of one number. -/
def one2 (op : Int) (rest : List Int) (top height : Int) : Int × List Int :=
  if op = 1 then (0, rest ++ [top, top]) else if op = 7 then (0, rest ++ [sumI [top] % 1000]) else if op = 6 ∧ top = 0 then (8, []) else if op = 9 ∧ height < top then (8, []) else (0, rest)
/-- An operation of two numbers, b the upper one. -/
def two2 (op : Int) (rest : List Int) (a b text : Int) : Int × List Int :=
  if op = 3 then (0, rest ++ [b, a]) else if op = 4 then (if 9999 < a + b then (3, []) else (0, rest ++ [a + b])) else if op = 5 then (0, rest ++ [flagI (decide (a = b))]) else (0, rest ++ [flagI (decide (inR 0 899 b) && decide (signF b text = a))])
def out2 (op : Int) (s : List Int) (text height : Int) : Int × List Int :=
  if needs op = 0 then (0, s ++ [op - 100]) else if needs op = 1 then one2 op (s.take (s.length - 1)) (s.getD (s.length - 1) 0) height
  else two2 op (s.take (s.length - 2)) (s.getD (s.length - 2) 0) (s.getD (s.length - 1) 0) text
/-- A step: a code, and the stack behind it. -/
def step2 (op : Int) (s : List Int) (text height : Int) : Int × List Int :=
  if s.length < needs op then (4, []) else
  if (out2 op s text height).1 = 0 ∧ 8 < (out2 op s text height).2.length then (10, []) else out2 op s text height
def run2 (text height : Int) : List Int → List Int → Int × List Int
  | [], s => (0, s)
  | op :: p, s => if (step2 op s text height).1 = 0 then run2 text height p (step2 op s text height).2 else ((step2 op s text height).1, [])
def stackC (s : List Int) : Int := if 8 < s.length then 2 else if allB 0 9999 s then 0 else 3
def runC (p s : List Int) (text height : Int) : Int :=
  if progC p = 0 then if stackC s = 0 then if inR 0 2147483646 text ∧ inR 0 9999 height then 0 else 3 else stackC s else progC p
end Go.Am
/-
  PLAIN FACTS for chapter 3: encodings, transactions.
-/
namespace Go.Am
open Go.RowKit
set_option linter.unusedVariables false
abbrev InD := Int × Int × List Int
abbrev OutD := Int × List Int
abbrev TxD := Int × List InD × List OutD
abbrev inRow (x : InD) : List AV := [iv x.1, iv x.2.1, il x.2.2]
abbrev outRow (y : OutD) : List AV := [iv y.1, il y.2]
abbrev insV (xs : List InD) : AV := .lst (xs.map inRow)
abbrev outsV (ys : List OutD) : AV := .lst (ys.map outRow)
abbrev txC (t : TxD) : List AV := [iv t.1, insV t.2.1, outsV t.2.2]
abbrev txV (t : TxD) : AV := .agg (txC t)
/-- A number, encoded. -/
def putN (n : Int) : List Int := if n < 253 then [n] else [253, n % 256, n / 256]
theorem putN_u8 {n : Int} (h : inR 0 65535 n) : ∀ z ∈ putN n, isU8 z := by
  intro z hz
  unfold putN at hz
  unfold inR at h
  unfold isU8
  split at hz <;> simp only [List.mem_cons, List.not_mem_nil, or_false] at hz
  · omega
  · rcases hz with rfl | rfl | rfl <;> omega
theorem putN_len (n : Int) : 1 ≤ (putN n).length ∧ (putN n).length ≤ 3 := by unfold putN; split <;> simp
/-- A sum or an amount, in its two halves. -/
def bigN (v : Int) : List Int := putN (v % 65536) ++ putN (v / 65536)
def numsN (zs : List Int) : List Int := (zs.map putN).flatten
def listN (zs : List Int) : List Int := putN zs.length ++ numsN zs
def packI (x : InD) : List Int := bigN x.1 ++ putN x.2.1 ++ listN x.2.2
def packO (y : OutD) : List Int := bigN y.1 ++ listN y.2
def insN (xs : List InD) : List Int := (xs.map packI).flatten
def outsN (ys : List OutD) : List Int := (ys.map packO).flatten
def packT (t : TxD) : List Int := putN t.1 ++ putN t.2.1.length ++ insN t.2.1 ++ putN t.2.2.length ++ outsN t.2.2
def smallL (m : Nat) (zs : List Int) : Prop := zs.length ≤ m ∧ ∀ z ∈ zs, inR 0 65535 z
def okI (x : InD) : Prop := inR 0 2147483646 x.1 ∧ inR 0 3 x.2.1 ∧ smallL 8 x.2.2
def okO (y : OutD) : Prop := inR 0 2147483646 y.1 ∧ smallL 12 y.2
def okT (t : TxD) : Prop := inR 0 65535 t.1 ∧ t.2.1.length ≤ 4 ∧ t.2.2.length ≤ 4 ∧ (∀ x ∈ t.2.1, okI x) ∧ (∀ y ∈ t.2.2, okO y)
theorem flatten_len {α : Type} (f : α → List Int) (m : Nat) : ∀ (l : List α), (∀ x ∈ l, (f x).length ≤ m) → ((l.map f).flatten).length ≤ m * l.length
  | [], _ => by simp
  | x :: r, h => by
    have h1 := h x (List.mem_cons_self ..)
    have h2 := flatten_len f m r fun y hy => h y (List.mem_cons_of_mem _ hy)
    simp only [List.map_cons, List.flatten_cons, List.length_append, List.length_cons, Nat.mul_succ]; omega
theorem numsN_len (zs : List Int) : (numsN zs).length ≤ 3 * zs.length := flatten_len putN 3 zs fun x _ => (putN_len x).2
theorem listN_len (zs : List Int) : (listN zs).length ≤ 3 + 3 * zs.length := by
  have h1 := (putN_len zs.length).2
  have h2 := numsN_len zs
  simp only [listN, List.length_append]; omega
theorem bigN_len (v : Int) : (bigN v).length ≤ 6 := by
  have h1 := (putN_len (v % 65536)).2
  have h2 := (putN_len (v / 65536)).2
  simp only [bigN, List.length_append]; omega
theorem packI_len {x : InD} (h : okI x) : (packI x).length ≤ 36 := by
  have h1 := bigN_len x.1
  have h2 := (putN_len x.2.1).2
  have h3 := listN_len x.2.2
  have h4 := h.2.2.1
  simp only [packI, List.length_append]; omega
theorem packO_len {y : OutD} (h : okO y) : (packO y).length ≤ 45 := by
  have h1 := bigN_len y.1
  have h3 := listN_len y.2
  have h4 := h.2.1
  simp only [packO, List.length_append]; omega
theorem insN_len {xs : List InD} (h : ∀ x ∈ xs, okI x) : (insN xs).length ≤ 36 * xs.length := flatten_len packI 36 xs fun x hx => packI_len (h x hx)
theorem outsN_len {ys : List OutD} (h : ∀ x ∈ ys, okO x) : (outsN ys).length ≤ 45 * ys.length := flatten_len packO 45 ys fun x hx => packO_len (h x hx)
theorem packT_len {t : TxD} (h : okT t) : (packT t).length ≤ 400 := by
  have h1 := (putN_len t.1).2
  have h2 := (putN_len t.2.1.length).2
  have h3 := (putN_len t.2.2.length).2
  have h4 := insN_len h.2.2.2.1
  have h5 := outsN_len h.2.2.2.2
  have h6 := h.2.1
  have h7 := h.2.2.1
  simp only [packT, List.length_append]; omega
theorem numsN_take {zs : List Int} {k : Nat} (h : k < zs.length) : numsN (zs.take (k + 1)) = numsN (zs.take k) ++ putN zs[k] := by unfold numsN; rw [takeS zs k h, List.map_append, List.flatten_append]; simp only [List.map_cons, List.map_nil, List.flatten_cons, List.flatten_nil, List.append_nil]
theorem insN_take {xs : List InD} {k : Nat} (h : k < xs.length) : insN (xs.take (k + 1)) = insN (xs.take k) ++ packI xs[k] := by unfold insN; rw [takeS xs k h, List.map_append, List.flatten_append]; simp only [List.map_cons, List.map_nil, List.flatten_cons, List.flatten_nil, List.append_nil]
theorem outsN_take {xs : List OutD} {k : Nat} (h : k < xs.length) : outsN (xs.take (k + 1)) = outsN (xs.take k) ++ packO xs[k] := by unfold outsN; rw [takeS xs k h, List.map_append, List.flatten_append]; simp only [List.map_cons, List.map_nil, List.flatten_cons, List.flatten_nil, List.append_nil]
theorem mem_flat {α : Type} {p : Int → Prop} {f : α → List Int} {l : List α} (h : ∀ x ∈ l, ∀ z ∈ f x, p z) : ∀ z ∈ (l.map f).flatten, p z := by
  intro z hz
  simp only [List.mem_flatten, List.mem_map] at hz
  obtain ⟨_, ⟨x, hx, rfl⟩, hz⟩ := hz
  exact h x hx z hz
theorem mem_app {p : Int → Prop} {a b : List Int} (h : ∀ z ∈ a, p z) (k : ∀ z ∈ b, p z) : ∀ z ∈ a ++ b, p z := fun z hz => (List.mem_append.1 hz).elim (h z) (k z)
theorem bigN_u8 {v : Int} (h : inR 0 2147483646 v) : ∀ z ∈ bigN v, isU8 z := by
  unfold inR at h
  exact mem_app (putN_u8 ⟨by omega, by omega⟩) (putN_u8 ⟨by omega, by omega⟩)
theorem listN_u8 {m : Nat} (hm : m ≤ 65535) {zs : List Int} (h : smallL m zs) : ∀ z ∈ listN zs, isU8 z := mem_app (putN_u8 ⟨by omega, by have := h.1; omega⟩) (mem_flat fun x hx => putN_u8 (h.2 x hx))
theorem packT_u8 {t : TxD} (h : okT t) : ∀ z ∈ packT t, isU8 z := by
  obtain ⟨h1, h2, h3, h4, h5⟩ := h
  refine mem_app (mem_app (mem_app (mem_app (putN_u8 h1) (putN_u8 ⟨by omega, by omega⟩)) (mem_flat fun x hx => ?_)) (putN_u8 ⟨by omega, by omega⟩)) (mem_flat fun y hy => ?_)
  · have := h4 x hx
    refine mem_app (mem_app (bigN_u8 this.1) (putN_u8 ?_)) (listN_u8 (by decide) this.2.2)
    have := this.2.1; unfold inR at this ⊢; omega
  · have := h5 y hy
    exact mem_app (bigN_u8 this.1) (listN_u8 (by decide) this.2)
end Go.Am
/-
  PLAIN FACTS for chapter 3: numbers and transactions that are read.
-/
namespace Go.Am
open Go.RowKit
set_option linter.unusedVariables false
/-- The number whose encoding is at the beginning, and its bytes. -/
def rdV : List Int → Option (Int × Nat)
  | [] => none
  | b :: r => if b < 253 then some (b, 1) else if b = 253 then (match r with
    | l :: h :: _ => if l + 256 * h < 253 then none else some (l + 256 * h, 3)
    | _ => none) else none
def rvC (d : List Int) : List AV := match rdV d with
  | some (v, u) => [iv 0, iv v, iv (u : Nat)]
  | none => [iv 5, iv 0, iv 0]
/-- The specification's reader: where it is, whether it is wrong. -/
abbrev RS := Nat × Bool
def byteF (d : List Int) (s : RS) : Int × RS := match d[s.1]? with
  | some b => (b, (s.1 + 1, s.2))
  | none => (0, (s.1, true))
def varF (d : List Int) (s : RS) : Int × RS :=
  let x := byteF d s
  if x.1 < 253 then x else
  let y := byteF d x.2
  let z := byteF d y.2
  (y.1 + 256 * z.1, (z.2.1, z.2.2 || decide (x.1 ≠ 253) || decide (y.1 + 256 * z.1 < 253)))
theorem byteF_bd {d : List Int} (hd : ∀ z ∈ d, isU8 z) (s : RS) (hs : s.1 ≤ d.length) : 0 ≤ (byteF d s).1 ∧ (byteF d s).1 ≤ 255 ∧ s.1 ≤ (byteF d s).2.1 ∧ (byteF d s).2.1 ≤ d.length ∧ (byteF d s).2.1 ≤ s.1 + 1 := by
  unfold byteF
  cases h : d[s.1]? with
  | none => exact ⟨Int.le_refl 0, by show (0:Int) ≤ 255; decide, by dsimp only; omega, by dsimp only; omega, by dsimp only; omega⟩
  | some b =>
    obtain ⟨hlt, e⟩ := List.getElem?_eq_some_iff.1 h
    have := hd b (List.mem_of_getElem? h)
    unfold isU8 at this
    exact ⟨by dsimp only; omega, by dsimp only; omega, by dsimp only; omega, by dsimp only; omega, by dsimp only; omega⟩
theorem byteF_wrong {d : List Int} (s : RS) (h : s.2 = true) : (byteF d s).2.2 = true := by
  unfold byteF; cases d[s.1]? <;> simp [h]
theorem varF_bd {d : List Int} (hd : ∀ z ∈ d, isU8 z) (s : RS) (hs : s.1 ≤ d.length) : 0 ≤ (varF d s).1 ∧ (varF d s).1 ≤ 65535 ∧ s.1 ≤ (varF d s).2.1 ∧ (varF d s).2.1 ≤ d.length ∧ (varF d s).2.1 ≤ s.1 + 3 := by
  have hx := byteF_bd hd s hs
  have hy := byteF_bd hd (byteF d s).2 hx.2.2.2.1
  have hz := byteF_bd hd (byteF d (byteF d s).2).2 hy.2.2.2.1
  unfold varF
  dsimp only
  split
  · omega
  · exact ⟨by dsimp only; omega, by dsimp only; omega, by dsimp only; omega, by dsimp only; omega, by dsimp only; omega⟩
theorem varF_wrong {d : List Int} (s : RS) (h : s.2 = true) : (varF d s).2.2 = true := by
  have h1 := byteF_wrong (d := d) s h
  have h2 := byteF_wrong (d := d) _ h1
  have h3 := byteF_wrong (d := d) _ h2
  unfold varF
  dsimp only
  split
  · exact h1
  · simp [h3]
theorem byteF_at {d : List Int} {a : Nat} {b : Int} {r : List Int} (w : Bool) (h : d.drop a = b :: r) : byteF d (a, w) = (b, (a + 1, w)) ∧ d.drop (a + 1) = r := by
  have h1 : d[a]? = some b := by have := congrArg (·[0]?) h; simpa using this
  have h2 : d.drop (a + 1) = r := by have := congrArg (List.drop 1) h; simpa [Nat.add_comm] using this
  unfold byteF; simp only [h1]; exact ⟨trivial, h2⟩
theorem byteF_no {d : List Int} {a : Nat} (w : Bool) (h : d.drop a = []) : byteF d (a, w) = (0, (a, true)) := by
  have h1 : d[a]? = none := by have := congrArg (·[0]?) h; simpa using this
  unfold byteF; simp only [h1]
theorem varF_some {d : List Int} {a u : Nat} {v : Int} (w : Bool) (h : rdV (d.drop a) = some (v, u)) : varF d (a, w) = (v, (a + u, w)) := by
  cases hd : d.drop a with
  | nil => rw [hd] at h; cases h
  | cons b r =>
    rw [hd] at h
    obtain ⟨e1, e2⟩ := byteF_at w hd
    unfold varF
    simp only [e1]
    simp only [rdV] at h
    split at h
    · rename_i hb
      simp only [Option.some.injEq, Prod.mk.injEq] at h
      obtain ⟨rfl, rfl⟩ := h
      rw [if_pos hb]
    · rename_i hb
      rw [if_neg hb]
      split at h
      · rename_i hb2
        cases r with
        | nil => cases h
        | cons l r =>
          cases r with
          | nil => cases h
          | cons hh r =>
            obtain ⟨f1, f2⟩ := byteF_at w e2
            obtain ⟨g1, g2⟩ := byteF_at w f2
            simp only [f1, g1]
            dsimp only at h
            split at h
            · cases h
            · rename_i h3
              simp only [Option.some.injEq, Prod.mk.injEq] at h
              obtain ⟨rfl, rfl⟩ := h
              simp [hb2, h3]
      · cases h
theorem varF_none {d : List Int} {a : Nat} (w : Bool) (h : rdV (d.drop a) = none) : (varF d (a, w)).2.2 = true := by
  cases hd : d.drop a with
  | nil =>
    have e1 := byteF_no w hd
    unfold varF
    simp only [e1]
    rw [if_pos (by decide)]
  | cons b r =>
    rw [hd] at h
    obtain ⟨e1, e2⟩ := byteF_at w hd
    unfold varF
    simp only [e1]
    simp only [rdV] at h
    split at h
    · cases h
    · rename_i hb
      rw [if_neg hb]
      split at h
      · rename_i hb2
        cases r with
        | nil =>
          have f1 := byteF_no w e2
          simp only [f1]
          rw [byteF_wrong (a + 1, true) rfl]; rfl
        | cons l r =>
          obtain ⟨f1, f2⟩ := byteF_at w e2
          simp only [f1]
          cases r with
          | nil =>
            have g1 := byteF_no w f2
            simp only [g1]; rfl
          | cons hh r =>
            obtain ⟨g1, g2⟩ := byteF_at w f2
            simp only [g1]
            dsimp only at h
            split at h
            · rename_i h3; simp [h3]
            · cases h
      · rename_i hb2
        dsimp only
        simp [hb2]
theorem rdV_len {d : List Int} {v : Int} {u : Nat} (h : rdV d = some (v, u)) : 1 ≤ u ∧ u ≤ 3 ∧ u ≤ d.length := by
  cases d with
  | nil => cases h
  | cons b r =>
    simp only [rdV] at h
    split at h
    · simp only [Option.some.injEq, Prod.mk.injEq] at h; obtain ⟨rfl, rfl⟩ := h; simp
    · split at h
      · cases r with
        | nil => cases h
        | cons l r =>
          cases r with
          | nil => cases h
          | cons hh r =>
            dsimp only at h
            split at h
            · cases h
            · simp only [Option.some.injEq, Prod.mk.injEq] at h; obtain ⟨rfl, rfl⟩ := h; simp
      · cases h
theorem rdV_bd {d : List Int} (hd : ∀ z ∈ d, isU8 z) {v : Int} {u : Nat} (h : rdV d = some (v, u)) : inR 0 65535 v := by
  have := varF_some (d := d) (a := 0) false (by simpa using h)
  have hb := varF_bd hd (0, false) (Nat.zero_le _)
  rw [this] at hb
  exact ⟨hb.1, hb.2.1⟩
/-- What is read is what the encoding says. -/
theorem rdV_put {d : List Int} (hd : ∀ z ∈ d, isU8 z) {v : Int} {u : Nat} (h : rdV d = some (v, u)) : putN v = d.take u := by
  cases d with
  | nil => cases h
  | cons b r =>
    simp only [rdV] at h
    split at h
    · rename_i hb
      simp only [Option.some.injEq, Prod.mk.injEq] at h; obtain ⟨rfl, rfl⟩ := h
      unfold putN; rw [if_pos hb]; simp
    · split at h
      · rename_i hb
        cases r with
        | nil => cases h
        | cons l r =>
          cases r with
          | nil => cases h
          | cons hh r =>
            dsimp only at h
            split at h
            · cases h
            · rename_i h3
              simp only [Option.some.injEq, Prod.mk.injEq] at h; obtain ⟨rfl, rfl⟩ := h
              have h1 := hd l (by simp)
              have h2 := hd hh (by simp)
              unfold isU8 at h1 h2
              unfold putN; rw [if_neg h3]
              simp only [List.take_succ_cons, List.take_zero]
              rw [show (l + 256 * hh) % 256 = l by omega, show (l + 256 * hh) / 256 = hh by omega, hb]
      · cases h
theorem put_rdV {v : Int} (h : inR 0 65535 v) (r : List Int) : rdV (putN v ++ r) = some (v, (putN v).length) := by
  unfold inR at h
  unfold putN
  split
  · rename_i hv; simp [rdV, hv]
  · rename_i hv
    have e : v % 256 + 256 * (v / 256) = v := by omega
    simp [rdV, e, hv]
end Go.Am
/-
  PLAIN FACTS for chapter 3: the faults of a transaction.
-/
namespace Go.Am
open Go.RowKit
set_option linter.unusedVariables false
def dupB (e : List InD) (x : InD) : Bool := e.any fun y => decide (y.1 = x.1) && decide (y.2.1 = x.2.1)
def inC (e : List InD) (x : InD) : Int :=
  if ¬ inR 0 2147483646 x.1 then 3 else if ¬ inR 0 3 x.2.1 then 3 else if stackC x.2.2 ≠ 0 then stackC x.2.2 else if dupB e x then 6 else 0
def insC : List InD → List InD → Int
  | _, [] => 0
  | e, x :: r => if inC e x ≠ 0 then inC e x else insC (e ++ [x]) r
def outsC (s : Int) : List OutD → Int
  | [] => if inR 0 1000000 s then 0 else 7
  | y :: r => if ¬ inR 0 1000000 y.1 then 3 else if progC y.2 ≠ 0 then progC y.2 else outsC (s + y.1) r
def faultC (t : TxD) : Int :=
  if ¬ inR 0 65535 t.1 then 3 else if 4 < t.2.1.length then 2 else if t.2.2.length < 1 then 2 else if 4 < t.2.2.length then 2 else
  if insC [] t.2.1 ≠ 0 then insC [] t.2.1 else outsC 0 t.2.2
theorem insC_at (xs : List InD) (k : Nat) (h : k < xs.length) : insC (xs.take k) (xs.drop k) = if inC (xs.take k) xs[k] ≠ 0 then inC (xs.take k) xs[k] else insC (xs.take (k + 1)) (xs.drop (k + 1)) := by
  rw [List.drop_eq_getElem_cons h, insC, takeS xs k h]
theorem insC_end (xs : List InD) : insC (xs.take xs.length) (xs.drop xs.length) = 0 := by rw [List.drop_length, insC]
theorem outsC_at (s : Int) (ys : List OutD) (k : Nat) (h : k < ys.length) : outsC s (ys.drop k) = if ¬ inR 0 1000000 ys[k].1 then 3 else if progC ys[k].2 ≠ 0 then progC ys[k].2 else outsC (s + ys[k].1) (ys.drop (k + 1)) := by
  rw [List.drop_eq_getElem_cons h, outsC]
theorem dupB_take (e : List InD) (x : InD) (k : Nat) (h : k < e.length) : dupB (e.take (k + 1)) x = (dupB (e.take k) x || (decide (e[k].1 = x.1) && decide (e[k].2.1 = x.2.1))) := by
  rw [takeS e k h]; unfold dupB; rw [List.any_append]; simp
theorem dupB_yes {e : List InD} {x : InD} {k : Nat} (h : k < e.length) (h' : (decide (e[k].1 = x.1) && decide (e[k].2.1 = x.2.1)) = true) : dupB e x = true := List.any_eq_true.2 ⟨_, List.getElem_mem h, h'⟩
/-- The values of outputs, and what they come to. -/
def valsL (ys : List OutD) : List Int := ys.map (·.1)
def sumV : List Int → Int := fun l => l.foldl (· + ·) 0
theorem sumV_snoc (l : List Int) (x : Int) : sumV (l ++ [x]) = sumV l + x := by simp [sumV]
theorem sumV_take (l : List Int) (k : Nat) (h : k < l.length) : sumV (l.take (k + 1)) = sumV (l.take k) + l[k] := by rw [takeS l k h, sumV_snoc]
theorem sumV_to (l : List Int) (h : ∀ z ∈ l, inR 0 1000000 z) : ∀ k, k ≤ l.length → 0 ≤ sumV (l.take k) ∧ sumV (l.take k) ≤ 1000000 * k
  | 0, _ => by simp [sumV]
  | k + 1, hk => by
    have h1 := sumV_to l h k (by omega)
    have h2 := h l[k] (List.getElem_mem (by omega))
    unfold inR at h2
    rw [sumV_take l k (by omega)]
    omega
theorem sumV_bd (l : List Int) (h : ∀ z ∈ l, inR 0 1000000 z) : 0 ≤ sumV l ∧ sumV l ≤ 1000000 * l.length := by
  have := sumV_to l h l.length (Nat.le_refl _)
  rwa [List.take_length] at this
end Go.Am
/-
  PLAIN FACTS for chapter 3: what a transaction without faults is like.
-/
namespace Go.Am
open Go.RowKit
set_option linter.unusedVariables false
theorem stackC_ok {s : List Int} (h : stackC s = 0) : s.length ≤ 8 ∧ allB 0 9999 s = true := by
  unfold stackC at h
  split at h
  · cases h
  · split at h
    · rename_i h1 h2; exact ⟨by omega, h2⟩
    · cases h
theorem progC_ok {p : List Int} (h : progC p = 0) : p.length ≤ 12 ∧ opsB p = true := by
  unfold progC at h
  split at h
  · cases h
  · split at h
    · rename_i h1 h2; exact ⟨by omega, h2⟩
    · cases h
theorem inC_ok {e : List InD} {x : InD} (h : inC e x = 0) : inR 0 2147483646 x.1 ∧ inR 0 3 x.2.1 ∧ stackC x.2.2 = 0 ∧ dupB e x = false := by
  unfold inC at h
  split at h
  · cases h
  · rename_i h1
    split at h
    · cases h
    · rename_i h2
      split at h
      · rename_i h3; exact absurd h h3
      · rename_i h3
        split at h
        · cases h
        · rename_i h4
          exact ⟨Decidable.not_not.1 h1, Decidable.not_not.1 h2, Decidable.not_not.1 h3, by simpa using h4⟩
theorem insC_ok : ∀ (xs e : List InD), insC e xs = 0 → ∀ x ∈ xs, okI x
  | [], _, _, x, hx => by cases hx
  | y :: r, e, h, x, hx => by
    rw [insC] at h
    split at h
    · rename_i h1; exact absurd h h1
    · rename_i h1
      obtain ⟨g1, g2, g3, _⟩ := inC_ok (Decidable.not_not.1 h1)
      rcases List.mem_cons.1 hx with rfl | hx
      · obtain ⟨k1, k2⟩ := stackC_ok g3
        refine ⟨g1, g2, k1, fun z hz => ?_⟩
        have := List.all_eq_true.1 k2 z hz
        simp at this
        exact ⟨this.1, by omega⟩
      · exact insC_ok r _ h x hx
theorem outsC_ok : ∀ (ys : List OutD) (s : Int), outsC s ys = 0 → ∀ y ∈ ys, okO y
  | [], _, _, y, hy => by cases hy
  | x :: r, s, h, y, hy => by
    rw [outsC] at h
    split at h
    · cases h
    · rename_i h1
      split at h
      · rename_i h2; exact absurd h h2
      · rename_i h2
        rcases List.mem_cons.1 hy with rfl | hy
        · obtain ⟨k1, k2⟩ := progC_ok (Decidable.not_not.1 h2)
          have h1' := Decidable.not_not.1 h1
          unfold inR at h1'
          refine ⟨⟨h1'.1, by omega⟩, k1, fun z hz => ?_⟩
          have := List.all_eq_true.1 k2 z hz
          unfold opB at this
          simp at this
          unfold inR; omega
        · exact outsC_ok r _ h y hy
theorem fault_parts {t : TxD} (h : faultC t = 0) : inR 0 65535 t.1 ∧ t.2.1.length ≤ 4 ∧ 1 ≤ t.2.2.length ∧ t.2.2.length ≤ 4 ∧ insC [] t.2.1 = 0 ∧ outsC 0 t.2.2 = 0 := by
  unfold faultC at h
  split at h
  · cases h
  rename_i h1
  split at h
  · cases h
  rename_i h2
  split at h
  · cases h
  rename_i h3
  split at h
  · cases h
  rename_i h4
  split at h
  · rename_i h5; exact absurd h h5
  rename_i h5
  exact ⟨Decidable.not_not.1 h1, by omega, by omega, by omega, Decidable.not_not.1 h5, h⟩
theorem fault_ok {t : TxD} (h : faultC t = 0) : okT t := by
  obtain ⟨h1, h2, h3, h4, h5, h6⟩ := fault_parts h
  exact ⟨h1, h2, h4, insC_ok _ _ h5, outsC_ok _ _ h6⟩
theorem fault_mk {t : TxD} (h1 : inR 0 65535 t.1) (h2 : t.2.1.length ≤ 4) (h3 : 1 ≤ t.2.2.length) (h4 : t.2.2.length ≤ 4) (h5 : insC [] t.2.1 = 0) (h6 : outsC 0 t.2.2 = 0) : faultC t = 0 := by
  unfold faultC
  rw [if_neg (fun h => h h1), if_neg (by omega), if_neg (by omega), if_neg (by omega), if_neg (fun h => h h5)]
  exact h6
/-- Without its proofs. -/
def bareI (x : InD) : InD := (x.1, x.2.1, [])
def bareT (t : TxD) : TxD := (t.1, t.2.1.map bareI, t.2.2)
theorem dupB_bare (e : List InD) (x : InD) : dupB (e.map bareI) (bareI x) = dupB e x := by
  unfold dupB; rw [List.any_map]; rfl
theorem insC_bare : ∀ (xs e : List InD), insC e xs = 0 → insC (e.map bareI) (xs.map bareI) = 0
  | [], e, _ => rfl
  | y :: r, e, h => by
    rw [insC] at h
    split at h
    · rename_i h1; exact absurd h h1
    · rename_i h1
      obtain ⟨g1, g2, g3, g4⟩ := inC_ok (Decidable.not_not.1 h1)
      have hz : inC (e.map bareI) (bareI y) = 0 := by
        unfold inC
        rw [if_neg (fun h => h g1), if_neg (fun h => h g2), if_neg (by show ¬ stackC [] ≠ 0; decide), dupB_bare, g4]; rfl
      rw [List.map_cons, insC, if_neg (fun h => h hz)]
      have := insC_bare r (e ++ [y]) h
      rw [List.map_append] at this
      exact this
theorem fault_bare {t : TxD} (h : faultC t = 0) : faultC (bareT t) = 0 := by
  obtain ⟨h1, h2, h3, h4, h5, h6⟩ := fault_parts h
  refine fault_mk h1 (by simpa [bareT] using h2) h3 h4 (insC_bare _ [] h5) h6
theorem packI_bare (x : InD) : packI (bareI x) = bigN x.1 ++ putN x.2.1 ++ [0] := by
  have : listN [] = [0] := by unfold listN numsN putN; rw [if_pos (by decide)]; rfl
  unfold packI bareI; rw [this]
theorem flat_ivs (zs : List Int) : ∀ r ∈ ivs zs, ∀ c ∈ r, ∃ u, c = AV.val u := by
  intro r hr c hc
  simp only [List.mem_map] at hr
  obtain ⟨z, _, rfl⟩ := hr
  simp only [List.mem_singleton] at hc
  exact ⟨_, hc⟩
end Go.Am
