/-
  A LEAN READING OF Go's MEMORY FOR PURE PROGRAMS: what is only read is a list; what a call makes has a name.
-/
import Derived.WalkKit
import Derived.ProofKit
namespace Go.Am
open Go.RowKit
set_option linter.unusedVariables false
set_option linter.unusedSimpArgs false

/-- The kinds of a struct's fields, where it can be compared. -/
inductive KK where
  | int (k : IntKind)
  | bool
  | str
inductive KV where
  | int (n : Int)
  | bool (b : Bool)
  | str (s : List UInt8)
deriving DecidableEq
/-- What a temporary or a cell holds, read. -/
inductive AV where
  | val (v : Value)
  | agg (cs : List AV)
  | tup (vs : List AV)
  | lst (rows : List (List AV))
  | own (id len : Nat)
  | pt (id row off : Nat)
  | rp (cs : List AV)
  | sb (id row off len : Nat)
  | junk
  | tree (e s : Nat) (rows : List (List AV))
  | mp (id : Nat)
  | clo (id : Nat)

/-- What the run itself made and may still write. -/
inductive AObj where
  | box (cs : List AV)
  | list (e s : Nat) (rows : List (List AV))
  | nest {c : Bool} (e s : Nat) (rows : List (List AV))
  | map (ks : List KK) (rows : List (List KV × AV))
  | ranged (ks : List KK) (cur : Option (List KV × AV)) (left : List (List KV × AV))
  | clo (f : Nat) (fs cs : List AV)

def kvOf : KK → AV → Option KV
  | .int k, .val (.int k' n) => bif k == k' then some (.int n) else none
  | .bool, .val (.bool b) => some (.bool b)
  | .str, .val (.string s) => some (.str s.toList)
  | _, _ => none
def kvsOf : List KK → List AV → Option (List KV)
  | [], [] => some []
  | k :: ks, a :: as => match kvOf k a with
    | some v => match kvsOf ks as with
      | some vs => some (v :: vs)
      | none => none
    | none => none
  | _, _ => none
structure St where
  tm : List (Nat × AV)
  hp : List (Nat × AObj)
  nx : Nat

def look {α : Type} : List (Nat × α) → Nat → Option α
  | [], _ => none
  | (k, v) :: r, t => bif Nat.beq k t then some v else look r t

theorem look_cons_eq {α : Type} (k : Nat) (v : α) (r : List (Nat × α)) : look ((k, v) :: r) k = some v := by simp [look]
theorem look_cons_ne {α : Type} {k t : Nat} (v : α) (r : List (Nat × α)) (h : k ≠ t) : look ((k, v) :: r) t = look r t := by
  have : Nat.beq k t = false := by rw [Bool.eq_false_iff]; intro e; exact h (Nat.eq_of_beq_eq_true e)
  simp [look, this]
theorem look_cons {α : Type} (k t : Nat) (v : α) (r : List (Nat × α)) : look ((k, v) :: r) t = if k = t then some v else look r t := by
  split
  · rename_i h; subst h; exact look_cons_eq _ _ _
  · rename_i h; exact look_cons_ne _ _ h

def All2 {α β : Type} (R : α → β → Prop) : List α → List β → Prop
  | [], [] => True
  | a :: as, b :: bs => R a b ∧ All2 R as bs
  | _, _ => False

theorem All2.length {α β : Type} {R : α → β → Prop} : ∀ {l : List α} {m : List β}, All2 R l m → l.length = m.length
  | [], [], _ => rfl
  | _ :: _, _ :: _, h => by simp [All2.length h.2]
  | [], _ :: _, h => h.elim
  | _ :: _, [], h => h.elim
theorem All2.mono {α β : Type} {R R' : α → β → Prop} (hr : ∀ a b, R a b → R' a b) : ∀ {l : List α} {m : List β}, All2 R l m → All2 R' l m
  | [], [], _ => trivial
  | _ :: _, _ :: _, h => ⟨hr _ _ h.1, All2.mono hr h.2⟩
  | [], _ :: _, h => h.elim
  | _ :: _, [], h => h.elim
theorem All2.at {α β : Type} {R : α → β → Prop} : ∀ {l : List α} {m : List β}, All2 R l m → ∀ {i : Nat} {a : α} {b : β}, l[i]? = some a → m[i]? = some b → R a b
  | [], [], _, i, a, b, h1, _ => by simp at h1
  | x :: l, y :: m, h, 0, a, b, h1, h2 => by simp at h1 h2; subst h1 h2; exact h.1
  | x :: l, y :: m, h, i + 1, a, b, h1, h2 => by simp at h1 h2; exact All2.at h.2 h1 h2
  | [], _ :: _, h, _, _, _, _, _ => h.elim
  | _ :: _, [], h, _, _, _, _, _ => h.elim
theorem All2.of {α β : Type} {R : α → β → Prop} : ∀ {l : List α} {m : List β}, l.length = m.length → (∀ (i : Nat) (a : α) (b : β), l[i]? = some a → m[i]? = some b → R a b) → All2 R l m
  | [], [], _, _ => trivial
  | x :: l, y :: m, hl, h => ⟨h 0 x y rfl rfl, All2.of (by simpa using hl) fun i a b h1 h2 => h (i + 1) a b h1 h2⟩
  | [], _ :: _, hl, _ => by simp at hl
  | _ :: _, [], hl, _ => by simp at hl
theorem All2.append {α β : Type} {R : α → β → Prop} : ∀ {l : List α} {m : List β} {l' : List α} {m' : List β}, All2 R l m → All2 R l' m' → All2 R (l ++ l') (m ++ m')
  | [], [], _, _, _, h => h
  | _ :: _, _ :: _, _, _, h, h' => ⟨h.1, All2.append h.2 h'⟩
  | [], _ :: _, _, _, h, _ => h.elim
  | _ :: _, [], _, _, h, _ => h.elim
theorem All2.take {α β : Type} {R : α → β → Prop} : ∀ {l : List α} {m : List β} (n : Nat), All2 R l m → All2 R (l.take n) (m.take n)
  | [], [], n, _ => by simp [All2]
  | _ :: _, _ :: _, 0, _ => by simp [All2]
  | _ :: _, _ :: _, n + 1, h => ⟨h.1, All2.take n h.2⟩
  | [], _ :: _, _, h => h.elim
  | _ :: _, [], _, h => h.elim
theorem All2.drop {α β : Type} {R : α → β → Prop} : ∀ {l : List α} {m : List β} (n : Nat), All2 R l m → All2 R (l.drop n) (m.drop n)
  | [], [], n, _ => by simp [All2]
  | _ :: _, _ :: _, 0, h => h
  | _ :: _, _ :: _, n + 1, h => by simpa using All2.drop n h.2
  | [], _ :: _, _, h => h.elim
  | _ :: _, [], _, h => h.elim
theorem All2.set {α β : Type} {R : α → β → Prop} {a : α} {b : β} (hab : R a b) : ∀ {l : List α} {m : List β} (n : Nat), All2 R l m → All2 R (l.set n a) (m.set n b)
  | [], [], n, _ => by simp [All2]
  | _ :: _, _ :: _, 0, h => ⟨hab, h.2⟩
  | _ :: _, _ :: _, n + 1, h => ⟨h.1, All2.set hab n h.2⟩
  | [], _ :: _, _, h => h.elim
  | _ :: _, [], _, h => h.elim

/-- Where the objects lie: nowhere yet (a nil list), or in a block, with a capacity. -/
inductive Pl where
  | nil
  | blk (g cap s : Nat)
  | clo (v : Value)
/-- A place: an object, and the way into it by the places of the cells that lead on. -/
structure Key where
  id : Nat
  path : List Nat
deriving DecidableEq
instance : Coe Nat Key := ⟨fun n => ⟨n, []⟩⟩
theorem Key.of {i j : Nat} (h : (⟨i, []⟩ : Key) = ⟨j, []⟩) : i = j := by cases h; rfl
abbrev Loc := Key → Option Pl
def Mut (ι : Loc) (b : Nat) : Prop := ∃ (k : Key) (c s : Nat), ι k = some (.blk b c s)
def put {α : Type} (f : Key → α) (k : Key) (v : α) : Key → α := fun i => if i = k then v else f i
theorem put_same {α : Type} (f : Key → α) (k : Key) (v : α) : put f k v k = v := by simp [put]
theorem put_ne {α : Type} (f : Key → α) {k i : Key} (v : α) (h : i ≠ k) : put f k v i = f i := by simp [put, h]
theorem put_id {α : Type} (f : Key → α) {k i : Key} (v : α) (h : i.id ≠ k.id) : put f k v i = f i := put_ne f v fun e => h (by rw [e])

/-- A value that reads as something that nobody writes any more; S: the blocks that it may read. -/
inductive Rd (w : World) (S : Nat → Prop) : Value → AV → Prop
  | val (v : Value) (h : v.oneCell' = true) : Rd w S v (.val v)
  | nil (a : Option Addr) (cap : Nat) (h : cap ≤ maxLen) : Rd w S (.slice a 0 cap) (.lst [])
  | lst (rows : List (List AV)) (b off cap s : Nat) (cells : List Value) (h0 : rows ≠ []) (h1 : rows.length ≤ cap) (h2 : cap ≤ maxLen) (h3 : S b)
      (h4 : ∀ r ∈ rows, r.length = s) (h5 : cells.length = rows.length * s) (h6 : ∀ (i : Nat) (v : Value), cells[i]? = some v → w.cell? ⟨b, off + i, none⟩ = some v)
      (h7 : ∀ (i : Nat) (v : Value) (a : AV), cells[i]? = some v → rows.flatten[i]? = some a → Rd w S v a) : Rd w S (.slice (some ⟨b, off, none⟩) rows.length cap) (.lst rows)

theorem Rd.one {w : World} {S : Nat → Prop} {v : Value} {a : AV} (h : Rd w S v a) : v.oneCell' = true := by
  cases h <;> first | assumption | rfl

theorem Rd.mono {w w' : World} {S S' : Nat → Prop} (hS : ∀ b, S b → S' b ∧ w'.heap[b]? = w.heap[b]?) {v : Value} {a : AV} (h : Rd w S v a) : Rd w' S' v a := by
  induction h with
  | val v h => exact .val v h
  | nil a cap h => exact .nil a cap h
  | lst rows b off cap s cells h0 h1 h2 h3 h4 h5 h6 h7 ih =>
    exact .lst rows b off cap s cells h0 h1 h2 (hS b h3).1 h4 h5 (fun i v hv => (World.cell?_of_block (a := ⟨b, off + i, none⟩) (hS b h3).2).trans (h6 i v hv)) (fun i v a hv ha => ih i v a hv ha)

/-- One cell. -/
inductive CRel (w : World) (S : Nat → Prop) (ι : Loc) : Value → AV → Prop
  | rd {v : Value} {a : AV} (h : Rd w S v a) : CRel w S ι v a
  | own (id len g cap s : Nat) (h : ι id = some (.blk g cap s)) (h1 : len ≤ cap) (h2 : cap ≤ maxLen) : CRel w S ι (.slice (some ⟨g, 0, none⟩) len cap) (.own id len)
  | own0 (id : Nat) (h : ι id = some .nil) : CRel w S ι (.slice none 0 0) (.own id 0)
  | pt (id row off g c s : Nat) (h : ι id = some (.blk g c s)) : CRel w S ι (.pointer (some ⟨g, row * s + off, none⟩)) (.pt id row off)
  | sb (id row off len g c s o cap : Nat) (h : ι id = some (.blk g c s)) (h1 : len ≤ cap) (h2 : cap ≤ maxLen) (ho : 0 < len → o = row * s + off) : CRel w S ι (.slice (some ⟨g, o, none⟩) len cap) (.sb id row off len)
  | sb0 (id row off : Nat) (h : ι id = some .nil) : CRel w S ι (.slice none 0 0) (.sb id row off 0)
  | junk (v : Value) (h : v.oneCell' = true) : CRel w S ι v .junk
  | mp (id g : Nat) (h : ι id = some (.blk g 0 1)) : CRel w S ι (.map (some g)) (.mp id)
  | clo (id : Nat) (v : Value) (h : ι id = some (.clo v)) (h1 : v.oneCell' = true) : CRel w S ι v (.clo id)
  | rp (cs : List AV) (b off : Nat) (h3 : S b) (vs : List Value) (h4 : vs.length = cs.length) (h6 : ∀ (i : Nat) (v : Value), vs[i]? = some v → w.cell? ⟨b, off + i, none⟩ = some v)
      (h7 : ∀ (i : Nat) (v : Value) (a : AV), vs[i]? = some v → cs[i]? = some a → Rd w S v a) : CRel w S ι (.pointer (some ⟨b, off, none⟩)) (.rp cs)

theorem CRel.one {w : World} {S : Nat → Prop} {ι : Loc} {v : Value} {a : AV} (h : CRel w S ι v a) : v.oneCell' = true := by
  cases h with
  | rd h => exact h.one
  | junk v h => exact h
  | clo _ _ _ h => exact h
  | _ => rfl

/-- The object that a cell leads to. -/
def AV.idOf : AV → Option Nat
  | .own id _ => some id
  | .pt id _ _ => some id
  | .sb id _ _ _ => some id
  | .mp id => some id
  | .clo id => some id
  | _ => none

/-- What carries a reading from a world to a later one. -/
structure Later (w w' : World) (S S' : Nat → Prop) (ι ι' : Loc) (K : Nat → Prop) : Prop where
  rd : ∀ b, S b → S' b ∧ w'.heap[b]? = w.heap[b]?
  at_ : ∀ (id : Nat) p, K id → ι ⟨id, []⟩ = some p → ι' ⟨id, []⟩ = some p

theorem CRel.mono {w w' : World} {S S' : Nat → Prop} {ι ι' : Loc} {K : Nat → Prop} (h' : Later w w' S S' ι ι' K) {v : Value} {a : AV} (hK : ∀ id, a.idOf = some id → K id)
    (h : CRel w S ι v a) : CRel w' S' ι' v a := by
  cases h with
  | rd h => exact .rd (h.mono h'.rd)
  | own id len g cap s h h1 h2 => exact .own id len g cap s (h'.at_ _ _ (hK id rfl) h) h1 h2
  | own0 id h => exact .own0 id (h'.at_ _ _ (hK id rfl) h)
  | pt id row off g c s h => exact .pt id row off g c s (h'.at_ _ _ (hK id rfl) h)
  | sb id row off len g c s o cap h h1 h2 ho => exact .sb id row off len g c s o cap (h'.at_ _ _ (hK id rfl) h) h1 h2 ho
  | sb0 id row off h => exact .sb0 id row off (h'.at_ _ _ (hK id rfl) h)
  | junk v h => exact .junk v h
  | mp id g h => exact .mp id g (h'.at_ _ _ (hK id rfl) h)
  | clo id v h h1 => exact .clo id v (h'.at_ _ _ (hK id rfl) h) h1
  | rp cs b off h3 vs h4 h6 h7 => exact .rp cs b off (h'.rd b h3).1 vs h4 (fun i v hv => (World.cell?_of_block (a := ⟨b, off + i, none⟩) (h'.rd b h3).2).trans (h6 i v hv)) (fun i v a hv ha => (h7 i v a hv ha).mono h'.rd)

/-- A cell or a row of cells by value. -/
inductive ARel (w : World) (S : Nat → Prop) (ι : Loc) : Value → AV → Prop
  | cell {v : Value} {a : AV} (h : CRel w S ι v a) : ARel w S ι v a
  | agg (vs : List Value) (cs : List AV) (h : All2 (CRel w S ι) vs cs) : ARel w S ι (.agg vs.toArray) (.agg cs)
/-- What a temporary holds. -/
inductive VRel (w : World) (S : Nat → Prop) (ι : Loc) : Value → AV → Prop
  | one {v : Value} {a : AV} (h : ARel w S ι v a) : VRel w S ι v a
  | tup (vs : List Value) (cs : List AV) (h : All2 (ARel w S ι) vs cs) : VRel w S ι (.tuple vs.toArray) (.tup cs)
  | any (v : Value) : VRel w S ι v .junk

def AV.uses (K : Nat → Prop) : AV → Prop
  | .own id _ => K id
  | .pt id _ _ => K id
  | .sb id _ _ _ => K id
  | .mp id => K id
  | .clo id => K id
  | .agg cs => ∀ c ∈ cs, ∀ id, c.idOf = some id → K id
  | .tup vs => ∀ v ∈ vs, (∀ id, v.idOf = some id → K id) ∧ ∀ cs, v = .agg cs → ∀ c ∈ cs, ∀ id, c.idOf = some id → K id
  | _ => True

theorem AV.uses_mono {K K' : Nat → Prop} (h : ∀ i, K i → K' i) {a : AV} (ha : a.uses K) : a.uses K' := by
  cases a with
  | own id len => exact h _ ha
  | pt id row off => exact h _ ha
  | sb id row off len => exact h _ ha
  | mp id => exact h _ ha
  | clo id => exact h _ ha
  | agg cs => exact fun c hc id hi => h _ (ha c hc id hi)
  | tup vs => exact fun v hv => ⟨fun id hi => h _ ((ha v hv).1 id hi), fun cs e c hc id hi => h _ ((ha v hv).2 cs e c hc id hi)⟩
  | _ => trivial

theorem ARel.mono {w w' : World} {S S' : Nat → Prop} {ι ι' : Loc} {K : Nat → Prop} (h' : Later w w' S S' ι ι' K) {v : Value} {a : AV} (hK : ∀ id, a.idOf = some id → K id) (hK' : ∀ cs, a = .agg cs → ∀ c ∈ cs, ∀ id, c.idOf = some id → K id)
    (h : ARel w S ι v a) : ARel w' S' ι' v a := by
  cases h with
  | cell h => exact .cell (h.mono h' hK)
  | agg vs cs h =>
    refine .agg vs cs (All2.of h.length fun i v a hv ha => (h.at hv ha).mono h' (hK' cs rfl a (List.mem_of_getElem? ha)))

theorem AV.uses_id {K : Nat → Prop} {a : AV} (hK : a.uses K) : ∀ id, a.idOf = some id → K id := by
  intro id h
  cases a <;> simp [AV.idOf] at h <;> simpa [AV.uses, h] using hK
theorem AV.uses_agg {K : Nat → Prop} {a : AV} (hK : a.uses K) : ∀ cs, a = .agg cs → ∀ c ∈ cs, ∀ id, c.idOf = some id → K id := by
  rintro cs rfl; exact hK

theorem VRel.mono {w w' : World} {S S' : Nat → Prop} {ι ι' : Loc} {K : Nat → Prop} (h' : Later w w' S S' ι ι' K) {v : Value} {a : AV} (hK : a.uses K)
    (h : VRel w S ι v a) : VRel w' S' ι' v a := by
  cases h with
  | one h => exact .one (h.mono h' (AV.uses_id hK) (AV.uses_agg hK))
  | tup vs cs h => exact .tup vs cs (All2.of h.length fun i v a hv ha => (h.at hv ha).mono h' (hK a (List.mem_of_getElem? ha)).1 (hK a (List.mem_of_getElem? ha)).2)
  | any v => exact .any v

/-- A cell within an own list of own lists: read only, or an own list of its own, all the way down. -/
inductive Tr (w : World) (S : Nat → Prop) (ι : Loc) : Key → Value → AV → Prop
  | rd {k : Key} {v : Value} {a : AV} (h : Rd w S v a) : Tr w S ι k v a
  | nil (k : Key) (e s : Nat) (hs : 0 < s) : Tr w S ι k (.slice none 0 0) (.tree e s [])
  | tree (k : Key) (g cap e s : Nat) (rows : List (List AV)) (vs : List Value) (h : ι k = some (.blk g cap s)) (hs : 0 < s) (hr : ∀ r ∈ rows, r.length = s) (hl : rows.length ≤ cap) (hm : cap ≤ maxLen)
      (hw : w.heap[g]? = some (.cells vs.toArray e (0, 0))) (hn : vs.length = cap * s) (hc : ∀ (i : Nat) (v : Value) (a : AV), vs[i]? = some v → rows.flatten[i]? = some a → Tr w S ι ⟨k.id, k.path ++ [i]⟩ v a) :
      Tr w S ι k (.slice (some ⟨g, 0, none⟩) rows.length cap) (.tree e s rows)
theorem Tr.one {w : World} {S : Nat → Prop} {ι : Loc} {k : Key} {v : Value} {a : AV} (h : Tr w S ι k v a) : v.oneCell' = true := by
  cases h with
  | rd h => exact h.one
  | _ => rfl
theorem Tr.mono {w w' : World} {S S' : Nat → Prop} {ι ι' : Loc} {id : Nat} (hS : ∀ b, S b → S' b ∧ w'.heap[b]? = w.heap[b]?) (hι : ∀ (k : Key) p, k.id = id → ι k = some p → ι' k = some p)
    (hw' : ∀ (k : Key) g c s, k.id = id → ι k = some (.blk g c s) → w'.heap[g]? = w.heap[g]?) {k : Key} {v : Value} {a : AV} (hk : k.id = id) (h : Tr w S ι k v a) : Tr w' S' ι' k v a := by
  induction h with
  | rd h => exact .rd (h.mono hS)
  | nil k e s hs => exact .nil k e s hs
  | tree k g cap e s rows vs h hs hr hl hm hw hn hc ih =>
    exact .tree k g cap e s rows vs (hι k _ hk h) hs hr hl hm ((hw' k g cap s hk h).trans hw) hn fun i v a hv ha => ih i v a hv ha hk
theorem Rd.noId {w : World} {S : Nat → Prop} {v : Value} {a : AV} (h : Rd w S v a) : a.idOf = none := by
  cases h <;> rfl
theorem Tr.noId {w : World} {S : Nat → Prop} {ι : Loc} {k : Key} {v : Value} {a : AV} (h : Tr w S ι k v a) : a.idOf = none := by
  cases h with
  | rd h => exact h.noId
  | _ => rfl
theorem Tr.monoC {w w' : World} {S S' : Nat → Prop} {ι ι' : Loc} (C : Key → Prop) (hC : ∀ (k : Key) x, C k → C ⟨k.id, k.path ++ [x]⟩) (hS : ∀ b, S b → S' b ∧ w'.heap[b]? = w.heap[b]?) (hι : ∀ (k : Key) p, C k → ι k = some p → ι' k = some p)
    (hw' : ∀ (k : Key) g c s, C k → ι k = some (.blk g c s) → w'.heap[g]? = w.heap[g]?) {k : Key} {v : Value} {a : AV} (hk : C k) (h : Tr w S ι k v a) : Tr w' S' ι' k v a := by
  induction h with
  | rd h => exact .rd (h.mono hS)
  | nil k e s hs => exact .nil k e s hs
  | tree k g cap e s rows vs h hs hr hl hm hw hn hc ih =>
    exact .tree k g cap e s rows vs (hι k _ hk h) hs hr hl hm ((hw' k g cap s hk h).trans hw) hn fun i v a hv ha => ih i v a hv ha (hC k i hk)
/-- A cell that is the root of no inner list. -/
def cellN : AV → Bool
  | .val _ => true
  | .lst _ => true
  | .own _ _ => true
  | _ => false
theorem CRel.ofN {w : World} {S : Nat → Prop} {ι : Loc} {k : Key} {b : Bool} {v : Value} {a : AV} (h : (b = false ∧ CRel w S ι v a) ∨ Tr w S ι k v a) (hc : cellN a = true) : CRel w S ι v a := by
  rcases h with ⟨_, h⟩ | h
  · exact h
  · cases h with
    | rd h => exact .rd h
    | _ => simp [cellN] at hc
/-- One entry of an own map. -/
structure EntOk (w : World) (S : Nat → Prop) (ks : List KK) (e : MapEntry) (r : List KV × AV) : Prop where
  key : ∃ us : List Value, e.key = .agg us.toArray ∧ kvsOf ks (us.map .val) = some r.1
  val : ARel w S (fun _ => none) e.val r.2
theorem EntOk.mono {w w' : World} {S S' : Nat → Prop} (hS : ∀ b, S b → S' b ∧ w'.heap[b]? = w.heap[b]?) {ks : List KK} {e : MapEntry} {r : List KV × AV} (h : EntOk w S ks e r) : EntOk w' S' ks e r :=
  ⟨h.key, h.val.mono (K := fun _ => True) ⟨hS, fun _ _ _ h => by cases h⟩ (fun _ _ => trivial) (fun _ _ _ _ _ _ => trivial)⟩
/-- The stamps of a map's entries. -/
def BornOk (es : List MapEntry) (clock : Nat) : Prop := (es.map (·.born)).Nodup ∧ ∀ e ∈ es, e.born < clock
/-- One of the run's own objects. -/
inductive ObjOk (w : World) (S : Nat → Prop) (ι : Loc) (id : Nat) : AObj → Prop
  | box (g c s T : Nat) (cs : List AV) (vs : List Value) (h : ι id = some (.blk g c s)) (h0 : s = 0) (hw : w.heap[g]? = some (.cells vs.toArray T (0, 0))) (hc : All2 (CRel w S ι) vs cs) : ObjOk w S ι id (.box cs)
  | nil (e s : Nat) (h : ι id = some .nil) (hs : 0 < s) : ObjOk w S ι id (.list e s [])
  | list (g cap e s : Nat) (rows : List (List AV)) (vs : List Value) (h : ι id = some (.blk g cap s)) (hs : 0 < s) (hr : ∀ r ∈ rows, r.length = s) (hl : rows.length ≤ cap) (hm : cap ≤ maxLen)
      (hw : w.heap[g]? = some (.cells vs.toArray e (0, 0))) (hn : vs.length = cap * s) (hc : ∀ (i : Nat) (v : Value) (a : AV), vs[i]? = some v → rows.flatten[i]? = some a → Rd w S v a) : ObjOk w S ι id (.list e s rows)
  | nest0 {b : Bool} (e s : Nat) (h : ι id = some .nil) (hs : 0 < s) : ObjOk w S ι id (.nest (c := b) e s [])
  | nest {b : Bool} (g cap e s : Nat) (rows : List (List AV)) (vs : List Value) (h : ι id = some (.blk g cap s)) (hs : 0 < s) (hr : ∀ r ∈ rows, r.length = s) (hl : rows.length ≤ cap) (hm : cap ≤ maxLen)
      (hw : w.heap[g]? = some (.cells vs.toArray e (0, 0))) (hn : vs.length = cap * s) (hc : ∀ (i : Nat) (v : Value) (a : AV), vs[i]? = some v → rows.flatten[i]? = some a → (b = false ∧ CRel w S ι v a) ∨ Tr w S ι ⟨id, [i]⟩ v a) : ObjOk w S ι id (.nest (c := b) e s rows)
  | map (g clock : Nat) (ks : List KK) (rows : List (List KV × AV)) (es : List MapEntry) (h : ι id = some (.blk g 0 1)) (hw : w.heap[g]? = some (.map es.toArray clock)) (hk : All2 (EntOk w S ks) es rows) (hb : BornOk es clock) : ObjOk w S ι id (.map ks rows)
  | ranged (g gm clock : Nat) (ks : List KK) (cur : Option (List KV × AV)) (left : List (List KV × AV)) (seen : Array Nat) (es : List MapEntry) (h : ι id = some (.blk g 0 2)) (h2 : ι ⟨id, [0]⟩ = some (.blk gm 0 1))
      (hw : w.heap[g]? = some (.mapIter (some gm) clock seen clock)) (hm : w.heap[gm]? = some (.map es.toArray clock)) (hb : BornOk es clock) (hl : All2 (EntOk w S ks) (es.filter fun e => !seen.contains e.born) left)
      (hc : ∀ r, cur = some r → ∃ e, e ∈ es ∧ seen.back? = some e.born ∧ EntOk w S ks e r) : ObjOk w S ι id (.ranged ks cur left)
  | clo (f : Nat) (fs cs : List AV) (us vs : List Value) (h : ι id = some (.clo (.func (.func f) us.toArray vs.toArray))) (h1 : All2 (CRel w S ι) us fs) (h2 : All2 (CRel w S ι) vs cs) : ObjOk w S ι id (.clo f fs cs)

def AObj.isNest : AObj → Bool
  | .nest _ _ _ => true
  | .ranged _ _ _ => true
  | _ => false
def AObj.uses (K : Nat → Prop) : AObj → Prop
  | .box cs => ∀ c ∈ cs, ∀ id, c.idOf = some id → K id
  | .list .. => True
  | .map .. => True
  | .ranged .. => True
  | .clo _ fs cs => (∀ c ∈ fs, ∀ id, c.idOf = some id → K id) ∧ ∀ c ∈ cs, ∀ id, c.idOf = some id → K id
  | @AObj.nest b _ _ rows => b = false → ∀ c ∈ rows.flatten, ∀ id, c.idOf = some id → K id

theorem ObjOk.mono {w w' : World} {S S' : Nat → Prop} {ι ι' : Loc} {K : Nat → Prop} (h' : Later w w' S S' ι ι' K) {id : Nat} {o : AObj} (hid : K id) (hK : o.uses K)
    (hd : o.isNest = true → ∀ (k : Key) p, k.id = id → ι k = some p → ι' k = some p) (hw' : ∀ (k : Key) g c s, k.id = id → ι k = some (.blk g c s) → w'.heap[g]? = w.heap[g]?) (h : ObjOk w S ι id o) : ObjOk w' S' ι' id o := by
  cases h with
  | box g c s T cs vs h h0 hw hc => exact .box g c s T cs vs (h'.at_ _ _ hid h) h0 ((hw' _ g c s rfl h).trans hw) (All2.of hc.length fun i v a hv ha => (hc.at hv ha).mono h' (hK a (List.mem_of_getElem? ha)))
  | nil e s h hs => exact .nil e s (h'.at_ _ _ hid h) hs
  | list g cap e s rows vs h hs hr hl hm hw hn hc => exact .list g cap e s rows vs (h'.at_ _ _ hid h) hs hr hl hm ((hw' _ g cap s rfl h).trans hw) hn (fun i v a hv ha => (hc i v a hv ha).mono h'.rd)
  | nest0 e s h hs => exact .nest0 e s (h'.at_ _ _ hid h) hs
  | nest g cap e s rows vs h hs hr hl hm hw hn hc =>
    exact .nest g cap e s rows vs (h'.at_ _ _ hid h) hs hr hl hm ((hw' _ g cap s rfl h).trans hw) hn fun i v a hv ha => (hc i v a hv ha).imp (fun hx => ⟨hx.1, hx.2.mono h' (hK hx.1 a (List.mem_of_getElem? ha))⟩)
      fun hx => hx.mono (id := id) h'.rd (hd rfl) hw' rfl
  | map g clock ks rows es h hw hk hb => exact .map g clock ks rows es (h'.at_ _ _ hid h) ((hw' _ g 0 1 rfl h).trans hw) (hk.mono fun _ _ he => he.mono h'.rd) hb
  | ranged g gm clock ks cur left seen es h h2 hw hm hb hl hc =>
    exact .ranged g gm clock ks cur left seen es (hd rfl _ _ rfl h) (hd rfl _ _ rfl h2) ((hw' _ g 0 2 rfl h).trans hw) ((hw' _ gm 0 1 rfl h2).trans hm) hb (hl.mono fun _ _ he => he.mono h'.rd) fun r hr => let ⟨e, h1, h2, h3⟩ := hc r hr; ⟨e, h1, h2, h3.mono h'.rd⟩
  | clo f fs cs us vs h h1 h2 => exact .clo f fs cs us vs (h'.at_ _ _ hid h) (All2.of h1.length fun i v a hv ha => (h1.at hv ha).mono h' (hK.1 a (List.mem_of_getElem? ha))) (All2.of h2.length fun i v a hv ha => (h2.at hv ha).mono h' (hK.2 a (List.mem_of_getElem? ha)))

/-- What stays as it was: all but the blocks of D. -/
structure Frame (w : World) (D : Nat → Prop) (w' : World) : Prop where
  os : w'.os = w.os
  tape : w'.tape = w.tape
  output : w'.output = w.output
  size : w.heap.size ≤ w'.heap.size
  block : ∀ b, b < w.heap.size → ¬ D b → w'.heap[b]? = w.heap[b]?
theorem Frame.refl (w : World) (D : Nat → Prop) : Frame w D w := ⟨rfl, rfl, rfl, Nat.le_refl _, fun _ _ _ => rfl⟩
theorem Frame.trans {a b c : World} {D D' : Nat → Prop} (h : Frame a D b) (k : Frame b D' c) (hD : ∀ g, g < a.heap.size → D' g → D g) : Frame a D c :=
  ⟨k.os.trans h.os, k.tape.trans h.tape, k.output.trans h.output, Nat.le_trans h.size k.size, fun g hg hn => (k.block g (Nat.lt_of_lt_of_le hg h.size) (fun e => hn (hD g hg e))).trans (h.block g hg hn)⟩
theorem Frame.below {w w' : World} (h : Frame w (fun _ => False) w') : Below w.heap.size w w' := ⟨h.os, h.tape, h.output, h.size, fun k hk => h.block k hk (fun e => e)⟩
theorem Frame.of_below {w w' : World} {D : Nat → Prop} (h : Below w.heap.size w w') : Frame w D w' := ⟨h.os, h.tape, h.output, h.size, fun k hk _ => h.block k hk⟩

/-- What does not change while a function runs. -/
structure Env where
  P : Program
  w0 : World
  D : Nat → Prop
  A : Nat → Prop
  nt : Nat
  fix : Loc
  fx : List Nat

def memB (i : Nat) : List Nat → Bool
  | [] => false
  | k :: r => bif Nat.beq i k then true else memB i r

structure Core (E : Env) (ι : Loc) (S : Nat → Prop) (hp : List (Nat × AObj)) (nx : Nat) (w : World) : Prop where
  frame : Frame E.w0 E.D w
  sub : ∀ b, S b → E.A b ∨ E.w0.heap.size ≤ b
  lt : ∀ b, S b → b < w.heap.size
  dis : ∀ b, S b → ¬ Mut ι b
  own : ∀ (k : Key) g c s, ι k = some (.blk g c s) → g < w.heap.size ∧ (E.w0.heap.size ≤ g ∨ E.D g)
  inj : ∀ (i j : Key) g c d s r, ι i = some (.blk g c s) → ι j = some (.blk g d r) → i = j
  new : ∀ (k : Key), nx ≤ k.id → ι k = none
  obj : ∀ id o, look hp id = some o → id < nx ∧ o.uses (· < nx) ∧ ObjOk w S ι id o
  stay : ∀ (id : Nat) p, E.fix ⟨id, []⟩ = some p → ι ⟨id, []⟩ = some p
  fxs : (∀ k : Key, memB k.id E.fx = false → E.fix k = none) ∧ (E.fx = [] → ∀ g, ¬ E.D g)

structure TmOk (ι : Loc) (S : Nat → Prop) (tm : List (Nat × AV)) (nt nx : Nat) (w : World) (tmps : Array Value) : Prop where
  tm : ∀ t v, look tm t = some v → t < nt ∧ v.uses (· < nx) ∧ VRel w S ι (tmps.getD t undef) v

/-- The abstract state tells the run's. -/
def Rel (E : Env) (s : St) (a : Act) (w : World) : Prop :=
  a.tmps.size = E.nt ∧ a.defers = [] ∧ ∃ ι S, Core E ι S s.hp s.nx w ∧ TmOk ι S s.tm E.nt s.nx w a.tmps

/-- A step's end: a new world, new objects, one more temporary. -/
theorem Core.tm {ι ι' : Loc} {S S' : Nat → Prop} {tm : List (Nat × AV)} {nt nx nx' : Nat} {w w' : World} {tmps : Array Value} (h : TmOk ι S tm nt nx w tmps) (hn : nx ≤ nx') (h' : Later w w' S S' ι ι' (· < nx)) :
    TmOk ι' S' tm nt nx' w' tmps :=
  ⟨fun t v hv => let ⟨a, b, c⟩ := h.tm t v hv; ⟨a, AV.uses_mono (fun i hi => Nat.lt_of_lt_of_le hi hn) b, c.mono h' b⟩⟩

theorem TmOk.put {ι : Loc} {S : Nat → Prop} {tm : List (Nat × AV)} {nt nx : Nat} {w : World} {tmps : Array Value} (h : TmOk ι S tm nt nx w tmps) (hs : tmps.size = nt) {d : Nat} (hd : d < nt) {v : Value} {a : AV} (hu : a.uses (· < nx)) (hv : VRel w S ι v a) :
    TmOk ι S ((d, a) :: tm) nt nx w (tmps.setIfInBounds d v) := by
  refine ⟨fun t b hb => ?_⟩
  rw [look_cons] at hb
  split at hb
  · rename_i e
    subst e
    simp only [Option.some.injEq] at hb
    subst hb
    refine ⟨hd, hu, ?_⟩
    have : (tmps.setIfInBounds d v).getD d undef = v := by simp [Array.getD, hs, hd]
    rw [this]; exact hv
  · rename_i e
    obtain ⟨h1, h2, h3⟩ := h.tm t b hb
    refine ⟨h1, h2, ?_⟩
    have : (tmps.setIfInBounds d v).getD t undef = tmps.getD t undef := by
      simp only [Array.getD_eq_getD_getElem?]
      rw [Array.getElem?_setIfInBounds_ne e]
    rw [this]; exact h3

end Go.Am
