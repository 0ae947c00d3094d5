/-
  THE READING IS TRUE: each step of it is a step of the run.
-/
import Derived.Test.YtdnanpokaanhdaaDoorAm1
namespace Go.Am
open Go.RowKit
set_option linter.unusedVariables false
set_option linter.unusedSimpArgs false

def zeroEq : Value → Value → Bool
  | .bool a, .bool b => a == b
  | .int k a, .int k' b => k == k' && decide (a = b)
  | .float k a, .float k' b => (match k, k' with | .f32, .f32 => true | .f64, .f64 => true | _, _ => false) && Nat.beq a b
  | .string a, .string b => Nat.beq a.size 0 && Nat.beq b.size 0
  | .pointer none, .pointer none => true
  | .slice none a b, .slice none c d => Nat.beq a c && Nat.beq b d
  | .map none, .map none => true
  | .chan none, .chan none => true
  | .nilFunc, .nilFunc => true
  | .nilIface, .nilIface => true
  | _, _ => false
theorem bytes_nil {a b : ByteArray} (h : a.size = 0) (h' : b.size = 0) : a = b := by
  cases a; cases b; simp [ByteArray.size] at h h'; simp [h, h']
theorem zeroEq_eq {a b : Value} (h : zeroEq a b = true) : a = b := by
  unfold zeroEq at h
  split at h <;> first
    | (simp at h; done)
    | (simp at h; simp [h]; done)
    | rfl
    | skip
  · simp at h; obtain ⟨h1, h2⟩ := h
    rw [h2]; congr 1; split at h1 <;> first | rfl | (simp at h1)
def zerosEq : List Value → List Value → Bool
  | [], [] => true
  | a :: as, b :: bs => zeroEq a b && zerosEq as bs
  | _, _ => false
theorem zerosEq_eq : ∀ {l m : List Value}, zerosEq l m = true → l = m
  | [], [], _ => rfl
  | a :: as, b :: bs, h => by simp [zerosEq] at h; rw [zeroEq_eq h.1, zerosEq_eq h.2]
  | [], _ :: _, h => by simp [zerosEq] at h
  | _ :: _, [], h => by simp [zerosEq] at h

def descAgg : TypeDesc → Bool
  | .struct _ => true
  | .array _ _ => true
  | _ => false
def fieldChk (P : Program) (f : Field) (x : Nat × Nat × Bool) : Bool :=
  Nat.beq f.offset x.1 && (match P.info? f.type with | some i => Nat.beq i.size x.2.1 | none => false) && (match P.underlying f.type with | some d => descAgg d == x.2.2 | none => false)
def fieldsChk (P : Program) : List Field → List (Nat × Nat × Bool) → Bool
  | [], [] => true
  | f :: fs, x :: xs => fieldChk P f x && fieldsChk P fs xs
  | _, _ => false
def kindChk (P : Program) (d : TypeDesc) : TK → Bool
  | .word => !descAgg d
  | .struct fs => match d with | .struct fields => fieldsChk P fields.toList fs | _ => false
  | .array n e => match d with | .array m e' => Nat.beq n m && Nat.beq e e' && (P.info? e').isSome | _ => false
  | .slice e => match d with | .slice e' => Nat.beq e e' | _ => false
  | .str => match d with | .string => true | _ => false
  | .bool => match d with | .bool => true | _ => false
  | .map k e => match d with | .map k' e' => Nat.beq k k' && Nat.beq e e' | _ => false
  | .iface => match d with | .interface _ => true | _ => false
def keyFChk (P : Program) (o : Nat) (f : Field) (k : KK) : Bool :=
  Nat.beq f.offset o && !(f.name == "_") && (match P.underlying f.type with | some d => (match d with | .int k' => (match k with | .int k => k == k' | _ => false) | .bool => (match k with | .bool => true | _ => false) | .string => (match k with | .str => true | _ => false) | _ => false) | none => false)
def keysFChk (P : Program) : Nat → List Field → List KK → Bool
  | _, [], [] => true
  | o, f :: fs, k :: ks => keyFChk P o f k && keysFChk P (o + 1) fs ks
  | _, _, _ => false
def keysChk (P : Program) (t : TypeId) (d : TypeDesc) : List KK → Bool
  | [] => true
  | ks => (match d with | .struct fields => keysFChk P 0 fields.toList ks | _ => false) && !(P.stoodInHeld t) && !(P.eqGuardType P.depth t)
def tyChk (P : Program) (t : TypeId) (ti : TI) : Bool :=
  match P.info? t with
  | some i => match P.underlying t with
    | some d => Nat.beq i.size ti.size && Nat.beq i.bytes ti.bytes && (match i.zero with | some z => zerosEq z.cells.toList ti.zero | none => false) && Nat.beq ti.zero.length ti.size && ti.zero.all (·.oneCell') && kindChk P d ti.kind &&
        (match ti.int with | some k => (match d with | .int k' => k == k' | _ => false) | none => true) && keysChk P t d ti.keys
    | none => false
  | none => false

structure TyOk (P : Program) (t : TypeId) (ti : TI) (i : TypeInfo) (d : TypeDesc) : Prop where
  info : P.info? t = some i
  under : P.underlying t = some d
  size : i.size = ti.size
  bytes : i.bytes = ti.bytes
  zero : ∃ z, i.zero = some z ∧ z.cells.toList = ti.zero
  zlen : ti.zero.length = ti.size
  zone : ∀ v ∈ ti.zero, v.oneCell' = true
  kind : kindChk P d ti.kind = true
  int : ∀ k, ti.int = some k → d = .int k
  keys : keysChk P t d ti.keys = true

theorem tyChk_ok {P : Program} {t : TypeId} {ti : TI} (h : tyChk P t ti = true) : ∃ i d, TyOk P t ti i d := by
  unfold tyChk at h
  cases hi : P.info? t with
  | none => simp [hi] at h
  | some i =>
    cases hd : P.underlying t with
    | none => simp [hi, hd] at h
    | some d =>
      simp only [hi, hd, Bool.and_eq_true] at h
      obtain ⟨⟨⟨⟨⟨⟨⟨h1, h2⟩, h3⟩, h4⟩, h5⟩, h6⟩, h7⟩, h8⟩ := h
      refine ⟨i, d, hi, hd, Nat.eq_of_beq_eq_true h1, Nat.eq_of_beq_eq_true h2, ?_, Nat.eq_of_beq_eq_true h4, fun v hv => by simpa using (List.all_eq_true.1 h5) v hv, h6, fun k hk => ?_, h8⟩
      · cases hz : i.zero with
        | none => simp [hz] at h3
        | some z => simp only [hz] at h3; exact ⟨z, rfl, zerosEq_eq h3⟩
      · simp only [hk] at h7
        cases d <;> simp at h7
        rw [h7]
structure TabOk (P : Program) (tt : Tab) : Prop where
  ok : ∀ t ti, look tt t = some ti → ∃ i d, TyOk P t ti i d
  mixed : P.follows .mixedOrders = true
instance (P : Program) (tt : Tab) : CoeFun (TabOk P tt) (fun _ => ∀ t ti, look tt t = some ti → ∃ i d, TyOk P t ti i d) := ⟨TabOk.ok⟩
theorem tabOk {P : Program} {tt : Tab} (h : (tt.all fun x => tyChk P x.1 x.2) = true) (hm : P.follows .mixedOrders = true) : TabOk P tt := by
  refine ⟨?_, hm⟩
  intro t ti hl
  induction tt with
  | nil => simp [look] at hl
  | cons x r ih =>
    obtain ⟨k, v⟩ := x
    simp only [List.all_cons, Bool.and_eq_true] at h
    rw [look_cons] at hl
    split at hl
    · rename_i e; subst e; simp at hl; subst hl; exact tyChk_ok h.1
    · exact ih h.2 hl

theorem descAgg_isAgg {P : Program} {t : TypeId} {d : TypeDesc} (h : P.underlying t = some d) (w : World) : (isAgg t).run P w = .ok (descAgg d) w := by
  simp [isAgg, run_underlying h]
  cases d <;> rfl
theorem kind_agg {P : Program} {d : TypeDesc} {k : TK} (h : kindChk P d k = true) : descAgg d = k.isAgg := by
  cases k with
  | word => simp [kindChk] at h; simp [TK.isAgg, h]
  | struct fs => cases d <;> simp [kindChk] at h <;> rfl
  | array n e => cases d <;> simp [kindChk] at h <;> rfl
  | slice e => cases d <;> simp [kindChk] at h <;> rfl
  | str => cases d <;> simp [kindChk] at h <;> rfl
  | bool => cases d <;> simp [kindChk] at h <;> rfl
  | map k e => cases d <;> simp [kindChk] at h <;> rfl
  | iface => cases d <;> simp [kindChk] at h <;> rfl
theorem TyOk.isAgg {P : Program} {t : TypeId} {ti : TI} {i : TypeInfo} {d : TypeDesc} (h : TyOk P t ti i d) (w : World) : (Go.isAgg t).run P w = .ok ti.kind.isAgg w := by
  rw [descAgg_isAgg h.under, kind_agg h.kind]
theorem TyOk.sizeOf {P : Program} {t : TypeId} {ti : TI} {i : TypeInfo} {d : TypeDesc} (h : TyOk P t ti i d) (w : World) : (Go.sizeOf t).run P w = .ok ti.size w := by
  simp [Go.sizeOf, typeInfo, h.info, h.size]

/-! ### Operands -/
theorem avOf_rel {w : World} {S : Nat → Prop} {ι : Loc} {v : Value} {a : AV} (h : avOf v = some a) : VRel w S ι v a := by
  unfold avOf at h
  split at h
  · rename_i cs
    cases hb : cs.toList.all (·.oneCell') with
    | false => simp [hb] at h
    | true =>
      simp [hb] at h
      subst h
      have : (Value.agg cs) = .agg cs.toList.toArray := by simp
      rw [this]
      refine .one (.agg _ _ (All2.of (by simp) fun i x y hx hy => ?_))
      simp at hy hx
      obtain ⟨u, hu, rfl⟩ := hy
      rw [hx] at hu; simp at hu; subst hu
      exact .rd (.val _ ((List.all_eq_true.1 hb) _ (List.mem_of_getElem? (i := i) (by simpa using hx))))
  · simp at h
  · rename_i h1 h2
    simp at h; subst h
    refine .one (.cell (.rd (.val _ ?_)))
    cases v <;> first | rfl | exact absurd rfl (h1 _) | exact absurd rfl (h2 _)
theorem avOf_uses {K : Nat → Prop} {v : Value} {a : AV} (h : avOf v = some a) : a.uses K := by
  unfold avOf at h
  split at h
  · rename_i cs
    cases hb : cs.toList.all (·.oneCell') with
    | false => simp [hb] at h
    | true => simp [hb] at h; subst h; intro c hc id hi; simp at hc; obtain ⟨u, _, rfl⟩ := hc; simp [AV.idOf] at hi
  · simp at h
  · simp at h; subst h; trivial

theorem opnd_tmp {tm : List (Nat × AV)} {t : Nat} {v : AV} (h : opnd tm (.tmp t) = some v) : look tm t = some v ∧ v ≠ .junk := by
  simp only [opnd] at h
  split at h
  · cases h
  · rename_i hj
    exact ⟨h, fun e => hj (by rw [h, e])⟩
theorem avOf_junk {v : Value} {a : AV} (h : avOf v = some a) : a ≠ .junk := by
  rintro rfl
  unfold avOf at h
  split at h
  · rename_i cs
    cases hb : cs.toList.all (·.oneCell') <;> simp [hb] at h
  · simp at h
  · simp at h
theorem opnd_rel {ι : Loc} {S : Nat → Prop} {tm : List (Nat × AV)} {nt nx : Nat} {w : World} {a : Act} (h : TmOk ι S tm nt nx w a.tmps) {x : Operand} {v : AV} (hx : opnd tm x = some v) : VRel w S ι (a.eval x) v ∧ v.uses (· < nx) := by
  cases x with
  | tmp t => have hx := (opnd_tmp hx).1; exact ⟨(h.tm t v hx).2.2, (h.tm t v hx).2.1⟩
  | const c => exact ⟨avOf_rel hx, avOf_uses hx⟩
  | global g => simp [opnd] at hx; subst hx; exact ⟨.one (.cell (.rd (.val _ rfl))), trivial⟩
  | func f => simp [opnd] at hx; subst hx; exact ⟨.one (.cell (.rd (.val _ rfl))), trivial⟩
theorem opnd_junk {tm : List (Nat × AV)} {x : Operand} {v : AV} (hx : opnd tm x = some v) : v ≠ .junk := by
  cases x with
  | tmp t => exact (opnd_tmp hx).2
  | const c => exact avOf_junk hx
  | global g => simp [opnd] at hx; subst hx; intro e; cases e
  | func f => simp [opnd] at hx; subst hx; intro e; cases e

theorem VRel.val_inv {w : World} {S : Nat → Prop} {ι : Loc} {v u : Value} (h : VRel w S ι v (.val u)) : v = u ∧ u.oneCell' = true := by
  cases h with
  | one h => cases h with
    | cell h => cases h with
      | rd h => cases h with
        | val v h => exact ⟨rfl, h⟩
theorem VRel.agg_inv {w : World} {S : Nat → Prop} {ι : Loc} {v : Value} {cs : List AV} (h : VRel w S ι v (.agg cs)) : ∃ vs, v = .agg vs.toArray ∧ All2 (CRel w S ι) vs cs := by
  cases h with
  | one h => cases h with
    | cell h => cases h with
      | rd h => cases h
    | agg vs cs h => exact ⟨vs, rfl, h⟩
theorem VRel.tup_inv {w : World} {S : Nat → Prop} {ι : Loc} {v : Value} {cs : List AV} (h : VRel w S ι v (.tup cs)) : ∃ vs, v = .tuple vs.toArray ∧ All2 (ARel w S ι) vs cs := by
  cases h with
  | one h => cases h with
    | cell h => cases h with
      | rd h => cases h
  | tup vs cs h => exact ⟨vs, rfl, h⟩
/-- Not a tuple: its cells. -/
theorem VRel.cells_rel {w : World} {S : Nat → Prop} {ι : Loc} {v : Value} {a : AV} (h : VRel w S ι v a) (hj : a ≠ .junk) (ht : ∀ vs, a ≠ .tup vs) : All2 (CRel w S ι) v.cells.toList a.cells := by
  cases h with
  | one h => cases h with
    | cell h =>
      have h1 := h.one
      have hv : v.cells.toList = [v] := by cases v <;> first | rfl | (simp [Value.oneCell'] at h1)
      have ha : a.cells = [a] := by cases a <;> first | rfl | (cases h with | rd h => cases h)
      rw [hv, ha]; exact ⟨h, trivial⟩
    | agg vs cs h => exact h
  | tup vs cs h => exact absurd rfl (ht cs)
  | any v => exact absurd rfl hj
theorem uses_cells {K : Nat → Prop} {a : AV} (h : a.uses K) (ht : ∀ vs, a ≠ .tup vs) : ∀ c ∈ a.cells, ∀ id, c.idOf = some id → K id := by
  cases a with
  | agg cs => exact h
  | tup vs => exact absurd rfl (ht vs)
  | own id len => intro c hc i hi; simp [AV.cells] at hc; subst hc; simp [AV.idOf] at hi; subst hi; exact h
  | pt id r o => intro c hc i hi; simp [AV.cells] at hc; subst hc; simp [AV.idOf] at hi; subst hi; exact h
  | sb id r o l => intro c hc i hi; simp [AV.cells] at hc; subst hc; simp [AV.idOf] at hi; subst hi; exact h
  | mp id => intro c hc i hi; simp [AV.cells] at hc; subst hc; simp [AV.idOf] at hi; subst hi; exact h
  | clo id => intro c hc i hi; simp [AV.cells] at hc; subst hc; simp [AV.idOf] at hi; subst hi; exact h
  | _ => intro c hc i hi; simp [AV.cells] at hc; subst hc; simp [AV.idOf] at hi

theorem VRel.pt_inv {w : World} {S : Nat → Prop} {ι : Loc} {v : Value} {id row off : Nat} (h : VRel w S ι v (.pt id row off)) : ∃ g c s, ι id = some (.blk g c s) ∧ v = .pointer (some ⟨g, row * s + off, none⟩) := by
  cases h with
  | one h => cases h with
    | cell h => cases h with
      | rd h => cases h
      | pt id row off g c s h => exact ⟨g, c, s, h, rfl⟩
theorem VRel.rp_inv {w : World} {S : Nat → Prop} {ι : Loc} {v : Value} {cs : List AV} (h : VRel w S ι v (.rp cs)) :
    ∃ b off vs, v = .pointer (some ⟨b, off, none⟩) ∧ S b ∧ All2 (Rd w S) vs cs ∧ ∀ (i : Nat) (v : Value), vs[i]? = some v → w.cell? ⟨b, off + i, none⟩ = some v := by
  cases h with
  | one h => cases h with
    | cell h => cases h with
      | rd h => cases h
      | rp cs b off h3 vs h4 h6 h7 => exact ⟨b, off, vs, rfl, h3, All2.of h4 h7, h6⟩
theorem VRel.own_inv {w : World} {S : Nat → Prop} {ι : Loc} {v : Value} {id len : Nat} (h : VRel w S ι v (.own id len)) :
    (∃ g cap s, ι id = some (.blk g cap s) ∧ len ≤ cap ∧ cap ≤ maxLen ∧ v = .slice (some ⟨g, 0, none⟩) len cap) ∨ (ι id = some .nil ∧ len = 0 ∧ v = .slice none 0 0) := by
  cases h with
  | one h => cases h with
    | cell h => cases h with
      | rd h => cases h
      | own id len g cap s h h1 h2 => exact .inl ⟨g, cap, s, h, h1, h2, rfl⟩
      | own0 id h => exact .inr ⟨h, rfl, rfl⟩
theorem VRel.mp_inv {w : World} {S : Nat → Prop} {ι : Loc} {v : Value} {id : Nat} (h : VRel w S ι v (.mp id)) : ∃ g, v = .map (some g) ∧ ι id = some (.blk g 0 1) := by
  cases h with
  | one h => cases h with
    | cell h => cases h with
      | rd h => cases h
      | mp id g h => exact ⟨g, rfl, h⟩
theorem VRel.clo_inv {w : World} {S : Nat → Prop} {ι : Loc} {v : Value} {id : Nat} (h : VRel w S ι v (.clo id)) : ι id = some (.clo v) := by
  cases h with
  | one h => cases h with
    | cell h => cases h with
      | rd h => cases h
      | clo id v h _ => exact h
theorem VRel.lst_inv {w : World} {S : Nat → Prop} {ι : Loc} {v : Value} {rows : List (List AV)} (h : VRel w S ι v (.lst rows)) : Rd w S v (.lst rows) := by
  cases h with
  | one h => cases h with
    | cell h => cases h with
      | rd h => exact h
theorem All2.notid {w : World} {S : Nat → Prop} : ∀ {vs : List Value} {cs : List AV}, All2 (Rd w S) vs cs → ∀ c ∈ cs, c.idOf = none
  | [], [], _, c, hc => by cases hc
  | v :: vs, x :: cs, h, c, hc => by
    rcases List.mem_cons.1 hc with rfl | hc
    · have := h.1; cases this <;> rfl
    · exact All2.notid h.2 c hc
  | [], _ :: _, h, _, _ => h.elim
  | _ :: _, [], h, _, _ => h.elim

end Go.Am
