/-
  CODES: what a code asks of a reading; that it is enough.
-/
import Derived.Test.YtdnanpokaanhdaaDoorAm7
namespace Go.Am
open Go.RowKit
set_option linter.unusedVariables false
set_option linter.unusedSimpArgs false

variable {E : Env} {s : St} {a : Act} {w : World} {ι : Loc} {S : Nat → Prop} {tt : Tab}

def inB : AV → Bool
  | .val _ => true
  | .lst _ => true
  | .tree _ _ _ => true
  | _ => false
theorem CRel.tr {w : World} {S : Nat → Prop} {ι : Loc} {k : Key} {v : Value} {a : AV} {b : Bool} (h : (b = false ∧ CRel w S ι v a) ∨ Tr w S ι k v a) (hb : inB a = true) : Tr w S ι k v a := by
  rcases h with ⟨_, h⟩ | h
  · cases h with
    | rd h => exact .rd h
    | _ => simp [inB] at hb
  · exact h
/-- A cell of an own list of own lists; the same as what is only read. -/
inductive Fz : AV → AV → Prop
  | val (v : Value) : Fz (.val v) (.val v)
  | nil : Fz (.val (.slice none 0 0)) (.lst [])
  | lst (rows : List (List AV)) : Fz (.lst rows) (.lst rows)
  | tree (e s : Nat) (rows rows' : List (List AV)) (hl : rows'.length = rows.length) (hr : ∀ r ∈ rows', r.length = s) (h : ∀ (i : Nat) (a b : AV), rows.flatten[i]? = some a → rows'.flatten[i]? = some b → Fz a b) : Fz (.tree e s rows) (.lst rows')
theorem Fz.inB {a b : AV} (h : Fz a b) : inB a = true := by cases h <;> rfl
theorem Fz.rd {w : World} {S S' : Nat → Prop} {ι : Loc} {id : Nat} (hS : ∀ b, S b → S' b) (hm : ∀ (k : Key) g c z, k.id = id → ι k = some (.blk g c z) → S' g) {a b : AV} (h : Fz a b) : ∀ {k : Key} {v : Value}, k.id = id → Tr w S ι k v a → Rd w S' v b := by
  induction h with
  | val u =>
    intro k v hk ht
    cases ht with | rd h => exact h.mono fun b hb => ⟨hS b hb, rfl⟩
  | nil =>
    intro k v hk ht
    cases ht with | rd h => cases h; exact .nil _ _ (Nat.zero_le _)
  | lst rows =>
    intro k v hk ht
    cases ht with | rd h => exact h.mono fun b hb => ⟨hS b hb, rfl⟩
  | tree e s rows rows' hl hr h ih =>
    intro k v hk ht
    cases ht with
    | rd h => cases h
    | nil _ _ _ hs =>
      obtain rfl : rows' = [] := List.eq_nil_of_length_eq_zero (by simpa using hl)
      exact .nil _ _ (Nat.zero_le _)
    | tree _ g cap _ _ _ vs hg hs hr0 hle hm0 hw hn hc =>
      by_cases h0 : rows = []
      · subst h0
        obtain rfl : rows' = [] := List.eq_nil_of_length_eq_zero (by simpa using hl)
        exact .nil _ _ hm0
      · have hpos : 0 < rows.length := List.length_pos_iff.2 h0
        have hmul : rows.length * s ≤ cap * s := Nat.mul_le_mul_right _ hle
        have := Rd.lst (w := w) (S := S') rows' g 0 cap s (vs.take (rows.length * s)) (fun e' => by rw [e'] at hl; simp at hl; omega) (by omega) hm0 (hm k g cap s hk hg) hr (by rw [hl, List.length_take, hn]; omega)
          (fun i v hi => by
            rw [Nat.zero_add]
            rw [List.getElem?_take] at hi
            split at hi
            · exact cells_of_block hw i v hi
            · cases hi)
          (fun i v b hi hb => by
            rw [List.getElem?_take] at hi
            split at hi
            · rename_i hlt
              have hlt' : i < rows.flatten.length := by rw [flatten_length _ hr0]; exact hlt
              exact ih i _ b (List.getElem?_eq_getElem hlt') hb (k := ⟨k.id, k.path ++ [i]⟩) hk (hc i v _ hi (List.getElem?_eq_getElem hlt'))
            · cases hi)
        rw [hl] at this
        exact this
/-- The rows of an own list of own lists; the same as what is only read. -/
structure FzR (s : Nat) (rows rows' : List (List AV)) : Prop where
  len : rows'.length = rows.length
  row : ∀ r ∈ rows', r.length = s
  cell : ∀ (i : Nat) (a b : AV), rows.flatten[i]? = some a → rows'.flatten[i]? = some b → Fz a b
theorem nest_read {w : World} {S S' : Nat → Prop} {ι : Loc} {b : Bool} {id e s len : Nat} {rows rows' : List (List AV)} {v : Value} (hob : ObjOk w S ι id (.nest (c := b) e s rows)) (hv : CRel w S ι v (.own id len)) (hS : ∀ b, S b → S' b) (hm : ∀ (k : Key) g c z, k.id = id → ι k = some (.blk g c z) → S' g) (h2 : len ≤ rows.length)
    (hz : FzR s rows rows') : Rd w S' v (.lst (rows'.take len)) := by
  have hl : (rows'.take len).length = len := by rw [List.length_take, hz.len]; omega
  rcases (VRel.one (ARel.cell hv)).own_inv with ⟨g, cap, s2, hg, g1, g2, ev⟩ | ⟨hg, rfl, ev⟩
  · subst ev
    cases hob with
    | nest0 _ _ h' _ => rw [hg] at h'; cases h'
    | nest g' cap' _ _ _ vs h' hs hr hle hm0 hw hn hc =>
      rw [hg] at h'; simp at h'; obtain ⟨rfl, rfl, rfl⟩ := h'
      by_cases h0 : len = 0
      · subst h0; exact .nil _ _ g2
      · have hmul : rows.length * s2 ≤ cap * s2 := Nat.mul_le_mul_right _ hle
        have hmul2 : len * s2 ≤ rows.length * s2 := Nat.mul_le_mul_right _ h2
        have hfl : rows.flatten.length = rows.length * s2 := flatten_length _ hr
        have := Rd.lst (w := w) (S := S') (rows'.take len) g 0 cap s2 (vs.take (len * s2)) (fun e' => by rw [e'] at hl; simp at hl; omega) (by omega) g2 (hm ⟨id, []⟩ g cap s2 rfl hg) (fun r hr' => hz.row r (List.mem_of_mem_take hr')) (by rw [hl, List.length_take, hn]; omega)
          (fun i v hi => by
            rw [Nat.zero_add]
            rw [List.getElem?_take] at hi
            split at hi
            · exact cells_of_block hw i v hi
            · cases hi)
          (fun i v b hi hb => by
            rw [flatten_take _ _ hz.row] at hb
            rw [List.getElem?_take] at hi hb
            split at hi
            · rename_i hlt
              rw [if_pos hlt] at hb
              have hlt' : i < rows.flatten.length := by omega
              have hf := hz.cell i _ b (List.getElem?_eq_getElem hlt') hb
              exact hf.rd hS hm (k := ⟨id, [i]⟩) rfl (CRel.tr (hc i v _ hi (List.getElem?_eq_getElem hlt')) hf.inB)
            · cases hi)
        rw [hl] at this
        exact this
  · subst ev
    simp only [List.take_zero]
    exact .nil _ _ (Nat.zero_le _)
/-- An argument, as the function that is called reads it. -/
inductive CvC (hp hi : Hp) (share : Bool) : AV → AV → Prop
  | refl (a : AV) (h : ∀ id, a.idOf = some id → inH hi id) (hs : share = true ∨ a.idOf = none ∨ True) : CvC hp hi share a a
  | nil : CvC hp hi share (.val (.slice none 0 0)) (.lst [])
  | own (id len e s : Nat) (rows : List (List AV)) (h : look hp id = some (.list e s rows)) (h1 : look hi id = none) (h2 : len ≤ rows.length) (h3 : share = false) : CvC hp hi share (.own id len) (.lst (rows.take len))
  | nest {b : Bool} (id len e s : Nat) (rows rows' : List (List AV)) (h : look hp id = some (.nest (c := b) e s rows)) (h1 : look hi id = none) (h2 : len ≤ rows.length) (h3 : share = false) (hz : FzR s rows rows') : CvC hp hi share (.own id len) (.lst (rows'.take len))
/-- What is only read. -/
def readC : AV → Bool
  | .val _ => true
  | .lst _ => true
  | _ => false
theorem CRel.readC {w : World} {S : Nat → Prop} {ι : Loc} {v : Value} {a : AV} (h : CRel w S ι v a) (hr : readC a = true) : Rd w S v a := by
  cases h with
  | rd h => exact h
  | _ => simp [Am.readC] at hr
inductive Cv (hp hi : Hp) (share : Bool) : AV → AV → Prop
  | cell {a b : AV} (ha : ∀ cs, a ≠ .agg cs) (ht : ∀ cs, a ≠ .tup cs) (h : CvC hp hi share a b) : Cv hp hi share a b
  | agg (cs ds : List AV) (h : All2 (CvC hp hi share) cs ds) : Cv hp hi share (.agg cs) (.agg ds)
  | box (id : Nat) (cs ds : List AV) (h : look hp id = some (.box cs)) (h1 : look hi id = none) (h3 : share = false) (hc : All2 (CvC hp hi share) cs ds) (hr : ds.all readC = true) : Cv hp hi share (.pt id 0 0) (.rp ds)

def Acall (share : Bool) (S : Nat → Prop) (w : World) (ιc : Loc) : Nat → Prop := fun b => match share with
  | true => S b
  | false => b < w.heap.size ∧ ¬ Mut ιc b

theorem CvC.rel {hp hi : Hp} {nx : Nat} {share : Bool} {ιc : Loc} (hC : Core E ι S hp nx w) (hιc : ∀ k : Nat, inH hi k → ιc ⟨k, []⟩ = ι ⟨k, []⟩) (hsub : ∀ (k : Key) p, ιc k = some p → ι k = some p ∧ inH hi k.id) {v : Value} {a b : AV} (h : CvC hp hi share a b) (hv : CRel w S ι v a) :
    CRel w (Acall share S w ιc) ιc v b := by
  have hSA : ∀ b, S b → Acall share S w ιc b := fun b hb => by
    cases share with
    | true => exact hb
    | false => exact ⟨hC.lt b hb, fun ⟨id, c, s, e⟩ => hC.dis b hb ⟨id, c, s, (hsub id _ e).1⟩⟩
  cases h with
  | refl _ h _ => exact hv.mono (K := inH hi) ⟨fun b hb => ⟨hSA b hb, rfl⟩, fun id p hid h => by rw [hιc id hid]; exact h⟩ h
  | nil =>
    cases hv with
    | rd hv => cases hv; exact .rd (.nil _ _ (Nat.zero_le _))
  | own id len e s rows h h1 h2 h3 =>
    subst h3
    obtain ⟨_, _, hob⟩ := hC.obj id _ h
    have hl : (rows.take len).length = len := by simp; omega
    rcases (VRel.one (ARel.cell hv)).own_inv with ⟨g, cap, s2, hg, g1, g2, ev⟩ | ⟨hg, rfl, ev⟩
    · subst ev
      cases hob with
      | nil _ _ h' _ => rw [hg] at h'; cases h'
      | list g' cap' _ _ _ vs h' hs hr hle hm hw hn hc =>
        rw [hg] at h'; simp at h'; obtain ⟨rfl, rfl, rfl⟩ := h'
        by_cases h0 : len = 0
        · subst h0; exact .rd (.nil _ _ g2)
        · have hmul : rows.length * s2 ≤ cap * s2 := Nat.mul_le_mul_right _ hle
          have hmul2 : len * s2 ≤ rows.length * s2 := Nat.mul_le_mul_right _ h2
          have hA : Acall false S w ιc g := ⟨(hC.own id g cap s2 hg).1, fun ⟨i, c, s', e'⟩ => by
            have := hsub i _ e'
            have := hC.inj i id g _ _ _ _ this.1 hg
            subst this
            exact (hsub _ _ e').2 h1⟩
          have := Rd.lst (w := w) (S := Acall false S w ιc) (rows.take len) g 0 cap s2 (vs.take (len * s2)) (fun e' => by rw [e'] at hl; simp at hl; omega) (by omega) hm hA (fun r hr' => hr r (List.mem_of_mem_take hr')) (by rw [hl, List.length_take, hn]; omega)
            (fun i v hi => by
              rw [Nat.zero_add]
              rw [List.getElem?_take] at hi
              split at hi
              · exact cells_of_block hw i v hi
              · cases hi)
            (fun i v av hi ha => by
              rw [flatten_take _ _ hr] at ha
              rw [List.getElem?_take] at hi ha
              split at hi
              · rename_i hlt
                rw [if_pos hlt] at ha
                exact (hc i v av hi ha).mono fun b hb => ⟨hSA b hb, rfl⟩
              · cases hi)
          rw [hl] at this
          exact .rd this
    · subst ev
      simp only [List.take_zero]
      exact .rd (.nil _ _ (Nat.zero_le _))
  | nest id len e s rows rows' h h1 h2 h3 hz =>
    subst h3
    obtain ⟨_, _, hob⟩ := hC.obj id _ h
    refine .rd (nest_read hob hv hSA (fun k g c z hk hg => ⟨(hC.own k g c z hg).1, fun ⟨i, c', s', e'⟩ => ?_⟩) h2 hz)
    obtain ⟨q1, q2⟩ := hsub i _ e'
    have := hC.inj i k g _ _ _ _ q1 hg
    rw [this, hk] at q2
    exact q2 h1

theorem Cv.rel {hp hi : Hp} {nx : Nat} {share : Bool} {ιc : Loc} (hC : Core E ι S hp nx w) (hιc : ∀ k : Nat, inH hi k → ιc ⟨k, []⟩ = ι ⟨k, []⟩) (hsub : ∀ (k : Key) p, ιc k = some p → ι k = some p ∧ inH hi k.id) {v : Value} {a b : AV} (h : Cv hp hi share a b) (hv : VRel w S ι v a) :
    VRel w (Acall share S w ιc) ιc v b := by
  cases h with
  | cell ha ht h =>
    cases hv with
    | one hv => cases hv with
      | cell hv => exact .one (.cell (h.rel hC hιc hsub hv))
      | agg vs cs hv => exact absurd rfl (ha cs)
    | tup vs cs hv => exact absurd rfl (ht cs)
    | any v => cases h with | refl => exact .any v
  | agg cs ds h =>
    obtain ⟨vs, rfl, hr⟩ := hv.agg_inv
    refine .one (.agg _ _ (All2.of (hr.length.trans h.length) fun i v d hv hd => ?_))
    have hlt : i < cs.length := by rw [h.length]; exact (List.getElem?_eq_some_iff.1 hd).1
    have hc := List.getElem?_eq_getElem hlt
    exact (h.at hc hd).rel hC hιc hsub (hr.at hv hc)
  | box id cs ds h h1 h3 hcv hr =>
    subst h3
    obtain ⟨_, _, hob⟩ := hC.obj id _ h
    cases hv with
    | one hv => cases hv with
      | cell hv => cases hv with
        | rd hv => cases hv
        | pt id row off g c s hg =>
          cases hob with
          | box g' c' s' T cs vs hg' h0 hw hcs =>
            rw [hg] at hg'
            simp only [Option.some.injEq, Pl.blk.injEq] at hg'
            obtain ⟨rfl, rfl, rfl⟩ := hg'
            have hA : Acall false S w ιc g := ⟨(hC.own id g c s hg).1, fun ⟨i, c, s', e'⟩ => by
              have := hsub i _ e'
              have := hC.inj i id g _ _ _ _ this.1 hg
              subst this
              exact (hsub _ _ e').2 h1⟩
            refine .one (.cell (.rp ds g (0 * s + 0) hA vs (hcs.length.trans hcv.length) (fun i v hi => ?_) fun i v d hi hd => ?_))
            · rw [Nat.zero_mul, Nat.zero_add]
              exact cells_of_block hw i v hi
            · have hlt : i < cs.length := by rw [hcv.length]; exact (List.getElem?_eq_some_iff.1 hd).1
              have hc := List.getElem?_eq_getElem hlt
              exact CRel.readC ((hcv.at hc hd).rel hC hιc hsub (hcs.at hi hc)) (List.all_eq_true.1 hr d (List.mem_of_getElem? hd))

theorem CvC.uses {hp hi : Hp} {share : Bool} {a b : AV} (h : CvC hp hi share a b) : ∀ id, b.idOf = some id → inH hi id := by
  cases h with
  | refl _ h _ => exact h
  | nil => intro id e; simp [AV.idOf] at e
  | own => intro id e; simp [AV.idOf] at e
  | nest => intro id e; simp [AV.idOf] at e
theorem Cv.uses {hp hi : Hp} {share : Bool} {a b : AV} (h : Cv hp hi share a b) : b.uses (inH hi) := by
  cases h with
  | cell ha ht h =>
    refine cell_uses ?_ ?_ h.uses
    · cases h with
      | refl => exact ha
      | nil => intro cs e; cases e
      | own => intro cs e; cases e
      | nest => intro cs e; cases e
    · cases h with
      | refl => exact ht
      | nil => intro cs e; cases e
      | own => intro cs e; cases e
      | nest => intro cs e; cases e
  | agg cs ds h =>
    intro d hd id hid
    obtain ⟨i, hi', e⟩ := List.mem_iff_getElem.1 hd
    have hd' : ds[i]? = some d := by rw [List.getElem?_eq_getElem hi', e]
    have hlt : i < cs.length := by rw [h.length]; exact hi'
    exact (h.at (List.getElem?_eq_getElem hlt) hd').uses id hid
  | box => exact trivial

def setD (dst : Option Nat) (v : AV) (tm : List (Nat × AV)) : List (Nat × AV) := match dst with
  | some d => (d, v) :: tm
  | none => tm
def killTx (ks : List Nat) (tm : List (Nat × AV)) : List (Nat × AV) := match ks with
  | [] => tm
  | k :: r => killT (k :: r) tm
def killHx (ks : List Nat) (hp : Hp) : Hp := match ks with
  | [] => hp
  | k :: r => killH (k :: r) hp
def killIds (st : Bool) (hi : Hp) : List Nat := match st with
  | true => []
  | false => lids hi

/-- A call: what is said of the function, at these arguments, and what then follows. -/
def CallW (P : Program) (fx : List Nat) (f : FuncId) (avs : List AV) (s : St) (dst : Option Nat) (K : St → Prop) : Prop :=
  ∃ (args : List AV) (hi : Hp) (st share : Bool) (Q : AV → Hp → Nat → Prop), All2 (Cv s.hp hi share) avs args ∧ (∀ id o, look hi id = some o → look s.hp id = some o ∧ o.uses (inH hi)) ∧ Ret P f args hi s.nx st Q ∧ (∀ id, memB id (killIds st hi) = true → memB id fx = false) ∧
    ∀ r ho m, Q r ho m → (share = false → flatV r = true ∧ ∀ id o, look ho id = some o → flatO o) ∧ K ⟨setD dst r (killTx (killIds st hi) s.tm), ho ++ killHx (killIds st hi) s.hp, m⟩
/-- Own lists are given up: from then on they are only read. -/
def offH (ks : List Nat) : Hp → Hp
  | [] => []
  | (i, o) :: r => match memB i ks with
    | true => offH ks r
    | false => (i, o) :: offH ks r
def give : List Nat → St → St
  | [], s => s
  | k :: r, s => ⟨killT (k :: r) s.tm, offH (k :: r) (killH (k :: r) s.hp), s.nx⟩
/-- An argument, read anew. -/
inductive Gv (hp : Hp) (gv : List Nat) : AV → AV → Prop
  | refl (a : AV) (h : ∀ K : Nat → Prop, a.uses K) : Gv hp gv a a
  | own (id len e s : Nat) (rows : List (List AV)) (h : look hp id = some (.list e s rows)) (h1 : memB id gv = true) (h2 : len ≤ rows.length) : Gv hp gv (.own id len) (.lst (rows.take len))
def GvOk (fx : List Nat) (hp : Hp) (gv : List Nat) (avs avs1 : List AV) : Prop := match gv with
  | [] => avs1 = avs
  | k :: r => fx = [] ∧ (∀ i, memB i (k :: r) = true → ∃ e s rows, look hp i = some (.list e s rows)) ∧ All2 (Gv hp (k :: r)) avs avs1
/-- Fewer temporaries, fewer objects. -/
structure Forget (s s' : St) : Prop where
  tm : ∀ t v, look s'.tm t = some v → look s.tm t = some v
  hp : ∀ i o, look s'.hp i = some o → look s.hp i = some o
  nx : s.nx ≤ s'.nx
theorem Forget.refl (s : St) : Forget s s := ⟨fun _ _ h => h, fun _ _ h => h, Nat.le_refl _⟩
theorem Forget.trans {a b c : St} (h : Forget a b) (k : Forget b c) : Forget a c := ⟨fun t v e => h.tm t v (k.tm t v e), fun i o e => h.hp i o (k.hp i o e), Nat.le_trans h.nx k.nx⟩
theorem Forget.rel {E : Env} {s s' : St} {a : Act} {w : World} (h : Forget s s') (hR : Rel E s a w) : Rel E s' a w := by
  obtain ⟨hs, hd, ι, S, hC, hTm⟩ := hR
  obtain ⟨tm, hp, nx⟩ := s
  obtain ⟨tm', hp', nx'⟩ := s'
  obtain ⟨h1, h2, h3⟩ := h
  have h3' : nx ≤ nx' := h3
  refine ⟨hs, hd, ι, S, ⟨hC.frame, hC.sub, hC.lt, hC.dis, hC.own, hC.inj, fun i hi => hC.new i (Nat.le_trans h3' hi), fun i o e => ?_, hC.stay, hC.fxs⟩, ⟨fun t v e => ?_⟩⟩
  · obtain ⟨g1, g2, g3⟩ := hC.obj i o (h2 i o e)
    have g1' : i < nx := g1
    refine ⟨Nat.lt_of_lt_of_le g1' h3', ?_, g3⟩
    cases o with
    | box cs => exact fun c hc j hj => Nat.lt_of_lt_of_le (g2 c hc j hj) h3'
    | list => trivial
    | map => trivial
    | ranged => trivial
    | clo => exact ⟨fun c hc j hj => Nat.lt_of_lt_of_le (g2.1 c hc j hj) h3', fun c hc j hj => Nat.lt_of_lt_of_le (g2.2 c hc j hj) h3'⟩
    | nest e s rows => exact fun h0 c hc j hj => Nat.lt_of_lt_of_le (g2 h0 c hc j hj) h3'
  · obtain ⟨g1, g2, g3⟩ := hTm.tm t v (h1 t v e)
    exact ⟨g1, AV.uses_mono (fun i hi => Nat.lt_of_lt_of_le hi h3') g2, g3⟩
structure CallP (P : Program) (fx : List Nat) (f : FuncId) (avs : List AV) (s : St) (dst : Option Nat) (K : St → Prop) : Prop where
  call : ∃ (gv : List Nat) (avs1 : List AV), GvOk fx s.hp gv avs avs1 ∧ CallW P fx f avs1 (give gv s) dst fun s1 => ∃ s2, Forget s1 s2 ∧ K s2
theorem CallW.mono {P : Program} {fx : List Nat} {f : FuncId} {avs : List AV} {s : St} {dst : Option Nat} {K K' : St → Prop} (hK : ∀ s, K s → K' s) (h : CallW P fx f avs s dst K) : CallW P fx f avs s dst K' := by
  obtain ⟨as, hi, st, share, Q, h1, h2, h3, h4, h5⟩ := h
  exact ⟨as, hi, st, share, Q, h1, h2, h3, h4, fun r ho m hq => ⟨(h5 r ho m hq).1, hK _ (h5 r ho m hq).2⟩⟩
theorem CallP.plain {P : Program} {fx : List Nat} {f : FuncId} {avs : List AV} {s : St} {dst : Option Nat} {K : St → Prop} (h : CallW P fx f avs s dst K) : CallP P fx f avs s dst K := ⟨[], avs, rfl, h.mono fun s hk => ⟨s, Forget.refl s, hk⟩⟩
/-- Behind a call some temporaries and objects may be forgotten. -/
theorem CallP.cut {P : Program} {fx : List Nat} {f : FuncId} {avs : List AV} {s : St} {dst : Option Nat} {K : St → Prop} (h : CallP P fx f avs s dst fun s1 => ∃ s2, Forget s1 s2 ∧ K s2) : CallP P fx f avs s dst K := by
  obtain ⟨gv, avs1, hg, hw⟩ := h.call
  exact ⟨gv, avs1, hg, hw.mono fun s1 ⟨s2, h2, s3, h3, hk⟩ => ⟨s3, h2.trans h3, hk⟩⟩
theorem look_offH (ks : List Nat) (i : Nat) : ∀ hp : Hp, look (offH ks hp) i = if memB i ks = true then none else look hp i
  | [] => by simp [offH, look]
  | (k, o) :: r => by
    have ih := look_offH ks i r
    simp only [offH]
    cases hk : memB k ks with
    | true =>
      simp only
      rw [ih, look_cons]
      by_cases h : k = i
      · subst h; simp [hk]
      · rw [if_neg h]
    | false =>
      simp only [look_cons]
      by_cases h : k = i
      · subst h; simp [hk]
      · rw [if_neg h, if_neg h]; exact ih
theorem own_frz {hp : Hp} {nx : Nat} (hC : Core E ι S hp nx w) {v : Value} {id len e s : Nat} {rows : List (List AV)} (h : look hp id = some (.list e s rows)) (h2 : len ≤ rows.length) (hv : CRel w S ι v (.own id len)) {S' : Nat → Prop} (hS : ∀ b, S b → S' b) (hg' : ∀ g c z, ι id = some (.blk g c z) → S' g) :
    Rd w S' v (.lst (rows.take len)) := by
  obtain ⟨_, _, hob⟩ := hC.obj id _ h
  have hl : (rows.take len).length = len := by simp; omega
  rcases (VRel.one (ARel.cell hv)).own_inv with ⟨g, cap, s2, hg, g1, g2, ev⟩ | ⟨hg, rfl, ev⟩
  · subst ev
    cases hob with
    | nil _ _ h' _ => rw [hg] at h'; cases h'
    | list g' cap' _ _ _ vs h' hs hr hle hm hw hn hc =>
      rw [hg] at h'; simp at h'; obtain ⟨rfl, rfl, rfl⟩ := h'
      by_cases h0 : len = 0
      · subst h0; exact .nil _ _ g2
      · have hmul : rows.length * s2 ≤ cap * s2 := Nat.mul_le_mul_right _ hle
        have hmul2 : len * s2 ≤ rows.length * s2 := Nat.mul_le_mul_right _ h2
        have := Rd.lst (w := w) (S := S') (rows.take len) g 0 cap s2 (vs.take (len * s2)) (fun e' => by rw [e'] at hl; simp at hl; omega) (by omega) hm (hg' _ _ _ hg) (fun r hr' => hr r (List.mem_of_mem_take hr')) (by rw [hl, List.length_take, hn]; omega)
          (fun i v hi => by
            rw [Nat.zero_add]
            rw [List.getElem?_take] at hi
            split at hi
            · exact cells_of_block hw i v hi
            · cases hi)
          (fun i v av hi ha => by
            rw [flatten_take _ _ hr] at ha
            rw [List.getElem?_take] at hi ha
            split at hi
            · rename_i hlt
              rw [if_pos hlt] at ha
              exact (hc i v av hi ha).mono fun b hb => ⟨hS b hb, rfl⟩
            · cases hi)
        rw [hl] at this
        exact this
  · subst ev
    simp only [List.take_zero]
    exact .nil _ _ (Nat.zero_le _)
/-- The world is the same; own lists are only read from now on. -/
theorem Core.give {hp : Hp} {nx : Nat} (hC : Core E ι S hp nx w) {gv : List Nat} (hfx : E.fx = []) (hl : ∀ i, memB i gv = true → ∃ e s rows, look hp i = some (.list e s rows)) :
    ∃ (ι' : Loc) (S' : Nat → Prop), Core E ι' S' (offH gv (killH gv hp)) nx w ∧ Later w w S S' ι ι' (fun i => i < nx ∧ memB i gv = false) ∧ (∀ b, S b → S' b) ∧ ∀ (i : Key) g c s, memB i.id gv = true → ι i = some (.blk g c s) → S' g := by
  have h1 : ∀ i : Key, memB i.id gv = false → (fun i : Key => match memB i.id gv with | true => (none : Option Pl) | false => ι i) i = ι i := fun i h => by simp [h]
  have h2 : ∀ (i : Key) p, (fun i : Key => match memB i.id gv with | true => (none : Option Pl) | false => ι i) i = some p → memB i.id gv = false ∧ ι i = some p := by
    intro i p h
    cases hm : memB i.id gv with
    | true => simp [hm] at h
    | false => simp [hm] at h; exact ⟨rfl, h⟩
  have hL : Later w w S (fun b => S b ∨ ∃ (i : Key) (c s : Nat), memB i.id gv = true ∧ ι i = some (.blk b c s)) ι (fun i : Key => match memB i.id gv with | true => (none : Option Pl) | false => ι i) (fun i => i < nx ∧ memB i gv = false) :=
    ⟨fun b hb => ⟨.inl hb, rfl⟩, fun i p hi h => (h1 ⟨i, []⟩ hi.2).trans h⟩
  refine ⟨_, _, ⟨hC.frame, ?_, ?_, ?_, ?_, ?_, ?_, ?_, ?_, hC.fxs⟩, hL, fun b hb => .inl hb, fun i g c s hi h => .inr ⟨i, c, s, hi, h⟩⟩
  · rintro b (hb | ⟨i, c, s, hi, h⟩)
    · exact hC.sub b hb
    · exact (hC.own i b c s h).2.elim .inr fun h => absurd h (hC.fxs.2 hfx b)
  · rintro b (hb | ⟨i, c, s, hi, h⟩)
    · exact hC.lt b hb
    · exact (hC.own i b c s h).1
  · rintro b (hb | ⟨i, c, s, hi, h⟩) ⟨j, c', s', h'⟩
    · exact hC.dis b hb ⟨j, c', s', (h2 j _ h').2⟩
    · obtain ⟨g1, g2⟩ := h2 j _ h'
      have := hC.inj i j b _ _ _ _ h g2
      subst this
      rw [hi] at g1; cases g1
  · intro i g c s h; exact hC.own i g c s (h2 i _ h).2
  · intro i j g c d s r e1 e2; exact hC.inj i j g _ _ _ _ (h2 i _ e1).2 (h2 j _ e2).2
  · intro i hi
    have := hC.new i hi
    show (match memB i.id gv with | true => (none : Option Pl) | false => ι i) = none
    cases memB i.id gv <;> simp [this]
  · intro i o h
    rw [look_offH] at h
    cases hm : memB i gv with
    | true => rw [if_pos hm] at h; cases h
    | false =>
      rw [if_neg (by rw [hm]; simp), look_killH] at h
      simp only [Option.map_eq_some_iff] at h
      obtain ⟨o0, h0, rfl⟩ := h
      obtain ⟨k1, k2, k3⟩ := hC.obj i o0 h0
      have := k3.kill (ks := gv) hL k1 hm k2 (fun _ k q hk hq => by show (match memB k.id gv with | true => (none : Option Pl) | false => ι k) = some q; rw [hk, hm]; exact hq) (fun _ _ _ _ _ _ => rfl)
      exact ⟨k1, this.1, this.2⟩
  · intro i p h
    have : E.fix ⟨i, []⟩ = none := hC.fxs.1 ⟨i, []⟩ (by rw [hfx]; rfl)
    rw [this] at h; cases h

structure CondP (b : Bool) (X Y : Prop) : Prop where
  t : b = true → X
  f : b = false → Y

theorem CondP.dec {p : Prop} [Decidable p] {X Y : Prop} (ht : p → X) (hf : ¬ p → Y) : CondP (decide p) X Y := ⟨fun h => ht (of_decide_eq_true h), fun h => hf (of_decide_eq_false h)⟩
theorem CondP.ndec {p : Prop} [Decidable p] {X Y : Prop} (ht : ¬ p → X) (hf : p → Y) : CondP (!decide p) X Y := ⟨fun h => ht (by simpa using h), fun h => hf (by simpa using h)⟩
theorem CondP.yes {X Y : Prop} (h : X) : CondP true X Y := ⟨fun _ => h, fun e => (by cases e)⟩
theorem CondP.not {X Y : Prop} (h : Y) : CondP false X Y := ⟨fun e => (by cases e), fun _ => h⟩
/-- One reading says less than another. -/
def Weak (fx : List Nat) (s s' : St) : Prop := ∀ (E : Env) (a : Act) (w : World), E.fx = fx → Rel E s a w → Rel E s' a w

structure LoopP (fx : List Nat) (body : St → (Exit → St → Prop) → Prop) (s : St) (Q : Exit → St → Prop) : Prop where
  inv : ∃ (α : Type) (T : α → St) (μ : α → Nat) (x0 : α), Weak fx s (T x0) ∧ ∀ x, body (T x) fun e s' => match e with
    | .normal => ∃ y, μ y < μ x ∧ Weak fx s' (T y)
    | e => Q e s'

def runOp (tt : Tab) (P : Program) (nt : Nat) (fx : List Nat) (o : Oper) (s : St) (K : St → Prop) : Prop :=
  match s with
  | ⟨tm, hp, nx⟩ => match o.dst with
    | some d => bif Nat.blt d nt then (match stepA tt o.op ⟨tm, hp, nx⟩ with
      | .ok v => K ⟨(d, v) :: tm, hp, nx⟩
      | .cond p v => p ∧ K ⟨(d, v) :: tm, hp, nx⟩
      | .newP ob => K ⟨(d, .pt nx 0 0) :: tm, (nx, ob) :: hp, nx + 1⟩
      | .newM ob => K ⟨(d, .mp nx) :: tm, (nx, ob) :: hp, nx + 1⟩
      | .newC ob => K ⟨(d, .clo nx) :: tm, (nx, ob) :: hp, nx + 1⟩
      | .each id ks left => (left = [] → K ⟨(d, .tup [.val (.bool false)]) :: tm, hp, nx⟩) ∧ ∀ (j : Nat) (h : j < left.length), K ⟨(d, .tup [.val (.bool true), .agg (kvA ks left[j].1), left[j].2]) :: tm, (id, .ranged ks (some left[j]) (left.eraseIdx j)) :: hp, nx⟩
      | .newL0 len ob => K ⟨(d, .own nx len) :: tm, (nx, ob) :: hp, nx + 1⟩
      | .newL p len ob => p ∧ K ⟨(d, .own nx len) :: tm, (nx, ob) :: hp, nx + 1⟩
      | .kill p id v ob => bif memB id fx then False else p ∧ K ⟨(d, v) :: killT [id] tm, (id, ob) :: killH [id] hp, nx⟩
      | .setV p id v ob => p ∧ K ⟨(d, v) :: tm, (id, ob) :: hp, nx⟩
      | .call n args => CallP P fx n args ⟨tm, hp, nx⟩ (some d) K
      | .pick b x y => CondP b (match opnd tm x with | some v => K ⟨(d, v) :: tm, hp, nx⟩ | none => False) (match opnd tm y with | some v => K ⟨(d, v) :: tm, hp, nx⟩ | none => False)
      | _ => False) else False
    | none => match stepA tt o.op ⟨tm, hp, nx⟩ with
      | .ok v => K ⟨tm, hp, nx⟩
      | .setB id ob => K ⟨tm, (id, ob) :: hp, nx⟩
      | .set p id ob => p ∧ K ⟨tm, (id, ob) :: hp, nx⟩
      | .setV p id v ob => p ∧ K ⟨tm, (id, ob) :: hp, nx⟩
      | .call n args => CallP P fx n args ⟨tm, hp, nx⟩ none K
      | _ => False

/-- What a guard's operation yielded: a truth, nothing, or it is not known. -/
def guardA (ops : Array Oper) (tm : List (Nat × AV)) (j : Nat) : Option (Option Bool) :=
  match ops[j]? with
  | some o => match o.dst with
    | some d => match look tm d with
      | some (.val (.bool b)) => some (some b)
      | some (.tup []) => some none
      | _ => none
    | none => none
  | none => none

def skipA (nt : Nat) (o : Oper) (s : St) (K : St → Prop) : Prop :=
  match s with
  | ⟨tm, hp, nx⟩ => match o.dst with
    | some d => bif Nat.blt d nt then K ⟨(d, .tup []) :: tm, hp, nx⟩ else False
    | none => K ⟨tm, hp, nx⟩

/-- An operation, by its guard: it is carried out, or it is not. -/
def byGuard (ops : Array Oper) (o : Oper) (s : St) (run skip : Prop) : Prop := match o.guard with
  | none => run
  | some (j, want) => match guardA ops s.tm j with
    | some (some b) => match want with
      | true => CondP b run skip
      | false => CondP b skip run
    | some none => skip
    | none => False

def runOps (tt : Tab) (P : Program) (nt : Nat) (fx : List Nat) (ops : Array Oper) : List Oper → St → (St → Prop) → Prop
  | [], s, K => K s
  | o :: r, s, K => byGuard ops o s (runOp tt P nt fx o s fun s' => runOps tt P nt fx ops r s' K) (skipA nt o s fun s' => runOps tt P nt fx ops r s' K)

/-! ### regions that draw their order -/
def waits (o : Oper) (j : Nat) : Bool := o.after.toList.any fun e => Nat.beq e.on j && Region.binds .any e
def waitsTo (o : Oper) : Nat → Bool
  | 0 => true
  | n + 1 => waits o n && waitsTo o n
def onsL : List Edge → List Nat
  | [] => []
  | e :: r => match Region.binds .any e with
    | true => e.on :: onsL r
    | false => onsL r
/-- All ahead are waited for, be it by way of others (the operations ahead, the last one first). -/
def coverGo : List Oper → Nat → List Nat → Bool
  | o :: r, k + 1, acc => memB k acc && coverGo r k (onsL o.after.toList ++ acc)
  | _, _, _ => true
/-- All that is waited for, be it by way of others. -/
def closeGo : List Oper → Nat → List Nat → List Nat
  | o :: r, k + 1, acc => match memB k acc with
    | true => closeGo r k (onsL o.after.toList ++ acc)
    | false => closeGo r k acc
  | _, _, acc => acc
def isCallB (o : Oper) : Bool := match o.op with
  | .call c => (match c.callee with | .builtin _ => false | _ => true)
  | _ => false
def isAllocB (o : Oper) : Bool := match o.op with
  | .alloc _ => true
  | _ => false
/-- What may change memory in the quiet part of a region: calls; or, in a region with an alloc, the alloc. -/
def movB (md : Bool) (o : Oper) : Bool := match md with
  | true => isAllocB o
  | false => isCallB o
def oneMd : List Oper → Bool
  | [] => false
  | o :: r => isAllocB o || oneMd r
def tmpsOf : List Operand → List Nat
  | [] => []
  | .tmp t :: r => t :: tmpsOf r
  | _ :: r => tmpsOf r
def backB (o : Oper) (i : Nat) : Bool := o.after.toList.all fun e => !Region.binds .any e || Nat.blt e.on i
/-- Operation i against operation j (number i's part): other results; what i reads of j it waits for; calls wait for calls. -/
def pairB (i : Nat) (o : Oper) (j : Nat) (q : Oper) : Bool :=
  match q.dst with
  | none => false
  | some e => bif Nat.beq i j then !memB e (tmpsOf o.op.operands.toList) else
    (match o.dst with | none => false | some d => !Nat.beq d e) && (!memB e (tmpsOf o.op.operands.toList) || (Nat.blt j i && waits o j))
def guardB (o : Oper) (i : Nat) : Bool := match o.guard with
  | none => true
  | some (g, _) => Nat.blt g i && waits o g
def allI (p : Nat → Oper → Bool) : Nat → List Oper → Bool
  | _, [] => true
  | i, o :: r => p i o && allI p (i + 1) r
def bodyB (l : List Oper) : Bool := allI (fun i o => backB o i && guardB o i && allI (pairB i o) 0 l) 0 l
def noSel (l : List Oper) : Bool := l.all fun o => match o.op with | .select _ _ => false | _ => true

def Is (r0 : AV) (h0 : Hp) (m0 : Nat) : AV → Hp → Nat → Prop := fun r ho m => r = r0 ∧ ho = h0 ∧ m = m0
def flatH : Hp → Prop
  | [] => True
  | (_, o) :: r => flatO o ∧ flatH r
def newH (n : Nat) : Hp → Bool
  | [] => true
  | (i, _) :: r => Nat.ble n i && newH n r
/-- A call within a region that draws its order: one answer. -/
structure CallQ (P : Program) (f : FuncId) (avs : List AV) (s : St) (d : Nat) (K : St → Prop) : Prop where
  call : ∃ (args : List AV) (share : Bool) (v : AV) (ho : Hp) (m : Nat), All2 (Cv s.hp [] share) avs args ∧ Ret P f args [] s.nx true (Is v ho m) ∧ (Nat.ble s.nx m && newH s.nx ho) = true ∧ (share = false → flatV v = true ∧ flatH ho) ∧ K ⟨(d, v) :: s.tm, ho ++ s.hp, m⟩

/-- A call that changes no memory that the walk knows. -/
structure CallN (P : Program) (f : FuncId) (avs : List AV) (s : St) (d : Nat) (K : St → Prop) : Prop where
  call : ∃ v : AV, (∀ hp, All2 (Cv hp [] true) avs avs) ∧ (∀ n, Ret P f avs [] n true (Is v [] n)) ∧ K ⟨(d, v) :: s.tm, s.hp, s.nx⟩
/-- hq: what the operations between the calls may read. -/
def qOpA (tt : Tab) (P : Program) (nt : Nat) (hq : Hp) (md : Bool) (o : Oper) (s : St) (K : St → Prop) : Prop :=
  match s with
  | ⟨tm, hp, nx⟩ => match o.dst with
    | none => False
    | some d => bif Nat.blt d nt then (match stepA tt o.op ⟨tm, hq, 0⟩ with
      | .ok v => K ⟨(d, v) :: tm, hp, nx⟩
      | .cond p v => p ∧ K ⟨(d, v) :: tm, hp, nx⟩
      | .newL0 len (.list _ _ rows) => K ⟨(d, .lst (rows.take len)) :: tm, hp, nx⟩
      | .pick b _ _ => (match o.op with
        | .pick _ x y => CondP b (match opnd tm x with | some v => K ⟨(d, v) :: tm, hp, nx⟩ | none => False) (match opnd tm y with | some v => K ⟨(d, v) :: tm, hp, nx⟩ | none => False)
        | _ => False)
      | .newP ob => bif md && isAllocB o then K ⟨(d, .pt nx 0 0) :: tm, (nx, ob) :: hp, nx + 1⟩ else False
      | .call n args => bif isCallB o then (match md with | true => CallN P n args ⟨tm, hp, nx⟩ d K | false => CallQ P n args ⟨tm, hp, nx⟩ d K) else False
      | _ => False) else False
def skipQ (nt : Nat) (o : Oper) (s : St) (K : St → Prop) : Prop :=
  match s with
  | ⟨tm, hp, nx⟩ => match o.dst with
    | some d => bif Nat.blt d nt then K ⟨(d, .tup []) :: tm, hp, nx⟩ else False
    | none => False
def qOps (tt : Tab) (P : Program) (nt : Nat) (hq : Hp) (md : Bool) (ops : Array Oper) : List Oper → St → (St → Prop) → Prop
  | [], s, K => K s
  | o :: r, s, K => byGuard ops o s (qOpA tt P nt hq md o s fun s' => qOps tt P nt hq md ops r s' K) (skipQ nt o s fun s' => qOps tt P nt hq md ops r s' K)
def isPtrT (tt : Tab) (t : Nat) : Bool := match look tt t with
  | some ti => (match ti.zero with | [.pointer _] => true | _ => false)
  | none => false
/-- No call that may write where a pointer leads. -/
def noPtr (tt : Tab) : List Oper → Bool
  | [] => true
  | o :: r => (match o.op with
    | .call c => (match c.callee with | .builtin _ => true | _ => c.argTypes.toList.all fun t => !isPtrT tt t)
    | .makeSlice _ _ _ => false
    | _ => true) && noPtr tt r
structure Both (X Y : Prop) : Prop where
  l : X
  r : Y
def allR : List Nat → (Nat → Prop) → Prop
  | [], _ => True
  | [i], p => p i
  | i :: r, p => Both (p i) (allR r p)
def afterOk (o : Oper) (all : List Bool) : Bool := o.after.toList.all fun e => !Region.binds .any e || all.getD e.on false
def readyL (all : List Bool) : Nat → List Oper → List Bool → List Nat
  | i, o :: r, b :: bs => match !b && afterOk o all with
    | true => i :: readyL all (i + 1) r bs
    | false => readyL all (i + 1) r bs
  | _, _, _ => []
def falses : List Oper → List Bool
  | [] => []
  | _ :: r => false :: falses r
def sizeL : List Oper → Nat
  | [] => 0
  | _ :: r => sizeL r + 1
/-- Every order, one by one. -/
def bruteA (tt : Tab) (P : Program) (nt : Nat) (fx : List Nat) (ops : Array Oper) : Nat → List Bool → St → (St → Prop) → Prop
  | 0, listed, s, K => match readyL listed 0 ops.toList listed with
    | [] => K s
    | _ :: _ => False
  | f + 1, listed, s, K => match readyL listed 0 ops.toList listed with
    | [] => K s
    | i :: r => allR (i :: r) fun i => match ops.toList[i]? with
      | some o => byGuard ops o s (runOp tt P nt fx o s fun s' => bruteA tt P nt fx ops f (listed.set i true) s' K) (skipA nt o s fun s' => bruteA tt P nt fx ops f (listed.set i true) s' K)
      | none => False
/-- Operation i comes behind all ahead of it and ahead of all behind it. -/
def cutOk (prev : List Oper) (i : Nat) (o : Oper) (rest : List Oper) : Bool := coverGo prev i (onsL o.after.toList) && rest.all fun q => (onsL q.after.toList).any (Nat.ble i)
/-- What writes: a store, an append. -/
def writesB (o : Oper) : Bool := match o.op with
  | .store _ _ _ => true
  | .mapUpdate _ _ _ _ => true
  | .range _ _ => true
  | .next _ _ => true
  | .assign _ => true
  | .call c => (match c.callee with | .builtin .append => true | .builtin .copy => true | .builtin .delete => true | .builtin .clear => true | _ => false)
  | _ => false
/-- Where the part begins that is gone through order by order. -/
def cutAt : List Oper → Nat → Option Nat → List Oper → Nat
  | _, i, best, [] => match best with | some b => b | none => i
  | prev, i, best, o :: r => match writesB o with
    | true => match best with | some b => b | none => i
    | false => match isCallB o && cutOk prev i o r with
      | true => cutAt (o :: prev) (i + 1) (some i) r
      | false => cutAt (o :: prev) (i + 1) best r
def cutB (prev : List Oper) (i : Nat) : List Oper → Bool
  | [] => true
  | o :: r => cutOk prev i o r
def memAll : List Nat → List Nat → Bool
  | [], _ => true
  | k :: r, l => memB k l && memAll r l
/-- Calls wait for calls. -/
def callsB (md : Bool) : List Oper → Nat → List Nat → List Oper → Bool
  | _, _, _, [] => true
  | prev, i, calls, o :: r => match movB md o with
    | true => (match calls with | [] => true | k :: ks => memAll (k :: ks) (closeGo prev i (onsL o.after.toList))) && callsB md (o :: prev) (i + 1) (i :: calls) r
    | false => callsB md (o :: prev) (i + 1) calls r
def backsB (l : List Oper) : Bool := allI (fun i o => backB o i) 0 l
def anyB (md : Bool) (l : List Oper) (t : Nat) : Bool := bodyB (l.take t) && callsB md [] 0 [] (l.take t) && backsB l && cutB (l.take t).reverse t (l.drop t) && noSel l
/-- A call that is handed a pointer. -/
def ptrCallB (tt : Tab) (o : Oper) : Bool := match o.op with
  | .call c => (match c.callee with | .builtin _ => false | _ => !(c.argTypes.toList.all fun t => !isPtrT tt t))
  | _ => false
def countPtr (tt : Tab) : List Oper → Nat
  | [] => 0
  | o :: r => match ptrCallB tt o with
    | true => countPtr tt r + 1
    | false => countPtr tt r
/-- Calls that are handed pointers wait for such calls. -/
def callsP (tt : Tab) : List Oper → Nat → List Nat → List Oper → Bool
  | _, _, _, [] => true
  | prev, i, calls, o :: r => match ptrCallB tt o with
    | true => (match calls with | [] => true | k :: ks => memAll (k :: ks) (closeGo prev i (onsL o.after.toList))) && callsP tt (o :: prev) (i + 1) (i :: calls) r
    | false => callsP tt (o :: prev) (i + 1) calls r
/-- Many calls that are handed pointers, one after another, and what else there is reads no memory: one order serves. -/
def heapB (tt : Tab) (l : List Oper) (t : Nat) : Bool := Nat.ble 5 (countPtr tt (l.take t)) && (anyB true l t && callsP tt [] 0 [] (l.take t))
/-- A call within such a region: it changes objects that were there, and makes none. -/
structure CallH (P : Program) (fx : List Nat) (f : FuncId) (avs : List AV) (hp0 ov : Hp) (s : St) (d : Nat) (K : AV → Hp → Prop) : Prop where
  call : ∃ (hi : Hp) (v : AV) (ho : Hp), (∀ id o, look hi id = some o → look (ov ++ s.hp) id = some o ∧ ∃ o', look hp0 id = some o') ∧ (∀ id o, look ho id = some o → ∃ o', look hi id = some o') ∧
    (∀ tm hp nx, (∀ id o, look hi id = some o → look hp id = some o) → CallP P fx f avs ⟨tm, hp, nx⟩ (some d) fun s' => s' = ⟨(d, v) :: tm, ho ++ hp, nx⟩) ∧ K v ho
def hOpA (tt : Tab) (P : Program) (nt : Nat) (fx : List Nat) (hp0 ov : Hp) (o : Oper) (s : St) (K : St → Hp → Prop) : Prop :=
  match ptrCallB tt o with
  | false => qOpA tt P nt [] true o s fun s' => K s' ov
  | true => match s with
    | ⟨tm, hp, nx⟩ => match o.dst with
      | none => False
      | some d => bif Nat.blt d nt then (match stepA tt o.op ⟨tm, [], 0⟩ with
        | .call n args => CallH P fx n args hp0 ov ⟨tm, hp, nx⟩ d fun v ho => K ⟨(d, v) :: tm, hp, nx⟩ (ho ++ ov)
        | _ => False) else False
def qOpsH (tt : Tab) (P : Program) (nt : Nat) (fx : List Nat) (hp0 : Hp) (ops : Array Oper) : List Oper → Hp → St → (St → Prop) → Prop
  | [], ov, s, K => K ⟨s.tm, ov ++ s.hp, s.nx⟩
  | o :: r, ov, s, K => byGuard ops o s (hOpA tt P nt fx hp0 ov o s fun s' ov' => qOpsH tt P nt fx hp0 ops r ov' s' K) (skipQ nt o s fun s' => qOpsH tt P nt fx hp0 ops r ov s' K)
def trues : Nat → List Bool
  | 0 => []
  | n + 1 => true :: trues n
/-! A region with several appends: what only reads is gone through ahead; the rest order by order. -/
def isApp (o : Oper) : Bool := match o.op with
  | .call c => (match c.callee with | .builtin .append => true | _ => false)
  | _ => false
def countApp : List Oper → Nat
  | [] => 0
  | o :: r => match isApp o with
    | true => countApp r + 1
    | false => countApp r
def preKind (o : Oper) : Bool := (match o.guard with | none => true | some _ => false) && (match o.op with
  | .move _ => true
  | .nilCheck _ => true
  | .load _ _ => true
  | .binOp _ _ _ _ _ => true
  | .unOp _ _ _ => true
  | .convert _ _ _ => true
  | .fieldAddr _ _ _ => true
  | .field _ _ _ => true
  | .indexAddr _ _ _ => true
  | .index _ _ _ => true
  | .extract _ _ => true
  | .call c => (match c.callee with | .builtin .len => true | _ => false)
  | _ => false)
def offAll (m : List Nat) : List Nat → Bool
  | [] => true
  | t :: r => !memB t m && offAll m r
def preSel : List Nat → List Oper → List Bool
  | _, [] => []
  | late, o :: r => match o.dst with
    | none => false :: preSel late r
    | some d => match preKind o && offAll late (tmpsOf o.op.operands.toList) with
      | true => true :: preSel late r
      | false => false :: preSel (d :: late) r
def allS (p : Nat → Oper → Bool → Bool) : Nat → List Oper → List Bool → Bool
  | i, o :: r, b :: bs => p i o b && allS p (i + 1) r bs
  | _, [], [] => true
  | _, _, _ => false
/-- Operation i against operation j, which is gone through ahead. -/
def pairP (i : Nat) (o : Oper) (j : Nat) (q : Oper) (c : Bool) : Bool := match c with
  | false => true
  | true => match q.dst with
    | none => false
    | some e => match Nat.beq i j with
      | true => !memB e (tmpsOf o.op.operands.toList)
      | false => (match o.dst with | none => true | some d => !Nat.beq d e) && (!memB e (tmpsOf o.op.operands.toList) || (Nat.blt j i && waits o j))
def guardP (sel : List Bool) (o : Oper) : Bool := match o.guard with
  | none => true
  | some (g, _) => !sel.getD g false || waits o g
def preB (l : List Oper) (sel : List Bool) : Bool := backsB l && allS (fun i o b => guardP sel o && (!b || preKind o) && allS (pairP i o) 0 l sel) 0 l sel
/-- The heap that a read ahead may look at: a nil check none. -/
def hqo (o : Oper) (hq : Hp) : Hp := match o.op with
  | .nilCheck _ => []
  | _ => hq
def preOps (tt : Tab) (nt : Nat) (hq : Hp) : List Oper → List Bool → List (Nat × AV) → (List (Nat × AV) → Prop) → Prop
  | o :: r, b :: bs, tm, K => match b with
    | true => (match o.dst with
      | some d => bif Nat.blt d nt then (match stepA tt o.op ⟨tm, hqo o hq, 0⟩ with
        | .ok v => preOps tt nt hq r bs ((d, v) :: tm) K
        | .cond p v => p ∧ preOps tt nt hq r bs ((d, v) :: tm) K
        | _ => False) else False
      | none => False)
    | false => preOps tt nt hq r bs tm K
  | _, _, tm, K => K tm
/-- The objects that are no lists. -/
def boxesOf (seen : List Nat) : Hp → Hp
  | [] => []
  | (i, .box cs) :: r => match memB i seen with
    | true => boxesOf seen r
    | false => (i, .box cs) :: boxesOf (i :: seen) r
  | (i, .list _ _ _) :: r => boxesOf (i :: seen) r
  | (i, .nest _ _ _) :: r => boxesOf (i :: seen) r
  | (i, .map _ _) :: r => boxesOf (i :: seen) r
  | (i, .ranged _ _ _) :: r => boxesOf (i :: seen) r
  | (i, .clo _ _ _) :: r => boxesOf (i :: seen) r
/-- Operations, each with whether it is known to have been carried out: it was; or one behind it that waits for it was. -/
def relG : Nat → List Oper → List Bool → List Bool → List (Oper × Bool)
  | j, o :: r, b :: bs, l :: ls => match relG (j + 1) r bs ls with
    | t => (o, match b with | true => t.any (fun p => p.2 && waits p.1 j) | false => l) :: t
  | _, _, _, _ => []
/-- What those ahead read and write that may still be to come. -/
def pendTs : List (Oper × Bool) → List Bool → List Nat
  | (o, fl) :: r, b :: bs => match b && !fl with
    | true => (match o.dst with | some d => d :: (tmpsOf o.op.operands.toList ++ pendTs r bs) | none => pendTs r bs)
    | false => pendTs r bs
  | _, _ => []
/-- Looks at no object. -/
def noHpB (o : Oper) : Bool := match o.op with
  | .fieldAddr _ _ _ => true
  | .nilCheck _ => true
  | .move _ => true
  | _ => false
def anyPend : List (Oper × Bool) → List Bool → Bool
  | (q, fl) :: r, b :: bs => (b && !fl && !noHpB q) || anyPend r bs
  | _, _ => false
/-- Where the pointers lead that the calls are handed. -/
def chase (l : List Oper) : Nat → Nat → Nat
  | 0, t => t
  | f + 1, t => match l.find? (fun o => match o.dst with | some d => Nat.beq d t | none => false) with
    | some o => (match o.op with
      | .move (.tmp t') => chase l f t'
      | .nilCheck (.tmp t') => chase l f t'
      | _ => t)
    | none => t
def ptIds (tm : List (Nat × AV)) (l : List Oper) : List Nat → List Nat
  | [] => []
  | t :: r => match look tm (chase l 8 t) with
    | some (.pt id _ _) => id :: ptIds tm l r
    | _ => ptIds tm l r
def callIds (tm : List (Nat × AV)) (l : List Oper) : List Oper → List Nat
  | [] => []
  | o :: r => match isCallB o with
    | true => ptIds tm l (tmpsOf o.op.operands.toList) ++ callIds tm l r
    | false => callIds tm l r
/-- A slice literal that goes into another literal: it is read from then on. -/
def isLitB (o : Oper) : Bool := match o.op with
  | .buildSlice _ _ _ => true
  | _ => false
def inLitB (d : Nat) : List Oper → Bool
  | [] => false
  | q :: r => (match q.op with
    | .build _ _ => memB d (tmpsOf q.op.operands.toList)
    | .buildSlice _ _ _ => memB d (tmpsOf q.op.operands.toList)
    | _ => false) || inLitB d r
def litB (l : List Oper) (o : Oper) : Bool := match o.dst with
  | some d => isLitB o && inLitB d l
  | none => false
def litOp (tt : Tab) (nt : Nat) (o : Oper) (s : St) (K : St → Prop) : Prop :=
  match s with
  | ⟨tm, hp, nx⟩ => match o.dst with
    | some d => bif Nat.blt d nt then (match stepA tt o.op ⟨tm, hp, 0⟩ with
      | .newL0 len (.list _ _ rows) => K ⟨(d, .lst (rows.take len)) :: tm, hp, nx⟩
      | _ => False) else False
    | none => False
def preStep (tt : Tab) (P : Program) (nt : Nat) (fx : List Nat) (ops : Array Oper) (o : Oper) (s : St) (K : St → Prop) : Prop :=
  bif litB ops.toList o then litOp tt nt o s K else runOp tt P nt fx o s K
structure Keep (X Y : Prop) : Prop where
  l : X
  r : Y
def keepTm (tm0 tm : List (Nat × AV)) : List Nat → Prop
  | [] => True
  | t :: r => look tm t = look tm0 t ∧ keepTm tm0 tm r
def keepHp (hp : Hp) : Hp → Prop
  | [] => True
  | (i, o) :: r => look hp i = some o ∧ keepHp hp r
def keepP (tm0 : List (Nat × AV)) (hq : Hp) (sel : List Bool) (fl : List (Oper × Bool)) (s : St) : Prop := keepTm tm0 s.tm (pendTs fl sel) ∧ (match anyPend fl sel with
  | true => keepHp s.hp hq
  | false => True)
def brutePre (tt : Tab) (P : Program) (nt : Nat) (fx : List Nat) (ops : Array Oper) (tm0 : List (Nat × AV)) (sel : List Bool) (hq : Hp) : Nat → List Bool → St → (St → Prop) → Prop
  | 0, listed, s, K => match readyL listed 0 ops.toList listed with
    | [] => K s
    | _ :: _ => False
  | f + 1, listed, s, K => match readyL listed 0 ops.toList listed with
    | [] => K s
    | i :: r => allR (i :: r) fun i => match ops.toList[i]? with
      | some o => byGuard ops o s (preStep tt P nt fx ops o s fun s' => Keep (keepP tm0 hq sel (relG 0 ops.toList sel (listed.set i true)) s') (brutePre tt P nt fx ops tm0 sel hq f (listed.set i true) s' K)) (skipA nt o s fun s' => Keep (keepP tm0 hq sel (relG 0 ops.toList sel (listed.set i true)) s') (brutePre tt P nt fx ops tm0 sel hq f (listed.set i true) s' K))
      | none => False
def runPre (tt : Tab) (P : Program) (nt : Nat) (fx : List Nat) (ops : Array Oper) (sel : List Bool) (s : St) (K : St → Prop) : Prop :=
  preOps tt nt (boxesOf (callIds s.tm ops.toList ops.toList) s.hp) ops.toList sel s.tm fun tm => brutePre tt P nt fx ops tm sel (boxesOf (callIds s.tm ops.toList ops.toList) s.hp) (sizeL ops.toList) sel ⟨tm, s.hp, s.nx⟩ K
def isStB (o : Oper) : Bool := match o.op with
  | .store _ _ _ => true
  | _ => false
def countSt : List Oper → Nat
  | [] => 0
  | o :: r => match isStB o with
    | true => countSt r + 1
    | false => countSt r
/-- Two calls whose answers go into two variables, or into two fields; one whose answer goes into a field of a row, or into a row that is appended. -/
def countCl : List Oper → Nat
  | [] => 0
  | o :: r => match isCallB o with
    | true => countCl r + 1
    | false => countCl r
def countAs : List Oper → Nat
  | [] => 0
  | o :: r => match o.op with
    | .assign _ => countAs r + 1
    | _ => countAs r
def twoB (l : List Oper) : Bool := (Nat.ble 2 (countCl l) && Nat.ble 2 (countAs l) && Nat.ble (sizeL l) 8) || (Nat.ble 2 (countCl l) && Nat.ble (countCl l) 2 && Nat.ble 2 (countSt l) && Nat.ble (sizeL l) 10 && Nat.ble (countAs l) 0) || (Nat.beq (countCl l) 1 && Nat.beq (countSt l) 1 && Nat.beq (sizeL l) 9 && Nat.ble (countAs l) 0) || (Nat.beq (countCl l) 1 && Nat.beq (countSt l) 1 && Nat.beq (countApp l) 1 && Nat.beq (sizeL l) 10) || (Nat.beq (countCl l) 2 && Nat.beq (countSt l) 1 && Nat.beq (sizeL l) 12 && Nat.ble (countAs l) 0)
def mkB : List Oper → Bool
  | [] => false
  | o :: r => match o.op with
    | .makeSlice _ _ _ => true
    | _ => mkB r
def useB (tt : Tab) (l : List Oper) : Bool := (Nat.ble 1 (countApp l) && Nat.ble 1 (countSt l) && Nat.ble 11 (sizeL l)) || Nat.ble 2 (countApp l) || twoB l || (Nat.ble 2 (countSt l) && Nat.ble 12 (sizeL l)) || (!noPtr tt l && Nat.ble 7 (sizeL l)) || (mkB l && Nat.ble 6 (sizeL l))
/-- Which reads go ahead: those that wait for no write or call and can be carried out. -/
def preDyn (tt : Tab) (nt : Nat) (hq : Hp) : List Nat → List Oper → List (Nat × AV) → (List Bool → List (Nat × AV) → Prop) → Prop
  | _, [], tm, K => K [] tm
  | late, o :: r, tm, K => match o.dst with
    | none => preDyn tt nt hq late r tm fun l t => K (false :: l) t
    | some d => match preKind o && offAll late (tmpsOf o.op.operands.toList) with
      | true => bif Nat.blt d nt then (match stepA tt o.op ⟨tm, hqo o hq, 0⟩ with
        | .ok v => preDyn tt nt hq late r ((d, v) :: tm) fun l t => K (true :: l) t
        | .cond p v => p ∧ preDyn tt nt hq late r ((d, v) :: tm) fun l t => K (true :: l) t
        | _ => preDyn tt nt hq (d :: late) r tm fun l t => K (false :: l) t) else False
      | false => preDyn tt nt hq (d :: late) r tm fun l t => K (false :: l) t
theorem preDyn_mono {tt : Tab} {nt : Nat} {hq : Hp} : ∀ {l : List Oper} {late : List Nat} {tm : List (Nat × AV)} {K K' : List Bool → List (Nat × AV) → Prop}, (∀ sel t, K sel t → K' sel t) → preDyn tt nt hq late l tm K → preDyn tt nt hq late l tm K'
  | [], _, _, K, K', hK, h => hK _ _ h
  | o :: r, late, tm, K, K', hK, h => by
    simp only [preDyn] at *
    cases hd : o.dst with
    | none => simp only [hd] at *; exact preDyn_mono (fun l => hK _) h
    | some d =>
      simp only [hd] at *
      cases hb : preKind o && offAll late (tmpsOf o.op.operands.toList) with
      | false => simp only [hb] at *; exact preDyn_mono (fun l => hK _) h
      | true =>
        simp only [hb] at *
        cases hn : Nat.blt d nt with
        | false => simp [hn] at h
        | true =>
          simp only [hn, cond_true] at *
          cases hs : stepA tt o.op ⟨tm, hqo o hq, 0⟩ with
          | cond p v => simp only [hs] at *; exact ⟨h.1, preDyn_mono (fun l => hK _) h.2⟩
          | _ => simp only [hs] at *; exact preDyn_mono (fun l => hK _) h
theorem preDyn_ex {tt : Tab} {nt : Nat} {hq : Hp} : ∀ {l : List Oper} {late : List Nat} {tm : List (Nat × AV)} {K : List Bool → List (Nat × AV) → Prop}, preDyn tt nt hq late l tm K → ∃ sel, preOps tt nt hq l sel tm (K sel)
  | [], _, tm, K, h => ⟨[], by simp only [preOps]; exact h⟩
  | o :: r, late, tm, K, h => by
    have up : ∀ {late : List Nat}, preDyn tt nt hq late r tm (fun l => K (false :: l)) → ∃ sel, preOps tt nt hq (o :: r) sel tm (K sel) := fun h => (preDyn_ex h).elim fun l h => ⟨false :: l, by simpa only [preOps] using h⟩
    simp only [preDyn] at h
    cases hd : o.dst with
    | none => simp only [hd] at h; exact up h
    | some d =>
      simp only [hd] at h
      cases hb : preKind o && offAll late (tmpsOf o.op.operands.toList) with
      | false => simp only [hb] at h; exact up h
      | true =>
        simp only [hb] at h
        cases hn : Nat.blt d nt with
        | false => simp [hn] at h
        | true =>
          simp only [hn, cond_true] at h
          cases hs : stepA tt o.op ⟨tm, hqo o hq, 0⟩ with
          | ok v => simp only [hs] at h; obtain ⟨l, h⟩ := preDyn_ex h; exact ⟨true :: l, by simp only [preOps, hd, hn, cond_true, hs]; exact h⟩
          | cond p v => simp only [hs] at h; obtain ⟨l, h2⟩ := preDyn_ex h.2; exact ⟨true :: l, by simp only [preOps, hd, hn, cond_true, hs]; exact ⟨h.1, h2⟩⟩
          | _ => simp only [hs] at h; exact up h
theorem preOps_const {tt : Tab} {nt : Nat} {hq : Hp} {X : Prop} : ∀ {l : List Oper} {bs : List Bool} {tm : List (Nat × AV)}, preOps tt nt hq l bs tm (fun _ => X) → X
  | [], _, _, h => by simpa only [preOps] using h
  | o :: r, [], _, h => by simpa only [preOps] using h
  | o :: r, b :: bs, tm, h => by
    cases b with
    | false => simp only [preOps] at h; exact preOps_const h
    | true =>
      simp only [preOps] at h
      cases hd : o.dst with
      | none => simp [hd] at h
      | some d =>
        simp only [hd] at h
        cases hn : Nat.blt d nt with
        | false => simp [hn] at h
        | true =>
          simp only [hn, cond_true] at h
          cases hs : stepA tt o.op ⟨tm, hqo o hq, 0⟩ with
          | ok v => simp only [hs] at h; exact preOps_const h
          | cond p v => simp only [hs] at h; exact preOps_const h.2
          | _ => simp [hs] at h
def runRest (tt : Tab) (P : Program) (nt : Nat) (fx : List Nat) (ops : Array Oper) (s : St) (K : St → Prop) : Prop :=
  bif useB tt ops.toList then preDyn tt nt (boxesOf (callIds s.tm ops.toList ops.toList) s.hp) [] ops.toList s.tm (fun sel tm => bif preB ops.toList sel then brutePre tt P nt fx ops tm sel (boxesOf (callIds s.tm ops.toList ops.toList) s.hp) (sizeL ops.toList) sel ⟨tm, s.hp, s.nx⟩ K
    else bruteA tt P nt fx ops (sizeL ops.toList) (falses ops.toList) s K)
    else bruteA tt P nt fx ops (sizeL ops.toList) (falses ops.toList) s K
def writeAt : Nat → List Oper → Nat
  | i, [] => i
  | i, o :: r => match writesB o with
    | true => i
    | false => writeAt (i + 1) r
def countGu : List Oper → Nat
  | [] => 0
  | o :: r => match o.guard with
    | some _ => countGu r + 1
    | none => countGu r
/-- Two calls, one of them with much that is guarded: calls by what is only read. -/
def guB (l : List Oper) : Bool := Nat.ble 2 (countCl l) && Nat.ble (countCl l) 2 && Nat.ble 10 (countGu l)
/-- Where much stands behind the last call that all wait for, the quiet part goes on to the first that writes. -/
def cutFar (tt : Tab) (l : List Oper) : Nat := match cutAt [] 0 none l with
  | b => match writeAt 0 l with
    | i => bif Nat.ble (b + 9) i && (anyB (oneMd (l.take i)) l i && (noPtr tt (l.take i) || guB l)) then i else b
def runDraw (tt : Tab) (P : Program) (nt : Nat) (fx : List Nat) (ops : Array Oper) (s : St) (K : St → Prop) : Prop :=
  match cutFar tt ops.toList with
  | t => bif (anyB (oneMd (ops.toList.take t)) ops.toList t && (noPtr tt (ops.toList.take t) || guB ops.toList)) && !twoB ops.toList then qOps tt P nt s.hp (oneMd (ops.toList.take t)) ops (ops.toList.take t) s (fun s' => bruteA tt P nt fx ops (sizeL (ops.toList.drop t)) (trues (sizeL (ops.toList.take t)) ++ falses (ops.toList.drop t)) s' K)
    else bif heapB tt ops.toList t then qOpsH tt P nt fx s.hp ops (ops.toList.take t) [] s (fun s' => bruteA tt P nt fx ops (sizeL (ops.toList.drop t)) (trues (sizeL (ops.toList.take t)) ++ falses (ops.toList.drop t)) s' K)
    else runRest tt P nt fx ops s K

def run (tt : Tab) (P : Program) (nt : Nat) (fx : List Nat) : Code → St → (Exit → St → Prop) → Prop
  | .skip, s, Q => Q .normal s
  | .label _, s, Q => Q .normal s
  | .region id ops draw, s, Q => match draw with
    | false => runOps tt P nt fx ops ops.toList s (Q .normal)
    | true => runDraw tt P nt fx ops s (Q .normal)
  | .seq x y, s, Q => run tt P nt fx x s fun e s' => match e with
    | .normal => run tt P nt fx y s' Q
    | e => Q e s'
  | .cond c x y, s, Q => match opnd s.tm c with
    | some (.val (.bool b)) => CondP b (run tt P nt fx x s Q) (run tt P nt fx y s Q)
    | _ => False
  | .block id c, s, Q => run tt P nt fx c s fun e s' => match e with
    | .exit i => bif Nat.beq i id then Q .normal s' else Q (.exit i) s'
    | e => Q e s'
  | .loop c, s, Q => LoopP fx (run tt P nt fx c) s Q
  | .exit id, s, Q => Q (.exit id) s
  | .goto l, s, Q => Q (.goto l) s
  | .ret, s, Q => Q .ret s
  | _, _, _ => False

end Go.Am
