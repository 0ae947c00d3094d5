/-
  CALLS: what a function is said to do, and what that is for its caller.
-/
import Derived.Test.YtdnanpokaanhdaaDoorAm6
namespace Go.Am
open Go.RowKit
set_option linter.unusedVariables false
set_option linter.unusedSimpArgs false

variable {E : Env} {s : St} {a : Act} {w : World} {ι : Loc} {S : Nat → Prop} {tt : Tab}

theorem look_append {α : Type} (i : Nat) : ∀ (l m : List (Nat × α)), look (l ++ m) i = match look l i with | some v => some v | none => look m i
  | [], m => rfl
  | (k, v) :: l, m => by
    rw [List.cons_append, look_cons, look_cons]
    split
    · rfl
    · exact look_append i l m

abbrev Hp := List (Nat × AObj)
def inH (h : Hp) (i : Nat) : Prop := look h i ≠ none

/-- The places that lead into the objects: the objects' own, and those below own lists of own lists. -/
def placeB (hi : Hp) (k : Key) : Bool := match look hi k.id with
  | none => false
  | some (.nest _ _ _) => true
  | some (.ranged _ _ _) => true
  | some _ => (match k.path with | [] => true | _ :: _ => false)
theorem placeB_in {hi : Hp} {k : Key} (h : placeB hi k = true) : inH hi k.id := by
  intro e; unfold placeB at h; rw [e] at h; cases h
theorem placeB_root {hi : Hp} {id : Nat} (h : inH hi id) : placeB hi ⟨id, []⟩ = true := by
  unfold placeB
  cases hl : look hi id with
  | none => exact absurd hl h
  | some o => cases o <;> rfl
theorem placeB_nest {hi : Hp} {k : Key} {o : AObj} (h : look hi k.id = some o) (hn : o.isNest = true) : placeB hi k = true := by
  unfold placeB; rw [h]
  cases o <;> first | rfl | simp [AObj.isNest] at hn
theorem placeB_off {hi : Hp} {k : Key} (h : look hi k.id = none) : placeB hi k = false := by
  unfold placeB; rw [h]
/-- The lists among the objects. -/
def lids : Hp → List Nat
  | [] => []
  | (i, .list ..) :: r => i :: lids r
  | (i, .nest ..) :: r => i :: lids r
  | (_, .box _) :: r => lids r
  | (i, .map ..) :: r => i :: lids r
  | (i, .ranged ..) :: r => i :: lids r
  | (i, .clo ..) :: r => i :: lids r
theorem memB_cons (i k : Nat) (r : List Nat) : memB i (k :: r) = if i = k then true else memB i r := by
  simp only [memB]
  cases hb : Nat.beq i k with
  | true => rw [if_pos (Nat.eq_of_beq_eq_true hb)]; rfl
  | false => rw [if_neg (fun e => by subst e; simp at hb)]; rfl
theorem lids_list {i : Nat} : ∀ {h : Hp} {e s : Nat} {rows : List (List AV)}, look h i = some (.list e s rows) → memB i (lids h) = true
  | [], _, _, _, h => by simp [look] at h
  | (k, o) :: r, e, s, rows, h => by
    rw [look_cons] at h
    split at h
    · rename_i hk
      subst hk
      simp at h
      subst h
      simp [lids, memB_cons]
    · have := lids_list h
      cases o with
      | box cs => exact this
      | map => simp only [lids, memB_cons]; split <;> first | rfl | exact this
      | ranged => simp only [lids, memB_cons]; split <;> first | rfl | exact this
      | clo => simp only [lids, memB_cons]; split <;> first | rfl | exact this
      | list => simp only [lids, memB_cons]; split <;> first | rfl | exact this
      | nest => simp only [lids, memB_cons]; split <;> first | rfl | exact this
theorem lids_nest {i : Nat} {b : Bool} : ∀ {h : Hp} {e s : Nat} {rows : List (List AV)}, look h i = some (@AObj.nest b e s rows) → memB i (lids h) = true
  | [], _, _, _, h => by simp [look] at h
  | (k, o) :: r, e, s, rows, h => by
    rw [look_cons] at h
    split at h
    · rename_i hk
      subst hk
      simp only [Option.some.injEq] at h
      subst h
      simp [lids, memB_cons]
    · have := lids_nest h
      cases o with
      | box cs => exact this
      | map => simp only [lids, memB_cons]; split <;> first | rfl | exact this
      | ranged => simp only [lids, memB_cons]; split <;> first | rfl | exact this
      | clo => simp only [lids, memB_cons]; split <;> first | rfl | exact this
      | list => simp only [lids, memB_cons]; split <;> first | rfl | exact this
      | nest => simp only [lids, memB_cons]; split <;> first | rfl | exact this
theorem lids_map {i : Nat} : ∀ {h : Hp} {ks : List KK} {rows : List (List KV × AV)}, look h i = some (.map ks rows) → memB i (lids h) = true
  | [], _, _, h => by simp [look] at h
  | (k, o) :: r, ks, rows, h => by
    rw [look_cons] at h
    split at h
    · rename_i hk
      subst hk
      simp only [Option.some.injEq] at h
      subst h
      simp [lids, memB_cons]
    · have := lids_map h
      cases o with
      | box cs => exact this
      | map => simp only [lids, memB_cons]; split <;> first | rfl | exact this
      | ranged => simp only [lids, memB_cons]; split <;> first | rfl | exact this
      | clo => simp only [lids, memB_cons]; split <;> first | rfl | exact this
      | list => simp only [lids, memB_cons]; split <;> first | rfl | exact this
      | nest => simp only [lids, memB_cons]; split <;> first | rfl | exact this
theorem lids_ranged {i : Nat} : ∀ {h : Hp} {ks : List KK} {cur : Option (List KV × AV)} {rows : List (List KV × AV)}, look h i = some (.ranged ks cur rows) → memB i (lids h) = true
  | [], _, _, _, h => by simp [look] at h
  | (k, o) :: r, ks, cur, rows, h => by
    rw [look_cons] at h
    split at h
    · rename_i hk
      subst hk
      simp only [Option.some.injEq] at h
      subst h
      simp [lids, memB_cons]
    · have := lids_ranged h
      cases o with
      | box cs => exact this
      | map => simp only [lids, memB_cons]; split <;> first | rfl | exact this
      | ranged => simp only [lids, memB_cons]; split <;> first | rfl | exact this
      | clo => simp only [lids, memB_cons]; split <;> first | rfl | exact this
      | list => simp only [lids, memB_cons]; split <;> first | rfl | exact this
      | nest => simp only [lids, memB_cons]; split <;> first | rfl | exact this
theorem lids_clo {i : Nat} : ∀ {h : Hp} {f : Nat} {fs cs : List AV}, look h i = some (.clo f fs cs) → memB i (lids h) = true
  | [], _, _, _, h => by simp [look] at h
  | (k, o) :: r, f, fs, cs, h => by
    rw [look_cons] at h
    split at h
    · rename_i hk
      subst hk
      simp only [Option.some.injEq] at h
      subst h
      simp [lids, memB_cons]
    · have := lids_clo h
      cases o with
      | box cs => exact this
      | map => simp only [lids, memB_cons]; split <;> first | rfl | exact this
      | ranged => simp only [lids, memB_cons]; split <;> first | rfl | exact this
      | clo => simp only [lids, memB_cons]; split <;> first | rfl | exact this
      | list => simp only [lids, memB_cons]; split <;> first | rfl | exact this
      | nest => simp only [lids, memB_cons]; split <;> first | rfl | exact this
theorem lids_in {i : Nat} : ∀ {h : Hp}, memB i (lids h) = true → inH h i
  | [], h => by simp [lids, memB] at h
  | (k, o) :: r, h => by
    unfold inH
    rw [look_cons]
    split
    · simp
    · rename_i hk
      cases o with
      | box cs => exact lids_in (h := r) h
      | map =>
        simp only [lids, memB_cons] at h
        rw [if_neg (fun e => hk e.symm)] at h
        exact lids_in (h := r) h
      | ranged =>
        simp only [lids, memB_cons] at h
        rw [if_neg (fun e => hk e.symm)] at h
        exact lids_in (h := r) h
      | clo =>
        simp only [lids, memB_cons] at h
        rw [if_neg (fun e => hk e.symm)] at h
        exact lids_in (h := r) h
      | list =>
        simp only [lids, memB_cons] at h
        rw [if_neg (fun e => hk e.symm)] at h
        exact lids_in (h := r) h
      | nest =>
        simp only [lids, memB_cons] at h
        rw [if_neg (fun e => hk e.symm)] at h
        exact lids_in (h := r) h

def flatC : AV → Bool
  | .val _ => true
  | .own _ _ => true
  | .pt _ _ _ => true
  | .junk => true
  | .mp _ => true
  | .clo _ => true
  | _ => false
def flatA : AV → Bool
  | .agg cs => cs.all flatC
  | a => flatC a
def flatV : AV → Bool
  | .tup vs => vs.all flatA
  | a => flatA a
def valB : AV → Bool
  | .val _ => true
  | _ => false
/-- An inner list of numbers and of such lists. -/
inductive FlatT : AV → Prop
  | val (v : Value) : FlatT (.val v)
  | tree (e s : Nat) (rows : List (List AV)) (h : ∀ c ∈ rows.flatten, FlatT c) : FlatT (.tree e s rows)
def flatO : AObj → Prop
  | .box cs => cs.all flatC = true
  | .list _ _ rows => ∀ r ∈ rows, ∀ c ∈ r, ∃ v, c = .val v
  | .nest _ _ rows => ∀ c ∈ rows.flatten, flatC c = true ∨ FlatT c
  | .map _ rows => ∀ r ∈ rows, flatA r.2 = true
  | .ranged _ cur left => (∀ r ∈ left, flatA r.2 = true) ∧ ∀ r, cur = some r → flatA r.2 = true
  | .clo _ fs cs => fs.all flatC = true ∧ cs.all flatC = true
theorem Tr.flat {S' : Nat → Prop} {ι' : Loc} (hι : ∀ id p, ι id = some p → ι' id = some p) {k : Key} {v : Value} {a : AV} (h : Tr w S ι k v a) : FlatT a → Tr w S' ι' k v a := by
  induction h with
  | rd h =>
    intro hf
    cases hf with
    | val u => cases h with | val _ h => exact .rd (.val _ h)
    | tree => cases h
  | nil k e s hs => exact fun _ => .nil k e s hs
  | tree k g cap e s rows vs h hs hr hl hm hw hn hc ih =>
    intro hf
    cases hf with
    | tree _ _ _ hf => exact .tree k g cap e s rows vs (hι _ _ h) hs hr hl hm hw hn fun i v a hv ha => ih i v a hv ha (hf a (List.mem_of_getElem? ha))

theorem CRel.flat {S' : Nat → Prop} {ι' : Loc} (hι : ∀ id p, ι id = some p → ι' id = some p) {v : Value} {a : AV} (hf : flatC a = true) (h : CRel w S ι v a) : CRel w S' ι' v a := by
  cases h with
  | rd h => cases h with
    | val v h => exact .rd (.val v h)
    | _ => simp [flatC] at hf
  | own id len g cap s h h1 h2 => exact .own id len g cap s (hι _ _ h) h1 h2
  | own0 id h => exact .own0 id (hι _ _ h)
  | pt id row off g c s h => exact .pt id row off g c s (hι _ _ h)
  | junk v h => exact .junk v h
  | mp id g h => exact .mp id g (hι _ _ h)
  | clo id v h h1 => exact .clo id v (hι _ _ h) h1
  | rp => simp [flatC] at hf
  | sb => simp [flatC] at hf
  | sb0 => simp [flatC] at hf
theorem ARel.flat {S' : Nat → Prop} {ι' : Loc} (hι : ∀ id p, ι id = some p → ι' id = some p) {v : Value} {a : AV} (hf : flatA a = true) (h : ARel w S ι v a) : ARel w S' ι' v a := by
  cases h with
  | cell h =>
    have : flatC a = true := by
      cases a with
      | agg cs => exact absurd rfl (h.not_agg.1 _)
      | _ => exact hf
    exact .cell (h.flat hι this)
  | agg vs cs h => exact .agg vs cs (All2.of h.length fun i v c hv hc => (h.at hv hc).flat hι (List.all_eq_true.1 hf c (List.mem_of_getElem? hc)))
theorem VRel.flat {S' : Nat → Prop} {ι' : Loc} (hι : ∀ id p, ι id = some p → ι' id = some p) {v : Value} {a : AV} (hf : flatV a = true) (h : VRel w S ι v a) : VRel w S' ι' v a := by
  cases h with
  | one h =>
    have : flatA a = true := by
      cases a with
      | tup vs => cases h with | cell h => exact absurd rfl (h.not_agg.2 _)
      | _ => exact hf
    exact .one (h.flat hι this)
  | tup vs cs h => exact .tup vs cs (All2.of h.length fun i v c hv hc => (h.at hv hc).flat hι (List.all_eq_true.1 hf c (List.mem_of_getElem? hc)))
  | any v => exact .any v
theorem ObjOk.flat {S' : Nat → Prop} {ι' : Loc} (hι : ∀ id p, ι id = some p → ι' id = some p) {i : Nat} {o : AObj} (hf : flatO o) (h : ObjOk w S ι i o) : ObjOk w S' ι' i o := by
  cases h with
  | box g c s T cs vs h h0 hw hc => exact .box g c s T cs vs (hι _ _ h) h0 hw (All2.of hc.length fun i v c hv hc' => (hc.at hv hc').flat hι (List.all_eq_true.1 hf c (List.mem_of_getElem? hc')))
  | nil e s h hs => exact .nil e s (hι _ _ h) hs
  | list g cap e s rows vs h hs hr hl hm hw hn hc =>
    refine .list g cap e s rows vs (hι _ _ h) hs hr hl hm hw hn fun i v c hv ha => ?_
    obtain ⟨r, hr', hcr⟩ := List.mem_flatten.1 (List.mem_of_getElem? ha)
    obtain ⟨u, rfl⟩ := hf r hr' c hcr
    have := hc i v _ hv ha
    cases this with
    | val v h => exact .val v h
  | map g clock ks rows es h hw he hb =>
    refine .map g clock ks rows es (hι _ _ h) hw (All2.of he.length fun i e r hv hr => ?_) hb
    exact ⟨(he.at hv hr).key, (he.at hv hr).val.flat (fun _ _ h => by cases h) (hf r (List.mem_of_getElem? hr))⟩
  | ranged g gm clock ks cur left seen es h h2 hw hm hb hl hc =>
    refine .ranged g gm clock ks cur left seen es (hι _ _ h) (hι _ _ h2) hw hm hb (All2.of hl.length fun i e r hv hr => ?_) fun r hr => ?_
    · exact ⟨(hl.at hv hr).key, (hl.at hv hr).val.flat (fun _ _ h => by cases h) (hf.1 r (List.mem_of_getElem? hr))⟩
    · obtain ⟨e, h1, h2, h3⟩ := hc r hr
      exact ⟨e, h1, h2, h3.key, h3.val.flat (fun _ _ h => by cases h) (hf.2 r hr)⟩
  | clo f fs cs us vs h h1 h2 =>
    exact .clo f fs cs us vs (hι _ _ h) (All2.of h1.length fun i v c hv hc' => (h1.at hv hc').flat hι (List.all_eq_true.1 hf.1 c (List.mem_of_getElem? hc'))) (All2.of h2.length fun i v c hv hc' => (h2.at hv hc').flat hι (List.all_eq_true.1 hf.2 c (List.mem_of_getElem? hc')))
  | nest0 e s h hs => exact .nest0 e s (hι _ _ h) hs
  | nest g cap e s rows vs h hs hr hl hm hw hn hc =>
    refine .nest g cap e s rows vs (hι _ _ h) hs hr hl hm hw hn fun i v c hv ha => ?_
    rcases hf c (List.mem_of_getElem? ha) with h1 | h1
    · rcases hc i v c hv ha with ⟨h0, hx⟩ | hx
      · exact .inl ⟨h0, hx.flat hι h1⟩
      · cases hx with
        | rd hx =>
          cases hx with
          | val _ h => exact .inr (.rd (.val _ h))
          | _ => simp [flatC] at h1
        | _ => simp [flatC] at h1
    · rcases hc i v c hv ha with ⟨h0, hx⟩ | hx
      · cases h1 with
        | val u => exact .inl ⟨h0, hx.flat hι rfl⟩
        | tree => cases hx with | rd hx => cases hx
      · exact .inr (hx.flat hι h1)

/-- What is said of a function: called so, it ends so. -/
structure Ret (P : Program) (f : FuncId) (args : List AV) (hi : Hp) (n : Nat) (st : Bool) (Q : AV → Hp → Nat → Prop) : Prop where
  enter : ∀ args w, (callFunc f args).run P w = .ok (.enter f args) w
  calls : ∀ (w : World) (ι : Loc) (A : Nat → Prop) (vs : List Value), Core ⟨P, w, Mut ι, A, 0, fun _ => none, [0]⟩ ι A hi n w → (∀ k : Key, placeB hi k = false → ι k = none) → All2 (VRel w A ι) vs args →
    (∀ x ∈ args, x.uses (inH hi)) → (∀ id o, look hi id = some o → o.uses (inH hi)) →
    Calls P f vs.toArray w fun e w' => ∃ v r ho m ι' S', e = .returned v ∧ Q r ho m ∧ n ≤ m ∧ Core ⟨P, w, Mut ι, A, 0, fun _ => none, [0]⟩ ι' S' ho m w' ∧ (∀ k : Key, look ho k.id = none → ι' k = none) ∧
      VRel w' S' ι' v r ∧ r.uses (inH ho) ∧ (∀ id o, look ho id = some o → o.uses (inH ho)) ∧ (∀ id, inH hi id → inH ho id) ∧ (∀ id, inH ho id → inH hi id ∨ n ≤ id) ∧
      (∀ (id : Nat) o p, look hi id = some o → (st = true ∨ ∃ cs, o = .box cs) → ι ⟨id, []⟩ = some p → ι' ⟨id, []⟩ = some p)

/-- The world behind a call, for the caller. -/
theorem Core.call {hp hi ho : Hp} {nx m : Nat} {w' : World} {A S' : Nat → Prop} {ιc ι' : Loc} {nt : Nat} {ks : List Nat} (hC : Core E ι S hp nx w) (hιc : ∀ k : Key, ιc k = ι k ∨ (ιc k = none ∧ placeB hi k = false)) (hιi : ∀ k : Key, placeB hi k = false → ιc k = none)
    (hC' : Core ⟨E.P, w, Mut ιc, A, nt, fun _ => none, [0]⟩ ι' S' ho m w') (hnm : nx ≤ m) (hdom : ∀ k : Key, look ho k.id = none → ι' k = none) (hio : ∀ id, inH hi id → inH ho id) (hoi : ∀ id, inH ho id → inH hi id ∨ nx ≤ id)
    (hks : ∀ id, memB id ks = true → inH hi id) (hkeep : ∀ (id : Nat) p, inH hi id → memB id ks = false → ιc ⟨id, []⟩ = some p → ι' ⟨id, []⟩ = some p)
    (hfx : ∀ id, memB id ks = true → memB id E.fx = false) (hback : (∀ b, A b → S b) ∨ ∀ id o, look ho id = some o → flatO o) :
    let ιn : Loc := fun k => match look ho k.id with | some _ => ι' k | none => ι k
    let Sn : Nat → Prop := fun b => S b ∨ (w.heap.size ≤ b ∧ S' b)
    Core E ιn Sn (ho ++ killH ks hp) m w' ∧ Later w w' S Sn ι ιn (fun i => i < nx ∧ memB i ks = false) ∧ (∀ (k : Key) p, ι' k = some p → ιn k = some p) ∧ ((∀ b, A b → S b) → ∀ b, S' b → Sn b) := by
  intro ιn Sn
  have nin : ∀ id : Key, inH ho id.id → ιn id = ι' id := by
    intro id h
    show (match look ho id.id with | some _ => ι' id | none => ι id) = ι' id
    cases hl : look ho id.id with
    | none => exact absurd hl h
    | some _ => rfl
  have nout : ∀ id : Key, ¬ inH ho id.id → ιn id = ι id := by
    intro id h
    have hl : look ho id.id = none := Classical.not_not.1 h
    show (match look ho id.id with | some _ => ι' id | none => ι id) = ι id
    rw [hl]
  have mutc : ∀ g, Mut ιc g → ∃ (id : Key) (c s : Nat), inH hi id.id ∧ ι id = some (.blk g c s) := by
    rintro g ⟨id, c, s, h⟩
    cases hin : placeB hi id with
    | true =>
      rcases hιc id with e | ⟨e, _⟩
      · exact ⟨id, c, s, placeB_in hin, by rw [← e]; exact h⟩
      · rw [e] at h; cases h
    | false => rw [hιi id hin] at h; cases h
  have hblk : ∀ b, b < w.heap.size → (∀ (id : Key) c s, inH hi id.id → ι id ≠ some (.blk b c s)) → w'.heap[b]? = w.heap[b]? := fun b hb hn => hC'.frame.block b hb fun hm => by
    obtain ⟨id, c, s, h1, h2⟩ := mutc b hm
    exact hn id c s h1 h2
  have hSb : ∀ b, S b → w'.heap[b]? = w.heap[b]? := fun b hb => hblk b (hC.lt b hb) fun id c s _ e => hC.dis b hb ⟨id, c, s, e⟩
  have up : ∀ (id : Key) p, ι' id = some p → ιn id = some p := by
    intro id p h
    rw [nin id]
    · exact h
    · intro hl; rw [hdom id hl] at h; cases h
  have hL : Later w w' S Sn ι ιn (fun i => i < nx ∧ memB i ks = false) := by
    refine ⟨fun b hb => ⟨.inl hb, hSb b hb⟩, fun id p hid h => ?_⟩
    by_cases hin : inH ho id
    · have hin' : inH hi id := (hoi id hin).resolve_right (by omega)
      rw [nin ⟨id, []⟩ hin]
      rcases hιc ⟨id, []⟩ with e | ⟨_, e⟩
      · exact hkeep id p hin' hid.2 (by rw [e]; exact h)
      · rw [placeB_root hin'] at e; cases e
    · rw [nout ⟨id, []⟩ hin]; exact h
  have hSS : (∀ b, A b → S b) → ∀ b, S' b → Sn b := fun hA b hb => by
    rcases hC'.sub b hb with h | h
    · exact .inl (hA b h)
    · exact .inr ⟨h, hb⟩
  refine ⟨⟨?_, ?_, ?_, ?_, ?_, ?_, ?_, ?_, ?_, hC.fxs⟩, hL, up, hSS⟩
  · refine hC.frame.trans hC'.frame fun g hg hm => ?_
    obtain ⟨id, c, s, _, h⟩ := mutc g hm
    rcases (hC.own id g c s h).2 with h' | h'
    · omega
    · exact h'
  · rintro b (hb | ⟨hb, _⟩)
    · exact hC.sub b hb
    · exact .inr (Nat.le_trans hC.frame.size hb)
  · rintro b (hb | ⟨_, hb⟩)
    · exact Nat.lt_of_lt_of_le (hC.lt b hb) hC'.frame.size
    · exact hC'.lt b hb
  · rintro b hb ⟨id, c, s, h⟩
    by_cases hin : inH ho id.id
    · rw [nin id hin] at h
      rcases hb with hb | ⟨_, hb⟩
      · rcases (hC'.own id b c s h).2 with h' | h'
        · have := hC.lt b hb; simp at h'; omega
        · obtain ⟨id', c', s', _, e⟩ := mutc b h'
          exact hC.dis b hb ⟨id', c', s', e⟩
      · exact hC'.dis b hb ⟨id, c, s, h⟩
    · rw [nout id hin] at h
      rcases hb with hb | ⟨hb, _⟩
      · exact hC.dis b hb ⟨id, c, s, h⟩
      · have := (hC.own id b c s h).1; omega
  · intro id g c s h
    by_cases hin : inH ho id.id
    · rw [nin id hin] at h
      have := hC'.own id g c s h
      refine ⟨this.1, ?_⟩
      rcases this.2 with h' | h'
      · exact .inl (Nat.le_trans hC.frame.size h')
      · obtain ⟨id', c', s', _, e⟩ := mutc g h'
        exact (hC.own id' g c' s' e).2
    · rw [nout id hin] at h
      have := hC.own id g c s h
      exact ⟨Nat.lt_of_lt_of_le this.1 hC'.frame.size, this.2⟩
  · have mixed : ∀ (i j : Key) g c d s r, inH ho i.id → ¬ inH ho j.id → ι' i = some (.blk g c s) → ι j = some (.blk g d r) → False := by
      intro i j g c d s r hi' hj h1 h2
      rcases (hC'.own i g c s h1).2 with h' | h'
      · have := (hC.own j g _ _ h2).1; simp at h'; omega
      · obtain ⟨id', c', s', hin, e⟩ := mutc g h'
        have := hC.inj id' j g _ _ _ _ e h2
        subst this
        exact hj (hio _ hin)
    intro i j g c d s r h1 h2
    by_cases hi' : inH ho i.id <;> by_cases hj : inH ho j.id
    · rw [nin i hi'] at h1; rw [nin j hj] at h2; exact hC'.inj i j g _ _ _ _ h1 h2
    · rw [nin i hi'] at h1; rw [nout j hj] at h2; exact (mixed i j g _ _ _ _ hi' hj h1 h2).elim
    · rw [nout i hi'] at h1; rw [nin j hj] at h2; exact (mixed j i g _ _ _ _ hj hi' h2 h1).elim
    · rw [nout i hi'] at h1; rw [nout j hj] at h2; exact hC.inj i j g _ _ _ _ h1 h2
  · intro id hid
    by_cases hin : inH ho id.id
    · rw [nin id hin]; exact hC'.new id hid
    · rw [nout id hin]; exact hC.new id (by omega)
  · intro id o h
    rw [look_append] at h
    cases hl : look ho id with
    | some o' =>
      simp only [hl, Option.some.injEq] at h
      subst h
      obtain ⟨h1, h2, h3⟩ := hC'.obj id o' hl
      refine ⟨h1, h2, ?_⟩
      rcases hback with hA | hF
      · exact h3.mono (K := fun _ => True) ⟨fun b hb => ⟨hSS hA b hb, rfl⟩, fun i p _ h => up i p h⟩ trivial (by cases o' with | box cs => exact fun _ _ _ _ => trivial | list => trivial | map => trivial | ranged => trivial | clo => exact ⟨fun _ _ _ _ => trivial, fun _ _ _ _ => trivial⟩ | nest => exact fun _ _ _ _ _ => trivial) (fun _ i p _ h => up i p h) (fun _ _ _ _ _ _ => rfl)
      · exact h3.flat up (hF id o' hl)
    | none =>
      simp only [hl] at h
      rw [look_killH] at h
      simp only [Option.map_eq_some_iff] at h
      obtain ⟨o0, h0, rfl⟩ := h
      obtain ⟨h1, h2, h3⟩ := hC.obj id o0 h0
      have hno : ¬ inH ho id := fun h => h hl
      have hni : ¬ inH hi id := fun h => hno (hio id h)
      have hk : memB id ks = false := by
        cases hm : memB id ks with
        | false => rfl
        | true => exact absurd (hks id hm) hni
      have hw' : ∀ (k : Key) g c s, k.id = id → ι k = some (.blk g c s) → w'.heap[g]? = w.heap[g]? := fun k g c s hk0 e => hblk g (hC.own k g c s e).1 fun id' c' s' hin e' => by
        have := hC.inj id' k g _ _ _ _ e' e
        subst this
        exact hni (hk0 ▸ hin)
      have := h3.kill hL h1 hk h2 (fun _ k q hk0 hq => by rw [nout k (by rw [hk0]; exact hno)]; exact hq) hw'
      refine ⟨by omega, ?_, this.2⟩
      have hu := this.1
      cases hko : killO ks o0 with
      | box cs => rw [hko] at hu; exact fun c hc i hi' => by have := hu c hc i hi'; omega
      | list => trivial
      | map => trivial
      | ranged => trivial
      | clo f fs cs => rw [hko] at hu; exact ⟨fun c hc i hi' => by have := hu.1 c hc i hi'; omega, fun c hc i hi' => by have := hu.2 c hc i hi'; omega⟩
      | nest e s rows => rw [hko] at hu; exact fun h0 c hc i hi' => by have := hu h0 c hc i hi'; omega
  · intro id p h
    have h' := hC.stay id p h
    refine hL.at_ id p ⟨?_, ?_⟩ h'
    · rcases Nat.lt_or_ge id nx with hlt | hge
      · exact hlt
      · rw [hC.new ⟨id, []⟩ hge] at h'; cases h'
    · cases hm : memB id ks with
      | false => rfl
      | true => rw [hC.fxs.1 ⟨id, []⟩ (hfx id hm)] at h; cases h

end Go.Am
