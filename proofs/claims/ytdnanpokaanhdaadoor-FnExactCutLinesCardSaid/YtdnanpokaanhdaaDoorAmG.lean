/-
  CALLS THAT WRITE INTO OBJECTS AND READ OTHERS; functions' own lists, read from then on, where objects came in.
-/
import Derived.Test.YtdnanpokaanhdaaDoorAmF
namespace Go.Am
open Go.RowKit
set_option linter.unusedVariables false
set_option linter.unusedSimpArgs false
theorem cvKeep {hp hi : Hp} {share : Bool} {a : AV} (h : (idsC (keys hi) a && noAgg a) = true) : Cv hp hi share a a := by
  simp only [Bool.and_eq_true] at h
  exact .cell (fun _ e => by rw [e] at h; simp [noAgg] at h) (fun _ e => by rw [e] at h; simp [noAgg] at h) (.refl a (fun id hid => memB_keys.1 (idsC_id h.1 id hid)) (.inr (.inr trivial)))
theorem cvcOwnH {hp hi : Hp} {id e s len : Nat} {rows : List (List AV)} (h : look hp id = some (.list e s rows)) (h1 : look hi id = none) (hl : len = rows.length) : CvC hp hi false (.own id len) (.lst rows) := by
  have := CvC.own (hp := hp) (hi := hi) (share := false) id len e s rows h h1 (by omega) rfl
  rwa [List.take_of_length_le (by omega)] at this
theorem cvOwnH {hp hi : Hp} {id e s len : Nat} {rows : List (List AV)} (h : look hp id = some (.list e s rows)) (h1 : look hi id = none) (hl : len = rows.length) : Cv hp hi false (.own id len) (.lst rows) :=
  .cell (fun _ e => by cases e) (fun _ e => by cases e) (cvcOwnH h h1 hl)
theorem CallP.heapConv {P : Program} {fx : List Nat} {f : FuncId} {avs : List AV} {tm : List (Nat × AV)} {hp : Hp} {nx : Nat} {dst : Option Nat} {K : St → Prop} {hi : Hp} {st : Bool} {args : List AV} {Q : AV → Hp → Nat → Prop} (hret : Ret P f args hi nx st Q) (hcv : All2 (Cv hp hi false) avs args) (hp' : partH hp (keys hi) hi) (hx : offFx fx (killIds st hi) = true)
    (h : ∀ r ho m, Q r ho m → (flatV r = true ∧ flatH ho) ∧ K ⟨setD dst r (killTx (killIds st hi) tm), ho ++ killHx (killIds st hi) hp, m⟩) : CallP P fx f avs ⟨tm, hp, nx⟩ dst K :=
  CallP.plain ⟨args, hi, st, false, Q, hcv, partH_look (fun i hi' => memB_keys.1 hi') hp', hret, offFx_ok hx, fun r ho m hq => ⟨fun _ => ⟨(h r ho m hq).1.1, flatH_look (h r ho m hq).1.2⟩, (h r ho m hq).2⟩⟩
theorem CallP.heapConvIs {P : Program} {fx : List Nat} {f : FuncId} {avs : List AV} {tm : List (Nat × AV)} {hp : Hp} {nx : Nat} {dst : Option Nat} {K : St → Prop} {hi : Hp} {st : Bool} {args : List AV} {r : AV} {ho : Hp} {m : Nat} (hret : Ret P f args hi nx st (Is r ho m)) (hcv : All2 (Cv hp hi false) avs args) (hp' : partH hp (keys hi) hi) (hx : offFx fx (killIds st hi) = true)
    (hf : flatV r = true) (hfh : flatH ho) (h : K ⟨setD dst r (killTx (killIds st hi) tm), ho ++ killHx (killIds st hi) hp, m⟩) : CallP P fx f avs ⟨tm, hp, nx⟩ dst K :=
  CallP.heapConv hret hcv hp' hx (by rintro _ _ _ ⟨rfl, rfl, rfl⟩; exact ⟨⟨hf, hfh⟩, h⟩)
/-- A cell of an answer where objects came in; the same as what is only read, but for what leads to those. -/
inductive FrCH (hi ho : Hp) : AV → AV → Prop
  | refl (a : AV) (h : ∀ id, a.idOf = some id → inH hi id) (hg : ∀ cs, a ≠ .agg cs) : FrCH hi ho a a
  | own (id len e s : Nat) (rows : List (List AV)) (h0 : look hi id = none) (h : look ho id = some (.list e s rows)) (h2 : len ≤ rows.length) : FrCH hi ho (.own id len) (.lst (rows.take len))
  | nil : FrCH hi ho (.val (.slice none 0 0)) (.lst [])
  | nest {b : Bool} (id len e s : Nat) (rows rows' : List (List AV)) (h0 : look hi id = none) (h : look ho id = some (.nest (c := b) e s rows)) (h2 : len ≤ rows.length) (hz : FzR s rows rows') : FrCH hi ho (.own id len) (.lst (rows'.take len))
inductive FrVH (hi ho : Hp) : AV → AV → Prop
  | agg (cs ds : List AV) (h : All2 (FrCH hi ho) cs ds) : FrVH hi ho (.agg cs) (.agg ds)
  | tup (cs ds : List AV) (h : All2 (FrCH hi ho) cs ds) : FrVH hi ho (.tup cs) (.tup ds)
  | cell {a b : AV} (hg : ∀ cs, a ≠ .agg cs) (ht : ∀ cs, a ≠ .tup cs) (h : FrCH hi ho a b) : FrVH hi ho a b
/-- The objects that came in stay; the blocks of the others are read. -/
def keepL (hi : Hp) (ι : Loc) : Loc := fun k => match look hi k.id with | some _ => ι k | none => none
def keepS (hi : Hp) (ι : Loc) (S : Nat → Prop) : Nat → Prop := fun g => S g ∨ ∃ (k : Key) (c s : Nat), look hi k.id = none ∧ ι k = some (.blk g c s)
theorem keepL_in {hi : Hp} {ι : Loc} {id : Key} (h : inH hi id.id) : keepL hi ι id = ι id := by
  unfold keepL
  cases hl : look hi id.id with
  | none => exact absurd hl h
  | some _ => rfl
theorem keepL_some {hi : Hp} {ι : Loc} {id : Key} {p : Pl} (h : keepL hi ι id = some p) : inH hi id.id ∧ ι id = some p := by
  unfold keepL at h
  cases hl : look hi id.id with
  | none => rw [hl] at h; cases h
  | some _ => rw [hl] at h; exact ⟨by unfold inH; rw [hl]; simp, h⟩
theorem FrCH.rel {E : Env} {ι : Loc} {S : Nat → Prop} {hi ho : Hp} {nx : Nat} {w : World} (hC : Core E ι S ho nx w) {v : Value} {a b : AV} (h : FrCH hi ho a b) (hv : CRel w S ι v a) : CRel w (keepS hi ι S) (keepL hi ι) v b := by
  have hSA : ∀ b, S b → keepS hi ι S b ∧ w.heap[b]? = w.heap[b]? := fun b hb => ⟨.inl hb, rfl⟩
  cases h with
  | refl _ h hg => exact hv.mono (K := inH hi) ⟨hSA, fun id p hid hp => by rw [keepL_in hid]; exact hp⟩ h
  | nil => cases hv with | rd hv => cases hv; exact .rd (.nil _ _ (Nat.zero_le _))
  | own id len e s rows h0 h h2 =>
    obtain ⟨_, _, hob⟩ := hC.obj id _ h
    have hl : (rows.take len).length = len := by simp; omega
    rcases (VRel.one (ARel.cell hv)).own_inv with ⟨g, cap, s2, hg, g1, g2, ev⟩ | ⟨hg, rfl, ev⟩
    · subst ev
      cases hob with
      | nil _ _ h' _ => rw [hg] at h'; cases h'
      | list g' cap' _ _ _ vs h' hs hr hle hm hw hn hc =>
        rw [hg] at h'; simp at h'; obtain ⟨rfl, rfl, rfl⟩ := h'
        by_cases hz : len = 0
        · subst hz; exact .rd (.nil _ _ g2)
        · have hmul : rows.length * s2 ≤ cap * s2 := Nat.mul_le_mul_right _ hle
          have hmul2 : len * s2 ≤ rows.length * s2 := Nat.mul_le_mul_right _ h2
          have := Rd.lst (w := w) (S := keepS hi ι S) (rows.take len) g 0 cap s2 (vs.take (len * s2)) (fun e' => by rw [e'] at hl; simp at hl; omega) (by omega) hm (.inr ⟨_, _, _, h0, hg⟩) (fun r hr' => hr r (List.mem_of_mem_take hr')) (by rw [hl, List.length_take, hn]; omega)
            (fun i v hi => by
              rw [Nat.zero_add]
              rw [List.getElem?_take] at hi
              split at hi
              · exact cells_of_block hw i v hi
              · cases hi)
            (fun i v av hi ha => by
              rw [flatten_take _ _ hr] at ha
              rw [List.getElem?_take] at hi ha
              split at hi
              · rename_i hlt
                rw [if_pos hlt] at ha
                exact (hc i v av hi ha).mono hSA
              · cases hi)
          rw [hl] at this
          exact .rd this
    · subst ev
      simp only [List.take_zero]
      exact .rd (.nil _ _ (Nat.zero_le _))
  | nest id len e s rows rows' h0 h h2 hz =>
    obtain ⟨_, _, hob⟩ := hC.obj id _ h
    exact .rd (nest_read hob hv (fun b hb => .inl hb) (fun k g c z hk hg => .inr ⟨k, c, z, by rw [hk]; exact h0, hg⟩) h2 hz)
theorem FrCH.off {hi ho : Hp} {a b : AV} (h : FrCH hi ho a b) : (∀ id, b.idOf = some id → inH hi id) ∧ ∀ cs, b ≠ .agg cs := by
  cases h with
  | refl _ h hg => exact ⟨h, hg⟩
  | own => exact ⟨fun _ e => (by cases e), fun _ e => by cases e⟩
  | nil => exact ⟨fun _ e => (by cases e), fun _ e => by cases e⟩
  | nest => exact ⟨fun _ e => (by cases e), fun _ e => by cases e⟩
theorem FrVH.off {hi ho : Hp} {a b : AV} (h : FrVH hi ho a b) : b.uses (inH hi) := by
  cases h with
  | cell hg ht h =>
    have ho := h.off
    refine cell_uses ho.2 ?_ ho.1
    cases h with
    | refl => exact ht
    | own => intro cs e; cases e
    | nil => intro cs e; cases e
    | nest => intro cs e; cases e
  | agg cs ds h =>
    intro d hd id e
    obtain ⟨i, hi⟩ := List.mem_iff_getElem?.1 hd
    have hlt : i < cs.length := by rw [h.length]; exact (List.getElem?_eq_some_iff.1 hi).1
    exact (h.at (List.getElem?_eq_getElem hlt) hi).off.1 id e
  | tup cs ds h =>
    intro d hd
    obtain ⟨i, hi⟩ := List.mem_iff_getElem?.1 hd
    have hlt : i < cs.length := by rw [h.length]; exact (List.getElem?_eq_some_iff.1 hi).1
    obtain ⟨o1, o2⟩ := (h.at (List.getElem?_eq_getElem hlt) hi).off
    exact ⟨o1, fun cs e => absurd e (o2 cs)⟩
theorem FrVH.rel {E : Env} {ι : Loc} {S : Nat → Prop} {hi ho : Hp} {nx : Nat} {w : World} (hC : Core E ι S ho nx w) {v : Value} {a b : AV} (h : FrVH hi ho a b) (hv : VRel w S ι v a) : VRel w (keepS hi ι S) (keepL hi ι) v b := by
  cases h with
  | cell hg ht h =>
    cases hv with
    | one hv => cases hv with
      | cell hv => exact .one (.cell (h.rel hC hv))
      | agg => exact absurd rfl (hg _)
    | tup => exact absurd rfl (ht _)
    | any => cases h with | refl => exact .any v
  | agg cs ds h =>
    obtain ⟨vs, rfl, hvs⟩ := hv.agg_inv
    refine .one (.agg _ _ (All2.of (hvs.length.trans h.length) fun i v d hvi hd => ?_))
    have hlt : i < cs.length := by rw [h.length]; exact (List.getElem?_eq_some_iff.1 hd).1
    have hc := List.getElem?_eq_getElem hlt
    exact (h.at hc hd).rel hC (hvs.at hvi hc)
  | tup cs ds h =>
    cases hv with
    | one hv => cases hv with | cell h => exact absurd rfl (h.not_agg.2 _)
    | tup vs _ hvs =>
      refine .tup vs ds (All2.of (hvs.length.trans h.length) fun i v d hvi hd => ?_)
      have hlt : i < cs.length := by rw [h.length]; exact (List.getElem?_eq_some_iff.1 hd).1
      have hc := List.getElem?_eq_getElem hlt
      have hf := h.at hc hd
      have hx := hvs.at hvi hc
      generalize cs[i] = c at *
      cases hx with
      | cell hx => exact .cell (hf.rel hC hx)
      | agg ws es hx => cases hf with | refl _ _ hg => exact absurd rfl (hg _)
theorem AObj.uses_mono {K K' : Nat → Prop} (h : ∀ i, K i → K' i) {o : AObj} (ho : o.uses K) : o.uses K' := by
  cases o with
  | box cs => exact fun c hc id hid => h _ (ho c hc id hid)
  | list => trivial
  | map => trivial
  | ranged => trivial
  | clo => exact ⟨fun c hc id hid => h _ (ho.1 c hc id hid), fun c hc id hid => h _ (ho.2 c hc id hid)⟩
  | nest e s rows => exact fun h0 c hc id hid => h _ (ho h0 c hc id hid)
def boxesB (st : Bool) : Hp → Bool
  | [] => true
  | (_, .box _) :: r => boxesB st r
  | (_, .list ..) :: r => st && boxesB st r
  | (_, .map ..) :: r => st && boxesB st r
  | (_, .clo ..) :: r => st && boxesB st r
  | (_, .ranged ..) :: r => false
  | (_, .nest ..) :: r => false
theorem boxesB_at {st : Bool} : ∀ {h : Hp}, boxesB st h = true → ∀ id o, look h id = some o → st = true ∨ ∃ cs, o = .box cs
  | [], _, id, o, e => by simp [look] at e
  | (k, ob) :: r, hb, id, o, e => by
    rw [look_cons] at e
    split at e
    · simp at e; subst e
      cases ob with
      | box cs => exact .inr ⟨cs, rfl⟩
      | list => simp only [boxesB, Bool.and_eq_true] at hb; exact .inl hb.1
      | map => simp only [boxesB, Bool.and_eq_true] at hb; exact .inl hb.1
      | clo => simp only [boxesB, Bool.and_eq_true] at hb; exact .inl hb.1
      | ranged => simp [boxesB] at hb
      | nest => simp [boxesB] at hb
    · cases ob with
      | box cs => exact boxesB_at (h := r) hb id o e
      | list => simp only [boxesB, Bool.and_eq_true] at hb; exact boxesB_at (h := r) hb.2 id o e
      | map => simp only [boxesB, Bool.and_eq_true] at hb; exact boxesB_at (h := r) hb.2 id o e
      | clo => simp only [boxesB, Bool.and_eq_true] at hb; exact boxesB_at (h := r) hb.2 id o e
      | ranged => simp [boxesB] at hb
      | nest => simp [boxesB] at hb
theorem boxesB_nest {st : Bool} : ∀ {h : Hp}, boxesB st h = true → ∀ id o, look h id = some o → o.isNest = false
  | [], _, id, o, e => by simp [look] at e
  | (k, ob) :: r, hb, id, o, e => by
    rw [look_cons] at e
    split at e
    · simp only [Option.some.injEq] at e
      subst e
      cases ob with
      | box => rfl
      | list => rfl
      | map => rfl
      | clo => rfl
      | ranged => simp [boxesB] at hb
      | nest => simp [boxesB] at hb
    · cases ob with
      | box cs => exact boxesB_nest (h := r) hb id o e
      | list => simp only [boxesB, Bool.and_eq_true] at hb; exact boxesB_nest (h := r) hb.2 id o e
      | map => simp only [boxesB, Bool.and_eq_true] at hb; exact boxesB_nest (h := r) hb.2 id o e
      | clo => simp only [boxesB, Bool.and_eq_true] at hb; exact boxesB_nest (h := r) hb.2 id o e
      | ranged => simp [boxesB] at hb
      | nest => simp [boxesB] at hb
theorem boxesB_key {st : Bool} {h : Hp} (hb : boxesB st h = true) {k : Key} (hk : placeB h k = true) : k = ⟨k.id, []⟩ ∧ inH h k.id := by
  refine ⟨?_, placeB_in hk⟩
  obtain ⟨id, path⟩ := k
  unfold placeB at hk
  cases hl : look h id with
  | none => simp [hl] at hk
  | some o =>
    have := boxesB_nest hb id o hl
    cases path with
    | nil => rfl
    | cons x q => cases o <;> simp [hl] at hk <;> simp [AObj.isNest] at this
/-- What a function answers, read from then on; the objects that came in are as the answer says. -/
theorem Ret.freezeH {P : Program} {f : FuncId} {args : List AV} {hi : Hp} {n : Nat} {st : Bool} {Q Q' : AV → Hp → Nat → Prop} (hb : boxesB st hi = true)
    (hQ : (∀ id, inH hi id → id < n) → ∀ r ho m, Q r ho m → ∃ r' ho', FrVH hi ho r r' ∧ (∀ id o, look ho' id = some o → look ho id = some o ∧ inH hi id ∧ o.uses (inH hi)) ∧ (∀ id, inH hi id → inH ho' id) ∧ Q' r' ho' n) (h : Ret P f args hi n st Q) : Ret P f args hi n st Q' := by
  refine ⟨h.enter, fun w ι A vs hC h1 h2 h3 h4 => Calls.mono (h.calls w ι A vs hC h1 h2 h3 h4) ?_⟩
  rintro e w' ⟨v, r, ho, m, ι', S', rfl, hq, hnm, hC', hdom, hv, hu, huo, hio, hoi, hkeep⟩
  have hlt : ∀ id, inH hi id → id < n := fun id hin => by
    cases hl : look hi id with
    | none => exact absurd hl hin
    | some o => exact (hC.obj id o hl).1
  obtain ⟨r', ho', hfr, hsub, hall, hq'⟩ := hQ hlt _ _ _ hq
  have hstay : ∀ (id : Nat) p, inH hi id → ι ⟨id, []⟩ = some p → ι' ⟨id, []⟩ = some p := fun id p hin => by
    cases hl : look hi id with
    | none => exact absurd hl hin
    | some o => exact hkeep id o p hl (boxesB_at hb id o hl)
  have hfresh : ∀ (id : Key) g c s, look hi id.id = none → ι' id = some (.blk g c s) → w.heap.size ≤ g := by
    intro id g c s h0 hg
    rcases (hC'.own id g c s hg).2 with h | ⟨id', c', s', h⟩
    · exact h
    · have hkb : placeB hi id' = true := by
        cases hkb : placeB hi id' with
        | true => rfl
        | false => rw [h1 id' hkb] at h; cases h
      obtain ⟨e0, hin⟩ := boxesB_key hb hkb
      rw [e0] at h
      have := hC'.inj ⟨id'.id, []⟩ id g _ _ _ _ (hstay id'.id _ hin h) hg
      subst this
      exact absurd h0 hin
  refine ⟨v, r', ho', n, keepL hi ι', keepS hi ι' S', rfl, hq', Nat.le_refl _, ⟨hC'.frame, ?_, ?_, ?_, ?_, ?_, ?_, ?_, (fun id p e => by cases e), ⟨fun id _ => rfl, fun e => by cases e⟩⟩, ?_, hfr.rel hC' hv, ?_, ?_, hall, ?_, ?_⟩
  · rintro b (hb | ⟨id, c, s, h0, e⟩)
    · exact hC'.sub b hb
    · exact .inr (hfresh id b c s h0 e)
  · rintro b (hb | ⟨id, c, s, h0, e⟩)
    · exact hC'.lt b hb
    · exact (hC'.own id b c s e).1
  · rintro b (hb | ⟨id, c, s, h0, e⟩) ⟨id', c', s', e'⟩
    · exact hC'.dis b hb ⟨id', c', s', (keepL_some e').2⟩
    · have := hC'.inj _ _ _ _ _ _ _ (keepL_some e').2 e
      subst this
      exact absurd h0 (keepL_some e').1
  · intro id g c s e; exact hC'.own id g c s (keepL_some e).2
  · intro i j g c d s r e1 e2; exact hC'.inj i j g _ _ _ _ (keepL_some e1).2 (keepL_some e2).2
  · intro id hid
    cases hl : look hi id.id with
    | none => show keepL hi ι' id = none; unfold keepL; rw [hl]
    | some o => have := hlt id.id (by unfold inH; rw [hl]; simp); omega
  · intro id o e
    obtain ⟨k1, k2, k3⟩ := hsub id o e
    obtain ⟨g1, g2, g3⟩ := hC'.obj id o k1
    exact ⟨hlt id k2, AObj.uses_mono (fun i hi' => hlt i hi') k3, g3.mono (K := inH hi) ⟨fun b hb => ⟨.inl hb, rfl⟩, fun i p hin hp => by rw [keepL_in hin]; exact hp⟩ k2 k3 (fun _ k q hk hq => by rw [keepL_in (by rw [hk]; exact k2)]; exact hq) (fun _ _ _ _ _ _ => rfl)⟩
  · intro id hn
    cases hl : look hi id.id with
    | none => show keepL hi ι' id = none; unfold keepL; rw [hl]
    | some o => exact absurd hn (hall id.id (by unfold inH; rw [hl]; simp))
  · exact AV.uses_mono hall hfr.off
  · intro id o e
    exact AObj.uses_mono hall (hsub id o e).2.2
  · intro id hin
    cases hl : look ho' id with
    | none => exact absurd hl hin
    | some o => exact .inl (hsub id o hl).2.1
  · intro id o p e hst hp
    have hin : inH hi id := by unfold inH; rw [e]; simp
    rw [keepL_in hin]
    exact hstay id p hin hp
theorem frOwnH {hi ho : Hp} {id e s len : Nat} {rows : List (List AV)} (h0 : look hi id = none) (h : look ho id = some (.list e s rows)) (hl : len = rows.length) : FrCH hi ho (.own id len) (.lst rows) := by
  have := FrCH.own (hi := hi) (ho := ho) id len e s rows h0 h (by omega)
  rwa [List.take_of_length_le (by omega)] at this
theorem frCell {ho : Hp} {id e s len : Nat} {rows : List (List AV)} (h : look ho id = some (.list e s rows)) (hl : len = rows.length) : FrV ho (.own id len) (.lst rows) := .cell (fun _ e => by cases e) (fun _ e => by cases e) (frOwn h hl)
theorem frCellH {hi ho : Hp} {id e s len : Nat} {rows : List (List AV)} (h0 : look hi id = none) (h : look ho id = some (.list e s rows)) (hl : len = rows.length) : FrVH hi ho (.own id len) (.lst rows) := .cell (fun _ e => by cases e) (fun _ e => by cases e) (frOwnH h0 h hl)
/-- A nil slice in a struct gets a name. -/
theorem Weak.name {fx : List Nat} {tm : List (Nat × AV)} {hp : Hp} {nx : Nat} (id k e s : Nat) (cs : List AV) (hs : 0 < s) (hl : look hp id = some (.box cs)) (hk : cs[k]? = some nl) :
    Weak fx ⟨tm, hp, nx⟩ ⟨tm, (id, .box (cs.set k (.own nx 0))) :: (nx, .list e s []) :: hp, nx + 1⟩ := by
  rintro E a w _ ⟨hsz, hd, ι, S, hC, hTm⟩
  obtain ⟨hid0, huse0, hob⟩ := hC.obj id _ hl
  have hid : id < nx := hid0
  have huse : ∀ c ∈ cs, ∀ j, c.idOf = some j → j < nx := huse0
  have hne : ∀ i : Key, i.id < nx → put ι nx (some .nil) i = ι i := fun i hi => put_id _ _ (by first | omega | (dsimp only; omega) | (dsimp only at *; omega))
  have hL : Later w w S S ι (put ι nx (some .nil)) (· < nx) := ⟨fun b hb => ⟨hb, rfl⟩, fun i p hi hp' => by rw [hne i hi]; exact hp'⟩
  have blk : ∀ (i : Key) g c z, put ι nx (some .nil) i = some (.blk g c z) → ι i = some (.blk g c z) := by
    intro i g c z h
    by_cases e : i = (nx : Key)
    · subst e; rw [put_same] at h; cases h
    · rwa [put_ne _ _ e] at h
  refine ⟨hsz, hd, put ι nx (some .nil), S, ⟨hC.frame, hC.sub, hC.lt, ?_, ?_, ?_, ?_, ?_, ?_, hC.fxs⟩, Core.tm hTm (Nat.le_succ _) hL⟩
  · rintro b hb ⟨i, c, z, h⟩; exact hC.dis b hb ⟨i, c, z, blk i _ _ _ h⟩
  · intro i g c z h; exact hC.own i g c z (blk i _ _ _ h)
  · intro i j g c d z r h1 h2; exact hC.inj i j g _ _ _ _ (blk i _ _ _ h1) (blk j _ _ _ h2)
  · intro i hi
    have hi' : nx + 1 ≤ i.id := hi
    rw [put_id _ _ (by first | omega | (dsimp only; omega) | (dsimp only at *; omega))]; exact hC.new i (by show nx ≤ i.id; omega)
  · intro i o h
    by_cases hii : id = i
    · subst hii
      rw [look_cons_eq] at h
      simp only [Option.some.injEq] at h
      subst h
      refine ⟨by show id < nx + 1; omega, ?_, ?_⟩
      · intro c hc j hj
        rcases List.mem_or_eq_of_mem_set hc with h' | rfl
        · have := huse c h' j hj; show j < nx + 1; omega
        · simp [AV.idOf] at hj; show j < nx + 1; omega
      · cases hob with
        | box g c z T cs vs h h0 hw hcs =>
          refine .box g c z T _ vs ((hne _ hid).trans h) h0 hw (All2.of (by rw [List.length_set]; exact hcs.length) fun j v x hv hx => ?_)
          by_cases ejk : j = k
          · subst ejk
            have hlt : j < cs.length := (List.getElem?_eq_some_iff.1 hk).1
            rw [List.getElem?_set_self hlt] at hx
            simp only [Option.some.injEq] at hx
            subst hx
            have hc := hcs.at hv hk
            have hv' := (VRel.one (ARel.cell hc)).val_inv.1
            subst hv'
            exact .own0 nx (put_same _ _ _)
          · rw [List.getElem?_set_ne (fun e => ejk e.symm)] at hx
            exact (hcs.at hv hx).mono hL fun j' hj' => huse x (List.mem_of_getElem? hx) j' hj'
    · rw [look_cons_ne _ _ hii] at h
      by_cases e2 : nx = i
      · subst e2
        rw [look_cons_eq] at h
        simp only [Option.some.injEq] at h
        subst h
        exact ⟨Nat.lt_succ_self _, trivial, .nil e s (put_same _ _ _) hs⟩
      · rw [look_cons_ne _ _ e2] at h
        obtain ⟨h1, h2, h3⟩ := hC.obj i o h
        have h1' : i < nx := h1
        exact ⟨Nat.lt_succ_of_lt h1', AObj.uses_mono (fun j (hj : j < nx) => Nat.lt_succ_of_lt hj) h2, h3.mono hL h1 h2 (fun _ k q hk hq => by rw [put_id _ _ (by rw [hk]; exact Nat.ne_of_lt h1)]; exact hq) (fun _ _ _ _ _ _ => rfl)⟩
  · intro i p h
    have h' := hC.stay i p h
    have hlt : i < nx := by
      rcases Nat.lt_or_ge i nx with h2 | h2
      · exact h2
      · rw [hC.new ⟨i, []⟩ (show nx ≤ i from h2)] at h'; cases h'
    rw [hne ⟨i, []⟩ hlt]; exact h'
theorem fr0 {ho : Hp} {a : AV} (h : (idsC [] a && noAgg a) = true) : FrC ho a a := by
  simp only [Bool.and_eq_true] at h
  refine .refl a ?_ (fun _ e => by rw [e] at h; simp [noAgg] at h)
  cases hid : a.idOf with
  | none => rfl
  | some id => have := idsC_id h.1 id hid; simp [memB] at this
theorem frKeep {hi ho : Hp} {a : AV} (h : (idsC [] a && noAgg a) = true) : FrCH hi ho a a := by
  simp only [Bool.and_eq_true] at h
  exact .refl a (fun id hid => by have := idsC_id h.1 id hid; simp [memB] at this) (fun _ e => by rw [e] at h; simp [noAgg] at h)
/-- One struct came in; the answer's own lists are read from then on. -/
theorem Ret.frBox {P : Program} {f : FuncId} {args : List AV} {i n : Nat} {cs0 : List AV} {st : Bool} {Q Q' : AV → Hp → Nat → Prop}
    (hQ : i < n → ∀ r ho m, Q r ho m → ∃ r' cs1, FrVH [(i, .box cs0)] ho r r' ∧ look ho i = some (.box cs1) ∧ cs1.all (idsC []) = true ∧ Q' r' [(i, .box cs1)] n) (h : Ret P f args [(i, .box cs0)] n st Q) : Ret P f args [(i, .box cs0)] n st Q' := by
  have hin : inH [(i, AObj.box cs0)] i := by unfold inH; rw [look_cons_eq]; simp
  refine Ret.freezeH rfl (fun hlt r ho m hq => ?_) h
  obtain ⟨r', cs1, h1, h2, h3, h4⟩ := hQ (hlt i hin) r ho m hq
  refine ⟨r', _, h1, fun id o hl => ?_, fun id hid => ?_, h4⟩
  · rw [look_cons] at hl
    split at hl
    · rename_i e
      subst e
      simp only [Option.some.injEq] at hl
      subst hl
      exact ⟨h2, hin, fun c hc id hid => by have := idsC_id (List.all_eq_true.1 h3 c hc) id hid; simp [memB] at this⟩
    · simp [look] at hl
  · unfold inH at hid ⊢
    rw [look_cons] at hid ⊢
    split at hid
    · rename_i e; rw [if_pos e]; simp
    · simp [look] at hid
theorem Ret.emp {P : Program} {f : FuncId} {hi : Hp} {n : Nat} {st : Bool} {Q : AV → Hp → Nat → Prop} (h : ∀ (a : Option Addr) (cap : Nat), Ret P f [.val (.slice a 0 cap)] hi n st Q) : Ret P f [.lst []] hi n st Q := by
  refine ⟨(h none 0).enter, fun w ι A vs hC h1 h2 h3 h4 => ?_⟩
  match vs, h2 with
  | [v], h2 =>
    have hr := h2.1.lst_inv
    cases hr with
    | nil a cap hcap =>
      have hu : ∀ x ∈ [AV.val (.slice a 0 cap)], x.uses (inH hi) := by
        intro x hx
        rcases List.mem_singleton.1 hx with rfl
        trivial
      exact (h a cap).calls w ι A [.slice a 0 cap] hC h1 ⟨.one (.cell (.rd (.val _ rfl))), trivial⟩ hu h4
    | lst _ _ _ _ _ _ h0 => exact absurd rfl h0
/-! ### nil in rows that are read -/
def nilOr (a b : AV) : Prop := a = b ∨ (a = nl ∧ b = .lst [])
theorem Ret.frList {P : Program} {f : FuncId} {args : List AV} {n e s len : Nat} {rows : List (List AV)} (hl : len = rows.length) (h : Ret P f args [] n true (Is (.own n len) [(n, .list e s rows)] (n + 1))) : Ret P f args [] n true (Is (.lst rows) [] n) := by
  refine Ret.freeze (fun r ho k hq => ?_) h
  obtain ⟨rfl, rfl, rfl⟩ := hq
  exact ⟨_, .cell (fun _ e => by cases e) (fun _ e => by cases e) (frOwn (look_cons_eq _ _ _) hl), rfl, rfl, rfl⟩
theorem cvargsHA {p : Prop} (h : p := by repeat' first | exact trivial | exact cvKeep rfl | exact cvSame rfl | exact cvNil | exact cvOwnH rfl rfl (by (first | rfl | (simp only [List.length_map]; done) | (simp only [List.length_map]; first | rfl | assumption | omega))) | refine And.intro ?_ ?_) : p := h
end Go.Am
