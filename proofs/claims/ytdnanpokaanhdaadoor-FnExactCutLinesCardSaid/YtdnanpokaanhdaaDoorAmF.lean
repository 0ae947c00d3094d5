/-
  A FUNCTION'S OWN LISTS, READ FROM THEN ON.
-/
import Derived.Test.YtdnanpokaanhdaaDoorAmC
namespace Go.Am
open Go.RowKit
set_option linter.unusedVariables false
set_option linter.unusedSimpArgs false
/-- A cell of an answer; the same as what is only read. -/
inductive FrC (ho : Hp) : AV → AV → Prop
  | refl (a : AV) (h : a.idOf = none) (hg : ∀ cs, a ≠ .agg cs) : FrC ho a a
  | own (id len e s : Nat) (rows : List (List AV)) (h : look ho id = some (.list e s rows)) (h2 : len ≤ rows.length) : FrC ho (.own id len) (.lst (rows.take len))
  | nil : FrC ho (.val (.slice none 0 0)) (.lst [])
  | sb (id row len e s : Nat) (rows : List (List AV)) (h : look ho id = some (.list e s rows)) (h2 : row + len ≤ rows.length) : FrC ho (.sb id row 0 len) (.lst ((rows.drop row).take len))
  | nest {b : Bool} (id len e s : Nat) (rows rows' : List (List AV)) (h : look ho id = some (.nest (c := b) e s rows)) (h2 : len ≤ rows.length) (hz : FzR s rows rows') : FrC ho (.own id len) (.lst (rows'.take len))
/-- An answer; the same as what is only read. -/
inductive FrV (ho : Hp) : AV → AV → Prop
  | agg (cs ds : List AV) (h : All2 (FrC ho) cs ds) : FrV ho (.agg cs) (.agg ds)
  | tup (cs ds : List AV) (h : All2 (FrC ho) cs ds) : FrV ho (.tup cs) (.tup ds)
  | cell {a b : AV} (hg : ∀ cs, a ≠ .agg cs) (ht : ∀ cs, a ≠ .tup cs) (h : FrC ho a b) : FrV ho a b
theorem FrC.rel_sb {E : Env} {ι : Loc} {S : Nat → Prop} {ho : Hp} {nx : Nat} {w : World} (hC : Core E ι S ho nx w) {v : Value} {id row len e s : Nat} {rows : List (List AV)} (h : look ho id = some (.list e s rows)) (h2 : row + len ≤ rows.length) (hv : CRel w S ι v (.sb id row 0 len)) : CRel w (fun g => S g ∨ Mut ι g) (fun _ => none) v (.lst ((rows.drop row).take len)) := by
  obtain ⟨_, _, hob⟩ := hC.obj id _ h
  have hl : ((rows.drop row).take len).length = len := by simp; omega
  cases hv with
  | rd hv => cases hv
  | sb0 _ _ _ hg =>
    rw [List.take_zero]
    exact .rd (.nil _ _ (Nat.zero_le _))
  | sb _ _ _ _ g c s2 o cap hg h1 h3 ho' =>
    cases hob with
    | nil _ _ h' _ => rw [hg] at h'; cases h'
    | list g' cap' _ _ _ vs h' hs hr hle hm hw hn hc =>
      rw [hg] at h'; simp at h'; obtain ⟨rfl, rfl, rfl⟩ := h'
      by_cases h0 : len = 0
      · subst h0; rw [List.take_zero]; exact .rd (.nil _ _ h3)
      · obtain rfl := ho' (by omega)
        have hmul : rows.length * s2 ≤ c * s2 := Nat.mul_le_mul_right _ hle
        have hmul2 : (row + len) * s2 ≤ rows.length * s2 := Nat.mul_le_mul_right _ h2
        rw [Nat.add_mul] at hmul2
        have hfl : ((rows.drop row).take len).flatten = (rows.flatten.drop (row * s2)).take (len * s2) := by
          rw [flatten_take _ _ fun r hr' => hr r (List.mem_of_mem_drop hr'), flatten_drop rows _ hr]
        have := Rd.lst (w := w) (S := fun g => S g ∨ Mut ι g) ((rows.drop row).take len) g (row * s2 + 0) cap s2 ((vs.drop (row * s2)).take (len * s2)) (fun e' => by rw [e'] at hl; simp at hl; omega) (by omega) h3 (.inr ⟨_, _, _, hg⟩) (fun r hr' => hr r (List.mem_of_mem_drop (List.mem_of_mem_take hr'))) (by rw [hl, List.length_take, List.length_drop, hn]; omega)
          (fun i v hi => by
            rw [List.getElem?_take] at hi
            split at hi
            · rw [List.getElem?_drop] at hi
              exact cells_of_block hw _ v hi
            · cases hi)
          (fun i v av hi ha => by
            rw [hfl] at ha
            rw [List.getElem?_take] at hi ha
            split at hi
            · rename_i hlt
              rw [if_pos hlt] at ha
              rw [List.getElem?_drop] at hi ha
              exact (hc _ v av hi ha).mono fun b hb => ⟨.inl hb, rfl⟩
            · cases hi)
        rw [hl] at this
        exact .rd this
theorem FrC.rel {E : Env} {ι : Loc} {S : Nat → Prop} {ho : Hp} {nx : Nat} {w : World} (hC : Core E ι S ho nx w) {v : Value} {a b : AV} (h : FrC ho a b) (hv : CRel w S ι v a) : CRel w (fun g => S g ∨ Mut ι g) (fun _ => none) v b := by
  have hSA : ∀ b, S b → (S b ∨ Mut ι b) ∧ w.heap[b]? = w.heap[b]? := fun b hb => ⟨.inl hb, rfl⟩
  cases h with
  | refl _ h hg => exact hv.mono (K := fun _ => False) ⟨hSA, fun id p hid _ => hid.elim⟩ (fun id hid => by rw [h] at hid; cases hid)
  | nil => cases hv with | rd hv => cases hv; exact .rd (.nil _ _ (Nat.zero_le _))
  | own id len e s rows h h2 =>
    obtain ⟨_, _, hob⟩ := hC.obj id _ h
    have hl : (rows.take len).length = len := by simp; omega
    rcases (VRel.one (ARel.cell hv)).own_inv with ⟨g, cap, s2, hg, g1, g2, ev⟩ | ⟨hg, rfl, ev⟩
    · subst ev
      cases hob with
      | nil _ _ h' _ => rw [hg] at h'; cases h'
      | list g' cap' _ _ _ vs h' hs hr hle hm hw hn hc =>
        rw [hg] at h'; simp at h'; obtain ⟨rfl, rfl, rfl⟩ := h'
        by_cases h0 : len = 0
        · subst h0; exact .rd (.nil _ _ g2)
        · have hmul : rows.length * s2 ≤ cap * s2 := Nat.mul_le_mul_right _ hle
          have hmul2 : len * s2 ≤ rows.length * s2 := Nat.mul_le_mul_right _ h2
          have := Rd.lst (w := w) (S := fun g => S g ∨ Mut ι g) (rows.take len) g 0 cap s2 (vs.take (len * s2)) (fun e' => by rw [e'] at hl; simp at hl; omega) (by omega) hm (.inr ⟨_, _, _, hg⟩) (fun r hr' => hr r (List.mem_of_mem_take hr')) (by rw [hl, List.length_take, hn]; omega)
            (fun i v hi => by
              rw [Nat.zero_add]
              rw [List.getElem?_take] at hi
              split at hi
              · exact cells_of_block hw i v hi
              · cases hi)
            (fun i v av hi ha => by
              rw [flatten_take _ _ hr] at ha
              rw [List.getElem?_take] at hi ha
              split at hi
              · rename_i hlt
                rw [if_pos hlt] at ha
                exact (hc i v av hi ha).mono hSA
              · cases hi)
          rw [hl] at this
          exact .rd this
    · subst ev
      simp only [List.take_zero]
      exact .rd (.nil _ _ (Nat.zero_le _))
  | sb id row len e s rows h h2 => exact FrC.rel_sb hC h h2 hv
  | nest id len e s rows rows' h h2 hz =>
    obtain ⟨_, _, hob⟩ := hC.obj id _ h
    exact .rd (nest_read hob hv (fun b hb => .inl hb) (fun k g c z _ hg => .inr ⟨k, c, z, hg⟩) h2 hz)
theorem FrC.off {ho : Hp} {a b : AV} (h : FrC ho a b) : b.idOf = none ∧ ∀ cs, b ≠ .agg cs := by
  cases h with
  | refl _ h hg => exact ⟨h, hg⟩
  | own => exact ⟨rfl, fun _ e => by cases e⟩
  | nil => exact ⟨rfl, fun _ e => by cases e⟩
  | sb => exact ⟨rfl, fun _ e => by cases e⟩
  | nest => exact ⟨rfl, fun _ e => by cases e⟩
theorem FrV.off {ho : Hp} {a b : AV} (h : FrV ho a b) : b.uses (inH []) := by
  cases h with
  | cell hg ht h =>
    have ho := h.off
    refine cell_uses ho.2 ?_ (fun id e => by rw [ho.1] at e; cases e)
    cases h with
    | refl => exact ht
    | own => intro cs e; cases e
    | nil => intro cs e; cases e
    | sb => intro cs e; cases e
    | nest => intro cs e; cases e
  | agg cs ds h =>
    intro d hd id e
    obtain ⟨i, hi⟩ := List.mem_iff_getElem?.1 hd
    have hlt : i < cs.length := by rw [h.length]; exact (List.getElem?_eq_some_iff.1 hi).1
    rw [(h.at (List.getElem?_eq_getElem hlt) hi).off.1] at e
    cases e
  | tup cs ds h =>
    intro d hd
    obtain ⟨i, hi⟩ := List.mem_iff_getElem?.1 hd
    have hlt : i < cs.length := by rw [h.length]; exact (List.getElem?_eq_some_iff.1 hi).1
    obtain ⟨o1, o2⟩ := (h.at (List.getElem?_eq_getElem hlt) hi).off
    exact ⟨fun id e => (by rw [o1] at e; cases e), fun cs e => absurd e (o2 cs)⟩
theorem FrV.rel {E : Env} {ι : Loc} {S : Nat → Prop} {ho : Hp} {nx : Nat} {w : World} (hC : Core E ι S ho nx w) {v : Value} {a b : AV} (h : FrV ho a b) (hv : VRel w S ι v a) : VRel w (fun g => S g ∨ Mut ι g) (fun _ => none) v b := by
  cases h with
  | cell hg ht h =>
    cases hv with
    | one hv => cases hv with
      | cell hv => exact .one (.cell (h.rel hC hv))
      | agg => exact absurd rfl (hg _)
    | tup => exact absurd rfl (ht _)
    | any => cases h with | refl => exact .any v
  | agg cs ds h =>
    obtain ⟨vs, rfl, hvs⟩ := hv.agg_inv
    refine .one (.agg _ _ (All2.of (hvs.length.trans h.length) fun i v d hvi hd => ?_))
    have hlt : i < cs.length := by rw [h.length]; exact (List.getElem?_eq_some_iff.1 hd).1
    have hc := List.getElem?_eq_getElem hlt
    exact (h.at hc hd).rel hC (hvs.at hvi hc)
  | tup cs ds h =>
    cases hv with
    | one hv => cases hv with | cell h => exact absurd rfl (h.not_agg.2 _)
    | tup vs _ hvs =>
      refine .tup vs ds (All2.of (hvs.length.trans h.length) fun i v d hvi hd => ?_)
      have hlt : i < cs.length := by rw [h.length]; exact (List.getElem?_eq_some_iff.1 hd).1
      have hc := List.getElem?_eq_getElem hlt
      have hf := h.at hc hd
      have hx := hvs.at hvi hc
      generalize cs[i] = c at *
      cases hx with
      | cell hx => exact .cell (hf.rel hC hx)
      | agg ws es hx => cases hf with | refl _ _ hg => exact absurd rfl (hg _)
/-- What a function answers, read from then on. -/
theorem Ret.freeze {P : Program} {f : FuncId} {args : List AV} {n : Nat} {Q Q' : AV → Hp → Nat → Prop} (hQ : ∀ r ho m, Q r ho m → ∃ r', FrV ho r r' ∧ Q' r' [] n) (h : Ret P f args [] n true Q) : Ret P f args [] n true Q' := by
  refine ⟨h.enter, fun w ι A vs hC h1 h2 h3 h4 => Calls.mono (h.calls w ι A vs hC h1 h2 h3 h4) ?_⟩
  rintro e w' ⟨v, r, ho, m, ι', S', rfl, hq, hnm, hC', hdom, hv, hu, huo, hio, hoi, hkeep⟩
  obtain ⟨r', hfr, hq'⟩ := hQ _ _ _ hq
  refine ⟨v, r', [], n, fun _ => none, fun g => S' g ∨ Mut ι' g, rfl, hq', Nat.le_refl _, ⟨hC'.frame, ?_, ?_, (fun b _ ⟨id, c, s, e⟩ => by cases e), (fun id g c s e => by cases e), (fun i j g c d s r e => by cases e), fun id _ => rfl, (fun id o e => by simp [look] at e), (fun id p e => by cases e), ⟨fun id _ => rfl, fun e => by cases e⟩⟩, fun id _ => rfl, hfr.rel hC' hv, hfr.off, (fun id o e => by simp [look] at e), fun id h => (h rfl).elim, ?_, (fun k o p e => by simp [look] at e)⟩
  · rintro b (hb | ⟨id, c, s, e⟩)
    · exact hC'.sub b hb
    · rcases (hC'.own id b c s e).2 with h | ⟨id', c', s', h⟩
      · exact .inr h
      · have : ι id' = none := h1 id' rfl
        rw [this] at h; cases h
  · rintro b (hb | ⟨id, c, s, e⟩)
    · exact hC'.lt b hb
    · exact (hC'.own id b c s e).1
  · intro id h; exact absurd rfl h
theorem frOwn {ho : Hp} {id e s len : Nat} {rows : List (List AV)} (h : look ho id = some (.list e s rows)) (hl : len = rows.length) : FrC ho (.own id len) (.lst rows) := by
  have := FrC.own id len e s rows h (by omega)
  rwa [List.take_of_length_le (by omega)] at this
/-- A call in a region that draws its order and makes an object. -/
theorem CallN.is {P : Program} {f : FuncId} {avs : List AV} {s : St} {d : Nat} {K : St → Prop} {v : AV} (hn : noIds avs = true) (hret : ∀ n, Ret P f avs [] n true (Is v [] n)) (h : K ⟨(d, v) :: s.tm, s.hp, s.nx⟩) : CallN P f avs s d K :=
  ⟨⟨v, fun hp => noIds_cv hn, hret, h⟩⟩
end Go.Am
