/-
  CODES: what is asked is enough.
-/
import Derived.Test.YtdnanpokaanhdaaDoorAm8
namespace Go.Am
open Go.RowKit
set_option linter.unusedVariables false
set_option linter.unusedSimpArgs false

variable {E : Env} {s : St} {a : Act} {w : World} {ι : Loc} {S : Nat → Prop} {tt : Tab}

theorem rel_put {s' : St} {w' : World} {ι' : Loc} {S' : Nat → Prop} (hs : a.tmps.size = E.nt) (hd : a.defers = []) {tm : List (Nat × AV)} {hp : Hp} {nx : Nat} (hC : Core E ι' S' hp nx w') (hTm : TmOk ι' S' tm E.nt nx w' a.tmps) {d : Nat} (hlt : d < E.nt) {v : Value} {av : AV} (hv : VRel w' S' ι' v av) (hu : av.uses (· < nx)) :
    Rel E ⟨(d, av) :: tm, hp, nx⟩ (a.put (some d) v) w' :=
  ⟨by simp [Act.put, hs], hd, ι', S', hC, TmOk.put hTm hs hlt hu hv⟩

theorem rel_keep {w' : World} {ι' : Loc} {S' : Nat → Prop} (hs : a.tmps.size = E.nt) (hd : a.defers = []) {tm : List (Nat × AV)} {hp : Hp} {nx : Nat} (hC : Core E ι' S' hp nx w') (hTm : TmOk ι' S' tm E.nt nx w' a.tmps) (v : Value) : Rel E ⟨tm, hp, nx⟩ (a.put none v) w' :=
  ⟨hs, hd, ι', S', hC, hTm⟩

theorem upon_call {P : Program} {o : Oper} {next : Act → World → Prop} {Q : Exit → Act → World → Prop} {f : FuncId} {vs : List Value} {R : Ending → World → Prop}
    (h : Calls P f vs.toArray w R) (hR : ∀ e w', R e w' → ∃ v, e = .returned v ∧ next (a.put o.dst v) w') : o.upon P a next Q (.ok (.enter f vs.toArray) w) := by
  rw [Oper.upon_enter]
  refine Calls.mono h fun e w' he => ?_
  obtain ⟨v, rfl, hv⟩ := hR e w' he
  exact hv

theorem killIds_in {st : Bool} {hi : Hp} {id : Nat} (h : memB id (killIds st hi) = true) : inH hi id := by
  cases st with
  | true => simp [killIds, memB] at h
  | false => exact lids_in h

theorem killC_nil (c : AV) : killC [] c = c := by cases c <;> rfl
theorem killO_nil (o : AObj) : killO [] o = o := by
  cases o with
  | box cs =>
    simp only [killO]
    have : cs.map (killC []) = cs.map id := List.map_congr_left fun c _ => killC_nil c
    rw [this, List.map_id]
  | list => rfl
  | map => rfl
  | ranged => rfl
  | clo f fs cs =>
    simp only [killO]
    have e : ∀ l : List AV, l.map (killC []) = l := fun l => by
      have : l.map (killC []) = l.map id := List.map_congr_left fun c _ => killC_nil c
      rw [this, List.map_id]
    rw [e, e]
  | @nest b e s rows =>
    cases b with
    | true => rfl
    | false =>
    simp only [killO]
    have : (rows.map fun r => r.map (killC [])) = rows.map id := List.map_congr_left fun r _ => by
      have : r.map (killC []) = r.map id := List.map_congr_left fun c _ => killC_nil c
      rw [this, List.map_id]; rfl
    rw [this, List.map_id]
theorem killH_nil : ∀ (hp : Hp), killH [] hp = hp
  | [] => rfl
  | (i, o) :: r => by simp only [killH, killO_nil, killH_nil r]
theorem killHx_eq (ks : List Nat) (hp : Hp) : killHx ks hp = killH ks hp := by
  cases ks with
  | nil => exact (killH_nil hp).symm
  | cons k r => rfl
theorem TmOk.killx {w' : World} {S' : Nat → Prop} {ι' : Loc} {ks : List Nat} {nx nt : Nat} {tm : List (Nat × AV)} {tmps : Array Value} (h : TmOk ι S tm nt nx w tmps) (h' : Later w w' S S' ι ι' (fun i => i < nx ∧ memB i ks = false)) : TmOk ι' S' (killTx ks tm) nt nx w' tmps := by
  cases ks with
  | nil => exact Core.tm h (Nat.le_refl _) ⟨h'.rd, fun id p hid hp => h'.at_ id p ⟨hid, rfl⟩ hp⟩
  | cons k r => exact h.kill h'

theorem callW_sound {o : Oper} {n : Nat} {args : List AV} {K : St → Prop} {Q : Exit → Act → World → Prop} (hs : a.tmps.size = E.nt) (hd : a.defers = []) (hC : Core E ι S s.hp s.nx w) (hTm : TmOk ι S s.tm E.nt s.nx w a.tmps) {vs : List Value} (hrun : (execOp a.eval o).run E.P w = (callFunc n vs.toArray).run E.P w) (hvs : All2 (VRel w S ι) vs args)
    (hdst : ∀ d, o.dst = some d → d < E.nt) (h : CallW E.P E.fx n args s o.dst K) : o.wp E.P a w (fun a' w' => ∃ s', Rel E s' a' w' ∧ K s') Q := by
  obtain ⟨as, hi, st, share, QQ, hcv, hhi, hret, hfx, hK⟩ := h
  let ιc : Loc := fun id => bif placeB hi id then ι id else none
  have cin0 : ∀ id : Key, placeB hi id = true → ιc id = ι id := by
    intro id h
    show (bif placeB hi id then ι id else none) = ι id
    rw [h]; rfl
  have cin : ∀ id : Nat, inH hi id → ιc ⟨id, []⟩ = ι ⟨id, []⟩ := fun id h => cin0 _ (placeB_root h)
  have cout : ∀ id : Key, placeB hi id = false → ιc id = none := by
    intro id h
    show (bif placeB hi id then ι id else none) = none
    rw [h]; rfl
  have csub : ∀ (id : Key) p, ιc id = some p → ι id = some p ∧ inH hi id.id := by
    intro id p h
    cases hin : placeB hi id with
    | true => rw [cin0 id hin] at h; exact ⟨h, placeB_in hin⟩
    | false => rw [cout id hin] at h; cases h
  have hSA : ∀ b, S b → Acall share S w ιc b := fun b hb => by
    cases share with
    | true => exact hb
    | false => exact ⟨hC.lt b hb, fun ⟨id, c, s, e⟩ => hC.dis b hb ⟨id, c, s, (csub id _ e).1⟩⟩
  have hArel : All2 (VRel w (Acall share S w ιc) ιc) vs as := All2.of (hvs.length.trans hcv.length) fun i v b hv hb => by
    have hlt : i < args.length := by rw [hcv.length]; exact (List.getElem?_eq_some_iff.1 hb).1
    have ha := List.getElem?_eq_getElem hlt
    exact (hcv.at ha hb).rel hC cin csub (hvs.at hv ha)
  have huses : ∀ x ∈ as, x.uses (inH hi) := by
    intro b hb
    obtain ⟨i, hi', e⟩ := List.mem_iff_getElem.1 hb
    have hb' : as[i]? = some b := by rw [List.getElem?_eq_getElem hi', e]
    have hlt : i < args.length := by rw [hcv.length]; exact hi'
    exact (hcv.at (List.getElem?_eq_getElem hlt) hb').uses
  have hC0 : Core ⟨E.P, w, Mut ιc, Acall share S w ιc, 0, fun _ => none, [0]⟩ ιc (Acall share S w ιc) hi s.nx w := by
    refine ⟨Frame.refl _ _, fun b hb => .inl hb, ?_, ?_, fun id g c s' h => ⟨(hC.own id g c s' (csub id _ h).1).1, .inr ⟨id, c, s', h⟩⟩, fun i j g c d s1 s2 h1 h2 => hC.inj i j g _ _ _ _ (csub _ _ h1).1 (csub _ _ h2).1, ?_, ?_, fun _ _ h => (by cases h), ⟨fun _ _ => rfl, fun e => by cases e⟩⟩
    · intro b hb
      cases share with
      | true => exact hC.lt b hb
      | false => exact hb.1
    · rintro b hb hm
      cases share with
      | true => obtain ⟨id, c, s', e⟩ := hm; exact hC.dis b hb ⟨id, c, s', (csub id _ e).1⟩
      | false => exact hb.2 hm
    · intro id hid
      cases hin : placeB hi id with
      | true => rw [cin0 id hin]; exact hC.new id hid
      | false => exact cout id hin
    · intro id ob h
      obtain ⟨h1, h2⟩ := hhi id ob h
      obtain ⟨g1, g2, g3⟩ := hC.obj id ob h1
      have hin : inH hi id := by unfold inH; rw [h]; simp
      exact ⟨g1, g2, g3.mono (K := inH hi) ⟨fun b hb => ⟨hSA b hb, rfl⟩, fun i p hi' hp => by rw [cin i hi']; exact hp⟩ hin h2 (fun hn k q hk hq => by rw [cin0 k (placeB_nest (by rw [hk]; exact h) hn)]; exact hq) (fun _ _ _ _ _ _ => rfl)⟩
  have hcalls := hret.calls w ιc _ vs hC0 cout hArel huses (fun id ob h => (hhi id ob h).2)
  unfold Oper.wp
  rw [hrun, hret.enter]
  refine upon_call hcalls ?_
  rintro e w' ⟨v, r, ho, m, ι', S', rfl, hq, hnm, hC', hdom, hv, hru, hou, hio, hoi, hkeep⟩
  obtain ⟨hfl, hk⟩ := hK r ho m hq
  refine ⟨v, rfl, _, ?_, hk⟩
  have hkeep' : ∀ (id : Nat) p, inH hi id → memB id (killIds st hi) = false → ιc ⟨id, []⟩ = some p → ι' ⟨id, []⟩ = some p := by
    intro id p hin hm hp
    cases hl : look hi id with
    | none => exact absurd hl hin
    | some ob =>
      refine hkeep id ob p hl ?_ hp
      cases st with
      | true => exact .inl rfl
      | false =>
        cases ob with
        | box cs => exact .inr ⟨cs, rfl⟩
        | list => have := lids_list hl; simp [killIds, this] at hm
        | map => have := lids_map hl; simp [killIds, this] at hm
        | ranged => have := lids_ranged hl; simp [killIds, this] at hm
        | clo => have := lids_clo hl; simp [killIds, this] at hm
        | nest => have := lids_nest hl; simp [killIds, this] at hm
  have key := hC.call (ιc := ιc) (A := Acall share S w ιc) (nt := 0) (ks := killIds st hi) (fun id => by
      cases hin : placeB hi id with
      | true => exact .inl (cin0 id hin)
      | false => exact .inr ⟨cout id hin, rfl⟩) cout hC' hnm hdom hio hoi (fun id h => killIds_in h) hkeep' hfx (by
      cases share with
      | true => exact .inl fun b hb => hb
      | false => exact .inr (hfl rfl).2)
  obtain ⟨k1, k2, k3, k4⟩ := key
  have hvr : VRel w' (fun b => S b ∨ (w.heap.size ≤ b ∧ S' b)) (fun id => match look ho id.id with | some _ => ι' id | none => ι id) v r := by
    cases share with
    | true => exact hv.mono (K := inH ho) ⟨fun b hb => ⟨k4 (fun b hb => hb) b hb, rfl⟩, fun id p _ h => k3 id p h⟩ hru
    | false => exact hv.flat k3 (hfl rfl).1
  have hru' : r.uses (· < m) := AV.uses_mono (fun i hi' => by
    cases hl : look ho i with
    | none => exact absurd hl hi'
    | some ob => exact (hC'.obj i ob hl).1) hru
  have hTm' := (hTm.killx k2)
  rw [← killHx_eq] at k1
  have hTm2 : TmOk _ _ (killTx (killIds st hi) s.tm) E.nt m w' a.tmps := ⟨fun t v h => let ⟨h1, h2, h3⟩ := hTm'.tm t v h; ⟨h1, AV.uses_mono (fun i hi' => by omega) h2, h3⟩⟩
  cases hdd : o.dst with
  | some d => exact rel_put (s' := s) hs hd k1 hTm2 (hdst d hdd) hvr hru'
  | none => exact rel_keep hs hd k1 hTm2 v

theorem uses_all {x : AV} (h : ∀ K : Nat → Prop, x.uses K) : ∀ id, x.idOf = some id → False := fun id e => AV.uses_id (h fun _ => False) id e
theorem call_sound {o : Oper} {n : Nat} {args : List AV} {K : St → Prop} {Q : Exit → Act → World → Prop} (hR : Rel E s a w) (hcall : ∀ ι S, Core E ι S s.hp s.nx w → TmOk ι S s.tm E.nt s.nx w a.tmps → ∃ vs : List Value, (execOp a.eval o).run E.P w = (callFunc n vs.toArray).run E.P w ∧ All2 (VRel w S ι) vs args ∧ ∀ x ∈ args, x.uses (· < s.nx))
    (hdst : ∀ d, o.dst = some d → d < E.nt) (h : CallP E.P E.fx n args s o.dst K) : o.wp E.P a w (fun a' w' => ∃ s', Rel E s' a' w' ∧ K s') Q := by
  obtain ⟨hs, hd, ι, S, hC, hTm⟩ := hR
  obtain ⟨vs, hrun, hvs, hus⟩ := hcall ι S hC hTm
  obtain ⟨gv, avs1, hg, hw⟩ := h.call
  refine Oper.wp_mono (fun a' w' ⟨s1, hr1, s2, h2, hk⟩ => ⟨s2, h2.rel hr1, hk⟩) (?_ : o.wp E.P a w (fun a' w' => ∃ s', Rel E s' a' w' ∧ ∃ s2, Forget s' s2 ∧ K s2) Q)
  cases gv with
  | nil =>
    have hg' : avs1 = args := hg
    subst hg'
    exact callW_sound hs hd hC hTm hrun hvs hdst hw
  | cons k r =>
    obtain ⟨g1, g2, g3⟩ := hg
    obtain ⟨ι', S', hC', hL, hSS, hgv⟩ := hC.give g1 g2
    refine callW_sound (s := give (k :: r) s) hs hd hC' (hTm.kill hL) hrun (All2.of (hvs.length.trans g3.length) fun i v b hv hb => ?_) hdst hw
    have hlt : i < args.length := by rw [g3.length]; exact (List.getElem?_eq_some_iff.1 hb).1
    have ha := List.getElem?_eq_getElem hlt
    have hab := g3.at ha hb
    have hva := hvs.at hv ha
    generalize args[i] = x at hab hva
    cases hab with
    | refl _ h => exact hva.mono hL (h _)
    | own id len e z rows h h1 h2 =>
      cases hva with
      | one hva => cases hva with
        | cell hva => exact .one (.cell (.rd (own_frz hC h h2 hva hSS fun g c z' e' => hgv id g c z' h1 e')))

theorem runOp_sound (hT : TabOk E.P tt) {o : Oper} {K : St → Prop} {Q : Exit → Act → World → Prop} (h : runOp tt E.P E.nt E.fx o s K) (hR : Rel E s a w) : o.wp E.P a w (fun a' w' => ∃ s', Rel E s' a' w' ∧ K s') Q := by
  have hst := stepA_sound (s := s) hT o
  unfold runOp at h
  have hR' := hR
  obtain ⟨tm, hp, nx⟩ := s
  obtain ⟨hs, hd, ι, S, hC, hTm⟩ := hR
  simp only at h
  have good : ∀ {d : Nat} {v : AV} {hp' : Hp} {nx' : Nat}, o.dst = some d → d < E.nt → Good E ⟨tm, hp, nx⟩ ((execOp a.eval o).run E.P w) w ι S v hp' nx' → K ⟨(d, v) :: tm, hp', nx'⟩ → o.wp E.P a w (fun a' w' => ∃ s', Rel E s' a' w' ∧ K s') Q := by
    intro d v hp' nx' hdd hlt hg hk
    obtain ⟨u, w', ι', S', hr, hC', hn, hL, hv, hu⟩ := hg
    unfold Oper.wp
    rw [hr, Oper.upon_value, hdd]
    exact ⟨_, rel_put (s' := ⟨tm, hp, nx⟩) hs hd hC' (Core.tm hTm hn hL) hlt hv hu, hk⟩
  cases hdd : o.dst with
  | some d =>
    simp only [hdd] at h
    cases hb : Nat.blt d E.nt with
    | false => simp [hb] at h
    | true =>
      have hlt : d < E.nt := Nat.le_of_ble_eq_true hb
      rw [hb] at h
      simp only [cond_true] at h
      cases hstep : stepA tt o.op ⟨tm, hp, nx⟩ with
      | no => simp [hstep] at h
      | setB id ob => simp [hstep] at h
      | set p id ob => simp [hstep] at h
      | setV p id v ob => simp only [hstep] at h; rw [hstep] at hst; exact good hdd hlt (hst h.1 a w ι S hC hTm) h.2
      | pick b x y =>
        simp only [hstep] at h
        rw [hstep] at hst
        have hr := hst a w ι S hTm
        unfold Oper.wp
        rw [hr, Oper.upon_value, hdd]
        cases b with
        | true =>
          have h' := h.t rfl
          cases hx : opnd tm x with
          | none => simp [hx] at h'
          | some v =>
            simp only [hx] at h'
            have hv := opnd_rel hTm hx
            exact ⟨_, rel_put (s' := ⟨tm, hp, nx⟩) hs hd hC hTm hlt hv.1 hv.2, h'⟩
        | false =>
          have h' := h.f rfl
          cases hx : opnd tm y with
          | none => simp [hx] at h'
          | some v =>
            simp only [hx] at h'
            have hv := opnd_rel hTm hx
            exact ⟨_, rel_put (s' := ⟨tm, hp, nx⟩) hs hd hC hTm hlt hv.1 hv.2, h'⟩
      | ok v => simp only [hstep] at h; rw [hstep] at hst; exact good hdd hlt (hst a w ι S hC hTm) h
      | cond p v => simp only [hstep] at h; rw [hstep] at hst; exact good hdd hlt (hst h.1 a w ι S hC hTm) h.2
      | newP ob => simp only [hstep] at h; rw [hstep] at hst; exact good hdd hlt (hst a w ι S hC hTm) h
      | newM ob => simp only [hstep] at h; rw [hstep] at hst; exact good hdd hlt (hst a w ι S hC hTm) h
      | newC ob => simp only [hstep] at h; rw [hstep] at hst; exact good hdd hlt (hst a w ι S hC hTm) h
      | each id ks left =>
        simp only [hstep] at h
        rw [hstep] at hst
        rcases hst a w ι S hC hTm with ⟨h0, hg⟩ | ⟨j, hj, hg⟩
        · exact good hdd hlt hg (h.1 h0)
        · exact good hdd hlt hg (h.2 j hj)
      | newL0 len ob =>
        simp only [hstep] at h; rw [hstep] at hst
        obtain ⟨u, w', ι', S', hr, hC', hL, hv, _⟩ := hst a w ι S hC hTm
        exact good hdd hlt ⟨u, w', ι', S', hr, hC', Nat.le_succ _, hL, hv, Nat.lt_succ_self _⟩ h
      | newL p len ob => simp only [hstep] at h; rw [hstep] at hst; exact good hdd hlt (hst h.1 a w ι S hC hTm) h.2
      | kill p id v ob =>
        simp only [hstep] at h
        rw [hstep] at hst
        cases hfx : memB id E.fx with
        | true => simp [hfx] at h
        | false =>
        rw [hfx] at h
        simp only [cond_false] at h
        obtain ⟨u, w', ι', S', hr, hC', hL, hv, hu⟩ := hst h.1 (hC.fxs.1 id hfx) a w ι S hC hTm
        unfold Oper.wp
        rw [hr, Oper.upon_value, hdd]
        exact ⟨_, rel_put (s' := ⟨tm, hp, nx⟩) hs hd hC' (hTm.kill hL) hlt hv hu, h.2⟩
      | call n args =>
        simp only [hstep] at h
        rw [hstep] at hst
        refine call_sound hR' (fun ι S hC hTm => hst a w ι S hC hTm) (fun d' hd' => ?_) (by rw [hdd]; exact h)
        rw [hdd] at hd'; cases hd'; exact hlt
  | none =>
    simp only [hdd] at h
    cases hstep : stepA tt o.op ⟨tm, hp, nx⟩ with
    | ok v =>
      simp only [hstep] at h
      rw [hstep] at hst
      obtain ⟨u, w', ι', S', hr, hC', hn, hL, hv, hu⟩ := hst a w ι S hC hTm
      unfold Oper.wp
      rw [hr, Oper.upon_value, hdd]
      exact ⟨_, rel_keep hs hd hC' (Core.tm hTm hn hL) _, h⟩
    | setB id ob =>
      simp only [hstep] at h
      rw [hstep] at hst
      obtain ⟨w', ι', S', hr, hC', hn, hL⟩ := hst a w ι S hC hTm
      unfold Oper.wp
      rw [hr, Oper.upon_skip, hdd]
      exact ⟨_, rel_keep hs hd hC' (Core.tm hTm hn hL) _, h⟩
    | set p id ob =>
      simp only [hstep] at h
      rw [hstep] at hst
      obtain ⟨w', ι', S', hr, hC', hn, hL⟩ := hst h.1 a w ι S hC hTm
      unfold Oper.wp
      rw [hr, Oper.upon_skip, hdd]
      exact ⟨_, rel_keep hs hd hC' (Core.tm hTm hn hL) _, h.2⟩
    | setV p id v ob =>
      simp only [hstep] at h
      rw [hstep] at hst
      obtain ⟨u, w', ι', S', hr, hC', hn, hL, hv, hu⟩ := hst h.1 a w ι S hC hTm
      unfold Oper.wp
      rw [hr, Oper.upon_value, hdd]
      exact ⟨_, rel_keep hs hd hC' (Core.tm hTm hn hL) _, h.2⟩
    | call n args =>
      simp only [hstep] at h
      rw [hstep] at hst
      refine call_sound hR' (fun ι S hC hTm => hst a w ι S hC hTm) (fun d' hd' => ?_) (by rw [hdd]; exact h)
      rw [hdd] at hd'; cases hd'
    | _ => simp [hstep] at h

theorem guardA_ok {ops : Array Oper} {j : Nat} {b : Option Bool} (hR : Rel E s a w) (h : guardA ops s.tm j = some b) : yielded ops a.tmps j = b := by
  obtain ⟨hs, hd, ι, S, hC, hTm⟩ := hR
  unfold guardA at h
  cases ho : ops[j]? with
  | none => simp [ho] at h
  | some o =>
    cases hdd : o.dst with
    | none => simp [ho, hdd] at h
    | some d =>
      simp only [ho, hdd] at h
      cases hl : look s.tm d with
      | none => simp [hl] at h
      | some v =>
        obtain ⟨h1, _, h3⟩ := hTm.tm d _ hl
        have hlt : d < a.tmps.size := by rw [hs]; exact h1
        rw [Array.getD, dif_pos hlt] at h3
        have hget := Array.getElem?_eq_getElem hlt
        unfold yielded
        simp only [ho, hdd, Option.bind_some, hget]
        simp only [hl] at h
        split at h
        · rename_i b' e
          simp only [Option.some.injEq] at h e
          subst h e
          have : a.tmps[d] = .bool b' := h3.val_inv.1
          rw [this]
        · rename_i e
          simp only [Option.some.injEq] at h e
          subst h e
          obtain ⟨vs, e1, e2⟩ := h3.tup_inv
          have : a.tmps[d] = .tuple vs.toArray := e1
          rw [this]
        · cases h

theorem skipA_sound {o : Oper} {K : St → Prop} (h : skipA E.nt o s K) (hR : Rel E s a w) : ∃ s', Rel E s' (a.put o.dst undef) w ∧ K s' := by
  unfold skipA at h
  obtain ⟨tm, hp, nx⟩ := s
  obtain ⟨hs, hd, ι, S, hC, hTm⟩ := hR
  cases hdd : o.dst with
  | some d =>
    simp only [hdd] at h
    cases hb : Nat.blt d E.nt with
    | false => simp [hb] at h
    | true =>
      rw [hb] at h
      exact ⟨_, rel_put (s' := ⟨tm, hp, nx⟩) hs hd hC hTm (Nat.le_of_ble_eq_true hb) (.tup [] [] trivial) (fun v hv => by cases hv), h⟩
  | none =>
    simp only [hdd] at h
    exact ⟨_, rel_keep hs hd hC hTm _, h⟩

/-- A guard decides what is asked. -/
theorem byGuard_sound {ops : Array Oper} {o : Oper} {X Y : Prop} (h : byGuard ops o s X Y) (hR : Rel E s a w) :
    (Region.wanted o (yielded ops a.tmps) = true ∧ X) ∨ (Region.wanted o (yielded ops a.tmps) = false ∧ Y) := by
  unfold byGuard at h
  cases hg : o.guard with
  | none => simp only [hg] at h; exact .inl ⟨by simp [Region.wanted, hg], h⟩
  | some jw =>
    obtain ⟨j, want⟩ := jw
    simp only [hg] at h
    cases hga : guardA ops s.tm j with
    | none => simp [hga] at h
    | some b =>
      have hy := guardA_ok hR hga
      have hw : Region.wanted o (yielded ops a.tmps) = (b == some want) := by simp only [Region.wanted, hg, hy]
      simp only [hga] at h
      rw [hw]
      cases b with
      | none => exact .inr ⟨by cases want <;> rfl, h⟩
      | some b =>
        simp only at h
        cases want with
        | true => cases b with
          | true => exact .inl ⟨rfl, h.t rfl⟩
          | false => exact .inr ⟨rfl, h.f rfl⟩
        | false => cases b with
          | true => exact .inr ⟨rfl, h.t rfl⟩
          | false => exact .inl ⟨rfl, h.f rfl⟩

theorem runOps_step (hT : TabOk E.P tt) {ops : Array Oper} {Q : Exit → Act → World → Prop} {K : St → Prop} {o : Oper} {r : List Oper} (h : runOps tt E.P E.nt E.fx ops (o :: r) s K) (hR : Rel E s a w) :
    if Region.wanted o (yielded ops a.tmps) then o.wp E.P a w (fun a' w' => ∃ s', Rel E s' a' w' ∧ runOps tt E.P E.nt E.fx ops r s' K) Q else ∃ s', Rel E s' (a.put o.dst undef) w ∧ runOps tt E.P E.nt E.fx ops r s' K := by
  simp only [runOps] at h
  rcases byGuard_sound h hR with ⟨hw, h⟩ | ⟨hw, h⟩
  · rw [if_pos hw]; exact runOp_sound hT h hR
  · rw [hw]; simp only [Bool.false_eq_true, if_false]; exact skipA_sound h hR

theorem runOps_sound (hT : TabOk E.P tt) {ops : Array Oper} {Q : Exit → Act → World → Prop} {K : St → Prop} (hQ : ∀ s a w, Rel E s a w → K s → Q .normal a w) : ∀ (l : List Oper) (s : St) (a : Act) (w : World), runOps tt E.P E.nt E.fx ops l s K → Rel E s a w → wpList E.P ops Q l a w
  | [], s, a, w, h, hR => hQ s a w hR h
  | o :: r, s, a, w, h, hR => by
    have ih := runOps_sound (ops := ops) hT hQ r
    refine wpList_step fun K' hK' => ?_
    have := runOps_step (Q := Q) hT h hR
    split
    · rename_i hw
      rw [if_pos hw] at this
      exact Oper.wp_mono (fun a' w' ⟨s'', hR'', h''⟩ => hK' a' w' (ih s'' a' w' h'' hR'')) this
    · rename_i hw
      rw [if_neg hw] at this
      obtain ⟨s', hR', h'⟩ := this
      exact hK' _ _ (ih s' _ w h' hR')

end Go.Am
