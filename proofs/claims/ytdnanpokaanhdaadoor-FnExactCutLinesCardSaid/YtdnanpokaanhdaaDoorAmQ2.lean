/-
  REGIONS THAT DRAW THEIR ORDER: what holds in every order.
-/
import Derived.Test.YtdnanpokaanhdaaDoorAmQ
namespace Go.Am
open Go.RowKit
set_option linter.unusedVariables false
set_option linter.unusedSimpArgs false

variable {E : Env} {s : St} {a : Act} {w : World} {ι : Loc} {S : Nat → Prop} {tt : Tab}

/-- A list just made is read from now on. -/
theorem freeze_new {hp : Hp} {nx len e sz : Nat} {rows : List (List AV)} {w' : World} {ι' : Loc} {S' : Nat → Prop} {v : Value} (hC : Core E ι S hp nx w) (hC' : Core E ι' S' ((nx, .list e sz rows) :: hp) (nx + 1) w') (hL : Later w w' S S' ι ι' (· < nx))
    (hv : VRel w' S' ι' v (.own nx len)) (hg : ∀ g c z, ι' nx = some (.blk g c z) → w.heap.size ≤ g) (hl : len ≤ rows.length) :
    ∃ ι'' S'', Core E ι'' S'' hp nx w' ∧ Later w w' S S'' ι ι'' (· < nx) ∧ VRel w' S'' ι'' v (.lst (rows.take len)) := by
  let ι'' : Loc := fun i => if i.id < nx then ι' i else none
  let S'' : Nat → Prop := fun b => S' b ∨ ∃ c z, ι' nx = some (.blk b c z)
  have up : ∀ (i : Key) p, ι'' i = some p → ι' i = some p ∧ i.id < nx := by
    intro i p h
    have h' : (if i.id < nx then ι' i else none) = some p := h
    split at h'
    · exact ⟨h', by assumption⟩
    · cases h'
  have dn : ∀ (i : Key) p, i.id < nx → ι' i = some p → ι'' i = some p := by
    intro i p h h'
    show (if i.id < nx then ι' i else none) = some p
    rw [if_pos h]; exact h'
  have hL2 : Later w' w' S' S'' ι' ι'' (· < nx) := ⟨fun b hb => ⟨.inl hb, rfl⟩, fun i p => dn ⟨i, []⟩ p⟩
  refine ⟨ι'', S'', ⟨hC'.frame, ?_, ?_, ?_, fun id g c s h => hC'.own id g c s (up id _ h).1, fun i j g c d s r h1 h2 => hC'.inj i j g _ _ _ _ (up i _ h1).1 (up j _ h2).1, ?_, ?_, ?_, hC'.fxs⟩, ⟨fun b hb => ⟨.inl (hL.rd b hb).1, (hL.rd b hb).2⟩, fun id p hid h => dn ⟨id, []⟩ p hid (hL.at_ id p hid h)⟩, ?_⟩
  · rintro b (hb | ⟨c, z, h⟩)
    · exact hC'.sub b hb
    · exact .inr (Nat.le_trans hC.frame.size (hg b c z h))
  · rintro b (hb | ⟨c, z, h⟩)
    · exact hC'.lt b hb
    · exact (hC'.own _ _ _ _ h).1
  · rintro b (hb | ⟨c, z, h⟩) ⟨id, c', s', h'⟩
    · exact hC'.dis b hb ⟨id, c', s', (up id _ h').1⟩
    · have := hC'.inj _ _ _ _ _ _ _ (up id _ h').1 h
      have h8 := (up id _ h').2
      rw [this] at h8
      exact absurd h8 (Nat.lt_irrefl _)
  · intro id hid
    show (if id.id < nx then ι' id else none) = none
    rw [if_neg (by omega)]
  · intro id o h
    obtain ⟨h1, h2, h3⟩ := hC.obj id o h
    have : look ((nx, .list e sz rows) :: hp) id = some o := by rw [look_cons_ne _ _ (by omega)]; exact h
    obtain ⟨_, _, g3⟩ := hC'.obj id o this
    exact ⟨h1, h2, g3.mono hL2 h1 h2 (fun _ k q hk hq => dn k q (by rw [hk]; exact h1) hq) (fun _ _ _ _ _ _ => rfl)⟩
  · intro id p h
    have h0 := hC.stay id p h
    have hlt : id < nx := by
      rcases Nat.lt_or_ge id nx with h' | h'
      · exact h'
      · rw [hC.new ⟨id, []⟩ h'] at h0; cases h0
    exact dn ⟨id, []⟩ p hlt (hC'.stay id p h)
  · obtain ⟨_, _, hob⟩ := hC'.obj nx _ (look_cons_eq _ _ _)
    have hlen : (rows.take len).length = len := by simp; omega
    rcases hv.own_inv with ⟨g, cap, s2, h1, h2, h3, ev⟩ | ⟨h1, rfl, ev⟩
    · subst ev
      cases hob with
      | nil _ _ h' _ => rw [h1] at h'; cases h'
      | list g' cap' _ _ _ vs h' hs hr hle hm hw hn hc =>
        rw [h1] at h'; simp at h'; obtain ⟨rfl, rfl, rfl⟩ := h'
        by_cases h0 : len = 0
        · subst h0; exact .one (.cell (.rd (.nil _ _ h3)))
        · have hmul : rows.length * s2 ≤ cap * s2 := Nat.mul_le_mul_right _ hle
          have hmul2 : len * s2 ≤ rows.length * s2 := Nat.mul_le_mul_right _ hl
          have := Rd.lst (w := w') (S := S'') (rows.take len) g 0 cap s2 (vs.take (len * s2)) (fun e' => by rw [e'] at hlen; simp at hlen; omega) (by omega) hm (.inr ⟨_, _, h1⟩) (fun r hr' => hr r (List.mem_of_mem_take hr')) (by rw [hlen, List.length_take, hn]; omega)
            (fun i v hi => by
              rw [Nat.zero_add]
              rw [List.getElem?_take] at hi
              split at hi
              · exact cells_of_block hw i v hi
              · cases hi)
            (fun i v av hi ha => by
              rw [flatten_take _ _ hr] at ha
              rw [List.getElem?_take] at hi ha
              split at hi
              · rename_i hlt
                rw [if_pos hlt] at ha
                exact (hc i v av hi ha).mono fun b hb => ⟨.inl hb, rfl⟩
              · cases hi)
          rw [hlen] at this
          exact .one (.cell (.rd this))
    · subst ev
      simp only [List.take_zero]
      exact .one (.cell (.rd (.nil _ _ (Nat.zero_le _))))

theorem rel_ext {tm tm' : List (Nat × AV)} {hp : Hp} {nx : Nat} (hR : Rel E ⟨tm, hp, nx⟩ a w) (h : ∀ t v, look tm' t = some v → look tm t = some v) : Rel E ⟨tm', hp, nx⟩ a w := by
  obtain ⟨hs, hd, ι, S, hC, hTm⟩ := hR
  exact ⟨hs, hd, ι, S, hC, ⟨fun t v hv => hTm.tm t v (h t v hv)⟩⟩
theorem rel_drew (hR : Rel E s a w) : Rel E s a { w with drawn := w.drawn + 1 } := by
  obtain ⟨hs, hd, ι, S, hC, hTm⟩ := hR
  exact ⟨hs, hd, ι, S, hC.drew, Core.tm hTm (Nat.le_refl _) ⟨fun b hb => ⟨hb, rfl⟩, fun id p _ h => h⟩⟩

theorem runOp_to {o : Oper} {s' : St} {Q : Exit → Act → World → Prop} (hT : TabOk E.P tt) (h : runOp tt E.P E.nt E.fx o s (fun x => x = s')) (hR : Rel E s a w) : o.wp E.P a w (fun a' w' => Rel E s' a' w') Q :=
  Oper.wp_mono (fun a' w' ⟨x, hx, e⟩ => by subst e; exact hx) (runOp_sound hT h hR)

theorem qval_sound (hT : TabOk E.P tt) {o : Oper} {tm : List (Nat × AV)} {hq hp : Hp} {nx d : Nat} {v : AV} {Q : Exit → Act → World → Prop} (hd : o.dst = some d) (hlt : d < E.nt) (hsub : ∀ id ob, look hq id = some ob → look hp id = some ob) (h : QVal tt hq o tm v)
    (hR : Rel E ⟨tm, hp, nx⟩ a w) : o.wp E.P a w (fun a' w' => Rel E ⟨(d, v) :: tm, hp, nx⟩ a' w') Q := by
  have hb : Nat.blt d E.nt = true := Nat.ble_eq_true_of_le hlt
  cases h with
  | ok h =>
    have e := stepA_mono (n' := nx) o.op hsub (by rw [h]; trivial)
    rw [h] at e
    exact runOp_to hT (by simp only [runOp, hd, hb, e, cond_true]) hR
  | cond h hp' =>
    have e := stepA_mono (n' := nx) o.op hsub (by rw [h]; trivial)
    rw [h] at e
    exact runOp_to hT (by simp only [runOp, hd, hb, e, cond_true]; exact ⟨hp', trivial⟩) hR
  | pick _ h hx =>
    rename_i b c x y
    have e := stepA_mono (n' := nx) o.op hsub (by rw [h]; trivial)
    rw [h] at e
    refine runOp_to hT ?_ hR
    simp only [runOp, hd, hb, e, cond_true]
    refine ⟨fun hb => ?_, fun hb => ?_⟩
    · subst hb; simp only [if_true] at hx; rw [hx]
    · subst hb; simp only [Bool.false_eq_true, if_false] at hx; rw [hx]
  | lst h =>
    rename_i len e sz rows
    have e := stepA_mono (n' := nx) o.op hsub (by rw [h]; trivial)
    rw [h] at e
    have hst := stepA_sound (s := ⟨tm, hp, nx⟩) hT o
    rw [e] at hst
    obtain ⟨hs, hdf, ι, S, hC, hTm⟩ := hR
    obtain ⟨u, w', ι', S', hr, hC', hL, hv, hg, hl⟩ := hst a w ι S hC hTm
    obtain ⟨ι'', S'', k1, k2, k3⟩ := freeze_new hC hC' hL hv hg (hl _ _ _ rfl)
    unfold Oper.wp
    rw [hr, Oper.upon_value, hd]
    exact rel_put (s' := ⟨tm, hp, nx⟩) hs hdf k1 (Core.tm hTm (Nat.le_refl _) k2) hlt k3 trivial

theorem qcall_sound (hT : TabOk E.P tt) {o : Oper} {tm : List (Nat × AV)} {hq hp ho : Hp} {nx m d f : Nat} {v : AV} {avs args : List AV} {share : Bool} {Q : Exit → Act → World → Prop} (hd : o.dst = some d) (hlt : d < E.nt)
    (hsub : ∀ id ob, look hq id = some ob → look hp id = some ob) (h : stepA tt o.op ⟨tm, hq, 0⟩ = .call f avs) (hcv : All2 (Cv hp [] share) avs args) (hret : Ret E.P f args [] nx true (Is v ho m)) (hsh : share = false → flatV v = true ∧ flatH ho)
    (hR : Rel E ⟨tm, hp, nx⟩ a w) : o.wp E.P a w (fun a' w' => Rel E ⟨(d, v) :: tm, ho ++ hp, m⟩ a' w') Q := by
  have hb : Nat.blt d E.nt = true := Nat.ble_eq_true_of_le hlt
  have e := stepA_mono (n' := nx) o.op hsub (by rw [h]; trivial)
  rw [h] at e
  refine runOp_to hT ?_ hR
  simp only [runOp, hd, hb, e, cond_true]
  refine CallP.plain ⟨args, [], true, share, Is v ho m, hcv, fun id o h => by simp [look] at h, hret, fun id h => by simp [killIds, memB] at h, ?_⟩
  rintro r ho' m' ⟨rfl, rfl, rfl⟩
  refine ⟨fun e => ?_, rfl⟩
  have hf : ∀ {h : Hp}, flatH h → ∀ id o, look h id = some o → flatO o := by
    intro h
    induction h with
    | nil => intro _ id o e; simp [look] at e
    | cons x r ih =>
      obtain ⟨k, ob⟩ := x
      intro hf id o e
      rw [look_cons] at e
      split at e
      · simp at e; subst e; exact hf.1
      · exact ih hf.2 id o e
  exact ⟨(hsh e).1, hf (hsh e).2⟩

/-! ### the body -/
structure BodyInv (md : Bool) (ops : Array Oper) (n : Nat) (f : Nat → St) (listed : Array Bool) (tm : List (Nat × AV)) (k : Nat) : Prop where
  le : k ≤ n
  i1 : ∀ j o t, j < n → listed.getD j false = true → ops[j]? = some o → o.dst = some t → look tm t = look (f n).tm t
  i2 : ∀ t, (∀ j o, j < n → listed.getD j false = true → ops[j]? = some o → o.dst ≠ some t) → look tm t = look (f 0).tm t
  i3 : ∀ j o, j < n → ops[j]? = some o → movB md o = true → (listed.getD j false = true ↔ j < k)

variable {P : Program} {nt n : Nat} {hq : Hp} {md : Bool} {ops : Array Oper} {f : Nat → St}

theorem BodyInv.at {listed : Array Bool} {tm : List (Nat × AV)} {k i : Nat} (h : Chain P tt nt hq md ops n f) (hI : BodyInv md ops n f listed tm k) (hi : i ≤ n) {t : Nat}
    (hdep : ∀ j q, j < n → ops[j]? = some q → q.dst = some t → j < i ∧ listed.getD j false = true) : look tm t = look (f i).tm t := by
  by_cases hex : ∃ j q, j < n ∧ ops[j]? = some q ∧ q.dst = some t
  · obtain ⟨j, q, hj, hq', hd⟩ := hex
    obtain ⟨h1, h2⟩ := hdep j q hj hq' hd
    rw [hI.i1 j q t hj h2 hq' hd, h.stay hj hq' hd n hj (Nat.le_refl _), h.stay hj hq' hd i h1 hi]
  · have hno : ∀ j q, j < n → ops[j]? = some q → q.dst ≠ some t := fun j q hj hq' hd => hex ⟨j, q, hj, hq', hd⟩
    rw [hI.i2 t fun j q hj _ hq' => hno j q hj hq', h.old i hi t fun j q hj hq' => hno j q (by omega) hq']

theorem waits_on {o : Oper} {j : Nat} {listed : Array Bool} (h : waits o j = true) (hall : ∀ e ∈ o.after, Region.binds .any e = true → listed.getD e.on false = true) : listed.getD j false = true := by
  unfold waits at h
  obtain ⟨e, he, hb⟩ := List.any_eq_true.1 h
  simp only [Bool.and_eq_true] at hb
  have := hall e (by simpa using he) hb.2
  rw [Nat.eq_of_beq_eq_true hb.1] at this
  exact this
theorem waitsTo_on {o : Oper} {listed : Array Bool} (hall : ∀ e ∈ o.after, Region.binds .any e = true → listed.getD e.on false = true) : ∀ {i : Nat}, waitsTo o i = true → ∀ j, j < i → listed.getD j false = true
  | 0, _, j, hj => by omega
  | i + 1, h, j, hj => by
    simp only [waitsTo, Bool.and_eq_true] at h
    by_cases e : j = i
    · subst e; exact waits_on h.1 hall
    · exact waitsTo_on hall h.2 j (by omega)

theorem pairB_read {i j : Nat} {o q : Oper} {t : Nat} (h : pairB i o j q = true) (hd : q.dst = some t) (hm : memB t (tmpsOf o.op.operands.toList) = true) : j < i ∧ waits o j = true := by
  unfold pairB at h
  simp only [hd] at h
  cases hb : Nat.beq i j with
  | true => simp [hb, hm] at h
  | false =>
    simp only [hb, cond_false, hm, Bool.not_true, Bool.false_or, Bool.and_eq_true] at h
    exact ⟨Nat.le_of_ble_eq_true h.2.1, h.2.2⟩
theorem guardA_at {o : Oper} {tm tm' : List (Nat × AV)} {g : Nat} (h : ∀ q t, ops[g]? = some q → q.dst = some t → look tm t = look tm' t) : guardA ops tm g = guardA ops tm' g := by
  unfold guardA
  cases hg : ops[g]? with
  | none => rfl
  | some q =>
    cases hd : q.dst with
    | none => simp only [hd]
    | some t => simp only [hd, h q t hg hd]

/-- One operation of the body, in whatever order. -/
theorem body_step (hT : TabOk E.P tt) (h : Chain E.P tt E.nt (f 0).hp md ops n f) {listed : Array Bool} {tm : List (Nat × AV)} {k i : Nat} {o : Oper} {Q : Exit → Act → World → Prop} (hsz : listed.size = ops.size) (hD : Down ops listed) (hI : BodyInv md ops n f listed tm k) (hlt0 : ∀ id ob, look (f 0).hp id = some ob → id < (f 0).nx)
    (hi : i < n) (ho : ops[i]? = some o) (hun : listed.getD i false = false) (hall : ∀ e ∈ o.after, Region.binds .any e = true → listed.getD e.on false = true) (hR : Rel E ⟨tm, (f k).hp, (f k).nx⟩ a w) :
    wpOp E.P ops Q i (fun a' w' => ∃ tm' k', BodyInv md ops n f (listed.setIfInBounds i true) tm' k' ∧ Rel E ⟨tm', (f k').hp, (f k').nx⟩ a' w') a w := by
  have hin : i < listed.size := by rw [hsz]; exact Nat.lt_of_lt_of_le hi h.le
  obtain ⟨d, v, hd, hdlt, htm, hcase⟩ := h.step i o hi ho
  -- what it looks at
  have hops : Agree o.op.operands.toList (f i).tm tm := by
    intro x hx
    refine opnd_eq fun t e => ?_
    subst e
    refine (BodyInv.at h hI (Nat.le_of_lt hi) fun j q hj hq' hd' => ?_).symm
    have hp := pairB_read (h.pair i j o q hi hj ho hq') hd' (mem_tmpsOf hx)
    exact ⟨hp.1, waits_on hp.2 hall⟩
  have hst : stepA tt o.op ⟨tm, (f 0).hp, 0⟩ = stepA tt o.op ⟨(f i).tm, (f 0).hp, 0⟩ := (stepA_congr o.op _ _ hops).symm
  have hgd : ∀ j want, o.guard = some (j, want) → guardA ops tm j = guardA ops (f i).tm j := by
    intro j want hg
    have hgb := h.guard i o hi ho
    simp only [guardB, hg, Bool.and_eq_true] at hgb
    have hji : j < i := Nat.le_of_ble_eq_true hgb.1
    refine guardA_at (o := o) fun q t hq' hd' => BodyInv.at h hI (Nat.le_of_lt hi) fun j' q' hj' hq'' hd'' => ?_
    by_cases e : j' = j
    · subst e; exact ⟨hji, waits_on hgb.2 hall⟩
    · exact absurd (hd''.trans hd'.symm) (h.ne hj' (by omega) e hq'' hq')
  -- what then holds
  have hnext : ∀ k', k' ≤ n → (∀ j q, j < n → ops[j]? = some q → movB md q = true → ((listed.setIfInBounds i true).getD j false = true ↔ j < k')) → BodyInv md ops n f (listed.setIfInBounds i true) ((d, v) :: tm) k' := by
    intro k' hk' h3
    refine ⟨hk', ?_, ?_, h3⟩
    · intro j q t hj hl hq' hd'
      by_cases e : j = i
      · subst e
        rw [ho] at hq'; cases hq'
        rw [hd] at hd'; cases hd'
        rw [look_cons_eq, h.stay hj ho hd n hj (Nat.le_refl _), htm, look_cons_eq]
      · have hne : d ≠ t := fun e' => h.ne hj hi e hq' ho (by rw [hd', hd, e'])
        rw [getD_set_other e] at hl
        rw [look_cons_ne _ _ hne]
        exact hI.i1 j q t hj hl hq' hd'
    · intro t ht
      have hne : d ≠ t := fun e => ht i o hi (getD_set_self hin) ho (by rw [hd, e])
      rw [look_cons_ne _ _ hne]
      refine hI.i2 t fun j q hj hl hq' => ht j q hj ?_ hq'
      have hji : j ≠ i := fun e => by subst e; rw [hun] at hl; cases hl
      rw [getD_set_other hji]; exact hl
  -- the call's number
  have hcallk : movB md o = true → k ≤ i ∧ (f i).hp = (f k).hp ∧ (f i).nx = (f k).nx ∧ BodyInv md ops n f (listed.setIfInBounds i true) ((d, v) :: tm) (i + 1) := by
    intro hcb
    have hki : k ≤ i := Nat.le_of_not_lt fun hlt => by
      have := (hI.i3 i o hi ho hcb).2 hlt
      rw [hun] at this; cases this
    have hno : ∀ j q, k ≤ j → j < i → ops[j]? = some q → movB md q = false := by
      intro j q hj hj' hq'
      cases hc : movB md q with
      | false => rfl
      | true =>
        have hw := close_on hD i _ (Nat.le_of_lt (Nat.lt_of_lt_of_le hi h.le)) (fun k hk => by
          obtain ⟨e, h1, h2, h3⟩ := memB_ons hk
          have := hall e h1 h2
          rw [h3] at this; exact this) j (h.call i o hi ho hcb j q hj' hq' hc)
        have := (hI.i3 j q (by omega) hq' hc).1 hw
        omega
    have hs := h.hpStay i hki (Nat.le_of_lt hi) hno
    refine ⟨hki, hs.1, hs.2, hnext (i + 1) hi fun j q hj hq' hc => ?_⟩
    by_cases e : j = i
    · subst e; exact ⟨fun _ => Nat.lt_succ_self _, fun _ => getD_set_self hin⟩
    · rw [getD_set_other e, hI.i3 j q hj hq' hc]
      constructor
      · intro h'; omega
      · intro h'
        rcases Nat.lt_or_ge j k with h'' | h''
        · exact h''
        · have := hno j q h'' (by omega) hq'
          rw [hc] at this; cases this
  have hquiet : movB md o = false → BodyInv md ops n f (listed.setIfInBounds i true) ((d, v) :: tm) k := by
    intro hcb
    refine hnext k hI.le fun j q hj hq' hc => ?_
    have hji : j ≠ i := fun e => by subst e; rw [ho] at hq'; cases hq'; rw [hcb] at hc; cases hc
    rw [getD_set_other hji]; exact hI.i3 j q hj hq' hc
  have hsub : ∀ id ob, look (f 0).hp id = some ob → look (f k).hp id = some ob := fun id ob hl => by
    rw [(h.sub k hI.le).2 id (hlt0 id ob hl)]; exact hl
  unfold wpOp
  simp only [ho]
  rcases hcase with ⟨⟨j, want, ob, hg, hga, hne⟩, hv, e1, e2⟩ | ⟨hg, hcase⟩
  · -- its guard strikes it
    subst hv
    have hy := guardA_ok (ops := ops) (s := ⟨tm, (f k).hp, (f k).nx⟩) hR ((hgd j want hg).trans hga)
    have hw : Region.wanted o (yielded ops a.tmps) = false := by
      simp only [Region.wanted, hg, hy]
      cases ob with
      | none => cases want <;> rfl
      | some b => cases b <;> cases want <;> first | rfl | exact absurd rfl hne
    rw [hw]
    simp only [Bool.false_eq_true, if_false]
    have hput : Rel E ⟨(d, .tup []) :: tm, (f k).hp, (f k).nx⟩ (a.put o.dst undef) w := by
      rw [hd]
      obtain ⟨hs, hdf, ι, S, hC, hTm⟩ := hR
      exact rel_put (s' := ⟨tm, (f k).hp, (f k).nx⟩) hs hdf hC hTm hdlt (.tup [] [] trivial) (fun v hv => by cases hv)
    cases hcb : movB md o with
    | false => exact ⟨_, k, hquiet hcb, hput⟩
    | true =>
      obtain ⟨hki, g1, g2, g3⟩ := hcallk hcb
      refine ⟨_, i + 1, g3, ?_⟩
      rw [e1, e2, g1, g2]; exact hput
  · have hw : Region.wanted o (yielded ops a.tmps) = true := by
      cases hgg : o.guard with
      | none => simp [Region.wanted, hgg]
      | some jw =>
        obtain ⟨j, want⟩ := jw
        have hy := guardA_ok (ops := ops) (s := ⟨tm, (f k).hp, (f k).nx⟩) hR ((hgd j want hgg).trans (hg j want hgg))
        simp [Region.wanted, hgg, hy]
    rw [hw]
    simp only [if_true]
    refine .inl ?_
    rcases hcase with ⟨hval | ⟨fn, avs, hs, hcv, hret⟩, e1, e2⟩ | ⟨rfl, fn, avs, args, share, hoo, hs, hcb, hcv, hret, hle, hnew, hsh, e1⟩ | ⟨rfl, ob, hs, hcb, rfl, e1, e2⟩
    · have hval' : QVal tt (f 0).hp o tm v := by
        cases hval with
        | ok h => exact .ok (hst.trans h)
        | cond h hp => exact .cond (hst.trans h) hp
        | lst h => exact .lst (hst.trans h)
        | pick hop h hx =>
          rename_i b c x y
          refine .pick hop (hst.trans h) ?_
          have hx' : ∀ z, z ∈ o.op.operands.toList → opnd tm z = opnd (f i).tm z := fun z hz => (hops z hz).symm
          have hmem : x ∈ o.op.operands.toList ∧ y ∈ o.op.operands.toList := by rw [hop]; simp [Op.operands]
          cases b with
          | true => simp only [if_true] at *; rw [hx' x hmem.1]; exact hx
          | false => simp only [Bool.false_eq_true, if_false] at *; rw [hx' y hmem.2]; exact hx
      have hwp := qval_sound (Q := Q) hT hd hdlt hsub hval' hR
      cases hcb : movB md o with
      | false => exact Oper.wp_mono (fun a' w' hr => ⟨_, k, hquiet hcb, hr⟩) hwp
      | true =>
        obtain ⟨hki, g1, g2, g3⟩ := hcallk hcb
        exact Oper.wp_mono (fun a' w' hr => ⟨_, i + 1, g3, by rw [e1, e2, g1, g2]; exact hr⟩) hwp
    · have hwp := qcall_sound (Q := Q) hT hd hdlt hsub (hst.trans hs) (hcv _) (hret _) (fun e => by cases e) hR
      cases hcb : movB md o with
      | false => exact Oper.wp_mono (fun a' w' hr => ⟨_, k, hquiet hcb, hr⟩) hwp
      | true =>
        obtain ⟨hki, g1, g2, g3⟩ := hcallk hcb
        exact Oper.wp_mono (fun a' w' hr => ⟨_, i + 1, g3, by rw [e1, e2, g1, g2]; exact hr⟩) hwp
    · obtain ⟨hki, g1, g2, g3⟩ := hcallk hcb
      rw [g1] at hcv
      rw [g2] at hret
      have hwp := qcall_sound (Q := Q) hT hd hdlt hsub (hst.trans hs) hcv hret hsh hR
      exact Oper.wp_mono (fun a' w' hr => ⟨_, i + 1, g3, by rw [e1, g1]; exact hr⟩) hwp
    · obtain ⟨hki, g1, g2, g3⟩ := hcallk hcb
      have hb : Nat.blt d E.nt = true := Nat.ble_eq_true_of_le hdlt
      have hst2 : stepA tt o.op ⟨tm, (f k).hp, (f k).nx⟩ = .newP ob := by
        rw [← hst.trans hs]
        cases hop : o.op with
        | alloc t => rfl
        | _ => simp [isAllocB, hop] at hcb
      refine Oper.wp_mono (fun a' w' hr => ⟨_, i + 1, g3, ?_⟩) (runOp_to (s' := ⟨(d, .pt (f k).nx 0 0) :: tm, ((f k).nx, ob) :: (f k).hp, (f k).nx + 1⟩) hT (by simp only [runOp, hd, hb, hst2, cond_true]) hR)
      rw [e1, e2, g1, g2]; exact hr

/-! ### the whole region -/
theorem allI_at {p : Nat → Oper → Bool} : ∀ {l : List Oper} {i : Nat}, allI p i l = true → ∀ j o, l[j]? = some o → p (i + j) o = true
  | [], i, _, j, o, h => by simp at h
  | x :: r, i, ha, 0, o, h => by simp only [allI, Bool.and_eq_true] at ha; simp at h; subst h; exact ha.1
  | x :: r, i, ha, j + 1, o, h => by
    simp only [allI, Bool.and_eq_true] at ha
    have := allI_at ha.2 j o (by simpa using h)
    rw [show i + (j + 1) = i + 1 + j by omega]; exact this
theorem backB_on {o : Oper} {i : Nat} (h : backB o i = true) : ∀ e ∈ o.after, Region.binds .any e = true → e.on < i := by
  intro e he hb
  have := List.all_eq_true.1 h e (by simpa using he)
  simp only [hb, Bool.not_true, Bool.false_or] at this
  exact Nat.le_of_ble_eq_true this

theorem allR_at {p : Nat → Prop} : ∀ {l : List Nat}, allR l p → ∀ i ∈ l, p i
  | [], _, i, hi => by cases hi
  | [k], h, i, hi => by rcases List.mem_cons.1 hi with rfl | hi; exact h; cases hi
  | k :: k' :: r, h, i, hi => by
    rcases List.mem_cons.1 hi with rfl | hi
    · exact h.l
    · exact allR_at (l := k' :: r) h.r i hi
theorem mem_readyL (all : List Bool) : ∀ (l : List Oper) (bs : List Bool) (i j : Nat), j ∈ readyL all i l bs ↔ i ≤ j ∧ bs[j - i]? = some false ∧ ∃ o, l[j - i]? = some o ∧ afterOk o all = true
  | [], bs, i, j => by simp [readyL]
  | o :: r, [], i, j => by simp [readyL]
  | o :: r, b :: bs, i, j => by
    have ih := mem_readyL all r bs (i + 1) j
    have key : (i ≤ j ∧ (b :: bs)[j - i]? = some false ∧ ∃ q, (o :: r)[j - i]? = some q ∧ afterOk q all = true) ↔ (j = i ∧ b = false ∧ afterOk o all = true) ∨ (i + 1 ≤ j ∧ bs[j - (i + 1)]? = some false ∧ ∃ q, r[j - (i + 1)]? = some q ∧ afterOk q all = true) := by
      by_cases e : j = i
      · subst e
        simp only [Nat.le_refl, Nat.sub_self, List.getElem?_cons_zero, Option.some.injEq, true_and, exists_eq_left']
        constructor
        · intro h; exact .inl h
        · rintro (h | ⟨h, _⟩)
          · exact h
          · omega
      · by_cases hlt : i ≤ j
        · have e' : j - i = (j - (i + 1)) + 1 := by omega
          rw [e', List.getElem?_cons_succ, List.getElem?_cons_succ]
          constructor
          · rintro ⟨_, h⟩; exact .inr ⟨by omega, h⟩
          · rintro (⟨h, _⟩ | ⟨_, h⟩)
            · exact absurd h e
            · exact ⟨hlt, h⟩
        · constructor
          · rintro ⟨h, _⟩; exact absurd h hlt
          · rintro (⟨h, _⟩ | ⟨h, _⟩) <;> omega
    rw [key]
    simp only [readyL]
    cases hb : (!b && afterOk o all) with
    | true =>
      simp only [Bool.and_eq_true, Bool.not_eq_true'] at hb
      rw [List.mem_cons, ih]
      simp only [hb.1, hb.2, and_self, and_true]
    | false =>
      rw [ih]
      constructor
      · intro h; exact .inr h
      · rintro (⟨_, h1, h2⟩ | h)
        · rw [h1, h2] at hb; cases hb
        · exact h
theorem readyL_iff {ops : Array Oper} {l : List Bool} (hl : l.length = ops.size) (i : Nat) : i ∈ Region.ready .any ops l.toArray ↔ i ∈ readyL l 0 ops.toList l := by
  rw [mem_ready, mem_readyL]
  simp only [Nat.zero_le, Nat.sub_zero, true_and, Array.getElem?_toList]
  have hd : ∀ j, l.toArray.getD j false = l.getD j false := fun j => by simp [Array.getD_eq_getD_getElem?, List.getD_eq_getElem?_getD]
  have h1 : l.toArray.getD i true = false ↔ l[i]? = some false := by
    rw [Array.getD_eq_getD_getElem?]
    simp only [List.getElem?_toArray]
    cases l[i]? <;> simp
  have h2 : ∀ o : Oper, (∀ e ∈ o.after, Region.binds .any e = true → l.toArray.getD e.on false = true) ↔ afterOk o l = true := by
    intro o
    unfold afterOk
    rw [List.all_eq_true]
    constructor
    · intro h e he
      have := h e (by simpa using he)
      cases hb : Region.binds .any e with
      | false => rfl
      | true => rw [hd] at this; simpa [hb] using this hb
    · intro h e he hb
      have := h e (by simpa using he)
      rw [hb] at this
      rw [hd]; simpa using this
  rw [h1]
  constructor
  · rintro ⟨a, o, b, c⟩; exact ⟨a, o, b, (h2 o).1 c⟩
  · rintro ⟨a, o, b, c⟩; exact ⟨a, o, b, (h2 o).2 c⟩
theorem brute_sound (hT : TabOk E.P tt) {ops : Array Oper} {Q : Exit → Act → World → Prop} {K : St → Prop} (hQ : ∀ s a w, Rel E s a w → K s → Q .normal a w) : ∀ (f : Nat) (listed : List Bool) (s : St) (a : Act) (w : World), listed.length = ops.size → bruteA tt E.P E.nt E.fx ops f listed s K → Rel E s a w → wpAny E.P .any ops Q f listed.toArray a w
  | 0, listed, s, a, w, hl, h, hR => by
    simp only [bruteA] at h
    cases hr : readyL listed 0 ops.toList listed with
    | nil =>
      simp only [hr] at h
      have : Region.ready .any ops listed.toArray = [] := List.eq_nil_iff_forall_not_mem.2 fun i hi => by rw [readyL_iff hl, hr] at hi; cases hi
      exact ⟨this, hQ s a w hR h⟩
    | cons i r => simp [hr] at h
  | f + 1, listed, s, a, w, hl, h, hR => by
    simp only [bruteA] at h
    cases hr : readyL listed 0 ops.toList listed with
    | nil =>
      simp only [hr] at h
      have : Region.ready .any ops listed.toArray = [] := List.eq_nil_iff_forall_not_mem.2 fun i hi => by rw [readyL_iff hl, hr] at hi; cases hi
      exact ⟨fun _ => hQ s a w hR h, fun i hi => (by rw [this] at hi; cases hi)⟩
    | cons i0 r =>
      simp only [hr] at h
      refine ⟨fun h0 => ?_, fun i hi => ?_⟩
      · have : i0 ∈ Region.ready .any ops listed.toArray := by rw [readyL_iff hl, hr]; exact List.mem_cons_self ..
        rw [h0] at this; cases this
      rw [readyL_iff hl, hr] at hi
      have h := allR_at h i hi
      unfold wpOp
      have hto : ops.toList[i]? = ops[i]? := by simp
      rw [hto] at h
      cases ho : ops[i]? with
      | none => simp [ho] at h
      | some o =>
        simp only [ho] at h ⊢
        have hset : listed.toArray.setIfInBounds i true = (listed.set i true).toArray := by simp
        rw [hset]
        rcases byGuard_sound h hR with ⟨hw, h⟩ | ⟨hw, h⟩
        · rw [if_pos hw]
          exact .inl (Oper.wp_mono (fun a' w' ⟨s', h1, h2⟩ => brute_sound hT hQ f _ s' a' w' (by simp [hl]) h2 h1) (runOp_sound hT h hR))
        · rw [hw]
          simp only [Bool.false_eq_true, if_false]
          obtain ⟨s', h1, h2⟩ := skipA_sound h hR
          exact brute_sound hT hQ f _ s' _ w (by simp [hl]) h2 h1
theorem sizeL_eq : ∀ (l : List Oper), sizeL l = l.length
  | [] => rfl
  | _ :: r => by simp [sizeL, sizeL_eq r]
theorem falses_eq : ∀ (l : List Oper), falses l = List.replicate l.length false
  | [] => rfl
  | _ :: r => by simp [falses, falses_eq r, List.replicate_succ]

theorem memAll_at : ∀ {l m : List Nat}, memAll l m = true → ∀ k, k ∈ l → memB k m = true
  | [], _, _, k, hk => by cases hk
  | x :: r, m, h, k, hk => by
    simp only [memAll, Bool.and_eq_true] at h
    rcases List.mem_cons.1 hk with rfl | hk
    · exact h.1
    · exact memAll_at h.2 k hk
theorem callsB_at (md : Bool) (full : List Oper) (h0 : callsB md [] 0 [] full = true) : ∀ i o, full[i]? = some o → movB md o = true → ∀ j q, j < i → full[j]? = some q → movB md q = true → memB j (closeGo (full.take i).reverse i (onsL o.after.toList)) = true := by
  have key : ∀ (m b : Nat) (calls : List Nat), m = full.length - b → callsB md (full.take b).reverse b calls (full.drop b) = true → (∀ j q, j < b → full[j]? = some q → movB md q = true → j ∈ calls) →
      ∀ i o, b ≤ i → full[i]? = some o → movB md o = true → ∀ j q, j < i → full[j]? = some q → movB md q = true → memB j (closeGo (full.take i).reverse i (onsL o.after.toList)) = true := by
    intro m
    induction m with
    | zero =>
      intro b calls hm _ _ i o hi ho
      have := (List.getElem?_eq_some_iff.1 ho).1
      omega
    | succ m ih =>
      intro b calls hm hb hc i o hi ho hcb j q hj hq hcq
      have hlt : b < full.length := by omega
      have hfb := List.getElem?_eq_getElem hlt
      rw [List.drop_eq_getElem_cons hlt] at hb
      have hrev : (full.take (b + 1)).reverse = full[b] :: (full.take b).reverse := by
        rw [List.take_succ_eq_append_getElem hlt, List.reverse_append]; rfl
      simp only [callsB] at hb
      cases hcl : movB md full[b] with
      | true =>
        simp only [hcl, Bool.and_eq_true] at hb
        by_cases e : i = b
        · subst e
          rw [hfb] at ho; cases ho
          have hmem := hc j q hj hq hcq
          cases calls with
          | nil => cases hmem
          | cons k ks => exact memAll_at hb.1 j hmem
        · refine ih (b + 1) (b :: calls) (by omega) (by rw [hrev]; exact hb.2) ?_ i o (by omega) ho hcb j q hj hq hcq
          intro j' q' hj' hq' hc'
          by_cases e' : j' = b
          · subst e'; exact List.mem_cons_self ..
          · exact List.mem_cons_of_mem _ (hc j' q' (by omega) hq' hc')
      | false =>
        simp only [hcl] at hb
        by_cases e : i = b
        · subst e
          rw [hfb] at ho; cases ho
          rw [hcl] at hcb; cases hcb
        · refine ih (b + 1) calls (by omega) (by rw [hrev]; exact hb) ?_ i o (by omega) ho hcb j q hj hq hcq
          intro j' q' hj' hq' hc'
          by_cases e' : j' = b
          · subst e'; rw [hfb] at hq'; cases hq'; rw [hcl] at hc'; cases hc'
          · exact hc j' q' (by omega) hq' hc'
  exact fun i o => key _ 0 [] rfl (by simpa using h0) (fun j q hj => by omega) i o (Nat.zero_le _)
theorem callsP_at (tt : Tab) (full : List Oper) (h0 : callsP tt [] 0 [] full = true) : ∀ i o, full[i]? = some o → ptrCallB tt o = true → ∀ j q, j < i → full[j]? = some q → ptrCallB tt q = true → memB j (closeGo (full.take i).reverse i (onsL o.after.toList)) = true := by
  have key : ∀ (m b : Nat) (calls : List Nat), m = full.length - b → callsP tt (full.take b).reverse b calls (full.drop b) = true → (∀ j q, j < b → full[j]? = some q → ptrCallB tt q = true → j ∈ calls) →
      ∀ i o, b ≤ i → full[i]? = some o → ptrCallB tt o = true → ∀ j q, j < i → full[j]? = some q → ptrCallB tt q = true → memB j (closeGo (full.take i).reverse i (onsL o.after.toList)) = true := by
    intro m
    induction m with
    | zero =>
      intro b calls hm _ _ i o hi ho
      have := (List.getElem?_eq_some_iff.1 ho).1
      omega
    | succ m ih =>
      intro b calls hm hb hc i o hi ho hcb j q hj hq hcq
      have hlt : b < full.length := by omega
      have hfb := List.getElem?_eq_getElem hlt
      rw [List.drop_eq_getElem_cons hlt] at hb
      have hrev : (full.take (b + 1)).reverse = full[b] :: (full.take b).reverse := by
        rw [List.take_succ_eq_append_getElem hlt, List.reverse_append]; rfl
      simp only [callsP] at hb
      cases hcl : ptrCallB tt full[b] with
      | true =>
        simp only [hcl, Bool.and_eq_true] at hb
        by_cases e : i = b
        · subst e
          rw [hfb] at ho; cases ho
          have hmem := hc j q hj hq hcq
          cases calls with
          | nil => cases hmem
          | cons k ks => exact memAll_at hb.1 j hmem
        · refine ih (b + 1) (b :: calls) (by omega) (by rw [hrev]; exact hb.2) ?_ i o (by omega) ho hcb j q hj hq hcq
          intro j' q' hj' hq' hc'
          by_cases e' : j' = b
          · subst e'; exact List.mem_cons_self ..
          · exact List.mem_cons_of_mem _ (hc j' q' (by omega) hq' hc')
      | false =>
        simp only [hcl] at hb
        by_cases e : i = b
        · subst e
          rw [hfb] at ho; cases ho
          rw [hcl] at hcb; cases hcb
        · refine ih (b + 1) calls (by omega) (by rw [hrev]; exact hb) ?_ i o (by omega) ho hcb j q hj hq hcq
          intro j' q' hj' hq' hc'
          by_cases e' : j' = b
          · subst e'; rw [hfb] at hq'; cases hq'; rw [hcl] at hc'; cases hc'
          · exact hc j' q' (by omega) hq' hc'
  exact fun i o => key _ 0 [] rfl (by simpa using h0) (fun j q hj => by omega) i o (Nat.zero_le _)
theorem trues_eq : ∀ (n : Nat), trues n = List.replicate n true
  | 0 => rfl
  | n + 1 => by simp [trues, trues_eq n, List.replicate_succ]
theorem memB_iff' (i : Nat) : ∀ (l : List Nat), memB i l = true ↔ i ∈ l
  | [] => by simp [memB]
  | k :: r => by
    rw [memB_cons, List.mem_cons]
    split
    · rename_i h; simp [h]
    · rename_i h; rw [memB_iff' i r]; simp [h]
/-! ### a region with several appends -/
theorem byGuard_mono' {ops : Array Oper} {o : Oper} {s : St} {X Y X' Y' : Prop} (hx : X → X') (hy : Y → Y') (h : byGuard ops o s X Y) : byGuard ops o s X' Y' := by
  have hc : ∀ {b : Bool} {A B A' B' : Prop}, (A → A') → (B → B') → CondP b A B → CondP b A' B' := fun f g k => ⟨fun e => f (k.t e), fun e => g (k.f e)⟩
  unfold byGuard at *
  cases hg : o.guard with
  | none => simp only [hg] at *; exact hx h
  | some jw =>
    obtain ⟨j, want⟩ := jw
    simp only [hg] at *
    cases hga : guardA ops s.tm j with
    | none => simp [hga] at h
    | some ob =>
      simp only [hga] at *
      cases ob with
      | none => exact hy h
      | some b =>
        cases want with
        | true => exact hc hx hy h
        | false => exact hc hy hx h
def dropT (ks : List Nat) : List (Nat × AV) → List (Nat × AV)
  | [] => []
  | (t, a) :: r => match memB t ks with
    | true => dropT ks r
    | false => (t, a) :: dropT ks r
theorem look_dropT (ks : List Nat) (t : Nat) : ∀ (tm : List (Nat × AV)), look (dropT ks tm) t = if memB t ks = true then none else look tm t
  | [] => by simp [dropT, look]
  | (k, a) :: r => by
    have ih := look_dropT ks t r
    simp only [dropT]
    cases hk : memB k ks with
    | true =>
      simp only []
      rw [ih]
      by_cases e : k = t
      · subst e; simp [hk]
      · rw [look_cons_ne _ _ e]
    | false =>
      simp only []
      by_cases e : k = t
      · subst e; rw [look_cons_eq, look_cons_eq]; simp [hk]
      · rw [look_cons_ne _ _ e, look_cons_ne _ _ e, ih]
theorem dropT_cons {ks : List Nat} {d : Nat} (v : AV) (tm : List (Nat × AV)) (h : memB d ks = false) : dropT ks ((d, v) :: tm) = (d, v) :: dropT ks tm := by simp only [dropT, h]
theorem dropT_killT (ks is : List Nat) : ∀ (tm : List (Nat × AV)), dropT ks (killT is tm) = killT is (dropT ks tm)
  | [] => rfl
  | (k, a) :: r => by
    simp only [killT, dropT]
    cases hk : memB k ks with
    | true => simp only []; exact dropT_killT ks is r
    | false => simp only [killT]; rw [dropT_killT ks is r]
theorem dropT_killTx (ks is : List Nat) (tm : List (Nat × AV)) : dropT ks (killTx is tm) = killTx is (dropT ks tm) := by
  cases is with
  | nil => rfl
  | cons k r => exact dropT_killT ks (k :: r) tm
theorem dropT_setD {ks : List Nat} {dst : Option Nat} (v : AV) (tm : List (Nat × AV)) (h : ∀ d, dst = some d → memB d ks = false) : dropT ks (setD dst v tm) = setD dst v (dropT ks tm) := by
  cases dst with
  | none => rfl
  | some d => exact dropT_cons v tm (h d rfl)
abbrev dropS (ks : List Nat) (s : St) : St := ⟨dropT ks s.tm, s.hp, s.nx⟩
theorem opnd_drop {ks : List Nat} {tm : List (Nat × AV)} {x : Operand} (h : ∀ t, x = .tmp t → memB t ks = false) : opnd (dropT ks tm) x = opnd tm x :=
  opnd_eq fun t e => by rw [look_dropT, if_neg (by rw [h t e]; simp)]
theorem Forget.drop {ks : List Nat} {s s' : St} (h : Forget s s') : Forget (dropS ks s) (dropS ks s') := by
  refine ⟨fun t v e => ?_, h.hp, h.nx⟩
  simp only [dropS, look_dropT] at e ⊢
  split at e
  · cases e
  · rename_i hn; rw [if_neg hn]; exact h.tm t v e
theorem CallP.drop {P : Program} {fx : List Nat} {f : FuncId} {avs : List AV} {s : St} {dst : Option Nat} {K : St → Prop} {ks : List Nat} (hd : ∀ d, dst = some d → memB d ks = false) (h : CallP P fx f avs s dst K) : CallP P fx f avs (dropS ks s) dst fun s' => ∃ s1, K s1 ∧ s' = dropS ks s1 := by
  obtain ⟨gv, avs1, hg, args, hi, st, share, Q, h1, h2, h3, h4, h5⟩ := h.call
  have e : give gv (dropS ks s) = dropS ks (give gv s) := by
    cases gv with
    | nil => rfl
    | cons k r => simp only [give, dropS, dropT_killT]
  refine ⟨gv, avs1, hg, ?_⟩
  rw [e]
  refine ⟨args, hi, st, share, Q, h1, h2, h3, h4, fun r ho m hq => ?_⟩
  obtain ⟨k1, s2, k2, k3⟩ := h5 r ho m hq
  refine ⟨k1, dropS ks s2, ?_, s2, k3, rfl⟩
  have e2 : (⟨setD dst r (killTx (killIds st hi) (dropT ks (give gv s).tm)), ho ++ killHx (killIds st hi) (give gv s).hp, m⟩ : St) = dropS ks ⟨setD dst r (killTx (killIds st hi) (give gv s).tm), ho ++ killHx (killIds st hi) (give gv s).hp, m⟩ := by
    show (⟨setD dst r (killTx _ (dropT ks (give gv s).tm)), _, m⟩ : St) = ⟨dropT ks (setD dst r (killTx _ (give gv s).tm)), _, m⟩
    rw [dropT_setD _ _ hd, dropT_killTx]
  show Forget (⟨setD dst r (killTx (killIds st hi) (dropT ks (give gv s).tm)), ho ++ killHx (killIds st hi) (give gv s).hp, m⟩ : St) (dropS ks s2)
  rw [e2]
  exact k2.drop
theorem runOp_drop {P : Program} {nt : Nat} {fx : List Nat} {o : Oper} {s : St} {K : St → Prop} {ks : List Nat} (hop : ∀ t, .tmp t ∈ o.op.operands.toList → memB t ks = false) (hd : ∀ d, o.dst = some d → memB d ks = false) (h : runOp tt P nt fx o s K) :
    runOp tt P nt fx o (dropS ks s) fun s' => ∃ s1, K s1 ∧ s' = dropS ks s1 := by
  have hag : Agree o.op.operands.toList (dropT ks s.tm) s.tm := fun x hx => opnd_drop fun t e => hop t (e ▸ hx)
  obtain ⟨tm, hp, nx⟩ := s
  have hst : stepA tt o.op ⟨dropT ks tm, hp, nx⟩ = stepA tt o.op ⟨tm, hp, nx⟩ := stepA_congr o.op hp nx hag
  unfold runOp at *
  simp only [dropS] at *
  cases hdd : o.dst with
  | some d =>
    have hdk := hd d hdd
    simp only [hdd] at h ⊢
    cases hb : Nat.blt d nt with
    | false => simp [hb] at h
    | true =>
      simp only [hb, cond_true, hst] at h ⊢
      cases hs : stepA tt o.op ⟨tm, hp, nx⟩ with
      | ok v => simp only [hs] at *; exact ⟨_, h, by simp only [dropS, dropT_cons _ _ hdk]⟩
      | cond p v => simp only [hs] at *; exact ⟨h.1, _, h.2, by simp only [dropS, dropT_cons _ _ hdk]⟩
      | newP ob => simp only [hs] at *; exact ⟨_, h, by simp only [dropS, dropT_cons _ _ hdk]⟩
      | newM ob => simp only [hs] at *; exact ⟨_, h, by simp only [dropS, dropT_cons _ _ hdk]⟩
      | newC ob => simp only [hs] at *; exact ⟨_, h, by simp only [dropS, dropT_cons _ _ hdk]⟩
      | each id kk left => simp only [hs] at h ⊢; exact ⟨fun h0 => ⟨_, h.1 h0, by simp only [dropS, dropT_cons _ _ hdk]⟩, fun j hj => ⟨_, h.2 j hj, by simp only [dropS, dropT_cons _ _ hdk]⟩⟩
      | setV p id v ob => simp only [hs] at *; exact ⟨h.1, _, h.2, by simp only [dropS, dropT_cons _ _ hdk]⟩
      | newL0 l ob => simp only [hs] at *; exact ⟨_, h, by simp only [dropS, dropT_cons _ _ hdk]⟩
      | newL p l ob => simp only [hs] at *; exact ⟨h.1, _, h.2, by simp only [dropS, dropT_cons _ _ hdk]⟩
      | kill p id v ob =>
        simp only [hs] at *
        cases hf : memB id fx with
        | true => simp [hf] at h
        | false =>
          simp only [hf, cond_false] at *
          exact ⟨h.1, _, h.2, by simp only [dropS, dropT_cons _ _ hdk, dropT_killT]⟩
      | call n args => simp only [hs] at *; exact CallP.drop (s := ⟨tm, hp, nx⟩) (fun d' e => by cases e; exact hdk) h
      | pick b x y =>
        simp only [hs] at h ⊢
        have hxy : x ∈ o.op.operands.toList ∧ y ∈ o.op.operands.toList := by
          obtain ⟨c, e⟩ := stepA_pick hs
          rw [e]; simp [Op.operands]
        rw [hag x hxy.1, hag y hxy.2]
        refine ⟨fun e => ?_, fun e => ?_⟩
        · have := h.t e
          cases hx : opnd tm x with
          | none => simp [hx] at this
          | some v => simp only [hx] at this ⊢; exact ⟨_, this, by simp only [dropS, dropT_cons _ _ hdk]⟩
        · have := h.f e
          cases hx : opnd tm y with
          | none => simp [hx] at this
          | some v => simp only [hx] at this ⊢; exact ⟨_, this, by simp only [dropS, dropT_cons _ _ hdk]⟩
      | _ => simp [hs] at h
  | none =>
    simp only [hdd, hst] at h ⊢
    cases hs : stepA tt o.op ⟨tm, hp, nx⟩ with
    | ok v => simp only [hs] at *; exact ⟨_, h, rfl⟩
    | setB id ob => simp only [hs] at *; exact ⟨_, h, rfl⟩
    | set p id ob => simp only [hs] at *; exact ⟨h.1, _, h.2, rfl⟩
    | setV p id v ob => simp only [hs] at *; exact ⟨h.1, _, h.2, rfl⟩
    | call n args => simp only [hs] at *; exact CallP.drop (s := ⟨tm, hp, nx⟩) (fun d' e => by cases e) h
    | _ => simp [hs] at h
theorem preStep_drop {P : Program} {nt : Nat} {fx : List Nat} {ops : Array Oper} {o : Oper} {s : St} {K : St → Prop} {ks : List Nat} (hop : ∀ t, .tmp t ∈ o.op.operands.toList → memB t ks = false) (hd : ∀ d, o.dst = some d → memB d ks = false) (h : preStep tt P nt fx ops o s K) :
    preStep tt P nt fx ops o (dropS ks s) fun s' => ∃ s1, K s1 ∧ s' = dropS ks s1 := by
  unfold preStep at *
  cases hl : litB ops.toList o with
  | false => rw [hl] at h; exact runOp_drop hop hd h
  | true =>
    rw [hl] at h
    simp only [cond_true] at h ⊢
    have hag : Agree o.op.operands.toList (dropT ks s.tm) s.tm := fun x hx => opnd_drop fun t e => hop t (e ▸ hx)
    obtain ⟨tm, hp, nx⟩ := s
    have hst : stepA tt o.op ⟨dropT ks tm, hp, 0⟩ = stepA tt o.op ⟨tm, hp, 0⟩ := stepA_congr o.op hp 0 hag
    unfold litOp at *
    simp only [dropS] at h ⊢
    cases hdd : o.dst with
    | none => simp [hdd] at h
    | some d =>
      simp only [hdd] at h ⊢
      cases hb : Nat.blt d nt with
      | false => simp [hb] at h
      | true =>
        simp only [hb, cond_true, hst] at h ⊢
        cases hs : stepA tt o.op ⟨tm, hp, 0⟩ with
        | newL0 len ob =>
          cases ob with
          | box cs => simp [hs] at h
          | map => simp [hs] at h
          | ranged => simp [hs] at h
          | clo => simp [hs] at h
          | nest => simp [hs] at h
          | list e sz rows => simp only [hs] at h ⊢; exact ⟨_, h, by simp only [dropS, dropT_cons _ _ (hd d hdd)]⟩
        | _ => simp [hs] at h
theorem preStep_sound (hT : TabOk E.P tt) {ops : Array Oper} {o : Oper} {K : St → Prop} {Q : Exit → Act → World → Prop} (h : preStep tt E.P E.nt E.fx ops o s K) (hR : Rel E s a w) : o.wp E.P a w (fun a' w' => ∃ s', Rel E s' a' w' ∧ K s') Q := by
  unfold preStep at h
  cases hl : litB ops.toList o with
  | false => rw [hl] at h; exact runOp_sound hT h hR
  | true =>
    rw [hl] at h
    simp only [cond_true] at h
    obtain ⟨tm, hp, nx⟩ := s
    unfold litOp at h
    simp only at h
    cases hd : o.dst with
    | none => simp [hd] at h
    | some d =>
      simp only [hd] at h
      cases hb : Nat.blt d E.nt with
      | false => simp [hb] at h
      | true =>
        simp only [hb, cond_true] at h
        cases hs : stepA tt o.op ⟨tm, hp, 0⟩ with
        | newL0 len ob =>
          cases ob with
          | box cs => simp [hs] at h
          | map => simp [hs] at h
          | ranged => simp [hs] at h
          | clo => simp [hs] at h
          | nest => simp [hs] at h
          | list e sz rows =>
            simp only [hs] at h
            exact Oper.wp_mono (fun a' w' hr => ⟨_, hr, h⟩) (qval_sound (hq := hp) hT hd (Nat.le_of_ble_eq_true hb) (fun _ _ h => h) (.lst hs) hR)
        | _ => simp [hs] at h
theorem skipA_drop {nt : Nat} {o : Oper} {s : St} {K : St → Prop} {ks : List Nat} (hd : ∀ d, o.dst = some d → memB d ks = false) (h : skipA nt o s K) : skipA nt o (dropS ks s) fun s' => ∃ s1, K s1 ∧ s' = dropS ks s1 := by
  obtain ⟨tm, hp, nx⟩ := s
  unfold skipA at *
  simp only [dropS] at h ⊢
  cases hdd : o.dst with
  | none => simp only [hdd] at h ⊢; exact ⟨_, h, rfl⟩
  | some d =>
    simp only [hdd] at h ⊢
    cases hb : Nat.blt d nt with
    | false => simp [hb] at h
    | true => simp only [hb, cond_true] at h ⊢; exact ⟨_, h, by simp only [dropS, dropT_cons _ _ (hd d hdd)]⟩
theorem allS_at {p : Nat → Oper → Bool → Bool} : ∀ {l : List Oper} {bs : List Bool} {i : Nat}, allS p i l bs = true → bs.length = l.length ∧ ∀ j o b, l[j]? = some o → bs[j]? = some b → p (i + j) o b = true
  | [], [], i, _ => ⟨rfl, fun j o b h => by simp at h⟩
  | x :: r, c :: cs, i, ha => by
    simp only [allS, Bool.and_eq_true] at ha
    obtain ⟨h1, h2⟩ := allS_at ha.2
    refine ⟨by simp [h1], fun j o b ho hb => ?_⟩
    cases j with
    | zero => simp at ho hb; subst ho hb; exact ha.1
    | succ j =>
      have := h2 j o b (by simpa using ho) (by simpa using hb)
      rw [show i + (j + 1) = i + 1 + j by omega]; exact this
  | [], _ :: _, _, h => by simp [allS] at h
  | _ :: _, [], _, h => by simp [allS] at h
theorem boxesOf_look : ∀ {hp : Hp} {seen : List Nat} {id : Nat} {o : AObj}, look (boxesOf seen hp) id = some o → memB id seen = false ∧ look hp id = some o
  | [], seen, id, o, h => by simp [boxesOf, look] at h
  | (k, .box cs) :: r, seen, id, o, h => by
    simp only [boxesOf] at h
    cases hk : memB k seen with
    | true =>
      simp only [hk] at h
      obtain ⟨h1, h2⟩ := boxesOf_look h
      have hne : k ≠ id := fun e => by subst e; rw [hk] at h1; cases h1
      exact ⟨h1, by rw [look_cons_ne _ _ hne]; exact h2⟩
    | false =>
      simp only [hk] at h
      rw [look_cons] at h
      split at h
      · rename_i e; subst e; exact ⟨hk, by rw [look_cons_eq]; exact h⟩
      · rename_i e
        obtain ⟨h1, h2⟩ := boxesOf_look h
        rw [memB_cons, if_neg (fun e' => e e'.symm)] at h1
        exact ⟨h1, by rw [look_cons_ne _ _ e]; exact h2⟩
  | (k, .list e s rows) :: r, seen, id, o, h => by
    simp only [boxesOf] at h
    obtain ⟨h1, h2⟩ := boxesOf_look h
    rw [memB_cons] at h1
    have hne : k ≠ id := fun e => by subst e; simp at h1
    rw [if_neg (fun e => hne e.symm)] at h1
    exact ⟨h1, by rw [look_cons_ne _ _ hne]; exact h2⟩
  | (k, .nest e s rows) :: r, seen, id, o, h => by
    simp only [boxesOf] at h
    obtain ⟨h1, h2⟩ := boxesOf_look h
    rw [memB_cons] at h1
    have hne : k ≠ id := fun e => by subst e; simp at h1
    rw [if_neg (fun e => hne e.symm)] at h1
    exact ⟨h1, by rw [look_cons_ne _ _ hne]; exact h2⟩
  | (k, .map e s) :: r, seen, id, o, h => by
    simp only [boxesOf] at h
    obtain ⟨h1, h2⟩ := boxesOf_look h
    rw [memB_cons] at h1
    have hne : k ≠ id := fun e => by subst e; simp at h1
    rw [if_neg (fun e => hne e.symm)] at h1
    exact ⟨h1, by rw [look_cons_ne _ _ hne]; exact h2⟩
  | (k, .ranged e s u) :: r, seen, id, o, h => by
    simp only [boxesOf] at h
    obtain ⟨h1, h2⟩ := boxesOf_look h
    rw [memB_cons] at h1
    have hne : k ≠ id := fun e => by subst e; simp at h1
    rw [if_neg (fun e => hne e.symm)] at h1
    exact ⟨h1, by rw [look_cons_ne _ _ hne]; exact h2⟩
  | (k, .clo e s u) :: r, seen, id, o, h => by
    simp only [boxesOf] at h
    obtain ⟨h1, h2⟩ := boxesOf_look h
    rw [memB_cons] at h1
    have hne : k ≠ id := fun e => by subst e; simp at h1
    rw [if_neg (fun e => hne e.symm)] at h1
    exact ⟨h1, by rw [look_cons_ne _ _ hne]; exact h2⟩
theorem QVal.agree {hq : Hp} {o : Oper} {tm tm' : List (Nat × AV)} {v : AV} (h : Agree o.op.operands.toList tm tm') (hv : QVal tt hq o tm v) : QVal tt hq o tm' v := by
  have hst : stepA tt o.op ⟨tm', hq, 0⟩ = stepA tt o.op ⟨tm, hq, 0⟩ := (stepA_congr o.op _ _ h).symm
  cases hv with
  | ok h => exact .ok (hst.trans h)
  | cond h hp => exact .cond (hst.trans h) hp
  | lst h => exact .lst (hst.trans h)
  | pick hop h' hx =>
    rename_i b c x y
    refine .pick hop (hst.trans h') ?_
    have hmem : x ∈ o.op.operands.toList ∧ y ∈ o.op.operands.toList := by rw [hop]; simp [Op.operands]
    cases b with
    | true => simp only [if_true] at *; rw [← h x hmem.1]; exact hx
    | false => simp only [Bool.false_eq_true, if_false] at *; rw [← h y hmem.2]; exact hx
/-- What has been gone through ahead. -/
theorem preOps_facts {tt : Tab} {nt : Nat} {hq : Hp} {K : List (Nat × AV) → Prop} : ∀ (l : List Oper) (bs : List Bool) (tm : List (Nat × AV)), bs.length = l.length →
    (∀ (j : Nat) o, l[j]? = some o → bs[j]? = some true → ∀ (k : Nat) q e, j ≤ k → l[k]? = some q → bs[k]? = some true → q.dst = some e → memB e (tmpsOf o.op.operands.toList) = false) →
    (∀ (j : Nat) o, l[j]? = some o → bs[j]? = some true → ∀ (k : Nat) q, j < k → l[k]? = some q → bs[k]? = some true → q.dst ≠ o.dst) →
    preOps tt nt hq l bs tm K → ∃ tm1, K tm1 ∧ (∀ t, (∀ (j : Nat) o, l[j]? = some o → bs[j]? = some true → o.dst ≠ some t) → look tm1 t = look tm t) ∧
      ∀ (j : Nat) o, l[j]? = some o → bs[j]? = some true → ∃ d v, o.dst = some d ∧ d < nt ∧ look tm1 d = some v ∧ QVal tt (hqo o hq) o tm1 v
  | [], [], tm, _, _, _, h => ⟨tm, by simpa only [preOps] using h, fun t _ => rfl, fun j o ho => by simp at ho⟩
  | o :: r, b :: bs, tm, hl, hu, hd, h => by
    have hl' : bs.length = r.length := by simpa using hl
    have hu' := fun (j : Nat) (q : Oper) (hq' : r[j]? = some q) (hb' : bs[j]? = some true) (k : Nat) (x : Oper) (e : Nat) (hjk : j ≤ k) (hx : r[k]? = some x) (hb2 : bs[k]? = some true) (he : x.dst = some e) => hu (j + 1) q (by simpa using hq') (by simpa using hb') (k + 1) x e (by omega) (by simpa using hx) (by simpa using hb2) he
    have hd' := fun (j : Nat) (q : Oper) (hq' : r[j]? = some q) (hb' : bs[j]? = some true) (k : Nat) (x : Oper) (hjk : j < k) (hx : r[k]? = some x) (hb2 : bs[k]? = some true) => hd (j + 1) q (by simpa using hq') (by simpa using hb') (k + 1) x (by omega) (by simpa using hx) (by simpa using hb2)
    cases b with
    | false =>
      simp only [preOps] at h
      obtain ⟨tm1, h1, h2, h3⟩ := preOps_facts r bs tm hl' hu' hd' h
      refine ⟨tm1, h1, fun t ht => h2 t fun j q hq' hb' => ht (j + 1) q (by simpa using hq') (by simpa using hb'), fun j q hq' hb' => ?_⟩
      cases j with
      | zero => simp at hb'
      | succ j => exact h3 j q (by simpa using hq') (by simpa using hb')
    | true =>
      simp only [preOps] at h
      cases hdd : o.dst with
      | none => simp [hdd] at h
      | some d =>
        simp only [hdd] at h
        cases hb : Nat.blt d nt with
        | false => simp [hb] at h
        | true =>
          have hlt : d < nt := Nat.le_of_ble_eq_true hb
          simp only [hb, cond_true] at h
          have key : ∀ v, QVal tt (hqo o hq) o tm v → preOps tt nt hq r bs ((d, v) :: tm) K → ∃ tm1, K tm1 ∧ (∀ t, (∀ (j : Nat) q, (o :: r)[j]? = some q → (true :: bs)[j]? = some true → q.dst ≠ some t) → look tm1 t = look tm t) ∧
              ∀ (j : Nat) q, (o :: r)[j]? = some q → (true :: bs)[j]? = some true → ∃ d v, q.dst = some d ∧ d < nt ∧ look tm1 d = some v ∧ QVal tt (hqo q hq) q tm1 v := by
            intro v hv hp
            obtain ⟨tm1, h1, h2, h3⟩ := preOps_facts r bs ((d, v) :: tm) hl' hu' hd' hp
            refine ⟨tm1, h1, fun t ht => ?_, fun j q hq' hb' => ?_⟩
            · rw [h2 t fun j q hq' hb' => ht (j + 1) q (by simpa using hq') (by simpa using hb')]
              exact look_cons_ne _ _ fun e => ht 0 o rfl rfl (by rw [hdd, e])
            · cases j with
              | zero =>
                simp at hq'; subst hq'
                refine ⟨d, v, hdd, hlt, ?_, hv.agree fun x hx => opnd_eq fun t e => ?_⟩
                · rw [h2 d fun j q hq' hb' e => hd 0 o rfl rfl (j + 1) q (by omega) (by simpa using hq') (by simpa using hb') (by rw [e, hdd])]
                  exact look_cons_eq _ _ _
                · subst e
                  have hm := mem_tmpsOf hx
                  have hne : d ≠ t := fun e => by
                    have := hu 0 o rfl rfl 0 o d (Nat.le_refl _) rfl rfl hdd
                    rw [e, hm] at this; cases this
                  have h4 := h2 t fun j q hq' hb' e => (by
                    have := hu 0 o rfl rfl (j + 1) q t (by omega) (by simpa using hq') (by simpa using hb') e
                    rw [hm] at this; cases this)
                  rw [h4, look_cons_ne _ _ hne]
              | succ j => exact h3 j q (by simpa using hq') (by simpa using hb')
          cases hs : stepA tt o.op ⟨tm, hqo o hq, 0⟩ with
          | ok v => simp only [hs] at h; exact key v (.ok hs) h
          | cond p v => simp only [hs] at h; exact key v (.cond hs h.1) h.2
          | _ => simp [hs] at h
  | [], _ :: _, _, hl, _, _, _ => by simp at hl
  | _ :: _, [], _, hl, _, _, _ => by simp at hl
def pendL : List Oper → List Bool → List Bool → List Nat
  | o :: r, b :: bs, l :: ls => match b && !l with
    | true => (match o.dst with | some d => d :: pendL r bs ls | none => pendL r bs ls)
    | false => pendL r bs ls
  | _, _, _ => []
theorem mem_pendL {t : Nat} : ∀ {l : List Oper} {bs ls : List Bool}, memB t (pendL l bs ls) = true ↔ ∃ (j : Nat) (o : Oper), l[j]? = some o ∧ bs[j]? = some true ∧ ls[j]? = some false ∧ o.dst = some t
  | [], _, _ => by simp [pendL, memB]
  | _ :: _, [], _ => by simp [pendL, memB]
  | _ :: _, _ :: _, [] => by simp [pendL, memB]
  | o :: r, b :: bs, l :: ls => by
    have ih := mem_pendL (t := t) (l := r) (bs := bs) (ls := ls)
    have split : (∃ (j : Nat) (q : Oper), (o :: r)[j]? = some q ∧ (b :: bs)[j]? = some true ∧ (l :: ls)[j]? = some false ∧ q.dst = some t) ↔ (b = true ∧ l = false ∧ o.dst = some t) ∨ ∃ (j : Nat) (q : Oper), r[j]? = some q ∧ bs[j]? = some true ∧ ls[j]? = some false ∧ q.dst = some t := by
      constructor
      · rintro ⟨j, q, h1, h2, h3, h4⟩
        cases j with
        | zero => simp at h1 h2 h3; subst h1; exact .inl ⟨h2, h3, h4⟩
        | succ j => exact .inr ⟨j, q, by simpa using h1, by simpa using h2, by simpa using h3, h4⟩
      · rintro (⟨h1, h2, h3⟩ | ⟨j, q, h1, h2, h3, h4⟩)
        · exact ⟨0, o, rfl, by simp [h1], by simp [h2], h3⟩
        · exact ⟨j + 1, q, by simpa using h1, by simpa using h2, by simpa using h3, h4⟩
    rw [split, ← ih]
    simp only [pendL]
    cases hbl : (b && !l) with
    | false =>
      simp only []
      constructor
      · exact .inr
      · rintro (⟨h1, h2, _⟩ | h)
        · rw [h1, h2] at hbl; cases hbl
        · exact h
    | true =>
      simp only [Bool.and_eq_true, Bool.not_eq_true'] at hbl
      cases hd : o.dst with
      | none => simp only []; simp
      | some d =>
        simp only [memB_cons, hbl.1, hbl.2, true_and, Option.some.injEq]
        by_cases e : t = d
        · subst e; simp
        · rw [if_neg e]
          constructor
          · exact .inr
          · rintro (h | h)
            · exact absurd h.symm e
            · exact h
def orL : List Bool → List Bool → List Bool
  | a :: r, b :: s => (a || b) :: orL r s
  | _, _ => []
theorem orL_len : ∀ {a b : List Bool}, a.length = b.length → (orL a b).length = a.length
  | [], [], _ => rfl
  | _ :: _, _ :: _, h => by simp [orL, orL_len (show _ = _ by simpa using h)]
  | [], _ :: _, h => by simp at h
  | _ :: _, [], h => by simp at h
theorem orL_at : ∀ {a b : List Bool} (j : Nat), a.length = b.length → (orL a b)[j]? = (a[j]?).bind fun x => (b[j]?).map fun y => x || y
  | [], [], j, _ => by simp [orL]
  | x :: a, y :: b, 0, h => by simp [orL]
  | x :: a, y :: b, j + 1, h => by simpa [orL] using orL_at j (show a.length = b.length by simpa using h)
  | [], _ :: _, _, h => by simp at h
  | _ :: _, [], _, h => by simp at h
theorem keepTm_at {tm0 tm : List (Nat × AV)} : ∀ {l : List Nat}, keepTm tm0 tm l → ∀ t, memB t l = true → look tm t = look tm0 t
  | [], _, t, h => by simp [memB] at h
  | k :: r, hk, t, h => by
    rw [memB_cons] at h
    split at h
    · rename_i e; subst e; exact hk.1
    · exact keepTm_at hk.2 t h
theorem keepTm_refl (tm : List (Nat × AV)) : ∀ (l : List Nat), keepTm tm tm l
  | [] => trivial
  | _ :: r => ⟨rfl, keepTm_refl tm r⟩
theorem keepHp_at {hp : Hp} : ∀ {hq : Hp}, keepHp hp hq → ∀ id o, look hq id = some o → look hp id = some o
  | [], _, id, o, h => by simp [look] at h
  | (k, ob) :: r, hk, id, o, h => by
    rw [look_cons] at h
    split at h
    · rename_i e; simp at h; subst e h; exact hk.1
    · exact keepHp_at hk.2 id o h
theorem relG_len : ∀ {l : List Oper} {bs ls : List Bool} {b0 : Nat}, bs.length = l.length → ls.length = l.length → (relG b0 l bs ls).length = l.length
  | [], [], [], _, _, _ => rfl
  | _ :: r, _ :: bs, _ :: ls, b0, h1, h2 => by simp only [relG, List.length_cons]; rw [relG_len (show bs.length = r.length by simpa using h1) (show ls.length = r.length by simpa using h2)]
  | [], _ :: _, _, _, h, _ => by simp at h
  | [], [], _ :: _, _, _, h => by simp at h
  | _ :: _, [], _, _, h, _ => by simp at h
  | _ :: _, _ :: _, [], _, _, h => by simp at h
/-- What is said to have been carried out was. -/
theorem relG_on {D : Nat → Prop} : ∀ {l : List Oper} {bs ls : List Bool} {b0 : Nat}, (∀ (j : Nat), bs[j]? = some false → ls[j]? = some true → D (b0 + j)) → (∀ (j k : Nat) (o : Oper), l[k]? = some o → D (b0 + k) → waits o j = true → D j) →
    ∀ (j : Nat) (o : Oper), (relG b0 l bs ls)[j]? = some (o, true) → l[j]? = some o ∧ D (b0 + j)
  | [], _, _, _, _, _, j, o, h => by simp [relG] at h
  | _ :: _, [], _, _, _, _, j, o, h => by simp [relG] at h
  | _ :: _, _ :: _, [], _, _, _, j, o, h => by simp [relG] at h
  | q :: r, b :: bs, l :: ls, b0, h1, h2, j, o, h => by
    have ih := relG_on (D := D) (l := r) (bs := bs) (ls := ls) (b0 := b0 + 1) (fun j hb hl => by
        have := h1 (j + 1) (by simpa using hb) (by simpa using hl)
        rwa [show b0 + 1 + j = b0 + (j + 1) by omega]) (fun j k o ho hD hw => h2 j (k + 1) o (by simpa using ho) (by rwa [show b0 + (k + 1) = b0 + 1 + k by omega]) hw)
    simp only [relG] at h
    cases j with
    | zero =>
      simp only [List.getElem?_cons_zero, Option.some.injEq, Prod.mk.injEq] at h
      obtain ⟨rfl, h⟩ := h
      refine ⟨rfl, ?_⟩
      cases b with
      | false => simp only [] at h; exact h1 0 rfl (by simp [h])
      | true =>
        simp only [] at h
        obtain ⟨⟨q', f⟩, hp, hw⟩ := List.any_eq_true.1 h
        simp only [Bool.and_eq_true] at hw
        obtain ⟨m, hm⟩ := List.mem_iff_getElem?.1 hp
        rw [hw.1] at hm
        obtain ⟨k1, k2⟩ := ih m q' hm
        exact h2 b0 (m + 1) q' (by simpa using k1) (by rwa [show b0 + (m + 1) = b0 + 1 + m by omega]) hw.2
    | succ j =>
      have := ih j o (by simpa using h)
      exact ⟨by simpa using this.1, by rw [show b0 + (j + 1) = b0 + 1 + j by omega]; exact this.2⟩
theorem relG_fst : ∀ {l : List Oper} {bs ls : List Bool} {b0 j : Nat} {p : Oper × Bool}, (relG b0 l bs ls)[j]? = some p → l[j]? = some p.1
  | [], _, _, _, _, _, h => by simp [relG] at h
  | _ :: _, [], _, _, _, _, h => by simp [relG] at h
  | _ :: _, _ :: _, [], _, _, _, h => by simp [relG] at h
  | q :: r, b :: bs, l :: ls, b0, j, p, h => by
    simp only [relG] at h
    cases j with
    | zero => simp at h; rw [← h]; rfl
    | succ j => simpa using relG_fst (show (relG (b0 + 1) r bs ls)[j]? = some p by simpa using h)
theorem anyPend_of : ∀ {fl : List (Oper × Bool)} {bs : List Bool} (j : Nat) (o : Oper), noHpB o = false → fl[j]? = some (o, false) → bs[j]? = some true → anyPend fl bs = true
  | [], _, j, o, _, h, _ => by simp at h
  | _ :: _, [], j, o, _, _, h => by simp at h
  | (q, f) :: r, b :: bs, j, o, hn, h, hb => by
    cases j with
    | zero => simp at h hb; simp [anyPend, h.1, h.2, hb, hn]
    | succ j => simp only [anyPend]; rw [anyPend_of j o hn (by simpa using h) (by simpa using hb), Bool.or_true]
theorem QVal.noHp {tt : Tab} {hq : Hp} {o : Oper} {tm : List (Nat × AV)} {v : AV} (hn : noHpB o = true) (h : QVal tt (hqo o hq) o tm v) : QVal tt [] o tm v := by
  obtain ⟨ds, op, ty, ps, af, g⟩ := o
  unfold noHpB at hn
  cases op <;> simp only [Bool.false_eq_true] at hn
  all_goals
    cases h with
    | ok h => exact .ok h
    | cond h hp => exact .cond h hp
    | lst h => exact .lst h
    | pick ho h hx => cases ho
theorem hqo_eq {o : Oper} {hq : Hp} (h : noHpB o = false) : hqo o hq = hq := by
  obtain ⟨ds, op, ty, ps, af, g⟩ := o
  unfold noHpB at h
  cases op <;> first | rfl | cases h
theorem pendTs_mem : ∀ {fl : List (Oper × Bool)} {bs : List Bool} (j : Nat) (o : Oper) (d : Nat), fl[j]? = some (o, false) → bs[j]? = some true → o.dst = some d → memB d (pendTs fl bs) = true ∧ ∀ t, memB t (tmpsOf o.op.operands.toList) = true → memB t (pendTs fl bs) = true
  | [], _, j, o, d, h, _, _ => by simp at h
  | _ :: _, [], j, o, d, _, h, _ => by simp at h
  | (q, f) :: r, b :: bs, j, o, d, ho, hb, hd => by
    cases j with
    | zero =>
      simp at ho hb
      obtain ⟨rfl, rfl⟩ := ho
      subst hb
      simp only [pendTs, Bool.not_false, Bool.and_self, hd]
      refine ⟨by rw [memB_cons, if_pos rfl], fun t ht => ?_⟩
      rw [memB_cons]
      split
      · rfl
      · rw [memB_iff'] at ht ⊢; exact List.mem_append_left _ ht
    | succ j =>
      obtain ⟨h1, h2⟩ := pendTs_mem (fl := r) (bs := bs) j o d (by simpa using ho) (by simpa using hb) hd
      simp only [pendTs]
      cases b && !f with
      | false => exact ⟨h1, h2⟩
      | true =>
        have up : ∀ t, memB t (pendTs r bs) = true → memB t (match q.dst with | some d => d :: (tmpsOf q.op.operands.toList ++ pendTs r bs) | none => pendTs r bs) = true := by
          intro t ht
          cases q.dst with
          | none => exact ht
          | some e =>
            simp only []
            rw [memB_cons]
            split
            · rfl
            · rw [memB_iff'] at ht ⊢; exact List.mem_append_right _ ht
        exact ⟨up d h1, fun t ht => up t (h2 t ht)⟩
theorem keepHp_boxes (hp0 : Hp) : ∀ (hp : Hp) (seen : List Nat), (∀ id, memB id seen = false → look hp0 id = look hp id) → keepHp hp0 (boxesOf seen hp)
  | [], _, _ => trivial
  | (k, .box cs) :: r, seen, h => by
    simp only [boxesOf]
    cases hk : memB k seen with
    | true =>
      refine keepHp_boxes hp0 r seen fun id hid => ?_
      rw [h id hid, look_cons_ne _ _ fun e => by subst e; rw [hk] at hid; cases hid]
    | false =>
      refine ⟨by rw [h k hk, look_cons_eq], keepHp_boxes hp0 r (k :: seen) fun id hid => ?_⟩
      rw [memB_cons] at hid
      have hne : k ≠ id := fun e => by subst e; simp at hid
      rw [if_neg (fun e => hne e.symm)] at hid
      rw [h id hid, look_cons_ne _ _ hne]
  | (k, .nest e s rows) :: r, seen, h => by
    simp only [boxesOf]
    refine keepHp_boxes hp0 r (k :: seen) fun id hid => ?_
    rw [memB_cons] at hid
    have hne : k ≠ id := fun e => by subst e; simp at hid
    rw [if_neg (fun e => hne e.symm)] at hid
    rw [h id hid, look_cons_ne _ _ hne]
  | (k, .map e s) :: r, seen, h => by
    simp only [boxesOf]
    refine keepHp_boxes hp0 r (k :: seen) fun id hid => ?_
    rw [memB_cons] at hid
    have hne : k ≠ id := fun e => by subst e; simp at hid
    rw [if_neg (fun e => hne e.symm)] at hid
    rw [h id hid, look_cons_ne _ _ hne]
  | (k, .ranged e s u) :: r, seen, h => by
    simp only [boxesOf]
    refine keepHp_boxes hp0 r (k :: seen) fun id hid => ?_
    rw [memB_cons] at hid
    have hne : k ≠ id := fun e => by subst e; simp at hid
    rw [if_neg (fun e => hne e.symm)] at hid
    rw [h id hid, look_cons_ne _ _ hne]
  | (k, .clo e s u) :: r, seen, h => by
    simp only [boxesOf]
    refine keepHp_boxes hp0 r (k :: seen) fun id hid => ?_
    rw [memB_cons] at hid
    have hne : k ≠ id := fun e => by subst e; simp at hid
    rw [if_neg (fun e => hne e.symm)] at hid
    rw [h id hid, look_cons_ne _ _ hne]
  | (k, .list e s rows) :: r, seen, h => by
    simp only [boxesOf]
    refine keepHp_boxes hp0 r (k :: seen) fun id hid => ?_
    rw [memB_cons] at hid
    have hne : k ≠ id := fun e => by subst e; simp at hid
    rw [if_neg (fun e => hne e.symm)] at hid
    rw [h id hid, look_cons_ne _ _ hne]
theorem pre_sound (hT : TabOk E.P tt) {ops : Array Oper} {Q : Exit → Act → World → Prop} {K : St → Prop} (hQ : ∀ s a w, Rel E s a w → K s → Q .normal a w) {sel : List Bool} (hpre : preB ops.toList sel = true) (h : runPre tt E.P E.nt E.fx ops sel s K) (hR : Rel E s a w) :
    wpAny E.P .any ops Q ops.size (Array.replicate ops.size false) a w := by
  simp only [preB, Bool.and_eq_true] at hpre
  obtain ⟨hbacks, hS⟩ := hpre
  obtain ⟨hlen, hat⟩ := allS_at hS
  have hlen' : sel.length = ops.size := by simpa using hlen
  have hsel : ∀ i, i < ops.size → ∃ b, sel[i]? = some b := fun i hi => ⟨sel[i]'(by omega), List.getElem?_eq_getElem _⟩
  have hloc : ∀ (i : Nat) o b, ops[i]? = some o → sel[i]? = some b → guardP sel o = true ∧ (!b || preKind o) = true ∧ allS (pairP i o) 0 ops.toList sel = true := by
    intro i o b ho hb
    have := hat i o b (by simpa using ho) hb
    simp only [Bool.and_eq_true, Nat.zero_add] at this
    exact ⟨this.1.1, this.1.2, this.2⟩
  have hpair : ∀ (i : Nat) o (j : Nat) q, ops[i]? = some o → ops[j]? = some q → sel[j]? = some true → pairP i o j q true = true := by
    intro i o j q ho hq' hj
    obtain ⟨b, hb⟩ := hsel i (Array.getElem?_eq_some_iff.1 ho).1
    have := (allS_at (hloc i o b ho hb).2.2).2 j q true (by simpa using hq') hj
    simpa using this
  have hdst : ∀ (j : Nat) q, ops[j]? = some q → sel[j]? = some true → ∃ e, q.dst = some e := by
    intro j q hq' hj
    have := hpair j q j q hq' hq' hj
    unfold pairP at this
    cases hd : q.dst with
    | none => simp [hd] at this
    | some e => exact ⟨e, rfl⟩
  have hA : ∀ (i : Nat) o (j : Nat) q e, ops[i]? = some o → ops[j]? = some q → sel[j]? = some true → q.dst = some e → i ≠ j → o.dst ≠ some e ∧ (memB e (tmpsOf o.op.operands.toList) = true → j < i ∧ waits o j = true) := by
    intro i o j q e ho hq' hj hd hij
    have := hpair i o j q ho hq' hj
    unfold pairP at this
    have hb : Nat.beq i j = false := by
      cases hb : Nat.beq i j with
      | true => exact absurd (Nat.eq_of_beq_eq_true hb) hij
      | false => rfl
    simp only [hd, hb, Bool.and_eq_true] at this
    refine ⟨fun h' => ?_, fun hm => ?_⟩
    · rw [h'] at this; simp at this
    · have h2 := this.2
      rw [hm] at h2
      simp only [Bool.not_true, Bool.false_or, Bool.and_eq_true] at h2
      exact ⟨Nat.le_of_ble_eq_true h2.1, h2.2⟩
  have hB : ∀ (j : Nat) q e, ops[j]? = some q → sel[j]? = some true → q.dst = some e → memB e (tmpsOf q.op.operands.toList) = false := by
    intro j q e hq' hj hd
    have := hpair j q j q hq' hq' hj
    unfold pairP at this
    have hb : Nat.beq j j = true := Nat.beq_refl j
    simp only [hd, hb] at this
    simpa using this
  unfold runPre at h
  generalize hh0 : boxesOf (callIds s.tm ops.toList ops.toList) s.hp = hq0 at h
  obtain ⟨tm1, hK, hold, hval⟩ := preOps_facts ops.toList sel s.tm (by simpa using hlen')
    (fun j o ho hj k q e hjk hq' hk hd => by
      have ho' : ops[j]? = some o := by simpa using ho
      have hq2 : ops[k]? = some q := by simpa using hq'
      by_cases ejk : k = j
      · subst ejk
        rw [ho'] at hq2; cases hq2
        exact hB _ _ _ ho' hj hd
      · cases hm : memB e (tmpsOf o.op.operands.toList) with
        | false => rfl
        | true => have := ((hA j o k q e ho' hq2 hk hd (fun e' => ejk e'.symm)).2 hm).1; omega)
    (fun j o ho hj k q hjk hq' hk e => by
      have ho' : ops[j]? = some o := by simpa using ho
      have hq2 : ops[k]? = some q := by simpa using hq'
      obtain ⟨e1, hd⟩ := hdst k q hq2 hk
      exact (hA j o k q e1 ho' hq2 hk hd (by omega)).1 (by rw [← e, hd])) h
  have hold' : ∀ t, (∀ (j : Nat) o, ops[j]? = some o → sel[j]? = some true → o.dst ≠ some t) → look tm1 t = look s.tm t := fun t ht => hold t fun j o ho hj => ht j o (by simpa using ho) hj
  -- what is still to come
  have pend : ∀ {listed : Array Bool} {t : Nat}, listed.size = ops.size → (memB t (pendL ops.toList sel listed.toList) = true ↔ ∃ (j : Nat) (q : Oper), ops[j]? = some q ∧ sel[j]? = some true ∧ listed.getD j false = false ∧ q.dst = some t) := by
    intro listed t hsz
    rw [mem_pendL]
    constructor
    · rintro ⟨j, q, h1, h2, h3, h4⟩
      refine ⟨j, q, by simpa using h1, h2, ?_, h4⟩
      rw [Array.getElem?_toList] at h3
      rw [Array.getD_eq_getD_getElem?, h3]; rfl
    · rintro ⟨j, q, h1, h2, h3, h4⟩
      refine ⟨j, q, by simpa using h1, h2, ?_, h4⟩
      have hlt : j < listed.size := by rw [hsz]; exact (Array.getElem?_eq_some_iff.1 h1).1
      rw [Array.getD_eq_getD_getElem?, Array.getElem?_eq_getElem hlt] at h3
      rw [Array.getElem?_toList, Array.getElem?_eq_getElem hlt]
      exact congrArg some h3
  have notP : ∀ {listed : Array Bool} {t : Nat}, listed.size = ops.size → (∀ (j : Nat) (q : Oper), ops[j]? = some q → sel[j]? = some true → q.dst = some t → listed.getD j false = true) → memB t (pendL ops.toList sel listed.toList) = false := by
    intro listed t hsz hh
    cases hm : memB t (pendL ops.toList sel listed.toList) with
    | false => rfl
    | true =>
      obtain ⟨j, q, h1, h2, h3, h4⟩ := (pend hsz).1 hm
      rw [hh j q h1 h2 h4] at h3; cases h3
  refine wpAny_inv (P := E.P) (fun listed a w => ∃ g s', brutePre tt E.P E.nt E.fx ops tm1 sel hq0 g (orL listed.toList sel) s' K ∧ keepP tm1 hq0 sel (relG 0 ops.toList sel (orL listed.toList sel)) s' ∧ Rel E (dropS (pendL ops.toList sel listed.toList) s') a w) ?_ ?_ ?_ ops.size _ a w (by simp) ?_ ?_ ?_
  · intro i o ho
    have := allI_at hbacks i o (by simpa using ho)
    exact backB_on (by simpa using this)
  · intro listed a w i o hsz hD hI ho hun hall
    obtain ⟨g, s', hbr, hk, hRs⟩ := hI
    have hilt := (Array.getElem?_eq_some_iff.1 ho).1
    have hin : i < listed.size := by omega
    have hszl : listed.toList.length = sel.length := by simp; omega
    obtain ⟨b, hb⟩ := hsel i hilt
    have hsz' : (listed.setIfInBounds i true).size = ops.size := by simp [hsz]
    cases b with
    | true =>
      obtain ⟨d, v, hd, hdlt, hlv, hqv⟩ := hval i o (by simpa using ho) hb
      have hg : o.guard = none := by
        have := (hloc i o true ho hb).2.1
        simp only [Bool.not_true, Bool.false_or, preKind, Bool.and_eq_true] at this
        cases hgd : o.guard with
        | none => rfl
        | some x => rw [hgd] at this; simp at this
      have hLlen : (orL listed.toList sel).length = ops.toList.length := by rw [orL_len hszl]; simp; omega
      have hflt : i < (relG 0 ops.toList sel (orL listed.toList sel)).length := by rw [relG_len (by simpa using hlen') hLlen]; simpa using hilt
      have hfl : (relG 0 ops.toList sel (orL listed.toList sel))[i]? = some (o, false) := by
        have h0 := List.getElem?_eq_getElem hflt
        have h1 := relG_fst h0
        generalize (relG 0 ops.toList sel (orL listed.toList sel))[i] = p at h0 h1
        obtain ⟨q, f⟩ := p
        have hq' : q = o := by
          have h2 : ops.toList[i]? = some o := by simpa using ho
          rw [h2] at h1; exact (Option.some.inj h1).symm
        subst hq'
        cases f with
        | false => exact h0
        | true =>
          have := (relG_on (D := fun j => listed.getD j false = true) (b0 := 0) (fun j hb' hl' => by
              rw [Nat.zero_add]
              rw [orL_at j hszl, Array.getElem?_toList (xs := listed), hb'] at hl'
              cases hlk : listed[j]? with
              | none => rw [hlk] at hl'; simp at hl'
              | some c => rw [hlk] at hl'; simp at hl'; rw [Array.getD_eq_getD_getElem?, hlk, hl']; rfl) (fun j k q hq' hDk hw => waits_on hw (hD k q (by simpa using hq') (by simpa using hDk))) i q h0).2
          rw [Nat.zero_add, hun] at this; cases this
      have hts := pendTs_mem (fl := relG 0 ops.toList sel (orL listed.toList sel)) (bs := sel) i o d hfl hb hd
      have hk1 := hk.1
      have hag : Agree o.op.operands.toList tm1 (dropT (pendL ops.toList sel listed.toList) s'.tm) := by
        intro x hx
        refine opnd_eq fun t e => ?_
        subst e
        have hm := mem_tmpsOf hx
        have hnp : memB t (pendL ops.toList sel listed.toList) = false := notP hsz fun j q hq' hj hdq => by
          by_cases hij : i = j
          · subst hij
            rw [ho] at hq'; cases hq'
            rw [hB i o t ho hb hdq] at hm; cases hm
          · exact waits_on ((hA i o j q t ho hq' hj hdq hij).2 hm).2 hall
        rw [look_dropT, if_neg (by rw [hnp]; simp), keepTm_at hk1 t (hts.2 t hm)]
      have hqe : ∃ hq1 : Hp, (∀ id ob, look hq1 id = some ob → look s'.hp id = some ob) ∧ QVal tt hq1 o tm1 v := by
        cases hn : noHpB o with
        | true => exact ⟨[], fun id ob h => (by simp [look] at h), QVal.noHp hn hqv⟩
        | false =>
          have := hk.2
          rw [anyPend_of i o hn hfl hb] at this
          exact ⟨hq0, keepHp_at this, by rw [hqo_eq hn] at hqv; exact hqv⟩
      obtain ⟨hq1, hsub1, hqv1⟩ := hqe
      have hwp := qval_sound (Q := Q) hT hd hdlt hsub1 (hqv1.agree hag) hRs
      unfold wpOp
      simp only [ho]
      have hw : Region.wanted o (yielded ops a.tmps) = true := by simp [Region.wanted, hg]
      rw [hw]
      simp only [if_true]
      have hors : orL (listed.setIfInBounds i true).toList sel = orL listed.toList sel := by
        refine List.ext_getElem? fun j => ?_
        rw [orL_at j (by simp; omega), orL_at j hszl, Array.getElem?_toList (xs := listed.setIfInBounds i true), Array.getElem?_toList (xs := listed)]
        by_cases e : j = i
        · subst e
          rw [hb, Array.getElem?_setIfInBounds_self_of_lt hin, Array.getElem?_eq_getElem hin]; simp
        · rw [Array.getElem?_setIfInBounds_ne (fun e' => e e'.symm)]
      refine .inl (Oper.wp_mono (fun a' w' hr => ⟨g, s', by rw [hors]; exact hbr, by rw [hors]; exact hk, rel_ext hr fun t v' hv' => ?_⟩) hwp)
      · rw [look_dropT] at hv'
        split at hv'
        · cases hv'
        rename_i hnp
        by_cases e : d = t
        · subst e
          rw [look_cons_eq, ← hlv, ← keepTm_at hk1 d hts.1]; exact hv'
        · rw [look_cons_ne _ _ e, look_dropT, if_neg fun hm => ?_]
          · exact hv'
          · obtain ⟨j, q, h1, h2, h3, h4⟩ := (pend hsz).1 hm
            have hij : j ≠ i := fun e' => by
              subst e'
              rw [ho] at h1; cases h1
              rw [hd] at h4; cases h4; exact e rfl
            exact hnp ((pend hsz').2 ⟨j, q, h1, h2, by rw [getD_set_other hij]; exact h3, h4⟩)
    | false =>
      have hne : ∀ j, sel[j]? = some true → i ≠ j := fun j hj e => by subst e; rw [hb] at hj; cases hj
      have hop : ∀ t, .tmp t ∈ o.op.operands.toList → memB t (pendL ops.toList sel listed.toList) = false := fun t ht => notP hsz fun j q hq' hj hdq => waits_on ((hA i o j q t ho hq' hj hdq (hne j hj)).2 (mem_tmpsOf ht)).2 hall
      have hdd : ∀ d, o.dst = some d → memB d (pendL ops.toList sel listed.toList) = false := fun d hd => notP hsz fun j q hq' hj hdq => absurd hd (hA i o j q d ho hq' hj hdq (hne j hj)).1
      have horg : ∀ j, listed.getD j false = true → (orL listed.toList sel).getD j false = true := by
        intro j hj
        have hlt : j < listed.size := by
          rcases Nat.lt_or_ge j listed.size with h' | h'
          · exact h'
          · rw [Array.getD_eq_getD_getElem?, Array.getElem?_eq_none (by omega)] at hj; cases hj
        obtain ⟨c, hc⟩ := hsel j (by omega)
        rw [List.getD_eq_getElem?_getD, orL_at j hszl, Array.getElem?_toList (xs := listed), Array.getElem?_eq_getElem hlt, hc]
        rw [Array.getD_eq_getD_getElem?, Array.getElem?_eq_getElem hlt] at hj
        have hj' : listed[j] = true := hj
        simp [hj']
      have hready : i ∈ readyL (orL listed.toList sel) 0 ops.toList (orL listed.toList sel) := by
        rw [mem_readyL]
        refine ⟨Nat.zero_le _, ?_, o, by simpa using ho, ?_⟩
        · rw [Nat.sub_zero, orL_at i hszl, Array.getElem?_toList (xs := listed), Array.getElem?_eq_getElem hin, hb]
          rw [Array.getD_eq_getD_getElem?, Array.getElem?_eq_getElem hin] at hun
          have hun' : listed[i] = false := hun
          simp [hun']
        · unfold afterOk
          rw [List.all_eq_true]
          intro e he
          cases hbd : Region.binds .any e with
          | false => rfl
          | true => simp only [Bool.not_true, Bool.false_or]; exact horg _ (hall e (by simpa using he) hbd)
      cases g with
      | zero =>
        simp only [brutePre] at hbr
        cases hr : readyL (orL listed.toList sel) 0 ops.toList (orL listed.toList sel) with
        | nil => rw [hr] at hready; cases hready
        | cons x r => simp [hr] at hbr
      | succ g =>
        simp only [brutePre] at hbr
        cases hr : readyL (orL listed.toList sel) 0 ops.toList (orL listed.toList sel) with
        | nil => rw [hr] at hready; cases hready
        | cons x r =>
          simp only [hr] at hbr
          rw [hr] at hready
          have h := allR_at hbr i hready
          have hto : ops.toList[i]? = some o := by simpa using ho
          simp only [hto] at h
          have hgd : ∀ j want, o.guard = some (j, want) → guardA ops (dropT (pendL ops.toList sel listed.toList) s'.tm) j = guardA ops s'.tm j := by
            intro j want hg
            refine guardA_at (o := o) fun q t hq' hdq => ?_
            rw [look_dropT, if_neg fun hm => ?_]
            obtain ⟨j', q', h1, h2, h3, h4⟩ := (pend hsz).1 hm
            by_cases e : j = j'
            · subst e
              have hgp := (hloc i o false ho hb).1
              have hsj : sel.getD j false = true := by rw [List.getD_eq_getElem?_getD, h2]; rfl
              simp only [guardP, hg, hsj, Bool.not_true, Bool.false_or] at hgp
              rw [waits_on hgp hall] at h3; cases h3
            · exact (hA j q j' q' t hq' h1 h2 h4 e).1 hdq
          have hby : ∀ X Y : Prop, byGuard ops o s' X Y → byGuard ops o (dropS (pendL ops.toList sel listed.toList) s') X Y := by
            intro X Y hh
            unfold byGuard at hh ⊢
            cases hg : o.guard with
            | none => simp only [hg] at hh ⊢; exact hh
            | some jw =>
              obtain ⟨j, want⟩ := jw
              simp only [hg] at hh ⊢
              rw [hgd j want hg]; exact hh
          have h2 := hby _ _ (byGuard_mono' (preStep_drop hop hdd) (skipA_drop hdd) h)
          have hset : orL (listed.setIfInBounds i true).toList sel = (orL listed.toList sel).set i true := by
            refine List.ext_getElem? fun j => ?_
            rw [orL_at j (by simp; omega), Array.getElem?_toList (xs := listed.setIfInBounds i true)]
            by_cases e : j = i
            · subst e
              rw [hb, Array.getElem?_setIfInBounds_self_of_lt hin, List.getElem?_set_self (by rw [orL_len hszl]; simpa using hin)]; simp
            · rw [Array.getElem?_setIfInBounds_ne (fun e' => e e'.symm), List.getElem?_set_ne (fun e' => e e'.symm), orL_at j hszl, Array.getElem?_toList (xs := listed)]
          have hpd : pendL ops.toList sel (listed.setIfInBounds i true).toList = pendL ops.toList sel listed.toList := by
            have key : ∀ (l : List Oper) (bs ls : List Bool) (k : Nat), bs[k]? = some false → pendL l bs (ls.set k true) = pendL l bs ls := by
              intro l
              induction l with
              | nil => intro bs ls k _; rfl
              | cons x r ih =>
                intro bs ls k hk
                cases bs with
                | nil => simp at hk
                | cons c cs =>
                  cases ls with
                  | nil => rfl
                  | cons y ys =>
                    cases k with
                    | zero => simp at hk; subst hk; rfl
                    | succ k =>
                      simp only [List.set_cons_succ, pendL]
                      rw [ih cs ys k (by simpa using hk)]
            rw [Array.toList_setIfInBounds]
            exact key _ _ _ i hb
          unfold wpOp
          simp only [ho]
          rcases byGuard_sound h2 hRs with ⟨hw, h3⟩ | ⟨hw, h3⟩
          · rw [if_pos hw]
            refine .inl (Oper.wp_mono (fun a' w' ⟨s'', r1, s1, r2, r3⟩ => ⟨g, s1, by rw [hset]; exact r2.r, by rw [hset]; exact r2.l, by rw [hpd, ← r3]; exact r1⟩) (preStep_sound hT h3 hRs))
          · rw [hw]
            simp only [Bool.false_eq_true, if_false]
            obtain ⟨s'', r1, s1, r2, r3⟩ := skipA_sound h3 hRs
            exact ⟨g, s1, by rw [hset]; exact r2.r, by rw [hset]; exact r2.l, by rw [hpd, ← r3]; exact r1⟩
  · intro listed a w hsz hI hall
    obtain ⟨g, s', hbr, hk, hRs⟩ := hI
    have hszl : listed.toList.length = sel.length := by simp; omega
    have hnone : readyL (orL listed.toList sel) 0 ops.toList (orL listed.toList sel) = [] := by
      refine List.eq_nil_iff_forall_not_mem.2 fun i hi => ?_
      rw [mem_readyL] at hi
      obtain ⟨_, h1, o, h2, _⟩ := hi
      rw [Nat.sub_zero] at h1 h2
      rw [Array.getElem?_toList] at h2
      have hlt := (Array.getElem?_eq_some_iff.1 h2).1
      have hl := hall i hlt
      obtain ⟨c, hc⟩ := hsel i hlt
      rw [orL_at i hszl, Array.getElem?_toList (xs := listed), Array.getElem?_eq_getElem (show i < listed.size by omega), hc] at h1
      rw [Array.getD_eq_getD_getElem?, Array.getElem?_eq_getElem (show i < listed.size by omega)] at hl
      have hl' : listed[i] = true := hl
      simp [hl'] at h1
    have hRn : Rel E s' a w := rel_ext hRs fun t v hv => by
      rw [look_dropT, if_neg (by rw [notP hsz fun j q hq' _ _ => hall j (Array.getElem?_eq_some_iff.1 hq').1]; simp)]; exact hv
    cases g with
    | zero => simp only [brutePre, hnone] at hbr; exact hQ _ _ _ hRn hbr
    | succ g => simp only [brutePre, hnone] at hbr; exact hQ _ _ _ hRn hbr
  · intro k o _ hk; simp [Array.getD_eq_getD_getElem?] at hk
    by_cases h' : k < ops.size <;> simp [h'] at hk
  · exact Nat.le_trans List.count_le_length (by rw [Array.toList_replicate, List.length_replicate]; exact Nat.le_refl _)
  · refine ⟨sizeL ops.toList, ⟨tm1, s.hp, s.nx⟩, ?_, ⟨keepTm_refl _ _, ?_⟩, rel_ext hR fun t v hv => ?_⟩
    · have : orL (Array.replicate ops.size false).toList sel = sel := by
        refine List.ext_getElem? fun j => ?_
        rw [orL_at j (by simp; omega)]
        by_cases hj : j < ops.size
        · obtain ⟨c, hc⟩ := hsel j hj
          rw [hc]; simp [hj]
        · rw [List.getElem?_eq_none (show sel.length ≤ j by omega)]; simp
      rw [this]; exact hK
    · split
      · rw [← hh0]; exact keepHp_boxes s.hp s.hp _ (fun _ _ => rfl)
      · trivial
    · rw [look_dropT] at hv
      split at hv
      · cases hv
      rename_i hnp
      rw [← hold' t fun j q hq' hj hdq => hnp ((pend (by simp)).2 ⟨j, q, hq', hj, by
        have := (Array.getElem?_eq_some_iff.1 hq').1
        simp [Array.getD_eq_getD_getElem?, this], hdq⟩)]
      exact hv
/-! ### calls that change objects, one after another -/
theorem ptr_mov {o : Oper} (h : ptrCallB tt o = true) : movB true o = false := by
  unfold ptrCallB at h
  show isAllocB o = false
  unfold isAllocB
  cases ho : o.op with
  | alloc t => rw [ho] at h; cases h
  | _ => rfl
structure HInv (tt : Tab) (ops : Array Oper) (n : Nat) (f : Nat → St) (listed : Array Bool) (tm : List (Nat × AV)) (k kh : Nat) : Prop where
  le : k ≤ n
  leh : kh ≤ n
  i1 : ∀ j o t, j < n → listed.getD j false = true → ops[j]? = some o → o.dst = some t → look tm t = look (f n).tm t
  i2 : ∀ t, (∀ j o, j < n → listed.getD j false = true → ops[j]? = some o → o.dst ≠ some t) → look tm t = look (f 0).tm t
  i3 : ∀ j o, j < n → ops[j]? = some o → movB true o = true → (listed.getD j false = true ↔ j < k)
  i4 : ∀ j o, j < n → ops[j]? = some o → ptrCallB tt o = true → (listed.getD j false = true ↔ j < kh)
section
variable {fx : List Nat} {g : Nat → Hp}
theorem HInv.at {listed : Array Bool} {tm : List (Nat × AV)} {k kh i : Nat} (h : HChain P tt nt fx ops n f g) (hI : HInv tt ops n f listed tm k kh) (hi : i ≤ n) {t : Nat}
    (hdep : ∀ j q, j < n → ops[j]? = some q → q.dst = some t → j < i ∧ listed.getD j false = true) : look tm t = look (f i).tm t := by
  by_cases hex : ∃ j q, j < n ∧ ops[j]? = some q ∧ q.dst = some t
  · obtain ⟨j, q, hj, hq', hd⟩ := hex
    obtain ⟨h1, h2⟩ := hdep j q hj hq' hd
    rw [hI.i1 j q t hj h2 hq' hd, h.stay hj hq' hd n hj (Nat.le_refl _), h.stay hj hq' hd i h1 hi]
  · have hno : ∀ j q, j < n → ops[j]? = some q → q.dst ≠ some t := fun j q hj hq' hd => hex ⟨j, q, hj, hq', hd⟩
    rw [hI.i2 t fun j q hj _ hq' => hno j q hj hq', h.old i hi t fun j q hj hq' => hno j q (by omega) hq']
theorem hbody_step (hT : TabOk E.P tt) (h : HChain E.P tt E.nt E.fx ops n f g) {listed : Array Bool} {tm : List (Nat × AV)} {k kh i : Nat} {o : Oper} {Q : Exit → Act → World → Prop} (hsz : listed.size = ops.size) (hD : Down ops listed) (hI : HInv tt ops n f listed tm k kh) (hlt0 : ∀ id ob, look (f 0).hp id = some ob → id < (f 0).nx)
    (hi : i < n) (ho : ops[i]? = some o) (hun : listed.getD i false = false) (hall : ∀ e ∈ o.after, Region.binds .any e = true → listed.getD e.on false = true) (hR : Rel E ⟨tm, g kh ++ (f k).hp, (f k).nx⟩ a w) :
    wpOp E.P ops Q i (fun a' w' => ∃ tm' k' kh', HInv tt ops n f (listed.setIfInBounds i true) tm' k' kh' ∧ Rel E ⟨tm', g kh' ++ (f k').hp, (f k').nx⟩ a' w') a w := by
  have hin : i < listed.size := by rw [hsz]; exact Nat.lt_of_lt_of_le hi h.le
  obtain ⟨d, v, hd, hdlt, htm, hcase⟩ := h.step i o hi ho
  have hops : Agree o.op.operands.toList (f i).tm tm := by
    intro x hx
    refine opnd_eq fun t e => ?_
    subst e
    refine (HInv.at h hI (Nat.le_of_lt hi) fun j q hj hq' hd' => ?_).symm
    have hp := pairB_read (h.pair i j o q hi hj ho hq') hd' (mem_tmpsOf hx)
    exact ⟨hp.1, waits_on hp.2 hall⟩
  have hst : stepA tt o.op ⟨tm, [], 0⟩ = stepA tt o.op ⟨(f i).tm, [], 0⟩ := (stepA_congr o.op _ _ hops).symm
  have hgd : ∀ j want, o.guard = some (j, want) → guardA ops tm j = guardA ops (f i).tm j := by
    intro j want hg
    have hgb := h.guard i o hi ho
    simp only [guardB, hg, Bool.and_eq_true] at hgb
    have hji : j < i := Nat.le_of_ble_eq_true hgb.1
    refine guardA_at (o := o) fun q t hq' hd' => HInv.at h hI (Nat.le_of_lt hi) fun j' q' hj' hq'' hd'' => ?_
    by_cases e : j' = j
    · subst e; exact ⟨hji, waits_on hgb.2 hall⟩
    · exact absurd (hd''.trans hd'.symm) (h.ne hj' (by omega) e hq'' hq')
  have hnext : ∀ k' kh', k' ≤ n → kh' ≤ n → (∀ j q, j < n → ops[j]? = some q → movB true q = true → ((listed.setIfInBounds i true).getD j false = true ↔ j < k')) →
      (∀ j q, j < n → ops[j]? = some q → ptrCallB tt q = true → ((listed.setIfInBounds i true).getD j false = true ↔ j < kh')) → HInv tt ops n f (listed.setIfInBounds i true) ((d, v) :: tm) k' kh' := by
    intro k' kh' hk' hkh' h3 h4
    refine ⟨hk', hkh', ?_, ?_, h3, h4⟩
    · intro j q t hj hl hq' hd'
      by_cases e : j = i
      · subst e
        rw [ho] at hq'; cases hq'
        rw [hd] at hd'; cases hd'
        rw [look_cons_eq, h.stay hj ho hd n hj (Nat.le_refl _), htm, look_cons_eq]
      · have hne : d ≠ t := fun e' => h.ne hj hi e hq' ho (by rw [hd', hd, e'])
        rw [getD_set_other e] at hl
        rw [look_cons_ne _ _ hne]
        exact hI.i1 j q t hj hl hq' hd'
    · intro t ht
      have hne : d ≠ t := fun e => ht i o hi (getD_set_self hin) ho (by rw [hd, e])
      rw [look_cons_ne _ _ hne]
      refine hI.i2 t fun j q hj hl hq' => ht j q hj ?_ hq'
      have hji : j ≠ i := fun e => by subst e; rw [hun] at hl; cases hl
      rw [getD_set_other hji]; exact hl
  have keep3 : movB true o = false → ∀ j q, j < n → ops[j]? = some q → movB true q = true → ((listed.setIfInBounds i true).getD j false = true ↔ j < k) := fun hcb j q hj hq' hc => by
    have hji : j ≠ i := fun e => by subst e; rw [ho] at hq'; cases hq'; rw [hcb] at hc; cases hc
    rw [getD_set_other hji]; exact hI.i3 j q hj hq' hc
  have keep4 : ptrCallB tt o = false → ∀ j q, j < n → ops[j]? = some q → ptrCallB tt q = true → ((listed.setIfInBounds i true).getD j false = true ↔ j < kh) := fun hcb j q hj hq' hc => by
    have hji : j ≠ i := fun e => by subst e; rw [ho] at hq'; cases hq'; rw [hcb] at hc; cases hc
    rw [getD_set_other hji]; exact hI.i4 j q hj hq' hc
  -- the alloc
  have hcallk : movB true o = true → (f i).hp = (f k).hp ∧ (f i).nx = (f k).nx ∧ HInv tt ops n f (listed.setIfInBounds i true) ((d, v) :: tm) (i + 1) kh := by
    intro hcb
    have hpn : ptrCallB tt o = false := by
      cases hp : ptrCallB tt o with
      | false => rfl
      | true => rw [ptr_mov hp] at hcb; cases hcb
    have hki : k ≤ i := Nat.le_of_not_lt fun hlt => by
      have := (hI.i3 i o hi ho hcb).2 hlt
      rw [hun] at this; cases this
    have hno : ∀ j q, k ≤ j → j < i → ops[j]? = some q → movB true q = false := by
      intro j q hj hj' hq'
      cases hc : movB true q with
      | false => rfl
      | true =>
        have hw := close_on hD i _ (Nat.le_of_lt (Nat.lt_of_lt_of_le hi h.le)) (fun k hk => by
          obtain ⟨e, h1, h2, h3⟩ := memB_ons hk
          have := hall e h1 h2
          rw [h3] at this; exact this) j (h.call i o hi ho hcb j q hj' hq' hc)
        have := (hI.i3 j q (by omega) hq' hc).1 hw
        omega
    have hs := h.hpStay i hki (Nat.le_of_lt hi) hno
    refine ⟨hs.1, hs.2, hnext (i + 1) kh hi hI.leh (fun j q hj hq' hc => ?_) (keep4 hpn)⟩
    by_cases e : j = i
    · subst e; exact ⟨fun _ => Nat.lt_succ_self _, fun _ => getD_set_self hin⟩
    · rw [getD_set_other e, hI.i3 j q hj hq' hc]
      constructor
      · intro h'; omega
      · intro h'
        rcases Nat.lt_or_ge j k with h'' | h''
        · exact h''
        · have := hno j q h'' (by omega) hq'
          rw [hc] at this; cases this
  -- a call of a pointer
  have hptr : ptrCallB tt o = true → g i = g kh ∧ HInv tt ops n f (listed.setIfInBounds i true) ((d, v) :: tm) k (i + 1) := by
    intro hcb
    have hki : kh ≤ i := Nat.le_of_not_lt fun hlt => by
      have := (hI.i4 i o hi ho hcb).2 hlt
      rw [hun] at this; cases this
    have hno : ∀ j q, kh ≤ j → j < i → ops[j]? = some q → ptrCallB tt q = false := by
      intro j q hj hj' hq'
      cases hc : ptrCallB tt q with
      | false => rfl
      | true =>
        have hw := close_on hD i _ (Nat.le_of_lt (Nat.lt_of_lt_of_le hi h.le)) (fun k hk => by
          obtain ⟨e, h1, h2, h3⟩ := memB_ons hk
          have := hall e h1 h2
          rw [h3] at this; exact this) j (h.ptr i o hi ho hcb j q hj' hq' hc)
        have := (hI.i4 j q (by omega) hq' hc).1 hw
        omega
    refine ⟨h.ovStay i hki (Nat.le_of_lt hi) hno, hnext k (i + 1) hI.le hi (keep3 (ptr_mov hcb)) fun j q hj hq' hc => ?_⟩
    by_cases e : j = i
    · subst e; exact ⟨fun _ => Nat.lt_succ_self _, fun _ => getD_set_self hin⟩
    · rw [getD_set_other e, hI.i4 j q hj hq' hc]
      constructor
      · intro h'; omega
      · intro h'
        rcases Nat.lt_or_ge j kh with h'' | h''
        · exact h''
        · have := hno j q h'' (by omega) hq'
          rw [hc] at this; cases this
  have hquiet : movB true o = false → ptrCallB tt o = false → HInv tt ops n f (listed.setIfInBounds i true) ((d, v) :: tm) k kh := fun h3 h4 => hnext k kh hI.le hI.leh (keep3 h3) (keep4 h4)
  have hsub : ∀ id ob, look ([] : Hp) id = some ob → look (g kh ++ (f k).hp) id = some ob := fun id ob hl => by simp [look] at hl
  unfold wpOp
  simp only [ho]
  rcases hcase with ⟨⟨j, want, ob, hg, hga, hne⟩, hv, e1, e2, e3⟩ | ⟨hg, hcase⟩
  · subst hv
    have hy := guardA_ok (ops := ops) (s := ⟨tm, g kh ++ (f k).hp, (f k).nx⟩) hR ((hgd j want hg).trans hga)
    have hw : Region.wanted o (yielded ops a.tmps) = false := by
      simp only [Region.wanted, hg, hy]
      cases ob with
      | none => cases want <;> rfl
      | some b => cases b <;> cases want <;> first | rfl | exact absurd rfl hne
    rw [hw]
    simp only [Bool.false_eq_true, if_false]
    have hput : Rel E ⟨(d, .tup []) :: tm, g kh ++ (f k).hp, (f k).nx⟩ (a.put o.dst undef) w := by
      rw [hd]
      obtain ⟨hs, hdf, ι, S, hC, hTm⟩ := hR
      exact rel_put (s' := ⟨tm, g kh ++ (f k).hp, (f k).nx⟩) hs hdf hC hTm hdlt (.tup [] [] trivial) (fun v hv => by cases hv)
    cases hcp : ptrCallB tt o with
    | true =>
      obtain ⟨g1, g2⟩ := hptr hcp
      refine ⟨_, k, i + 1, g2, ?_⟩
      rw [e3, g1]; exact hput
    | false =>
      cases hcb : movB true o with
      | false => exact ⟨_, k, kh, hquiet hcb hcp, hput⟩
      | true =>
        obtain ⟨g1, g2, g3⟩ := hcallk hcb
        refine ⟨_, i + 1, kh, g3, ?_⟩
        rw [e1, e2, g1, g2]; exact hput
  · have hw : Region.wanted o (yielded ops a.tmps) = true := by
      cases hgg : o.guard with
      | none => simp [Region.wanted, hgg]
      | some jw =>
        obtain ⟨j, want⟩ := jw
        have hy := guardA_ok (ops := ops) (s := ⟨tm, g kh ++ (f k).hp, (f k).nx⟩) hR ((hgd j want hgg).trans (hg j want hgg))
        simp [Region.wanted, hgg, hy]
    rw [hw]
    simp only [if_true]
    refine .inl ?_
    have hb : Nat.blt d E.nt = true := Nat.ble_eq_true_of_le hdlt
    rcases hcase with ⟨hcp, hval | ⟨fn, avs, hs, hcv, hret⟩, e1, e2, _⟩ | ⟨⟨ob, hs, hcb, rfl, e1, e2⟩, _⟩ | ⟨⟨hcp, fn, avs, hi', hoo, hs, k1, k2, k3, e3⟩, e1, e2⟩
    · have hval' : QVal tt [] o tm v := by
        cases hval with
        | ok h => exact .ok (hst.trans h)
        | cond h hp => exact .cond (hst.trans h) hp
        | lst h => exact .lst (hst.trans h)
        | pick hop h hx =>
          rename_i b c x y
          refine .pick hop (hst.trans h) ?_
          have hx' : ∀ z, z ∈ o.op.operands.toList → opnd tm z = opnd (f i).tm z := fun z hz => (hops z hz).symm
          have hmem : x ∈ o.op.operands.toList ∧ y ∈ o.op.operands.toList := by rw [hop]; simp [Op.operands]
          cases b with
          | true => simp only [if_true] at *; rw [hx' x hmem.1]; exact hx
          | false => simp only [Bool.false_eq_true, if_false] at *; rw [hx' y hmem.2]; exact hx
      have hwp := qval_sound (Q := Q) hT hd hdlt hsub hval' hR
      cases hcb : movB true o with
      | false => exact Oper.wp_mono (fun a' w' hr => ⟨_, k, kh, hquiet hcb hcp, hr⟩) hwp
      | true =>
        obtain ⟨g1, g2, g3⟩ := hcallk hcb
        exact Oper.wp_mono (fun a' w' hr => ⟨_, i + 1, kh, g3, by rw [e1, e2, g1, g2]; exact hr⟩) hwp
    · have hwp := qcall_sound (Q := Q) hT hd hdlt hsub (hst.trans hs) (hcv _) (hret _) (fun e => by cases e) hR
      cases hcb : movB true o with
      | false => exact Oper.wp_mono (fun a' w' hr => ⟨_, k, kh, hquiet hcb hcp, hr⟩) hwp
      | true =>
        obtain ⟨g1, g2, g3⟩ := hcallk hcb
        exact Oper.wp_mono (fun a' w' hr => ⟨_, i + 1, kh, g3, by rw [e1, e2, g1, g2]; exact hr⟩) hwp
    · obtain ⟨g1, g2, g3⟩ := hcallk hcb
      have hst2 : stepA tt o.op ⟨tm, g kh ++ (f k).hp, (f k).nx⟩ = .newP ob := by
        rw [← hst.trans hs]
        cases hop : o.op with
        | alloc t => rfl
        | _ => simp [isAllocB, hop] at hcb
      refine Oper.wp_mono (fun a' w' hr => ⟨_, i + 1, kh, g3, ?_⟩) (runOp_to (s' := ⟨(d, .pt (f k).nx 0 0) :: tm, ((f k).nx, ob) :: (g kh ++ (f k).hp), (f k).nx + 1⟩) hT (by simp only [runOp, hd, hb, hst2, cond_true]) hR)
      rw [e1, e2, g1, g2]
      refine Forget.rel (s := ⟨(d, .pt (f k).nx 0 0) :: tm, ((f k).nx, ob) :: (g kh ++ (f k).hp), (f k).nx + 1⟩) (s' := ⟨(d, .pt (f k).nx 0 0) :: tm, g kh ++ (((f k).nx, ob) :: (f k).hp), (f k).nx + 1⟩) ⟨fun t v h => h, fun id oo e => ?_, Nat.le_refl _⟩ hr
      show look (((f k).nx, ob) :: (g kh ++ (f k).hp)) id = some oo
      replace e : look (g kh ++ (((f k).nx, ob) :: (f k).hp)) id = some oo := e
      rw [look_append] at e
      by_cases hid : (f k).nx = id
      · subst hid
        rw [look_cons_eq]
        cases hl : look (g kh) (f k).nx with
        | some x =>
          obtain ⟨y, hy⟩ := h.ovKeys kh hI.leh _ _ hl
          have h1 := hlt0 _ _ hy
          have h2 := (h.sub k hI.le).1
          omega
        | none => rw [hl, look_cons_eq] at e; exact e
      · rw [look_cons_ne _ _ hid, look_append]
        rw [look_cons_ne _ _ hid] at e
        exact e
    · obtain ⟨g1, g3⟩ := hptr hcp
      have e := stepA_mono (n' := (f k).nx) o.op hsub (by rw [hst.trans hs]; trivial)
      rw [hst.trans hs] at e
      refine Oper.wp_mono (fun a' w' hr => ⟨_, k, i + 1, g3, ?_⟩) (runOp_to (s' := ⟨(d, v) :: tm, hoo ++ (g kh ++ (f k).hp), (f k).nx⟩) hT (by
        simp only [runOp, hd, hb, e, cond_true]
        refine k3 _ _ _ fun id ob hl => ?_
        obtain ⟨h1, o', h2⟩ := k1 id ob hl
        rw [look_append] at h1 ⊢
        rw [g1] at h1
        have hlt := hlt0 _ _ h2
        rw [(h.sub i (Nat.le_of_lt hi)).2 id hlt] at h1
        rw [(h.sub k hI.le).2 id hlt]
        exact h1) hR)
      rw [e3, g1, List.append_assoc]; exact hr
end
theorem drawH_sound (hT : TabOk E.P tt) {ops : Array Oper} {id t : Nat} {Q : Exit → Act → World → Prop} {K : St → Prop} (hQ : ∀ s a w, Rel E s a w → K s → Q .normal a w) (hb : heapB tt ops.toList t = true)
    (h : qOpsH tt E.P E.nt E.fx s.hp ops (ops.toList.take t) [] s (fun s' => bruteA tt E.P E.nt E.fx ops (sizeL (ops.toList.drop t)) (trues (sizeL (ops.toList.take t)) ++ falses (ops.toList.drop t)) s' K)) (hR : Rel E s a w) : (Code.region id ops true).wp E.P Q a w := by
  unfold heapB at hb
  obtain ⟨_, hb⟩ := Bool.and_eq_true_iff.1 hb
  obtain ⟨hb, hptrs⟩ := Bool.and_eq_true_iff.1 hb
  simp only [anyB, Bool.and_eq_true] at hb
  obtain ⟨⟨⟨⟨hbody, hcalls⟩, hbacks⟩, hcut⟩, _⟩ := hb
  obtain ⟨f, g, f0, g0, fs, fk⟩ := qOpsH_chain (ops.toList.take t) [] s h
  subst f0
  obtain ⟨n, hn⟩ : ∃ n, n = (ops.toList.take t).length := ⟨_, rfl⟩
  have hnsz : n ≤ ops.size := by rw [hn]; simp; omega
  have hnt : n = t ∨ (n = ops.size ∧ ops.size ≤ t) := by rw [hn]; simp; omega
  rw [sizeL_eq, sizeL_eq, falses_eq, trues_eq, ← hn] at fk
  have hat : ∀ i o, i < n → ops[i]? = some o → (ops.toList.take t)[i]? = some o := by
    intro i o hi ho
    have hit : i < t := by rcases hnt with e | ⟨e, h'⟩ <;> omega
    rw [List.getElem?_take, if_pos hit]; simpa using ho
  have hCh : HChain E.P tt E.nt E.fx ops n f g := by
    refine ⟨hnsz, g0, fun i o hi ho => fs i o (hat i o hi ho), ?_, ?_, ?_, ?_⟩
    · intro i j o q hi hj ho hq'
      have := allI_at hbody i o (hat i o hi ho)
      simp only [Bool.and_eq_true, Nat.zero_add] at this
      have := allI_at this.2 j q (hat j q hj hq')
      simpa using this
    · intro i o hi ho
      have := allI_at hbody i o (hat i o hi ho)
      simp only [Bool.and_eq_true, Nat.zero_add] at this
      exact this.1.2
    · intro i o hi ho hcb j q hj hq' hc
      have := callsB_at true (ops.toList.take t) hcalls i o (hat i o hi ho) hcb j q hj (hat j q (by omega) hq') hc
      rw [List.take_take, Nat.min_eq_left (by rcases hnt with e | ⟨e, h'⟩ <;> omega)] at this
      exact this
    · intro i o hi ho hcb j q hj hq' hc
      have := callsP_at tt (ops.toList.take t) hptrs i o (hat i o hi ho) hcb j q hj (hat j q (by omega) hq') hc
      rw [List.take_take, Nat.min_eq_left (by rcases hnt with e | ⟨e, h'⟩ <;> omega)] at this
      exact this
  have hlt0 : ∀ id ob, look (f 0).hp id = some ob → id < (f 0).nx := by
    obtain ⟨_, _, ι, S, hC, _⟩ := hR
    exact fun id ob h => (hC.obj id ob h).1
  -- behind the body: the cut
  have hcutn : ∀ o, ops[n]? = some o → coverGo (ops.toList.take n).reverse n (onsL o.after.toList) = true ∧ ∀ i q, n < i → ops[i]? = some q → ∃ k, n ≤ k ∧ memB k (onsL q.after.toList) = true := by
    intro o ho
    have hlt := (Array.getElem?_eq_some_iff.1 ho).1
    have hnt' : n = t := by rcases hnt with e | ⟨e, h'⟩ <;> omega
    subst hnt'
    have hlt' : n < ops.toList.length := by simpa using hlt
    have ho' : ops.toList[n] = o := by
      have := (Array.getElem?_eq_some_iff.1 ho).2
      simpa using this
    rw [List.drop_eq_getElem_cons hlt', ho'] at hcut
    simp only [cutB, cutOk, Bool.and_eq_true] at hcut
    refine ⟨hcut.1, fun i q hi hq => ?_⟩
    have hm : q ∈ ops.toList.drop (n + 1) := by
      refine List.mem_of_getElem? (i := i - (n + 1)) ?_
      rw [List.getElem?_drop, show n + 1 + (i - (n + 1)) = i by omega]; simpa using hq
    obtain ⟨k, hk, hb⟩ := List.any_eq_true.1 (List.all_eq_true.1 hcut.2 q hm)
    exact ⟨k, Nat.le_of_ble_eq_true hb, (memB_iff' k _).2 hk⟩
  refine wp_region_any hT.mixed ?_
  have hcount : (Array.replicate ops.size false).toList.count false ≤ ops.size := Nat.le_trans List.count_le_length (by rw [Array.toList_replicate, List.length_replicate]; exact Nat.le_refl _)
  refine wpAny_inv (P := E.P) (fun listed a w => (∃ tm k kh, HInv tt ops n f listed tm k kh ∧ (∀ j, n ≤ j → j < ops.size → listed.getD j false = false) ∧ Rel E ⟨tm, g kh ++ (f k).hp, (f k).nx⟩ a w) ∨
      (∃ g s, Rel E s a w ∧ bruteA tt E.P E.nt E.fx ops g listed.toList s K)) ?_ ?_ ?_ ops.size _ a _ (by simp) ?_ ?_ ?_
  · intro i o ho
    have := allI_at hbacks i o (by simpa using ho)
    exact backB_on (by simpa using this)
  · intro listed a w i o hsz hD hI ho hun hall
    have hilt := (Array.getElem?_eq_some_iff.1 ho).1
    have hacc : ∀ k, memB k (onsL o.after.toList) = true → listed.getD k false = true := fun k hk => by
      obtain ⟨e, h1, h2, h3⟩ := memB_ons hk
      have := hall e h1 h2
      rw [h3] at this; exact this
    -- a step order by order
    have bruteStep : ∀ g s, Rel E s a w → bruteA tt E.P E.nt E.fx ops g listed.toList s K →
        wpOp E.P ops Q i (fun a' w' => ∃ g s, Rel E s a' w' ∧ bruteA tt E.P E.nt E.fx ops g (listed.setIfInBounds i true).toList s K) a w := by
      intro g s hRs hbr
      have hready : i ∈ readyL listed.toList 0 ops.toList listed.toList := by
        rw [← readyL_iff (by simpa using hsz)]
        refine mem_ready.2 ⟨?_, o, ho, ?_⟩
        · show listed.toList.toArray.getD i true = false
          simp only [Array.toArray_toList]
          rw [getD_true_iff (by omega)]; exact hun
        · simp only [Array.toArray_toList]; exact hall
      cases g with
      | zero =>
        simp only [bruteA] at hbr
        cases hr : readyL listed.toList 0 ops.toList listed.toList with
        | nil => rw [hr] at hready; cases hready
        | cons x r => simp [hr] at hbr
      | succ g =>
        simp only [bruteA] at hbr
        cases hr : readyL listed.toList 0 ops.toList listed.toList with
        | nil => rw [hr] at hready; cases hready
        | cons x r =>
          simp only [hr] at hbr
          rw [hr] at hready
          have h := allR_at hbr i hready
          have hto : ops.toList[i]? = some o := by simpa using ho
          simp only [hto] at h
          have hset : (listed.setIfInBounds i true).toList = listed.toList.set i true := by simp
          rw [hset]
          unfold wpOp
          simp only [ho]
          rcases byGuard_sound h hRs with ⟨hw, h⟩ | ⟨hw, h⟩
          · rw [if_pos hw]
            exact .inl (Oper.wp_mono (fun a' w' ⟨s', h1, h2⟩ => ⟨g, s', h1, h2⟩) (runOp_sound hT h hRs))
          · rw [hw]
            simp only [Bool.false_eq_true, if_false]
            obtain ⟨s', h1, h2⟩ := skipA_sound h hRs
            exact ⟨g, s', h1, h2⟩
    rcases hI with ⟨tm, k, kh, hB, hno, hRk⟩ | ⟨g, s, hRs, hrun⟩
    · rcases Nat.lt_or_ge i n with hi | hi
      · refine wpOp_mono (fun a' w' ⟨tm', k', kh', h1, h2⟩ => .inl ⟨tm', k', kh', h1, fun j hj hj' => ?_, h2⟩) (hbody_step hT hCh hsz hD hB hlt0 hi ho hun hall hRk)
        rw [getD_set_other (by omega)]; exact hno j hj hj'
      · have hin : i = n := by
          rcases Nat.lt_or_ge n i with h' | h'
          · obtain ⟨k', hk', hm⟩ := (hcutn _ (Array.getElem?_eq_getElem (show n < ops.size by omega))).2 i o h' ho
            have hl := hacc k' hm
            have hlt' : k' < ops.size := by
              rcases Nat.lt_or_ge k' ops.size with h'' | h''
              · exact h''
              · rw [Array.getD_eq_getD_getElem?, Array.getElem?_eq_none (by omega)] at hl; cases hl
            rw [hno k' hk' hlt'] at hl; cases hl
          · omega
        subst hin
        have hw := cover_on hD i _ (Nat.le_of_lt hilt) (hcutn o ho).1 hacc
        have hRn : Rel E ⟨(f i).tm, g i ++ (f i).hp, (f i).nx⟩ a w := by
          have hhp := hCh.hpStay (k := k) i hB.le (Nat.le_refl _) (fun j q hj hj' hq' => by
            cases hc : movB true q with
            | false => rfl
            | true => have := (hB.i3 j q hj' hq' hc).1 (hw j hj'); omega)
          have hgg := hCh.ovStay (k := kh) i hB.leh (Nat.le_refl _) (fun j q hj hj' hq' => by
            cases hc : ptrCallB tt q with
            | false => rfl
            | true => have := (hB.i4 j q hj' hq' hc).1 (hw j hj'); omega)
          rw [← hhp.1, ← hhp.2, ← hgg] at hRk
          refine rel_ext hRk fun t v hv => ?_
          rw [HInv.at hCh hB (Nat.le_refl _) fun j q hj hq' hd => ⟨hj, hw j hj⟩]; exact hv
        have hlist : listed.toList = List.replicate i true ++ List.replicate (ops.toList.drop t).length false := by
          have hdl : (ops.toList.drop t).length = ops.size - i := by
            have hnt' : i = t := by rcases hnt with e | ⟨e, h'⟩ <;> omega
            subst hnt'; simp
          refine List.ext_getElem? fun j => ?_
          rw [Array.getElem?_toList, hdl]
          by_cases hj : j < ops.size
          · have hg : listed[j]? = some (listed.getD j false) := by
              rw [Array.getD_eq_getD_getElem?, Array.getElem?_eq_getElem (show j < listed.size by omega)]; rfl
            rw [hg]
            by_cases hji : j < i
            · rw [hw j hji, List.getElem?_append_left (by simpa using hji)]; simp [hji]
            · rw [hno j (by omega) hj, List.getElem?_append_right (by rw [List.length_replicate]; omega), List.length_replicate, List.getElem?_replicate, if_pos (by omega)]
          · rw [Array.getElem?_eq_none (by omega), List.getElem?_eq_none (by simp; omega)]
        rw [← hlist] at fk
        exact wpOp_mono (fun a' w' h => .inr h) (bruteStep _ _ hRn fk)
    · exact wpOp_mono (fun a' w' h => .inr h) (bruteStep g s hRs hrun)
  · intro listed a w hsz hI hall
    have hnone : readyL listed.toList 0 ops.toList listed.toList = [] := by
      refine List.eq_nil_iff_forall_not_mem.2 fun i hi => ?_
      rw [mem_readyL] at hi
      obtain ⟨_, h1, o, h2, _⟩ := hi
      rw [Nat.sub_zero, Array.getElem?_toList] at h1 h2
      have hlt := (Array.getElem?_eq_some_iff.1 h2).1
      have := hall i hlt
      rw [Array.getD_eq_getD_getElem?, h1] at this; cases this
    have fin : ∀ g s, Rel E s a w → bruteA tt E.P E.nt E.fx ops g listed.toList s K → Q .normal a w := by
      intro g s hRs hbr
      cases g with
      | zero => simp only [bruteA, hnone] at hbr; exact hQ _ _ _ hRs hbr
      | succ g => simp only [bruteA, hnone] at hbr; exact hQ _ _ _ hRs hbr
    rcases hI with ⟨tm, k, kh, hB, hno, hRk⟩ | ⟨g, s, hRs, hrun⟩
    · have hne : n = ops.size := by
        rcases Nat.lt_or_ge n ops.size with h' | h'
        · have := hall n h'; rw [hno n (Nat.le_refl _) h'] at this; cases this
        · omega
      have hhp := hCh.hpStay (k := k) n hB.le (Nat.le_refl _) (fun j q hj hj' hq' => by
        cases hc : movB true q with
        | false => rfl
        | true => have := (hB.i3 j q hj' hq' hc).1 (hall j (by omega)); omega)
      have hgg := hCh.ovStay (k := kh) n hB.leh (Nat.le_refl _) (fun j q hj hj' hq' => by
        cases hc : ptrCallB tt q with
        | false => rfl
        | true => have := (hB.i4 j q hj' hq' hc).1 (hall j (by omega)); omega)
      rw [← hhp.1, ← hhp.2, ← hgg] at hRk
      have hRn : Rel E ⟨(f n).tm, g n ++ (f n).hp, (f n).nx⟩ a w := rel_ext hRk fun t v hv => by
        rw [HInv.at hCh hB (Nat.le_refl _) fun j q hj hq' hd => ⟨hj, hall j (by omega)⟩]; exact hv
      have hlist : listed.toList = List.replicate n true ++ List.replicate (ops.toList.drop t).length false := by
        have hd0 : (ops.toList.drop t).length = 0 := by
          rcases hnt with e | ⟨e, h'⟩
          · simp; omega
          · simp; omega
        rw [hd0, List.replicate_zero, List.append_nil]
        refine List.ext_getElem? fun j => ?_
        rw [Array.getElem?_toList]
        by_cases hj : j < ops.size
        · have hg : listed[j]? = some (listed.getD j false) := by
            rw [Array.getD_eq_getD_getElem?, Array.getElem?_eq_getElem (show j < listed.size by omega)]; rfl
          rw [hg, hall j hj, List.getElem?_replicate, if_pos (by omega)]
        · rw [Array.getElem?_eq_none (by omega), List.getElem?_eq_none (by rw [List.length_replicate]; omega)]
      rw [← hlist] at fk
      exact fin _ _ hRn fk
    · exact fin g s hRs hrun
  · intro k o _ hk; simp [Array.getD_eq_getD_getElem?] at hk
    by_cases h' : k < ops.size <;> simp [h'] at hk
  · exact hcount
  · refine .inl ⟨(f 0).tm, 0, 0, ⟨Nat.zero_le _, Nat.zero_le _, ?_, fun t _ => rfl, ?_, ?_⟩, ?_, ?_⟩
    · intro j o t hj hl; simp [Array.getD_eq_getD_getElem?] at hl
      by_cases h' : j < ops.size <;> simp [h'] at hl
    · intro j o hj ho hc
      refine ⟨fun hl => ?_, fun h' => by omega⟩
      simp [Array.getD_eq_getD_getElem?] at hl
      by_cases h' : j < ops.size <;> simp [h'] at hl
    · intro j o hj ho hc
      refine ⟨fun hl => ?_, fun h' => by omega⟩
      simp [Array.getD_eq_getD_getElem?] at hl
      by_cases h' : j < ops.size <;> simp [h'] at hl
    · intro j hj hj'; simp [Array.getD_eq_getD_getElem?, hj']
    · rw [g0]; exact rel_drew hR
theorem draw_sound (hT : TabOk E.P tt) {ops : Array Oper} {id : Nat} {Q : Exit → Act → World → Prop} {K : St → Prop} (hQ : ∀ s a w, Rel E s a w → K s → Q .normal a w) (h : runDraw tt E.P E.nt E.fx ops s K) (hR : Rel E s a w) : (Code.region id ops true).wp E.P Q a w := by
  unfold runDraw at h
  simp only at h
  generalize cutFar tt ops.toList = t at h
  generalize hmd : oneMd (ops.toList.take t) = md at h
  cases hb : ((anyB md ops.toList t && (noPtr tt (ops.toList.take t) || guB ops.toList)) && !twoB ops.toList) with
  | false =>
    rw [hb] at h
    simp only [cond_false] at h
    cases hbh : heapB tt ops.toList t with
    | true => rw [hbh] at h; simp only [cond_true] at h; exact drawH_sound hT hQ hbh h hR
    | false =>
    rw [hbh] at h
    simp only [cond_false] at h
    unfold runRest at h
    refine wp_region_any hT.mixed ?_
    have hbr : ∀ {a' w'}, Rel E s a' w' → bruteA tt E.P E.nt E.fx ops (sizeL ops.toList) (falses ops.toList) s K → wpAny E.P .any ops Q ops.size (Array.replicate ops.size false) a' w' := fun {a' w'} hR' h => by
      have := brute_sound hT hQ _ _ s a' _ (by rw [falses_eq]; simp) h hR'
      rw [sizeL_eq, falses_eq] at this
      simpa using this
    cases hb2 : useB tt ops.toList with
    | true =>
      rw [hb2] at h
      simp only [cond_true] at h
      obtain ⟨sel, h⟩ := preDyn_ex h
      cases hb3 : preB ops.toList sel with
      | true => rw [hb3] at h; exact pre_sound hT hQ hb3 h (rel_drew hR)
      | false => rw [hb3] at h; exact hbr (rel_drew hR) (preOps_const h)
    | false => rw [hb2] at h; exact hbr (rel_drew hR) h
  | true =>
    rw [hb] at h
    simp only [cond_true] at h
    replace hb := (Bool.and_eq_true_iff.1 hb).1
    simp only [anyB, Bool.and_eq_true] at hb
    obtain ⟨⟨⟨⟨⟨hbody, hcalls⟩, hbacks⟩, hcut⟩, _⟩, _⟩ := hb
    obtain ⟨f, f0, fs, fk⟩ := qOps_chain (ops.toList.take t) s h
    subst f0
    obtain ⟨n, hn⟩ : ∃ n, n = (ops.toList.take t).length := ⟨_, rfl⟩
    have hnsz : n ≤ ops.size := by rw [hn]; simp; omega
    have hnt : n = t ∨ (n = ops.size ∧ ops.size ≤ t) := by rw [hn]; simp; omega
    rw [sizeL_eq, sizeL_eq, falses_eq, trues_eq, ← hn] at fk
    have hat : ∀ i o, i < n → ops[i]? = some o → (ops.toList.take t)[i]? = some o := by
      intro i o hi ho
      have hit : i < t := by rcases hnt with e | ⟨e, h'⟩ <;> omega
      rw [List.getElem?_take, if_pos hit]; simpa using ho
    have hCh : Chain E.P tt E.nt (f 0).hp md ops n f := by
      refine ⟨hnsz, fun i o hi ho => fs i o (hat i o hi ho), ?_, ?_, ?_⟩
      · intro i j o q hi hj ho hq'
        have := allI_at hbody i o (hat i o hi ho)
        simp only [Bool.and_eq_true, Nat.zero_add] at this
        have := allI_at this.2 j q (hat j q hj hq')
        simpa using this
      · intro i o hi ho
        have := allI_at hbody i o (hat i o hi ho)
        simp only [Bool.and_eq_true, Nat.zero_add] at this
        exact this.1.2
      · intro i o hi ho hcb j q hj hq' hc
        have := callsB_at md (ops.toList.take t) hcalls i o (hat i o hi ho) hcb j q hj (hat j q (by omega) hq') hc
        rw [List.take_take, Nat.min_eq_left (by rcases hnt with e | ⟨e, h'⟩ <;> omega)] at this
        exact this
    have hlt0 : ∀ id ob, look (f 0).hp id = some ob → id < (f 0).nx := by
      obtain ⟨_, _, ι, S, hC, _⟩ := hR
      exact fun id ob h => (hC.obj id ob h).1
    -- behind the body: the cut
    have hcutn : ∀ o, ops[n]? = some o → coverGo (ops.toList.take n).reverse n (onsL o.after.toList) = true ∧ ∀ i q, n < i → ops[i]? = some q → ∃ k, n ≤ k ∧ memB k (onsL q.after.toList) = true := by
      intro o ho
      have hlt := (Array.getElem?_eq_some_iff.1 ho).1
      have hnt' : n = t := by rcases hnt with e | ⟨e, h'⟩ <;> omega
      subst hnt'
      have hlt' : n < ops.toList.length := by simpa using hlt
      have ho' : ops.toList[n] = o := by
        have := (Array.getElem?_eq_some_iff.1 ho).2
        simpa using this
      rw [List.drop_eq_getElem_cons hlt', ho'] at hcut
      simp only [cutB, cutOk, Bool.and_eq_true] at hcut
      refine ⟨hcut.1, fun i q hi hq => ?_⟩
      have hm : q ∈ ops.toList.drop (n + 1) := by
        refine List.mem_of_getElem? (i := i - (n + 1)) ?_
        rw [List.getElem?_drop, show n + 1 + (i - (n + 1)) = i by omega]; simpa using hq
      obtain ⟨k, hk, hb⟩ := List.any_eq_true.1 (List.all_eq_true.1 hcut.2 q hm)
      exact ⟨k, Nat.le_of_ble_eq_true hb, (memB_iff' k _).2 hk⟩
    refine wp_region_any hT.mixed ?_
    have hcount : (Array.replicate ops.size false).toList.count false ≤ ops.size := Nat.le_trans List.count_le_length (by rw [Array.toList_replicate, List.length_replicate]; exact Nat.le_refl _)
    refine wpAny_inv (P := E.P) (fun listed a w => (∃ tm k, BodyInv md ops n f listed tm k ∧ (∀ j, n ≤ j → j < ops.size → listed.getD j false = false) ∧ Rel E ⟨tm, (f k).hp, (f k).nx⟩ a w) ∨
        (∃ g s, Rel E s a w ∧ bruteA tt E.P E.nt E.fx ops g listed.toList s K)) ?_ ?_ ?_ ops.size _ a _ (by simp) ?_ ?_ ?_
    · intro i o ho
      have := allI_at hbacks i o (by simpa using ho)
      exact backB_on (by simpa using this)
    · intro listed a w i o hsz hD hI ho hun hall
      have hilt := (Array.getElem?_eq_some_iff.1 ho).1
      have hacc : ∀ k, memB k (onsL o.after.toList) = true → listed.getD k false = true := fun k hk => by
        obtain ⟨e, h1, h2, h3⟩ := memB_ons hk
        have := hall e h1 h2
        rw [h3] at this; exact this
      -- a step order by order
      have bruteStep : ∀ g s, Rel E s a w → bruteA tt E.P E.nt E.fx ops g listed.toList s K →
          wpOp E.P ops Q i (fun a' w' => ∃ g s, Rel E s a' w' ∧ bruteA tt E.P E.nt E.fx ops g (listed.setIfInBounds i true).toList s K) a w := by
        intro g s hRs hbr
        have hready : i ∈ readyL listed.toList 0 ops.toList listed.toList := by
          rw [← readyL_iff (by simpa using hsz)]
          refine mem_ready.2 ⟨?_, o, ho, ?_⟩
          · show listed.toList.toArray.getD i true = false
            simp only [Array.toArray_toList]
            rw [getD_true_iff (by omega)]; exact hun
          · simp only [Array.toArray_toList]; exact hall
        cases g with
        | zero =>
          simp only [bruteA] at hbr
          cases hr : readyL listed.toList 0 ops.toList listed.toList with
          | nil => rw [hr] at hready; cases hready
          | cons x r => simp [hr] at hbr
        | succ g =>
          simp only [bruteA] at hbr
          cases hr : readyL listed.toList 0 ops.toList listed.toList with
          | nil => rw [hr] at hready; cases hready
          | cons x r =>
            simp only [hr] at hbr
            rw [hr] at hready
            have h := allR_at hbr i hready
            have hto : ops.toList[i]? = some o := by simpa using ho
            simp only [hto] at h
            have hset : (listed.setIfInBounds i true).toList = listed.toList.set i true := by simp
            rw [hset]
            unfold wpOp
            simp only [ho]
            rcases byGuard_sound h hRs with ⟨hw, h⟩ | ⟨hw, h⟩
            · rw [if_pos hw]
              exact .inl (Oper.wp_mono (fun a' w' ⟨s', h1, h2⟩ => ⟨g, s', h1, h2⟩) (runOp_sound hT h hRs))
            · rw [hw]
              simp only [Bool.false_eq_true, if_false]
              obtain ⟨s', h1, h2⟩ := skipA_sound h hRs
              exact ⟨g, s', h1, h2⟩
      rcases hI with ⟨tm, k, hB, hno, hRk⟩ | ⟨g, s, hRs, hrun⟩
      · rcases Nat.lt_or_ge i n with hi | hi
        · refine wpOp_mono (fun a' w' ⟨tm', k', h1, h2⟩ => .inl ⟨tm', k', h1, fun j hj hj' => ?_, h2⟩) (body_step hT hCh hsz hD hB hlt0 hi ho hun hall hRk)
          rw [getD_set_other (by omega)]; exact hno j hj hj'
        · have hin : i = n := by
            rcases Nat.lt_or_ge n i with h' | h'
            · obtain ⟨k', hk', hm⟩ := (hcutn _ (Array.getElem?_eq_getElem (show n < ops.size by omega))).2 i o h' ho
              have hl := hacc k' hm
              have hlt' : k' < ops.size := by
                rcases Nat.lt_or_ge k' ops.size with h'' | h''
                · exact h''
                · rw [Array.getD_eq_getD_getElem?, Array.getElem?_eq_none (by omega)] at hl; cases hl
              rw [hno k' hk' hlt'] at hl; cases hl
            · omega
          subst hin
          have hw := cover_on hD i _ (Nat.le_of_lt hilt) (hcutn o ho).1 hacc
          have hRn : Rel E (f i) a w := by
            have hhp := hCh.hpStay (k := k) i hB.le (Nat.le_refl _) (fun j q hj hj' hq' => by
              cases hc : movB md q with
              | false => rfl
              | true => have := (hB.i3 j q hj' hq' hc).1 (hw j hj'); omega)
            rw [← hhp.1, ← hhp.2] at hRk
            refine rel_ext hRk fun t v hv => ?_
            rw [BodyInv.at hCh hB (Nat.le_refl _) fun j q hj hq' hd => ⟨hj, hw j hj⟩]; exact hv
          have hlist : listed.toList = List.replicate i true ++ List.replicate (ops.toList.drop t).length false := by
            have hdl : (ops.toList.drop t).length = ops.size - i := by
              have hnt' : i = t := by rcases hnt with e | ⟨e, h'⟩ <;> omega
              subst hnt'; simp
            refine List.ext_getElem? fun j => ?_
            rw [Array.getElem?_toList, hdl]
            by_cases hj : j < ops.size
            · have hg : listed[j]? = some (listed.getD j false) := by
                rw [Array.getD_eq_getD_getElem?, Array.getElem?_eq_getElem (show j < listed.size by omega)]; rfl
              rw [hg]
              by_cases hji : j < i
              · rw [hw j hji, List.getElem?_append_left (by simpa using hji)]; simp [hji]
              · rw [hno j (by omega) hj, List.getElem?_append_right (by rw [List.length_replicate]; omega), List.length_replicate, List.getElem?_replicate, if_pos (by omega)]
            · rw [Array.getElem?_eq_none (by omega), List.getElem?_eq_none (by simp; omega)]
          rw [← hlist] at fk
          exact wpOp_mono (fun a' w' h => .inr h) (bruteStep _ _ hRn fk)
      · exact wpOp_mono (fun a' w' h => .inr h) (bruteStep g s hRs hrun)
    · intro listed a w hsz hI hall
      have hnone : readyL listed.toList 0 ops.toList listed.toList = [] := by
        refine List.eq_nil_iff_forall_not_mem.2 fun i hi => ?_
        rw [mem_readyL] at hi
        obtain ⟨_, h1, o, h2, _⟩ := hi
        rw [Nat.sub_zero, Array.getElem?_toList] at h1 h2
        have hlt := (Array.getElem?_eq_some_iff.1 h2).1
        have := hall i hlt
        rw [Array.getD_eq_getD_getElem?, h1] at this; cases this
      have fin : ∀ g s, Rel E s a w → bruteA tt E.P E.nt E.fx ops g listed.toList s K → Q .normal a w := by
        intro g s hRs hbr
        cases g with
        | zero => simp only [bruteA, hnone] at hbr; exact hQ _ _ _ hRs hbr
        | succ g => simp only [bruteA, hnone] at hbr; exact hQ _ _ _ hRs hbr
      rcases hI with ⟨tm, k, hB, hno, hRk⟩ | ⟨g, s, hRs, hrun⟩
      · have hne : n = ops.size := by
          rcases Nat.lt_or_ge n ops.size with h' | h'
          · have := hall n h'; rw [hno n (Nat.le_refl _) h'] at this; cases this
          · omega
        have hhp := hCh.hpStay (k := k) n hB.le (Nat.le_refl _) (fun j q hj hj' hq' => by
          cases hc : movB md q with
          | false => rfl
          | true => have := (hB.i3 j q hj' hq' hc).1 (hall j (by omega)); omega)
        rw [← hhp.1, ← hhp.2] at hRk
        have hRn : Rel E (f n) a w := rel_ext hRk fun t v hv => by
          rw [BodyInv.at hCh hB (Nat.le_refl _) fun j q hj hq' hd => ⟨hj, hall j (by omega)⟩]; exact hv
        have hlist : listed.toList = List.replicate n true ++ List.replicate (ops.toList.drop t).length false := by
          have hd0 : (ops.toList.drop t).length = 0 := by
            rcases hnt with e | ⟨e, h'⟩
            · simp; omega
            · simp; omega
          rw [hd0, List.replicate_zero, List.append_nil]
          refine List.ext_getElem? fun j => ?_
          rw [Array.getElem?_toList]
          by_cases hj : j < ops.size
          · have hg : listed[j]? = some (listed.getD j false) := by
              rw [Array.getD_eq_getD_getElem?, Array.getElem?_eq_getElem (show j < listed.size by omega)]; rfl
            rw [hg, hall j hj, List.getElem?_replicate, if_pos (by omega)]
          · rw [Array.getElem?_eq_none (by omega), List.getElem?_eq_none (by rw [List.length_replicate]; omega)]
        rw [← hlist] at fk
        exact fin _ _ hRn fk
      · exact fin g s hRs hrun
    · intro k o _ hk; simp [Array.getD_eq_getD_getElem?] at hk
      by_cases h' : k < ops.size <;> simp [h'] at hk
    · exact hcount
    · refine .inl ⟨(f 0).tm, 0, ⟨Nat.zero_le _, ?_, fun t _ => rfl, ?_⟩, ?_, rel_drew hR⟩
      · intro j o t hj hl; simp [Array.getD_eq_getD_getElem?] at hl
        by_cases h' : j < ops.size <;> simp [h'] at hl
      · intro j o hj ho hc
        refine ⟨fun hl => ?_, fun h' => by omega⟩
        simp [Array.getD_eq_getD_getElem?] at hl
        by_cases h' : j < ops.size <;> simp [h'] at hl
      · intro j hj hj'; simp [Array.getD_eq_getD_getElem?, hj']
end Go.Am
/-
  CODES: what is asked is enough, of a whole code.
-/
namespace Go.Am
open Go.RowKit
set_option linter.unusedVariables false
set_option linter.unusedSimpArgs false

variable {E : Env} {s : St} {a : Act} {w : World} {ι : Loc} {S : Nat → Prop} {tt : Tab}

/-! ### loops -/
theorem exists_least (p : Nat → Prop) (h : ∃ n, p n) : ∃ n, p n ∧ ∀ m, p m → n ≤ m := by
  obtain ⟨n, hn⟩ := h
  induction n using Nat.strongRecOn with
  | _ n ih =>
    by_cases hlt : ∃ m, m < n ∧ p m
    · obtain ⟨m, hm, hpm⟩ := hlt; exact ih m hm hpm
    · exact ⟨n, hn, fun m hm => Nat.le_of_not_lt fun h => hlt ⟨m, h, hm⟩⟩


theorem run_sound (hT : TabOk E.P tt) (c : Code) : ∀ (s : St) (Q : Exit → St → Prop), run tt E.P E.nt E.fx c s Q → ∀ a w, Rel E s a w → c.wp E.P (fun e a' w' => ∃ s', Rel E s' a' w' ∧ Q e s') a w := by
  induction c with
  | skip => exact fun s Q h a w hR => wp_skip ⟨s, hR, h⟩
  | label l => exact fun s Q h a w hR => wp_label ⟨s, hR, h⟩
  | exit id => exact fun s Q h a w hR => wp_exit ⟨s, hR, h⟩
  | goto l => exact fun s Q h a w hR => wp_goto ⟨s, hR, h⟩
  | ret => exact fun s Q h a w hR => wp_ret ⟨s, hR, h⟩
  | region id ops draw =>
    intro s Q h a w hR
    cases draw with
    | true => exact draw_sound hT (fun s a w hR hK => ⟨s, hR, hK⟩) h hR
    | false => exact wp_region_list (runOps_sound hT (K := Q .normal) (fun s a w hR hK => ⟨s, hR, hK⟩) ops.toList s a w h hR)
  | seq x y ihx ihy =>
    intro s Q h a w hR
    refine wp_seq (wp_mono (ihx s _ h a w hR) ?_)
    rintro e a' w' ⟨s', hR', h'⟩
    cases e with
    | normal => exact ihy s' Q h' a' w' hR'
    | _ => exact ⟨s', hR', h'⟩
  | cond c x y ihx ihy =>
    intro s Q h a w hR
    simp only [run] at h
    cases hc : opnd s.tm c with
    | none => simp [hc] at h
    | some v =>
      cases v with
      | val u =>
        cases u with
        | bool b =>
          simp only [hc] at h
          have hR' := hR
          obtain ⟨hs, hd, ι, S, hC, hTm⟩ := hR
          have hv := (opnd_rel hTm hc).1.val_inv.1
          exact wp_cond_split hv (fun hb => ihx s Q (h.t hb) a w hR') (fun hb => ihy s Q (h.f hb) a w hR')
        | _ => simp [hc] at h
      | _ => simp [hc] at h
  | block id c ih =>
    intro s Q h a w hR
    refine wp_block (wp_mono (ih s _ h a w hR) ?_)
    rintro e a' w' ⟨s', hR', h'⟩
    cases e with
    | exit i =>
      simp only [Exit.inBlock]
      by_cases hi : i = id
      · subst hi
        simp at h'
        rw [if_pos rfl]
        exact ⟨s', hR', h'⟩
      · have : Nat.beq i id = false := by
          cases hb : Nat.beq i id with
          | true => exact absurd (Nat.eq_of_beq_eq_true hb) hi
          | false => rfl
        dsimp only at h'
        rw [this] at h'
        rw [if_neg hi]
        exact ⟨s', hR', h'⟩
    | _ => exact ⟨s', hR', h'⟩
  | loop c ih =>
    intro s Q h a w hR
    obtain ⟨α, T, μ, x0, hw0, hround⟩ := h.inv
    let p : Act → World → Nat → Prop := fun a w n => ∃ x, μ x = n ∧ Rel E (T x) a w
    let I : Act → World → Prop := fun a w => ∃ n, p a w n
    have hν : ∀ a w, I a w → p a w (Classical.epsilon fun n => p a w n ∧ ∀ m, p a w m → n ≤ m) ∧ ∀ m, p a w m → (Classical.epsilon fun n => p a w n ∧ ∀ m, p a w m → n ≤ m) ≤ m := fun a w h => Classical.epsilon_spec (exists_least (p a w) h)
    refine wp_loop I (fun a w => Classical.epsilon fun n => p a w n ∧ ∀ m, p a w m → n ≤ m) ⟨μ x0, x0, rfl, hw0 E a w rfl hR⟩ ?_
    intro a w hI
    obtain ⟨⟨x, hx, hRx⟩, hmin⟩ := hν a w hI
    refine wp_mono (ih (T x) _ (hround x) a w hRx) ?_
    rintro e a' w' ⟨s', hR', h'⟩
    cases e with
    | normal =>
      obtain ⟨y, hlt, hwk⟩ := h'
      have hp : p a' w' (μ y) := ⟨y, rfl, hwk E a' w' rfl hR'⟩
      have hI' : I a' w' := ⟨_, hp⟩
      exact ⟨hI', by have := (hν a' w' hI').2 _ hp; omega⟩
    | _ => exact ⟨s', hR', h'⟩
  | _ => exact fun s Q h a w hR => h.elim

end Go.Am
