/-
  FUNCTIONS: from what a body asks to what is said of the function.
-/
import Derived.Test.YtdnanpokaanhdaaDoorAmQ2
namespace Go.Am
open Go.RowKit
set_option linter.unusedVariables false
set_option linter.unusedSimpArgs false

variable {E : Env} {s : St} {a : Act} {w : World} {ι : Loc} {S : Nat → Prop} {tt : Tab}

/-! ### other numbers -/
def renC (τ : Nat → Nat) : AV → AV
  | .own i len => .own (τ i) len
  | .pt i r o => .pt (τ i) r o
  | .sb i r o l => .sb (τ i) r o l
  | .mp i => .mp (τ i)
  | .clo i => .clo (τ i)
  | a => a
def renA (τ : Nat → Nat) : AV → AV
  | .agg cs => .agg (cs.map (renC τ))
  | a => renC τ a
def renV (τ : Nat → Nat) : AV → AV
  | .tup vs => .tup (vs.map (renA τ))
  | a => renA τ a
def renO (τ : Nat → Nat) : AObj → AObj
  | .box cs => .box (cs.map (renC τ))
  | .list e s rows => .list e s rows
  | .map kk rows => .map kk rows
  | .ranged kk cur left => .ranged kk cur left
  | .clo f fs cs => .clo f (fs.map (renC τ)) (cs.map (renC τ))
  | @AObj.nest b e s rows => match b with
    | true => .nest (c := true) e s rows
    | false => .nest (c := false) e s (rows.map fun r => r.map (renC τ))
def idsC (ks : List Nat) : AV → Bool
  | .own i _ => memB i ks
  | .pt i _ _ => memB i ks
  | .sb i _ _ _ => memB i ks
  | .mp i => memB i ks
  | .clo i => memB i ks
  | _ => true
def idsA (ks : List Nat) : AV → Bool
  | .agg cs => cs.all (idsC ks)
  | a => idsC ks a
def idsV (ks : List Nat) : AV → Bool
  | .tup vs => vs.all (idsA ks)
  | a => idsA ks a
def idsO (ks : List Nat) : AObj → Bool
  | .box cs => cs.all (idsC ks)
  | .list _ _ _ => true
  | .map _ _ => true
  | .ranged _ _ _ => true
  | .clo _ fs cs => fs.all (idsC ks) && cs.all (idsC ks)
  | @AObj.nest b _ _ rows => b || rows.all fun r => r.all (idsC ks)
theorem idsN {ks : List Nat} {rows : List (List AV)} (h : (rows.all fun r => r.all (idsC ks)) = true) {c : AV} (hc : c ∈ rows.flatten) : idsC ks c = true := by
  obtain ⟨r, hr, hcr⟩ := List.mem_flatten.1 hc
  exact List.all_eq_true.1 (List.all_eq_true.1 h r hr) c hcr
theorem Tr.ren {ι' : Loc} {i j : Nat} (hτ : ∀ p : List Nat, ι' ⟨j, p⟩ = ι ⟨i, p⟩) {k : Key} {v : Value} {a : AV} (h : Tr w S ι k v a) (hk : k.id = i) : Tr w S ι' ⟨j, k.path⟩ v a := by
  induction h with
  | rd h => exact .rd h
  | nil k e s hs => exact .nil _ e s hs
  | tree k g cap e s rows vs h hs hr hl hm hw hn hc ih =>
    refine .tree _ g cap e s rows vs ((hτ k.path).trans ?_) hs hr hl hm hw hn fun i v a hv ha => ih i v a hv ha hk
    rw [← hk]; exact h
theorem Tr.renC {τ : Nat → Nat} {k : Key} {v : Value} {a : AV} (h : Tr w S ι k v a) : renC τ a = a := by
  cases h with
  | rd h => cases h <;> rfl
  | _ => rfl

theorem idsC_id {ks : List Nat} {a : AV} (h : idsC ks a = true) : ∀ i, a.idOf = some i → memB i ks = true := by
  intro i hi
  cases a <;> simp [AV.idOf] at hi <;> subst hi <;> exact h
theorem memB_iff (i : Nat) : ∀ (l : List Nat), memB i l = true ↔ i ∈ l
  | [] => by simp [memB]
  | k :: r => by
    rw [memB_cons, List.mem_cons]
    split
    · rename_i h; simp [h]
    · rename_i h; rw [memB_iff i r]; simp [h]

theorem CRel.ren {ι' : Loc} {τ : Nat → Nat} {ks : List Nat} (hτ : ∀ (i : Nat) (p : List Nat), memB i ks = true → ι' ⟨τ i, p⟩ = ι ⟨i, p⟩) {v : Value} {a : AV} (h : CRel w S ι v a) (hi : idsC ks a = true) : CRel w S ι' v (renC τ a) := by
  cases h with
  | rd h =>
    have : renC τ a = a := by cases h <;> rfl
    rw [this]; exact .rd h
  | own id len g cap s h h1 h2 => exact .own (τ id) len g cap s ((hτ id [] hi).trans h) h1 h2
  | own0 id h => exact .own0 (τ id) ((hτ id [] hi).trans h)
  | pt id row off g c s h => exact .pt (τ id) row off g c s ((hτ id [] hi).trans h)
  | sb id row off len g c s o cap h h1 h2 ho => exact .sb (τ id) row off len g c s o cap ((hτ id [] hi).trans h) h1 h2 ho
  | sb0 id row off h => exact .sb0 (τ id) row off ((hτ id [] hi).trans h)
  | mp id g h => exact .mp (τ id) g ((hτ id [] hi).trans h)
  | clo id v h h1 => exact .clo (τ id) v ((hτ id [] hi).trans h) h1
  | junk v h => exact .junk v h
  | rp cs b off h3 vs h4 h6 h7 => exact .rp cs b off h3 vs h4 h6 h7
theorem CRel.noid {ι' : Loc} {v : Value} {a : AV} (hid : a.idOf = none) (h : CRel w S ι v a) : CRel w S ι' v a := by
  cases h with
  | rd h => exact .rd h
  | own => simp [AV.idOf] at hid
  | own0 => simp [AV.idOf] at hid
  | pt => simp [AV.idOf] at hid
  | sb => simp [AV.idOf] at hid
  | sb0 => simp [AV.idOf] at hid
  | mp => simp [AV.idOf] at hid
  | clo => simp [AV.idOf] at hid
  | junk v h => exact .junk v h
  | rp cs b off h3 vs h4 h6 h7 => exact .rp cs b off h3 vs h4 h6 h7
theorem CRel.unren {ι' : Loc} {τ : Nat → Nat} {ks : List Nat} (hτ : ∀ (i : Nat) (p : List Nat), memB i ks = true → ι' ⟨i, p⟩ = ι ⟨τ i, p⟩) {v : Value} {a : AV} (hi : idsC ks a = true) (h : CRel w S ι v (renC τ a)) : CRel w S ι' v a := by
  cases a with
  | own id len =>
    rcases (VRel.one (ARel.cell h)).own_inv with ⟨g, cap, s2, hg, g1, g2, rfl⟩ | ⟨hg, rfl, rfl⟩
    · exact .own id len g cap s2 ((hτ id [] hi).trans hg) g1 g2
    · exact .own0 id ((hτ id [] hi).trans hg)
  | pt id r o =>
    obtain ⟨g, c, s2, hg, rfl⟩ := (VRel.one (ARel.cell h)).pt_inv
    exact .pt id r o g c s2 ((hτ id [] hi).trans hg)
  | sb id r o l =>
    cases h with
    | rd h => cases h
    | sb _ _ _ _ g c s o' cap h h1 h2 ho => exact .sb id r o l g c s o' cap ((hτ id [] hi).trans h) h1 h2 ho
    | sb0 _ _ _ h => exact .sb0 id r o ((hτ id [] hi).trans h)
  | mp id =>
    obtain ⟨g, rfl, hg⟩ := (VRel.one (ARel.cell h)).mp_inv
    exact .mp id g ((hτ id [] hi).trans hg)
  | clo id => exact .clo id v ((hτ id [] hi).trans (VRel.one (ARel.cell h)).clo_inv) h.one
  | _ => exact CRel.noid rfl h

theorem all2_map_r {α β γ : Type} {R : α → γ → Prop} {f : β → γ} : ∀ {l : List α} {m : List β}, All2 R l (m.map f) ↔ All2 (fun a b => R a (f b)) l m
  | [], [] => Iff.rfl
  | _ :: _, _ :: _ => by simp only [List.map_cons, All2]; rw [all2_map_r]
  | [], _ :: _ => Iff.rfl
  | _ :: _, [] => Iff.rfl

theorem ARel.ren {ι' : Loc} {τ : Nat → Nat} {ks : List Nat} (hτ : ∀ (i : Nat) (p : List Nat), memB i ks = true → ι' ⟨τ i, p⟩ = ι ⟨i, p⟩) {v : Value} {a : AV} (h : ARel w S ι v a) (hi : idsA ks a = true) : ARel w S ι' v (renA τ a) := by
  cases h with
  | cell h =>
    cases a with
    | agg cs => exact absurd rfl (h.not_agg.1 _)
    | _ => exact .cell (CRel.ren hτ h hi)
  | agg vs cs h => exact .agg vs _ (all2_map_r.2 (All2.of h.length fun i v c hv hc => CRel.ren hτ (h.at hv hc) (List.all_eq_true.1 hi c (List.mem_of_getElem? hc))))
theorem VRel.ren {ι' : Loc} {τ : Nat → Nat} {ks : List Nat} (hτ : ∀ (i : Nat) (p : List Nat), memB i ks = true → ι' ⟨τ i, p⟩ = ι ⟨i, p⟩) {v : Value} {a : AV} (h : VRel w S ι v a) (hi : idsV ks a = true) : VRel w S ι' v (renV τ a) := by
  cases h with
  | one h =>
    cases a with
    | tup vs => cases h with | cell h => exact absurd rfl (h.not_agg.2 _)
    | _ => exact .one (ARel.ren hτ h hi)
  | tup vs cs h => exact .tup vs _ (all2_map_r.2 (All2.of h.length fun i v c hv hc => ARel.ren hτ (h.at hv hc) (List.all_eq_true.1 hi c (List.mem_of_getElem? hc))))
  | any v => exact .any v
theorem VRel.unren {ι' : Loc} {τ : Nat → Nat} {ks : List Nat} (hτ : ∀ (i : Nat) (p : List Nat), memB i ks = true → ι' ⟨i, p⟩ = ι ⟨τ i, p⟩) {v : Value} {a : AV} (hi : idsV ks a = true) (ht : ∀ vs, a ≠ .tup vs) (h : VRel w S ι v (renV τ a)) : VRel w S ι' v a := by
  cases a with
  | tup vs => exact absurd rfl (ht vs)
  | agg cs =>
    obtain ⟨us, rfl, hr⟩ := h.agg_inv
    exact .one (.agg us cs (All2.of (all2_map_r.1 hr).length fun i v c hv hc => ((all2_map_r.1 hr).at hv hc).unren hτ (List.all_eq_true.1 hi c (List.mem_of_getElem? hc))))
  | junk => exact .any v
  | _ =>
    cases h with
    | one h => cases h with
      | cell h => exact .one (.cell (h.unren hτ hi))
theorem ObjOk.ren {ι' : Loc} {τ : Nat → Nat} {ks : List Nat} (hτ : ∀ (i : Nat) (p : List Nat), memB i ks = true → ι' ⟨τ i, p⟩ = ι ⟨i, p⟩) {i : Nat} {o : AObj} (hk : memB i ks = true) (hi : idsO ks o = true) (h : ObjOk w S ι i o) : ObjOk w S ι' (τ i) (renO τ o) := by
  cases h with
  | box g c s T cs vs h h0 hw hc => exact .box g c s T _ vs ((hτ i [] hk).trans h) h0 hw (all2_map_r.2 (All2.of hc.length fun j v c hv hc' => CRel.ren hτ (hc.at hv hc') (List.all_eq_true.1 hi c (List.mem_of_getElem? hc'))))
  | nil e s h hs => exact .nil e s ((hτ i [] hk).trans h) hs
  | map g clock kk rows es h hw he hb => exact .map g clock kk rows es ((hτ i [] hk).trans h) hw he hb
  | ranged g gm clock kk cur left seen es h h2 hw hm hb hl hc => exact .ranged g gm clock kk cur left seen es ((hτ i [] hk).trans h) ((hτ i [0] hk).trans h2) hw hm hb hl hc
  | clo f fs cs us vs h h1 h2 =>
    have hi : (fs.all (idsC ks) && cs.all (idsC ks)) = true := hi
    simp only [Bool.and_eq_true] at hi
    exact .clo f _ _ us vs ((hτ i [] hk).trans h) (all2_map_r.2 (All2.of h1.length fun j v c hv hc' => CRel.ren hτ (h1.at hv hc') (List.all_eq_true.1 hi.1 c (List.mem_of_getElem? hc')))) (all2_map_r.2 (All2.of h2.length fun j v c hv hc' => CRel.ren hτ (h2.at hv hc') (List.all_eq_true.1 hi.2 c (List.mem_of_getElem? hc'))))
  | list g cap e s rows vs h hs hr hl hm hw hn hc => exact .list g cap e s rows vs ((hτ i [] hk).trans h) hs hr hl hm hw hn hc
  | @nest0 b e s h hs => cases b <;> exact .nest0 e s ((hτ i [] hk).trans h) hs
  | @nest b g cap e s rows vs h hs hr hl hm hw hn hc =>
   cases b with
   | true =>
    exact .nest g cap e s rows vs ((hτ i [] hk).trans h) hs hr hl hm hw hn fun j v c hv ha => (hc j v c hv ha).elim (fun h => by cases h.1) fun hx => .inr (hx.ren (fun p => hτ i p hk) rfl)
   | false =>
    have hi : (rows.all fun r => r.all (idsC ks)) = true := hi
    refine .nest g cap e s _ vs ((hτ i [] hk).trans h) hs (fun r hr' => ?_) (by simpa using hl) hm hw hn fun j v c hv ha => ?_
    · simp only [List.mem_map] at hr'
      obtain ⟨r0, h0, rfl⟩ := hr'
      simpa using hr r0 h0
    · rw [← List.map_flatten, List.getElem?_map, Option.map_eq_some_iff] at ha
      obtain ⟨c0, h0c, rfl⟩ := ha
      rcases hc j v c0 hv h0c with ⟨_, hx⟩ | hx
      · exact .inl ⟨rfl, CRel.ren hτ hx (idsN hi (List.mem_of_getElem? h0c))⟩
      · rw [hx.renC]; exact .inr (hx.ren (fun p => hτ i p hk) rfl)
theorem ObjOk.unren {ι' : Loc} {τ : Nat → Nat} {ks : List Nat} (hτ : ∀ (i : Nat) (p : List Nat), memB i ks = true → ι' ⟨i, p⟩ = ι ⟨τ i, p⟩) {i : Nat} {o : AObj} (hk : memB i ks = true) (hi : idsO ks o = true) (h : ObjOk w S ι (τ i) (renO τ o)) : ObjOk w S ι' i o := by
  cases o with
  | box cs =>
    cases h with
    | box g c s T _ vs h h0 hw hc => exact .box g c s T cs vs ((hτ i [] hk).trans h) h0 hw (All2.of (all2_map_r.1 hc).length fun j v c hv hc' => ((all2_map_r.1 hc).at hv hc').unren hτ (List.all_eq_true.1 hi c (List.mem_of_getElem? hc')))
  | map kk rows =>
    cases h with
    | map g clock kk rows es h hw he hb => exact .map g clock kk rows es ((hτ i [] hk).trans h) hw he hb
  | ranged kk cur left =>
    cases h with
    | ranged g gm clock kk cur left seen es h h2 hw hm hb hl hc => exact .ranged g gm clock kk cur left seen es ((hτ i [] hk).trans h) ((hτ i [0] hk).trans h2) hw hm hb hl hc
  | clo f fs cs =>
    have hi : (fs.all (idsC ks) && cs.all (idsC ks)) = true := hi
    simp only [Bool.and_eq_true] at hi
    cases h with
    | clo f _ _ us vs h h1 h2 =>
      exact .clo f fs cs us vs ((hτ i [] hk).trans h) (All2.of (all2_map_r.1 h1).length fun j v c hv hc' => ((all2_map_r.1 h1).at hv hc').unren hτ (List.all_eq_true.1 hi.1 c (List.mem_of_getElem? hc'))) (All2.of (all2_map_r.1 h2).length fun j v c hv hc' => ((all2_map_r.1 h2).at hv hc').unren hτ (List.all_eq_true.1 hi.2 c (List.mem_of_getElem? hc')))
  | list e s rows =>
    cases h with
    | nil e s h hs => exact .nil e s ((hτ i [] hk).trans h) hs
    | list g cap e s rows vs h hs hr hl hm hw hn hc => exact .list g cap e s rows vs ((hτ i [] hk).trans h) hs hr hl hm hw hn hc
  | @nest b e s rows =>
   cases b with
   | true =>
    have h2 : ObjOk w S ι (τ i) (.nest (c := true) e s rows) := h
    clear h
    cases h2 with
    | nest0 _ _ h hs => exact .nest0 e s ((hτ i [] hk).trans h) hs
    | nest g cap _ _ _ vs h hs hr hl hm hw hn hc =>
      exact .nest g cap e s rows vs ((hτ i [] hk).trans h) hs hr hl hm hw hn fun j v c hv ha => (hc j v c hv ha).elim (fun h => by cases h.1) fun hx => .inr (Tr.ren (i := τ i) (j := i) (fun p => hτ i p hk) hx rfl)
   | false =>
    have hi : (rows.all fun r => r.all (idsC ks)) = true := hi
    generalize hR : renO τ (.nest (c := false) e s rows) = o' at h
    have hR' : o' = .nest (c := false) e s (rows.map fun r => r.map (renC τ)) := hR.symm
    subst hR'
    generalize hq : (rows.map fun r => r.map (renC τ)) = rows' at h
    cases h with
    | nest0 e s h hs =>
      have : rows = [] := List.map_eq_nil_iff.1 hq
      subst this
      exact .nest0 e s ((hτ i [] hk).trans h) hs
    | nest g cap e s rows' vs h hs hr hl hm hw hn hc =>
      subst hq
      refine .nest g cap e s rows vs ((hτ i [] hk).trans h) hs (fun r hr' => ?_) (by simpa using hl) hm hw hn fun j v c hv ha => ?_
      · have := hr (r.map (renC τ)) (List.mem_map.2 ⟨r, hr', rfl⟩)
        simpa using this
      · have h1 := hc j v (renC τ c) hv (by rw [← List.map_flatten, List.getElem?_map, ha]; rfl)
        rcases h1 with ⟨_, hx⟩ | hx
        · exact .inl ⟨rfl, hx.unren hτ (idsN hi (List.mem_of_getElem? ha))⟩
        · have hx2 : Tr w S ι' ⟨i, [j]⟩ v (renC τ c) := Tr.ren (i := τ i) (j := i) (fun p => hτ i p hk) hx rfl
          have : renC τ c = c := by
            cases c <;> first | rfl | (exfalso; cases hx with | rd hx => cases hx)
          rw [this] at hx2
          exact .inr hx2

/-! ### results -/
def resA (tt : Tab) (s : St) : List ResultVar → Option (List AV)
  | [] => some []
  | .tmp t :: r => match opnd s.tm (.tmp t) with
    | some v => match resA tt s r with
      | some vs => some (v :: vs)
      | none => none
    | none => none
  | .cell t ty :: r => match look tt ty with
    | some ti => match opnd s.tm (.tmp t) with
      | some (.pt id row off) => match look s.hp id with
        | some (.box cs) => match loadA ti.kind.isAgg ti.size cs off with
          | some v => match resA tt s r with
            | some vs => some (v :: vs)
            | none => none
          | none => none
        | _ => none
      | _ => none
    | none => none
def oneOf : List AV → AV
  | [v] => v
  | vs => .tup vs
def AV.isTup : AV → Bool
  | .tup _ => true
  | _ => false

def resSem (tmps : Array Value) : ResultVar → Sem Value
  | .tmp t => pure (tmps.getD t undef)
  | .cell a t => do loadVar t (← asAddr (tmps.getD a undef))
theorem resA_ok (hT : TabOk E.P tt) {nt : Nat} (hC : Core E ι S s.hp s.nx w) (hTm : TmOk ι S s.tm nt s.nx w a.tmps) : ∀ (rs : List ResultVar) (vs : List AV), resA tt s rs = some vs → (vs.all (!AV.isTup ·)) = true →
    ∃ us : List Value, (rs.mapM (resSem a.tmps)).run E.P w = .ok us w ∧ All2 (ARel w S ι) us vs
  | [], vs, h, _ => by simp [resA] at h; subst h; exact ⟨[], by simp, trivial⟩
  | .tmp t :: r, vs, h, hnt => by
    simp only [resA] at h
    cases hx : opnd s.tm (.tmp t) with
    | none => simp [hx] at h
    | some v =>
      cases hr : resA tt s r with
      | none => simp [hx, hr] at h
      | some rest =>
        simp [hx, hr] at h
        subst h
        simp only [List.all_cons, Bool.and_eq_true] at hnt
        obtain ⟨us, hrun, hrel⟩ := resA_ok hT hC hTm r rest hr hnt.2
        have hv := (opnd_rel hTm hx).1
        have hj := opnd_junk hx
        refine ⟨a.tmps.getD t undef :: us, ?_, ?_, hrel⟩
        · simp [List.mapM_cons, resSem, hrun]
        · have hv' : VRel w S ι (a.tmps.getD t undef) v := hv
          generalize a.tmps.getD t undef = u0 at hv'
          cases hv' with
          | one h => exact h
          | tup vs cs h => simp [AV.isTup] at hnt
          | any => exact absurd rfl hj
  | .cell t ty :: r, vs, h, hnt => by
    simp only [resA] at h
    cases hti : look tt ty with
    | none => simp [hti] at h
    | some ti =>
      cases hx : opnd s.tm (.tmp t) with
      | none => simp [hti, hx] at h
      | some p =>
        cases p with
        | pt id row off =>
          cases ho : look s.hp id with
          | none => simp [hti, hx, ho] at h
          | some o =>
            cases o with
            | list => simp [hti, hx, ho] at h
            | map => simp [hti, hx, ho] at h
            | ranged => simp [hti, hx, ho] at h
            | clo => simp [hti, hx, ho] at h
            | nest => simp [hti, hx, ho] at h
            | box cs =>
              cases hl : loadA ti.kind.isAgg ti.size cs off with
              | none => simp [hti, hx, ho, hl] at h
              | some v =>
                cases hr : resA tt s r with
                | none => simp [hti, hx, ho, hl, hr] at h
                | some rest =>
                  simp [hti, hx, ho, hl, hr] at h
                  subst h
                  simp only [List.all_cons, Bool.and_eq_true] at hnt
                  obtain ⟨us, hrun, hrel⟩ := resA_ok hT hC hTm r rest hr hnt.2
                  obtain ⟨i, d, hk⟩ := hT ty ti hti
                  have hv := (opnd_rel hTm hx).1
                  obtain ⟨_, _, hob⟩ := hC.obj id _ ho
                  cases hob with
                  | box g c sz T cs us' h h0 hw hc =>
                    subst h0
                    obtain ⟨g', c', s', h', e⟩ := hv.pt_inv
                    rw [h] at h'; simp at h'; obtain ⟨rfl, _, rfl⟩ := h'
                    obtain ⟨u, hru, hrl⟩ := run_loadVar (w := w) (b := g) (o := 0) hk hc (fun j v hj => by rw [Nat.zero_add]; exact cells_of_block hw j v hj) hl
                    have e' : a.tmps.getD t undef = .pointer (some ⟨g, 0 + off, none⟩) := by
                      have : a.eval (.tmp t) = a.tmps.getD t undef := rfl
                      rw [← this, e]; simp
                    refine ⟨u :: us, ?_, ?_, hrel⟩
                    · simp only [List.mapM_cons, resSem, Sem.run_bind, e', asAddr, Sem.run_pure, Result.andThen_ok, hru, hrun]
                    · rcases hrl with ⟨_, h⟩ | ⟨xs, ys, rfl, rfl, h, _⟩
                      · exact .cell h
                      · exact .agg _ _ h
        | _ => simp [hti, hx] at h

end Go.Am
