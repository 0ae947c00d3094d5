/-
  THE READING IS TRUE, operation by operation: build, load, store, numbers, addresses.
-/
import Derived.Test.YtdnanpokaanhdaaDoorAm3
namespace Go.Am
open Go.RowKit
set_option linter.unusedVariables false
set_option linter.unusedSimpArgs false

variable {E : Env} {s : St} {a : Act} {w : World} {ι : Loc} {S : Nat → Prop} {tt : Tab}

/-! ### build -/
theorem fold_set (off : Nat) : ∀ (vs : List Value) (k : Nat) (cells : Array Value), off + k + vs.length ≤ cells.size →
    ((vs.zipIdx k).foldl (fun cs (x : Value × Nat) => cs.setIfInBounds (off + x.2) x.1) cells).toList = cells.toList.take (off + k) ++ vs ++ cells.toList.drop (off + k + vs.length)
  | [], k, cells, _ => by simp
  | v :: vs, k, cells, h => by
    simp only [List.length_cons] at h
    rw [List.zipIdx_cons, List.foldl_cons, fold_set off vs (k + 1) _ (by simp; omega)]
    simp only [Array.toList_setIfInBounds, List.length_cons]
    have e1 : off + (k + 1) = off + k + 1 := by omega
    rw [e1]
    have hlt : off + k < cells.toList.length := by simp; omega
    rw [List.take_succ_eq_append_getElem (by simpa using hlt), List.take_set_of_le (by omega), List.drop_set_of_lt (by omega)]
    simp [List.append_assoc, Nat.add_assoc, Nat.add_comm 1]

theorem fill_rel {R : Value → AV → Prop} {place placeA : Nat → Option (Nat × Nat)} (hp : ∀ i p, placeA i = some p → place i = some p) :
    ∀ (ps : List (Nat × Value)) (qs : List (Nat × AV)), All2 (fun (p : Nat × Value) (q : Nat × AV) => p.1 = q.1 ∧ All2 R p.2.cells.toList q.2.cells) ps qs →
    ∀ (cells : Array Value) (cs res : List AV), All2 R cells.toList cs → fillA placeA cs qs = some res →
    ∃ cells', Instr.fill place cells ps = some cells' ∧ All2 R cells'.toList res
  | [], [], _, cells, cs, res, hc, hf => by simp [fillA] at hf; subst hf; exact ⟨cells, rfl, hc⟩
  | [], _ :: _, h, _, _, _, _, _ => h.elim
  | _ :: _, [], h, _, _, _, _, _ => h.elim
  | (i, v) :: ps, (j, q) :: qs, h, cells, cs, res, hc, hf => by
    obtain ⟨⟨h1, h2⟩, h3⟩ := h
    simp only at h1; subst h1
    simp only [fillA] at hf
    cases hpl : placeA i with
    | none => simp [hpl] at hf
    | some p =>
      obtain ⟨off, size⟩ := p
      simp only [hpl] at hf
      cases hb : (Nat.beq q.cells.length size && Nat.ble (off + size) cs.length) with
      | false => simp [hb] at hf
      | true =>
        rw [hb] at hf
        simp only [cond_true] at hf
        simp only [Bool.and_eq_true] at hb
        have hs : q.cells.length = size := Nat.eq_of_beq_eq_true hb.1
        have ho : off + size ≤ cs.length := Nat.le_of_ble_eq_true hb.2
        have hv : v.cells.size = size := by have := h2.length; simp at this; omega
        have hl : cells.size = cs.length := by have := hc.length; simpa using this
        have hfs := fold_set off v.cells.toList 0 cells (by simp; omega)
        simp only [Nat.add_zero] at hfs
        have hrel : All2 R ((v.cells.toList.zipIdx 0).foldl (fun cs (x : Value × Nat) => cs.setIfInBounds (off + x.2) x.1) cells).toList (cs.take off ++ q.cells ++ cs.drop (off + size)) := by
          rw [hfs]
          have : v.cells.toList.length = size := by simpa using hv
          rw [this]
          exact ((hc.take off).append h2).append (hc.drop _)
        obtain ⟨c', hc', hr'⟩ := fill_rel hp ps qs h3 _ _ res hrel hf
        refine ⟨c', ?_, hr'⟩
        simp only [Instr.fill, hp i _ hpl]
        rw [if_neg (by simp [hv]; omega)]
        rw [← hc']
        congr 1
        rw [← Array.foldl_toList]
        simp [Array.toList_zipIdx]

theorem fields_places {P : Program} : ∀ (fields : List Field) (fs : List (Nat × Nat × Bool)), fieldsChk P fields fs = true →
    fields.mapM (fun f => (P.info? f.type).map fun i => (f.offset, i.size)) = some (fs.map fun x => (x.1, x.2.1))
  | [], [], _ => rfl
  | f :: fields, x :: fs, h => by
    simp only [fieldsChk, fieldChk, Bool.and_eq_true] at h
    obtain ⟨⟨⟨h1, h2⟩, h3⟩, h4⟩ := h
    have ih := fields_places fields fs h4
    cases hi : P.info? f.type with
    | none => simp [hi] at h2
    | some i =>
      simp only [hi] at h2
      simp only [List.mapM_cons, hi, ih, Option.map_some, Option.bind_eq_bind, Option.bind_some, Option.pure_def, List.map_cons]
      rw [Nat.eq_of_beq_eq_true h1, Nat.eq_of_beq_eq_true h2]
  | [], _ :: _, h => by simp [fieldsChk] at h
  | _ :: _, [], h => by simp [fieldsChk] at h

theorem partsA_rel {nx nt : Nat} (hTm : TmOk ι S s.tm nt nx w a.tmps) : ∀ (ps : List (Nat × Operand)) (as : List (Nat × AV)), partsA s.tm ps = some as →
    All2 (fun (p : Nat × Value) (q : Nat × AV) => p.1 = q.1 ∧ All2 (CRel w S ι) p.2.cells.toList q.2.cells) (ps.map fun x => (x.1, a.eval x.2)) as ∧ ∀ x ∈ as, ∀ c ∈ x.2.cells, ∀ id, c.idOf = some id → id < nx
  | [], as, h => by simp [partsA] at h; subst h; exact ⟨trivial, fun x hx => by cases hx⟩
  | (i, x) :: ps, as, h => by
    simp only [partsA] at h
    cases hx : opnd s.tm x with
    | none => simp [hx] at h
    | some v =>
      by_cases ht : ∃ vs, v = .tup vs
      · obtain ⟨vs, rfl⟩ := ht; simp [hx] at h
      · have ht' : ∀ vs, v ≠ .tup vs := fun vs e => ht ⟨vs, e⟩
        cases hr : partsA s.tm ps with
        | none => cases v <;> simp [hx, hr] at h
        | some rest =>
          have h' : (i, v) :: rest = as := by cases v <;> first | exact absurd rfl (ht' _) | (simpa [hx, hr] using h)
          subst h'
          have h1 := opnd_rel hTm hx
          have ih := partsA_rel hTm ps rest hr
          refine ⟨⟨⟨rfl, h1.1.cells_rel (opnd_junk hx) ht'⟩, ih.1⟩, fun y hy => ?_⟩
          rcases List.mem_cons.1 hy with rfl | hy
          · exact uses_cells h1.2 ht'
          · exact ih.2 y hy

theorem fillA_notup {place : Nat → Option (Nat × Nat)} : ∀ (qs : List (Nat × AV)) (cs res : List AV), fillA place cs qs = some res → ∀ (P : AV → Prop), (∀ c ∈ cs, P c) → (∀ q ∈ qs, ∀ c ∈ q.2.cells, P c) → ∀ c ∈ res, P c
  | [], cs, res, h, P, h1, _ => by simp [fillA] at h; subst h; exact h1
  | (i, q) :: qs, cs, res, h, P, h1, h2 => by
    simp only [fillA] at h
    cases hpl : place i with
    | none => simp [hpl] at h
    | some p =>
      obtain ⟨off, size⟩ := p
      simp only [hpl] at h
      cases hb : (Nat.beq q.cells.length size && Nat.ble (off + size) cs.length) with
      | false => simp [hb] at h
      | true =>
        rw [hb] at h
        simp only [cond_true] at h
        refine fillA_notup qs _ res h P (fun c hc => ?_) (fun x hx => h2 x (List.mem_cons_of_mem _ hx))
        simp only [List.mem_append] at hc
        rcases hc with (hc | hc) | hc
        · exact h1 c (List.mem_of_mem_take hc)
        · exact h2 (i, q) (List.mem_cons_self ..) c hc
        · exact h1 c (List.mem_of_mem_drop hc)

theorem mapM_get {fs : List (Nat × Nat × Bool)} {i : Nat} {p : Nat × Nat} (h : (match fs[i]? with | some (o, s, _) => some (o, s) | none => none) = some p) :
    ((fs.map fun x => (x.1, x.2.1)).toArray)[i]? = some p := by
  cases hf : fs[i]? with
  | none => simp [hf] at h
  | some x => simp [hf] at h; simp [hf, h]

theorem buildA_sound (hT : TabOk E.P tt) (t : TypeId) (ps : Array (Nat × Operand)) : (buildA tt s t ps.toList).Sound E s (fun ρ => do pure (.value (← Instr.build t (ps.map fun (i, x) => (i, ρ x))))) := by
  unfold buildA
  cases h : look tt t with
  | none => trivial
  | some ti =>
    cases hps : partsA s.tm ps.toList with
    | none => trivial
    | some as =>
      simp only
      cases hf : fillA (placeOf tt ti.kind) (zeroA ti) as with
      | none => trivial
      | some cs =>
        simp only
        cases hag : ti.kind.isAgg with
        | false => trivial
        | true =>
          simp only [cond_true, forceL_eq]
          intro a w ι S hC hTm
          obtain ⟨i, d, hk⟩ := hT t ti h
          obtain ⟨z, hz, hzc⟩ := hk.zero
          have hpr := partsA_rel hTm ps.toList as hps
          have hz2 : All2 (CRel w S ι) z.cells.toList (zeroA ti) := by rw [hzc]; exact zeros_rel hk
          have hbuilt : ∃ cells, E.P.built t (ps.map fun (x : Nat × Operand) => (x.1, a.eval x.2)).toList = some cells ∧ All2 (CRel w S ι) cells.toList cs := by
            have e : (ps.map fun (x : Nat × Operand) => (x.1, a.eval x.2)).toList = ps.toList.map fun x => (x.1, a.eval x.2) := by simp
            rw [e]
            unfold Program.built
            simp only [hk.info, hk.under]
            have hkd := hk.kind
            cases hkk : ti.kind with
            | word => simp [hkk, TK.isAgg] at hag
            | slice e' => simp [hkk, TK.isAgg] at hag
            | str => simp [hkk, TK.isAgg] at hag
            | bool => simp [hkk, TK.isAgg] at hag
            | map k' e' => simp [hkk, TK.isAgg] at hag
            | iface => simp [hkk, TK.isAgg] at hag
            | struct fs =>
              rw [hkk] at hkd hf
              cases d <;> simp [kindChk] at hkd
              rename_i fields
              simp only [hz, fields_places fields.toList fs hkd]
              exact fill_rel (fun i p hp => mapM_get hp) _ as hpr.1 z.cells (zeroA ti) cs hz2 hf
            | array n e' =>
              rw [hkk] at hkd hf
              cases d <;> simp [kindChk] at hkd
              rename_i m e2
              obtain ⟨⟨rfl, rfl⟩, hsome⟩ := hkd
              cases hle : look tt e' with
              | none =>
                cases as with
                | nil =>
                  obtain ⟨ie, hie⟩ := Option.isSome_iff_exists.1 hsome
                  simp [fillA] at hf
                  subst hf
                  simp only [hz, hie]
                  have : ps.toList = [] := by
                    cases hpl : ps.toList with
                    | nil => rfl
                    | cons x r => rw [hpl] at hpr; exact hpr.1.elim
                  rw [this]
                  exact ⟨_, rfl, hz2⟩
                | cons q qs => obtain ⟨j, q⟩ := q; simp [fillA, placeOf, hle] at hf
              | some te =>
                obtain ⟨ie, de, hke⟩ := hT e' te hle
                simp only [hz, hke.info]
                refine fill_rel (fun i p hp => ?_) _ as hpr.1 z.cells (zeroA ti) cs hz2 hf
                simp only [placeOf, hle] at hp
                cases hb : Nat.blt i n with
                | false => simp [hb] at hp
                | true => simp [hb] at hp; rw [hke.size]; simp [hp]
          obtain ⟨cells, hb, hrel⟩ := hbuilt
          have hrun := run_build (P := E.P) w t (ps.map fun (x : Nat × Operand) => (x.1, a.eval x.2)) cells hb
          refine Good.same hC (v := .agg cells) (exec_value hrun) ?_ ?_
          · have : (Value.agg cells) = .agg cells.toList.toArray := by simp
            rw [this]
            exact .one (.agg _ _ hrel)
          · exact fillA_notup as _ cs hf (fun c => ∀ id, c.idOf = some id → id < s.nx) zeros_uses hpr.2

/-! ### load, store -/
theorem run_load_cell {P : Program} {ad : Addr} {v : Value} (h : w.cell? ad = some v) : (load ad).run P w = .ok v w := by
  simp [load, Sem.run, h]
theorem Addr.add_none (b o j : Nat) : (⟨b, o, none⟩ : Addr).add j = ⟨b, o + j, none⟩ := by
  unfold Addr.add; split <;> simp_all

/-- A variable of cells that are known. -/
theorem run_loadVar {P : Program} {t : TypeId} {ti : TI} {i : TypeInfo} {d : TypeDesc} (hk : TyOk P t ti i d) {b o : Nat} {vs : List Value} {cs : List AV} {R : Value → AV → Prop} (hR : All2 R vs cs)
    (hc : ∀ (j : Nat) (v : Value), vs[j]? = some v → w.cell? ⟨b, o + j, none⟩ = some v) {off : Nat} {x : AV} (hl : loadA ti.kind.isAgg ti.size cs off = some x) :
    ∃ v, (loadVar t ⟨b, o + off, none⟩).run P w = .ok v w ∧ ((ti.kind.isAgg = false ∧ R v x) ∨ ∃ us ys, v = .agg us.toArray ∧ x = .agg ys ∧ All2 R us ys ∧ (∀ y ∈ ys, y ∈ cs)) := by
  cases hag : ti.kind.isAgg with
  | false =>
    simp only [hag, loadA] at hl
    have hlt : off < vs.length := by
      rw [hR.length]
      exact (List.getElem?_eq_some_iff.1 hl).1
    have hv := List.getElem?_eq_getElem hlt
    refine ⟨vs[off], ?_, .inl ⟨rfl, hR.at hv hl⟩⟩
    have hl' := run_load_cell (P := P) (hc off _ hv)
    unfold loadVar
    simp only [Sem.run_bind, hk.isAgg, hag, Result.andThen_ok, Bool.false_eq_true, if_false]
    exact hl'
  | true =>
    simp only [hag, loadA, forceL_eq] at hl
    cases hb : Nat.ble (off + ti.size) cs.length with
    | false => simp [hb] at hl
    | true =>
      simp [hb] at hl
      have hle := Nat.le_of_ble_eq_true hb
      have hlen := hR.length
      have hd := (hR.drop off).take ti.size
      have hn : ((vs.drop off).take ti.size).length = ti.size := by simp; omega
      have hload := run_loadCells_list (P := P) w ⟨b, o + off, none⟩ ((vs.drop off).take ti.size) (fun j v hj => by
        rw [Addr.add_none]
        rw [List.getElem?_take] at hj
        split at hj
        · rw [List.getElem?_drop] at hj
          have := hc (off + j) v hj
          rwa [← Nat.add_assoc] at this
        · cases hj)
      rw [hn] at hload
      refine ⟨.agg ((vs.drop off).take ti.size).toArray, ?_, .inr ⟨_, _, rfl, hl.symm, hd, fun y hy => List.mem_of_mem_drop (List.mem_of_mem_take hy)⟩⟩
      simp [loadVar, hk.isAgg, hag, hk.sizeOf, hload]

theorem loadVar_V {x : AV} {v : Value} {R : Value → AV → Prop} (hR : ∀ v a, R v a → CRel w S ι v a) {cs : List AV} {q : Bool}
    (h : (q = false ∧ R v x) ∨ ∃ us ys, v = .agg us.toArray ∧ x = .agg ys ∧ All2 R us ys ∧ (∀ y ∈ ys, y ∈ cs)) : VRel w S ι v x := by
  rcases h with ⟨_, h⟩ | ⟨us, ys, rfl, rfl, h, _⟩
  · exact .one (.cell (hR _ _ h))
  · exact .one (.agg _ _ (h.mono hR))

theorem exec_load {P : Program} {t : TypeId} {ad : Addr} {v : Value} (h : (loadVar t ad).run P w = .ok v w) : (do pure (Next.value (← Instr.loadAt t (.pointer (some ad)))) : Sem Next).run P w = .ok (.value v) w := by
  simp [Instr.loadAt, Instr.sureAddr, h]

theorem cells_of_block {g : Nat} {vs : List Value} {T : Nat} {fr : Nat × Nat} (h : w.heap[g]? = some (.cells vs.toArray T fr)) (j : Nat) (v : Value) (hj : vs[j]? = some v) : w.cell? ⟨g, j, none⟩ = some v := by
  simp [World.cell?, h, hj]

theorem loadA_mem {ag : Bool} {n off : Nat} {cs : List AV} {x : AV} (h : loadA ag n cs off = some x) : x ∈ cs ∨ ∃ ys, x = .agg ys ∧ ∀ y ∈ ys, y ∈ cs := by
  cases ag with
  | false => exact .inl (List.mem_of_getElem? h)
  | true =>
    simp only [loadA, forceL_eq] at h
    cases hb : Nat.ble (off + n) cs.length with
    | false => simp [hb] at h
    | true => simp [hb] at h; exact .inr ⟨_, h.symm, fun y hy => List.mem_of_mem_drop (List.mem_of_mem_take hy)⟩
theorem cell_uses {K : Nat → Prop} {x : AV} (hx : ∀ cs, x ≠ .agg cs) (ht : ∀ cs, x ≠ .tup cs) (h : ∀ id, x.idOf = some id → K id) : x.uses K := by
  cases x with
  | agg cs => exact absurd rfl (hx cs)
  | tup cs => exact absurd rfl (ht cs)
  | own id len => exact h id rfl
  | pt id r o => exact h id rfl
  | sb id r o l => exact h id rfl
  | mp id => exact h id rfl
  | clo id => exact h id rfl
  | _ => trivial
theorem CRel.not_agg {v : Value} {x : AV} (h : CRel w S ι v x) : (∀ cs, x ≠ .agg cs) ∧ ∀ cs, x ≠ .tup cs := by
  cases h with
  | rd h => cases h <;> exact ⟨fun _ e => (by cases e), fun _ e => (by cases e)⟩
  | _ => exact ⟨fun _ e => (by cases e), fun _ e => (by cases e)⟩
theorem Rd.noid {v : Value} {x : AV} (h : Rd w S v x) : x.idOf = none := by cases h <;> rfl

theorem flatten_drop {α : Type} {s : Nat} : ∀ (rows : List (List α)) (k : Nat), (∀ r ∈ rows, r.length = s) → rows.flatten.drop (k * s) = (rows.drop k).flatten
  | [], k, _ => by simp
  | r :: rows, 0, _ => by simp
  | r :: rows, k + 1, h => by
    have hr := h r (List.mem_cons_self ..)
    rw [List.flatten_cons, Nat.add_mul, Nat.one_mul, Nat.add_comm, ← List.drop_drop, List.drop_left' hr, List.drop_succ_cons]
    exact flatten_drop rows k fun r' hr' => h r' (List.mem_cons_of_mem _ hr')
theorem flatten_row {α : Type} {s : Nat} (rows : List (List α)) (k : Nat) (h : ∀ r ∈ rows, r.length = s) (hk : k < rows.length) : (rows.flatten.drop (k * s)).take s = rows.getD k [] := by
  rw [flatten_drop rows k h, List.drop_eq_getElem_cons hk, List.flatten_cons]
  have := h rows[k] (List.getElem_mem hk)
  rw [List.take_left' this]
  simp [List.getD_eq_getElem?_getD, hk]
theorem flatten_length {α : Type} {s : Nat} : ∀ (rows : List (List α)), (∀ r ∈ rows, r.length = s) → rows.flatten.length = rows.length * s
  | [], _ => by simp
  | r :: rows, h => by
    rw [List.flatten_cons, List.length_append, h r (List.mem_cons_self ..), flatten_length rows fun r' hr' => h r' (List.mem_cons_of_mem _ hr'), List.length_cons, Nat.add_mul, Nat.one_mul, Nat.add_comm]
/-- A row of a list of cells. -/
theorem rows_at {R : Value → AV → Prop} {rows : List (List AV)} {vs : List Value} {s row : Nat} (hu : ∀ r ∈ rows, r.length = s) (hl : rows.length * s ≤ vs.length) (hr : row < rows.length)
    (hc : ∀ (i : Nat) (v : Value) (a : AV), vs[i]? = some v → rows.flatten[i]? = some a → R v a) : All2 R ((vs.drop (row * s)).take s) (rows.getD row []) := by
  rw [← flatten_row rows row hu hr]
  have h1 : row * s + s ≤ rows.length * s := by
    have := Nat.mul_le_mul_right s (Nat.succ_le_of_lt hr)
    rwa [Nat.succ_mul] at this
  refine All2.of ?_ fun i v a hv ha => ?_
  · simp only [List.length_take, List.length_drop, flatten_length rows hu]; omega
  · rw [List.getElem?_take] at hv ha
    split at hv
    · rename_i hi
      rw [if_pos hi] at ha
      rw [List.getElem?_drop] at hv ha
      exact hc _ v a hv ha
    · cases hv

theorem loadPA_sound (hT : TabOk E.P tt) (t : TypeId) (ti : TI) (hti : look tt t = some ti) (p : AV) (x : Operand) (hx : opnd s.tm x = some p) :
    (loadPA s ti.kind.isAgg ti.size p).Sound E s (fun ρ => do pure (.value (← Instr.loadAt t (ρ x)))) := by
  obtain ⟨i, d, hk⟩ := hT t ti hti
  cases p with
  | pt id row off =>
    simp only [loadPA]
    cases ho : look s.hp id with
    | none => trivial
    | some o =>
      cases o with
      | map _ _ => trivial
      | ranged _ _ _ => trivial
      | clo _ _ _ => trivial
      | box cs =>
        have mainB : ∀ (av : AV) (hl : loadA ti.kind.isAgg ti.size cs off = some av) (a : Act) (w : World) (ι : Loc) (S : Nat → Prop), Core E ι S s.hp s.nx w → TmOk ι S s.tm E.nt s.nx w a.tmps →
            Good E s ((do pure (.value (← Instr.loadAt t (a.eval x))) : Sem Next).run E.P w) w ι S av s.hp s.nx := by
          intro av hl a w ι S hC hTm
          obtain ⟨hid, huo, hob⟩ := hC.obj id _ ho
          have hv := (opnd_rel hTm hx).1
          cases hob with
          | box g c sz T cs vs h h0 hw hc =>
            subst h0
            have hav : a.eval x = .pointer (some ⟨g, 0 + off, none⟩) := by
              obtain ⟨g', c', s', h', e⟩ := hv.pt_inv
              rw [h] at h'; simp at h'; obtain ⟨rfl, _, rfl⟩ := h'; simpa using e
            obtain ⟨v, hr, hrel⟩ := run_loadVar (b := g) (o := 0) hk hc (fun j v hj => by rw [Nat.zero_add]; exact cells_of_block hw j v hj) hl
            refine Good.same hC (by rw [hav]; exact exec_load hr) (loadVar_V (fun _ _ h => h) hrel) ?_
            rcases hrel with ⟨_, hrel⟩ | ⟨us, ys, rfl, rfl, hrel, hys⟩
            · rcases loadA_mem hl with hm | ⟨ys, rfl, _⟩
              · exact cell_uses hrel.not_agg.1 hrel.not_agg.2 (huo _ hm)
              · exact absurd rfl (hrel.not_agg.1 _)
            · exact fun y hy id hi => huo y (hys y hy) id hi
        cases row with
        | zero =>
          simp only
          cases hl : loadA ti.kind.isAgg ti.size cs off with
          | none => trivial
          | some av => exact mainB av hl
        | succ row =>
          simp only
          cases hag : ti.kind.isAgg with
          | true => trivial
          | false =>
            intro hlt
            rw [hag] at mainB
            exact mainB _ (by simp [loadA, List.getD_eq_getElem?_getD, List.getElem?_eq_getElem hlt])
      | @nest b0 e sz rows =>
        simp only
        cases hag : ti.kind.isAgg with
        | true =>
          simp only
          cases hb : Nat.ble (off + ti.size) sz with
          | false => trivial
          | true =>
            simp only [cond_true]
            rintro ⟨hlt, hnt⟩ a w ι S hC hTm
            obtain ⟨hid, huo, hob⟩ := hC.obj id _ ho
            have hv := (opnd_rel hTm hx).1
            cases hob with
            | nest0 => simp at hlt
            | nest g cap _ _ _ vs h hs hr hle hm hw hn hc =>
              obtain ⟨g', c', s2, h', hav⟩ := hv.pt_inv
              rw [h] at h'; simp at h'; obtain ⟨rfl, rfl, rfl⟩ := h'
              have hmul : rows.length * sz ≤ vs.length := by rw [hn]; exact Nat.mul_le_mul_right _ hle
              have hR := rows_at (R := fun v a => ((b0 = false ∧ CRel w S ι v a) ∧ a ∈ rows.flatten) ∨ ∃ k, Tr w S ι k v a) hr hmul hlt (fun i v a hv ha => (hc i v a hv ha).imp (fun h => ⟨h, List.mem_of_getElem? ha⟩) (fun h => ⟨_, h⟩))
              have h1 : (rows.getD row []).length = sz := by
                have : rows.getD row [] = rows[row] := by simp [List.getD_eq_getElem?_getD, hlt]
                rw [this]; exact hr _ (List.getElem_mem hlt)
              have hR2 : All2 (fun v y => CRel w S ι v y ∧ ∀ id, y.idOf = some id → id < s.nx) ((vs.drop (row * sz)).take sz) (rows.getD row []) := All2.of hR.length fun i v y hv hy => by
                have hny := List.all_eq_true.1 hnt y (List.mem_of_getElem? hy)
                rcases hR.at hv hy with ⟨⟨hb0, h⟩, hm'⟩ | ⟨k, h⟩
                · exact ⟨h, fun id e => huo hb0 y hm' id e⟩
                · cases h with
                  | rd h => exact ⟨.rd h, fun id e => by rw [h.noid] at e; cases e⟩
                  | _ => simp [noTree] at hny
              obtain ⟨v, hrun, hrel⟩ := run_loadVar (w := w) (b := g) (o := row * sz) (off := off) (x := .agg (((rows.getD row []).drop off).take ti.size)) hk hR2 (fun j v hj => by
                rw [List.getElem?_take] at hj
                split at hj
                · rw [List.getElem?_drop] at hj; exact cells_of_block hw _ v hj
                · cases hj) (by simp only [hag, loadA, forceL_eq]; rw [h1, hb]; rfl)
              refine Good.same hC (by show (do pure (Next.value (← Instr.loadAt t (a.eval x))) : Sem Next).run E.P w = _; rw [hav]; exact exec_load hrun) (loadVar_V (R := fun v y => CRel w S ι v y ∧ ∀ id, y.idOf = some id → id < s.nx) (fun _ _ h => h.1) hrel) ?_
              rcases hrel with ⟨_, hrel⟩ | ⟨us, ys, rfl, e2, hrel, hys⟩
              · exact absurd rfl (hrel.1.not_agg.1 _)
              · rw [e2]
                intro y hy id hi
                obtain ⟨i, hi2⟩ := List.getElem?_of_mem hy
                have hil := (List.getElem?_eq_some_iff.1 hi2).1
                exact (hrel.at (List.getElem?_eq_getElem (by rw [hrel.length]; exact hil)) hi2).2 id hi
        | false =>
          simp only
          cases hb : Nat.blt off sz with
          | false => trivial
          | true =>
            simp only [cond_true]
            rintro ⟨hlt, hnt⟩ a w ι S hC hTm
            obtain ⟨hid, huo, hob⟩ := hC.obj id _ ho
            have hv := (opnd_rel hTm hx).1
            cases hob with
            | nest0 => simp at hlt
            | nest g cap _ _ _ vs h hs hr hle hm hw hn hc =>
              obtain ⟨g', c', s2, h', hav⟩ := hv.pt_inv
              rw [h] at h'; simp at h'; obtain ⟨rfl, rfl, rfl⟩ := h'
              have hmul : rows.length * sz ≤ vs.length := by rw [hn]; exact Nat.mul_le_mul_right _ hle
              have hR := rows_at (R := fun v a => ((b0 = false ∧ CRel w S ι v a) ∧ a ∈ rows.flatten) ∨ ∃ k, Tr w S ι k v a) hr hmul hlt (fun i v a hv ha => (hc i v a hv ha).imp (fun h => ⟨h, List.mem_of_getElem? ha⟩) (fun h => ⟨_, h⟩))
              have h1 : (rows.getD row []).length = sz := by
                have : rows.getD row [] = rows[row] := by simp [List.getD_eq_getElem?_getD, hlt]
                rw [this]; exact hr _ (List.getElem_mem hlt)
              have h2 : off < sz := Nat.le_of_ble_eq_true hb
              have hl : (rows.getD row [])[off]? = some ((rows.getD row []).getD off .junk) := by
                generalize rows.getD row [] = l at h1 ⊢
                simp [List.getD_eq_getElem?_getD, List.getElem?_eq_getElem (show off < l.length by omega)]
              generalize (rows.getD row []).getD off .junk = y at *
              have good : ∀ v, (((b0 = false ∧ CRel w S ι v y) ∧ y ∈ rows.flatten) ∨ ∃ k, Tr w S ι k v y) → CRel w S ι v y ∧ ∀ id, y.idOf = some id → id < s.nx := by
                rintro v (⟨⟨hb0, h⟩, hm'⟩ | ⟨k, h⟩)
                · exact ⟨h, fun id e => huo hb0 y hm' id e⟩
                · cases h with
                  | rd h => exact ⟨.rd h, fun id e => by rw [h.noid] at e; cases e⟩
                  | _ => simp [noTree] at hnt
              obtain ⟨v, hrun, hrel⟩ := run_loadVar (w := w) (b := g) (o := row * sz) (off := off) (x := y) hk hR (fun j v hj => by
                rw [List.getElem?_take] at hj
                split at hj
                · rw [List.getElem?_drop] at hj; exact cells_of_block hw _ v hj
                · cases hj) (by simp only [hag, loadA]; exact hl)
              rcases hrel with ⟨_, hrel⟩ | ⟨us, ys, rfl, rfl, hrel, hys⟩
              · obtain ⟨k1, k2⟩ := good v hrel
                exact Good.same hC (by show (do pure (Next.value (← Instr.loadAt t (a.eval x))) : Sem Next).run E.P w = _; rw [hav]; exact exec_load hrun) (.one (.cell k1)) (cell_uses k1.not_agg.1 k1.not_agg.2 k2)
              · exfalso
                obtain ⟨v', hv'⟩ : ∃ v', ((vs.drop (row * sz)).take sz)[off]? = some v' := ⟨_, List.getElem?_eq_getElem (by rw [hR.length, h1]; exact h2)⟩
                exact (good v' (hR.at hv' hl)).1.not_agg.1 _ rfl
      | list e sz rows =>
        have main : ∀ (hlt : row < rows.length) (av : AV) (hl : loadA ti.kind.isAgg ti.size (rows.getD row []) off = some av) (a : Act) (w : World) (ι : Loc) (S : Nat → Prop), Core E ι S s.hp s.nx w → TmOk ι S s.tm E.nt s.nx w a.tmps →
            Good E s ((do pure (.value (← Instr.loadAt t (a.eval x))) : Sem Next).run E.P w) w ι S av s.hp s.nx := by
          intro hlt av hl a w ι S hC hTm
          obtain ⟨hid, huo, hob⟩ := hC.obj id _ ho
          have hv := (opnd_rel hTm hx).1
          cases hob with
          | nil e s' h hs => simp at hlt
          | list g cap e s' rows vs h hs hr hle hm hw hn hc =>
            obtain ⟨g', c', s2, h', hav⟩ := hv.pt_inv
            rw [h] at h'; simp at h'; obtain ⟨rfl, rfl, rfl⟩ := h'
            have hmul : rows.length * sz ≤ vs.length := by rw [hn]; exact Nat.mul_le_mul_right _ hle
            have hR := rows_at hr hmul hlt hc
            obtain ⟨v, hrun, hrel⟩ := run_loadVar (w := w) (b := g) (o := row * sz) hk hR (fun j v hj => by
              rw [List.getElem?_take] at hj
              split at hj
              · rw [List.getElem?_drop] at hj; exact cells_of_block hw _ v hj
              · cases hj) hl
            refine Good.same hC (by rw [hav]; exact exec_load hrun) (loadVar_V (fun _ _ h => .rd h) hrel) ?_
            rcases hrel with ⟨_, hrel⟩ | ⟨us, ys, rfl, rfl, hrel, hys⟩
            · exact cell_uses (CRel.not_agg (ι := ι) (.rd hrel)).1 (CRel.not_agg (ι := ι) (.rd hrel)).2 (fun id hi => by rw [hrel.noid] at hi; cases hi)
            · exact fun y hy id hi => by rw [hrel.notid y hy] at hi; cases hi
        have hlen : ∀ (a : Act) (w : World) (ι : Loc) (S : Nat → Prop), Core E ι S s.hp s.nx w → row < rows.length → (rows.getD row []).length = sz := by
          intro a w ι S hC hlt
          obtain ⟨_, _, hob⟩ := hC.obj id _ ho
          cases hob with
          | nil e s' h hs => simp at hlt
          | list g cap e s' rows vs h hs hr hle hm hw hn hc =>
            have : rows.getD row [] = rows[row] := by simp [List.getD_eq_getElem?_getD, hlt]
            rw [this]; exact hr _ (List.getElem_mem hlt)
        cases hag : ti.kind.isAgg with
        | true =>
          simp only
          cases hb : Nat.ble (off + ti.size) sz with
          | false => trivial
          | true =>
            simp only [cond_true]
            intro hlt a w ι S hC hTm
            refine main hlt _ ?_ a w ι S hC hTm
            simp only [hag, loadA, forceL_eq]
            rw [hlen a w ι S hC hlt, hb]; rfl
        | false =>
          simp only
          cases hb : Nat.blt off sz with
          | false => trivial
          | true =>
            simp only [cond_true]
            intro hlt a w ι S hC hTm
            refine main hlt _ ?_ a w ι S hC hTm
            simp only [hag, loadA]
            have h1 := hlen a w ι S hC hlt
            have h2 : off < sz := Nat.le_of_ble_eq_true hb
            generalize rows.getD row [] = l at h1 ⊢
            simp [List.getD_eq_getElem?_getD, List.getElem?_eq_getElem (show off < l.length by omega)]
  | rp cs =>
    simp only [loadPA]
    cases hl : loadA ti.kind.isAgg ti.size cs 0 with
    | none => trivial
    | some av =>
      intro a w ι S hC hTm
      have hv := (opnd_rel hTm hx).1
      obtain ⟨b, off, vs, hav, _, hR, hcell⟩ := hv.rp_inv
      obtain ⟨v, hr, hrel⟩ := run_loadVar (off := 0) hk hR hcell hl
      refine Good.same hC (by dsimp only; rw [hav]; exact exec_load hr) (loadVar_V (fun _ _ h => .rd h) hrel) ?_
      rcases hrel with ⟨_, hrel⟩ | ⟨us, ys, rfl, rfl, hrel, hys⟩
      · exact cell_uses (CRel.not_agg (ι := ι) (.rd hrel)).1 (CRel.not_agg (ι := ι) (.rd hrel)).2 (fun id hi => by rw [hrel.noid] at hi; cases hi)
      · exact fun y hy id hi => by rw [hrel.notid y hy] at hi; cases hi
  | _ => trivial

theorem loadOA_sound (hT : TabOk E.P tt) (t : TypeId) (x : Operand) : (loadOA tt s t x).Sound E s (fun ρ => do pure (.value (← Instr.loadAt t (ρ x)))) := by
  unfold loadOA
  cases hti : look tt t with
  | none => trivial
  | some ti =>
    cases hx : opnd s.tm x with
    | none => trivial
    | some p => exact loadPA_sound hT t ti hti p x hx

/-- A write into an object's own block. -/
theorem Core.set (hC : Core E ι S s.hp s.nx w) {id g c sz : Nat} {o o' : AObj} {T : Nat} {old new : List Value} (ho : look s.hp id = some o) (hg : ι id = some (.blk g c sz)) (hw : w.heap[g]? = some (.cells old.toArray T (0, 0)))
    (ho' : ObjOk (w.setRow g new.toArray) S ι id o') (hu : o'.uses (· < s.nx)) :
    Core E ι S ((id, o') :: s.hp) s.nx (w.setRow g new.toArray) ∧ Later w (w.setRow g new.toArray) S S ι ι (· < s.nx) := by
  have hS : ∀ b, S b → b ≠ g := fun b hb e => hC.dis b hb ⟨id, c, sz, e ▸ hg⟩
  have hL : ∀ K, Later w (w.setRow g new.toArray) S S ι ι K := fun K => ⟨fun b hb => ⟨hb, setRow_other w g b _ (hS b hb)⟩, fun _ _ _ h => h⟩
  refine ⟨⟨?_, hC.sub, fun b hb => by simpa using hC.lt b hb, hC.dis, fun i g' c' s' h => by simpa using hC.own i g' c' s' h, hC.inj, hC.new, ?_, hC.stay, hC.fxs⟩, hL _⟩
  · refine hC.frame.trans (D' := fun b => b = g) ⟨rfl, rfl, rfl, by simp, fun b _ hn => setRow_other w g b _ hn⟩ ?_
    rintro b hb rfl
    rcases (hC.own id b c sz hg).2 with h | h
    · omega
    · exact h
  · intro i oi h
    rw [look_cons] at h
    split at h
    · rename_i e
      subst e
      simp at h
      subst h
      exact ⟨(hC.obj id o ho).1, hu, ho'⟩
    · rename_i hne
      obtain ⟨h1, h2, h3⟩ := hC.obj i oi h
      refine ⟨h1, h2, h3.mono (hL (fun _ => True)) trivial (by cases oi <;> simp [AObj.uses]) (fun _ _ _ _ h => h) (fun k g' c' s' hk hg' => setRow_other w g g' _ (fun e => hne ?_))⟩
      subst e
      have := hC.inj id k g' c c' sz s' hg hg'
      rw [← hk, ← this]

theorem plainA_rd {v : Value} {x : AV} (h : CRel w S ι v x) (hp : plainA x = true) : Rd w S v x := by
  cases h with
  | rd h => exact h
  | _ => simp [plainA] at hp

theorem storeCells_row {P : Program} {g o T : Nat} {old news : List Value} (hw : w.heap[g]? = some (.cells old.toArray T (0, 0))) (hl : o + news.length ≤ old.length) (h1 : ∀ v ∈ news, v.oneCell' = true) :
    (storeCells ⟨g, o, none⟩ news).run P w = .ok () (w.setRow g (old.take o ++ news ++ old.drop (o + news.length)).toArray) := by
  have := run_storeCells_at (P := P) g o T news 0 old.toArray w hw (by simpa using hl) h1
  simpa using this

theorem exec_store {P : Program} {t : TypeId} {ti : TI} {i : TypeInfo} {d : TypeDesc} (hk : TyOk P t ti i d) {ad : Addr} {v : Value} {w' : World} (hs : v.cells.size = ti.size) (h : (storeCells ad v.cells.toList).run P w = .ok () w') :
    (do (Instr.storeAt t (.pointer (some ad)) v : Sem Unit); pure Next.skip : Sem Next).run P w = .ok .skip w' := by
  simp [Instr.storeAt, Instr.sureAddr, storeVar, hk.sizeOf, hs, h]

theorem one_of_all2 {vs : List Value} {cs : List AV} (h : All2 (CRel w S ι) vs cs) : ∀ v ∈ vs, v.oneCell' = true := by
  intro v hv
  obtain ⟨i, hi, e⟩ := List.mem_iff_getElem.1 hv
  have h1 : vs[i]? = some v := by rw [List.getElem?_eq_getElem hi, e]
  have hi' : i < cs.length := by rw [← h.length]; exact hi
  exact (h.at h1 (List.getElem?_eq_getElem hi')).one

theorem list_set_flatten {α : Type} {s : Nat} : ∀ (rows : List (List α)) (k : Nat) (r : List α), (∀ x ∈ rows, x.length = s) → k < rows.length → r.length = s →
    (rows.set k r).flatten = rows.flatten.take (k * s) ++ r ++ rows.flatten.drop (k * s + s)
  | [], k, r, _, hk, _ => by simp at hk
  | x :: rows, 0, r, h, _, hr => by
    have hx := h x (List.mem_cons_self ..)
    simp [List.drop_left' hx]
  | x :: rows, k + 1, r, h, hk, hr => by
    have hx := h x (List.mem_cons_self ..)
    have ih := list_set_flatten rows k r (fun y hy => h y (List.mem_cons_of_mem _ hy)) (by simpa using hk) hr
    have t1 : (x ++ rows.flatten).take (k * s + s) = x ++ rows.flatten.take (k * s) := by
      rw [show k * s + s = x.length + k * s from by omega, List.take_length_add_append]
    have t2 : (x ++ rows.flatten).drop (k * s + s + s) = rows.flatten.drop (k * s + s) := by
      rw [show k * s + s + s = x.length + (k * s + s) from by omega, List.drop_length_add_append]
    rw [List.set_cons_succ, List.flatten_cons, ih, List.flatten_cons, Nat.add_mul, Nat.one_mul, t1, t2]
    simp [List.append_assoc]
theorem splice_row {α : Type} (l b : List α) (k s off n : Nat) (hs : off + n ≤ s) (hl : k + s ≤ l.length) :
    l.take k ++ (((l.drop k).take s).take off ++ b ++ ((l.drop k).take s).drop (off + n)) ++ l.drop (k + s) = l.take (k + off) ++ b ++ l.drop (k + off + n) := by
  have e1 : l.take (k + off) = l.take k ++ (l.drop k).take off := by rw [List.take_add]
  have e2 : ((l.drop k).take s).drop (off + n) ++ l.drop (k + s) = l.drop (k + off + n) := by
    rw [List.drop_take, List.drop_drop]
    have : l.drop (k + s) = (l.drop (k + (off + n))).drop (s - (off + n)) := by rw [List.drop_drop]; congr 1; omega
    rw [this, List.take_append_drop]
    congr 1; omega
  rw [e1, List.take_take, Nat.min_eq_left (by omega), ← e2]
  simp [List.append_assoc]
theorem splice_at {α β : Type} {R : α → β → Prop} {vs u : List α} {fl b : List β} {n m : Nat} (hc : ∀ (i : Nat) (v : α) (a : β), vs[i]? = some v → fl[i]? = some a → R v a) (hu : All2 R u b) (h1 : n ≤ vs.length) (h2 : n ≤ fl.length) :
    ∀ (j : Nat) (y : α) (z : β), (vs.take n ++ u ++ vs.drop m)[j]? = some y → (fl.take n ++ b ++ fl.drop m)[j]? = some z → R y z := by
  intro j y z hy hz
  have hl := hu.length
  have l1 : (vs.take n).length = n := by simp; omega
  have l2 : (fl.take n).length = n := by simp; omega
  rw [List.append_assoc] at hy hz
  by_cases hj : j < n
  · rw [List.getElem?_append_left (by omega), List.getElem?_take, if_pos hj] at hy hz
    exact hc j y z hy hz
  · rw [List.getElem?_append_right (by omega)] at hy hz
    rw [l1] at hy
    rw [l2] at hz
    by_cases hj2 : j - n < u.length
    · rw [List.getElem?_append_left (by omega)] at hy hz
      exact hu.at hy hz
    · rw [List.getElem?_append_right (by omega), List.getElem?_drop] at hy hz
      rw [hl] at hy
      exact hc _ y z hy hz

theorem splice_atJ {α β : Type} {R : Nat → α → β → Prop} {vs u : List α} {fl b : List β} {n m : Nat} (hc : ∀ (i : Nat) (v : α) (a : β), vs[i]? = some v → fl[i]? = some a → R i v a) (hu : ∀ (i : Nat) (v : α) (a : β), u[i]? = some v → b[i]? = some a → R (n + i) v a) (hl : u.length = b.length) (hm : m = n + u.length) (h1 : n ≤ vs.length) (h2 : n ≤ fl.length) :
    ∀ (j : Nat) (y : α) (z : β), (vs.take n ++ u ++ vs.drop m)[j]? = some y → (fl.take n ++ b ++ fl.drop m)[j]? = some z → R j y z := by
  intro j y z hy hz
  have l1 : (vs.take n).length = n := by simp; omega
  have l2 : (fl.take n).length = n := by simp; omega
  rw [List.append_assoc] at hy hz
  by_cases hj : j < n
  · rw [List.getElem?_append_left (by omega), List.getElem?_take, if_pos hj] at hy hz
    exact hc j y z hy hz
  · rw [List.getElem?_append_right (by omega)] at hy hz
    rw [l1] at hy
    rw [l2] at hz
    by_cases hj2 : j - n < u.length
    · rw [List.getElem?_append_left (by omega)] at hy hz
      have := hu (j - n) y z hy hz
      rwa [show n + (j - n) = j by omega] at this
    · rw [List.getElem?_append_right (by omega), List.getElem?_drop] at hy hz
      rw [hl] at hy
      have := hc _ y z hy hz
      rwa [show m + (j - n - b.length) = j by omega] at this
theorem storePA_sound (hT : TabOk E.P tt) (t : TypeId) (ti : TI) (hti : look tt t = some ti) (p b : AV) (hb : ∀ vs, b ≠ .tup vs) (x v : Operand) (hx : opnd s.tm x = some p) (hv : opnd s.tm v = some b) :
    (storePA s ti.size b p).Sound E s (fun ρ => do (Instr.storeAt t (ρ x) (ρ v) : Sem Unit); pure .skip) := by
  obtain ⟨i, d, hk⟩ := hT t ti hti
  cases p with
  | pt id row off =>
    simp only [storePA]
    cases ho : look s.hp id with
    | none => trivial
    | some o =>
      cases o with
      | map _ _ => trivial
      | ranged _ _ _ => trivial
      | clo _ _ _ => trivial
      | box cs =>
        have mainB : b.cells.length = ti.size → off + ti.size ≤ cs.length → ∀ (a : Act) (w : World) (ι : Loc) (S : Nat → Prop), Core E ι S s.hp s.nx w → TmOk ι S s.tm E.nt s.nx w a.tmps →
            ∃ w' ι' S', ((do (Instr.storeAt t (a.eval x) (a.eval v) : Sem Unit); pure .skip) : Sem Next).run E.P w = .ok .skip w' ∧ Core E ι' S' ((id, .box (cs.take off ++ b.cells ++ cs.drop (off + ti.size))) :: s.hp) s.nx w' ∧ s.nx ≤ s.nx ∧ Later w w' S S' ι ι' (· < s.nx) := by
          intro hbl hol a w ι S hC hTm
          obtain ⟨hid, huo, hob⟩ := hC.obj id _ ho
          have hpx := (opnd_rel hTm hx).1
          have hpv := opnd_rel hTm hv
          cases hob with
          | box g c sz T cs vs h h0 hw hc =>
            subst h0
            obtain ⟨g', c', s', h', hav⟩ := hpx.pt_inv
            rw [h] at h'; simp at h'; obtain ⟨rfl, _, rfl⟩ := h'
            have hcr := hpv.1.cells_rel (opnd_junk hv) hb
            have hsz : (a.eval v).cells.toList.length = ti.size := by rw [hcr.length, hbl]
            have hst := storeCells_row (P := E.P) (o := off) hw (news := (a.eval v).cells.toList) (by rw [hsz, hc.length]; exact hol) (one_of_all2 hcr)
            rw [hsz] at hst
            have hrel : All2 (CRel w S ι) (vs.take off ++ (a.eval v).cells.toList ++ vs.drop (off + ti.size)) (cs.take off ++ b.cells ++ cs.drop (off + ti.size)) := ((hc.take off).append hcr).append (hc.drop _)
            have hu : ∀ y ∈ cs.take off ++ b.cells ++ cs.drop (off + ti.size), ∀ id, y.idOf = some id → id < s.nx := by
              intro y hy
              simp only [List.mem_append] at hy
              rcases hy with (hy | hy) | hy
              · exact huo y (List.mem_of_mem_take hy)
              · exact uses_cells hpv.2 hb y hy
              · exact huo y (List.mem_of_mem_drop hy)
            have hS : ∀ b, S b → b ≠ g := fun b hb e => hC.dis b hb ⟨id, c, 0, e ▸ h⟩
            have hL : ∀ K new, Later w (w.setRow g new) S S ι ι K := fun K new => ⟨fun b hb => ⟨hb, setRow_other w g b _ (hS b hb)⟩, fun _ _ _ h => h⟩
            have := hC.set (new := vs.take off ++ (a.eval v).cells.toList ++ vs.drop (off + ti.size)) ho h hw (.box g c 0 T _ _ h rfl (setRow_heap w g _ _ T _ hw) (All2.of hrel.length fun i y z hy hz => (hrel.at hy hz).mono (hL (fun _ => True) _) (fun _ _ => trivial))) hu
            refine ⟨_, ι, S, ?_, this.1, Nat.le_refl _, this.2⟩
            rw [hav]
            refine exec_store hk (by simpa using hsz) ?_
            simpa using hst
        cases row with
        | zero =>
          simp only
          cases hq : (Nat.beq b.cells.length ti.size && Nat.ble (off + ti.size) cs.length) with
          | false => trivial
          | true =>
            simp only [cond_true, forceL_eq]
            simp only [Bool.and_eq_true] at hq
            exact mainB (Nat.eq_of_beq_eq_true hq.1) (Nat.le_of_ble_eq_true hq.2)
        | succ row =>
          simp only
          cases hq : Nat.beq b.cells.length ti.size with
          | false => trivial
          | true => exact fun hol => mainB (Nat.eq_of_beq_eq_true hq) hol
      | @nest b0 e sz rows =>
        simp only
        cases hq : (Nat.beq b.cells.length ti.size && Nat.ble (off + ti.size) sz && b.cells.all cellN) with
        | false => trivial
        | true =>
          simp only [cond_true]
          simp only [Bool.and_eq_true] at hq
          have hbl := Nat.eq_of_beq_eq_true hq.1.1
          have hol := Nat.le_of_ble_eq_true hq.1.2
          intro hlt a w ι S hC hTm
          obtain ⟨hid, huo, hob⟩ := hC.obj id _ ho
          have hpx := (opnd_rel hTm hx).1
          have hpv := opnd_rel hTm hv
          cases hob with
          | nest0 e s' h hs => simp at hlt
          | nest g cap e s' rows vs h hs hr hle hm hw hn hc =>
            obtain ⟨g', c', s', h', hav⟩ := hpx.pt_inv
            rw [h] at h'; simp at h'; obtain ⟨rfl, rfl, rfl⟩ := h'
            have hcr := hpv.1.cells_rel (opnd_junk hv) hb
            have hsz : (a.eval v).cells.toList.length = ti.size := by rw [hcr.length, hbl]
            have hmul : row * sz + sz ≤ rows.length * sz := by
              have := Nat.mul_le_mul_right sz (Nat.succ_le_of_lt hlt)
              rwa [Nat.succ_mul] at this
            have hcap : rows.length * sz ≤ cap * sz := Nat.mul_le_mul_right _ hle
            have hst := storeCells_row (P := E.P) (o := row * sz + off) hw (news := (a.eval v).cells.toList) (by rw [hsz, hn]; omega) (one_of_all2 hcr)
            rw [hsz] at hst
            have hS : ∀ b, S b → b ≠ g := fun b hb e => hC.dis b hb ⟨id, cap, sz, e ▸ h⟩
            have hrow : (rows.getD row []).length = sz := by
              have : rows.getD row [] = rows[row] := by simp [List.getD_eq_getElem?_getD, hlt]
              rw [this]; exact hr _ (List.getElem_mem hlt)
            have hnew : ((rows.getD row []).take off ++ b.cells ++ (rows.getD row []).drop (off + ti.size)).length = sz := by
              simp only [List.length_append, List.length_take, List.length_drop, hrow, hbl]; omega
            have hflat := list_set_flatten rows row _ hr hlt hnew
            have hfl : rows.flatten.length = rows.length * sz := flatten_length rows hr
            have hrw := flatten_row rows row hr hlt
            have hsp : (rows.set row ((rows.getD row []).take off ++ b.cells ++ (rows.getD row []).drop (off + ti.size))).flatten = rows.flatten.take (row * sz + off) ++ b.cells ++ rows.flatten.drop (row * sz + off + ti.size) := by
              rw [hflat, ← hrw, splice_row rows.flatten b.cells (row * sz) sz off ti.size hol (by omega)]
            have hL : ∀ new, Later w (w.setRow g new) S S ι ι (fun _ => True) := fun new => ⟨fun b hb => ⟨hb, setRow_other w g b _ (hS b hb)⟩, fun _ _ _ h => h⟩
            have := hC.set (o' := .nest (c := b0 && b.cells.all plainA) e sz (rows.set row ((rows.getD row []).take off ++ b.cells ++ (rows.getD row []).drop (off + ti.size)))) (new := vs.take (row * sz + off) ++ (a.eval v).cells.toList ++ vs.drop (row * sz + off + ti.size)) ho h hw
              (.nest g cap e sz _ _ h hs (fun r hr' => by
                rcases List.mem_or_eq_of_mem_set hr' with hr' | rfl
                · exact hr r hr'
                · exact hnew) (by simpa using hle) hm (setRow_heap w g _ _ e _ hw) (by simp only [List.length_append, List.length_take, List.length_drop, hsz, hn]; omega) (by
                intro j y z hy hz
                rw [hsp] at hz
                have := splice_atJ (R := fun j y z => ((b0 && b.cells.all plainA) = false ∧ CRel w S ι y z) ∨ Tr w S ι ⟨id, [j]⟩ y z) (n := row * sz + off) (m := row * sz + off + ti.size) (fun i v a hv ha => (hc i v a hv ha).imp (fun h => ⟨by rw [h.1]; rfl, h.2⟩) fun h => h) (fun i v a hv ha => by
                  cases hpl : b.cells.all plainA with
                  | false => exact .inl ⟨by simp, hcr.at hv ha⟩
                  | true => exact .inr (.rd (plainA_rd (hcr.at hv ha) (List.all_eq_true.1 hpl a (List.mem_of_getElem? ha))))) hcr.length (by rw [hsz]) (by rw [hn]; omega) (by omega) j y z hy hz
                rcases this with ⟨hb0, hx⟩ | hx
                · exact .inl ⟨hb0, hx.mono (hL _) fun _ _ => trivial⟩
                · exact .inr (hx.monoC (fun k => k.id = id ∧ k.path ≠ []) (fun k x hk => ⟨hk.1, by simp⟩) (hL _).rd (fun _ _ _ h => h) (fun k g' c' s' hk hg' => setRow_other w g g' _ (fun e' => by
                    subst e'
                    have := hC.inj k ⟨id, []⟩ g' _ _ _ _ hg' h
                    exact hk.2 (by rw [this]))) ⟨rfl, by simp⟩))) (by
                intro hb0 c hcm i hi
                rw [hsp] at hcm
                simp only [List.mem_append] at hcm
                have old : ∀ c ∈ rows.flatten, ∀ i, c.idOf = some i → i < s.nx := fun c hcm i hi => by
                  cases hbb : b0 with
                  | false => exact huo hbb c hcm i hi
                  | true =>
                    obtain ⟨k, hk2⟩ := List.mem_iff_getElem?.1 hcm
                    have hlt2 : k < rows.flatten.length := (List.getElem?_eq_some_iff.1 hk2).1
                    rcases hc k _ c (List.getElem?_eq_getElem (show k < vs.length by rw [hn]; omega)) hk2 with ⟨h0, _⟩ | hx
                    · rw [hbb] at h0; cases h0
                    · rw [hx.noId] at hi; cases hi
                rcases hcm with (hcm | hcm) | hcm
                · exact old c (List.mem_of_mem_take hcm) i hi
                · exact uses_cells hpv.2 hb c hcm i hi
                · exact old c (List.mem_of_mem_drop hcm) i hi)
            refine ⟨_, ι, S, ?_, this.1, Nat.le_refl _, this.2⟩
            dsimp only
            rw [hav]
            refine exec_store hk (by simpa using hsz) ?_
            simpa using hst
      | list e sz rows =>
        simp only
        cases hq : (Nat.beq b.cells.length ti.size && Nat.ble (off + ti.size) sz && b.cells.all plainA) with
        | false => trivial
        | true =>
          simp only [cond_true]
          simp only [Bool.and_eq_true] at hq
          have hbl := Nat.eq_of_beq_eq_true hq.1.1
          have hol := Nat.le_of_ble_eq_true hq.1.2
          intro hlt a w ι S hC hTm
          obtain ⟨hid, huo, hob⟩ := hC.obj id _ ho
          have hpx := (opnd_rel hTm hx).1
          have hpv := opnd_rel hTm hv
          cases hob with
          | nil e s' h hs => simp at hlt
          | list g cap e s' rows vs h hs hr hle hm hw hn hc =>
            obtain ⟨g', c', s', h', hav⟩ := hpx.pt_inv
            rw [h] at h'; simp at h'; obtain ⟨rfl, rfl, rfl⟩ := h'
            have hcr := hpv.1.cells_rel (opnd_junk hv) hb
            have hsz : (a.eval v).cells.toList.length = ti.size := by rw [hcr.length, hbl]
            have hmul : row * sz + sz ≤ rows.length * sz := by
              have := Nat.mul_le_mul_right sz (Nat.succ_le_of_lt hlt)
              rwa [Nat.succ_mul] at this
            have hcap : rows.length * sz ≤ cap * sz := Nat.mul_le_mul_right _ hle
            have hst := storeCells_row (P := E.P) (o := row * sz + off) hw (news := (a.eval v).cells.toList) (by rw [hsz, hn]; omega) (one_of_all2 hcr)
            rw [hsz] at hst
            have hS : ∀ b, S b → b ≠ g := fun b hb e => hC.dis b hb ⟨id, cap, sz, e ▸ h⟩
            have hRd : ∀ new v x, Rd w S v x → Rd (w.setRow g new) S v x := fun new v x hv => hv.mono fun b hb => ⟨hb, setRow_other w g b _ (hS b hb)⟩
            have hrow : (rows.getD row []).length = sz := by
              have : rows.getD row [] = rows[row] := by simp [List.getD_eq_getElem?_getD, hlt]
              rw [this]; exact hr _ (List.getElem_mem hlt)
            have hnew : ((rows.getD row []).take off ++ b.cells ++ (rows.getD row []).drop (off + ti.size)).length = sz := by
              simp only [List.length_append, List.length_take, List.length_drop, hrow, hbl]; omega
            have hflat := list_set_flatten rows row _ hr hlt hnew
            have hfl : rows.flatten.length = rows.length * sz := flatten_length rows hr
            have := hC.set (o' := .list e sz (rows.set row ((rows.getD row []).take off ++ b.cells ++ (rows.getD row []).drop (off + ti.size)))) (new := vs.take (row * sz + off) ++ (a.eval v).cells.toList ++ vs.drop (row * sz + off + ti.size)) ho h hw
              (.list g cap e sz _ _ h hs (fun r hr' => by
                rcases List.mem_or_eq_of_mem_set hr' with hr' | rfl
                · exact hr r hr'
                · exact hnew) (by simpa using hle) hm (setRow_heap w g _ _ e _ hw) (by simp only [List.length_append, List.length_take, List.length_drop, hsz, hn]; omega) (by
                intro j y z hy hz
                refine hRd _ _ _ ?_
                have hrw := flatten_row rows row hr hlt
                rw [hflat, ← hrw, splice_row rows.flatten b.cells (row * sz) sz off ti.size hol (by omega)] at hz
                exact splice_at hc (All2.of hcr.length fun i v a hv ha => plainA_rd (hcr.at hv ha) (by simpa using (List.all_eq_true.1 hq.2) a (List.mem_of_getElem? ha))) (by rw [hn]; omega) (by omega) j y z hy hz)) trivial
            refine ⟨_, ι, S, ?_, this.1, Nat.le_refl _, this.2⟩
            dsimp only
            rw [hav]
            refine exec_store hk (by simpa using hsz) ?_
            simpa using hst
  | _ => trivial

theorem storeA_sound (hT : TabOk E.P tt) (t : TypeId) (x v : Operand) : (storeA tt s t x v).Sound E s (fun ρ => do (Instr.storeAt t (ρ x) (ρ v) : Sem Unit); pure .skip) := by
  unfold storeA
  cases hti : look tt t with
  | none => trivial
  | some ti =>
    cases hx : opnd s.tm x with
    | none => trivial
    | some p =>
      cases hv : opnd s.tm v with
      | none => trivial
      | some b =>
        by_cases ht : ∃ vs, b = .tup vs
        · obtain ⟨vs, rfl⟩ := ht; trivial
        · have ht' : ∀ vs, b ≠ .tup vs := fun vs e => ht ⟨vs, e⟩
          have := storePA_sound hT t ti hti p b ht' x v hx hv
          cases b with
          | tup vs => exact absurd rfl (ht' vs)
          | _ => exact this

/-! ### numbers, strings -/
theorem eqGuard_ok {P : Program} (op : BinOp) (t : TypeId) (x y : Operand) {a b : Value} (h : ∀ u v, (a, b) ≠ (.agg u, .agg v)) (h' : (a, b) ≠ (.nilIface, .nilIface)) : (eqGuard op t x y a b).run P w = .ok () w := by
  unfold eqGuard
  cases op <;> first | rfl | (cases a <;> cases b <;> first | rfl | exact absurd rfl h' | exact absurd rfl (h _ _))

def BinIs (P : Program) (op : BinOp) (t : TypeId) (a b v : Value) : Prop :=
  (∀ w, (binOp op t a b).run P w = .ok v w) ∧ v.oneCell' = true ∧ (∀ u v, (a, b) ≠ (.agg u, .agg v)) ∧ (a, b) ≠ (.nilIface, .nilIface)
def BinOk (P : Program) (op : BinOp) (t : TypeId) (a b : Value) : EV → Prop
  | .ok v => BinIs P op t a b v
  | .cond p v => p → BinIs P op t a b v
  | .no => True

theorem evalShift_ok {P : Program} (op : BinOp) (t : TypeId) (k k' : IntKind) (a b : Int) : BinOk P op t (.int k a) (.int k' b) (evalShift op k a b) := by
  cases op <;> simp only [evalShift, BinOk] <;> intro hb <;> (
    refine ⟨fun w => ?_, rfl, by simp, by simp⟩
    have : ¬ b < 0 := by omega
    simp [binOp, Op.shift, this])
theorem evalInt_ok {P : Program} (op : BinOp) (t : TypeId) (k : IntKind) (a b : Int) : BinOk P op t (.int k a) (.int k b) (evalInt op k a b) := by
  cases op <;> simp only [evalInt, BinOk] <;> first
    | trivial
    | (intro hb
       refine ⟨fun w => ?_, rfl, by simp, by simp⟩
       simp [binOp, Op.intDiv, hb]; done)
    | (refine ⟨fun w => ?_, rfl, by simp, by simp⟩
       first
         | (simp [binOp, Op.intArith]; done)
         | (simp [binOp, Op.intBits, xorI]; done)
         | (simp [binOp]; rfl))
theorem evalStr_ok {P : Program} (op : BinOp) (t : TypeId) (x y : ByteArray) : BinOk P op t (.string x) (.string y) (evalStr op x y) := by
  cases op <;> simp only [evalStr, BinOk] <;> first
    | trivial
    | exact ⟨fun w => by simp [binOp, Op.stringOp], rfl, by simp, by simp⟩
    | (intro h
       refine ⟨fun w => ?_, rfl, by simp, by simp⟩
       have : ¬ ((x.size + y.size : Nat) : Int) > IntKind.i64.max := by
         simp only [maxLen] at h
         simp [IntKind.max, IntKind.signed, IntKind.bits]; omega
       simp only [binOp, Op.stringOp, this, if_false]; rfl)
theorem evalBool_ok {P : Program} (op : BinOp) (t : TypeId) (a b : Bool) (ht : P.underlying t = some .bool) : BinOk P op t (.bool a) (.bool b) (evalBool op a b) := by
  cases op <;> simp only [evalBool, BinOk] <;> first
    | trivial
    | exact ⟨fun w => by simp [binOp, run_equal_bool _ t a b ht], rfl, by simp, by simp⟩
theorem evalBin_ok {P : Program} (op : BinOp) (t : TypeId) (a b : Value) : BinOk P op t a b (evalBin op a b) := by
  cases a with
  | int k a =>
    cases b with
    | int k' b =>
      simp only [evalBin]
      cases isShift op with
      | true => exact evalShift_ok op t k k' a b
      | false =>
        simp only [cond_false]
        by_cases hk : k = k'
        · subst hk
          have : (k == k) = true := by simp
          rw [this]; exact evalInt_ok op t k a b
        · have : (k == k') = false := by simp [hk]
          rw [this]; trivial
    | _ => trivial
  | string x =>
    cases b with
    | string y => exact evalStr_ok op t x y
    | _ => trivial
  | _ => trivial

theorem evA_sound {f : (Operand → Value) → Sem Next} {e : EV} (hok : match e with
    | .ok v => v.oneCell' = true ∧ ∀ (a : Act) (w : World) (ι : Loc) (S : Nat → Prop), TmOk ι S s.tm E.nt s.nx w a.tmps → (f a.eval).run E.P w = .ok (.value v) w
    | .cond p v => p → v.oneCell' = true ∧ ∀ (a : Act) (w : World) (ι : Loc) (S : Nat → Prop), TmOk ι S s.tm E.nt s.nx w a.tmps → (f a.eval).run E.P w = .ok (.value v) w
    | .no => True) : (evA s e).Sound E s f := by
  cases e with
  | no => trivial
  | ok v => exact fun a w ι S hC hTm => Good.same hC (hok.2 a w ι S hTm) (.one (.cell (.rd (.val _ hok.1)))) trivial
  | cond p v => exact fun hp a w ι S hC hTm => Good.same hC ((hok hp).2 a w ι S hTm) (.one (.cell (.rd (.val _ (hok hp).1)))) trivial

theorem binA_sound (op : BinOp) (t t' : TypeId) (x y : Operand) : (binA s op x y).Sound E s (fun ρ => do pure (.value (← (do eqGuard op t x y (ρ x) (ρ y); binOp op t (ρ x) (ρ y) : Sem Value)))) := by
  unfold binA
  cases hx : opnd s.tm x with
  | none => trivial
  | some p =>
    cases p with
    | val u =>
      cases hy : opnd s.tm y with
      | none => trivial
      | some q =>
        cases q with
        | val v =>
          simp only
          refine evA_sound ?_
          have h := evalBin_ok (P := E.P) op t u v
          have run : ∀ (r : Value) (a : Act) (w : World) (ι : Loc) (S : Nat → Prop), TmOk ι S s.tm E.nt s.nx w a.tmps → (∀ w, (binOp op t u v).run E.P w = .ok r w) → (∀ a b, (u, v) ≠ (.agg a, .agg b)) → (u, v) ≠ (.nilIface, .nilIface) →
              (do pure (Next.value (← (do eqGuard op t x y (a.eval x) (a.eval y); binOp op t (a.eval x) (a.eval y) : Sem Value))) : Sem Next).run E.P w = .ok (.value r) w := by
            intro r a w ι S hTm h1 h2 h3
            have e1 := (opnd_rel hTm hx).1.val_inv.1
            have e2 := (opnd_rel hTm hy).1.val_inv.1
            rw [e1, e2]
            simp only [Sem.run_bind, eqGuard_ok op t x y h2 h3, Result.andThen_ok, h1 w, Sem.run_pure]
          cases he : evalBin op u v with
          | no => trivial
          | ok r => rw [he] at h; exact ⟨h.2.1, fun a w ι S hTm => run r a w ι S hTm h.1 h.2.2.1 h.2.2.2⟩
          | cond p r => rw [he] at h; exact fun hp => ⟨(h hp).2.1, fun a w ι S hTm => run r a w ι S hTm (h hp).1 (h hp).2.2.1 (h hp).2.2.2⟩
        | _ => trivial
    | _ => trivial

theorem isBoolT_ok (hT : TabOk E.P tt) {t : TypeId} (h : isBoolT tt t = true) : E.P.underlying t = some .bool := by
  unfold isBoolT at h
  cases hl : look tt t with
  | none => simp [hl] at h
  | some ti =>
    obtain ⟨i, d, hk⟩ := hT t ti hl
    simp only [hl] at h
    cases hkk : ti.kind with
    | bool =>
      have := hk.kind
      rw [hkk] at this
      cases d <;> simp [kindChk] at this
      exact hk.under
    | _ => simp [hkk] at h
theorem boolA_sound (op : BinOp) (t t' : TypeId) (x y : Operand) (ht : E.P.underlying t = some .bool) : (boolA s op x y).Sound E s (fun ρ => do pure (.value (← (do eqGuard op t x y (ρ x) (ρ y); binOp op t (ρ x) (ρ y) : Sem Value)))) := by
  unfold boolA
  cases hx : opnd s.tm x with
  | none => trivial
  | some p =>
    cases p with
    | val u =>
      cases u with
      | bool bx =>
        cases hy : opnd s.tm y with
        | none => trivial
        | some q =>
          cases q with
          | val v =>
            cases v with
            | bool bz =>
              simp only
              refine evA_sound ?_
              have h := evalBool_ok (P := E.P) op t bx bz ht
              have run : ∀ (r : Value) (a : Act) (w : World) (ι : Loc) (S : Nat → Prop), TmOk ι S s.tm E.nt s.nx w a.tmps → (∀ w, (binOp op t (.bool bx) (.bool bz)).run E.P w = .ok r w) → (∀ a b, (Value.bool bx, Value.bool bz) ≠ (.agg a, .agg b)) → (Value.bool bx, Value.bool bz) ≠ (.nilIface, .nilIface) →
                  (do pure (Next.value (← (do eqGuard op t x y (a.eval x) (a.eval y); binOp op t (a.eval x) (a.eval y) : Sem Value))) : Sem Next).run E.P w = .ok (.value r) w := by
                intro r a w ι S hTm h1 h2 h3
                have e1 := (opnd_rel hTm hx).1.val_inv.1
                have e2 := (opnd_rel hTm hy).1.val_inv.1
                rw [e1, e2]
                simp only [Sem.run_bind, eqGuard_ok op t x y h2 h3, Result.andThen_ok, h1 w, Sem.run_pure]
              cases he : evalBool op bx bz with
              | no => trivial
              | ok r => rw [he] at h; exact ⟨h.2.1, fun a w ι S hTm => run r a w ι S hTm h.1 h.2.2.1 h.2.2.2⟩
              | cond p r => rw [he] at h; exact fun hp => ⟨(h hp).2.1, fun a w ι S hTm => run r a w ι S hTm (h hp).1 (h hp).2.2.1 (h hp).2.2.2⟩
            | _ => trivial
          | _ => trivial
      | _ => trivial
    | _ => trivial
theorem isIfaceT_ok (hT : TabOk E.P tt) {t : TypeId} (h : isIfaceT tt t = true) : ∃ ms, E.P.underlying t = some (.interface ms) := by
  unfold isIfaceT at h
  cases hl : look tt t with
  | none => simp [hl] at h
  | some ti =>
    obtain ⟨i, d, hk⟩ := hT t ti hl
    simp only [hl] at h
    cases hkk : ti.kind with
    | iface =>
      have := hk.kind
      rw [hkk] at this
      cases d <;> simp [kindChk] at this
      exact ⟨_, hk.under⟩
    | _ => simp [hkk] at h
theorem run_nilIf {P : Program} {t : TypeId} {ms : Array Nat} {d : TypeDesc} (hu : P.underlying t = some d) (hd : ∃ ms, d = .interface ms) (u : Value) (b : Bool) (h : (u = .nilIface ∧ b = true) ∨ ((∃ a v, u = .iface a v) ∧ b = false)) (w : World) : (Op.equal t u .nilIface).run P w = .ok b w := by
  obtain ⟨ms', rfl⟩ := hd
  have key : ∀ k : Nat, (Op.equalIn (k + 1) t u .nilIface).run P w = .ok b w := fun k => by
    rcases h with ⟨rfl, rfl⟩ | ⟨⟨a, v, rfl⟩, rfl⟩
    · simp [Op.equalIn, run_underlying hu]
    · simp [Op.equalIn, run_underlying hu]
  exact key 9999
theorem nilIfA_sound (op : BinOp) (t t' : TypeId) (x y : Operand) {d : TypeDesc} (hu : E.P.underlying t = some d) (hd : ∃ ms, d = .interface ms) : (nilIfA s op x y).Sound E s (fun ρ => do pure (.value (← (do eqGuard op t x y (ρ x) (ρ y); binOp op t (ρ x) (ρ y) : Sem Value)))) := by
  unfold nilIfA
  cases y with
  | const c =>
    cases c with
    | nilIface =>
      simp only
      cases hx : opnd s.tm x with
      | none => trivial
      | some p =>
        cases p with
        | val u =>
          have key : ∀ b, ((u = .nilIface ∧ b = true) ∨ ((∃ a v, u = .iface a v) ∧ b = false)) → (nilIfV op b).Sound E s (fun ρ => do pure (.value (← (do eqGuard op t x (.const .nilIface) (ρ x) (ρ (.const .nilIface)); binOp op t (ρ x) (ρ (.const .nilIface)) : Sem Value)))) := by
            intro b hb
            cases op <;> first
              | trivial
              | (refine fun a w ι S hC hTm => Good.same hC ?_ (.one (.cell (.rd (.val _ rfl)))) trivial
                 have e1 := (opnd_rel hTm hx).1.val_inv.1
                 have e2 : a.eval (.const .nilIface) = .nilIface := rfl
                 have h1 := run_nilIf (ms := #[]) hu hd u b hb w
                 dsimp only
                 rw [e1, e2]
                 have h2 : ∀ o : BinOp, (eqGuard o t x (.const .nilIface) u .nilIface).run E.P w = .ok () w := fun o => by
                   unfold eqGuard
                   rcases hb with ⟨rfl, _⟩ | ⟨⟨_, _, rfl⟩, _⟩ <;> cases o <;> simp
                 have h3 : ∀ o : BinOp, o = .eql → (binOp o t u .nilIface).run E.P w = .ok (.bool b) w := fun o ho => by
                   subst ho
                   rcases hb with ⟨rfl, _⟩ | ⟨⟨_, _, rfl⟩, _⟩ <;> simp [binOp, h1]
                 have h4 : ∀ o : BinOp, o = .neq → (binOp o t u .nilIface).run E.P w = .ok (.bool (!b)) w := fun o ho => by
                   subst ho
                   rcases hb with ⟨rfl, _⟩ | ⟨⟨_, _, rfl⟩, _⟩ <;> simp [binOp, h1]
                 simp only [Sem.run_bind, h2, Result.andThen_ok, Sem.run_pure]
                 first
                   | (rw [h3 _ rfl]; rfl)
                   | (rw [h4 _ rfl]; rfl))
          cases u with
          | nilIface => exact key true (.inl ⟨rfl, rfl⟩)
          | iface a b => exact key false (.inr ⟨⟨_, _, rfl⟩, rfl⟩)
          | _ => trivial
        | _ => trivial
    | _ => trivial
  | _ => trivial
theorem valsOf_eq {w : World} {S : Nat → Prop} {ι : Loc} : ∀ {us : List Value} {cs : List AV} {vs : List Value}, All2 (CRel w S ι) us cs → valsOf cs = some vs → us = vs
  | [], [], _, _, h => by simp only [valsOf, Option.some.injEq] at h; exact h
  | u :: us, c :: cs, vs, h, hv => by
    cases c with
    | val v =>
      simp only [valsOf] at hv
      cases hr : valsOf cs with
      | none => rw [hr] at hv; cases hv
      | some ws =>
        rw [hr] at hv
        cases hv
        have h1 : u = v := by
          cases h.1 with
          | rd h => cases h; rfl
        rw [h1, valsOf_eq h.2 hr]
    | _ => simp [valsOf] at hv
  | [], _ :: _, _, h, _ => h.elim
  | _ :: _, [], _, h, _ => h.elim
theorem ifaceA_sound (hT : TabOk E.P tt) (t : TypeId) (x : Operand) : (ifaceA tt s t x).Sound E s (fun ρ => do pure (.value (← Instr.makeInterface t (ρ x)))) := by
  unfold ifaceA
  cases hl : look tt t with
  | none => trivial
  | some ti =>
    obtain ⟨i, d, hk⟩ := hT t ti hl
    simp only
    cases hkk : ti.kind with
    | struct fs =>
      have hd := hk.kind
      rw [hkk] at hd
      simp only
      cases hx : opnd s.tm x with
      | none => trivial
      | some p =>
        cases p with
        | agg cs =>
          simp only
          cases hv : valsOf cs with
          | none => trivial
          | some vs =>
            refine fun a w ι S hC hTm => Good.same hC ?_ (.one (.cell (.rd (.val _ rfl)))) trivial
            have hr := (opnd_rel hTm hx).1
            obtain ⟨us, e1, hus⟩ : ∃ us : List Value, a.eval x = .agg us.toArray ∧ All2 (CRel w S ι) us cs := by
              revert hr
              generalize a.eval x = v
              intro hr
              cases hr with
              | one h => cases h with
                | agg us _ h => exact ⟨us, rfl, h⟩
                | cell h => cases h with
                  | rd h => cases h
            dsimp only
            rw [e1, valsOf_eq hus hv]
            have hu := hk.under
            cases d <;> simp [kindChk] at hd
            simp [Instr.makeInterface, run_underlying hu]
        | _ => trivial
    | _ => trivial
theorem keysFChk_run {P : Program} (w : World) (d : Nat) (vs us : List Value) : ∀ (fs : List Field) (ks : List KK) (o : Nat) (x y : List KV), keysFChk P o fs ks = true → kvsOf ks ((vs.drop o).map .val) = some x → kvsOf ks ((us.drop o).map .val) = some y →
    (Op.eqFields (d + 1) vs.toArray us.toArray fs).run P w = .ok (decide (x = y)) w
  | [], [], o, x, y, _, hx, hy => by
    cases hv : (vs.drop o).map AV.val with
    | cons a as => rw [hv] at hx; simp [kvsOf] at hx
    | nil =>
      cases hu : (us.drop o).map AV.val with
      | cons a as => rw [hu] at hy; simp [kvsOf] at hy
      | nil =>
        rw [hv] at hx; rw [hu] at hy
        simp only [kvsOf, Option.some.injEq] at hx hy
        subst hx hy
        simp [Op.eqFields]
  | f :: fs, k :: ks, o, x, y, h, hx, hy => by
    simp only [keysFChk, keyFChk, Bool.and_eq_true, Bool.not_eq_true'] at h
    obtain ⟨⟨⟨h1, h2⟩, h3⟩, h4⟩ := h
    have ho := Nat.eq_of_beq_eq_true h1
    have hname : f.name ≠ "_" := by simpa using h2
    cases hv : vs.drop o with
    | nil => rw [hv] at hx; simp [kvsOf] at hx
    | cons a as =>
      cases hu : us.drop o with
      | nil => rw [hu] at hy; simp [kvsOf] at hy
      | cons b bs =>
        have ha : vs[o]? = some a := by have := congrArg (·[0]?) hv; simpa using this
        have hb : us[o]? = some b := by have := congrArg (·[0]?) hu; simpa using this
        have has : vs.drop (o + 1) = as := by rw [← List.tail_drop, hv]; rfl
        have hbs : us.drop (o + 1) = bs := by rw [← List.tail_drop, hu]; rfl
        rw [hv, List.map_cons] at hx
        rw [hu, List.map_cons] at hy
        simp only [kvsOf] at hx hy
        cases hka : kvOf k (.val a) with
        | none => simp [hka] at hx
        | some xa =>
          cases hkb : kvOf k (.val b) with
          | none => simp [hkb] at hy
          | some yb =>
            cases hra : kvsOf ks (as.map .val) with
            | none => simp [hka, hra] at hx
            | some xr =>
              cases hrb : kvsOf ks (bs.map .val) with
              | none => simp [hkb, hrb] at hy
              | some yr =>
                simp only [hka, hra, Option.some.injEq] at hx
                simp only [hkb, hrb, Option.some.injEq] at hy
                subst hx hy
                have ih := keysFChk_run w d vs us fs ks (o + 1) xr yr h4 (by rw [has]; exact hra) (by rw [hbs]; exact hrb)
                cases hd : P.underlying f.type with
                | none => simp [hd] at h3
                | some dd =>
                  have hag : descAgg dd = false := by
                    simp only [hd] at h3
                    cases dd <;> simp at h3 <;> rfl
                  have p1 : ∀ w, (part f.type vs.toArray f.offset).run P w = .ok a w := fun w => by
                    simp [part, Sem.run_bind, descAgg_isAgg hd w, hag, Result.andThen_ok, ho, ha]
                  have p2 : ∀ w, (part f.type us.toArray f.offset).run P w = .ok b w := fun w => by
                    simp [part, Sem.run_bind, descAgg_isAgg hd w, hag, Result.andThen_ok, ho, hb]
                  have e : (Op.equalIn (d + 1) f.type a b).run P w = .ok (decide (xa = yb)) w := by
                    simp only [hd] at h3
                    cases k with
                    | int k =>
                      cases a <;> simp only [kvOf, reduceCtorEq] at hka
                      rename_i ka na
                      cases b <;> simp only [kvOf, reduceCtorEq] at hkb
                      rename_i kb nb
                      cases e5 : (k == ka) with
                      | false => simp [e5] at hka
                      | true =>
                        cases e6 : (k == kb) with
                        | false => simp [e6] at hkb
                        | true =>
                          simp only [e5, cond_true, Option.some.injEq] at hka
                          simp only [e6, cond_true, Option.some.injEq] at hkb
                          obtain rfl : k = ka := by simpa using e5
                          obtain rfl : k = kb := by simpa using e6
                          subst hka hkb
                          cases dd <;> simp at h3
                          rw [run_equalIn_int w d f.type _ _ _ _ hd]
                          by_cases e2 : na = nb <;> simp [e2]
                    | bool =>
                      cases a <;> simp [kvOf] at hka
                      rename_i na
                      cases b <;> simp [kvOf] at hkb
                      rename_i nb
                      subst hka hkb
                      cases dd <;> simp at h3
                      rw [run_equalIn_bool' w d f.type _ _ hd]
                      by_cases e2 : na = nb <;> simp [e2]
                    | str =>
                      cases a <;> simp [kvOf] at hka
                      rename_i na
                      cases b <;> simp [kvOf] at hkb
                      rename_i nb
                      subst hka hkb
                      cases dd <;> simp at h3
                      rw [run_equalIn_string w d f.type _ _ hd]
                      by_cases e2 : na.toList = nb.toList <;> simp [e2]
                  simp only [Op.eqFields, if_pos hname, Sem.run_bind, p1, p2, e, Result.andThen_ok]
                  by_cases e2 : xa = yb
                  · subst e2
                    simp only [decide_true, Bool.not_true, Bool.false_eq_true, if_false, ih]
                    by_cases e3 : xr = yr <;> simp [e3]
                  · simp [e2]
  | [], _ :: _, _, _, _, h, _, _ => by simp [keysFChk] at h
  | _ :: _, [], _, _, _, h, _, _ => by simp [keysFChk] at h
theorem kv_val {k : KK} {v : Value} {a : AV} {x : KV} (h : CRel w S ι v a) (hk : kvOf k a = some x) : a = .val v := by
  cases h with
  | rd h => cases h with
    | val v h => rfl
    | _ => cases k <;> simp [kvOf] at hk
  | _ => cases k <;> simp [kvOf] at hk
theorem kvs_val : ∀ {ks : List KK} {vs : List Value} {as : List AV} {x : List KV}, All2 (CRel w S ι) vs as → kvsOf ks as = some x → as = vs.map .val
  | ks, [], [], x, _, _ => rfl
  | [], v :: vs, a :: as, x, _, hk => by simp [kvsOf] at hk
  | k :: ks, v :: vs, a :: as, x, h, hk => by
    simp only [kvsOf] at hk
    cases hka : kvOf k a with
    | none => simp [hka] at hk
    | some u =>
      cases hr : kvsOf ks as with
      | none => simp [hka, hr] at hk
      | some r => rw [List.map_cons, kv_val h.1 hka, kvs_val h.2 hr]
  | _, _ :: _, [], _, h, _ => h.elim
  | _, [], _ :: _, _, h, _ => h.elim
theorem keysOfT_ok (hT : TabOk E.P tt) {t : TypeId} {ks : List KK} (h : keysOfT tt t = some ks) : ∃ fields : Array Field, E.P.underlying t = some (.struct fields) ∧ keysFChk E.P 0 fields.toList ks = true ∧ E.P.stoodInHeld t = false ∧ E.P.eqGuardType E.P.depth t = false := by
  unfold keysOfT at h
  cases hl : look tt t with
  | none => simp [hl] at h
  | some ti =>
    obtain ⟨i, d, hk⟩ := hT t ti hl
    have hkk := hk.keys
    simp only [hl] at h
    cases hks : ti.keys with
    | nil => simp [hks] at h
    | cons k r =>
      simp only [hks, Option.some.injEq] at h
      subst h
      rw [hks] at hkk
      simp only [keysChk, Bool.and_eq_true, Bool.not_eq_true'] at hkk
      obtain ⟨⟨h1, h2⟩, h3⟩ := hkk
      cases d <;> simp at h1
      exact ⟨_, hk.under, h1, h2, h3⟩
theorem keyA_sound (hT : TabOk E.P tt) (ks : List KK) (op : BinOp) (t t' : TypeId) (x y : Operand) (hk : keysOfT tt t = some ks) : (keyA s ks op x y).Sound E s (fun ρ => do pure (.value (← (do eqGuard op t x y (ρ x) (ρ y); binOp op t (ρ x) (ρ y) : Sem Value)))) := by
  obtain ⟨fields, hu, hf, hs1, hs2⟩ := keysOfT_ok hT hk
  unfold keyA
  cases hx : opnd s.tm x with
  | none => trivial
  | some p =>
    cases p with
    | agg as =>
      cases hy : opnd s.tm y with
      | none => trivial
      | some q =>
        cases q with
        | agg bs =>
          simp only
          cases hu1 : kvsOf ks as with
          | none => trivial
          | some u =>
            cases hv1 : kvsOf ks bs with
            | none => trivial
            | some v =>
              simp only
              have run : ∀ (a : Act) (w : World) (ι : Loc) (S : Nat → Prop), TmOk ι S s.tm E.nt s.nx w a.tmps → ∃ vs us : List Value, a.eval x = .agg vs.toArray ∧ a.eval y = .agg us.toArray ∧ (Op.equalIn 10000 t (.agg vs.toArray) (.agg us.toArray)).run E.P w = .ok (decide (u = v)) w := by
                intro a w ι S hTm
                obtain ⟨vs, e1, h1⟩ := (opnd_rel hTm hx).1.agg_inv
                obtain ⟨us, e2, h2⟩ := (opnd_rel hTm hy).1.agg_inv
                have ea := kvs_val h1 hu1
                have eb := kvs_val h2 hv1
                refine ⟨vs, us, e1, e2, ?_⟩
                have hfo : E.P.fieldsOf t = fields := by simp [Program.fieldsOf, hu]
                rw [run_equalIn_struct w 9999 t _ _ (by rw [hfo]; exact hu) hs1, hfo]
                exact keysFChk_run w 9998 vs us _ ks 0 u v hf (by rw [List.drop_zero, ← ea]; exact hu1) (by rw [List.drop_zero, ← eb]; exact hv1)
              cases op with
              | eql =>
                intro a w ι S hC hTm
                obtain ⟨vs, us, e1, e2, he⟩ := run a w ι S hTm
                refine Good.same hC (v := .bool (decide (u = v))) ?_ (.one (.cell (.rd (.val _ rfl)))) trivial
                simp only [e1, e2, Sem.run_bind, run_eqGuard_agg w .eql t x y _ _ hs2, Result.andThen_ok, run_eql_struct, he, Sem.run_pure]
              | neq =>
                intro a w ι S hC hTm
                obtain ⟨vs, us, e1, e2, he⟩ := run a w ι S hTm
                refine Good.same hC (v := .bool (decide (¬ u = v))) ?_ (.one (.cell (.rd (.val _ rfl)))) trivial
                simp only [e1, e2, Sem.run_bind, run_eqGuard_agg w .neq t x y _ _ hs2, Result.andThen_ok, run_neq_struct, he, Sem.run_pure]
                simp
              | _ => trivial
        | _ => trivial
    | _ => trivial
theorem unA_sound (op : UnOp) (x : Operand) : (unA s op x).Sound E s (fun ρ => do pure (.value (← Op.unary op (ρ x)))) := by
  unfold unA
  cases hx : opnd s.tm x with
  | none => trivial
  | some p =>
    cases p with
    | val u =>
      simp only
      refine evA_sound ?_
      cases u <;> cases op <;> first
        | trivial
        | (refine ⟨rfl, fun a w ι S hTm => ?_⟩
           rw [(opnd_rel hTm hx).1.val_inv.1]; rfl)
    | _ => trivial

theorem convA_sound (hT : TabOk E.P tt) (src dst : TypeId) (x : Operand) : (convA tt s src dst x).Sound E s (fun ρ => do pure (.value (← convert src dst (ρ x)))) := by
  unfold convA
  cases hsrc : look tt src with
  | none => trivial
  | some tsrc =>
  simp only
  cases hti : look tt dst with
  | none => trivial
  | some ti =>
    simp only
    cases hk : ti.int with
    | none => trivial
    | some k =>
      simp only
      obtain ⟨i, d, hok⟩ := hT dst ti hti
      cases hx : opnd s.tm x with
      | none => trivial
      | some p =>
        cases p with
        | val u =>
          cases u with
          | int k' n =>
            intro a w ι S hC hTm
            refine Good.same hC (v := .int k (k.wrap n)) ?_ (.one (.cell (.rd (.val _ rfl)))) trivial
            dsimp only
            rw [(opnd_rel hTm hx).1.val_inv.1]
            obtain ⟨_, d', hks⟩ := hT src tsrc hsrc
            have hd' := hks.under
            have hd := hok.int k hk
            subst hd
            refine exec_value ?_
            unfold convert
            simp only [Sem.run_bind, run_underlying hd', run_underlying hok.under, Result.andThen_ok]
            cases d' <;> rfl
          | _ => trivial
        | _ => trivial

/-! ### fields, elements -/
theorem fieldOf_ok (hT : TabOk E.P tt) {t f o sz : Nat} {ag : Bool} (h : fieldOf tt t f = some (o, sz, ag)) :
    ∃ fields fd i d, E.P.underlying t = some (.struct fields) ∧ fields[f]? = some fd ∧ fd.offset = o ∧ E.P.info? fd.type = some i ∧ i.size = sz ∧ E.P.underlying fd.type = some d ∧ descAgg d = ag := by
  unfold fieldOf at h
  cases hl : look tt t with
  | none => simp [hl] at h
  | some ti =>
    obtain ⟨i, d, hk⟩ := hT t ti hl
    simp only [hl] at h
    cases hkk : ti.kind with
    | struct fs =>
      simp only [hkk] at h
      have hkd := hk.kind
      rw [hkk] at hkd
      cases d <;> simp [kindChk] at hkd
      rename_i fields
      have key : ∀ (fl : List Field) (fs : List (Nat × Nat × Bool)) (f : Nat), fieldsChk E.P fl fs = true → fs[f]? = some (o, sz, ag) → ∃ fd, fl[f]? = some fd ∧ fieldChk E.P fd (o, sz, ag) = true := by
        intro fl
        induction fl with
        | nil => intro fs f h1 h2; cases fs with
          | nil => simp at h2
          | cons => simp [fieldsChk] at h1
        | cons x fl ih =>
          intro fs f h1 h2
          cases fs with
          | nil => simp at h2
          | cons y fs =>
            simp only [fieldsChk, Bool.and_eq_true] at h1
            cases f with
            | zero => simp at h2; subst h2; exact ⟨x, rfl, h1.1⟩
            | succ f => simpa using ih fs f h1.2 (by simpa using h2)
      obtain ⟨fd, hfd, hc⟩ := key fields.toList fs f hkd h
      simp only [fieldChk, Bool.and_eq_true] at hc
      obtain ⟨⟨h1, h2⟩, h3⟩ := hc
      cases hi : E.P.info? fd.type with
      | none => simp [hi] at h2
      | some i' =>
        cases hd : E.P.underlying fd.type with
        | none => simp [hd] at h3
        | some d' =>
          simp only [hi] at h2
          simp only [hd] at h3
          exact ⟨fields, fd, i', d', hk.under, by simpa using hfd, Nat.eq_of_beq_eq_true h1, hi, Nat.eq_of_beq_eq_true h2, hd, by simpa using h3⟩
    | _ => simp [hkk] at h

theorem fieldAddrA_sound (hT : TabOk E.P tt) (t : TypeId) (x : Operand) (f : Nat) : (fieldAddrA tt s t x f).Sound E s (fun ρ => do pure (.value (← Instr.fieldAt t (ρ x) f))) := by
  unfold fieldAddrA
  cases hf : fieldOf tt t f with
  | none => trivial
  | some p =>
    obtain ⟨o, sz, ag⟩ := p
    simp only
    obtain ⟨fields, fd, i, d, hu, hfd, hoff, hi, hsz, _, _⟩ := fieldOf_ok hT hf
    cases hz : Nat.beq sz 0 with
    | true => trivial
    | false =>
      simp only [cond_false]
      have hsz0 : ¬ sz = 0 := fun e => by subst e; simp at hz
      cases hx : opnd s.tm x with
      | none => trivial
      | some p =>
        have run : ∀ (w : World) (b off : Nat), (Instr.fieldAt t (.pointer (some ⟨b, off, none⟩)) f).run E.P w = .ok (.pointer (some ⟨b, off + o, none⟩)) w := by
          intro w b off
          simp [Instr.fieldAt, run_underlying hu, hfd, Instr.sureAddr, fieldPlace, Go.sizeOf, typeInfo, hi, hsz, hsz0, hoff, Addr.add_none]
        cases p with
        | pt id row off =>
          intro a w ι S hC hTm
          have h := opnd_rel hTm hx
          obtain ⟨g, c, s', hg, e⟩ := h.1.pt_inv
          refine Good.same hC (v := .pointer (some ⟨g, row * s' + (off + o), none⟩)) ?_ (.one (.cell (.pt id row (off + o) g c s' hg))) h.2
          dsimp only
          rw [e, ← Nat.add_assoc]
          exact exec_value (run w _ _)
        | rp cs =>
          simp only [fieldAddrPA]
          cases hb : Nat.ble o cs.length with
          | false => trivial
          | true =>
            simp only [cond_true]
            intro a w ι S hC hTm
            have h := opnd_rel hTm hx
            obtain ⟨b, off, vs, e, hS, hR, hc⟩ := h.1.rp_inv
            have hR' := hR.drop o
            refine Good.same hC (v := .pointer (some ⟨b, off + o, none⟩)) ?_ (.one (.cell (.rp (cs.drop o) b (off + o) hS (vs.drop o) hR'.length (fun i v hv => ?_) (fun i v x hv hx => hR'.at hv hx)))) trivial
            · dsimp only
              rw [e]
              exact exec_value (run w _ _)
            · rw [List.getElem?_drop] at hv
              have := hc _ v hv
              rwa [← Nat.add_assoc] at this
        | _ => trivial

theorem fieldA_sound (hT : TabOk E.P tt) (t : TypeId) (x : Operand) (f : Nat) : (fieldA tt s t x f).Sound E s (fun ρ => do pure (.value (← Instr.field t (ρ x) f))) := by
  unfold fieldA
  cases hf : fieldOf tt t f with
  | none => trivial
  | some p =>
    obtain ⟨o, sz, ag⟩ := p
    simp only
    obtain ⟨fields, fd, i, d, hu, hfd, hoff, hi, hsz, hud, hag⟩ := fieldOf_ok hT hf
    cases hx : opnd s.tm x with
    | none => trivial
    | some p =>
      cases p with
      | agg cs =>
        simp only
        cases hl : loadA ag sz cs o with
        | none => trivial
        | some av =>
          intro a w ι S hC hTm
          have h := opnd_rel hTm hx
          obtain ⟨vs, e, hR⟩ := h.1.agg_inv
          have hia : (isAgg fd.type).run E.P w = .ok ag w := by rw [← hag]; exact descAgg_isAgg hud w
          have hso : (Go.sizeOf fd.type).run E.P w = .ok sz w := by simp [Go.sizeOf, typeInfo, hi, hsz]
          have run : (Instr.field t (.agg vs.toArray) f).run E.P w = (part fd.type vs.toArray o).run E.P w := by
            simp [Instr.field, run_underlying hu, hfd, asAgg, hoff]
          have hp : ∃ v, (part fd.type vs.toArray o).run E.P w = .ok v w ∧ VRel w S ι v av ∧ av.uses (· < s.nx) := by
            cases ag with
            | false =>
              simp only [loadA] at hl
              have hlt : o < vs.length := by rw [hR.length]; exact (List.getElem?_eq_some_iff.1 hl).1
              have hv := List.getElem?_eq_getElem hlt
              have hrel := hR.at hv hl
              refine ⟨vs[o], ?_, .one (.cell hrel), cell_uses hrel.not_agg.1 hrel.not_agg.2 fun id hid => h.2 av (List.mem_of_getElem? hl) id hid⟩
              unfold part
              simp only [Sem.run_bind, hia, Result.andThen_ok, Bool.false_eq_true, if_false]
              simp [hv]
            | true =>
              simp only [loadA, forceL_eq] at hl
              cases hb : Nat.ble (o + sz) cs.length with
              | false => simp [hb] at hl
              | true =>
                simp [hb] at hl
                subst hl
                refine ⟨.agg ((vs.drop o).take sz).toArray, ?_, .one (.agg _ _ ((hR.drop o).take sz)), fun y hy id hid => h.2 y (List.mem_of_mem_drop (List.mem_of_mem_take hy)) id hid⟩
                unfold part
                simp only [Sem.run_bind, hia, Result.andThen_ok, if_true, hso, Sem.run_pure]
                congr 2
                simp
          obtain ⟨v, hr, hv, hu'⟩ := hp
          refine Good.same hC (v := v) ?_ hv hu'
          dsimp only
          rw [e]
          exact exec_value (run.trans hr)
      | _ => trivial

end Go.Am
