/-
  THE READING IS TRUE, operation by operation: slice literals, append; all operations.
-/
import Derived.Test.YtdnanpokaanhdaaDoorAm5
import Derived.Test.YtdnanpokaanhdaaDoorAmM
import Derived.Test.YtdnanpokaanhdaaDoorAmI
import Derived.Lib.SliceRun
import Derived.Laws.IdiomStrings
namespace Go.Am
open Go.RowKit
set_option linter.unusedVariables false
set_option linter.unusedSimpArgs false

variable {E : Env} {s : St} {a : Act} {w : World} {ι : Loc} {S : Nat → Prop} {tt : Tab}

theorem chunks_length (sz : Nat) : ∀ (n : Nat) (cs : List AV), (chunks sz n cs).length = n
  | 0, _ => rfl
  | n + 1, cs => by simp [chunks, chunks_length sz n]
theorem chunks_row {sz : Nat} : ∀ (n : Nat) (cs : List AV), cs.length = n * sz → ∀ r ∈ chunks sz n cs, r.length = sz
  | 0, _, _, r, h => by simp [chunks] at h
  | n + 1, cs, hl, r, h => by
    rw [Nat.add_mul, Nat.one_mul] at hl
    simp only [chunks, List.mem_cons] at h
    rcases h with rfl | h
    · simp; omega
    · exact chunks_row n _ (by simp; omega) r h
theorem chunks_flatten {sz : Nat} : ∀ (n : Nat) (cs : List AV), cs.length = n * sz → (chunks sz n cs).flatten = cs
  | 0, cs, hl => by simp at hl; simp [chunks, hl]
  | n + 1, cs, hl => by
    rw [Nat.add_mul, Nat.one_mul] at hl
    simp only [chunks, List.flatten_cons]
    rw [chunks_flatten n _ (by simp; omega), List.take_append_drop]

theorem fillA_length {place : Nat → Option (Nat × Nat)} : ∀ (qs : List (Nat × AV)) (cs res : List AV), fillA place cs qs = some res → res.length = cs.length
  | [], cs, res, h => by simp [fillA] at h; subst h; rfl
  | (i, q) :: qs, cs, res, h => by
    simp only [fillA] at h
    cases hpl : place i with
    | none => simp [hpl] at h
    | some p =>
      obtain ⟨off, size⟩ := p
      simp only [hpl] at h
      cases hb : (Nat.beq q.cells.length size && Nat.ble (off + size) cs.length) with
      | false => simp [hb] at h
      | true =>
        rw [hb] at h
        simp only [cond_true] at h
        simp only [Bool.and_eq_true] at hb
        have h1 := Nat.eq_of_beq_eq_true hb.1
        have h2 := Nat.le_of_ble_eq_true hb.2
        rw [fillA_length qs _ res h]
        simp; omega

theorem buildSlice_new (hT : TabOk E.P tt) (t : TypeId) (n : Nat) (ps : Array (Nat × Operand)) {e : Nat} {te : TI} (he : elemOfA tt t = some (e, te)) {as : List (Nat × AV)} (hps : partsA s.tm ps.toList = some as) {cs : List AV} (hf : fillA (fun i => some (i * te.size, te.size)) ((List.replicate n (zeroA te)).flatten) as = some cs)
    (hpos : 0 < te.size) (hle : n * te.size ≤ 65536) {o : AObj} (hno : ∀ e' sz' rows', o = .list e' sz' rows' → n ≤ rows'.length) (huo : (∀ c ∈ cs, ∀ id, c.idOf = some id → id < s.nx) → o.uses (· < s.nx + 1))
    (hob : ∀ (w : World) (ι : Loc) (S : Nat → Prop) (g : Nat) (cells : List Value), ι s.nx = some (.blk g n te.size) → w.heap[g]? = some (.cells cells.toArray e (0, 0)) → cells.length = n * te.size → cs.length = n * te.size → (∀ (i : Nat) (v : Value) (a : AV), cells[i]? = some v → cs[i]? = some a → CRel w S ι v a) → ObjOk w S ι s.nx o) :
    (SR.newL0 n o).Sound E s (fun ρ => do pure (.value (← Instr.buildSlice t n (ps.map fun (i, x) => (i, ρ x))))) := by
          obtain ⟨hu, it, dt, hk⟩ := elemOfA_ok hT he
          intro a w ι S hC hTm
          obtain ⟨z, hz, hzc⟩ := hk.zero
          have hzs : z.cells.size = te.size := by rw [← hk.zlen, ← hzc]; simp
          have hzl : (zeroA te).length = te.size := by simp [zeroA, hk.zlen]
          have hpr := partsA_rel hTm ps.toList as hps
          have h0 : All2 (CRel w S ι) (madeCells z.cells (n * te.size)).toList ((List.replicate n (zeroA te)).flatten) := by
            refine All2.of ?_ fun i v av hv ha => ?_
            · simp [size_madeCells, zeroA, hk.zlen]
            · have hv' := made_flat z.cells n i v (by rw [hzs]; exact hv) (by omega)
              rw [flat_replicate _ _ _ (by rw [hzl, ← hzs]; exact hv'.1), hzl] at ha
              rw [hzs, hzc] at hv'
              simp only [zeroA, List.getElem?_map, hv'.2, Option.map_some, Option.some.injEq] at ha
              subst ha
              exact .rd (.val _ (hk.zone _ (List.mem_of_getElem? hv'.2)))
          obtain ⟨cells, hfill, hrel⟩ := fill_rel (R := CRel w S ι) (fun i p hp => hp) _ as hpr.1 _ _ cs h0 hf
          have hcl : cs.length = n * te.size := by rw [fillA_length _ _ _ hf, flatten_length (s := te.size) _ (fun r hr => by rw [List.eq_of_mem_replicate hr]; exact hzl), List.length_replicate]
          have hrun : (Instr.buildSlice t n (ps.map fun (x : Nat × Operand) => (x.1, a.eval x.2))).run E.P w = .ok (.slice (some ⟨w.heap.size, 0, none⟩) n n) (w.alloc (.cells cells e)) := by
            have hs := hk.sizeOf w
            have e1 : (ps.map fun (x : Nat × Operand) => (x.1, a.eval x.2)).toList = ps.toList.map fun x => (x.1, a.eval x.2) := by simp
            have hno : ¬ (n * te.size > 16777216) := by omega
            unfold Instr.buildSlice
            simp only [Sem.run_bind, run_underlying hu, Result.andThen_ok, hs]
            simp only [show (2 : Nat) ^ 24 = 16777216 from rfl, hno, if_false, Sem.run_pure, Result.andThen_ok]
            by_cases hn : n * te.size = 0
            · have hn0 : n = 0 := by
                rcases Nat.mul_eq_zero.1 hn with h | h <;> omega
              subst hn0
              have hm0 : madeCells z.cells (0 * te.size) = #[] := by simp [madeCells]
              rw [hm0] at hfill
              simp only [hn, if_true, Sem.run_bind, Sem.run_pure, Result.andThen_ok]
              have : (Array.range 0).map (fun x => (#[] : Array Value)[x % (#[] : Array Value).size]!) = #[] := by simp
              rw [this, e1, hfill]
              simp [run_newRow]
            · have hzero : (zeroValue e).run E.P w = .ok z w := by simp [zeroValue, typeInfo, hk.info, hz]
              simp only [hn, if_false, Sem.run_bind, hzero, Result.andThen_ok, Sem.run_pure]
              have : (Array.range (n * te.size)).map (fun x => z.cells[x % z.cells.size]!) = madeCells z.cells (n * te.size) := rfl
              rw [this, e1, hfill]
              simp [run_newRow]
          have hcells : cells = cells.toList.toArray := by simp
          rw [hcells] at hrun
          have hL : Later w (w.alloc (.cells cells.toList.toArray e)) S S ι (put ι s.nx (some (.blk w.heap.size n te.size))) (· < s.nx) :=
            ⟨fun b hb => ⟨hb, Below.heap_alloc _ _ _ (hC.lt b hb)⟩, fun id p hid h => by rw [put_id _ _ (by first | omega | (dsimp only; omega) | (dsimp only at *; omega))]; exact h⟩
          have hcu : ∀ c ∈ cs, ∀ id, c.idOf = some id → id < s.nx := fillA_notup as _ cs hf (fun c => ∀ id, c.idOf = some id → id < s.nx) (fun c hc => by
            obtain ⟨r, hr, hcr⟩ := List.mem_flatten.1 hc
            rw [List.eq_of_mem_replicate hr] at hcr
            exact zeros_uses c hcr) hpr.2
          have ho : ObjOk (w.alloc (.cells cells.toList.toArray e)) S (put ι s.nx (some (.blk w.heap.size n te.size))) s.nx o :=
            hob _ _ S w.heap.size cells.toList (put_same _ _ _) (heap_alloc_new w _) (by rw [hrel.length, hcl]) hcl fun i v av hv ha => (hrel.at hv ha).mono hL (hcu av (List.mem_of_getElem? ha))
          have := hC.alloc ho (huo hcu)
          exact ⟨_, _, _, S, exec_value hrun, this.1, this.2, .one (.cell (.own s.nx n w.heap.size n te.size (put_same _ _ _) (Nat.le_refl _) (by simp only [maxLen]; have := Nat.le_mul_of_pos_right n hpos; omega))), fun g c z h => by rw [put_same] at h; cases h; exact Nat.le_refl _, hno⟩
theorem buildSliceA_sound (hT : TabOk E.P tt) (t : TypeId) (n : Nat) (ps : Array (Nat × Operand)) : (buildSliceA tt s t n ps.toList).Sound E s (fun ρ => do pure (.value (← Instr.buildSlice t n (ps.map fun (i, x) => (i, ρ x))))) := by
  unfold buildSliceA
  cases he : elemOfA tt t with
  | none => trivial
  | some et =>
    obtain ⟨e, te⟩ := et
    simp only
    cases hps : partsA s.tm ps.toList with
    | none => trivial
    | some as =>
      simp only
      cases hf : fillA (fun i => some (i * te.size, te.size)) ((List.replicate n (zeroA te)).flatten) as with
      | none => trivial
      | some cs =>
        simp only
        cases hb : (cs.all plainA && Nat.blt 0 te.size && Nat.ble (n * te.size) 65536) with
        | true =>
          simp only [cond_true, szOf_eq, forceLL_eq]
          simp only [Bool.and_eq_true] at hb
          have hpl := List.all_eq_true.1 hb.1.1
          have hpos : 0 < te.size := Nat.le_of_ble_eq_true hb.1.2
          have hle := Nat.le_of_ble_eq_true hb.2
          refine buildSlice_new hT t n ps he hps hf hpos hle (fun e' sz' rows' h => by cases h; rw [chunks_length]; exact Nat.le_refl _) (fun _ => trivial) fun w ι S g cells h1 h2 h3 h4 h5 => ?_
          refine .list g n e te.size _ cells h1 hpos (chunks_row n cs h4) (by rw [chunks_length]; exact Nat.le_refl _) (by simp only [maxLen]; have := Nat.le_mul_of_pos_right n hpos; omega) h2 h3 (fun i v av hv ha => ?_)
          rw [chunks_flatten n cs h4] at ha
          exact plainA_rd (h5 i v av hv ha) (by simpa using hpl av (List.mem_of_getElem? ha))
        | false =>
          simp only [cond_false]
          cases hb : (cs.all cellN && Nat.blt 0 te.size && Nat.ble (n * te.size) 65536) with
          | false => trivial
          | true =>
            simp only [cond_true, szOf_eq, forceLL_eq]
            simp only [Bool.and_eq_true] at hb
            have hpos : 0 < te.size := Nat.le_of_ble_eq_true hb.1.2
            have hle := Nat.le_of_ble_eq_true hb.2
            have hcl : cs.length = n * te.size := by
              obtain ⟨hu, it, dt, hk⟩ := elemOfA_ok hT he
              rw [fillA_length _ _ _ hf, flatten_length (s := te.size) _ (fun r hr => by rw [List.eq_of_mem_replicate hr]; simp [zeroA, hk.zlen]), List.length_replicate]
            refine buildSlice_new hT t n ps he hps hf hpos hle (fun e' sz' rows' h => by cases h) (fun hcu _ c hc id hid => by
              rw [chunks_flatten n cs hcl] at hc
              exact Nat.lt_succ_of_lt (hcu c hc id hid)) fun w ι S g cells h1 h2 h3 h4 h5 => ?_
            refine .nest g n e te.size _ cells h1 hpos (chunks_row n cs h4) (by rw [chunks_length]; exact Nat.le_refl _) (by simp only [maxLen]; have := Nat.le_mul_of_pos_right n hpos; omega) h2 h3 (fun i v av hv ha => ?_)
            rw [chunks_flatten n cs h4] at ha
            exact .inl ⟨rfl, h5 i v av hv ha⟩

/-! ### append -/
theorem look_killH (ks : List Nat) (i : Nat) : ∀ (hp : List (Nat × AObj)), look (killH ks hp) i = (look hp i).map (killO ks)
  | [] => rfl
  | (k, o) :: r => by
    simp only [killH, look_cons]
    split
    · rfl
    · exact look_killH ks i r
theorem look_killT (ks : List Nat) (t : Nat) : ∀ (tm : List (Nat × AV)), look (killT ks tm) t = (look tm t).map (killV ks)
  | [] => rfl
  | (k, v) :: r => by
    simp only [killT, look_cons]
    split
    · rfl
    · exact look_killT ks t r

theorem killC_rel {w' : World} {S' : Nat → Prop} {ι' : Loc} {ks : List Nat} {K : Nat → Prop} (h' : Later w w' S S' ι ι' K) {v : Value} {c : AV} (hK : ∀ i, c.idOf = some i → memB i ks = false → K i) (h : CRel w S ι v c) : CRel w' S' ι' v (killC ks c) := by
  have keep : (∀ i, c.idOf = some i → memB i ks = false) → CRel w' S' ι' v c := fun hn => h.mono h' fun i hi => hK i hi (hn i hi)
  cases c with
  | own i len =>
    simp only [killC]
    cases hb : memB i ks with
    | true => exact .junk _ h.one
    | false => exact keep fun j hj => by simp [AV.idOf] at hj; subst hj; exact hb
  | pt i r o =>
    simp only [killC]
    cases hb : memB i ks with
    | true => exact .junk _ h.one
    | false => exact keep fun j hj => by simp [AV.idOf] at hj; subst hj; exact hb
  | sb i r o l =>
    simp only [killC]
    cases hb : memB i ks with
    | true => exact .junk _ h.one
    | false => exact keep fun j hj => by simp [AV.idOf] at hj; subst hj; exact hb
  | mp i =>
    simp only [killC]
    cases hb : memB i ks with
    | true => exact .junk _ h.one
    | false => exact keep fun j hj => by simp [AV.idOf] at hj; subst hj; exact hb
  | clo i =>
    simp only [killC]
    cases hb : memB i ks with
    | true => exact .junk _ h.one
    | false => exact keep fun j hj => by simp [AV.idOf] at hj; subst hj; exact hb
  | _ => exact keep fun j hj => by simp [AV.idOf] at hj
theorem killC_id {ks : List Nat} {c : AV} {i : Nat} (h : (killC ks c).idOf = some i) : c.idOf = some i := by
  cases c with
  | own j len => simp only [killC] at h; cases hb : memB j ks <;> simp [hb, AV.idOf] at h; simp [AV.idOf, h]
  | pt j r o => simp only [killC] at h; cases hb : memB j ks <;> simp [hb, AV.idOf] at h; simp [AV.idOf, h]
  | sb j r o l => simp only [killC] at h; cases hb : memB j ks <;> simp [hb, AV.idOf] at h; simp [AV.idOf, h]
  | mp j => simp only [killC] at h; cases hb : memB j ks <;> simp [hb, AV.idOf] at h; simp [AV.idOf, h]
  | clo j => simp only [killC] at h; cases hb : memB j ks <;> simp [hb, AV.idOf] at h; simp [AV.idOf, h]
  | _ => exact h

theorem killV_rel {w' : World} {S' : Nat → Prop} {ι' : Loc} {ks : List Nat} {nx : Nat} (h' : Later w w' S S' ι ι' (fun i => i < nx ∧ memB i ks = false)) {v : Value} {a : AV} (hu : a.uses (· < nx)) (h : VRel w S ι v a) : VRel w' S' ι' v (killV ks a) ∧ (killV ks a).uses (· < nx) := by
  have cell : ∀ (hc : CRel w S ι v a), killV ks a = killC ks a → VRel w' S' ι' v (killV ks a) ∧ (killV ks a).uses (· < nx) := by
    intro hc e
    rw [e]
    have hr := killC_rel (ks := ks) h' (fun i hi hn => ⟨AV.uses_id hu i hi, hn⟩) hc
    exact ⟨.one (.cell hr), cell_uses hr.not_agg.1 hr.not_agg.2 fun i hi => AV.uses_id hu i (killC_id hi)⟩
  cases h with
  | one h => cases h with
    | cell hc =>
      refine cell hc ?_
      cases a with
      | agg cs => exact absurd rfl (hc.not_agg.1 _)
      | tup cs => exact absurd rfl (hc.not_agg.2 _)
      | _ => rfl
    | agg vs cs hc =>
      refine ⟨.one (.agg vs _ ?_), ?_⟩
      · refine All2.of (by simp [hc.length]) fun i v c hv hcc => ?_
        simp only [List.getElem?_map, Option.map_eq_some_iff] at hcc
        obtain ⟨c0, h0, rfl⟩ := hcc
        exact killC_rel h' (fun i hi hn => ⟨hu c0 (List.mem_of_getElem? h0) i hi, hn⟩) (hc.at hv h0)
      · intro c hc' i hi
        simp only [List.mem_map] at hc'
        obtain ⟨c0, h0, rfl⟩ := hc'
        exact hu c0 h0 i (killC_id hi)
  | tup vs cs hc => exact ⟨.any _, trivial⟩
  | any v => exact ⟨.any _, trivial⟩

theorem TmOk.kill {w' : World} {S' : Nat → Prop} {ι' : Loc} {ks : List Nat} {nx nt : Nat} {tm : List (Nat × AV)} {tmps : Array Value} (h : TmOk ι S tm nt nx w tmps) (h' : Later w w' S S' ι ι' (fun i => i < nx ∧ memB i ks = false)) : TmOk ι' S' (killT ks tm) nt nx w' tmps := by
  refine ⟨fun t v hv => ?_⟩
  rw [look_killT] at hv
  simp only [Option.map_eq_some_iff] at hv
  obtain ⟨v0, h0, rfl⟩ := hv
  obtain ⟨h1, h2, h3⟩ := h.tm t v0 h0
  have := killV_rel (ks := ks) h' h2 h3
  exact ⟨h1, this.2, this.1⟩

theorem ObjOk.kill {w' : World} {S' : Nat → Prop} {ι' : Loc} {ks : List Nat} {nx i : Nat} {o : AObj} (h' : Later w w' S S' ι ι' (fun i => i < nx ∧ memB i ks = false)) (hi : i < nx) (hk : memB i ks = false) (hu : o.uses (· < nx))
    (hd : o.isNest = true → ∀ (k : Key) p, k.id = i → ι k = some p → ι' k = some p) (hw' : ∀ (k : Key) g c s, k.id = i → ι k = some (.blk g c s) → w'.heap[g]? = w.heap[g]?) (h : ObjOk w S ι i o) : (killO ks o).uses (· < nx) ∧ ObjOk w' S' ι' i (killO ks o) := by
  refine ⟨?_, ?_⟩
  · cases o with
    | box cs =>
      intro c hc j hj
      simp only [List.mem_map] at hc
      obtain ⟨c0, hc0, rfl⟩ := hc
      exact hu c0 hc0 j (killC_id hj)
    | list => trivial
    | map => trivial
    | ranged => trivial
    | clo f fs cs =>
      refine ⟨fun c hc j hj => ?_, fun c hc j hj => ?_⟩
      · simp only [List.mem_map] at hc
        obtain ⟨c0, hc0, rfl⟩ := hc
        exact hu.1 c0 hc0 j (killC_id hj)
      · simp only [List.mem_map] at hc
        obtain ⟨c0, hc0, rfl⟩ := hc
        exact hu.2 c0 hc0 j (killC_id hj)
    | @nest b e s rows =>
      cases b with
      | true => intro h0; cases h0
      | false =>
        intro _ c hc j hj
        simp only [← List.map_flatten, List.mem_map] at hc
        obtain ⟨c0, hc0, rfl⟩ := hc
        exact hu rfl c0 hc0 j (killC_id hj)
  · cases h with
    | box g c s T cs vs h hs0 hw hc =>
      refine .box g c s T _ vs (h'.at_ _ _ ⟨hi, hk⟩ h) hs0 ((hw' _ g c s rfl h).trans hw) (All2.of (by simp [hc.length]) fun j v c hv hcc => ?_)
      simp only [List.getElem?_map, Option.map_eq_some_iff] at hcc
      obtain ⟨c0, h0c, rfl⟩ := hcc
      exact killC_rel h' (fun i hi hn => ⟨hu c0 (List.mem_of_getElem? h0c) i hi, hn⟩) (hc.at hv h0c)
    | nil e s h hs => exact .nil e s (h'.at_ _ _ ⟨hi, hk⟩ h) hs
    | map g clock kk rows es h hw he hb => exact .map g clock kk rows es (h'.at_ _ _ ⟨hi, hk⟩ h) ((hw' _ g 0 1 rfl h).trans hw) (he.mono fun _ _ h1 => h1.mono h'.rd) hb
    | ranged g gm clock ks cur left seen es h h2 hw hm hb hl hc =>
      exact .ranged g gm clock ks cur left seen es (hd rfl _ _ rfl h) (hd rfl _ _ rfl h2) ((hw' _ g 0 2 rfl h).trans hw) ((hw' _ gm 0 1 rfl h2).trans hm) hb (hl.mono fun _ _ he => he.mono h'.rd) fun r hr => let ⟨e, h1, h2, h3⟩ := hc r hr; ⟨e, h1, h2, h3.mono h'.rd⟩
    | clo f fs cs us vs h h1 h2 =>
      refine .clo f _ _ us vs (h'.at_ _ _ ⟨hi, hk⟩ h) (All2.of (by simp [h1.length]) fun j v c hv hcc => ?_) (All2.of (by simp [h2.length]) fun j v c hv hcc => ?_)
      · simp only [List.getElem?_map, Option.map_eq_some_iff] at hcc
        obtain ⟨c0, h0c, rfl⟩ := hcc
        exact killC_rel h' (fun i hi hn => ⟨hu.1 c0 (List.mem_of_getElem? h0c) i hi, hn⟩) (h1.at hv h0c)
      · simp only [List.getElem?_map, Option.map_eq_some_iff] at hcc
        obtain ⟨c0, h0c, rfl⟩ := hcc
        exact killC_rel h' (fun i hi hn => ⟨hu.2 c0 (List.mem_of_getElem? h0c) i hi, hn⟩) (h2.at hv h0c)
    | list g cap e s rows vs h hs hr hl hm hw hn hc => exact .list g cap e s rows vs (h'.at_ _ _ ⟨hi, hk⟩ h) hs hr hl hm ((hw' _ g cap s rfl h).trans hw) hn fun j v c hv ha => (hc j v c hv ha).mono h'.rd
    | @nest0 b e s h hs => cases b <;> exact .nest0 e s (h'.at_ _ _ ⟨hi, hk⟩ h) hs
    | @nest b g cap e s rows vs h hs hr hl hm hw hn hc =>
     cases b with
     | true => exact .nest g cap e s rows vs (h'.at_ _ _ ⟨hi, hk⟩ h) hs hr hl hm ((hw' _ g cap s rfl h).trans hw) hn fun j v c hv ha => (hc j v c hv ha).elim (fun h => by cases h.1) fun hx => .inr (hx.mono (id := i) h'.rd (hd rfl) hw' rfl)
     | false =>
      refine .nest g cap e s _ vs (h'.at_ _ _ ⟨hi, hk⟩ h) hs (fun r hr' => ?_) (by simpa using hl) hm ((hw' _ g cap s rfl h).trans hw) hn fun j v c hv ha => ?_
      · simp only [List.mem_map] at hr'
        obtain ⟨r0, h0, rfl⟩ := hr'
        simpa using hr r0 h0
      · rw [← List.map_flatten, List.getElem?_map, Option.map_eq_some_iff] at ha
        obtain ⟨c0, h0c, rfl⟩ := ha
        rcases hc j v c0 hv h0c with ⟨_, hx⟩ | hx
        · exact .inl ⟨rfl, killC_rel h' (fun i hi hn => ⟨hu rfl c0 (List.mem_of_getElem? h0c) i hi, hn⟩) hx⟩
        · have hx' := hx.mono (id := i) h'.rd (hd rfl) hw' rfl
          have : killC ks c0 = c0 := by
            cases hx with
            | rd hx => cases hx <;> rfl
            | _ => rfl
          rw [this]; exact .inr hx'

/-- An object of one's own is written beyond what others see of it: all other names of it are given up. -/
theorem Core.kill {hp : List (Nat × AObj)} {nx : Nat} (hC : Core E ι S hp nx w) {id : Nat} {o o' : AObj} {w' : World} {p : Pl} (ho : look hp id = some o)
    (hos : w'.os = w.os) (htape : w'.tape = w.tape) (hout : w'.output = w.output) (hsize : w.heap.size ≤ w'.heap.size)
    (hblk : ∀ k, k < w.heap.size → (∀ c s, ι id ≠ some (.blk k c s)) → w'.heap[k]? = w.heap[k]?)
    (hp' : ∀ g c s, p = .blk g c s → g < w'.heap.size ∧ ((∃ c s, ι id = some (.blk g c s)) ∨ w.heap.size ≤ g))
    (ho' : ObjOk w' S (put ι id (some p)) id o') (hu : o'.uses (· < nx)) (hfix : E.fix id = none) :
    Core E (put ι id (some p)) S ((id, o') :: killH [id] hp) nx w' ∧ Later w w' S S ι (put ι id (some p)) (fun i => i < nx ∧ memB i [id] = false) := by
  have hid := (hC.obj id o ho).1
  have hS : ∀ b, S b → w'.heap[b]? = w.heap[b]? := fun b hb => hblk b (hC.lt b hb) fun c s e => hC.dis b hb ⟨id, c, s, e⟩
  have hm1 : ∀ i, i ≠ id → memB i [id] = false := fun i hi => by simp only [memB]; cases hb : Nat.beq i id with
    | true => exact absurd (Nat.eq_of_beq_eq_true hb) hi
    | false => rfl
  have hm2 : ∀ i, memB i [id] = false → i ≠ id := fun i hi e => by subst e; simp [memB] at hi
  have hL : Later w w' S S ι (put ι id (some p)) (fun i => i < nx ∧ memB i [id] = false) := ⟨fun b hb => ⟨hb, hS b hb⟩, fun i q hi h => by rw [put_id _ _ (hm2 _ hi.2)]; exact h⟩
  refine ⟨⟨?_, hC.sub, fun b hb => Nat.lt_of_lt_of_le (hC.lt b hb) hsize, ?_, ?_, ?_, ?_, ?_, fun i q h => by rw [put_id _ _ (fun e => by have e' : i = id := e; subst e'; rw [hfix] at h; cases h)]; exact hC.stay i q h, hC.fxs⟩, hL⟩
  · refine hC.frame.trans (D' := fun k => ∃ c s, ι id = some (.blk k c s)) ⟨hos, htape, hout, hsize, fun k hk hn => hblk k hk fun c s e => hn ⟨c, s, e⟩⟩ ?_
    rintro g hg ⟨c, s, e⟩
    rcases (hC.own id g c s e).2 with h | h
    · omega
    · exact h
  · rintro b hb ⟨i, c, s, e⟩
    by_cases hi : i = id
    · subst hi
      rw [put_same] at e
      simp at e
      rcases (hp' b c s e).2 with ⟨c', s', h⟩ | h
      · exact hC.dis b hb ⟨_, c', s', h⟩
      · have := hC.lt b hb; omega
    · rw [put_ne _ _ hi] at e
      exact hC.dis b hb ⟨i, c, s, e⟩
  · intro i g c s e
    by_cases hi : i = id
    · subst hi
      rw [put_same] at e
      simp at e
      have := hp' g c s e
      refine ⟨this.1, ?_⟩
      rcases this.2 with ⟨c', s', h⟩ | h
      · exact (hC.own _ g c' s' h).2
      · exact .inl (Nat.le_trans hC.frame.size h)
    · rw [put_ne _ _ hi] at e
      have := hC.own i g c s e
      exact ⟨Nat.lt_of_lt_of_le this.1 hsize, this.2⟩
  · intro i j g c d s r ei ej
    by_cases hi : i = id <;> by_cases hj : j = id
    · exact hi.trans hj.symm
    · subst hi
      rw [put_same] at ei
      rw [put_ne _ _ hj] at ej
      simp at ei
      rcases (hp' g c s ei).2 with ⟨c', s', h⟩ | h
      · exact hC.inj _ _ g _ _ _ _ h ej
      · have := (hC.own j g _ _ ej).1; omega
    · subst hj
      rw [put_same] at ej
      rw [put_ne _ _ hi] at ei
      simp at ej
      rcases (hp' g d r ej).2 with ⟨c', s', h⟩ | h
      · exact hC.inj _ _ g _ _ _ _ ei h
      · have := (hC.own i g _ _ ei).1; omega
    · rw [put_ne _ _ hi] at ei
      rw [put_ne _ _ hj] at ej
      exact hC.inj i j g _ _ _ _ ei ej
  · intro i hi
    rw [put_id _ _ (by first | omega | (dsimp only; omega) | (dsimp only at *; omega))]
    exact hC.new i hi
  · intro i oi h
    rw [look_cons] at h
    split at h
    · rename_i e
      subst e
      simp at h
      subst h
      exact ⟨hid, hu, ho'⟩
    · rename_i hne
      rw [look_killH] at h
      simp only [Option.map_eq_some_iff] at h
      obtain ⟨o0, h0, rfl⟩ := h
      obtain ⟨h1, h2, h3⟩ := hC.obj i o0 h0
      have hne' : i ≠ id := fun e => hne e.symm
      have hw' : ∀ (k : Key) g c s, k.id = i → ι k = some (.blk g c s) → w'.heap[g]? = w.heap[g]? := fun k g c s hk e => hblk g (hC.own k g c s e).1 fun c' s' e' => hne' (by have := hC.inj k id g _ _ _ _ e e'; rw [← hk, this])
      have := h3.kill hL h1 (hm1 i hne') h2 (fun _ k q hk hq => by rw [put_id _ _ (by rw [hk]; exact hne')]; exact hq) hw'
      exact ⟨h1, this.1, this.2⟩

/-- What a slice shows can be read. -/
theorem rows_read {nt : Nat} (hC : Core E ι S s.hp s.nx w) (hTm : TmOk ι S s.tm nt s.nx w a.tmps) {x : Operand} {b : AV} (hx : opnd s.tm x = some b) {ys : List (List AV)} {p : Prop} (hr : rowsA s.hp b = some (ys, p)) (hp : p) {sz : Nat} (hsz : ∀ r ∈ ys, r.length = sz) (hpos : 0 < sz) :
    ∃ ad cap news, a.eval x = .slice ad ys.length cap ∧ All2 (Rd w S) news ys.flatten ∧ (ad = none → ys = []) ∧ ∀ d, ad = some d → ∀ (j : Nat) (v : Value), news[j]? = some v → w.cell? (d.add j) = some v := by
  have hv := (opnd_rel hTm hx).1
  cases b with
  | lst rows =>
    simp [rowsA] at hr
    obtain ⟨rfl, _⟩ := hr
    have h := hv.lst_inv
    generalize a.eval x = v0 at h
    cases h with
    | nil ad cap hc => exact ⟨ad, cap, [], rfl, trivial, fun _ => rfl, fun d _ j v hj => by simp at hj⟩
    | lst _ b off cap s' cells g0 g1 g2 g3 g4 g5 g6 g7 =>
      refine ⟨_, cap, cells, rfl, All2.of (by rw [g5, flatten_length _ g4]) g7, fun e => (by cases e), fun d e j v hj => ?_⟩
      cases e
      rw [Addr.add_none]
      exact g6 j v hj
  | own id len =>
    simp only [rowsA] at hr
    cases ho : look s.hp id with
    | none => simp [ho] at hr
    | some o =>
      cases o with
      | box cs => simp [ho] at hr
      | map => simp [ho] at hr
      | ranged => simp [ho] at hr
      | clo => simp [ho] at hr
      | nest e s' rows => simp [ho] at hr
      | list e s' rows =>
        simp [ho] at hr
        obtain ⟨rfl, hq⟩ := hr
        have hp := hq.2 hp
        have hl : (rows.take len).length = len := by simp; omega
        obtain ⟨_, _, hob⟩ := hC.obj id _ ho
        rcases hv.own_inv with ⟨g, cap, s2, hg, h1, h2, ev⟩ | ⟨hg, rfl, ev⟩
        · cases hob with
          | nil _ _ h' _ => rw [hg] at h'; cases h'
          | list g' cap' _ _ _ vs h' hs hr hle hm hw hn hc =>
            rw [hg] at h'; simp at h'; obtain ⟨rfl, rfl, rfl⟩ := h'
            have hmul : rows.length * s2 ≤ cap * s2 := Nat.mul_le_mul_right _ hle
            have hmul2 : len * s2 ≤ rows.length * s2 := Nat.mul_le_mul_right _ hp
            refine ⟨_, cap, vs.take (len * s2), by rw [hl]; exact ev, ?_, fun e => (by cases e), fun d e j v hj => ?_⟩
            · rw [flatten_take _ _ hr]
              refine All2.of ?_ fun i v av hv' ha => ?_
              · simp only [List.length_take, flatten_length _ hr, hn]; omega
              · rw [List.getElem?_take] at hv' ha
                split at hv'
                · rename_i hlt
                  rw [if_pos hlt] at ha
                  exact hc i v av hv' ha
                · cases hv'
            · cases e
              rw [Addr.add_none, Nat.zero_add]
              rw [List.getElem?_take] at hj
              split at hj
              · exact cells_of_block hw j v hj
              · cases hj
        · exact ⟨none, 0, [], by simpa using ev, by simp [All2], fun _ => (by simp), fun d e => by cases e⟩
  | val u =>
    simp only [rowsA] at hr
    unfold valRows at hr
    split at hr
    · rename_i ad cap
      simp at hr
      obtain ⟨rfl, _⟩ := hr
      exact ⟨ad, cap, [], hv.val_inv.1, trivial, fun _ => rfl, fun d _ j v hj => by simp at hj⟩
    · cases hr
  | _ => simp [rowsA] at hr

theorem All2.oneRd {vs : List Value} {cs : List AV} (h : All2 (Rd w S) vs cs) : ∀ v ∈ vs, v.oneCell' = true := by
  intro v hv
  obtain ⟨i, hi, e⟩ := List.mem_iff_getElem.1 hv
  have h1 : vs[i]? = some v := by rw [List.getElem?_eq_getElem hi, e]
  have hi' : i < cs.length := by rw [← h.length]; exact hi
  exact (h.at h1 (List.getElem?_eq_getElem hi')).one

theorem app_at {α β : Type} {R : α → β → Prop} {vs u rest : List α} {fl b : List β} {n : Nat} (hc : ∀ (i : Nat) (v : α) (a : β), vs[i]? = some v → fl[i]? = some a → R v a) (hu : All2 R u b) (h1 : n ≤ vs.length) (h2 : n ≤ fl.length) :
    ∀ (j : Nat) (y : α) (z : β), (vs.take n ++ u ++ rest)[j]? = some y → (fl.take n ++ b)[j]? = some z → R y z := by
  intro j y z hy hz
  have hl := hu.length
  have l1 : (vs.take n).length = n := by simp; omega
  have l2 : (fl.take n).length = n := by simp; omega
  rw [List.append_assoc] at hy
  by_cases hj : j < n
  · rw [List.getElem?_append_left (by omega), List.getElem?_take, if_pos hj] at hy hz
    exact hc j y z hy hz
  · rw [List.getElem?_append_right (by omega)] at hy hz
    rw [l1] at hy
    rw [l2] at hz
    have hj2 : j - n < b.length := (List.getElem?_eq_some_iff.1 hz).1
    rw [List.getElem?_append_left (by omega)] at hy
    exact hu.at hy hz

theorem run_append_none {P : Program} {t ty e : TypeId} {i : TypeInfo} (ht : P.underlying t = some (.slice e)) (hi : P.info? e = some i) (ad : Option Addr) (n c c' : Nat) (h : n ≤ c) :
    (Builtin.append_ #[t, t] ty #[.slice ad n c, .slice none 0 c']).run P w = .ok (.slice ad n c) w := by
  cases ad with
  | none => simp [Builtin.append_, run_underlying ht, sizeOf, typeInfo, hi, Builtin.lenOf, h, Builtin.firstCells]
  | some d => simp [Builtin.append_, run_underlying ht, sizeOf, typeInfo, hi, Builtin.lenOf, h, Builtin.firstCells, storeCells]

theorem Core.drew {hp : List (Nat × AObj)} {nx : Nat} (hC : Core E ι S hp nx w) : Core E ι S hp nx w.drew :=
  ⟨⟨hC.frame.os, hC.frame.tape, hC.frame.output, hC.frame.size, hC.frame.block⟩, hC.sub, hC.lt, hC.dis, hC.own, hC.inj, hC.new, fun id o h =>
    let ⟨h1, h2, h3⟩ := hC.obj id o h
    ⟨h1, h2, ObjOk.mono (w := w) (w' := w.drew) (S := S) (ι := ι) (S' := S) (ι' := ι) (K := fun _ => True) ⟨fun b hb => ⟨hb, rfl⟩, fun _ _ _ h => h⟩ trivial (by cases o <;> simp [AObj.uses]) (fun _ _ _ _ h => h) (fun _ _ _ _ _ _ => rfl) h3⟩, hC.stay, hC.fxs⟩

theorem eqNilA_sound (op : BinOp) (t t' : TypeId) {e : TypeId} (x y : Operand) (ht : E.P.underlying t = some (.slice e)) : (eqNilA s op x y).Sound E s (fun ρ => do pure (.value (← (do eqGuard op t x y (ρ x) (ρ y); binOp op t (ρ x) (ρ y) : Sem Value)))) := by
  unfold eqNilA
  cases hy : opnd s.tm y with
  | none => trivial
  | some q =>
    split
    · rename_i hq
      simp only [Option.some.injEq] at hq
      subst hq
      cases hx : opnd s.tm x with
      | none => trivial
      | some p =>
        simp only
        have run : ∀ (a : Act) (w : World) (ι : Loc) (S : Nat → Prop) (ad : Option Addr) (n c : Nat), TmOk ι S s.tm E.nt s.nx w a.tmps → a.eval x = .slice ad n c → ∀ r, (binOp op t (.slice ad n c) (.slice none 0 0)).run E.P w = .ok r w →
            (do pure (Next.value (← (do eqGuard op t x y (a.eval x) (a.eval y); binOp op t (a.eval x) (a.eval y) : Sem Value))) : Sem Next).run E.P w = .ok (.value r) w := by
          intro a w ι S ad n c hTm ev r h1
          have e2 := (opnd_rel hTm hy).1.val_inv.1
          rw [ev, e2]
          simp only [Sem.run_bind, eqGuard_ok op t x y (a := .slice ad n c) (b := .slice none 0 0) (fun _ _ h => by cases h) (fun h => by cases h), Result.andThen_ok, h1, Sem.run_pure]
        have eql : ∀ (w : World) (ad : Option Addr) (n c : Nat), (binOp .eql t (.slice ad n c) (.slice none 0 0)).run E.P w = .ok (.bool ad.isNone) w := fun w ad n c => Lib.run_eql_slice_nil w t e ad n c 0 0 ht
        have neq : ∀ (w : World) (ad : Option Addr) (n c : Nat), (binOp .neq t (.slice ad n c) (.slice none 0 0)).run E.P w = .ok (.bool (!ad.isNone)) w := fun w ad n c => by
          simp only [binOp]
          simp [Op.equal, Op.maxDepth, Lib.run_equalIn_slice_nil w 9999 t e ad n c 0 0 ht]
        unfold eqNilPA
        split
        · rename_i rows
          have key : rows ≠ [] → ∀ (a : Act) (w : World) (ι : Loc) (S : Nat → Prop), TmOk ι S s.tm E.nt s.nx w a.tmps → ∃ ad n c, a.eval x = .slice (some ad) n c := by
            intro hne a w ι S hTm
            have hr := (opnd_rel hTm hx).1.lst_inv
            generalize a.eval x = v at hr
            cases hr with
            | nil => exact absurd rfl hne
            | lst _ b off cap sz cells => exact ⟨_, _, _, rfl⟩
          cases op <;> first | trivial | skip
          · intro hne a w ι S hC hTm
            obtain ⟨ad, n, c, ev⟩ := key hne a w ι S hTm
            exact Good.same hC (run a w ι S _ _ _ hTm ev _ (eql w (some ad) n c)) (.one (.cell (.rd (.val _ rfl)))) trivial
          · intro hne a w ι S hC hTm
            obtain ⟨ad, n, c, ev⟩ := key hne a w ι S hTm
            exact Good.same hC (run a w ι S _ _ _ hTm ev _ (neq w (some ad) n c)) (.one (.cell (.rd (.val _ rfl)))) trivial
        · rename_i ad n c
          cases op <;> first | trivial | skip
          · intro a w ι S hC hTm
            exact Good.same hC (run a w ι S _ _ _ hTm (opnd_rel hTm hx).1.val_inv.1 _ (eql w ad n c)) (.one (.cell (.rd (.val _ rfl)))) trivial
          · intro a w ι S hC hTm
            exact Good.same hC (run a w ι S _ _ _ hTm (opnd_rel hTm hx).1.val_inv.1 _ (neq w ad n c)) (.one (.cell (.rd (.val _ rfl)))) trivial
        · trivial
    · trivial
/-- A new block that is only read. -/
theorem Core.read {hp : List (Nat × AObj)} {nx : Nat} (hC : Core E ι S hp nx w) (ob : Obj) :
    Core E ι (fun b => S b ∨ b = w.heap.size) hp nx (w.alloc ob) ∧ Later w (w.alloc ob) S (fun b => S b ∨ b = w.heap.size) ι ι (· < nx) := by
  have hblk : ∀ k, k < w.heap.size → (w.alloc ob).heap[k]? = w.heap[k]? := fun k hk => Below.heap_alloc _ _ _ hk
  have hL : Later w (w.alloc ob) S (fun b => S b ∨ b = w.heap.size) ι ι (· < nx) := ⟨fun b hb => ⟨.inl hb, hblk b (hC.lt b hb)⟩, fun id p hid h => h⟩
  refine ⟨⟨hC.frame.trans (Frame.of_below (D := E.D) ((Below.refl _ _).alloc (Nat.le_refl _) _)) (fun _ _ h => h), ?_, ?_, ?_, fun k g c s h => ?_, hC.inj, hC.new, fun id o h => ?_, hC.stay, hC.fxs⟩, hL⟩
  · rintro b (hb | rfl)
    · exact hC.sub b hb
    · exact .inr hC.frame.size
  · rintro b (hb | rfl)
    · have := hC.lt b hb; simp; omega
    · simp
  · rintro b (hb | rfl)
    · exact hC.dis b hb
    · rintro ⟨k, c, s, h⟩
      have := (hC.own k _ c s h).1
      omega
  · have := hC.own k g c s h
    exact ⟨by simp; omega, this.2⟩
  · obtain ⟨h1, h2, h3⟩ := hC.obj id o h
    exact ⟨h1, h2, h3.mono hL h1 h2 (fun _ k p _ hk => hk) (fun k g c s _ hg => hblk g (hC.own k g c s hg).1)⟩
theorem byteRows_len (b : ByteArray) : (byteRows b).length = b.size := by
  simp only [byteRows, List.length_map, ByteArray.toList_eq]
  exact Array.length_toList
theorem byteRows_flat (b : ByteArray) : (byteRows b).flatten = b.toList.map byteV := by
  unfold byteRows
  induction b.toList with
  | nil => rfl
  | cons c l ih => simp only [List.map_cons, List.flatten_cons, ih]; rfl
theorem strToA_sound (hT : TabOk E.P tt) (src dst : TypeId) (x : Operand) (hs : E.P.underlying src = some .string) : (strToA tt s dst x).Sound E s (fun ρ => do pure (.value (← convert src dst (ρ x)))) := by
  unfold strToA
  cases he : elemOfA tt dst with
  | none => trivial
  | some et =>
    obtain ⟨e, te⟩ := et
    obtain ⟨hdst, ie, de, hke⟩ := elemOfA_ok hT he
    simp only
    split
    · rename_i hi
      have hu8 : E.P.underlying e = some (.int .u8) := by
        have h1 := hke.int _ hi
        have h2 := hke.under
        rw [h1] at h2; exact h2
      split
      · rename_i b hx
        intro hp a w ι S hC hTm
        have ev := (opnd_rel hTm hx).1.val_inv.1
        have hr := run_bytes_of_string (P := E.P) w src dst e b hs hdst hu8
        have hge := grownCap_ge w b.size 0 e
        have hle := grownCap_le_maxLen w b.size 0 e hp
        have hrd := (Core.drew hC).read (Obj.cells (bytesRow b (grownCap w b.size 0 e)) e ((bytesRow b (grownCap w b.size 0 e)).size, (bytesRow b (grownCap w b.size 0 e)).size + 1))
        refine ⟨.slice (some ⟨w.heap.size, 0, none⟩) b.size (grownCap w b.size 0 e), _, ι, _, ?_, hrd.1, Nat.le_refl _, ⟨hrd.2.rd, hrd.2.at_⟩, .one (.cell (.rd ?_)), trivial⟩
        · dsimp only
          rw [ev]
          exact exec_value hr
        · by_cases h0 : b.size = 0
          · have hnil : byteRows b = [] := List.eq_nil_of_length_eq_zero (by rw [byteRows_len]; exact h0)
            have := Rd.nil (w := w.drew.alloc (Obj.cells (bytesRow b (grownCap w b.size 0 e)) e ((bytesRow b (grownCap w b.size 0 e)).size, (bytesRow b (grownCap w b.size 0 e)).size + 1))) (S := fun k => S k ∨ k = w.heap.size) (some ⟨w.heap.size, 0, none⟩) _ hle
            rw [hnil]
            generalize grownCap w b.size 0 e = cp at *
            rw [h0]
            exact this
          · have hl := byteRows_len b
            have hne : byteRows b ≠ [] := fun e => h0 (by rw [← hl, e]; rfl)
            suffices h : Rd (w.drew.alloc (Obj.cells (bytesRow b (grownCap w b.size 0 e)) e ((bytesRow b (grownCap w b.size 0 e)).size, (bytesRow b (grownCap w b.size 0 e)).size + 1))) (fun k => S k ∨ k = w.heap.size) (.slice (some ⟨w.heap.size, 0, none⟩) (byteRows b).length (grownCap w b.size 0 e)) (.lst (byteRows b)) by
              rw [hl] at h; exact h
            refine .lst (byteRows b) w.heap.size 0 _ 1 (b.toList.map fun c => Value.int .u8 (c.toNat : Int)) hne (by rw [hl]; exact hge) hle (.inr rfl) ?_ ?_ ?_ ?_
            · intro r hr
              simp only [byteRows, List.mem_map] at hr
              obtain ⟨c, _, rfl⟩ := hr; rfl
            · simp [byteRows]
            · intro i v hv
              have hlt : i < b.data.size := by
                have := (List.getElem?_eq_some_iff.1 hv).1
                simp only [List.length_map, ByteArray.toList_eq, Array.length_toList] at this
                exact this
              have hv2 : v = Value.int .u8 ((b.data[i]'hlt).toNat : Int) := by
                have h1 : b.data[i]? = some (b.data[i]'hlt) := Array.getElem?_eq_getElem hlt
                simp only [ByteArray.toList_eq, List.getElem?_map, Array.getElem?_toList, h1, Option.map_some, Option.some.injEq] at hv
                exact hv.symm
              subst hv2
              have hnew := heap_alloc_new w.drew (Obj.cells (bytesRow b (grownCap w b.size 0 e)) e ((bytesRow b (grownCap w b.size 0 e)).size, (bytesRow b (grownCap w b.size 0 e)).size + 1))
              have hcell : (bytesRow b (grownCap w b.size 0 e))[i]? = some (Value.int .u8 ((b.data[i]'hlt).toNat : Int)) := by
                have h1 : b.data[i]? = some (b.data[i]'hlt) := Array.getElem?_eq_getElem hlt
                unfold bytesRow
                rw [Array.getElem?_append_left (by rw [Array.size_map]; exact hlt), Array.getElem?_map, h1]
                rfl
              simp only [World.cell?, Nat.zero_add]
              rw [show (w.drew.alloc (Obj.cells (bytesRow b (grownCap w b.size 0 e)) e ((bytesRow b (grownCap w b.size 0 e)).size, (bytesRow b (grownCap w b.size 0 e)).size + 1))).heap[w.heap.size]? = _ from hnew]
              simp [hcell]
            · intro i v av hv ha
              rw [byteRows_flat] at ha
              simp only [List.getElem?_map] at hv ha
              cases hc : b.toList[i]? with
              | none => simp [hc] at hv
              | some c =>
                simp only [hc, Option.map_some, Option.some.injEq] at hv ha
                subst hv; subst ha
                exact .val _ rfl
      · trivial
    · trivial
theorem strA_sound (hT : TabOk E.P tt) (src dst : TypeId) (x : Operand) (hd : isStrT tt dst = true) : (strA tt s src x).Sound E s (fun ρ => do pure (.value (← convert src dst (ρ x)))) := by
  have hdst := isStrT_ok hT hd
  unfold strA
  cases he : elemOfA tt src with
  | none => trivial
  | some et =>
    obtain ⟨e, te⟩ := et
    obtain ⟨hsrc, ie, de, hke⟩ := elemOfA_ok hT he
    simp only
    split
    · rename_i hi
      have hu8 : E.P.underlying e = some (.int .u8) := by
        have h1 := hke.int _ hi
        have h2 := hke.under
        rw [h1] at h2; exact h2
      cases hx : opnd s.tm x with
      | none => trivial
      | some q =>
        simp only
        cases hr : rowsA s.hp q with
        | none => trivial
        | some yp =>
          obtain ⟨ys, p⟩ := yp
          intro hp a w ι S hC hTm
          obtain ⟨ad, cap, news, ev, hn, h0, hc⟩ := rows_read hC hTm hx hr hp.1 (sz := 1) (fun r hr => by obtain ⟨n, rfl⟩ := hp.2 r hr; rfl) (by decide)
          have hfl : ∀ (zs : List (List AV)), bytesP zs → zs.flatten = zs.map fun r => AV.val (.int .u8 (numOf r)) := by
            intro zs
            induction zs with
            | nil => intro _; rfl
            | cons r rs ih =>
              intro hz
              obtain ⟨n, rfl⟩ := hz _ (List.mem_cons_self ..)
              rw [List.flatten_cons, ih fun r hr => hz r (List.mem_cons_of_mem _ hr)]; rfl
          have hnews : news = (ys.map numOf).map (Value.int .u8) := by
            rw [hfl ys hp.2] at hn
            refine List.ext_getElem? fun i => ?_
            by_cases hlt : i < news.length
            · have hlt2 : i < (ys.map fun r => AV.val (.int .u8 (numOf r))).length := by rw [← hn.length]; exact hlt
              have h1 := List.getElem?_eq_getElem hlt
              have h2 := List.getElem?_eq_getElem hlt2
              have := hn.at h1 h2
              have hv : news[i] = .int .u8 (numOf (ys[i]'(by simpa using hlt2))) := by
                simp only [List.getElem_map] at this
                generalize news[i] = v at this
                cases this with | val => rfl
              rw [h1, hv]
              have hl3 : i < ys.length := by simpa using hlt2
              simp [hl3]
            · rw [List.getElem?_eq_none (by omega), List.getElem?_eq_none (by have := hn.length; simp at this ⊢; omega)]
          refine Good.same hC (v := .string (strOf ys)) ?_ (.one (.cell (.rd (.val _ rfl)))) trivial
          refine exec_value ?_
          rw [ev]
          cases ad with
          | none =>
            have := h0 rfl
            subst this
            exact run_convert_bytes_nil w src e hsrc hu8 _ _ dst hdst
          | some d =>
            have hl := run_loadCells_list (P := E.P) w d news (hc d rfl)
            have hln : news.length = ys.length := by rw [hnews]; simp
            rw [hln, hnews] at hl
            rw [run_convert_bytes_string w src dst e _ _ cap hsrc hu8 hdst, run_bytesToString w _ _ cap (ys.map numOf) hl, foldl_push_bytes]
            simp [strOf, strOfNums, ByteArray.empty, ByteArray.emptyWithCapacity]
            rfl
    · trivial
/-- An append to a list with a block of its own: where it then lies, and what lies there. -/
theorem append_run {P : Program} {t ty e : TypeId} {it : TypeInfo} {z : Value} {te : TI} {d0 : TypeDesc} (hk : TyOk P e te it d0) (hu : P.underlying t = some (.slice e)) (hz : it.zero = some z) (hzs : z.cells.size = te.size) {g len cap n cap2 : Nat} {vs news : List Value} {ad : Option Addr}
    (hw : w.heap[g]? = some (.cells vs.toArray e (0, 0))) (hgl : g < w.heap.size) (hn : vs.length = cap * te.size) (hlen : len ≤ cap) (hnl : news.length = n * te.size) (hone : ∀ v ∈ news, v.oneCell' = true) (hnone : ad = none → n = 0)
    (hcell : ∀ d, ad = some d → ∀ (j : Nat) (v : Value), news[j]? = some v → w.cell? (d.add j) = some v) (hbytes : (len + n) * te.bytes ≤ 140737488355328) (hmax : len + n ≤ maxLen) (hcm : cap ≤ maxLen) :
    ∃ (g' cap' : Nat) (w' : World) (rest : List Value), (Builtin.append_ #[t, t] ty #[.slice (some ⟨g, 0, none⟩) len cap, .slice ad n cap2]).run P w = .ok (.slice (some ⟨g', 0, none⟩) (len + n) cap') w' ∧
      w'.heap[g']? = some (.cells (vs.take (len * te.size) ++ news ++ rest).toArray e (0, 0)) ∧ (vs.take (len * te.size) ++ news ++ rest).length = cap' * te.size ∧ len + n ≤ cap' ∧ cap' ≤ maxLen ∧ g' < w'.heap.size ∧ (g' = g ∨ w.heap.size ≤ g') ∧
      (∀ k, k < w.heap.size → k ≠ g → w'.heap[k]? = w.heap[k]?) ∧ w'.os = w.os ∧ w'.tape = w.tape ∧ w'.output = w.output ∧ w.heap.size ≤ w'.heap.size := by
  have hmul : len * te.size ≤ cap * te.size := Nat.mul_le_mul_right _ hlen
  by_cases hroom : len + n ≤ cap
  · have hmul3 : (len + n) * te.size ≤ cap * te.size := Nat.mul_le_mul_right _ hroom
    rw [Nat.add_mul] at hmul3
    cases ad with
    | none =>
      have := hnone rfl
      subst this
      have hn0 : news = [] := List.eq_nil_of_length_eq_zero (by simpa using hnl)
      subst hn0
      refine ⟨g, cap, w, vs.drop (len * te.size), ?_, ?_, by simp [hn], hroom, hcm, hgl, .inl rfl, fun _ _ _ => rfl, rfl, rfl, rfl, Nat.le_refl _⟩
      · simpa using run_append_none (P := P) (w := w) (ty := ty) hu hk.info (some ⟨g, 0, none⟩) len cap cap2 (by simpa using hroom)
      · simp only [List.append_nil, List.take_append_drop]; exact hw
    | some d =>
      have hr' := run_append_room (P := P) w t ty e it hu hk.info g len cap vs.toArray hw d n cap2 news (by rw [hk.size]; exact hnl) (hcell d rfl) hone hroom (by rw [hk.size]; simp [hn, hnl]; omega)
      rw [hk.size] at hr'
      refine ⟨g, cap, _, vs.drop (len * te.size + news.length), hr', setRow_heap w g _ _ e _ hw, by simp only [List.length_append, List.length_take, List.length_drop, hn, hnl]; omega, hroom, hcm, by simpa using hgl, .inl rfl, fun k _ hk' => setRow_other w g k _ hk', rfl, rfl, rfl, by simp⟩
  · have hnp : 0 < n := by omega
    obtain ⟨d, rfl⟩ : ∃ d, ad = some d := by
      cases ad with
      | none => have := hnone rfl; omega
      | some d => exact ⟨d, rfl⟩
    have hr' := run_append_grow (P := P) w t ty e it z hu hk.info hz ⟨g, 0, none⟩ len cap (vs.take (len * te.size)) (by rw [hk.size, List.length_take, hn]; omega) (fun j v hj => by
      rw [Addr.add_none, Nat.zero_add]
      rw [List.getElem?_take] at hj
      split at hj
      · exact cells_of_block hw j v hj
      · cases hj) d n cap2 news (by rw [hk.size]; exact hnl) (hcell d rfl) (by omega) (by simp only [maxLen] at hmax; omega) (growslice_fits (by omega) (by rw [hk.bytes]; exact hbytes))
    have hge := grownCap_ge w (len + n) cap e
    have hle2 := grownCap_le_maxLen w (len + n) cap e hmax
    have hcells : (vs.take (len * te.size)).toArray ++ news.toArray ++ Builtin.zeroCells z.cells (grownCap w (len + n) cap e - (len + n)) = (vs.take (len * te.size) ++ news ++ (Builtin.zeroCells z.cells (grownCap w (len + n) cap e - (len + n))).toList).toArray := by
      exact Array.ext' (by simp)
    rw [hcells] at hr'
    refine ⟨w.heap.size, _, _, _, hr', heap_alloc_new w.drew _, ?_, hge, hle2, by simp, .inr (Nat.le_refl _), fun k hk' _ => Below.heap_alloc w.drew _ k hk', rfl, rfl, rfl, by simp⟩
    simp only [List.length_append, List.length_take, hn, hnl, Array.length_toList, size_zeroCells, hzs, Nat.min_eq_left hmul, ← Nat.add_mul]
    congr 1; omega
/-- The same, where nothing was. -/
theorem append_run0 {P : Program} {t ty e : TypeId} {it : TypeInfo} {z : Value} {te : TI} {d0 : TypeDesc} (hk : TyOk P e te it d0) (hu : P.underlying t = some (.slice e)) (hz : it.zero = some z) (hzs : z.cells.size = te.size) {n cap2 : Nat} {news : List Value} {d : Addr}
    (hnl : news.length = n * te.size) (hn0 : 0 < n) (hcell : ∀ (j : Nat) (v : Value), news[j]? = some v → w.cell? (d.add j) = some v) (hbytes : n * te.bytes ≤ 140737488355328) (hmax : n ≤ maxLen) :
    ∃ (cap' : Nat) (w' : World) (rest : List Value), (Builtin.append_ #[t, t] ty #[.slice none 0 0, .slice (some d) n cap2]).run P w = .ok (.slice (some ⟨w.heap.size, 0, none⟩) n cap') w' ∧
      w'.heap[w.heap.size]? = some (.cells (news ++ rest).toArray e (0, 0)) ∧ (news ++ rest).length = cap' * te.size ∧ n ≤ cap' ∧ cap' ≤ maxLen ∧ w.heap.size < w'.heap.size ∧
      (∀ k, k < w.heap.size → w'.heap[k]? = w.heap[k]?) ∧ w'.os = w.os ∧ w'.tape = w.tape ∧ w'.output = w.output := by
  have hr' := run_append_nil (P := P) w t ty e it z hu hk.info hz d n cap2 news (by rw [hk.size]; exact hnl) hcell hn0 (by simp only [maxLen] at hmax; omega) (by rw [hk.bytes]; omega)
  have hge := grownCap_ge w n 0 e
  have hle2 := grownCap_le_maxLen w n 0 e hmax
  have hcells : news.toArray ++ Builtin.zeroCells z.cells (grownCap w n 0 e - n) = (news ++ (Builtin.zeroCells z.cells (grownCap w n 0 e - n)).toList).toArray := Array.ext' (by simp)
  rw [hcells] at hr'
  refine ⟨_, _, _, hr', heap_alloc_new w.drew _, ?_, hge, hle2, by simp, fun k hk' => Below.heap_alloc w.drew _ k hk', rfl, rfl, rfl⟩
  simp only [List.length_append, hnl, Array.length_toList, size_zeroCells, hzs, ← Nat.add_mul]
  congr 1; omega
theorem app_atJ {α β : Type} {R : Nat → α → β → Prop} {vs u rest : List α} {fl b : List β} {n : Nat} (hc : ∀ (i : Nat) (v : α) (a : β), vs[i]? = some v → fl[i]? = some a → R i v a) (hu : ∀ (i : Nat) (v : α) (a : β), u[i]? = some v → b[i]? = some a → R (n + i) v a) (hl : u.length = b.length) (h1 : n ≤ vs.length) (h2 : n ≤ fl.length) :
    ∀ (j : Nat) (y : α) (z : β), (vs.take n ++ u ++ rest)[j]? = some y → (fl.take n ++ b)[j]? = some z → R j y z := by
  intro j y z hy hz
  have l1 : (vs.take n).length = n := by simp; omega
  have l2 : (fl.take n).length = n := by simp; omega
  rw [List.append_assoc] at hy
  by_cases hj : j < n
  · rw [List.getElem?_append_left (by omega), List.getElem?_take, if_pos hj] at hy hz
    exact hc j y z hy hz
  · rw [List.getElem?_append_right (by omega)] at hy hz
    rw [l1] at hy
    rw [l2] at hz
    have hj2 : j - n < b.length := (List.getElem?_eq_some_iff.1 hz).1
    rw [List.getElem?_append_left (by omega)] at hy
    have := hu (j - n) y z hy hz
    rwa [show n + (j - n) = j by omega] at this
theorem nest_uses {nx i : Nat} {b : Bool} {e sz : Nat} {rows : List (List AV)} (hu : (@AObj.nest b e sz rows).uses (· < nx)) (hob : ObjOk w S ι i (@AObj.nest b e sz rows)) : ∀ c ∈ rows.flatten, ∀ j, c.idOf = some j → j < nx := by
  cases b with
  | false => exact hu rfl
  | true =>
    intro c hcm j hj
    cases hob with
    | nest0 => simp at hcm
    | nest g cap _ _ _ vs h hs hr hle hm hw hn hc =>
      obtain ⟨k, hk2⟩ := List.mem_iff_getElem?.1 hcm
      have hlt2 : k < rows.flatten.length := (List.getElem?_eq_some_iff.1 hk2).1
      rw [flatten_length _ hr] at hlt2
      have hmul : rows.length * sz ≤ cap * sz := Nat.mul_le_mul_right _ hle
      rcases hc k _ c (List.getElem?_eq_getElem (show k < vs.length by rw [hn]; omega)) hk2 with ⟨h0, _⟩ | hx
      · cases h0
      · rw [hx.noId] at hj; cases hj
theorem appendSA_sound (hT : TabOk E.P tt) {t ty e : TypeId} {te : TI} (he : elemOfA tt t = some (e, te)) (x y : Operand) (j row off l id len : Nat) (hx : opnd s.tm x = some (.own id len)) (hy : opnd s.tm y = some (.sb j row off l)) :
    (appendSA s e te j row off l id len).Sound E s (fun ρ => do pure (.value (← Builtin.append_ #[t, t] ty #[ρ x, ρ y]))) := by
  obtain ⟨hu, it, dt, hk⟩ := elemOfA_ok hT he
  unfold appendSA
  cases ho : look s.hp id with
  | none => trivial
  | some o =>
    cases o with
    | box cs => trivial
    | map => trivial
    | ranged => trivial
    | clo => trivial
    | nest e' sz rows => trivial
    | list e' sz rows =>
      simp only
      cases hb : (Nat.beq j id && Nat.beq off 0 && Nat.beq e e' && Nat.beq sz te.size) with
      | false => trivial
      | true =>
        simp only [cond_true]
        simp only [Bool.and_eq_true] at hb
        obtain rfl := Nat.eq_of_beq_eq_true hb.1.1.1
        obtain rfl := Nat.eq_of_beq_eq_true hb.1.1.2
        obtain rfl := Nat.eq_of_beq_eq_true hb.1.2
        have hsz := Nat.eq_of_beq_eq_true hb.2
        rintro ⟨hpos, hp1, hp2⟩ a w ι S hC hTm
        obtain ⟨hid, huse, hob⟩ := hC.obj j _ ho
        have hvx := (opnd_rel hTm hx).1
        have hvy := (opnd_rel hTm hy).1
        cases hob with
        | nil => simp at hpos
        | list g cap _ _ _ vs h hs hr hl hm hw hn hc =>
          obtain ⟨capx, hlx, evx⟩ : ∃ capx, len ≤ capx ∧ a.eval x = .slice (some ⟨g, 0, none⟩) len cap := by
            rcases hvx.own_inv with ⟨g', cap', s', hg, h1, h2, ev⟩ | ⟨hg, h1, ev⟩
            · rw [h] at hg; simp at hg; obtain ⟨rfl, rfl, rfl⟩ := hg
              exact ⟨_, h1, ev⟩
            · rw [h] at hg; cases hg
          obtain ⟨oy, capy, evy, hoy⟩ : ∃ oy capy, a.eval y = .slice (some ⟨g, oy, none⟩) l capy ∧ (0 < l → oy = row * sz) := by
            generalize a.eval y = v at hvy
            cases hvy with
            | one h' => cases h' with
              | cell h' => cases h' with
                | rd h' => cases h'
                | sb _ _ _ _ g' c' s' o' cap' h' h1 h2 ho2 =>
                  rw [h] at h'; simp at h'; obtain ⟨rfl, rfl, rfl⟩ := h'
                  exact ⟨o', cap', rfl, fun hl => by have := ho2 hl; omega⟩
                | sb0 _ _ _ h' => rw [h] at h'; cases h'
          have hmul1 : (len + l) * sz ≤ rows.length * sz := Nat.mul_le_mul_right _ hp1
          have hmul2 : (row + l) * sz ≤ rows.length * sz := Nat.mul_le_mul_right _ hp2
          have hmul3 : rows.length * sz ≤ cap * sz := Nat.mul_le_mul_right _ hl
          rw [Nat.add_mul] at hmul1 hmul2
          have hcg : ∀ (i : Nat) (v : Value), vs[i]? = some v → w.cell? ⟨g, i, none⟩ = some v := fun i v hv => by
            have := cells_of_block hw i v hv
            exact this
          obtain ⟨news, hnews⟩ : ∃ news, news = (vs.drop (row * sz)).take (l * sz) := ⟨_, rfl⟩
          have hnl : news.length = l * sz := by rw [hnews, List.length_take, List.length_drop, hn]; omega
          have hrowl : ∀ r ∈ (rows.drop row).take l, r.length = sz := fun r hr' => hr r (List.mem_of_mem_drop (List.mem_of_mem_take hr'))
          have hfl : ∀ (i : Nat) (v : Value) (av : AV), news[i]? = some v → ((rows.drop row).take l).flatten[i]? = some av → Rd w S v av := by
            intro i v av hv ha
            have hlt : i < l * sz := by rw [← hnl]; exact (List.getElem?_eq_some_iff.1 hv).1
            rw [hnews, List.getElem?_take, if_pos hlt, List.getElem?_drop] at hv
            have e2 : ((rows.drop row).take l).flatten = (rows.flatten.drop (row * sz)).take (l * sz) := by
              rw [flatten_take _ _ (fun r hr' => hr r (List.mem_of_mem_drop hr')), ← flatten_drop _ _ hr]
            rw [e2, List.getElem?_take, if_pos hlt, List.getElem?_drop] at ha
            exact hc _ v av hv ha
          have hone : ∀ v ∈ news, v.oneCell' = true := by
            intro v hv
            obtain ⟨i, hi, ei⟩ := List.mem_iff_getElem.1 hv
            have h1 : news[i]? = some v := by rw [List.getElem?_eq_getElem hi, ei]
            have hi2 : i < ((rows.drop row).take l).flatten.length := by
              rw [flatten_length _ hrowl, List.length_take, List.length_drop]
              have : min l (rows.length - row) = l := by omega
              rw [this, ← hnl]; exact hi
            exact (hfl i v _ h1 (List.getElem?_eq_getElem hi2)).one
          have hcell : ∀ (k : Nat) (v : Value), news[k]? = some v → w.cell? ((⟨g, oy, none⟩ : Addr).add k) = some v := by
            intro k v hv
            have hlt : k < l * sz := by rw [← hnl]; exact (List.getElem?_eq_some_iff.1 hv).1
            have hl0 : 0 < l := by
              rcases Nat.eq_zero_or_pos l with h0 | h0
              · rw [h0, Nat.zero_mul] at hlt; omega
              · exact h0
            rw [hoy hl0, Addr.add_none]
            rw [hnews, List.getElem?_take, if_pos hlt, List.getElem?_drop] at hv
            exact hcg _ v hv
          have hrun := run_append_room (P := E.P) w t ty e it hu hk.info g len cap vs.toArray hw ⟨g, oy, none⟩ l capy news (by rw [hk.size, hnl, hsz]) hcell hone (by omega) (by rw [hk.size, ← hsz]; simp [hn, hnl]; omega)
          rw [hk.size, ← hsz] at hrun
          have hnew : (vs.take (len * sz) ++ news ++ vs.drop (len * sz + news.length)).length = vs.length := by
            simp only [List.length_append, List.length_take, List.length_drop, hn, hnl]; omega
          have hS : ∀ b, S b → b ≠ g := fun b hb e => hC.dis b hb ⟨j, cap, sz, e ▸ h⟩
          have hobj : ObjOk (w.setRow g (vs.take (len * sz) ++ news ++ vs.drop (len * sz + news.length)).toArray) S ι j (.list e sz (rows.take len ++ (rows.drop row).take l ++ rows.drop (len + l))) := by
            have hlen2 : (rows.take len ++ (rows.drop row).take l ++ rows.drop (len + l)).length = rows.length := by
              simp only [List.length_append, List.length_take, List.length_drop]; omega
            have hrow2 : ∀ r ∈ rows.take len ++ (rows.drop row).take l ++ rows.drop (len + l), r.length = sz := by
              intro r hr'
              simp only [List.mem_append] at hr'
              rcases hr' with (hr' | hr') | hr'
              · exact hr r (List.mem_of_mem_take hr')
              · exact hrowl r hr'
              · exact hr r (List.mem_of_mem_drop hr')
            refine .list g cap e sz _ _ h hs hrow2 (by rw [hlen2]; exact hl) hm (setRow_heap w g _ _ e _ hw) (by rw [hnew, hn]) ?_
            have mono : ∀ {v : Value} {av : AV}, Rd w S v av → Rd (w.setRow g (vs.take (len * sz) ++ news ++ vs.drop (len * sz + news.length)).toArray) S v av := fun hr' => hr'.mono fun b hb => ⟨hb, setRow_other w g b _ (hS b hb)⟩
            intro i v av hv ha
            refine mono ?_
            rw [List.flatten_append, List.flatten_append, flatten_take _ _ hr, ← flatten_drop _ _ hr] at ha
            have l1 : (vs.take (len * sz)).length = len * sz := by rw [List.length_take, hn]; omega
            have l2 : (rows.flatten.take (len * sz)).length = len * sz := by rw [List.length_take, flatten_length _ hr]; omega
            have l3 : ((rows.drop row).take l).flatten.length = l * sz := by
              rw [flatten_length _ hrowl, List.length_take, List.length_drop, show min l (rows.length - row) = l by omega]
            have hfr : rows.flatten.length = rows.length * sz := flatten_length _ hr
            by_cases c1 : i < len * sz
            · rw [List.append_assoc, List.getElem?_append_left (by omega), List.getElem?_take, if_pos c1] at hv ha
              exact hc i v av hv ha
            · by_cases c2 : i < len * sz + l * sz
              · rw [List.append_assoc, List.getElem?_append_right (by omega), List.getElem?_append_left (by omega)] at hv ha
                rw [l1] at hv
                rw [l2] at ha
                exact hfl _ v av hv ha
              · rw [List.getElem?_append_right (by rw [List.length_append, l1, hnl]; omega), List.length_append, l1, hnl, List.getElem?_drop] at hv
                rw [List.getElem?_append_right (by rw [List.length_append, l2, l3]; omega), List.length_append, l2, l3, List.getElem?_drop, Nat.add_mul] at ha
                exact hc _ v av hv ha
          have := hC.set (new := vs.take (len * sz) ++ news ++ vs.drop (len * sz + news.length)) ho h hw hobj trivial
          refine ⟨.slice (some ⟨g, 0, none⟩) (len + l) cap, _, ι, S, ?_, this.1, Nat.le_refl _, this.2, .one (.cell (.own j (len + l) g cap sz h (by omega) hm)), hid⟩
          refine exec_value ?_
          rw [evx, evy, hrun]
theorem appendNA_sound (hT : TabOk E.P tt) {t ty e : TypeId} {te : TI} (he : elemOfA tt t = some (e, te)) (x y : Operand) (q b : AV) (hx : opnd s.tm x = some q) (hy : opnd s.tm y = some b) :
    (appendNA s e te b q).Sound E s (fun ρ => do pure (.value (← Builtin.append_ #[t, t] ty #[ρ x, ρ y]))) := by
  obtain ⟨hu, it, dt, hk⟩ := elemOfA_ok hT he
  obtain ⟨z, hz, hzc⟩ := hk.zero
  have hzs : z.cells.size = te.size := by rw [← hk.zlen, ← hzc]; simp
  unfold appendNA
  split
  · exact appendSA_sound hT he x y _ _ _ _ _ _ hx hy
  · rename_i j n id len
    cases ho : look s.hp id with
    | none => trivial
    | some o =>
      cases o with
      | box cs => trivial
      | list e' sz rows => trivial
      | map => trivial
      | ranged => trivial
      | clo => trivial
      | @nest b0 e' sz rows =>
        simp only
        cases hoj : look s.hp j with
        | none => trivial
        | some oj =>
          cases oj with
          | box cs => trivial
          | map => trivial
          | ranged => trivial
          | clo => trivial
          | list e2 sz2 ys => trivial
          | @nest b1 e2 sz2 ys =>
            simp only
            cases hb : (Nat.beq e e' && Nat.beq sz te.size && Nat.beq sz2 te.size && (ys.all fun r => r.all cellN)) with
            | false => trivial
            | true =>
              simp only [cond_true]
              simp only [Bool.and_eq_true] at hb
              have hee := Nat.eq_of_beq_eq_true hb.1.1.1
              have hse := Nat.eq_of_beq_eq_true hb.1.1.2
              have hse2 := Nat.eq_of_beq_eq_true hb.1.2
              have hcn : ∀ c ∈ ys.flatten, cellN c = true := fun c hc => by
                obtain ⟨r, hr, hcr⟩ := List.mem_flatten.1 hc
                exact List.all_eq_true.1 (List.all_eq_true.1 hb.2 r hr) c hcr
              subst hee hse hse2
              rintro ⟨hlen, hny, hbytes, hmax, hid1, hid2⟩ hfix a w ι S hC hTm
              obtain ⟨hid, huse, hob⟩ := hC.obj id _ ho
              obtain ⟨_, husej, hobj⟩ := hC.obj j _ hoj
              have hpos : 0 < te.size := by cases hob <;> assumption
              have hur : ∀ r ∈ rows, r.length = te.size := by
                cases hob with
                | nest0 => intro r hr; cases hr
                | nest g cap _ _ _ vs h hs hr hle hm hw hn hc => exact hr
              have hury : ∀ r ∈ ys, r.length = te.size := by
                cases hobj with
                | nest0 => intro r hr; cases hr
                | nest g cap _ _ _ vs h hs hr hle hm hw hn hc => exact hr
              have hur' : ∀ r ∈ rows.take len ++ ys.take n, r.length = te.size := by
                intro r hr
                rcases List.mem_append.1 hr with hr | hr
                · exact hur r (List.mem_of_mem_take hr)
                · exact hury r (List.mem_of_mem_take hr)
              have hrl : (rows.take len ++ ys.take n).length = len + n := by simp; omega
              have hfl : (rows.take len ++ ys.take n).flatten = rows.flatten.take (len * te.size) ++ (ys.take n).flatten := by rw [List.flatten_append, flatten_take _ _ hur]
              have hyf : (ys.take n).flatten = ys.flatten.take (n * te.size) := flatten_take _ _ hury
              -- what is appended
              have hread : ∃ ad cap2 news, a.eval y = .slice ad n cap2 ∧ All2 (CRel w S ι) news (ys.take n).flatten ∧ (ad = none → n = 0) ∧ ∀ d, ad = some d → ∀ (j : Nat) (v : Value), news[j]? = some v → w.cell? (d.add j) = some v := by
                rcases (opnd_rel hTm hy).1.own_inv with ⟨g, cap, s2, hg, h1, h2, ev⟩ | ⟨hg, hn0, ev⟩
                · cases hobj with
                  | nest0 _ _ h' _ => rw [hg] at h'; cases h'
                  | nest g' cap' _ _ _ vs h' hs hr hle hm hw hn hc =>
                    rw [hg] at h'; simp at h'; obtain ⟨rfl, rfl, rfl⟩ := h'
                    have hmul : ys.length * te.size ≤ cap * te.size := Nat.mul_le_mul_right _ hle
                    have hmul2 : n * te.size ≤ ys.length * te.size := Nat.mul_le_mul_right _ hny
                    refine ⟨_, cap, vs.take (n * te.size), ev, ?_, fun e => (by cases e), fun d e j v hj => ?_⟩
                    · rw [hyf]
                      refine All2.of ?_ fun i v av hv' ha => ?_
                      · simp only [List.length_take, flatten_length _ hury, hn]; omega
                      · rw [List.getElem?_take] at hv' ha
                        split at hv'
                        · rename_i hlt
                          rw [if_pos hlt] at ha
                          exact CRel.ofN (hc i v av hv' ha) (hcn av (List.mem_of_getElem? ha))
                        · cases hv'
                    · cases e
                      rw [Addr.add_none, Nat.zero_add]
                      rw [List.getElem?_take] at hj
                      split at hj
                      · exact cells_of_block hw j v hj
                      · cases hj
                · subst hn0
                  exact ⟨none, 0, [], by simpa using ev, by simp [All2], fun _ => rfl, fun d e => by cases e⟩
              obtain ⟨ad, cap2, news, ey, hnews, hnone, hcell⟩ := hread
              have hnl : news.length = n * te.size := by rw [hnews.length, hyf, List.length_take, flatten_length _ hury]; have := Nat.mul_le_mul_right te.size hny; omega
              have hone : ∀ v ∈ news, v.oneCell' = true := one_of_all2 hnews
              have hunew : ∀ c ∈ (rows.take len ++ ys.take n).flatten, ∀ i, c.idOf = some i → i < s.nx := by
                intro c hc i hi
                rw [hfl, hyf] at hc
                rcases List.mem_append.1 hc with hc | hc
                · exact nest_uses huse hob c (List.mem_of_mem_take hc) i hi
                · exact nest_uses husej hobj c (List.mem_of_mem_take hc) i hi
              -- the cells where it then lies
              have cells : ∀ (w' : World) (p : Pl) (g0 : Nat), (∀ b, S b → w'.heap[b]? = w.heap[b]?) → (∀ k g c z, k ≠ (⟨id, []⟩ : Key) → ι k = some (.blk g c z) → w'.heap[g]? = w.heap[g]?) → ∀ (j : Nat) (v : Value) (c : AV), ((false = false ∧ CRel w S ι v c) ∨ Tr w S ι ⟨id, [j]⟩ v c) → c.idOf ≠ some id →
                  (false = false ∧ CRel w' S (put ι id (some p)) v c) ∨ Tr w' S (put ι id (some p)) ⟨id, [j]⟩ v c := by
                intro w' p g0 hS' hB j v c hx hne
                rcases hx with ⟨_, hx⟩ | hx
                · refine .inl ⟨rfl, ?_⟩
                  exact (hx.mono (K := fun i => i ≠ id) ⟨fun b hb => ⟨hb, hS' b hb⟩, fun i q hi h => by rw [put_id _ _ hi]; exact h⟩ fun i hi e' => hne (by rw [hi, e']))
                · exact .inr (hx.monoC (fun k => k.id = id ∧ k.path ≠ []) (fun k x hk => ⟨hk.1, by simp⟩) (fun b hb => ⟨hb, hS' b hb⟩) (fun k q hk h => by rw [put_ne _ _ (fun e' => hk.2 (by rw [e']))]; exact h) (fun k g' c' s' hk hg' => hB k g' c' s' (fun e' => hk.2 (by rw [e'])) hg') ⟨rfl, by simp⟩)
              rcases (opnd_rel hTm hx).1.own_inv with ⟨g, cap, s2, hg, h1, h2, ev⟩ | ⟨hg, rfl, ev⟩
              · cases hob with
                | nest0 _ _ h' _ => rw [hg] at h'; cases h'
                | nest g' cap' _ _ _ vs h' hs hr hle hm hw hn hc =>
                  rw [hg] at h'; simp at h'; obtain ⟨rfl, rfl, rfl⟩ := h'
                  have hmul : rows.length * te.size ≤ cap * te.size := Nat.mul_le_mul_right _ hle
                  have hmul2 : len * te.size ≤ rows.length * te.size := Nat.mul_le_mul_right _ hlen
                  have hflen : rows.flatten.length = rows.length * te.size := flatten_length _ hur
                  obtain ⟨g2, cap3, w', rest, hrun, hw2, hlen2, hc3, hm3, hg2l, hg2, hblk, q1, q2, q3, q4⟩ := append_run (w := w) (ty := ty) (cap2 := cap2) hk hu hz hzs hw (hC.own id g cap te.size hg).1 hn (by omega) hnl hone hnone hcell hbytes hmax hm
                  have hS : ∀ b, S b → w'.heap[b]? = w.heap[b]? := fun b hb => hblk b (hC.lt b hb) fun e' => hC.dis b hb ⟨id, _, _, e' ▸ hg⟩
                  have hB : ∀ k g3 c z, k ≠ (⟨id, []⟩ : Key) → ι k = some (.blk g3 c z) → w'.heap[g3]? = w.heap[g3]? := fun k g3 c z hk' hk2 => hblk g3 (hC.own k g3 c z hk2).1 fun e' => by
                    subst e'
                    exact hk' (hC.inj k ⟨id, []⟩ g3 _ _ _ _ hk2 hg)
                  have hobj' : ObjOk w' S (put ι id (some (.blk g2 cap3 te.size))) id (.nest (c := false) e te.size (rows.take len ++ ys.take n)) := by
                    refine .nest g2 cap3 e te.size _ _ (put_same _ _ _) hpos hur' (by rw [hrl]; exact hc3) hm3 hw2 hlen2 fun i v av hv ha => ?_
                    rw [hfl] at ha
                    have hav : av.idOf ≠ some id := by
                      have := List.mem_of_getElem? ha
                      rw [hyf] at this
                      rcases List.mem_append.1 this with hc' | hc'
                      · exact hid1 av (List.mem_of_mem_take hc')
                      · exact hid2 av (List.mem_of_mem_take hc')
                    exact cells w' _ g2 hS hB i v av (app_atJ (R := fun i v av => (false = false ∧ CRel w S ι v av) ∨ Tr w S ι ⟨id, [i]⟩ v av) (fun i v a h h' => (hc i v a h h').imp (fun h => ⟨rfl, h.2⟩) fun h => h) (fun i v a h h' => .inl ⟨rfl, hnews.at h h'⟩) hnews.length (by rw [hn]; omega) (by omega) i v av hv ha) hav
                  have := hC.kill ho (p := .blk g2 cap3 te.size) (w' := w') q1 q2 q3 q4 (fun k hk' hk2 => hblk k hk' fun e' => hk2 cap te.size (e' ▸ hg)) (fun g' c' s' e' => by
                    cases e'
                    refine ⟨hg2l, ?_⟩
                    rcases hg2 with rfl | h
                    · exact .inl ⟨_, _, hg⟩
                    · exact .inr h) hobj' (fun _ => hunew) hfix
                  refine ⟨_, _, _, S, ?_, this.1, this.2, .one (.cell (.own id _ g2 cap3 te.size (put_same _ _ _) hc3 hm3)), hid⟩
                  dsimp only
                  rw [ev, ey]
                  exact exec_value hrun
              · have hrows : rows = [] := by
                  cases hob with
                  | nest0 => rfl
                  | nest g' cap' _ _ _ vs h' hs hr hle hm hw hn hc => rw [hg] at h'; cases h'
                subst hrows
                simp only [List.take_nil, List.nil_append, Nat.zero_add] at *
                cases ad with
                | none =>
                  have := hnone rfl
                  subst this
                  have hobj' : ObjOk w S (put ι id (some .nil)) id (.nest (c := false) e te.size []) := .nest0 e te.size (put_same _ _ _) hpos
                  have := hC.kill ho (p := .nil) (w' := w) rfl rfl rfl (Nat.le_refl _) (fun k _ _ => rfl) (fun g' c' s' e' => by cases e') hobj' (fun _ c hc => by simp at hc) hfix
                  refine ⟨.slice none 0 0, w, _, S, ?_, by simpa using this.1, this.2, .one (.cell (.own0 id (put_same _ _ _))), hid⟩
                  rw [ev, ey]
                  exact exec_value (run_append_none hu hk.info none 0 0 cap2 (Nat.le_refl _))
                | some d =>
                  by_cases hy0 : n = 0
                  · subst hy0
                    have hobj' : ObjOk w S (put ι id (some .nil)) id (.nest (c := false) e te.size []) := .nest0 e te.size (put_same _ _ _) hpos
                    have := hC.kill ho (p := .nil) (w' := w) rfl rfl rfl (Nat.le_refl _) (fun k _ _ => rfl) (fun g' c' s' e' => by cases e') hobj' (fun _ c hc => by simp at hc) hfix
                    refine ⟨.slice none 0 0, w, _, S, ?_, by simpa using this.1, this.2, .one (.cell (.own0 id (put_same _ _ _))), hid⟩
                    rw [ev, ey]
                    exact exec_value (by simp [Builtin.append_, run_underlying hu, sizeOf, typeInfo, hk.info, Builtin.lenOf, Builtin.firstCells, loadCells, loadCellsFrom])
                  · obtain ⟨cap3, w', rest, hrun, hw2, hlen2, hc3, hm3, hg2l, hblk, q1, q2, q3⟩ := append_run0 (w := w) (ty := ty) (cap2 := cap2) hk hu hz hzs hnl (by omega) (hcell d rfl) hbytes hmax
                    have hS : ∀ b, S b → w'.heap[b]? = w.heap[b]? := fun b hb => hblk b (hC.lt b hb)
                    have hobj' : ObjOk w' S (put ι id (some (.blk w.heap.size cap3 te.size))) id (.nest (c := false) e te.size (ys.take n)) := by
                      refine .nest w.heap.size cap3 e te.size _ _ (put_same _ _ _) hpos hur' (by rw [hrl]; exact hc3) hm3 hw2 hlen2 fun i v av hv ha => ?_
                      have hav : av.idOf ≠ some id := by
                        have := List.mem_of_getElem? ha
                        rw [hyf] at this
                        exact hid2 av (List.mem_of_mem_take this)
                      refine Or.imp (fun h => ⟨rfl, h.2⟩) (fun h => h) (cells w' (.blk w.heap.size cap3 te.size) w.heap.size hS (fun k g3 c z _ hk2 => hblk g3 (hC.own k g3 c z hk2).1) i v av (.inl ⟨by trivial, ?_⟩) hav)
                      have hlt : i < (ys.take n).flatten.length := (List.getElem?_eq_some_iff.1 ha).1
                      rw [List.getElem?_append_left (by rw [hnews.length]; exact hlt)] at hv
                      exact hnews.at hv ha
                    have := hC.kill ho (p := .blk w.heap.size cap3 te.size) (w' := w') q1 q2 q3 (Nat.le_of_lt hg2l) (fun k hk' _ => hblk k hk') (fun g' c' s' e' => by cases e'; exact ⟨hg2l, .inr (Nat.le_refl _)⟩) hobj' (fun _ => hunew) hfix
                    refine ⟨_, _, _, S, ?_, this.1, this.2, .one (.cell (.own id _ w.heap.size cap3 te.size (put_same _ _ _) hc3 hm3)), hid⟩
                    rw [ev, ey]
                    exact exec_value hrun
  · trivial
theorem appendPA_sound (hT : TabOk E.P tt) {t ty e : TypeId} {te : TI} (he : elemOfA tt t = some (e, te)) (x y : Operand) (q b : AV) (hx : opnd s.tm x = some q) (hy : opnd s.tm y = some b) (ys : List (List AV)) (p : Prop) (hys : rowsA s.hp b = some (ys, p)) :
    (appendPA s e te ys p q).Sound E s (fun ρ => do pure (.value (← Builtin.append_ #[t, t] ty #[ρ x, ρ y]))) := by
  obtain ⟨hu, it, dt, hk⟩ := elemOfA_ok hT he
  obtain ⟨z, hz, hzc⟩ := hk.zero
  have hzs : z.cells.size = te.size := by rw [← hk.zlen, ← hzc]; simp
  cases q with
  | own id len =>
    simp only [appendPA]
    cases ho : look s.hp id with
    | none => trivial
    | some o =>
      cases o with
      | box cs => trivial
      | map => trivial
      | ranged => trivial
      | clo => trivial
      | nest e' sz rows => trivial
      | list e' sz rows =>
        simp only
        cases hb : (Nat.beq e e' && Nat.beq sz te.size) with
        | false => trivial
        | true =>
          simp only [cond_true]
          simp only [Bool.and_eq_true] at hb
          have hee := Nat.eq_of_beq_eq_true hb.1
          have hse := Nat.eq_of_beq_eq_true hb.2
          subst hee hse
          rintro ⟨hlen, hbytes, hmax, hp, hrow⟩ hfix a w ι S hC hTm
          obtain ⟨hid, _, hob⟩ := hC.obj id _ ho
          have hpos : 0 < te.size := by cases hob <;> assumption
          have hur : ∀ r ∈ rows, r.length = te.size := by
            cases hob with
            | nil => intro r hr; cases hr
            | list g cap _ _ _ vs h hs hr hle hm hw hn hc => exact hr
          have hur' : ∀ r ∈ rows.take len ++ ys, r.length = te.size := by
            intro r hr
            rcases List.mem_append.1 hr with hr | hr
            · exact hur r (List.mem_of_mem_take hr)
            · exact hrow r hr
          have hrl : (rows.take len ++ ys).length = len + ys.length := by simp; omega
          obtain ⟨ad, cap2, news, ey, hnews, hnone, hcell⟩ := rows_read hC hTm hy hys hp hrow hpos
          have hnl : news.length = ys.length * te.size := by rw [hnews.length, flatten_length _ hrow]
          have hfl : (rows.take len ++ ys).flatten = rows.flatten.take (len * te.size) ++ ys.flatten := by rw [List.flatten_append, flatten_take _ _ hur]
          -- three cases of where it lies
          rcases (opnd_rel hTm hx).1.own_inv with ⟨g, cap, s2, hg, h1, h2, ev⟩ | ⟨hg, rfl, ev⟩
          · cases hob with
            | nil _ _ h' _ => rw [hg] at h'; cases h'
            | list g' cap' _ _ _ vs h' hs hr hle hm hw hn hc =>
              rw [hg] at h'; simp at h'; obtain ⟨rfl, rfl, rfl⟩ := h'
              have hmul : rows.length * te.size ≤ cap * te.size := Nat.mul_le_mul_right _ hle
              have hmul2 : len * te.size ≤ rows.length * te.size := Nat.mul_le_mul_right _ hlen
              have hflen : rows.flatten.length = rows.length * te.size := flatten_length _ hur
              by_cases hroom : len + ys.length ≤ cap
              · -- in place
                have hmul3 : (len + ys.length) * te.size ≤ cap * te.size := Nat.mul_le_mul_right _ hroom
                rw [Nat.add_mul] at hmul3
                have hrun : ∃ rest : List Value, (Builtin.append_ #[t, t] ty #[a.eval x, a.eval y]).run E.P w = .ok (.slice (some ⟨g, 0, none⟩) (len + ys.length) cap) (w.setRow g (vs.take (len * te.size) ++ news ++ rest).toArray) ∧ (vs.take (len * te.size) ++ news ++ rest).length = cap * te.size := by
                  cases ad with
                  | none =>
                    have := hnone rfl
                    subst this
                    have hn0 : news = [] := List.eq_nil_of_length_eq_zero (by simpa using hnl)
                    subst hn0
                    refine ⟨vs.drop (len * te.size), ?_, by simp [hn]⟩
                    rw [ev, ey]
                    have hself : w.setRow g vs.toArray = w := setRow_self w g vs.toArray e (0, 0) hw
                    simp only [List.append_nil, List.take_append_drop, hself]
                    simpa using run_append_none (P := E.P) (w := w) (ty := ty) hu hk.info (some ⟨g, 0, none⟩) len cap cap2 (by simpa using hroom)
                  | some d =>
                    have hr' := run_append_room (P := E.P) w t ty e it hu hk.info g len cap vs.toArray hw d ys.length cap2 news (by rw [hk.size]; exact hnl) (hcell d rfl) hnews.oneRd hroom (by rw [hk.size]; simp [hn, hnl]; omega)
                    rw [hk.size] at hr'
                    refine ⟨vs.drop (len * te.size + news.length), ?_, by simp only [List.length_append, List.length_take, List.length_drop, hn, hnl]; omega⟩
                    rw [ev, ey]
                    exact hr'
                obtain ⟨rest, hrun, hlen2⟩ := hrun
                have hb' : ∀ k, k < w.heap.size → (∀ c s, ι id ≠ some (.blk k c s)) → (w.setRow g (vs.take (len * te.size) ++ news ++ rest).toArray).heap[k]? = w.heap[k]? := fun k _ hk' => setRow_other w g k _ fun e' => hk' cap te.size (e' ▸ hg)
                have hS : ∀ b, S b → (w.setRow g (vs.take (len * te.size) ++ news ++ rest).toArray).heap[b]? = w.heap[b]? := fun b hb => hb' b (hC.lt b hb) fun c s' e' => hC.dis b hb ⟨id, c, s', e'⟩
                have hobj : ObjOk (w.setRow g (vs.take (len * te.size) ++ news ++ rest).toArray) S (put ι id (some (.blk g cap te.size))) id (.list e te.size (rows.take len ++ ys)) := by
                  refine .list g cap e te.size _ (vs.take (len * te.size) ++ news ++ rest) (put_same _ _ _) hpos hur' (by rw [hrl]; exact hroom) hm (setRow_heap w g _ _ e _ hw) hlen2 fun i v av hv ha => ?_
                  rw [hfl] at ha
                  exact (app_at hc hnews (by rw [hn]; omega) (by omega) i v av hv ha).mono fun b hb => ⟨hb, hS b hb⟩
                have := hC.kill ho (p := .blk g cap te.size) (w' := w.setRow g (vs.take (len * te.size) ++ news ++ rest).toArray) rfl rfl rfl (by simp) hb' (fun g' c' s' e' => by cases e'; exact ⟨by have := (hC.own id g cap te.size hg).1; simpa using this, .inl ⟨_, _, hg⟩⟩) hobj trivial hfix
                exact ⟨_, _, _, S, exec_value hrun, this.1, this.2, .one (.cell (.own id _ g cap te.size (put_same _ _ _) hroom hm)), hid⟩
              · -- a new block
                have hyne : ys ≠ [] := fun e' => by subst e'; simp at hroom; omega
                obtain ⟨d, rfl⟩ : ∃ d, ad = some d := by
                  cases ad with
                  | none => exact absurd (hnone rfl) hyne
                  | some d => exact ⟨d, rfl⟩
                have hr' := run_append_grow (P := E.P) w t ty e it z hu hk.info hz ⟨g, 0, none⟩ len cap (vs.take (len * te.size)) (by rw [hk.size, List.length_take, hn]; omega) (fun j v hj => by
                  rw [Addr.add_none, Nat.zero_add]
                  rw [List.getElem?_take] at hj
                  split at hj
                  · exact cells_of_block hw j v hj
                  · cases hj) d ys.length cap2 news (by rw [hk.size]; exact hnl) (hcell d rfl) (by omega) (by simp only [maxLen] at hmax; omega) (growslice_fits (by omega) (by rw [hk.bytes]; exact hbytes))
                have hge := grownCap_ge w (len + ys.length) cap e
                have hle2 := grownCap_le_maxLen w (len + ys.length) cap e hmax
                have hcells : (vs.take (len * te.size)).toArray ++ news.toArray ++ Builtin.zeroCells z.cells (grownCap w (len + ys.length) cap e - (len + ys.length)) = (vs.take (len * te.size) ++ news ++ (Builtin.zeroCells z.cells (grownCap w (len + ys.length) cap e - (len + ys.length))).toList).toArray := by
                  exact Array.ext' (by simp)
                rw [hcells] at hr'
                have hb' : ∀ k, k < w.heap.size → (∀ c s, ι id ≠ some (.blk k c s)) → (w.drew.alloc (.cells (vs.take (len * te.size) ++ news ++ (Builtin.zeroCells z.cells (grownCap w (len + ys.length) cap e - (len + ys.length))).toList).toArray e)).heap[k]? = w.heap[k]? := fun k hk' _ => Below.heap_alloc w.drew _ k hk'
                have hobj : ObjOk (w.drew.alloc (.cells (vs.take (len * te.size) ++ news ++ (Builtin.zeroCells z.cells (grownCap w (len + ys.length) cap e - (len + ys.length))).toList).toArray e)) S (put ι id (some (.blk w.heap.size (grownCap w (len + ys.length) cap e) te.size))) id (.list e te.size (rows.take len ++ ys)) := by
                  refine .list w.heap.size _ e te.size _ _ (put_same _ _ _) hpos hur' (by rw [hrl]; exact hge) hle2 (heap_alloc_new w.drew _) ?_ fun i v av hv ha => ?_
                  · simp only [List.length_append, List.length_take, hn, hnl, Array.length_toList, size_zeroCells, hzs, Nat.min_eq_left (Nat.le_trans hmul2 hmul), ← Nat.add_mul]
                    congr 1; omega
                  · rw [hfl] at ha
                    exact Rd.mono (w := w) (S := S) (fun b hb => ⟨hb, Below.heap_alloc w.drew _ b (hC.lt b hb)⟩) (app_at hc hnews (by rw [hn]; omega) (by omega) i v av hv ha)
                have := hC.kill ho (p := .blk w.heap.size (grownCap w (len + ys.length) cap e) te.size) (w' := w.drew.alloc _) rfl rfl rfl (by simp) hb' (fun g' c' s' e' => by cases e'; exact ⟨by simp, .inr (Nat.le_refl _)⟩) hobj trivial hfix
                refine ⟨_, _, _, S, ?_, this.1, this.2, .one (.cell (.own id _ w.heap.size _ te.size (put_same _ _ _) hge hle2)), hid⟩
                dsimp only
                rw [ev, ey]
                exact exec_value hr'
          · have hrows : rows = [] := by
              cases hob with
              | nil => rfl
              | list g' cap' _ _ _ vs h' hs hr hle hm hw hn hc => rw [hg] at h'; cases h'
            subst hrows
            simp only [List.take_nil, List.nil_append, Nat.zero_add] at *
            by_cases hy0 : ys = []
            · subst hy0
              have hobj : ObjOk w S (put ι id (some .nil)) id (.list e te.size []) := .nil e te.size (put_same _ _ _) hpos
              have := hC.kill ho (p := .nil) (w' := w) rfl rfl rfl (Nat.le_refl _) (fun k _ _ => rfl) (fun g' c' s' e' => by cases e') hobj trivial hfix
              refine ⟨.slice none 0 0, w, _, S, ?_, this.1, this.2, .one (.cell (.own0 id (put_same _ _ _))), hid⟩
              rw [ev, ey]
              refine exec_value ?_
              cases ad with
              | none => exact run_append_none hu hk.info none 0 0 cap2 (Nat.le_refl _)
              | some d => simp [Builtin.append_, run_underlying hu, sizeOf, typeInfo, hk.info, Builtin.lenOf, Builtin.firstCells, loadCells, loadCellsFrom]
            · obtain ⟨d, rfl⟩ : ∃ d, ad = some d := by
                cases ad with
                | none => exact absurd (hnone rfl) hy0
                | some d => exact ⟨d, rfl⟩
              have hypos : 0 < ys.length := List.length_pos_iff.2 hy0
              have hr' := run_append_nil (P := E.P) w t ty e it z hu hk.info hz d ys.length cap2 news (by rw [hk.size]; exact hnl) (hcell d rfl) hypos (by simp only [maxLen] at hmax; omega) (by rw [hk.bytes]; omega)
              have hge := grownCap_ge w ys.length 0 e
              have hle2 := grownCap_le_maxLen w ys.length 0 e hmax
              have hcells : news.toArray ++ Builtin.zeroCells z.cells (grownCap w ys.length 0 e - ys.length) = (news ++ (Builtin.zeroCells z.cells (grownCap w ys.length 0 e - ys.length)).toList).toArray := Array.ext' (by simp)
              rw [hcells] at hr'
              have hobj : ObjOk (w.drew.alloc (.cells (news ++ (Builtin.zeroCells z.cells (grownCap w ys.length 0 e - ys.length)).toList).toArray e)) S (put ι id (some (.blk w.heap.size (grownCap w ys.length 0 e) te.size))) id (.list e te.size ys) := by
                refine .list w.heap.size _ e te.size _ _ (put_same _ _ _) hpos hrow hge hle2 (heap_alloc_new w.drew _) ?_ fun i v av hv ha => ?_
                · simp only [List.length_append, hnl, Array.length_toList, size_zeroCells, hzs, ← Nat.add_mul]
                  congr 1; omega
                · have := app_at (R := Rd w S) (vs := ([] : List Value)) (fl := []) (n := 0) (rest := (Builtin.zeroCells z.cells (grownCap w ys.length 0 e - ys.length)).toList) (fun i v a h _ => by simp at h) hnews (Nat.zero_le _) (Nat.zero_le _) i v av (by simpa using hv) (by simpa using ha)
                  exact Rd.mono (w := w) (S := S) (fun b hb => ⟨hb, Below.heap_alloc w.drew _ b (hC.lt b hb)⟩) this
              have := hC.kill ho (p := .blk w.heap.size (grownCap w ys.length 0 e) te.size) (w' := w.drew.alloc _) rfl rfl rfl (by simp) (fun k hk' _ => Below.heap_alloc w.drew _ k hk') (fun g' c' s' e' => by cases e'; exact ⟨by simp, .inr (Nat.le_refl _)⟩) hobj trivial hfix
              refine ⟨_, _, _, S, ?_, this.1, this.2, .one (.cell (.own id _ w.heap.size _ te.size (put_same _ _ _) hge hle2)), hid⟩
              rw [ev, ey]
              exact exec_value hr'
  | val u =>
    unfold appendPA
    split
    · rename_i heq; cases heq
    · rename_i heq
      cases heq
      cases hb : Nat.blt 0 te.size with
      | false => trivial
      | true =>
        simp only [cond_true, szOf_eq]
        have hpos : 0 < te.size := Nat.le_of_ble_eq_true hb
        rintro ⟨hbytes, hmax, hp, hrow⟩ a w ι S hC hTm
        have ev := (opnd_rel hTm hx).1.val_inv.1
        obtain ⟨ad, cap2, news, ey, hnews, hnone, hcell⟩ := rows_read hC hTm hy hys hp hrow hpos
        have hnl : news.length = ys.length * te.size := by rw [hnews.length, flatten_length _ hrow]
        by_cases hy0 : ys = []
        · subst hy0
          have hL : Later w w S S ι (put ι s.nx (some .nil)) (· < s.nx) := ⟨fun b hb => ⟨hb, rfl⟩, fun i q hi h => by rw [put_id _ _ (by first | omega | (dsimp only; omega) | (dsimp only at *; omega))]; exact h⟩
          have hput : ∀ i g c s', put ι s.nx (some .nil) i = some (.blk g c s') → ι i = some (.blk g c s') := by
            intro i g c s' h
            by_cases hi : i = s.nx
            · subst hi; rw [put_same] at h; cases h
            · rwa [put_ne _ _ hi] at h
          refine ⟨.slice none 0 0, w, put ι s.nx (some .nil), S, ?_, ⟨hC.frame, hC.sub, hC.lt, fun b hb h => ?_, fun i g c s' h => hC.own i g c s' (hput i g c s' h), fun i j g c d s1 s2 h1 h2 => hC.inj i j g c d s1 s2 (hput _ _ _ _ h1) (hput _ _ _ _ h2), fun i hi => ?_, fun i o h => ?_, fun i q h => ?_, hC.fxs⟩, Nat.le_succ _, hL, .one (.cell (.own0 s.nx (put_same _ _ _))), Nat.lt_succ_self _⟩
          · dsimp only
            rw [ev, ey]
            refine exec_value ?_
            cases ad with
            | none => exact run_append_none hu hk.info none 0 0 cap2 (Nat.le_refl _)
            | some d => simp [Builtin.append_, run_underlying hu, sizeOf, typeInfo, hk.info, Builtin.lenOf, Builtin.firstCells, loadCells, loadCellsFrom]
          · obtain ⟨i, c, s', h⟩ := h
            exact hC.dis b hb ⟨i, c, s', hput _ _ _ _ h⟩
          · rw [put_id _ _ (by first | omega | (dsimp only; omega) | (dsimp only at *; omega))]; exact hC.new i (by omega)
          · rw [look_cons] at h
            split at h
            · rename_i e'
              subst e'
              simp at h
              subst h
              exact ⟨Nat.lt_succ_self _, trivial, .nil e te.size (put_same _ _ _) hpos⟩
            · have ⟨h1, h2, h3⟩ := hC.obj i o h
              refine ⟨Nat.lt_succ_of_lt h1, ?_, h3.mono hL h1 h2 (fun _ k q hk hq => by rw [put_id _ _ (by rw [hk]; exact Nat.ne_of_lt h1)]; exact hq) (fun _ _ _ _ _ _ => rfl)⟩
              cases o with
              | box cs => exact fun c hc j hj => Nat.lt_succ_of_lt (h2 c hc j hj)
              | list => trivial
              | map => trivial
              | ranged => trivial
              | clo => exact ⟨fun c hc j hj => Nat.lt_succ_of_lt (h2.1 c hc j hj), fun c hc j hj => Nat.lt_succ_of_lt (h2.2 c hc j hj)⟩
              | nest => exact fun h0 c hc j hj => Nat.lt_succ_of_lt (h2 h0 c hc j hj)
          · have h' := hC.stay i q h
            by_cases hi : i = s.nx
            · subst hi; rw [hC.new _ (Nat.le_refl _)] at h'; cases h'
            · rw [put_id _ _ hi]; exact h'
        · obtain ⟨d, rfl⟩ : ∃ d, ad = some d := by
            cases ad with
            | none => exact absurd (hnone rfl) hy0
            | some d => exact ⟨d, rfl⟩
          have hypos : 0 < ys.length := List.length_pos_iff.2 hy0
          have hr' := run_append_nil (P := E.P) w t ty e it z hu hk.info hz d ys.length cap2 news (by rw [hk.size]; exact hnl) (hcell d rfl) hypos (by simp only [maxLen] at hmax; omega) (by rw [hk.bytes]; omega)
          have hge := grownCap_ge w ys.length 0 e
          have hle2 := grownCap_le_maxLen w ys.length 0 e hmax
          have hcells : news.toArray ++ Builtin.zeroCells z.cells (grownCap w ys.length 0 e - ys.length) = (news ++ (Builtin.zeroCells z.cells (grownCap w ys.length 0 e - ys.length)).toList).toArray := Array.ext' (by simp)
          rw [hcells] at hr'
          have hCd : Core E ι S s.hp s.nx w.drew := hC.drew
          have hobj : ObjOk (w.drew.alloc (.cells (news ++ (Builtin.zeroCells z.cells (grownCap w ys.length 0 e - ys.length)).toList).toArray e)) S (put ι s.nx (some (.blk w.drew.heap.size (grownCap w ys.length 0 e) te.size))) s.nx (.list e te.size ys) := by
            refine .list w.heap.size _ e te.size _ _ (put_same _ _ _) hpos hrow hge hle2 (heap_alloc_new w.drew _) ?_ fun i v av hv ha => ?_
            · simp only [List.length_append, hnl, Array.length_toList, size_zeroCells, hzs, ← Nat.add_mul]
              congr 1; omega
            · have := app_at (R := Rd w S) (vs := ([] : List Value)) (fl := []) (n := 0) (rest := (Builtin.zeroCells z.cells (grownCap w ys.length 0 e - ys.length)).toList) (fun i v a h _ => by simp at h) hnews (Nat.zero_le _) (Nat.zero_le _) i v av (by simpa using hv) (by simpa using ha)
              exact Rd.mono (w := w) (S := S) (fun b hb => ⟨hb, Below.heap_alloc w.drew _ b (hC.lt b hb)⟩) this
          have := hCd.alloc hobj trivial
          refine ⟨_, _, _, S, ?_, this.1, Nat.le_succ _, ⟨fun b hb => ⟨hb, Below.heap_alloc w.drew _ b (hC.lt b hb)⟩, this.2.at_⟩, .one (.cell (.own s.nx _ w.heap.size _ te.size (put_same _ _ _) hge hle2)), Nat.lt_succ_self _⟩
          dsimp only
          rw [ev, ey]
          exact exec_value hr'
    · trivial
  | _ => trivial

theorem minA_sound (x y : Operand) (ty : TypeId) (tys : Array TypeId) : (minA s x y).Sound E s (fun ρ => do pure (.value (← Builtin.min_ tys ty #[ρ x, ρ y]))) := by
  unfold minA
  cases hx : opnd s.tm x with
  | none => trivial
  | some p =>
    cases p with
    | val u =>
      cases u with
      | int k n =>
        cases hy : opnd s.tm y with
        | none => trivial
        | some q =>
          cases q with
          | val u' =>
            cases u' with
            | int k' n' =>
              intro a w ι S hC hTm
              have e1 := (opnd_rel hTm hx).1.val_inv.1
              have e2 := (opnd_rel hTm hy).1.val_inv.1
              refine Good.same hC (v := .int k (minI n n')) ?_ (.one (.cell (.rd (.val _ rfl)))) trivial
              dsimp only
              rw [e1, e2]
              refine exec_value ?_
              simp [Builtin.min_, Builtin.min2, minI]
            | _ => trivial
          | _ => trivial
      | _ => trivial
    | _ => trivial
theorem copyPA_sound (hT : TabOk E.P tt) {t ty e : TypeId} {te : TI} (he : elemOfA tt t = some (e, te)) (x y : Operand) (q b : AV) (hx : opnd s.tm x = some q) (hy : opnd s.tm y = some b) (ys : List (List AV)) (p : Prop) (hys : rowsA s.hp b = some (ys, p)) :
    (copyPA s te ys p q).Sound E s (fun ρ => do pure (.value (← Builtin.copy_ #[t, t] ty #[ρ x, ρ y]))) := by
  obtain ⟨hu, it, dt, hk⟩ := elemOfA_ok hT he
  cases q with
  | sb id row off len =>
    simp only [copyPA]
    cases ho : look s.hp id with
    | none => trivial
    | some o =>
      cases o with
      | list e sz rows => trivial
      | map => trivial
      | ranged => trivial
      | clo => trivial
      | nest e sz rows => trivial
      | box cs =>
        simp only
        cases hb : (Nat.beq te.size 1 && Nat.blt 0 len) with
        | false => trivial
        | true =>
          simp only [cond_true]
          simp only [Bool.and_eq_true] at hb
          have hs1 := Nat.eq_of_beq_eq_true hb.1
          have hl0 : 0 < len := Nat.le_of_ble_eq_true hb.2
          rintro ⟨hp, hrow, hle⟩ a w ι S hC hTm
          obtain ⟨hid, huo, hob⟩ := hC.obj id _ ho
          have hpx := opnd_rel hTm hx
          obtain ⟨ad, cap2, news, ey, hnews, hnone, hcell⟩ := rows_read hC hTm hy hys hp hrow (by decide)
          have hnl : news.length = ys.length := by rw [hnews.length, flatten_length _ hrow, Nat.mul_one]
          have hfl : (ys.take len).flatten = ys.flatten.take len := by
            have := flatten_take (s := 1) ys len hrow
            rw [Nat.mul_one] at this; exact this
          cases hob with
          | box g c sz T cs vs h h0 hw hc =>
            subst h0
            obtain ⟨capx, ev⟩ : ∃ capx, a.eval x = .slice (some ⟨g, off, none⟩) len capx := by
              generalize a.eval x = v at hpx
              cases hpx.1 with
              | one h' => cases h' with
                | cell h' => cases h' with
                  | rd h' => cases h'
                  | sb _ _ _ _ g' c' s' o' cap' h' h1 h2 ho =>
                    rw [h] at h'; simp at h'; obtain ⟨rfl, _, rfl⟩ := h'
                    obtain rfl := ho hl0
                    exact ⟨cap', by simp⟩
                  | sb0 => omega
            have hnl2 : (news.take len).length = ((ys.take len).flatten).length := by rw [hfl, List.length_take, List.length_take, hnl, flatten_length _ hrow, Nat.mul_one]
            have hcr : All2 (CRel w S ι) (news.take len) ((ys.take len).flatten) := by
              rw [hfl]
              exact All2.mono (fun _ _ h => .rd h) (hnews.take len)
            have hlen2 : (news.take len).length ≤ len := by rw [List.length_take]; omega
            have hst := storeCells_row (P := E.P) (o := off) hw (news := news.take len) (by rw [hc.length]; omega) (one_of_all2 hcr)
            have hS : ∀ b, S b → b ≠ g := fun b hb e => hC.dis b hb ⟨id, c, 0, e ▸ h⟩
            have hL : ∀ K new, Later w (w.setRow g new) S S ι ι K := fun K new => ⟨fun b hb => ⟨hb, setRow_other w g b _ (hS b hb)⟩, fun _ _ _ h => h⟩
            have hrel : All2 (CRel w S ι) (vs.take off ++ news.take len ++ vs.drop (off + (news.take len).length)) (cs.take off ++ (ys.take len).flatten ++ cs.drop (off + (ys.take len).flatten.length)) := by
              rw [hnl2]; exact ((hc.take off).append hcr).append (hc.drop _)
            have hu2 : ∀ y ∈ cs.take off ++ (ys.take len).flatten ++ cs.drop (off + (ys.take len).flatten.length), ∀ id, y.idOf = some id → id < s.nx := by
              intro y hy'
              simp only [List.mem_append] at hy'
              rcases hy' with (hy' | hy') | hy'
              · exact huo y (List.mem_of_mem_take hy')
              · intro i hi
                obtain ⟨j, hj, ej⟩ := List.mem_iff_getElem.1 hy'
                have hj' : ((ys.take len).flatten)[j]? = some y := by rw [List.getElem?_eq_getElem hj, ej]
                rw [hfl] at hj'
                have hlt : j < (news.take len).length := by rw [hnl2]; exact hj
                have := (hnews.take len).at (List.getElem?_eq_getElem hlt) hj'
                rw [this.noid] at hi; cases hi
              · exact huo y (List.mem_of_mem_drop hy')
            have := hC.set (new := vs.take off ++ news.take len ++ vs.drop (off + (news.take len).length)) ho h hw (.box g c 0 T _ _ h rfl (setRow_heap w g _ _ T _ hw) (All2.of hrel.length fun i y z hy hz => (hrel.at hy hz).mono (hL (fun _ => True) _) (fun _ _ => trivial))) hu2
            refine ⟨.int .i64 ((Nat.min ys.length len : Nat) : Int), _, ι, S, ?_, this.1, Nat.le_refl _, this.2, .one (.cell (.rd (.val _ rfl))), trivial⟩
            refine exec_value ?_
            rw [ev, ey]
            have hfirst : (Builtin.firstCells te.size (Nat.min ys.length len) (.slice ad ys.length cap2)).run E.P w = .ok (news.take len).toArray w := by
              cases ad with
              | none =>
                have := hnone rfl
                subst this
                have : news = [] := List.eq_nil_of_length_eq_zero (by simpa using hnl)
                subst this
                simp [Builtin.firstCells]
              | some d =>
                simp only [Builtin.firstCells]
                have hl := run_loadCells_list (P := E.P) w d (news.take len) (fun j v hj => by
                  rw [List.getElem?_take] at hj
                  split at hj
                  · exact hcell d rfl j v hj
                  · cases hj)
                have e1 : (news.take len).length = Nat.min ys.length len * te.size := by rw [hs1, Nat.mul_one, List.length_take, hnl]; exact Nat.min_comm _ _
                rw [e1] at hl
                exact hl
            have hsz := hk.sizeOf w
            simp only [Builtin.copy_, Builtin.lenOf, Sem.run_bind, run_underlying hu, Result.andThen_ok, Sem.run_pure, hsz, hfirst, List.getElem?_toArray, List.getElem?_cons_zero, List.getElem?_cons_succ]
            first | done | skip
            simp [hst, goInt]
  | _ => trivial
theorem rangeA_sound (hT : TabOk E.P tt) (t : TypeId) (x : Operand) : (rangeA tt s t x).Sound E s (fun ρ => do pure (.value (← Instr.range t (ρ x)))) := by
  unfold rangeA
  cases hm : mapOfA tt t with
  | none => trivial
  | some km =>
    obtain ⟨ks, te⟩ := km
    obtain ⟨kt, et, fields, h1, _⟩ := mapOfA_ok hT hm
    simp only
    cases hx : opnd s.tm x with
    | none => trivial
    | some p =>
      cases p with
      | mp id =>
        simp only
        cases hl : look s.hp id with
        | none => trivial
        | some o =>
          cases o with
          | map ks' rows =>
            intro _ hfix a w ι S hC hTm
            obtain ⟨gm, em, hgm⟩ := (opnd_rel hTm hx).1.mp_inv
            obtain ⟨hid, _, hob⟩ := hC.obj id _ hl
            cases hob with
            | map g' clock _ _ es h hw he hb =>
              rw [hgm] at h
              simp only [Option.some.injEq, Pl.blk.injEq] at h
              obtain ⟨rfl, _⟩ := h
              have hk1 : (⟨id, []⟩ : Key) ≠ ⟨id, [0]⟩ := fun e => by cases e
              let ι' : Loc := put (put ι ⟨id, []⟩ (some (.blk w.heap.size 0 2))) ⟨id, [0]⟩ (some (.blk gm 0 1))
              have i1 : ι' ⟨id, []⟩ = some (.blk w.heap.size 0 2) := (put_ne _ _ hk1).trans (put_same _ _ _)
              have i2 : ι' ⟨id, [0]⟩ = some (.blk gm 0 1) := put_same _ _ _
              have i3 : ∀ k : Key, k.id ≠ id → ι' k = ι k := fun k hk => (put_id _ _ hk).trans (put_id _ _ hk)
              have hι : ∀ (k : Key) g c z, ι' k = some (.blk g c z) → (k = ⟨id, [0]⟩ ∧ g = gm) ∨ (k = ⟨id, []⟩ ∧ g = w.heap.size) ∨ (k ≠ ⟨id, []⟩ ∧ ι k = some (.blk g c z)) := by
                intro k g c z hk
                by_cases e0 : k = ⟨id, [0]⟩
                · subst e0; rw [i2] at hk; simp only [Option.some.injEq, Pl.blk.injEq] at hk; exact .inl ⟨rfl, hk.1.symm⟩
                · by_cases e1 : k = ⟨id, []⟩
                  · subst e1; rw [i1] at hk; simp only [Option.some.injEq, Pl.blk.injEq] at hk; exact .inr (.inl ⟨rfl, hk.1.symm⟩)
                  · exact .inr (.inr ⟨e1, by rw [← hk]; exact ((put_ne _ _ e0).trans (put_ne _ _ e1)).symm⟩)
              have hold : ∀ b, b < w.heap.size → (w.alloc (.mapIter (some gm) clock #[] clock)).heap[b]? = w.heap[b]? := fun b hb => Below.heap_alloc _ _ _ hb
              have hgl := (hC.own ⟨id, []⟩ gm _ _ hgm)
              have hL : Later w (w.alloc (.mapIter (some gm) clock #[] clock)) S S ι ι' (fun i => i < s.nx ∧ memB i [id] = false) := by
                refine ⟨fun b hb => ⟨hb, hold b (hC.lt b hb)⟩, fun i q hi hq => ?_⟩
                have : i ≠ id := fun e => by subst e; simp [memB] at hi
                rw [i3 ⟨i, []⟩ this]; exact hq
              have hnew : ObjOk (w.alloc (.mapIter (some gm) clock #[] clock)) S ι' id (.ranged ks' none rows) := by
                refine .ranged w.heap.size gm clock ks' none rows #[] es i1 i2 (heap_alloc_new w _) ((hold gm hgl.1).trans hw) hb ?_ (fun r hr => by cases hr)
                have : (es.filter fun e => !(#[] : Array Nat).contains e.born) = es := List.filter_eq_self.2 fun e _ => by simp
                rw [this]
                exact he.mono fun _ _ h => h.mono fun b hb => ⟨hb, hold b (hC.lt b hb)⟩
              refine ⟨_, _, ι', S, exec_value ((congrArg (fun v => (Instr.range t v).run E.P w) em).trans (run_range_map w t kt et gm es.toArray clock h1 hw)), ⟨?_, hC.sub, fun b hb => by have := hC.lt b hb; simp; omega, ?_, ?_, ?_, ?_, ?_, ?_, hC.fxs⟩, hL, ?_, hid⟩
              · exact hC.frame.trans (Frame.of_below (D := E.D) ((Below.refl _ _).alloc (Nat.le_refl _) _)) (fun _ _ h => h)
              · rintro b hb' ⟨k, c, z, hk⟩
                rcases hι k b c z hk with ⟨_, rfl⟩ | ⟨_, rfl⟩ | ⟨_, hk⟩
                · exact hC.dis _ hb' ⟨_, _, _, hgm⟩
                · have := hC.lt _ hb'; omega
                · exact hC.dis b hb' ⟨k, c, z, hk⟩
              · intro k g c z hk
                rcases hι k g c z hk with ⟨_, rfl⟩ | ⟨_, rfl⟩ | ⟨_, hk⟩
                · exact ⟨by simp; omega, hgl.2⟩
                · exact ⟨by simp, .inl hC.frame.size⟩
                · have := hC.own k g c z hk
                  exact ⟨by simp; omega, this.2⟩
              · intro i j g c d z r hi hj
                have other : ∀ (k : Key) c z, k ≠ ⟨id, []⟩ → ι k = some (.blk gm c z) → False := fun k c z hne hk => hne (hC.inj k ⟨id, []⟩ gm _ _ _ _ hk hgm)
                have fresh : ∀ (k : Key) c z, ι k = some (.blk w.heap.size c z) → False := fun k c z hk => by have := (hC.own k _ _ _ hk).1; omega
                rcases hι i g c z hi with ⟨e1, e2⟩ | ⟨e1, e2⟩ | ⟨n1, h1'⟩ <;> rcases hι j g d r hj with ⟨e3, e4⟩ | ⟨e3, e4⟩ | ⟨n2, h2'⟩
                · rw [e1, e3]
                · have := hgl.1; omega
                · subst e2; exact (other j _ _ n2 h2').elim
                · have := hgl.1; omega
                · rw [e1, e3]
                · subst e2; exact (fresh j _ _ h2').elim
                · subst e4; exact (other i _ _ n1 h1').elim
                · subst e4; exact (fresh i _ _ h1').elim
                · exact hC.inj i j g _ _ _ _ h1' h2'
              · intro k hk
                rw [i3 k (by omega)]
                exact hC.new k hk
              · intro i oi hi
                rw [look_cons] at hi
                split at hi
                · rename_i e
                  subst e
                  simp only [Option.some.injEq] at hi
                  subst hi
                  exact ⟨hid, trivial, hnew⟩
                · rename_i hne
                  rw [look_killH] at hi
                  simp only [Option.map_eq_some_iff] at hi
                  obtain ⟨o0, h0, rfl⟩ := hi
                  obtain ⟨k1, k2, k3⟩ := hC.obj i o0 h0
                  have := k3.kill (ks := [id]) hL k1 (by simp only [memB]; have : Nat.beq i id = false := (by rw [Bool.eq_false_iff]; intro e; exact hne (Nat.eq_of_beq_eq_true e).symm); rw [this]; rfl) k2 (fun _ k q hk hq => by rw [i3 k (by rw [hk]; exact fun e => hne e.symm)]; exact hq) (fun k g c z _ hg => hold g (hC.own k g c z hg).1)
                  exact ⟨k1, this.1, this.2⟩
              · intro i q hq
                have : i ≠ id := fun e => by subst e; rw [hfix] at hq; cases hq
                rw [i3 ⟨i, []⟩ this]; exact hC.stay i q hq
              · have := CRel.pt (w := w.alloc (.mapIter (some gm) clock #[] clock)) (S := S) (ι := ι') id 0 0 w.heap.size 0 2 i1
                exact .one (.cell (by simpa using this))
          | _ => trivial
      | _ => trivial
theorem SR.Sound.congr {f g : (Operand → Value) → Sem Next} (h : ∀ (a : Act) (w : World), (f a.eval).run E.P w = (g a.eval).run E.P w) {r : SR} (hf : r.Sound E s f) : r.Sound E s g := by
  cases r with
  | no => trivial
  | ok av => exact fun a w ι S hC hTm => by rw [← h a w]; exact hf a w ι S hC hTm
  | cond p av => exact fun hp a w ι S hC hTm => by rw [← h a w]; exact hf hp a w ι S hC hTm
  | newP o => exact fun a w ι S hC hTm => by rw [← h a w]; exact hf a w ι S hC hTm
  | newM o => exact fun a w ι S hC hTm => by rw [← h a w]; exact hf a w ι S hC hTm
  | newC o => exact fun a w ι S hC hTm => by rw [← h a w]; exact hf a w ι S hC hTm
  | each id ks left => exact fun a w ι S hC hTm => by rw [← h a w]; exact hf a w ι S hC hTm
  | newL0 len o => exact fun a w ι S hC hTm => by rw [← h a w]; exact hf a w ι S hC hTm
  | newL p len o => exact fun hp a w ι S hC hTm => by rw [← h a w]; exact hf hp a w ι S hC hTm
  | kill p id av o => exact fun hp hx a w ι S hC hTm => by rw [← h a w]; exact hf hp hx a w ι S hC hTm
  | setB id o => exact fun a w ι S hC hTm => by rw [← h a w]; exact hf a w ι S hC hTm
  | set p id o => exact fun hp a w ι S hC hTm => by rw [← h a w]; exact hf hp a w ι S hC hTm
  | setV p id av o => exact fun hp a w ι S hC hTm => by rw [← h a w]; exact hf hp a w ι S hC hTm
  | call n args => exact fun a w ι S hC hTm => by rw [← h a w]; exact hf a w ι S hC hTm
  | pick b x y => exact fun a w ι S hTm => by rw [← h a w]; exact hf a w ι S hTm

theorem clearA_sound (hT : TabOk E.P tt) (t ty : TypeId) (x : Operand) : (clearA tt s t x).Sound E s (fun ρ => do pure (.value (← Builtin.clear_ #[t] ty #[ρ x]))) := by
  unfold clearA
  cases he : elemOfA tt t with
  | none => trivial
  | some et =>
    obtain ⟨e, te⟩ := et
    obtain ⟨hu, it, dt, hk⟩ := elemOfA_ok hT he
    simp only
    split
    · rename_i id row off l hx
      cases ho : look s.hp id with
      | none => trivial
      | some o =>
        cases o with
        | box cs => trivial
        | map => trivial
        | ranged => trivial
        | clo => trivial
        | nest e' sz rows => trivial
        | list e' sz rows =>
          simp only
          cases hb : (Nat.beq off 0 && Nat.beq sz te.size && Nat.blt 0 te.size) with
          | false => trivial
          | true =>
            simp only [cond_true]
            simp only [Bool.and_eq_true] at hb
            obtain rfl := Nat.eq_of_beq_eq_true hb.1.1
            obtain rfl := Nat.eq_of_beq_eq_true hb.1.2
            have hpos : 0 < te.size := Nat.le_of_ble_eq_true hb.2
            rintro ⟨hl0, hp⟩ a w ι S hC hTm
            obtain ⟨hid, huse, hob⟩ := hC.obj id _ ho
            have hvx := (opnd_rel hTm hx).1
            obtain ⟨z, hz, hzc⟩ := hk.zero
            have hzs : z.cells.size = te.size := by rw [← hk.zlen, ← hzc]; simp
            have hzl : (zeroA te).length = te.size := by simp [zeroA, hk.zlen]
            cases hob with
            | nil => simp at hp; omega
            | list g cap _ _ _ vs h hs hr hl hm hw hn hc =>
              obtain ⟨capx, evx⟩ : ∃ capx, a.eval x = .slice (some ⟨g, row * te.size, none⟩) l capx := by
                generalize a.eval x = v at hvx
                cases hvx with
                | one h' => cases h' with
                  | cell h' => cases h' with
                    | rd h' => cases h'
                    | sb _ _ _ _ g' c' s' o' cap' h' h1 h2 ho2 =>
                      rw [h] at h'; simp at h'; obtain ⟨rfl, rfl, rfl⟩ := h'
                      have := ho2 hl0
                      rw [Nat.add_zero] at this
                      exact ⟨cap', by rw [this]⟩
                    | sb0 => omega
              have hmul2 : (row + l) * te.size ≤ rows.length * te.size := Nat.mul_le_mul_right _ hp
              have hmul3 : rows.length * te.size ≤ cap * te.size := Nat.mul_le_mul_right _ hl
              rw [Nat.add_mul] at hmul2
              obtain ⟨news, hnews⟩ : ∃ news, news = (madeCells z.cells (l * te.size)).toList := ⟨_, rfl⟩
              have hnl : news.length = l * te.size := by rw [hnews]; simp [size_madeCells]
              have h0 : All2 (Rd w S) news ((List.replicate l (zeroA te)).flatten) := by
                rw [hnews]
                refine All2.of ?_ fun i v av hv ha => ?_
                · simp [size_madeCells, zeroA, hk.zlen]
                · have hv' := made_flat z.cells l i v (by rw [hzs]; exact hv) (by omega)
                  rw [flat_replicate _ _ _ (by rw [hzl, ← hzs]; exact hv'.1), hzl] at ha
                  rw [hzs, hzc] at hv'
                  simp only [zeroA, List.getElem?_map, hv'.2, Option.map_some, Option.some.injEq] at ha
                  subst ha
                  exact .val _ (hk.zone _ (List.mem_of_getElem? hv'.2))
              have hst := storeCells_row (P := E.P) (o := row * te.size) hw (news := news) (by omega) h0.oneRd
              have hS : ∀ b, S b → b ≠ g := fun b hb e => hC.dis b hb ⟨id, cap, te.size, e ▸ h⟩
              have hnew : (vs.take (row * te.size) ++ news ++ vs.drop (row * te.size + news.length)).length = vs.length := by
                simp only [List.length_append, List.length_take, List.length_drop, hn, hnl]; omega
              have hobj : ObjOk (w.setRow g (vs.take (row * te.size) ++ news ++ vs.drop (row * te.size + news.length)).toArray) S ι id (.list e' te.size (rows.take row ++ List.replicate l (zeroA te) ++ rows.drop (row + l))) := by
                have hlen2 : (rows.take row ++ List.replicate l (zeroA te) ++ rows.drop (row + l)).length = rows.length := by
                  simp only [List.length_append, List.length_take, List.length_drop, List.length_replicate]; omega
                have hrow2 : ∀ r ∈ rows.take row ++ List.replicate l (zeroA te) ++ rows.drop (row + l), r.length = te.size := by
                  intro r hr'
                  simp only [List.mem_append] at hr'
                  rcases hr' with (hr' | hr') | hr'
                  · exact hr r (List.mem_of_mem_take hr')
                  · rw [List.eq_of_mem_replicate hr']; exact hzl
                  · exact hr r (List.mem_of_mem_drop hr')
                refine .list g cap e' te.size _ _ h hs hrow2 (by rw [hlen2]; exact hl) hm (setRow_heap w g _ _ e' _ hw) (by rw [hnew, hn]) ?_
                have mono : ∀ {v : Value} {av : AV}, Rd w S v av → Rd (w.setRow g (vs.take (row * te.size) ++ news ++ vs.drop (row * te.size + news.length)).toArray) S v av := fun hr' => hr'.mono fun b hb => ⟨hb, setRow_other w g b _ (hS b hb)⟩
                intro i v av hv ha
                refine mono ?_
                rw [List.flatten_append, List.flatten_append, flatten_take _ _ hr, ← flatten_drop _ _ hr] at ha
                have l1 : (vs.take (row * te.size)).length = row * te.size := by rw [List.length_take, hn]; omega
                have l2 : (rows.flatten.take (row * te.size)).length = row * te.size := by rw [List.length_take, flatten_length _ hr]; omega
                have l3 : (List.replicate l (zeroA te)).flatten.length = l * te.size := by rw [← h0.length, hnl]
                have hfr : rows.flatten.length = rows.length * te.size := flatten_length _ hr
                by_cases c1 : i < row * te.size
                · rw [List.append_assoc, List.getElem?_append_left (by omega), List.getElem?_take, if_pos c1] at hv ha
                  exact hc i v av hv ha
                · by_cases c2 : i < row * te.size + l * te.size
                  · rw [List.append_assoc, List.getElem?_append_right (by omega), List.getElem?_append_left (by omega)] at hv ha
                    rw [l1] at hv
                    rw [l2] at ha
                    exact h0.at hv ha
                  · rw [List.getElem?_append_right (by rw [List.length_append, l1, hnl]; omega), List.length_append, l1, hnl, List.getElem?_drop] at hv
                    rw [List.getElem?_append_right (by rw [List.length_append, l2, l3]; omega), List.length_append, l2, l3, List.getElem?_drop, Nat.add_mul] at ha
                    exact hc _ v av hv ha
              have := hC.set (new := vs.take (row * te.size) ++ news ++ vs.drop (row * te.size + news.length)) ho h hw hobj trivial
              refine ⟨.tuple #[], _, ι, S, ?_, this.1, Nat.le_refl _, this.2, .tup [] [] trivial, fun v hv => by cases hv⟩
              refine exec_value ?_
              rw [evx]
              have hzv : ∀ w, (zeroValue e).run E.P w = .ok z w := fun w => by simp [zeroValue, typeInfo, hk.info, hz]
              have hzc2 : (Builtin.zeroCells z.cells l).toList = news := by rw [hnews, ← hzs]; rfl
              obtain ⟨m, rfl⟩ : ∃ m, l = m + 1 := ⟨l - 1, by omega⟩
              simp [Builtin.clear_, run_underlying hu, hzv, hzc2, hst]
    · trivial
theorem builtinA_sound (hT : TabOk E.P tt) (b : Builtin) (c : Call) (hc : c.callee = .builtin b) (ty : TypeId) : (builtinA tt s b c.args.toList c.argTypes.toList).Sound E s (fun ρ => do let d ← resolve ρ c ty; invoke d.target d.args) := by
  cases b with
  | len =>
    simp only [builtinA]
    split
    · rename_i x hx
      split
      · rename_i t ht
        refine (lenOA_sound hT t ty x).congr fun a w => ?_
        have e1 : c.args = #[x] := Array.ext' (by simpa using hx)
        have e2 : c.argTypes = #[t] := Array.ext' (by simpa using ht)
        simp [resolve, hc, e1, e2, invoke, builtin]
      · trivial
    · trivial
  | append =>
    simp only [builtinA]
    split
    · rename_i x y hx
      split
      · rename_i t t' ht
        cases hb : Nat.beq t t' with
        | false => trivial
        | true =>
          have := Nat.eq_of_beq_eq_true hb
          subst this
          simp only [cond_true]
          have e1 : c.args = #[x, y] := Array.ext' (by simpa using hx)
          have e2 : c.argTypes = #[t, t] := Array.ext' (by simpa using ht)
          have main : (appendA tt s t x y).Sound E s (fun ρ => do pure (.value (← Builtin.append_ #[t, t] ty #[ρ x, ρ y]))) := by
            unfold appendA
            cases he : elemOfA tt t with
            | none => trivial
            | some et =>
              obtain ⟨e, te⟩ := et
              simp only
              cases hx : opnd s.tm x with
              | none => trivial
              | some q =>
                cases hy : opnd s.tm y with
                | none => trivial
                | some b =>
                  simp only
                  cases hr : rowsA s.hp b with
                  | none => exact appendNA_sound hT he x y q b hx hy
                  | some yp =>
                    obtain ⟨ys, p⟩ := yp
                    exact appendPA_sound hT he x y q b hx hy ys p hr
          refine main.congr fun a w => ?_
          simp [resolve, hc, e1, e2, invoke, builtin]
      · trivial
    · trivial
  | min =>
    simp only [builtinA]
    split
    · rename_i x y hx
      have e1 : c.args = #[x, y] := Array.ext' (by simpa using hx)
      refine (minA_sound x y ty c.argTypes).congr fun a w => ?_
      simp [resolve, hc, e1, invoke, builtin]
    · trivial
  | copy =>
    simp only [builtinA]
    split
    · rename_i x y hx
      split
      · rename_i t t' ht
        cases hb : Nat.beq t t' with
        | false => trivial
        | true =>
          have := Nat.eq_of_beq_eq_true hb
          subst this
          simp only [cond_true]
          have e1 : c.args = #[x, y] := Array.ext' (by simpa using hx)
          have e2 : c.argTypes = #[t, t] := Array.ext' (by simpa using ht)
          have main : (copyA tt s t x y).Sound E s (fun ρ => do pure (.value (← Builtin.copy_ #[t, t] ty #[ρ x, ρ y]))) := by
            unfold copyA
            cases he : elemOfA tt t with
            | none => trivial
            | some et =>
              obtain ⟨e, te⟩ := et
              simp only
              cases hx : opnd s.tm x with
              | none => trivial
              | some q =>
                cases hy : opnd s.tm y with
                | none => trivial
                | some b =>
                  simp only
                  cases hr : rowsA s.hp b with
                  | none => trivial
                  | some yp =>
                    obtain ⟨ys, p⟩ := yp
                    exact copyPA_sound hT he x y q b hx hy ys p hr
          refine main.congr fun a w => ?_
          simp [resolve, hc, e1, e2, invoke, builtin]
      · trivial
    · trivial
  | clear =>
    simp only [builtinA]
    split
    · rename_i x hx
      split
      · rename_i t ht
        have e1 : c.args = #[x] := Array.ext' (by simpa using hx)
        have e2 : c.argTypes = #[t] := Array.ext' (by simpa using ht)
        refine (clearA_sound hT t ty x).congr fun a w => ?_
        simp [resolve, hc, e1, e2, invoke, builtin]
      · trivial
    · trivial
  | delete =>
    simp only [builtinA]
    split
    · rename_i x y hx
      split
      · rename_i t t' ht
        have e1 : c.args = #[x, y] := Array.ext' (by simpa using hx)
        have e2 : c.argTypes = #[t, t'] := Array.ext' (by simpa using ht)
        refine (deleteA_sound hT t t' ty x y).congr fun a w => ?_
        simp [resolve, hc, e1, e2, invoke, builtin]
      · trivial
    · trivial
  | _ => trivial

theorem stepA_sound (hT : TabOk E.P tt) (o : Oper) : (stepA tt o.op s).Sound E s (fun ρ => execOp ρ o) := by
  obtain ⟨dst, op, type, pos, after, guard⟩ := o
  cases op with
  | move x => exact moveA_sound x
  | assign x => exact moveA_sound x
  | alloc t => exact allocA_sound hT t
  | nilCheck x =>
    simp only [stepA, nilA]
    cases hx : opnd s.tm x with
    | none => trivial
    | some v =>
      cases v with
      | pt id r o =>
        intro a w ι S hC hTm
        have h := opnd_rel hTm hx
        obtain ⟨g, c, s', hg, e⟩ := h.1.pt_inv
        exact Good.same hC (v := a.eval x) (by simp only [execOp, e]; rfl) h.1 h.2
      | rp cs =>
        intro a w ι S hC hTm
        have h := opnd_rel hTm hx
        obtain ⟨b, off, vs, e, _⟩ := h.1.rp_inv
        exact Good.same hC (v := a.eval x) (by simp only [execOp, e]; rfl) h.1 h.2
      | clo id =>
        simp only
        cases hl : look s.hp id with
        | none => trivial
        | some o =>
          cases o with
          | clo n fs cs =>
            intro a w ι S hC hTm
            have h := opnd_rel hTm hx
            have h1 := h.1.clo_inv
            obtain ⟨_, _, hob⟩ := hC.obj id _ hl
            cases hob with
            | clo f fs cs us vs h' _ _ =>
              rw [h1] at h'
              simp only [Option.some.injEq, Pl.clo.injEq] at h'
              exact Good.same hC (v := a.eval x) (by simp only [execOp, h']; rfl) h.1 h.2
          | _ => trivial
      | val u =>
        cases u with
        | func fn f1 c1 =>
          cases fn with
          | func n =>
            intro a w ι S hC hTm
            have h := opnd_rel hTm hx
            exact Good.same hC (v := a.eval x) (by simp only [execOp, h.1.val_inv.1]; rfl) h.1 h.2
          | _ => trivial
        | _ => trivial
      | _ => trivial
  | pick c x y =>
    simp only [stepA]
    cases hc : opnd s.tm c with
    | none => trivial
    | some v =>
      cases v with
      | val u =>
        cases u with
        | bool b =>
          intro a w ι S hTm
          have hv := (opnd_rel hTm hc).1.val_inv.1
          simp only [execOp, hv, asBool, Sem.run_bind, Sem.run_pure, Result.andThen_ok]
        | _ => trivial
      | _ => trivial
  | box t x => exact boxA_sound t x
  | build t ps => exact buildA_sound hT t ps
  | buildSlice t n ps => exact buildSliceA_sound hT t n ps
  | load t x => exact loadOA_sound hT t x
  | store t x v => exact storeA_sound hT t x v
  | binOp op t x y t' =>
    simp only [stepA]
    cases hb : isBoolT tt t with
    | true => exact boolA_sound op t t' x y (isBoolT_ok hT hb)
    | false =>
      cases he : elemOfA tt t with
      | some et => obtain ⟨e, te⟩ := et; exact eqNilA_sound op t t' x y (elemOfA_ok hT he).1
      | none =>
        cases hk : keysOfT tt t with
        | some ks => exact keyA_sound hT ks op t t' x y hk
        | none =>
          cases hi : isIfaceT tt t with
          | true => obtain ⟨ms, hu⟩ := isIfaceT_ok hT hi; exact nilIfA_sound op t t' x y hu ⟨ms, rfl⟩
          | false => exact binA_sound op t t' x y
  | makeInterface t x => exact ifaceA_sound hT t x
  | unOp op t x => exact unA_sound op x
  | convert src dst x =>
    simp only [stepA]
    cases hb : isStrT tt dst with
    | true => exact strA_sound hT src dst x hb
    | false =>
      cases hb2 : isStrT tt src with
      | true => exact strToA_sound hT src dst x (isStrT_ok hT hb2)
      | false => exact convA_sound hT src dst x
  | makeFunc fn f c =>
    have h0 := makeFunc_sound (E := E) (s := s) fn f c
    simp only [stepA]
    cases hb : (f.size == 0 && c.size == 0) with
    | true => rw [hb] at h0; exact h0
    | false =>
      cases fn with
      | func n => exact cloA_sound n f c
      | _ => trivial
  | range t x => exact rangeA_sound hT t x
  | next x b => cases b with
    | true => trivial
    | false => exact nextA_sound x type
  | entry x => exact entryA_sound x
  | makeSlice t l c => exact makeSliceA_sound hT t l c
  | makeMap t r => exact makeMapA_sound hT t r
  | mapUpdate t m k v => exact mapSetA_sound hT t m k v
  | lookup t x i b => exact lookupA_sound hT t x i b
  | slice t x lo hi mx =>
    cases mx with
    | none => exact sliceOA_sound hT t x lo hi
    | some m => exact sliceMA_sound hT t x lo hi m
  | fieldAddr t x f => exact fieldAddrA_sound hT t x f
  | field t x f => exact fieldA_sound hT t x f
  | indexAddr t x i => exact indexAddrA_sound hT t x i
  | index t x i => exact indexVA_sound hT t x i
  | extract x i => exact extractA_sound x i
  | call c =>
    simp only [stepA]
    cases hc : c.callee with
    | value f => exact callA_sound c f hc type
    | builtin b => exact builtinA_sound hT b c hc type
    | invoke r m => trivial
  | _ => trivial

end Go.Am
