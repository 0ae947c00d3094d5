/-
  THE READING IS TRUE, operation by operation: maps whose keys are structs that can be compared.
-/
import Derived.Test.YtdnanpokaanhdaaDoorAm4
import Derived.MapKept
namespace Go.Am
open Go.RowKit
set_option linter.unusedVariables false
set_option linter.unusedSimpArgs false
variable {E : Env} {s : St} {a : Act} {w : World} {ι : Loc} {S : Nat → Prop} {tt : Tab}
theorem mapOfA_ok (hT : TabOk E.P tt) {t : TypeId} {ks : List KK} {te : TI} (h : mapOfA tt t = some (ks, te)) : ∃ (kt et : TypeId) (fields : Array Field), E.P.underlying t = some (.map kt et) ∧ look tt et = some te ∧ E.P.underlying kt = some (.struct fields) ∧ keysFChk E.P 0 fields.toList ks = true ∧ E.P.stoodInHeld kt = false := by
  unfold mapOfA at h
  cases hl : look tt t with
  | none => simp [hl] at h
  | some ti =>
    obtain ⟨i, d, hk⟩ := hT t ti hl
    have hkd := hk.kind
    simp only [hl] at h
    cases hkk : ti.kind with
    | map k e =>
      simp only [hkk] at h
      rw [hkk] at hkd
      cases hks : keysOfT tt k with
      | none => simp [hks] at h
      | some ks' =>
        simp only [hks] at h
        cases hte : look tt e with
        | none => simp [hte] at h
        | some te' =>
          simp only [hte, Option.some.injEq, Prod.mk.injEq] at h
          obtain ⟨rfl, rfl⟩ := h
          obtain ⟨fields, h1, h2, h3, _⟩ := keysOfT_ok hT hks
          cases d <;> simp [kindChk] at hkd
          obtain ⟨h4, h5⟩ := hkd
          subst h4 h5
          exact ⟨_, _, fields, hk.under, hte, h1, h2, h3⟩
    | _ => simp [hkk] at h
theorem kkEq_eq {a b : KK} (h : kkEq a b = true) : a = b := by
  cases a <;> cases b <;> simp_all [kkEq]
theorem kksEq_eq : ∀ {a b : List KK}, kksEq a b = true → a = b
  | [], [], _ => rfl
  | a :: as, b :: bs, h => by simp only [kksEq, Bool.and_eq_true] at h; rw [kkEq_eq h.1, kksEq_eq h.2]
  | [], _ :: _, h => by simp [kksEq] at h
  | _ :: _, [], h => by simp [kksEq] at h
theorem kvOf_bits {k : KK} (hs : kkEq k k = true) {u v : Value} {x : KV} (hu : kvOf k (.val u) = some x) (hv : kvOf k (.val v) = some x) (n : Nat) : Instr.sameBits n u v = true := by
  cases k with
  | int k =>
    cases u <;> simp only [kvOf, reduceCtorEq] at hu
    cases v <;> simp only [kvOf, reduceCtorEq] at hv
    rename_i ka na kb nb
    cases e1 : (k == ka) <;> simp [e1] at hu
    cases e2 : (k == kb) <;> simp [e2] at hv
    subst hu
    obtain rfl : k = ka := by simpa using e1
    obtain rfl : k = kb := by simpa using e2
    cases hv
    cases n <;> simp [Instr.sameBits]
  | bool =>
    cases u <;> simp [kvOf] at hu
    cases v <;> simp [kvOf] at hv
    subst hu
    cases hv
    cases n <;> simp [Instr.sameBits]
  | str => simp [kkEq] at hs
theorem kvsOf_bits (n : Nat) : ∀ {ks : List KK} {us vs : List Value} {x : List KV}, kksEq ks ks = true → kvsOf ks (us.map .val) = some x → kvsOf ks (vs.map .val) = some x →
    us.length = vs.length ∧ ((us.zip vs).all fun p => Instr.sameBits n p.1 p.2) = true
  | [], [], [], x, _, _, _ => ⟨rfl, rfl⟩
  | [], _ :: _, _, x, _, h, _ => by simp [kvsOf] at h
  | [], [], _ :: _, x, _, _, h => by simp [kvsOf] at h
  | _ :: _, [], _, x, _, h, _ => by simp [kvsOf] at h
  | _ :: _, _ :: _, [], x, _, _, h => by simp [kvsOf] at h
  | k :: ks, u :: us, v :: vs, x, hk, hu, hv => by
    simp only [kksEq, Bool.and_eq_true] at hk
    simp only [List.map_cons, kvsOf] at hu hv
    cases h1 : kvOf k (.val u) with
    | none => simp [h1] at hu
    | some a =>
      cases h2 : kvsOf ks (us.map .val) with
      | none => simp [h1, h2] at hu
      | some as =>
        cases h3 : kvOf k (.val v) with
        | none => simp [h3] at hv
        | some b =>
          cases h4 : kvsOf ks (vs.map .val) with
          | none => simp [h3, h4] at hv
          | some bs =>
            simp only [h1, h2, Option.some.injEq] at hu
            simp only [h3, h4, Option.some.injEq] at hv
            subst hu
            simp only [List.cons.injEq] at hv
            obtain ⟨rfl, rfl⟩ := hv
            obtain ⟨e1, e2⟩ := kvsOf_bits n hk.2 h2 h4
            refine ⟨by simp [e1], ?_⟩
            simp only [List.zip_cons_cons, List.all_cons, kvOf_bits hk.1 h1 h3, e2, Bool.and_self]
theorem keyStays {P : Program} {ks : List KK} {us vs : List Value} {x : List KV} (hk : kksEq ks ks = true) (hu : kvsOf ks (us.map .val) = some x) (hv : kvsOf ks (vs.map .val) = some x) (w : World) :
    (Instr.keyThatStays (.agg us.toArray) (.agg vs.toArray)).run P w = .ok (.agg vs.toArray) w := by
  obtain ⟨h1, h2⟩ := kvsOf_bits 9999 hk hu hv
  have : Instr.sameBits 10000 (.agg us.toArray) (.agg vs.toArray) = true := by
    simp only [Instr.sameBits, List.size_toArray, h1, beq_self_eq_true, Bool.true_and]
    exact h2
  simp [Instr.keyThatStays, this]
theorem kvs_part {P : Program} {k : KK} {f : Field} {o : Nat} {us : List Value} {b : Value} {xb : KV} (h : keyFChk P o f k = true) (hb : us[o]? = some b) (hk : kvOf k (.val b) = some xb) (w : World) (e : Bool) (n : Nat) :
    f.name ≠ "_" ∧ (part f.type us.toArray f.offset).run P w = .ok b w ∧ (Instr.checkKey e (n + 1) f.type b).run P w = .ok () w := by
  simp only [keyFChk, Bool.and_eq_true, Bool.not_eq_true'] at h
  obtain ⟨⟨h1, h2⟩, h3⟩ := h
  have ho := Nat.eq_of_beq_eq_true h1
  refine ⟨by simpa using h2, ?_⟩
  cases hd : P.underlying f.type with
  | none => simp [hd] at h3
  | some dd =>
    simp only [hd] at h3
    have hag : descAgg dd = false := by cases dd <;> simp at h3 <;> rfl
    refine ⟨by simp [part, Sem.run_bind, descAgg_isAgg hd w, hag, Result.andThen_ok, ho, hb], ?_⟩
    unfold Instr.checkKey
    simp only [Sem.run_bind, run_underlying hd, Result.andThen_ok]
    cases dd <;> simp at h3 <;> cases b <;> simp [kvOf] at hk <;> simp
theorem checkFields {P : Program} (w : World) (e : Bool) (n : Nat) (us : List Value) : ∀ (fs : List Field) (ks : List KK) (o : Nat) (x : List KV), keysFChk P o fs ks = true → kvsOf ks ((us.drop o).map .val) = some x →
    (forIn fs PUnit.unit (fun f (_ : PUnit) => (do
      if f.name ≠ "_" then
        Instr.checkKey e (n + 1) f.type (← part f.type us.toArray f.offset)
        pure (ForInStep.yield PUnit.unit)
      else pure (ForInStep.yield PUnit.unit) : Sem (ForInStep PUnit)))).run P w = .ok PUnit.unit w
  | [], _, _, _, _, _ => by simp
  | f :: fs, [], o, x, h, hx => by simp [keysFChk] at h
  | f :: fs, k :: ks, o, x, h, hx => by
    simp only [keysFChk, Bool.and_eq_true] at h
    cases hu : us.drop o with
    | nil => rw [hu] at hx; simp [kvsOf] at hx
    | cons b bs =>
      have hb : us[o]? = some b := by have := congrArg (·[0]?) hu; simpa using this
      have hbs : us.drop (o + 1) = bs := by rw [← List.tail_drop, hu]; rfl
      rw [hu, List.map_cons] at hx
      simp only [kvsOf] at hx
      cases hkb : kvOf k (.val b) with
      | none => simp [hkb] at hx
      | some xb =>
        cases hr : kvsOf ks (bs.map .val) with
        | none => simp [hkb, hr] at hx
        | some xr =>
          obtain ⟨g1, g2, g3⟩ := kvs_part h.1 hb hkb w e n
          have ih := checkFields w e n us fs ks (o + 1) xr h.2 (by rw [hbs]; exact hr)
          rw [List.forIn_cons]
          simp only [if_pos g1, Sem.run_bind, g2, g3, Result.andThen_ok, Sem.run_pure, bind_assoc, pure_bind]
          exact ih
theorem checkKey_run {P : Program} {kt : TypeId} {fields : Array Field} {ks : List KK} {us : List Value} {x : List KV} (hu : P.underlying kt = some (.struct fields)) (hf : keysFChk P 0 fields.toList ks = true) (hk : kvsOf ks (us.map .val) = some x) (w : World) (e : Bool) :
    (Instr.checkKey e 10000 kt (.agg us.toArray)).run P w = .ok () w := by
  have := checkFields w e 9998 us fields.toList ks 0 x hf (by simpa using hk)
  unfold Instr.checkKey
  simp only [Sem.run_bind, run_underlying hu, Result.andThen_ok]
  rw [← Array.forIn_toList]
  exact (congrArg (fun r => r.andThen fun _ w' => (pure () : Sem Unit).run P w') this).trans rfl
def idxM (k : List KV) : List (List KV × AV) → Option Nat
  | [] => none
  | r :: rs => if r.1 = k then some 0 else (idxM k rs).map (· + 1)
theorem idxM_some {k : List KV} : ∀ {rows : List (List KV × AV)} {j : Nat}, idxM k rows = some j → ∃ r, rows[j]? = some r ∧ findM k rows = some r.2 ∧ ∀ a, putM k a rows = rows.set j (k, a)
  | [], j, h => by simp [idxM] at h
  | r :: rs, j, h => by
    simp only [idxM] at h
    by_cases hr : r.1 = k
    · rw [if_pos hr] at h
      cases h
      exact ⟨r, rfl, by simp [findM, hr], fun a => by simp [putM, hr]⟩
    · rw [if_neg hr] at h
      cases hi : idxM k rs with
      | none => simp [hi] at h
      | some i =>
        simp only [hi, Option.map_some, Option.some.injEq] at h
        subst h
        obtain ⟨q, h1, h2, h3⟩ := idxM_some hi
        exact ⟨q, by simpa using h1, by simp [findM, hr, h2], fun a => by simp [putM, hr, h3]⟩
theorem idxM_key {k : List KV} : ∀ {rows : List (List KV × AV)} {j : Nat} {r : List KV × AV}, idxM k rows = some j → rows[j]? = some r → r.1 = k
  | [], j, r, h, _ => by simp [idxM] at h
  | q :: rs, j, r, h, hr => by
    simp only [idxM] at h
    by_cases hq : q.1 = k
    · rw [if_pos hq] at h; cases h; simp at hr; rw [← hr]; exact hq
    · rw [if_neg hq] at h
      cases hi : idxM k rs with
      | none => simp [hi] at h
      | some i =>
        simp only [hi, Option.map_some, Option.some.injEq] at h
        subst h
        exact idxM_key hi (by simpa using hr)
theorem idxM_none {k : List KV} : ∀ {rows : List (List KV × AV)}, idxM k rows = none → findM k rows = none ∧ ∀ a, putM k a rows = rows ++ [(k, a)]
  | [], _ => ⟨rfl, fun _ => rfl⟩
  | r :: rs, h => by
    simp only [idxM] at h
    by_cases hr : r.1 = k
    · rw [if_pos hr] at h; cases h
    · rw [if_neg hr] at h
      cases hi : idxM k rs with
      | some i => simp [hi] at h
      | none =>
        obtain ⟨h1, h2⟩ := idxM_none hi
        exact ⟨by simp [findM, hr, h1], fun a => by simp [putM, hr, h2]⟩
theorem findAsking_run {P : Program} {kt : TypeId} {fields : Array Field} {ks : List KK} {us : List Value} {x : List KV} (hu : P.underlying kt = some (.struct fields)) (hf : keysFChk P 0 fields.toList ks = true) (hs : P.stoodInHeld kt = false) (hk : kvsOf ks (us.map .val) = some x) (w : World) :
    ∀ (es : List MapEntry) (rows : List (List KV × AV)) (i : Nat), All2 (EntOk w S ks) es rows → (Instr.findAsking kt (.agg us.toArray) es i).run P w = .ok ((idxM x rows).bind fun j => (es[j]?).map fun e => (i + j, e.val)) w
  | [], [], i, _ => by simp [Instr.findAsking, idxM]
  | e :: es, r :: rs, i, h => by
    obtain ⟨us', hke, hkv⟩ := h.1.key
    have hfo : P.fieldsOf kt = fields := by simp [Program.fieldsOf, hu]
    have heq : (Op.equalIn 10000 kt (.agg us.toArray) (.agg us'.toArray)).run P w = .ok (decide (x = r.1)) w := by
      rw [run_equalIn_struct w 9999 kt _ _ (by rw [hfo]; exact hu) hs, hfo]
      exact keysFChk_run w 9998 us us' _ ks 0 x r.1 hf (by simpa using hk) (by simpa using hkv)
    have heq' : (Op.equal kt (.agg us.toArray) e.key).run P w = .ok (decide (x = r.1)) w := by rw [hke]; exact heq
    have ih := findAsking_run hu hf hs hk w es rs (i + 1) h.2
    simp only [Instr.findAsking, Sem.run_bind, heq', Result.andThen_ok, idxM]
    by_cases hr : r.1 = x
    · rw [if_pos hr, if_pos (by simp [hr])]
      simp
    · rw [if_neg hr, if_neg (by simp; exact fun e => hr e.symm), ih]
      cases idxM x rs with
      | none => rfl
      | some j => simp [Nat.add_assoc, Nat.add_comm 1]
  | [], _ :: _, _, h => h.elim
  | _ :: _, [], _, h => h.elim
theorem findKey_run {P : Program} {kt : TypeId} {fields : Array Field} {ks : List KK} {us : List Value} {x : List KV} (hu : P.underlying kt = some (.struct fields)) (hf : keysFChk P 0 fields.toList ks = true) (hs : P.stoodInHeld kt = false) (hk : kvsOf ks (us.map .val) = some x) (w : World)
    (es : List MapEntry) (rows : List (List KV × AV)) (h : All2 (EntOk w S ks) es rows) : (Instr.findKey kt (.agg us.toArray) es).run P w = .ok ((idxM x rows).bind fun j => (es[j]?).map fun e => (j, e.val)) w := by
  have := findAsking_run hu hf hs hk w es rows 0 h
  simp only [Nat.zero_add] at this
  rw [← this]
  cases es with
  | nil => simp [Instr.findKey, run_underlying hu, Instr.findNow, Instr.findAsking]
  | cons e es => simp [Instr.findKey, run_underlying hu, Instr.findNow, Instr.sameNow]
theorem plainM_rel {v : Value} {a : AV} (h : VRel w S ι v a) (hp : plainM a = true) : ARel w S (fun _ => none) v a := by
  cases h with
  | one h => cases h with
    | cell h =>
      cases h with
      | rd h => exact .cell (.rd h)
      | _ => simp [plainM, plainA] at hp
    | agg vs cs h =>
      refine .agg vs cs (All2.of h.length fun i v a hv ha => .rd (plainA_rd (h.at hv ha) ?_))
      simp only [plainM] at hp
      exact List.all_eq_true.1 hp a (List.mem_of_getElem? ha)
  | tup => simp [plainM, plainA] at hp
  | any => simp [plainM, plainA] at hp
theorem CRel.noneId {v : Value} {a : AV} (h : CRel w S (fun _ => none) v a) : a.idOf = none := by
  cases h with
  | rd h => exact h.noId
  | own id len g cap s h => cases h
  | own0 id h => cases h
  | pt id row off g c s h => cases h
  | sb id row off len g c s o cap h => cases h
  | sb0 id row off h => cases h
  | mp id g h => cases h
  | clo id v h => cases h
  | junk => rfl
  | rp => rfl
theorem ARel.ofNone {v : Value} {a : AV} {K : Nat → Prop} (h : ARel w S (fun _ => none) v a) : ARel w S ι v a ∧ a.uses K := by
  refine ⟨h.mono (K := fun _ => True) ⟨fun b hb => ⟨hb, rfl⟩, fun _ _ _ h => by cases h⟩ (fun _ _ => trivial) (fun _ _ _ _ _ _ => trivial), ?_⟩
  cases h with
  | cell h =>
    have := h.noneId
    cases a <;> first | trivial | (simp [AV.idOf] at this) | skip
  | agg vs cs h =>
      intro c hc id hi
      obtain ⟨i, hi', e⟩ := List.mem_iff_getElem.1 hc
      have h1 : cs[i]? = some c := by rw [List.getElem?_eq_getElem hi', e]
      have h2 : i < vs.length := by rw [h.length]; exact hi'
      rw [(h.at (List.getElem?_eq_getElem h2) h1).noneId] at hi
      cases hi
/-- A map's block is written. -/
theorem Core.setM (hC : Core E ι S s.hp s.nx w) {id g c sz : Nat} {o o' : AObj} {ob ob' : Obj} (ho : look s.hp id = some o) (hg : ι id = some (.blk g c sz)) (hw : w.heap[g]? = some ob)
    (ho' : ObjOk { w with heap := w.heap.setIfInBounds g ob' } S ι id o') (hu : o'.uses (· < s.nx)) :
    Core E ι S ((id, o') :: s.hp) s.nx { w with heap := w.heap.setIfInBounds g ob' } ∧ Later w { w with heap := w.heap.setIfInBounds g ob' } S S ι ι (· < s.nx) := by
  have other : ∀ b, b ≠ g → ({ w with heap := w.heap.setIfInBounds g ob' } : World).heap[b]? = w.heap[b]? := fun b hb => (MapKept.heap_set hw).2 b hb
  have hS : ∀ b, S b → b ≠ g := fun b hb e => hC.dis b hb ⟨id, c, sz, e ▸ hg⟩
  have hL : ∀ K, Later w { w with heap := w.heap.setIfInBounds g ob' } S S ι ι K := fun K => ⟨fun b hb => ⟨hb, other b (hS b hb)⟩, fun _ _ _ h => h⟩
  refine ⟨⟨?_, hC.sub, fun b hb => by simpa using hC.lt b hb, hC.dis, fun i g' c' s' h => by simpa using hC.own i g' c' s' h, hC.inj, hC.new, ?_, hC.stay, hC.fxs⟩, hL _⟩
  · refine hC.frame.trans (D' := fun b => b = g) ⟨rfl, rfl, rfl, by simp, fun b _ hn => other b hn⟩ ?_
    rintro b hb rfl
    rcases (hC.own id b c sz hg).2 with h | h
    · omega
    · exact h
  · intro i oi h
    rw [look_cons] at h
    split at h
    · rename_i e
      subst e
      simp at h
      subst h
      exact ⟨(hC.obj id o ho).1, hu, ho'⟩
    · rename_i hne
      obtain ⟨h1, h2, h3⟩ := hC.obj i oi h
      refine ⟨h1, h2, h3.mono (hL (fun _ => True)) trivial (by cases oi <;> simp [AObj.uses]) (fun _ _ _ _ h => h) (fun k g' c' s' hk hg' => other g' (fun e => hne ?_))⟩
      subst e
      have := hC.inj id k g' c c' sz s' hg hg'
      rw [← hk, ← this]
theorem makeMapA_sound (hT : TabOk E.P tt) (t : TypeId) (r : Option Operand) : (makeMapA tt s t r).Sound E s (fun ρ => do pure (.value (← Instr.makeMap t (r.map ρ)))) := by
  have main : ∀ (ks : List KK) (r' : Option Value) (a : Act) (w : World) (ι : Loc) (S : Nat → Prop), (Instr.makeMap t r').run E.P w = .ok (.map (some w.heap.size)) (w.alloc (.map #[] 0)) → Core E ι S s.hp s.nx w →
      Good E s ((do pure (.value (← Instr.makeMap t r')) : Sem Next).run E.P w) w ι S (.mp s.nx) ((s.nx, .map ks []) :: s.hp) (s.nx + 1) := by
    intro ks r' a w ι S hr hC
    have ho : ObjOk (w.alloc (.map #[] 0)) S (put ι s.nx (some (.blk w.heap.size 0 1))) s.nx (.map ks []) := .map w.heap.size 0 ks [] [] (put_same _ _ _) (MapKept.heap_alloc w _).1 trivial ⟨.nil, fun _ h => (by cases h)⟩
    have := hC.alloc (c := 0) (sz := 1) ho trivial
    exact ⟨_, _, _, S, exec_value hr, this.1, Nat.le_succ _, this.2, .one (.cell (.mp _ _ (put_same _ _ _))), Nat.lt_succ_self _⟩
  cases r with
  | none =>
    simp only [makeMapA]
    cases hm : mapOfA tt t with
    | none => trivial
    | some km =>
      obtain ⟨ks, te⟩ := km
      intro a w ι S hC hTm
      exact main ks none a w ι S rfl hC
  | some x =>
    simp only [makeMapA]
    cases hm : mapOfA tt t with
    | none => trivial
    | some km =>
      obtain ⟨ks, te⟩ := km
      obtain ⟨kt, et, fields, h1, _⟩ := mapOfA_ok hT hm
      cases hx : opnd s.tm x with
      | none => trivial
      | some q =>
        cases q with
        | val u =>
          cases u with
          | int k n =>
            intro a w ι S hC hTm
            have hv := (opnd_rel hTm hx).1.val_inv.1
            refine main ks (some (a.eval x)) a w ι S ?_ hC
            rw [hv]
            simp only [Instr.makeMap, Sem.run_bind, run_underlying h1, Result.andThen_ok, asInt, asIntOf, Sem.run_pure]
            rfl
          | _ => trivial
        | _ => trivial
theorem entries_modify {es : List MapEntry} {j : Nat} {e : MapEntry} {f : MapEntry → MapEntry} (he : es[j]? = some e) : es.modify j f = es.set j (f e) := by
  apply List.ext_getElem?
  intro i
  have hj := (List.getElem?_eq_some_iff.1 he).1
  rw [List.getElem?_modify, List.getElem?_set]
  by_cases h : j = i
  · subst h
    simp [he, hj]
    exact congrArg f (List.getElem?_eq_some_iff.1 he).2
  · simp [h]
theorem BornOk.push {es : List MapEntry} {clock : Nat} (h : BornOk es clock) (k v : Value) : BornOk (es ++ [MapEntry.mk k v clock]) (clock + 1) := by
  refine ⟨?_, fun e he => ?_⟩
  · rw [List.map_append, List.nodup_append]
    refine ⟨h.1, by simp, fun a ha b hb => ?_⟩
    obtain ⟨e, he, rfl⟩ := List.mem_map.1 ha
    simp at hb
    have := h.2 e he
    omega
  · rcases List.mem_append.1 he with he | he
    · have := h.2 e he; omega
    · simp at he; subst he; simp
theorem BornOk.set {es : List MapEntry} {clock j : Nat} {e : MapEntry} (h : BornOk es clock) (he : es[j]? = some e) (k v : Value) : BornOk (es.set j (MapEntry.mk k v e.born)) clock := by
  have hj := (List.getElem?_eq_some_iff.1 he).1
  have hm : (es.set j (MapEntry.mk k v e.born)).map (·.born) = es.map (·.born) := by
    apply List.ext_getElem?
    intro i
    simp only [List.map_set, List.getElem?_set, List.getElem?_map, List.length_map]
    by_cases hij : j = i
    · subst hij; simp [hj, (List.getElem?_eq_some_iff.1 he).2]
    · simp [hij]
  refine ⟨by rw [hm]; exact h.1, fun x hx => ?_⟩
  have : x.born ∈ (es.set j (MapEntry.mk k v e.born)).map (·.born) := List.mem_map_of_mem hx
  rw [hm] at this
  obtain ⟨y, hy, e'⟩ := List.mem_map.1 this
  have := h.2 y hy
  omega
theorem mapSetA_sound (hT : TabOk E.P tt) (t : TypeId) (m k v : Operand) : (mapSetA tt s t m k v).Sound E s (fun ρ => do (Instr.mapUpdate t (ρ m) (ρ k) (ρ v) : Sem Unit); pure .skip) := by
  unfold mapSetA
  cases hm : mapOfA tt t with
  | none => trivial
  | some km =>
    obtain ⟨ks, te⟩ := km
    obtain ⟨kt, et, fields, h1, _, h2, h3, h4⟩ := mapOfA_ok hT hm
    simp only
    cases hx : opnd s.tm m with
    | none => trivial
    | some p =>
      cases p with
      | mp id =>
        simp only
        cases hl : look s.hp id with
        | none => trivial
        | some o =>
          cases o with
          | map ks' rows =>
            simp only
            cases hy : opnd s.tm k with
            | none => trivial
            | some q =>
              cases q with
              | agg as =>
                simp only
                cases hkv : kvsOf ks as with
                | none => trivial
                | some kv =>
                  simp only
                  cases hz : opnd s.tm v with
                  | none => trivial
                  | some av =>
                    simp only
                    cases hb : (kksEq ks ks' && plainM av) with
                    | false => trivial
                    | true =>
                      simp only [cond_true]
                      simp only [Bool.and_eq_true] at hb
                      obtain ⟨hb1, hb2⟩ := hb
                      obtain rfl := kksEq_eq hb1
                      intro _ a w ι S hC hTm
                      obtain ⟨g, em, hg⟩ := (opnd_rel hTm hx).1.mp_inv
                      obtain ⟨us, ek, hus⟩ := (opnd_rel hTm hy).1.agg_inv
                      have ea := kvs_val hus hkv
                      have hkv' : kvsOf ks (us.map .val) = some kv := by rw [← ea]; exact hkv
                      have hval := plainM_rel (opnd_rel hTm hz).1 hb2
                      obtain ⟨hid, huo, hob⟩ := hC.obj id _ hl
                      cases hob with
                      | map g' clock ks' rows' es h hw he hbo =>
                        rw [hg] at h
                        simp only [Option.some.injEq, Pl.blk.injEq] at h
                        obtain ⟨rfl, _⟩ := h
                        have hS : ∀ (ob' : Obj) b, S b → S b ∧ ({ w with heap := w.heap.setIfInBounds g ob' } : World).heap[b]? = w.heap[b]? := fun ob' b hb => ⟨hb, (MapKept.heap_set hw).2 b fun e => hC.dis b hb ⟨id, 0, 1, e ▸ hg⟩⟩
                        have hfk := findKey_run h2 h3 h4 hkv' w es rows he
                        have hck := checkKey_run h2 h3 hkv' w false
                        have hnew : ∀ ob' c, EntOk { w with heap := w.heap.setIfInBounds g ob' } S ks (MapEntry.mk (a.eval k) (a.eval v) c) (kv, av) := fun ob' c => EntOk.mono (hS ob') ⟨⟨us, ek, hkv'⟩, hval⟩
                        cases hi : idxM kv rows with
                        | none =>
                          obtain ⟨_, hput⟩ := idxM_none hi
                          rw [hi] at hfk
                          have hrun : (Instr.mapUpdate t (a.eval m) (a.eval k) (a.eval v)).run E.P w = .ok () { w with heap := w.heap.setIfInBounds g (.map (es ++ [MapEntry.mk (a.eval k) (a.eval v) clock]).toArray (clock + 1)) } := by
                            rw [em, ek] at *
                            simp [Instr.mapUpdate, Sem.run_bind, run_underlying h1, Result.andThen_ok, MapKept.run_getObj_map hw, hck, hfk, MapKept.run_setObj_map _ hw]
                          rw [hput]
                          obtain ⟨c1, c2⟩ := hC.setM (ob' := .map (es ++ [MapEntry.mk (a.eval k) (a.eval v) clock]).toArray (clock + 1)) (o' := .map ks (rows ++ [(kv, av)])) hl hg hw (.map g (clock + 1) ks _ (es ++ [MapEntry.mk (a.eval k) (a.eval v) clock]) hg (MapKept.heap_set hw).1 ((he.mono fun _ _ h => h.mono (hS _)).append ⟨hnew _ _, trivial⟩) (hbo.push _ _)) trivial
                          exact ⟨_, ι, S, by simp [Sem.run_bind, hrun, Result.andThen_ok], c1, Nat.le_refl _, c2⟩
                        | some j =>
                          obtain ⟨r, hr, _, hput⟩ := idxM_some hi
                          obtain ⟨e, hej⟩ : ∃ e, es[j]? = some e := by
                            have : j < es.length := by rw [he.length]; exact (List.getElem?_eq_some_iff.1 hr).1
                            exact ⟨_, List.getElem?_eq_getElem this⟩
                          rw [hi] at hfk
                          have hek := (he.at hej hr).key
                          obtain ⟨us', hke, hkv2⟩ := hek
                          have hrk : r.1 = kv := idxM_key hi hr
                          rw [hrk] at hkv2
                          have hks := keyStays (P := E.P) hb1 hkv2 hkv' w
                          have hrun : (Instr.mapUpdate t (a.eval m) (a.eval k) (a.eval v)).run E.P w = .ok () { w with heap := w.heap.setIfInBounds g (.map (es.set j (MapEntry.mk (a.eval k) (a.eval v) e.born)).toArray clock) } := by
                            have hmod : es.modify j (fun e => { e with key := a.eval k, val := a.eval v }) = es.set j (MapEntry.mk (a.eval k) (a.eval v) e.born) := entries_modify hej
                            rw [← hmod]
                            rw [em, ek] at *
                            simp [Instr.mapUpdate, Sem.run_bind, run_underlying h1, Result.andThen_ok, MapKept.run_getObj_map hw, hck, hfk, hej, hke, hks, MapKept.run_setObj_map _ hw]
                          rw [hput]
                          obtain ⟨c1, c2⟩ := hC.setM (ob' := .map (es.set j (MapEntry.mk (a.eval k) (a.eval v) e.born)).toArray clock) (o' := .map ks (rows.set j (kv, av))) hl hg hw (.map g clock ks _ (es.set j (MapEntry.mk (a.eval k) (a.eval v) e.born)) hg (MapKept.heap_set hw).1 (All2.set (hnew _ _) j (he.mono fun _ _ h => h.mono (hS _))) (hbo.set hej _ _)) trivial
                          exact ⟨_, ι, S, by simp [Sem.run_bind, hrun, Result.andThen_ok], c1, Nat.le_refl _, c2⟩
              | _ => trivial
          | _ => trivial
      | _ => trivial
theorem zeroV_rel {P : Program} {t : TypeId} {ti : TI} {i : TypeInfo} {d : TypeDesc} (h : TyOk P t ti i d) (hs : Nat.beq ti.size 1 = false) : ∃ z, (zeroValue t).run P w = .ok z w ∧ ARel w S ι z (zeroV ti) := by
  obtain ⟨z, hz, hzc⟩ := h.zero
  refine ⟨z, by simp [zeroValue, typeInfo, h.info, hz], ?_⟩
  have hne : z.cells.toList.length ≠ 1 := by
    rw [hzc, h.zlen]; intro e; rw [e] at hs; simp at hs
  have hr := zeros_rel (w := w) (S := S) (ι := ι) h
  rw [← hzc] at hr
  cases z with
  | agg vs =>
    have := ARel.agg (w := w) (S := S) (ι := ι) vs.toList (zeroA ti) (by simpa [Value.cells] using hr)
    simpa [zeroV] using this
  | _ => simp [Value.cells] at hne
theorem lookupA_sound (hT : TabOk E.P tt) (t : TypeId) (m k : Operand) (b : Bool) : (lookupA tt s t m k b).Sound E s (fun ρ => do pure (.value (← Instr.lookup t (ρ m) (ρ k) b))) := by
  unfold lookupA
  cases hm : mapOfA tt t with
  | none => trivial
  | some km =>
    obtain ⟨ks, te⟩ := km
    obtain ⟨kt, et, fields, h1, hte, h2, h3, h4⟩ := mapOfA_ok hT hm
    simp only
    cases hx : opnd s.tm m with
    | none => trivial
    | some p =>
      cases p with
      | mp id =>
        simp only
        cases hl : look s.hp id with
        | none => trivial
        | some o =>
          cases o with
          | map ks' rows =>
            simp only
            cases hy : opnd s.tm k with
            | none => trivial
            | some q =>
              cases q with
              | agg as =>
                simp only
                cases hkv : kvsOf ks as with
                | none => trivial
                | some kv =>
                  simp only
                  cases hb : (kksEq ks ks' && !Nat.beq te.size 1) with
                  | false => trivial
                  | true =>
                    simp only [cond_true]
                    simp only [Bool.and_eq_true, Bool.not_eq_true'] at hb
                    obtain ⟨hb1, hb2⟩ := hb
                    obtain rfl := kksEq_eq hb1
                    intro _ a w ι S hC hTm
                    obtain ⟨g, em, hg⟩ := (opnd_rel hTm hx).1.mp_inv
                    obtain ⟨us, ek, hus⟩ := (opnd_rel hTm hy).1.agg_inv
                    have ea := kvs_val hus hkv
                    have hkv' : kvsOf ks (us.map .val) = some kv := by rw [← ea]; exact hkv
                    obtain ⟨hid, huo, hob⟩ := hC.obj id _ hl
                    cases hob with
                    | map g' clock ks' rows' es h hw he hbo =>
                      rw [hg] at h
                      simp only [Option.some.injEq, Pl.blk.injEq] at h
                      obtain ⟨rfl, _⟩ := h
                      have hfk := findKey_run h2 h3 h4 hkv' w es rows he
                      have hck := fun e => checkKey_run h2 h3 hkv' w e
                      obtain ⟨i, d, hk⟩ := hT et te hte
                      obtain ⟨z, hzr, hzz⟩ := zeroV_rel (w := w) (S := S) (ι := ι) hk hb2
                      have main : ∀ (v : Value) (r : Option AV), findM kv rows = r → ARel w S ι v (r.getD (zeroV te)) → (r.getD (zeroV te)).uses (· < s.nx) → (Instr.lookup t (a.eval m) (a.eval k) b).run E.P w = .ok (if b then .tuple #[v, .bool r.isSome] else v) w →
                          Good E s ((do pure (.value (← Instr.lookup t (a.eval m) (a.eval k) b)) : Sem Next).run E.P w) w ι S (lookV te (findM kv rows) b) s.hp s.nx := by
                        intro v r hr hv hu hrun
                        rw [hr]
                        refine Good.same hC (exec_value hrun) ?_ ?_
                        · cases b with
                          | false => exact .one hv
                          | true => exact .tup [v, .bool r.isSome] [_, _] ⟨hv, .cell (.rd (.val _ rfl)), trivial⟩
                        · cases b with
                          | false => exact hu
                          | true =>
                            intro x hx
                            simp only [lookV, List.mem_cons, List.not_mem_nil, or_false] at hx
                            rcases hx with rfl | rfl
                            · exact ⟨AV.uses_id hu, AV.uses_agg hu⟩
                            · exact ⟨fun id h => (by cases h), fun cs h => (by cases h)⟩
                      cases hi : idxM kv rows with
                      | none =>
                        obtain ⟨hf, _⟩ := idxM_none hi
                        rw [hi] at hfk
                        refine main z none hf hzz (fun c hc id hi => zeros_uses (K := fun i => i < s.nx) c hc id hi) ?_
                        rw [em, ek]
                        cases b <;> simp [Instr.lookup, Sem.run_bind, run_underlying h1, Result.andThen_ok, MapKept.run_getObj_map hw, hck, hfk, hzr]
                      | some j =>
                        obtain ⟨r, hr, hf, _⟩ := idxM_some hi
                        obtain ⟨e, hej⟩ : ∃ e, es[j]? = some e := by
                          have : j < es.length := by rw [he.length]; exact (List.getElem?_eq_some_iff.1 hr).1
                          exact ⟨_, List.getElem?_eq_getElem this⟩
                        rw [hi] at hfk
                        have hv := (he.at hej hr).val.ofNone (ι := ι) (K := (· < s.nx))
                        refine main e.val (some r.2) hf hv.1 hv.2 ?_
                        rw [em, ek]
                        cases b <;> simp [Instr.lookup, Sem.run_bind, run_underlying h1, Result.andThen_ok, MapKept.run_getObj_map hw, hck, hfk, hej]
              | _ => trivial
          | _ => trivial
      | _ => trivial
end Go.Am
