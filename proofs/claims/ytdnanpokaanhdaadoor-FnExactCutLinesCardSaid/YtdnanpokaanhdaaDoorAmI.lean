/-
  THE READING IS TRUE, operation by operation: what is deleted from a map; a range over a map; closures.
-/
import Derived.Test.YtdnanpokaanhdaaDoorAm5
import Derived.Test.YtdnanpokaanhdaaDoorAmM
import Derived.Laws.IdiomRangeMap
namespace Go.Am
open Go.RowKit
set_option linter.unusedVariables false
set_option linter.unusedSimpArgs false
variable {E : Env} {s : St} {a : Act} {w : World} {ι : Loc} {S : Nat → Prop} {tt : Tab}
/-- An object's block is written; besides, a draw may have been made. -/
theorem Core.setN (hC : Core E ι S s.hp s.nx w) {id g c sz : Nat} {o o' : AObj} {ob ob' : Obj} {w' : World} (hw' : w'.heap = w.heap.setIfInBounds g ob' ∧ w'.os = w.os ∧ w'.tape = w.tape ∧ w'.output = w.output)
    (ho : look s.hp id = some o) (hg : ι id = some (.blk g c sz)) (hw : w.heap[g]? = some ob) (ho' : ObjOk w' S ι id o') (hu : o'.uses (· < s.nx)) :
    Core E ι S ((id, o') :: s.hp) s.nx w' ∧ Later w w' S S ι ι (· < s.nx) := by
  obtain ⟨h1, h2, h3, h4⟩ := hw'
  have other : ∀ b, b ≠ g → w'.heap[b]? = w.heap[b]? := fun b hb => by rw [h1]; exact (MapKept.heap_set hw).2 b hb
  have hsz : w'.heap.size = w.heap.size := by rw [h1]; simp
  have hS : ∀ b, S b → b ≠ g := fun b hb e => hC.dis b hb ⟨id, c, sz, e ▸ hg⟩
  have hL : ∀ K, Later w w' S S ι ι K := fun K => ⟨fun b hb => ⟨hb, other b (hS b hb)⟩, fun _ _ _ h => h⟩
  refine ⟨⟨?_, hC.sub, fun b hb => by rw [hsz]; exact hC.lt b hb, hC.dis, fun i g' c' s' h => by rw [hsz]; exact hC.own i g' c' s' h, hC.inj, hC.new, ?_, hC.stay, hC.fxs⟩, hL _⟩
  · refine hC.frame.trans (D' := fun b => b = g) ⟨h2, h3, h4, by omega, fun b _ hn => other b hn⟩ ?_
    rintro b hb rfl
    rcases (hC.own id b c sz hg).2 with h | h
    · omega
    · exact h
  · intro i oi h
    rw [look_cons] at h
    split at h
    · rename_i e
      subst e
      simp at h
      subst h
      exact ⟨(hC.obj id o ho).1, hu, ho'⟩
    · rename_i hne
      obtain ⟨h1, h2, h3⟩ := hC.obj i oi h
      refine ⟨h1, h2, h3.mono (hL (fun _ => True)) trivial (by cases oi <;> simp [AObj.uses]) (fun _ _ _ _ h => h) (fun k g' c' s' hk hg' => other g' (fun e => hne ?_))⟩
      subst e
      have := hC.inj id k g' c c' sz s' hg hg'
      rw [← hk, ← this]
theorem delM_some {k : List KV} : ∀ {rows : List (List KV × AV)} {j : Nat}, idxM k rows = some j → delM k rows = rows.eraseIdx j
  | [], j, h => by simp [idxM] at h
  | r :: rs, j, h => by
    simp only [idxM] at h
    by_cases hr : r.1 = k
    · rw [if_pos hr] at h; cases h; simp [delM, hr]
    · rw [if_neg hr] at h
      cases hi : idxM k rs with
      | none => simp [hi] at h
      | some i =>
        simp only [hi, Option.map_some, Option.some.injEq] at h
        subst h
        simp [delM, hr, delM_some hi]
theorem delM_none {k : List KV} : ∀ {rows : List (List KV × AV)}, idxM k rows = none → delM k rows = rows
  | [], _ => rfl
  | r :: rs, h => by
    simp only [idxM] at h
    by_cases hr : r.1 = k
    · rw [if_pos hr] at h; cases h
    · rw [if_neg hr] at h
      cases hi : idxM k rs with
      | some i => simp [hi] at h
      | none => simp [delM, hr, delM_none hi]
theorem All2.eraseIdx {α β : Type} {R : α → β → Prop} : ∀ {l : List α} {m : List β} (n : Nat), All2 R l m → All2 R (l.eraseIdx n) (m.eraseIdx n)
  | [], [], n, _ => by simp [All2]
  | _ :: _, _ :: _, 0, h => h.2
  | _ :: _, _ :: _, n + 1, h => ⟨h.1, All2.eraseIdx n h.2⟩
  | [], _ :: _, _, h => h.elim
  | _ :: _, [], _, h => h.elim
theorem BornOk.erase {es : List MapEntry} {clock : Nat} (h : BornOk es clock) (j : Nat) : BornOk (es.eraseIdx j) clock :=
  ⟨h.1.sublist ((List.eraseIdx_sublist es j).map _), fun e he => h.2 e (List.mem_of_mem_eraseIdx he)⟩
theorem deleteA_sound (hT : TabOk E.P tt) (t t' ty : TypeId) (m k : Operand) : (deleteA tt s t m k).Sound E s (fun ρ => do pure (.value (← Builtin.delete_ #[t, t'] ty #[ρ m, ρ k]))) := by
  unfold deleteA
  cases hm : mapOfA tt t with
  | none => trivial
  | some km =>
    obtain ⟨ks, te⟩ := km
    obtain ⟨kt, et, fields, h1, _, h2, h3, h4⟩ := mapOfA_ok hT hm
    simp only
    cases hx : opnd s.tm m with
    | none => trivial
    | some p =>
      cases p with
      | mp id =>
        simp only
        cases hl : look s.hp id with
        | none => trivial
        | some o =>
          cases o with
          | map ks' rows =>
            simp only
            cases hy : opnd s.tm k with
            | none => trivial
            | some q =>
              cases q with
              | agg as =>
                simp only
                cases hkv : kvsOf ks as with
                | none => trivial
                | some kv =>
                  simp only
                  cases hb1 : kksEq ks ks' with
                  | false => trivial
                  | true =>
                    simp only [cond_true]
                    obtain rfl := kksEq_eq hb1
                    intro _ a w ι S hC hTm
                    obtain ⟨g, em, hg⟩ := (opnd_rel hTm hx).1.mp_inv
                    obtain ⟨us, ek, hus⟩ := (opnd_rel hTm hy).1.agg_inv
                    have ea := kvs_val hus hkv
                    have hkv' : kvsOf ks (us.map .val) = some kv := by rw [← ea]; exact hkv
                    obtain ⟨hid, huo, hob⟩ := hC.obj id _ hl
                    cases hob with
                    | map g' clock ks' rows' es h hw he hbo =>
                      rw [hg] at h
                      simp only [Option.some.injEq, Pl.blk.injEq] at h
                      obtain ⟨rfl, _⟩ := h
                      have hS : ∀ (ob' : Obj) b, S b → S b ∧ ({ w with heap := w.heap.setIfInBounds g ob' } : World).heap[b]? = w.heap[b]? := fun ob' b hb => ⟨hb, (MapKept.heap_set hw).2 b fun e => hC.dis b hb ⟨id, 0, 1, e ▸ hg⟩⟩
                      have hfk := findKey_run h2 h3 h4 hkv' w es rows he
                      have hck := fun e => checkKey_run h2 h3 hkv' w e
                      have fin : ∀ (es' : List MapEntry) (rows' : List (List KV × AV)), All2 (EntOk w S ks) es' rows' → BornOk es' clock → delM kv rows = rows' → (Builtin.delete_ #[t, t'] ty #[a.eval m, a.eval k]).run E.P w = .ok (.tuple #[]) { w with heap := w.heap.setIfInBounds g (.map es'.toArray clock) } →
                          Good E s ((do pure (.value (← Builtin.delete_ #[t, t'] ty #[a.eval m, a.eval k])) : Sem Next).run E.P w) w ι S (.tup []) ((id, .map ks (delM kv rows)) :: s.hp) s.nx := by
                        intro es' rows' hes hbo' hd hrun
                        rw [hd]
                        obtain ⟨c1, c2⟩ := hC.setM (ob' := .map es'.toArray clock) (o' := .map ks rows') hl hg hw (.map g clock ks _ es' hg (MapKept.heap_set hw).1 (hes.mono fun _ _ h => h.mono (hS _)) hbo') trivial
                        exact ⟨_, _, ι, S, exec_value hrun, c1, Nat.le_refl _, c2, .tup [] [] trivial, fun v hv => by cases hv⟩
                      cases hi : idxM kv rows with
                      | none =>
                        rw [hi] at hfk
                        refine fin es rows he hbo (delM_none hi) ?_
                        rw [em, ek] at *
                        simp [Builtin.delete_, Sem.run_bind, run_underlying h1, Result.andThen_ok, MapKept.run_getObj_map hw, hck, hfk, MapKept.run_setObj_map _ hw]
                      | some j =>
                        obtain ⟨r, hr, _, _⟩ := idxM_some hi
                        obtain ⟨e, hej⟩ : ∃ e, es[j]? = some e := by
                          have : j < es.length := by rw [he.length]; exact (List.getElem?_eq_some_iff.1 hr).1
                          exact ⟨_, List.getElem?_eq_getElem this⟩
                        rw [hi] at hfk
                        refine fin (es.eraseIdx j) (rows.eraseIdx j) (he.eraseIdx j) (hbo.erase j) (delM_some hi) ?_
                        have hj := (List.getElem?_eq_some_iff.1 hej).1
                        have her : es.toArray.eraseIdxIfInBounds j = (es.eraseIdx j).toArray := by
                          apply Array.toList_inj.1
                          simp
                        rw [em, ek] at *
                        simp [Builtin.delete_, Sem.run_bind, run_underlying h1, Result.andThen_ok, MapKept.run_getObj_map hw, hck, hfk, hej, her, MapKept.run_setObj_map _ hw]
              | _ => trivial
          | _ => trivial
      | _ => trivial
theorem filter_ne {α : Type} (f : α → Nat) : ∀ (l : List α) (j : Nat) (h : j < l.length), (l.map f).Nodup → l.filter (fun e => !(f e == f l[j])) = l.eraseIdx j
  | x :: l, 0, h, hn => by
    have hn' : f x ∉ l.map f ∧ (l.map f).Nodup := List.nodup_cons.1 hn
    simp only [List.getElem_cons_zero, List.eraseIdx_cons_zero, List.filter_cons, beq_self_eq_true, Bool.not_true, Bool.false_eq_true, if_false]
    rw [List.filter_eq_self]
    intro y hy
    simp only [Bool.not_eq_true', beq_eq_false_iff_ne]
    intro e
    exact hn'.1 (e ▸ List.mem_map_of_mem hy)
  | x :: l, j + 1, h, hn => by
    have hn' : f x ∉ l.map f ∧ (l.map f).Nodup := List.nodup_cons.1 hn
    have hj : j < l.length := by simpa using h
    simp only [List.getElem_cons_succ, List.eraseIdx_cons_succ, List.filter_cons]
    have : (!(f x == f l[j])) = true := by
      simp only [Bool.not_eq_true', beq_eq_false_iff_ne]
      intro e
      exact hn'.1 (e ▸ List.mem_map_of_mem (List.getElem_mem hj))
    rw [if_pos this, filter_ne f l j hj hn'.2]
theorem left_push {es : List MapEntry} {seen : Array Nat} (hb : (es.map (·.born)).Nodup) {j : Nat} (h : j < (es.filter fun e => !seen.contains e.born).length) :
    (es.filter fun e => !(seen.push (es.filter fun e => !seen.contains e.born)[j].born).contains e.born) = (es.filter fun e => !seen.contains e.born).eraseIdx j := by
  have hn : ((es.filter fun e => !seen.contains e.born).map (·.born)).Nodup := hb.sublist (List.filter_sublist.map _)
  rw [← filter_ne (·.born) _ j h hn, List.filter_filter]
  refine List.filter_congr fun e _ => ?_
  rw [contains_push, Bool.not_or, Bool.and_comm]
theorem next_run {P : Program} {w : World} {g gm clock : Nat} {seen : Array Nat} {es : List MapEntry} (hw : w.heap[g]? = some (.mapIter (some gm) clock seen clock)) (hm : w.heap[gm]? = some (.map es.toArray clock)) (hc : ∀ e ∈ es, e.born < clock) (ty : TypeId) :
    ((es.filter fun e => !seen.contains e.born) = [] ∧ (Instr.next (.pointer (some ⟨g, 0, none⟩)) false ty).run P w = .ok (.tuple #[.bool false]) w) ∨
    ∃ (j : Nat) (h : j < (es.filter fun e => !seen.contains e.born).length) (w' : World), (w'.heap = w.heap.setIfInBounds g (.mapIter (some gm) clock (seen.push (es.filter fun e => !seen.contains e.born)[j].born) clock) ∧ w'.os = w.os ∧ w'.tape = w.tape ∧ w'.output = w.output) ∧
      (Instr.next (.pointer (some ⟨g, 0, none⟩)) false ty).run P w = .ok (.tuple #[.bool true, (es.filter fun e => !seen.contains e.born)[j].key, (es.filter fun e => !seen.contains e.born)[j].val]) w' := by
  have hlt : ∀ x ∈ es.toArray.toList, x.born < clock := by simpa using hc
  simp only [Instr.next, getObj, Sem.run_bind, Sem.run, hw, hm, Result.andThen, next_test_false seen es.toArray clock clock hlt (Nat.le_refl _), Bool.false_eq_true, if_false]
  have hfl : es.toArray.filter (fun e => !seen.contains e.born) = (es.filter fun e => !seen.contains e.born).toArray := by simp
  rw [hfl]
  have hmem : ∀ x ∈ (es.filter fun e => !seen.contains e.born), x.born < clock := fun x hx => hc x (List.mem_filter.1 hx).1
  generalize (es.filter fun e => !seen.contains e.born) = L at hmem ⊢
  have e1 : L.toArray.filter (fun x => decide (x.born < clock)) = L.toArray := Array.filter_eq_self.2 (fun x hx => by simpa using hmem x (by simpa using hx))
  have e2 : L.toArray.filter (fun x => decide (x.born ≥ clock)) = #[] := by
    rw [Array.filter_eq_empty_iff]
    intro x hx
    have := hmem x (by simpa using hx)
    simp
    omega
  simp only [e1, e2, Array.append_empty]
  by_cases h0 : L = []
  · left
    subst h0
    refine ⟨rfl, ?_⟩
    simp [choose, Sem.run, Question.forced]
  · right
    have hpos : 0 < L.length := List.length_pos_iff.2 h0
    have hne : L.toArray.isEmpty = false := by simp [h0]
    simp only [hne, Bool.false_eq_true, if_false, Array.empty_append, Array.size_map]
    have hch : ∃ (j : Nat) (w1 : World), j < L.length ∧ (w1.heap = w.heap ∧ w1.os = w.os ∧ w1.tape = w.tape ∧ w1.output = w.output) ∧ (choose (Question.mapNext L.toArray.size)).run P w = .ok j w1 := by
      by_cases hf : L.toArray.size ≤ 1
      · exact ⟨0, w, hpos, ⟨rfl, rfl, rfl, rfl⟩, by simp only [choose, Sem.run, Question.forced, decide_eq_true_eq, hf, if_true]⟩
      · exact ⟨_, w.drew, Nat.mod_lt _ hpos, ⟨rfl, rfl, rfl, rfl⟩, by
          simp only [choose, Sem.run, Question.forced, decide_eq_true_eq, hf, if_false, Question.cut]
          rfl⟩
    obtain ⟨j, w1, hj, hal, hrun⟩ := hch
    refine ⟨j, hj, { w1 with heap := w1.heap.setIfInBounds g (.mapIter (some gm) clock (seen.push L[j].born) clock) }, ⟨by simp only [hal.1], hal.2⟩, ?_⟩
    have hset : ∀ (o' : Obj), (setObj g o').run P w1 = .ok () { w1 with heap := w1.heap.setIfInBounds g o' } := fun o' => by
      have : w1.heap[g]? = some (.mapIter (some gm) clock seen clock) := by rw [hal.1]; exact hw
      simp [setObj, Sem.run, this]
    have hj' : j < L.toArray.size := by simpa using hj
    simp only [hrun, Array.getElem?_map, Array.getElem?_eq_getElem hj', Option.map_some, Sem.run_bind, hset, Result.andThen]
    simp
theorem kvA_rel : ∀ {ks : List KK} {us : List Value} {x : List KV}, kvsOf ks (us.map .val) = some x → All2 (CRel w S ι) us (kvA ks x)
  | [], [], x, h => by simp only [List.map_nil, kvsOf, Option.some.injEq] at h; subst h; trivial
  | [], _ :: _, _, h => by simp [kvsOf] at h
  | _ :: _, [], _, h => by simp [kvsOf] at h
  | k :: ks, u :: us, x, h => by
    simp only [List.map_cons, kvsOf] at h
    cases h1 : kvOf k (.val u) with
    | none => simp [h1] at h
    | some y =>
      cases h2 : kvsOf ks (us.map .val) with
      | none => simp [h1, h2] at h
      | some ys =>
        simp only [h1, h2, Option.some.injEq] at h
        subst h
        have ih := kvA_rel h2
        cases k with
        | int k =>
          cases u <;> simp only [kvOf, reduceCtorEq] at h1
          rename_i k' n
          cases e1 : (k == k') <;> simp [e1] at h1
          subst h1
          obtain rfl : k = k' := by simpa using e1
          exact ⟨.rd (.val _ rfl), ih⟩
        | bool =>
          cases u <;> simp [kvOf] at h1
          subst h1
          exact ⟨.rd (.val _ rfl), ih⟩
        | str =>
          cases u <;> simp [kvOf] at h1
          subst h1
          exact ⟨.junk _ rfl, ih⟩
theorem kvA_uses {K : Nat → Prop} : ∀ (ks : List KK) (x : List KV), ∀ c ∈ kvA ks x, ∀ id, c.idOf = some id → K id
  | [], _, c, hc => by simp [kvA] at hc
  | k :: ks, [], c, hc => by cases k <;> simp [kvA] at hc
  | k :: ks, y :: ys, c, hc => by
    have ih := kvA_uses (K := K) ks ys c
    cases k <;> cases y <;> simp only [kvA, List.mem_cons] at hc <;> rcases hc with rfl | hc <;> first | (intro id h; cases h) | exact ih hc
theorem nextA_sound (x : Operand) (ty : TypeId) : (nextA s x).Sound E s (fun ρ => do pure (.value (← Instr.next (ρ x) false ty))) := by
  unfold nextA
  split
  · rename_i id hx
    cases hl : look s.hp id with
    | none => trivial
    | some o =>
      cases o with
      | ranged ks cur left =>
        intro a w ι S hC hTm
        obtain ⟨g0, c0, s0, hg0, ev⟩ := (opnd_rel hTm hx).1.pt_inv
        obtain ⟨hid, _, hob⟩ := hC.obj id _ hl
        cases hob with
        | ranged g gm clock ks cur left seen es h h2 hw hm hb hle hcu =>
          rw [hg0] at h
          simp only [Option.some.injEq, Pl.blk.injEq] at h
          obtain ⟨rfl, rfl, rfl⟩ := h
          have ev' : a.eval x = .pointer (some ⟨g0, 0, none⟩) := by rw [ev]
          have hr := next_run (P := E.P) hw hm hb.2 ty
          rw [← ev'] at hr
          rcases hr with ⟨h0, hr⟩ | ⟨j, hj, w', hw', hr⟩
          · left
            have : left = [] := List.eq_nil_of_length_eq_zero (by rw [← hle.length, h0]; rfl)
            exact ⟨this, Good.same hC (exec_value hr) (.tup [.bool false] [_] ⟨.cell (.rd (.val _ rfl)), trivial⟩) (fun v hv => by simp at hv; subst hv; exact ⟨fun _ h => (by cases h), fun _ h => (by cases h)⟩)⟩
          · right
            have hj' : j < left.length := by rw [← hle.length]; exact hj
            refine ⟨j, hj', ?_⟩
            have hgm : gm ≠ g0 := fun e => by
              have := hC.inj ⟨id, [0]⟩ ⟨id, []⟩ g0 _ _ _ _ (e ▸ h2) hg0
              cases this
            have hS : ∀ b, S b → S b ∧ w'.heap[b]? = w.heap[b]? := fun b hb => ⟨hb, by rw [hw'.1]; exact (MapKept.heap_set hw).2 b fun e => hC.dis b hb ⟨id, 0, 2, e ▸ hg0⟩⟩
            have hej := hle.at (List.getElem?_eq_getElem hj) (List.getElem?_eq_getElem hj')
            have hmem : (es.filter fun e => !seen.contains e.born)[j] ∈ es := (List.mem_filter.1 (List.getElem_mem hj)).1
            have hnew : ObjOk w' S ι id (.ranged ks (some left[j]) (left.eraseIdx j)) := by
              refine .ranged g0 gm clock ks _ _ (seen.push (es.filter fun e => !seen.contains e.born)[j].born) es hg0 h2 ?_ ?_ hb ?_ ?_
              · rw [hw'.1]; exact (MapKept.heap_set hw).1
              · rw [hw'.1, (MapKept.heap_set hw).2 gm hgm]; exact hm
              · rw [left_push hb.1 hj]; exact (hle.eraseIdx j).mono fun _ _ h => h.mono hS
              · intro r hr0
                simp only [Option.some.injEq] at hr0
                subst hr0
                exact ⟨_, hmem, by simp, hej.mono hS⟩
            obtain ⟨c1, c2⟩ := hC.setN hw' hl hg0 hw hnew trivial
            obtain ⟨us, hke, hkv⟩ := hej.key
            have hval := ((hej.mono hS).val.ofNone (ι := ι) (K := (· < s.nx)))
            refine ⟨_, w', ι, S, exec_value hr, c1, Nat.le_refl _, c2, .tup [_, _, _] [_, _, _] ⟨.cell (.rd (.val _ rfl)), ?_, hval.1, trivial⟩, ?_⟩
            · rw [hke]; exact .agg us _ (kvA_rel hkv)
            · intro v hv
              simp only [List.mem_cons, List.not_mem_nil, or_false] at hv
              rcases hv with rfl | rfl | rfl
              · exact ⟨fun _ h => (by cases h), fun _ h => (by cases h)⟩
              · refine ⟨fun _ h => (by cases h), fun cs e => ?_⟩
                cases e
                exact kvA_uses ks _
              · exact ⟨AV.uses_id hval.2, AV.uses_agg hval.2⟩
      | _ => trivial
  · trivial
theorem entryA_sound (x : Operand) : (entryA s x).Sound E s (fun ρ => do pure (.value (← Instr.entry (ρ x)))) := by
  unfold entryA
  split
  · rename_i id hx
    cases hl : look s.hp id with
    | none => trivial
    | some o =>
      cases o with
      | ranged ks cur left =>
        cases cur with
        | none => trivial
        | some r =>
        intro a w ι S hC hTm
        obtain ⟨g0, c0, s0, hg0, ev⟩ := (opnd_rel hTm hx).1.pt_inv
        obtain ⟨hid, _, hob⟩ := hC.obj id _ hl
        cases hob with
        | ranged g gm clock ks cur left seen es h h2 hw hm hb hle hcu =>
          rw [hg0] at h
          simp only [Option.some.injEq, Pl.blk.injEq] at h
          obtain ⟨rfl, rfl, rfl⟩ := h
          have ev' : a.eval x = .pointer (some ⟨g0, 0, none⟩) := by rw [ev]
          obtain ⟨e, he, hbk, hee⟩ := hcu r rfl
          obtain ⟨us, hke, hkv⟩ := hee.key
          have hval := (hee.val.ofNone (ι := ι) (K := (· < s.nx)))
          have hf : es.toArray.find? (·.born == e.born) = some e := by rw [← Array.find?_toList]; exact find_born e es hb.1 he
          refine Good.same hC (v := .tuple #[e.key, e.val]) ?_ (.tup [_, _] [_, _] ⟨?_, hval.1, trivial⟩) ?_
          · refine exec_value ?_
            rw [ev']
            simp only [Instr.entry, getObj, Sem.run_bind, Sem.run, hw, hm, Result.andThen, hbk, bne_self_eq_false, Bool.false_eq_true, if_false, hf]
            rfl
          · rw [hke]; exact .agg us _ (kvA_rel hkv)
          · intro v hv
            simp only [List.mem_cons, List.not_mem_nil, or_false] at hv
            rcases hv with rfl | rfl
            · refine ⟨fun _ h => (by cases h), fun cs e => ?_⟩
              cases e
              exact kvA_uses ks _
            · exact ⟨AV.uses_id hval.2, AV.uses_agg hval.2⟩
      | _ => trivial
  · trivial
/-- A new object that is no block. -/
theorem Core.newC (hC : Core E ι S s.hp s.nx w) {v : Value} {o : AObj} (ho : ObjOk w S (put ι s.nx (some (.clo v))) s.nx o) (hu : o.uses (· < s.nx + 1)) :
    Core E (put ι s.nx (some (.clo v))) S ((s.nx, o) :: s.hp) (s.nx + 1) w ∧ Later w w S S ι (put ι s.nx (some (.clo v))) (· < s.nx) := by
  have hne : ∀ (i : Key) g c z, put ι s.nx (some (.clo v)) i = some (.blk g c z) → ι i = some (.blk g c z) := by
    intro i g c z h
    by_cases hi : i = s.nx
    · subst hi; rw [put_same] at h; cases h
    · rwa [put_ne _ _ hi] at h
  have hL : Later w w S S ι (put ι s.nx (some (.clo v))) (· < s.nx) := ⟨fun b hb => ⟨hb, rfl⟩, fun i p hi h => by rw [put_id _ _ (by dsimp only; omega)]; exact h⟩
  refine ⟨⟨hC.frame, hC.sub, hC.lt, fun b hb ⟨i, c, z, h⟩ => hC.dis b hb ⟨i, c, z, hne _ _ _ _ h⟩, fun i g c z h => hC.own i g c z (hne _ _ _ _ h), fun i j g c d z r h1 h2 => hC.inj i j g _ _ _ _ (hne _ _ _ _ h1) (hne _ _ _ _ h2), ?_, ?_, ?_, hC.fxs⟩, hL⟩
  · intro i hi
    rw [put_id _ _ (by dsimp only; omega)]
    exact hC.new i (by omega)
  · intro i o' h
    rw [look_cons] at h
    split at h
    · rename_i e
      subst e
      simp only [Option.some.injEq] at h
      subst h
      exact ⟨Nat.lt_succ_self _, hu, ho⟩
    · have ⟨h1, h2, h3⟩ := hC.obj i o' h
      refine ⟨Nat.lt_succ_of_lt h1, ?_, h3.mono hL h1 h2 (fun _ k q hk hq => by rw [put_id _ _ (by rw [hk]; exact Nat.ne_of_lt h1)]; exact hq) (fun _ _ _ _ _ _ => rfl)⟩
      cases o' with
      | box cs => exact fun c hc j hj => Nat.lt_succ_of_lt (h2 c hc j hj)
      | list => trivial
      | map => trivial
      | ranged => trivial
      | clo => exact ⟨fun c hc j hj => Nat.lt_succ_of_lt (h2.1 c hc j hj), fun c hc j hj => Nat.lt_succ_of_lt (h2.2 c hc j hj)⟩
      | nest => exact fun h0 c hc j hj => Nat.lt_succ_of_lt (h2 h0 c hc j hj)
  · intro i q h
    have h' := hC.stay i q h
    by_cases hi : i = s.nx
    · subst hi; rw [hC.new _ (Nat.le_refl _)] at h'; cases h'
    · rw [put_id _ _ hi]; exact h'
theorem cloC_rel {v : Value} {x : AV} (h : VRel w S ι v x) (hc : cloC x = true) : CRel w S ι v x := by
  cases h with
  | one h => cases h with
    | cell h => exact h
    | agg => simp [cloC] at hc
  | tup => simp [cloC] at hc
  | any => simp [cloC] at hc
theorem cloA_sound (n : Nat) (f c : Array Operand) : (cloA s n f.toList c.toList).Sound E s (fun ρ => do pure (.value (← Instr.makeFunc (.func n) (f.map ρ) (c.map ρ)))) := by
  unfold cloA
  cases hf : opnds s.tm f.toList with
  | none => trivial
  | some fs =>
    simp only
    cases hc : opnds s.tm c.toList with
    | none => trivial
    | some cs =>
      simp only
      cases hb : (fs.all (fun x => cloC x) && cs.all (fun x => cloC x)) with
      | false => trivial
      | true =>
        simp only [cond_true]
        simp only [Bool.and_eq_true, List.all_eq_true] at hb
        intro a w ι S hC hTm
        have h1 := opnds_rel hTm f.toList fs hf
        have h2 := opnds_rel hTm c.toList cs hc
        have hL : Later w w S S ι (put ι s.nx (some (.clo (.func (.func n) (f.map a.eval) (c.map a.eval))))) (· < s.nx) := ⟨fun b hb => ⟨hb, rfl⟩, fun i p hi h => by rw [put_id _ _ (by dsimp only; omega)]; exact h⟩
        have up : ∀ {us : List Value} {xs : List AV}, All2 (VRel w S ι) us xs → (∀ x ∈ xs, x.uses (· < s.nx)) → (∀ x ∈ xs, cloC x = true) → All2 (CRel w S (put ι s.nx (some (.clo (.func (.func n) (f.map a.eval) (c.map a.eval)))))) us xs := fun h hu hx => All2.of h.length fun i v x hv hxx =>
          (cloC_rel (h.at hv hxx) (hx x (List.mem_of_getElem? hxx))).mono hL (AV.uses_id (hu x (List.mem_of_getElem? hxx)))
        have ho : ObjOk w S (put ι s.nx (some (.clo (.func (.func n) (f.map a.eval) (c.map a.eval))))) s.nx (.clo n fs cs) := by
          refine .clo n fs cs (f.toList.map a.eval) (c.toList.map a.eval) ?_ (up h1.1 h1.2 hb.1) (up h2.1 h2.2 hb.2)
          rw [put_same]
          have e1 : (f.toList.map a.eval).toArray = f.map a.eval := Array.ext' (by simp)
          have e2 : (c.toList.map a.eval).toArray = c.map a.eval := Array.ext' (by simp)
          rw [e1, e2]
        have := hC.newC ho ⟨fun x hx i hi => Nat.lt_succ_of_lt (AV.uses_id (h1.2 x hx) i hi), fun x hx i hi => Nat.lt_succ_of_lt (AV.uses_id (h2.2 x hx) i hi)⟩
        exact ⟨_, w, _, S, exec_value rfl, this.1, Nat.le_succ _, this.2, .one (.cell (.clo s.nx _ (put_same _ _ _) rfl)), Nat.lt_succ_self _⟩
end Go.Am
