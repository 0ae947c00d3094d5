/-
  REGIONS THAT DRAW THEIR ORDER: what a step looks at.
-/
import Derived.Test.YtdnanpokaanhdaaDoorAm9
namespace Go.Am
open Go.RowKit
set_option linter.unusedVariables false
set_option linter.unusedSimpArgs false

variable {tt : Tab}

theorem mem_tmpsOf {t : Nat} : ∀ {l : List Operand}, .tmp t ∈ l → memB t (tmpsOf l) = true
  | [], h => by cases h
  | x :: r, h => by
    rcases List.mem_cons.1 h with e | h
    · subst e; simp [tmpsOf, memB_cons]
    · have ih := mem_tmpsOf h
      cases x with
      | tmp k => simp only [tmpsOf, memB_cons]; split <;> first | rfl | exact ih
      | _ => exact ih
theorem opnd_eq {tm tm' : List (Nat × AV)} {x : Operand} (h : ∀ t, x = .tmp t → look tm t = look tm' t) : opnd tm x = opnd tm' x := by
  cases x with
  | tmp t => simp only [opnd, h t rfl]
  | _ => rfl
def Agree (l : List Operand) (tm tm' : List (Nat × AV)) : Prop := ∀ x ∈ l, opnd tm x = opnd tm' x
theorem partsA_eq {tm tm' : List (Nat × AV)} : ∀ {ps : List (Nat × Operand)}, Agree (ps.map (·.2)) tm tm' → partsA tm ps = partsA tm' ps
  | [], _ => rfl
  | (i, x) :: r, h => by
    have hx := h x (by simp)
    have hr := partsA_eq (ps := r) fun y hy => h y (by simp only [List.map_cons, List.mem_cons]; exact .inr hy)
    simp only [partsA, hx, hr]
theorem opnds_eq {tm tm' : List (Nat × AV)} : ∀ {l : List Operand}, Agree l tm tm' → opnds tm l = opnds tm' l
  | [], _ => rfl
  | x :: r, h => by
    have hx := h x (by simp)
    have hr := opnds_eq (l := r) fun y hy => h y (by simp [hy])
    simp only [opnds, hx, hr]

theorem stepA_congr (o : Op) {tm tm' : List (Nat × AV)} (hq : Hp) (n : Nat) (h : Agree o.operands.toList tm tm') : stepA tt o ⟨tm, hq, n⟩ = stepA tt o ⟨tm', hq, n⟩ := by
  cases o with
  | move x => simp only [stepA, moveA, h x (by simp [Op.operands])]
  | assign x => simp only [stepA, moveA, h x (by simp [Op.operands])]
  | alloc t => rfl
  | nilCheck x => simp only [stepA, nilA, h x (by simp [Op.operands])]
  | range t x => simp only [stepA, rangeA, h x (by simp [Op.operands])]
  | next x b => simp only [stepA, nextA, h x (by simp [Op.operands])]
  | entry x => simp only [stepA, entryA, h x (by simp [Op.operands])]
  | pick c x y => simp only [stepA, h c (by simp [Op.operands])]
  | box t x => simp only [stepA, boxA, h x (by simp [Op.operands])]
  | build t ps =>
    have := partsA_eq (ps := ps.toList) (fun x hx => h x (by simpa [Op.operands] using hx))
    simp only [stepA, buildA, this]
  | load t x => simp only [stepA, loadOA, h x (by simp [Op.operands])]; rfl
  | store t x v => simp only [stepA, storeA, h x (by simp [Op.operands]), h v (by simp [Op.operands])]; rfl
  | binOp op t x y k =>
    have hn : nilIfA ⟨tm, hq, n⟩ op x y = nilIfA ⟨tm', hq, n⟩ op x y := by unfold nilIfA; cases y <;> first | rfl | (rename_i c; cases c <;> first | rfl | simp only [h x (by simp [Op.operands])])
    simp only [stepA, binA, boolA, eqNilA, keyA, hn, h x (by simp [Op.operands]), h y (by simp [Op.operands])]; rfl
  | makeInterface t x => simp only [stepA, ifaceA, h x (by simp [Op.operands])]
  | unOp op t x => simp only [stepA, unA, h x (by simp [Op.operands])]; rfl
  | convert a b x => simp only [stepA, convA, strA, strToA, h x (by simp [Op.operands])]
  | fieldAddr t x f =>
    have e : ∀ k p, fieldAddrPA ⟨tm, hq, n⟩ k p = fieldAddrPA ⟨tm', hq, n⟩ k p := by intro k p; cases p <;> rfl
    simp only [stepA, fieldAddrA, h x (by simp [Op.operands]), e]
  | field t x f => simp only [stepA, fieldA, h x (by simp [Op.operands])]
  | indexAddr t x i => simp only [stepA, indexAddrA, intA, h x (by simp [Op.operands]), h i (by simp [Op.operands])]; rfl
  | index t x i => simp only [stepA, indexVA, strIdxA, intA, h x (by simp [Op.operands]), h i (by simp [Op.operands])]
  | extract x i => simp only [stepA, extractA, h x (by simp [Op.operands])]
  | buildSlice t k ps =>
    have := partsA_eq (ps := ps.toList) (fun x hx => h x (by simpa [Op.operands] using hx))
    simp only [stepA, buildSliceA, this]
  | makeSlice t l c => simp only [stepA, makeSliceA, intA, h l (by simp [Op.operands]), h c (by simp [Op.operands])]
  | makeMap t r =>
    cases r with
    | none => rfl
    | some x => simp only [stepA, makeMapA, h x (by simp [Op.operands])]
  | mapUpdate t m k v => simp only [stepA, mapSetA, h m (by simp [Op.operands]), h k (by simp [Op.operands]), h v (by simp [Op.operands])]
  | lookup t x i b => simp only [stepA, lookupA, h x (by simp [Op.operands]), h i (by simp [Op.operands])]
  | slice t x lo hi mx =>
    cases mx with
    | some m =>
      have hx := h x (by simp [Op.operands])
      have hm := h m (by simp [Op.operands])
      cases lo with
      | none => simp only [stepA, sliceMA, hx]
      | some l =>
        cases hi with
        | none => simp only [stepA, sliceMA, hx]
        | some b => simp only [stepA, sliceMA, intA, hx, hm, h b (by simp [Op.operands]), h l (by simp [Op.operands])]
    | none =>
      have hx := h x (by simp [Op.operands])
      cases lo with
      | none =>
        cases hi with
        | none => simp only [stepA, sliceOA, sliceArrA, strCutA, hx]; rfl
        | some b => simp only [stepA, sliceOA, sliceArrA, strCutA, intA, hx, h b (by simp [Op.operands])]; rfl
      | some l =>
        cases hi with
        | none => simp only [stepA, sliceOA, sliceArrA, strCutA, intA, hx, h l (by simp [Op.operands])]; rfl
        | some b => simp only [stepA, sliceOA, sliceArrA, strCutA, intA, hx, h b (by simp [Op.operands]), h l (by simp [Op.operands])]; rfl
  | makeFunc fn f c =>
    have h1 := opnds_eq (l := f.toList) fun x hx => h x (by simp only [Op.operands, Array.toList_append, List.mem_append]; exact .inl hx)
    have h2 := opnds_eq (l := c.toList) fun x hx => h x (by simp only [Op.operands, Array.toList_append, List.mem_append]; exact .inr hx)
    simp only [stepA, cloA, h1, h2]
  | call c =>
    simp only [stepA]
    cases hc : c.callee with
    | value f =>
      have hf := h f (by simp [Op.operands, Call.operands, hc])
      have ha := opnds_eq (l := c.args.toList) (fun x hx => h x (by simp only [Op.operands, Call.operands, hc, Array.toList_append, List.mem_append]; exact .inr hx))
      simp only [callA, hf, ha]
    | invoke r m => rfl
    | builtin b =>
      have ha : Agree c.args.toList tm tm' := fun x hx => h x (by simp only [Op.operands, Call.operands, hc, Array.toList_append, List.mem_append]; exact .inr hx)
      revert ha
      generalize c.args.toList = l
      intro ha
      cases b <;> simp only [builtinA]
      case len =>
        cases l with
        | nil => rfl
        | cons x r =>
          cases r with
          | nil =>
            cases c.argTypes.toList with
            | nil => rfl
            | cons t r => cases r with
              | nil => simp only [lenOA, ha x (by simp)]
              | cons => rfl
          | cons => rfl
      case append =>
        cases l with
        | nil => rfl
        | cons x r =>
          cases r with
          | nil => rfl
          | cons y r =>
            cases r with
            | nil =>
              cases c.argTypes.toList with
              | nil => rfl
              | cons t r => cases r with
                | nil => rfl
                | cons t' r => cases r with
                  | nil => simp only [appendA, ha x (by simp), ha y (by simp)]; rfl
                  | cons => rfl
            | cons => rfl
      case min =>
        cases l with
        | nil => rfl
        | cons x r =>
          cases r with
          | nil => rfl
          | cons y r =>
            cases r with
            | nil => simp only [minA, ha x (by simp), ha y (by simp)]
            | cons => rfl
      case copy =>
        cases l with
        | nil => rfl
        | cons x r =>
          cases r with
          | nil => rfl
          | cons y r =>
            cases r with
            | nil =>
              cases c.argTypes.toList with
              | nil => rfl
              | cons t r => cases r with
                | nil => rfl
                | cons t' r => cases r with
                  | nil => simp only [copyA, ha x (by simp), ha y (by simp)]; rfl
                  | cons => rfl
            | cons => rfl
      case clear =>
        cases l with
        | nil => rfl
        | cons x r =>
          cases r with
          | nil =>
            cases c.argTypes.toList with
            | nil => rfl
            | cons t r => cases r with
              | nil => simp only [clearA, ha x (by simp)]
              | cons => rfl
          | cons => rfl
      case delete =>
        cases l with
        | nil => rfl
        | cons x r =>
          cases r with
          | nil => rfl
          | cons y r =>
            cases r with
            | nil =>
              cases c.argTypes.toList with
              | nil => rfl
              | cons t r => cases r with
                | nil => rfl
                | cons t' r => cases r with
                  | nil => simp only [deleteA, ha x (by simp), ha y (by simp)]
                  | cons => rfl
            | cons => rfl
  | _ => rfl

/-- The results that stay where more is in memory. -/
def SR.calm : SR → Prop
  | .ok _ => True
  | .cond _ _ => True
  | .pick _ _ _ => True
  | .newL0 _ _ => True
  | .call _ _ => True
  | _ => False

theorem loadPA_mono {tm : List (Nat × AV)} {hq hp : Hp} {n n' : Nat} (h : ∀ id o, look hq id = some o → look hp id = some o) (ag : Bool) (sz : Nat) (p : AV) (hc : (loadPA ⟨tm, hq, n⟩ ag sz p).calm) :
    loadPA ⟨tm, hp, n'⟩ ag sz p = loadPA ⟨tm, hq, n⟩ ag sz p := by
  cases p with
  | pt id row off =>
    simp only [loadPA] at *
    cases ho : look hq id with
    | none => simp [ho, SR.calm] at hc
    | some o => rw [h id o ho]
  | _ => rfl
theorem rowsA_mono {hq hp : Hp} (h : ∀ id o, look hq id = some o → look hp id = some o) {q : AV} {r : List (List AV) × Prop} (hr : rowsA hq q = some r) : rowsA hp q = some r := by
  cases q with
  | own id len =>
    simp only [rowsA] at *
    cases ho : look hq id with
    | none => simp [ho] at hr
    | some o => rw [h id o ho]; rw [ho] at hr; exact hr
  | val v => exact hr
  | _ => exact hr
theorem strA_mono {tt : Tab} {tm : List (Nat × AV)} {hq hp : Hp} {n n' : Nat} {a : TypeId} {x : Operand} (h : ∀ id o, look hq id = some o → look hp id = some o) (hc : (strA tt ⟨tm, hq, n⟩ a x).calm) : strA tt ⟨tm, hp, n'⟩ a x = strA tt ⟨tm, hq, n⟩ a x := by
  unfold strA at *
  cases he : elemOfA tt a with
  | none => rfl
  | some et =>
    obtain ⟨e, te⟩ := et
    simp only [he] at hc ⊢
    cases hi : te.int with
    | none => rfl
    | some k =>
      cases k <;> simp only [hi] at hc ⊢
      cases hx : opnd tm x with
      | none => rfl
      | some q =>
        simp only [hx] at hc ⊢
        cases hr : rowsA hq q with
        | none => simp [hr, SR.calm] at hc
        | some r => rw [rowsA_mono h hr]
theorem sliceLA_mono {tm : List (Nat × AV)} {hq hp : Hp} {n n' : Nat} (h : ∀ id o, look hq id = some o → look hp id = some o) (sz : Nat) (l : Int) (hh : Option Int) (p : AV) (hc : (sliceLA ⟨tm, hq, n⟩ sz l hh p).calm) :
    sliceLA ⟨tm, hp, n'⟩ sz l hh p = sliceLA ⟨tm, hq, n⟩ sz l hh p := by
  cases p with
  | own id len =>
    simp only [sliceLA] at *
    cases ho : look hq id with
    | none => simp [ho, SR.calm] at hc
    | some o => rw [h id o ho]
  | _ => rfl
theorem stepA_mono (o : Op) {tm : List (Nat × AV)} {hq hp : Hp} {n n' : Nat} (h : ∀ id o, look hq id = some o → look hp id = some o) (hc : (stepA tt o ⟨tm, hq, n⟩).calm) : stepA tt o ⟨tm, hp, n'⟩ = stepA tt o ⟨tm, hq, n⟩ := by
  cases o with
  | load t x =>
    simp only [stepA, loadOA] at *
    cases ht : look tt t with
    | none => rfl
    | some ti =>
      simp only [ht] at *
      cases hx : opnd tm x with
      | none => rfl
      | some p => simp only [hx] at *; exact loadPA_mono h _ _ _ hc
  | store t x v =>
    exfalso
    simp only [stepA, storeA] at hc
    cases ht : look tt t with
    | none => simp [ht, SR.calm] at hc
    | some ti =>
      simp only [ht] at hc
      cases hx : opnd tm x with
      | none => simp [hx, SR.calm] at hc
      | some p =>
        cases hv : opnd tm v with
        | none => simp [hx, hv, SR.calm] at hc
        | some u =>
          have : ∀ u, ¬ (storePA ⟨tm, hq, n⟩ ti.size u p).calm := by
            intro u hc
            cases p with
            | pt id row off =>
              simp only [storePA] at hc
              cases ho : look hq id with
              | none => simp [ho, SR.calm] at hc
              | some o =>
                cases o with
                | box cs =>
                  cases row with
                  | zero => simp only [ho, forceL_eq] at hc; cases hb : (Nat.beq u.cells.length ti.size && Nat.ble (off + ti.size) cs.length) <;> simp [hb, SR.calm] at hc
                  | succ row => simp only [ho] at hc; cases hb : Nat.beq u.cells.length ti.size <;> simp [hb, SR.calm] at hc
                | map => simp only [ho] at hc; exact hc
                | ranged => simp only [ho] at hc; exact hc
                | clo => simp only [ho] at hc; exact hc
                | nest e sz rows => simp only [ho] at hc; cases hb : (Nat.beq u.cells.length ti.size && Nat.ble (off + ti.size) sz && u.cells.all cellN) <;> (rw [hb] at hc; exact hc)
                | list e sz rows => simp only [ho] at hc; cases hb : (Nat.beq u.cells.length ti.size && Nat.ble (off + ti.size) sz && u.cells.all plainA) <;> (rw [hb] at hc; exact hc)
            | _ => exact hc
          simp only [hx, hv] at hc
          cases u with
          | tup vs => exact hc
          | _ => exact this _ hc
  | indexAddr t x i =>
    simp only [stepA, indexAddrA, intA] at *
    cases hi : opnd tm i with
    | none => rfl
    | some iv =>
      simp only [hi] at *
      cases hx : opnd tm x with
      | none => rfl
      | some p =>
        have key : ∀ te m, (indexSA ⟨tm, hq, n⟩ te m p).calm → indexSA ⟨tm, hp, n'⟩ te m p = indexSA ⟨tm, hq, n⟩ te m p := by
          intro te m hc
          cases p with
          | own id len =>
            simp only [indexSA] at *
            cases ho : look hq id with
            | none => simp [ho, SR.calm] at hc
            | some o => rw [h id o ho]
          | _ => rfl
        have key2 : ∀ te m z, (indexRA ⟨tm, hq, n⟩ te m z p).calm → indexRA ⟨tm, hp, n'⟩ te m z p = indexRA ⟨tm, hq, n⟩ te m z p := by
          intro te m z hc
          cases p with
          | pt id row off =>
            simp only [indexRA] at *
            cases ho : look hq id with
            | none => simp [ho, SR.calm] at hc
            | some o => rw [h id o ho]
          | _ => rfl
        simp only [hx] at *
        cases iv with
        | val u =>
          cases u with
          | int k z =>
            simp only at *
            cases he : elemOfA tt t with
            | some et => obtain ⟨e, te⟩ := et; simp only [he] at *; exact key _ _ hc
            | none =>
              simp only [he] at *
              cases ha : arrayOfA tt t with
              | none => rfl
              | some mt =>
                obtain ⟨m, e, te⟩ := mt
                simp only [ha] at hc ⊢
                cases hbb : Nat.blt 1 m with
                | true => rw [hbb] at hc; exact key2 _ _ _ hc
                | false => rfl
          | _ => rfl
        | _ => rfl
  | convert a b x =>
    simp only [stepA] at *
    cases hb : isStrT tt b with
    | false => simp only [hb] at *; rfl
    | true => simp only [hb] at *; exact strA_mono h hc
  | call c =>
    simp only [stepA] at *
    cases hcc : c.callee with
    | value f =>
      simp only [hcc, callA] at hc ⊢
      cases hx : opnd tm f with
      | none => rfl
      | some p =>
        cases p with
        | clo id =>
          simp only [hx] at hc ⊢
          cases hl : look hq id with
          | none => simp only [hl] at hc; exact hc.elim
          | some o => simp only [h id o hl]
        | val v => cases v with
          | func fn f1 c1 => cases fn <;> rfl
          | _ => rfl
        | _ => rfl
    | invoke r m => rfl
    | builtin b =>
      simp only [hcc] at hc
      cases b <;> first | rfl | skip
      case clear =>
        exfalso; revert hc
        simp only [builtinA, clearA, Bool.cond_eq_ite]
        repeat' split
        all_goals exact fun h => h
      case delete =>
        exfalso; revert hc
        simp only [builtinA, deleteA, Bool.cond_eq_ite]
        repeat' split
        all_goals exact fun h => h
      case len =>
        simp only [builtinA] at hc ⊢
        split
        · rename_i x hx
          simp only [hx] at hc
          split
          · rename_i t ht
            simp only [ht, lenOA] at hc ⊢
            split
            · rename_i ti hti
              simp only [hti] at hc
              split
              · rfl
              · rename_i mk me hk
                simp only [hk] at hc
                cases hx : opnd tm x with
                | none => rfl
                | some p =>
                  cases p with
                  | mp id =>
                    simp only [hx] at hc ⊢
                    cases hl : look hq id with
                    | none => simp only [hl] at hc; exact hc.elim
                    | some o => simp only [h id o hl]
                  | _ => rfl
              · rfl
              · rfl
            · rfl
          · rfl
        · rfl
      case append =>
        exfalso
        revert hc
        generalize c.args.toList = l
        generalize c.argTypes.toList = ts
        intro hc
        cases l with
        | nil => exact hc
        | cons x r => cases r with
          | nil => exact hc
          | cons y r => cases r with
            | cons => exact hc
            | nil => cases ts with
              | nil => exact hc
              | cons t r => cases r with
                | nil => exact hc
                | cons t' r => cases r with
                  | cons => exact hc
                  | nil =>
                    simp only [builtinA] at hc
                    cases hb : Nat.beq t t' with
                    | false => rw [hb] at hc; exact hc
                    | true =>
                      rw [hb] at hc
                      simp only [cond_true, appendA] at hc
                      cases he : elemOfA tt t with
                      | none => simp [he, SR.calm] at hc
                      | some et =>
                        obtain ⟨e, te⟩ := et
                        simp only [he] at hc
                        cases hx : opnd tm x with
                        | none => simp [hx, SR.calm] at hc
                        | some p =>
                          cases hy : opnd tm y with
                          | none => simp [hx, hy, SR.calm] at hc
                          | some q =>
                            cases hr : rowsA hq q with
                            | none =>
                              simp only [hx, hy, hr] at hc
                              revert hc
                              unfold appendNA
                              intro hc
                              split at hc
                              · revert hc
                                simp only [appendSA, Bool.cond_eq_ite]
                                repeat' split
                                all_goals exact fun h => h
                              · split at hc
                                · split at hc
                                  · generalize (Nat.beq e _ && Nat.beq _ te.size && Nat.beq _ te.size && List.all _ _) = bb at hc
                                    cases bb <;> exact hc
                                  · exact hc
                                · exact hc
                              · exact hc
                            | some yp =>
                              obtain ⟨ys, pp⟩ := yp
                              simp only [hx, hy, hr] at hc
                              revert hc
                              unfold appendPA
                              intro hc
                              split at hc
                              · split at hc
                                · cases hb : (Nat.beq e _ && Nat.beq _ te.size) <;> (rw [hb] at hc; exact hc)
                                · exact hc
                              · simp only [szOf_eq] at hc
                                cases hb : Nat.blt 0 te.size <;> (rw [hb] at hc; exact hc)
                              · exact hc
      case copy =>
        exfalso
        revert hc
        generalize c.args.toList = l
        generalize c.argTypes.toList = ts
        intro hc
        cases l with
        | nil => exact hc
        | cons x r => cases r with
          | nil => exact hc
          | cons y r => cases r with
            | cons => exact hc
            | nil => cases ts with
              | nil => exact hc
              | cons t r => cases r with
                | nil => exact hc
                | cons t' r => cases r with
                  | cons => exact hc
                  | nil =>
                    simp only [builtinA] at hc
                    cases hb : Nat.beq t t' with
                    | false => rw [hb] at hc; exact hc
                    | true =>
                      rw [hb] at hc
                      simp only [cond_true, copyA] at hc
                      cases he : elemOfA tt t with
                      | none => simp [he, SR.calm] at hc
                      | some et =>
                        obtain ⟨e, te⟩ := et
                        simp only [he] at hc
                        cases hx : opnd tm x with
                        | none => simp [hx, SR.calm] at hc
                        | some p =>
                          cases hy : opnd tm y with
                          | none => simp [hx, hy, SR.calm] at hc
                          | some q =>
                            cases hr : rowsA hq q with
                            | none => simp [hx, hy, hr, SR.calm] at hc
                            | some yp =>
                              obtain ⟨ys, pp⟩ := yp
                              simp only [hx, hy, hr] at hc
                              revert hc
                              unfold copyPA
                              intro hc
                              split at hc
                              · split at hc
                                · cases hb : (Nat.beq te.size 1 && Nat.blt 0 _) <;> (rw [hb] at hc; exact hc)
                                · exact hc
                              · exact hc
  | buildSlice t k ps => rfl
  | slice t x lo hi mx =>
    cases mx with
    | some m => rfl
    | none =>
      simp only [stepA, sliceOA] at *
      cases he : elemOfA tt t with
      | none => rfl
      | some et =>
        obtain ⟨e, te⟩ := et
        simp only [he] at *
        cases hx : opnd tm x with
        | none => rfl
        | some p =>
          simp only [hx] at *
          cases lo with
          | none => rfl
          | some l =>
            have e1 : ∀ o : Operand, intA ⟨tm, hp, n'⟩ o = intA ⟨tm, hq, n⟩ o := fun _ => rfl
            simp only [e1] at *
            cases hl : intA ⟨tm, hq, n⟩ l with
            | none => rfl
            | some i =>
              simp only [hl] at *
              cases hi with
              | none => exact sliceLA_mono h _ _ _ _ hc
              | some hh =>
                simp only at *
                cases hl2 : intA ⟨tm, hq, n⟩ hh with
                | none => rfl
                | some b =>
                  simp only [hl2] at *
                  exact sliceLA_mono h _ _ _ _ hc
  | makeMap t r => cases r <;> rfl
  | mapUpdate t m k v =>
    exfalso; revert hc
    simp only [stepA, mapSetA, Bool.cond_eq_ite]
    repeat' split
    all_goals exact fun h => h
  | lookup t x i b =>
    simp only [stepA, lookupA] at *
    cases hm : mapOfA tt t with
    | none => rfl
    | some km =>
      simp only [hm] at *
      cases hx : opnd tm x with
      | none => rfl
      | some p =>
        cases p with
        | mp id =>
          simp only [hx] at *
          cases hl : look hq id with
          | none => simp only [hl] at hc; exact hc.elim
          | some o => simp only [h id o hl]
        | _ => rfl
  | nilCheck x =>
    simp only [stepA, nilA] at *
    cases hx : opnd tm x with
    | none => rfl
    | some p =>
      cases p with
      | clo id =>
        simp only [hx] at hc ⊢
        cases hl : look hq id with
        | none => simp only [hl] at hc; exact hc.elim
        | some o => simp only [h id o hl]
      | val v => cases v with
        | func fn f1 c1 => cases fn <;> rfl
        | _ => rfl
      | _ => rfl
  | range t x =>
    exfalso; revert hc
    simp only [stepA, rangeA]
    repeat' split
    all_goals exact fun h => h
  | next x b =>
    exfalso; revert hc
    simp only [stepA, nextA, Bool.cond_eq_ite]
    repeat' split
    all_goals exact fun h => h
  | entry x =>
    simp only [stepA, entryA] at *
    split
    · rename_i id hx
      simp only [hx] at hc
      cases hl : look hq id with
      | none => simp only [hl] at hc; exact hc.elim
      | some o => simp only [h id o hl]
    · rfl
  | _ => rfl
theorem sliceLA_pick {s : St} {sz : Nat} {l : Int} {h : Option Int} {p : AV} {b : Bool} {x y : Operand} : sliceLA s sz l h p ≠ .pick b x y := by
  cases p with
  | own id len =>
    simp only [sliceLA]
    cases look s.hp id with
    | none => intro e; cases e
    | some o =>
      cases o with
      | box cs => intro e; cases e
      | nest => intro e; cases e
      | map => intro e; cases e
      | ranged => intro e; cases e
      | clo => intro e; cases e
      | list e sz' rows =>
        simp only
        cases Nat.beq sz' sz with
        | false => intro e; cases e
        | true => cases h <;> (intro e; cases e)
  | lst rows => cases h <;> (intro e; cases e)
  | _ => intro e; cases e
theorem stepA_pick {tt : Tab} {s : St} {o : Op} {b : Bool} {x y : Operand} (h : stepA tt o s = .pick b x y) : ∃ c, o = .pick c x y := by
  cases o with
  | pick c x0 y0 =>
    simp only [stepA] at h
    split at h
    · simp only [SR.pick.injEq] at h; exact ⟨c, by rw [h.2.1, h.2.2]⟩
    · cases h
  | call c =>
    exfalso; revert h
    simp only [stepA, callA, builtinA, deleteA, clearA, lenOA, appendA, appendPA, appendNA, appendSA, minA, copyA, copyPA, szOf_eq, Bool.cond_eq_ite]
    repeat' split
    all_goals (intro h; cases h)
  | _ =>
    exfalso; revert h
    simp only [stepA, ifaceA, nilIfA, nilIfV, moveA, nilA, rangeA, nextA, entryA, cloA, allocA, boxA, buildA, makeMapA, mapSetA, lookupA, loadOA, loadPA, storeA, storePA, binA, boolA, eqNilA, keyA, eqNilPA, strA, strToA, strIdxA, strCutA, unA, convA, fieldAddrA, fieldAddrPA, fieldA, indexAddrA, indexSA, indexRA, indexVA, extractA, buildSliceA, makeSliceA, sliceOA, sliceMA, sliceArrA, sliceRA, sliceHA, evA, forceL_eq, forceLL_eq, szOf_eq, Bool.cond_eq_ite]
    repeat' split
    all_goals first
      | (intro h; exact absurd h sliceLA_pick)
      | (intro h; cases h)
end Go.Am
