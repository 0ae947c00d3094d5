/-
  THE READING IS TRUE, operation by operation: elements, slices, what is made, append, calls.
-/
import Derived.Test.YtdnanpokaanhdaaDoorAm4
import Derived.Laws.DeepStrings4
import Derived.Laws.Strings3
namespace Go.Am
open Go.RowKit
set_option linter.unusedVariables false
set_option linter.unusedSimpArgs false

variable {E : Env} {s : St} {a : Act} {w : World} {ι : Loc} {S : Nat → Prop} {tt : Tab}

theorem elemOfA_ok (hT : TabOk E.P tt) {t e : Nat} {te : TI} (h : elemOfA tt t = some (e, te)) : E.P.underlying t = some (.slice e) ∧ ∃ i d, TyOk E.P e te i d := by
  unfold elemOfA at h
  cases hl : look tt t with
  | none => simp [hl] at h
  | some ti =>
    obtain ⟨i, d, hk⟩ := hT t ti hl
    simp only [hl] at h
    cases hkk : ti.kind with
    | slice e' =>
      simp only [hkk] at h
      cases hle : look tt e' with
      | none => simp [hle] at h
      | some te' =>
        simp [hle] at h
        obtain ⟨rfl, rfl⟩ := h
        have hkd := hk.kind
        rw [hkk] at hkd
        cases d <;> simp [kindChk] at hkd
        subst hkd
        exact ⟨hk.under, hT _ _ hle⟩
    | _ => simp [hkk] at h
theorem arrayOfA_ok (hT : TabOk E.P tt) {t n e : Nat} {te : TI} (h : arrayOfA tt t = some (n, e, te)) : E.P.underlying t = some (.array n e) ∧ ∃ i d, TyOk E.P e te i d := by
  unfold arrayOfA at h
  cases hl : look tt t with
  | none => simp [hl] at h
  | some ti =>
    obtain ⟨i, d, hk⟩ := hT t ti hl
    simp only [hl] at h
    cases hkk : ti.kind with
    | array m e' =>
      simp only [hkk] at h
      cases hle : look tt e' with
      | none => simp [hle] at h
      | some te' =>
        simp [hle] at h
        obtain ⟨rfl, rfl, rfl⟩ := h
        have hkd := hk.kind
        rw [hkk] at hkd
        cases d <;> simp [kindChk] at hkd
        obtain ⟨⟨rfl, rfl⟩, _⟩ := hkd
        exact ⟨hk.under, hT _ _ hle⟩
    | _ => simp [hkk] at h

theorem intA_ok {nt nx : Nat} (hTm : TmOk ι S s.tm nt nx w a.tmps) {x : Operand} {n : Int} (h : intA s x = some n) : ∃ k, a.eval x = .int k n := by
  unfold intA at h
  cases hx : opnd s.tm x with
  | none => simp [hx] at h
  | some v =>
    cases v with
    | val u =>
      cases u with
      | int k m => simp [hx] at h; subst h; exact ⟨k, (opnd_rel hTm hx).1.val_inv.1⟩
      | _ => simp [hx] at h
    | _ => simp [hx] at h

theorem indexAddrA_sound (hT : TabOk E.P tt) (t : TypeId) (x i : Operand) : (indexAddrA tt s t x i).Sound E s (fun ρ => do pure (.value (← Instr.indexAt t (ρ x) (ρ i)))) := by
  unfold indexAddrA
  cases hi : intA s i with
  | none => trivial
  | some n =>
    cases hx : opnd s.tm x with
    | none => trivial
    | some p =>
      simp only
      cases he : elemOfA tt t with
      | some et =>
        obtain ⟨e, te⟩ := et
        simp only
        obtain ⟨hu, it, dt, hk⟩ := elemOfA_ok hT he
        have run : ∀ (w : World) (k : IntKind) (b off len cap : Nat), 0 ≤ n → n < len → (Instr.indexAt t (.slice (some ⟨b, off, none⟩) len cap) (.int k n)).run E.P w = .ok (.pointer (some ⟨b, off + n.toNat * te.size, none⟩)) w := by
          intro w k b off len cap h0 h1
          have hs := hk.sizeOf w
          simp [Instr.indexAt, run_underlying hu, asIntOf, h0, h1, hs, Addr.add_none]
        cases p with
        | own id len =>
          simp only [indexSA]
          cases ho : look s.hp id with
          | none => trivial
          | some o =>
            cases o with
            | box cs => trivial
            | map _ _ => trivial
            | ranged _ _ _ => trivial
            | clo _ _ _ => trivial
            | nest e' sz rows =>
              simp only
              cases hb : Nat.beq sz te.size with
              | false => trivial
              | true =>
                simp only [cond_true]
                have hsz := Nat.eq_of_beq_eq_true hb
                rintro ⟨h0, h1⟩ a w ι S hC hTm
                have h := opnd_rel hTm hx
                obtain ⟨k, ek⟩ := intA_ok hTm hi
                rcases h.1.own_inv with ⟨g, cap, s', hg, hl, hm, ev⟩ | ⟨_, rfl, _⟩
                · have hs' : s' = sz := by
                    obtain ⟨_, _, hob⟩ := hC.obj id _ ho
                    cases hob with
                    | nest0 _ _ h' _ => rw [hg] at h'; cases h'
                    | nest g' cap' _ _ _ vs h' _ _ _ _ _ _ _ => rw [hg] at h'; simp at h'; exact h'.2.2
                  subst hs'
                  refine Good.same hC (v := .pointer (some ⟨g, n.toNat * s' + 0, none⟩)) ?_ (.one (.cell (.pt id n.toNat 0 g cap s' hg))) h.2
                  dsimp only
                  rw [ev, ek, hsz]
                  refine exec_value ?_
                  rw [run w k g 0 len cap h0 h1]
                  simp
                · simp at h1; omega
            | list e' sz rows =>
              simp only
              cases hb : Nat.beq sz te.size with
              | false => trivial
              | true =>
                simp only [cond_true]
                have hsz := Nat.eq_of_beq_eq_true hb
                rintro ⟨h0, h1⟩ a w ι S hC hTm
                have h := opnd_rel hTm hx
                obtain ⟨k, ek⟩ := intA_ok hTm hi
                rcases h.1.own_inv with ⟨g, cap, s', hg, hl, hm, ev⟩ | ⟨_, rfl, _⟩
                · have hs' : s' = sz := by
                    obtain ⟨_, _, hob⟩ := hC.obj id _ ho
                    cases hob with
                    | nil _ _ h' _ => rw [hg] at h'; cases h'
                    | list g' cap' _ _ _ vs h' _ _ _ _ _ _ _ => rw [hg] at h'; simp at h'; exact h'.2.2
                  subst hs'
                  refine Good.same hC (v := .pointer (some ⟨g, n.toNat * s' + 0, none⟩)) ?_ (.one (.cell (.pt id n.toNat 0 g cap s' hg))) h.2
                  dsimp only
                  rw [ev, ek, hsz]
                  refine exec_value ?_
                  rw [run w k g 0 len cap h0 h1]
                  simp
                · simp at h1; omega
        | lst rows =>
          rintro ⟨h0, h1, h2⟩ a w ι S hC hTm
          have h := opnd_rel hTm hx
          obtain ⟨k, ek⟩ := intA_ok hTm hi
          generalize hv0 : a.eval x = v0 at h
          have hr := h.1.lst_inv
          cases hr with
          | nil a0 cap hc => simp at h1; omega
          | lst _ b off cap sz cells g0 g1 g2 g3 g4 g5 g6 g7 =>
            have hlt : n.toNat < rows.length := by omega
            have hsz : sz = te.size := by
              have e1 : rows.getD n.toNat [] = rows[n.toNat] := by simp [List.getD_eq_getElem?_getD, hlt]
              rw [e1, g4 _ (List.getElem_mem hlt)] at h2; exact h2
            subst hsz
            have hR := rows_at g4 (by rw [g5]; exact Nat.le_refl _) hlt g7
            refine Good.same hC (v := .pointer (some ⟨b, off + n.toNat * te.size, none⟩)) ?_ (.one (.cell (.rp _ b (off + n.toNat * te.size) g3 _ hR.length (fun j v hj => ?_) (fun j v x hj hx => hR.at hj hx)))) trivial
            · dsimp only
              rw [hv0, ek]
              exact exec_value (run w k b off rows.length cap h0 h1)
            · rw [List.getElem?_take] at hj
              split at hj
              · rw [List.getElem?_drop] at hj
                have := g6 _ v hj
                rwa [← Nat.add_assoc] at this
              · cases hj
        | _ => trivial
      | none =>
        simp only
        cases ha : arrayOfA tt t with
        | none => trivial
        | some y =>
          obtain ⟨m, e, te⟩ := y
          simp only
          cases hb : Nat.blt 1 m with
          | false => trivial
          | true =>
            simp only [cond_true]
            obtain ⟨hu, it, dt, hk⟩ := arrayOfA_ok hT ha
            cases p with
            | pt id row off =>
              simp only [indexRA]
              cases ho : look s.hp id with
              | none => trivial
              | some o =>
                have main : ∀ row', (∀ (w : World) (ι : Loc) (S : Nat → Prop) (g c s' : Nat), Core E ι S s.hp s.nx w → ι id = some (.blk g c s') → row' * s' = row * s') →
                    (SR.cond (0 ≤ n ∧ n < m) (.pt id row' (off + n.toNat * te.size))).Sound E s (fun ρ => do pure (.value (← Instr.indexAt t (ρ x) (ρ i)))) := by
                  rintro row' hrow ⟨h0, h1⟩ a w ι S hC hTm
                  have h := opnd_rel hTm hx
                  obtain ⟨k, ek⟩ := intA_ok hTm hi
                  obtain ⟨g, c, s', hg, ev⟩ := h.1.pt_inv
                  refine Good.same hC (v := .pointer (some ⟨g, row' * s' + (off + n.toNat * te.size), none⟩)) ?_ (.one (.cell (.pt id row' _ g c s' hg))) h.2
                  dsimp only
                  rw [ev, ek, hrow w ι S g c s' hC hg, ← Nat.add_assoc]
                  refine exec_value ?_
                  have hs := hk.sizeOf w
                  simp [Instr.indexAt, run_underlying hu, asIntOf, Instr.sureAddr, h0, h1, hs, Addr.add_none]
                cases o with
                | box cs =>
                  refine main (row + 1) fun w ι S g c s' hC hg => ?_
                  obtain ⟨_, _, hob⟩ := hC.obj id _ ho
                  cases hob with
                  | box g' c' sz T cs vs h h0 hw hc =>
                    rw [hg] at h; simp at h; obtain ⟨_, _, rfl⟩ := h; subst h0; simp
                | nest e sz rows => trivial
                | map _ _ => trivial
                | ranged _ _ _ => trivial
                | clo _ _ _ => trivial
                | list e sz rows => exact main row fun _ _ _ _ _ _ _ _ => rfl
            | _ => trivial

theorem isStrT_ok (hT : TabOk E.P tt) {t : TypeId} (h : isStrT tt t = true) : E.P.underlying t = some .string := by
  unfold isStrT at h
  cases hl : look tt t with
  | none => simp [hl] at h
  | some ti =>
    obtain ⟨i, d, hk⟩ := hT t ti hl
    simp only [hl] at h
    cases hkk : ti.kind with
    | str =>
      have := hk.kind
      rw [hkk] at this
      cases d <;> simp [kindChk] at this
      exact hk.under
    | _ => simp [hkk] at h
theorem strIdxA_sound (hT : TabOk E.P tt) (t : TypeId) (x i : Operand) (n : Int) (hi : intA s i = some n) : (strIdxA tt s t x n).Sound E s (fun ρ => do pure (.value (← Instr.index t (ρ x) (ρ i)))) := by
  unfold strIdxA
  cases hb : isStrT tt t with
  | false => trivial
  | true =>
    have hu := isStrT_ok hT hb
    simp only
    split
    · rename_i b hx
      intro hp a w ι S hC hTm
      obtain ⟨k, hiv⟩ := intA_ok hTm hi
      have ev := (opnd_rel hTm hx).1.val_inv.1
      have hlt : n.toNat < b.size := by omega
      refine Good.same hC (v := .int .u8 ((b[n.toNat]'hlt).toNat : Int)) ?_ (.one (.cell (.rd ?_))) trivial
      · refine exec_value ?_
        rw [ev, hiv, run_index_string _ _ _ _ _ hu]
        simp [hp]
      · have : b.toList.getD n.toNat 0 = b[n.toNat]'hlt := by
          rw [ByteArray.toList_eq, List.getD_eq_getElem?_getD, List.getElem?_eq_getElem (by simpa using hlt)]
          rfl
        unfold byteAt
        rw [this]
        exact .val _ rfl
    · trivial
theorem strCutA_sound {t : TypeId} (hu : E.P.underlying t = some .string) (x : Operand) (lo hi : Option Operand) (p : AV) (hx : opnd s.tm x = some p) : (strCutA s lo hi p).Sound E s (fun ρ => do pure (.value (← Instr.sliceAt t (ρ x) (lo.map ρ) (hi.map ρ) none))) := by
  unfold strCutA
  have fin : ∀ {b c : ByteArray} {a : Act} {w : World} {ι : Loc} {S : Nat → Prop}, opnd s.tm x = some (.val (.string b)) → Core E ι S s.hp s.nx w → TmOk ι S s.tm E.nt s.nx w a.tmps → (Instr.slice t (.string b) (lo.map a.eval) (hi.map a.eval) none).run E.P w = .ok (.string c) w →
      Good E s ((do pure (.value (← Instr.sliceAt t (a.eval x) (lo.map a.eval) (hi.map a.eval) none)) : Sem Next).run E.P w) w ι S (.val (.string c)) s.hp s.nx := by
    intro b c a w ι S hx hC hTm hr
    have ev := (opnd_rel hTm hx).1.val_inv.1
    refine Good.same hC (v := .string c) (exec_value ?_) (.one (.cell (.rd (.val _ rfl)))) trivial
    rw [ev, run_sliceAt_string _ _ _ _ _ _ hu]
    exact hr
  cases p with
  | val u =>
    cases u with
    | string b =>
      simp only
      cases lo with
      | none =>
        cases hi with
        | none =>
          intro a w ι S hC hTm
          refine fin hx hC hTm ?_
          rw [show (none : Option Operand).map a.eval = none from rfl, run_slice_string_all _ _ _ hu]
          rfl
        | some h =>
          simp only
          cases hj : intA s h with
          | none => trivial
          | some j =>
            intro hp a w ι S hC hTm
            obtain ⟨k, hjv⟩ := intA_ok hTm hj
            refine fin hx hC hTm ?_
            rw [show (none : Option Operand).map a.eval = none from rfl, show (some h).map a.eval = some (a.eval h) from rfl, hjv, run_slice_string_to_if _ _ _ _ _ hu, if_pos hp]
            rfl
      | some l =>
        simp only
        cases hl : intA s l with
        | none => trivial
        | some i =>
          simp only
          cases hi with
          | none =>
            intro hp a w ι S hC hTm
            obtain ⟨k, hiv⟩ := intA_ok hTm hl
            refine fin hx hC hTm ?_
            rw [show (none : Option Operand).map a.eval = none from rfl, show (some l).map a.eval = some (a.eval l) from rfl, hiv, run_slice_string_from_if _ _ _ _ _ hu, if_pos hp]
            simp [cutS]
          | some h =>
            simp only
            cases hj : intA s h with
            | none => trivial
            | some j =>
              intro hp a w ι S hC hTm
              obtain ⟨k, hiv⟩ := intA_ok hTm hl
              obtain ⟨k', hjv⟩ := intA_ok hTm hj
              refine fin hx hC hTm ?_
              rw [show (some h).map a.eval = some (a.eval h) from rfl, show (some l).map a.eval = some (a.eval l) from rfl, hiv, hjv, run_slice_string_if _ _ _ _ _ _ _ hu, if_pos ⟨by omega, hp.2.2⟩, if_pos ⟨hp.1, hp.2.1⟩]
              rfl
    | _ => trivial
  | _ => trivial
theorem indexVA_sound (hT : TabOk E.P tt) (t : TypeId) (x i : Operand) : (indexVA tt s t x i).Sound E s (fun ρ => do pure (.value (← Instr.index t (ρ x) (ρ i)))) := by
  unfold indexVA
  cases hi : intA s i with
  | none => trivial
  | some n =>
    simp only
    cases ha : arrayOfA tt t with
    | none => exact strIdxA_sound hT t x i n hi
    | some mt =>
      obtain ⟨m, e, te⟩ := mt
      simp only
      obtain ⟨hu, it, dt, hk⟩ := arrayOfA_ok hT ha
      cases hx : opnd s.tm x with
      | none => trivial
      | some p =>
        cases p with
        | agg cs =>
          simp only
          cases hb : (!te.kind.isAgg && Nat.beq te.size 1 && Nat.ble m cs.length) with
          | false => trivial
          | true =>
            simp only [Bool.and_eq_true, Bool.not_eq_true'] at hb
            have hsz := Nat.eq_of_beq_eq_true hb.1.2
            have hle := Nat.le_of_ble_eq_true hb.2
            intro hp a w ι S hC hTm
            obtain ⟨k, hiv⟩ := intA_ok hTm hi
            have h := opnd_rel hTm hx
            obtain ⟨vs, ev, hR⟩ := h.1.agg_inv
            have hlt : n.toNat < cs.length := by omega
            have hltv : n.toNat < vs.length := by rw [hR.length]; exact hlt
            have hv := List.getElem?_eq_getElem hltv
            have hc := List.getElem?_eq_getElem hlt
            have hrel := hR.at hv hc
            have hgd : cs.getD n.toNat .junk = cs[n.toNat] := by simp [List.getD_eq_getElem?_getD, hc]
            have hs1 : (Go.sizeOf e).run E.P w = .ok 1 w := by rw [hk.sizeOf w, hsz]
            have hag : (Go.isAgg e).run E.P w = .ok false w := by rw [hk.isAgg w, hb.1.1]
            refine Good.same hC (v := vs[n.toNat]) ?_ ?_ ?_
            · refine exec_value ?_
              rw [ev, hiv]
              simp only [Instr.index, asIntOf, Sem.run_bind, Sem.run_pure, Result.andThen_ok, run_underlying hu, hp, and_self, if_true, hs1, Nat.mul_one]
              unfold part
              simp only [Sem.run_bind, hag, Result.andThen_ok, Bool.false_eq_true, if_false]
              simp [hv]
            · rw [hgd]; exact .one (.cell hrel)
            · rw [hgd]; exact cell_uses hrel.not_agg.1 hrel.not_agg.2 fun id hid => h.2 _ (List.mem_of_getElem? hc) id hid
        | _ => trivial
theorem extractA_sound (x : Operand) (i : Nat) : (extractA s x i).Sound E s (fun ρ => do pure (.value (← Instr.extract (ρ x) i))) := by
  unfold extractA
  cases hx : opnd s.tm x with
  | none => trivial
  | some p =>
    cases p with
    | tup vs =>
      simp only
      cases hi : vs[i]? with
      | none => trivial
      | some av =>
        intro a w ι S hC hTm
        have h := opnd_rel hTm hx
        obtain ⟨us, e, hR⟩ := h.1.tup_inv
        have hlt : i < us.length := by rw [hR.length]; exact (List.getElem?_eq_some_iff.1 hi).1
        have hu := List.getElem?_eq_getElem hlt
        have hrel := hR.at hu hi
        refine Good.same hC (v := us[i]) ?_ (.one hrel) ?_
        · dsimp only
          rw [e]
          refine exec_value ?_
          simp [Instr.extract, hu]
        · have h2 := h.2 av (List.mem_of_getElem? hi)
          generalize us[i] = u0 at hrel
          cases hrel with
          | cell hc => exact cell_uses hc.not_agg.1 hc.not_agg.2 h2.1
          | agg vs' cs hc => exact fun c hc id hid => h2.2 cs rfl c hc id hid
    | _ => trivial

theorem makeFunc_sound (fn : Fn) (f c : Array Operand) : (bif f.size == 0 && c.size == 0 then SR.ok (.val (.func fn #[] #[])) else .no).Sound E s (fun ρ => do pure (.value (← Instr.makeFunc fn (f.map ρ) (c.map ρ)))) := by
  cases h : (f.size == 0 && c.size == 0) with
  | false => trivial
  | true =>
    simp only [cond_true]
    intro a w ι S hC hTm
    simp at h
    obtain ⟨rfl, rfl⟩ := h
    refine Good.same hC (v := .func fn #[] #[]) ?_ (.one (.cell (.rd (.val _ rfl)))) trivial
    exact exec_value (by simp [Instr.makeFunc])

theorem lenOA_sound (hT : TabOk E.P tt) (t ty : TypeId) (x : Operand) : (lenOA tt s t x).Sound E s (fun ρ => do pure (.value (← Builtin.len_ #[t] ty #[ρ x]))) := by
  unfold lenOA
  cases hl : look tt t with
  | none => trivial
  | some ti =>
    obtain ⟨i, d, hk⟩ := hT t ti hl
    have hkd := hk.kind
    simp only
    cases hkk : ti.kind with
    | slice e =>
      rw [hkk] at hkd
      cases d <;> simp [kindChk] at hkd
      have run : ∀ (w : World) (ad : Option Addr) (n c : Nat), (Builtin.len_ #[t] ty #[.slice ad n c]).run E.P w = .ok (.int .i64 n) w := by
        intro w ad n c; simp [Builtin.len_, run_underlying hk.under, goInt]
      cases hx : opnd s.tm x with
      | none => trivial
      | some p =>
        cases p with
        | own id len =>
          intro a w ι S hC hTm
          have h := opnd_rel hTm hx
          refine Good.same hC (v := .int .i64 len) ?_ (.one (.cell (.rd (.val _ rfl)))) trivial
          dsimp only
          refine exec_value ?_
          rcases h.1.own_inv with ⟨g, cap, s', _, _, _, e⟩ | ⟨_, rfl, e⟩
          · rw [e]; exact run ..
          · rw [e]; exact run ..
        | lst rows =>
          intro a w ι S hC hTm
          have h := opnd_rel hTm hx
          refine Good.same hC (v := .int .i64 rows.length) ?_ (.one (.cell (.rd (.val _ rfl)))) trivial
          dsimp only
          refine exec_value ?_
          generalize a.eval x = v0 at h
          have hr := h.1.lst_inv
          cases hr with
          | nil a0 cap hc => exact run ..
          | lst _ b off cap sz cells g0 g1 g2 g3 g4 g5 g6 g7 => exact run ..
        | val u =>
          cases u with
          | slice ad n c =>
            intro a w ι S hC hTm
            have h := (opnd_rel hTm hx).1.val_inv.1
            refine Good.same hC (v := .int .i64 n) ?_ (.one (.cell (.rd (.val _ rfl)))) trivial
            dsimp only
            rw [h]
            exact exec_value (run ..)
          | _ => trivial
        | _ => trivial
    | str =>
      rw [hkk] at hkd
      cases d <;> simp [kindChk] at hkd
      simp only
      cases hx : opnd s.tm x with
      | none => trivial
      | some p =>
        cases p with
        | val u =>
          cases u with
          | string b =>
            intro a w ι S hC hTm
            have h := (opnd_rel hTm hx).1.val_inv.1
            refine Good.same hC (v := .int .i64 b.size) ?_ (.one (.cell (.rd (.val _ rfl)))) trivial
            dsimp only
            rw [h]
            exact exec_value (by simp [Builtin.len_, run_underlying hk.under, goInt])
          | _ => trivial
        | _ => trivial
    | map mk me =>
      rw [hkk] at hkd
      cases d <;> simp [kindChk] at hkd
      simp only
      cases hx : opnd s.tm x with
      | none => trivial
      | some p =>
        cases p with
        | mp id =>
          simp only
          cases ho : look s.hp id with
          | none => trivial
          | some o =>
            cases o with
            | map ks rows =>
              intro a w ι S hC hTm
              obtain ⟨g, em, hg⟩ := (opnd_rel hTm hx).1.mp_inv
              obtain ⟨_, _, hob⟩ := hC.obj id _ ho
              cases hob with
              | map g' clock ks' rows' es h hw he hb =>
                rw [hg] at h
                simp only [Option.some.injEq, Pl.blk.injEq] at h
                obtain ⟨rfl, _⟩ := h
                refine Good.same hC (v := .int .i64 rows.length) ?_ (.one (.cell (.rd (.val _ rfl)))) trivial
                dsimp only
                rw [em]
                refine exec_value ?_
                simp [Builtin.len_, run_underlying hk.under, goInt, MapKept.run_getObj_map hw, Result.andThen_ok, Sem.run_bind, he.length]
            | _ => trivial
        | _ => trivial
    | _ => trivial

theorem opnds_rel {nt nx : Nat} (hTm : TmOk ι S s.tm nt nx w a.tmps) : ∀ (xs : List Operand) (as : List AV), opnds s.tm xs = some as → All2 (VRel w S ι) (xs.map a.eval) as ∧ ∀ x ∈ as, x.uses (· < nx)
  | [], as, h => by simp [opnds] at h; subst h; exact ⟨trivial, fun x hx => by cases hx⟩
  | x :: xs, as, h => by
    simp only [opnds] at h
    cases hx : opnd s.tm x with
    | none => simp [hx] at h
    | some v =>
      cases hr : opnds s.tm xs with
      | none => simp [hx, hr] at h
      | some rest =>
        simp [hx, hr] at h
        subst h
        have h1 := opnd_rel hTm hx
        have ih := opnds_rel hTm xs rest hr
        refine ⟨⟨h1.1, ih.1⟩, fun y hy => ?_⟩
        rcases List.mem_cons.1 hy with rfl | hy
        · exact h1.2
        · exact ih.2 y hy

theorem callA_sound (c : Call) (f : Operand) (hf : c.callee = .value f) (ty : TypeId) : (callA s f c.args.toList).Sound E s (fun ρ => do let d ← resolve ρ c ty; invoke d.target d.args) := by
  unfold callA
  cases hx : opnd s.tm f with
  | none => trivial
  | some p =>
    cases p with
    | val u =>
      cases u with
      | func fn f1 c1 =>
        cases fn with
        | func n =>
          simp only
          cases hb : (f1.size == 0 && c1.size == 0) with
          | false => trivial
          | true =>
            simp only [cond_true]
            cases ho : opnds s.tm c.args.toList with
            | none => trivial
            | some as =>
              intro a w ι S hC hTm
              have h := (opnd_rel hTm hx).1.val_inv.1
              have hr := opnds_rel hTm c.args.toList as ho
              simp at hb
              obtain ⟨rfl, rfl⟩ := hb
              refine ⟨_, ?_, hr.1, hr.2⟩
              simp only [resolve, hf, h, Deferred.ofValue, Sem.run_bind, Sem.run_pure, Result.andThen_ok, invoke]
              congr 2
              exact Array.ext' (by simp)
        | _ => trivial
      | _ => trivial
    | clo id =>
      simp only
      cases hl : look s.hp id with
      | none => trivial
      | some o =>
        cases o with
        | clo n fs cs =>
          simp only
          cases ho : opnds s.tm c.args.toList with
          | none => trivial
          | some as =>
            intro a w ι S hC hTm
            have h := (opnd_rel hTm hx).1.clo_inv
            have hr := opnds_rel hTm c.args.toList as ho
            obtain ⟨hid, huo, hob⟩ := hC.obj id _ hl
            cases hob with
            | clo f fs cs us vs h' h1 h2 =>
              rw [h] at h'
              simp only [Option.some.injEq, Pl.clo.injEq] at h'
              have up : ∀ {x : Value} {b : AV}, CRel w S ι x b → VRel w S ι x b := fun h => .one (.cell h)
              refine ⟨us ++ c.args.toList.map a.eval ++ vs, ?_, All2.append (All2.append (All2.mono (fun _ _ => up) h1) hr.1) (All2.mono (fun _ _ => up) h2), ?_⟩
              · simp only [resolve, hf, h', Deferred.ofValue, Sem.run_bind, Sem.run_pure, Result.andThen_ok, invoke]
                congr 2
                exact Array.ext' (by simp)
              · intro y hy
                rcases List.mem_append.1 hy with hy | hy
                · rcases List.mem_append.1 hy with hy | hy
                  · obtain ⟨i, hi, e⟩ := List.mem_iff_getElem.1 hy
                    have hi' : i < us.length := by rw [h1.length]; exact hi
                    have hc := h1.at (List.getElem?_eq_getElem hi') (by rw [List.getElem?_eq_getElem hi, e])
                    exact cell_uses hc.not_agg.1 hc.not_agg.2 (huo.1 y hy)
                  · exact hr.2 y hy
                · obtain ⟨i, hi, e⟩ := List.mem_iff_getElem.1 hy
                  have hi' : i < vs.length := by rw [h2.length]; exact hi
                  have hc := h2.at (List.getElem?_eq_getElem hi') (by rw [List.getElem?_eq_getElem hi, e])
                  exact cell_uses hc.not_agg.1 hc.not_agg.2 (huo.2 y hy)
        | _ => trivial
    | _ => trivial

/-! ### what is made -/
theorem flat_replicate {α : Type} (l : List α) : ∀ (n i : Nat), i < n * l.length → (List.replicate n l).flatten[i]? = l[i % l.length]?
  | 0, i, h => by simp at h
  | n + 1, i, h => by
    have h0 : 0 < l.length := by
      rcases Nat.eq_zero_or_pos l.length with h' | h'
      · rw [h'] at h; simp at h
      · exact h'
    rw [List.replicate_succ, List.flatten_cons]
    by_cases hi : i < l.length
    · rw [List.getElem?_append_left hi, Nat.mod_eq_of_lt hi]
    · rw [List.getElem?_append_right (by omega), flat_replicate l n (i - l.length) (by rw [Nat.add_mul, Nat.one_mul] at h; omega)]
      congr 1
      rw [← Nat.mod_eq_sub_mod (by omega)]
theorem made_flat (z : Array Value) (n : Nat) (i : Nat) (v : Value) (h : (madeCells z (n * z.size)).toList[i]? = some v) (hz : 0 < z.size) : i < n * z.size ∧ z.toList[i % z.size]? = some v := by
  have hlt : i < n * z.size := by
    have := (List.getElem?_eq_some_iff.1 h).1
    simpa [size_madeCells] using this
  refine ⟨hlt, ?_⟩
  have hm : i % z.size < z.size := Nat.mod_lt _ hz
  simp only [madeCells, Array.toList_map, Array.toList_range, List.getElem?_map, List.getElem?_range hlt, Option.map_some, Option.some.injEq] at h
  rw [← h]
  simp [hm]

theorem makeSliceA_sound (hT : TabOk E.P tt) (t : TypeId) (l c : Operand) : (makeSliceA tt s t l c).Sound E s (fun ρ => do pure (.value (← Instr.makeSlice t (ρ l) (ρ c)))) := by
  unfold makeSliceA
  cases he : elemOfA tt t with
  | none => trivial
  | some et =>
    obtain ⟨e, te⟩ := et
    simp only
    obtain ⟨hu, it, dt, hk⟩ := elemOfA_ok hT he
    cases hl : intA s l with
    | none => trivial
    | some x =>
      cases hc : intA s c with
      | none => trivial
      | some y =>
        simp only
        cases hb : Nat.blt 0 te.size with
        | false => trivial
        | true =>
          simp only [cond_true, szOf_eq, forceL_eq]
          have hpos : 0 < te.size := Nat.le_of_ble_eq_true hb
          rintro ⟨h0, h1, h2, h3⟩ a w ι S hC hTm
          obtain ⟨kl, el⟩ := intA_ok hTm hl
          obtain ⟨kc, ec⟩ := intA_ok hTm hc
          obtain ⟨z, hz, hzc⟩ := hk.zero
          have hzs : z.cells.size = te.size := by rw [← hk.zlen, ← hzc]; simp
          have hr := run_make (P := E.P) w t e it z hu hk.info hz kl kc x y h0 h1 (by rw [hk.bytes, Int.mul_comm]; omega) (by omega)
          have hyn : y.toNat ≤ maxLen := by simp only [maxLen]; omega
          have ho : ObjOk (w.alloc (.cells (madeCells z.cells (y.toNat * te.size)).toList.toArray e)) S (put ι s.nx (some (.blk w.heap.size y.toNat te.size))) s.nx (.list e te.size (List.replicate x.toNat (zeroA te))) := by
            refine .list w.heap.size y.toNat e te.size _ (madeCells z.cells (y.toNat * te.size)).toList (put_same _ _ _) hpos (fun r hr => ?_) (by simp; omega) hyn (heap_alloc_new w _) (by simp [size_madeCells]) (fun i v av hv ha => ?_)
            · rw [List.eq_of_mem_replicate hr]; simp [zeroA, hk.zlen]
            · have hv' := made_flat z.cells y.toNat i v (by rw [hzs]; exact hv) (by omega)
              have hzl : (zeroA te).length = te.size := by simp [zeroA, hk.zlen]
              have hi : i < x.toNat * (zeroA te).length := by
                have := (List.getElem?_eq_some_iff.1 ha).1
                rw [flatten_length (s := te.size) _ (fun r hr => by rw [List.eq_of_mem_replicate hr]; exact hzl), List.length_replicate] at this
                rw [hzl]; exact this
              rw [flat_replicate _ _ _ hi, hzl] at ha
              rw [hzs, hzc] at hv'
              simp only [zeroA, List.getElem?_map, hv'.2, Option.map_some, Option.some.injEq] at ha
              subst ha
              exact .val _ (hk.zone _ (List.mem_of_getElem? hv'.2))
          have := hC.alloc ho trivial
          refine ⟨.slice (some ⟨w.heap.size, 0, none⟩) x.toNat y.toNat, _, _, S, ?_, this.1, Nat.le_succ _, this.2, .one (.cell (.own s.nx x.toNat w.heap.size y.toNat te.size (put_same _ _ _) (by omega) hyn)), Nat.lt_succ_self _⟩
          dsimp only
          rw [el, ec]
          refine exec_value ?_
          rw [hr, hk.size]

/-! ### slices of slices -/
theorem flatten_take {α : Type} {s : Nat} : ∀ (rows : List (List α)) (k : Nat), (∀ r ∈ rows, r.length = s) → (rows.take k).flatten = rows.flatten.take (k * s)
  | [], k, _ => by simp
  | r :: rows, 0, _ => by simp
  | r :: rows, k + 1, h => by
    have hr := h r (List.mem_cons_self ..)
    rw [List.take_succ_cons, List.flatten_cons, List.flatten_cons, flatten_take rows k fun r' hr' => h r' (List.mem_cons_of_mem _ hr'), Nat.add_mul, Nat.one_mul,
      show k * s + s = r.length + k * s from by omega, List.take_length_add_append]

theorem run_sliceAt (hT : TabOk E.P tt) {t e : Nat} {te : TI} (he : elemOfA tt t = some (e, te)) (w : World) (ad : Option Addr) (len cap : Nat) (lo hi : Option Value) (l : Int) (h : Option Int)
    (hlo : (lo = none ∧ l = 0) ∨ ∃ k, lo = some (.int k l)) (hhi : (hi = none ∧ h = none) ∨ ∃ k b, hi = some (.int k b) ∧ h = some b) (h0 : 0 ≤ l) (h1 : ∀ b, h = some b → l ≤ b ∧ b ≤ cap) (h2 : h = none → l ≤ len) :
    (Instr.sliceAt t (.slice ad len cap) lo hi none).run E.P w = .ok (sliced ad l.toNat (hiOf h len) cap te.size) w := by
  obtain ⟨hu, it, dt, hk⟩ := elemOfA_ok hT he
  have hel : E.P.underlying t = some (.slice (E.P.elem t)) := by simp [Program.elem, hu]
  have hel2 : E.P.elem t = e := by simp [Program.elem, hu]
  have hs := hk.sizeOf w
  rw [run_sliceAt_slice _ _ _ _ _ _ hel]
  rcases hlo with ⟨rfl, rfl⟩ | ⟨k, rfl⟩ <;> rcases hhi with ⟨rfl, rfl⟩ | ⟨k', b, rfl, rfl⟩
  · rw [run_slice_any (ht := hel)]
    simp [Instr.sliceBounds, hel2, hs, hiOf]
  · have := h1 b rfl
    rw [run_slice_h (ht := hel) (h0 := by omega) (h2 := by omega), hel2, hs]
    simp [hiOf]
  · have := h2 rfl
    rw [run_slice_l (ht := hel) (h0 := by omega) (h1 := by omega), hel2, hs]
    simp [hiOf]
  · have := h1 b rfl
    rw [run_slice_lh (ht := hel) (h0 := by omega) (h1 := by omega) (h2 := by omega), hel2, hs]
    simp [hiOf]

theorem sliceHA_sound (hT : TabOk E.P tt) (t e : Nat) (te : TI) (he : elemOfA tt t = some (e, te)) (x : Operand) (p : AV) (hx : opnd s.tm x = some p) (l : Int) (h : Option Int)
    (lo hi : Option Operand) (hlo : ∀ (a : Act) (w : World) (ι : Loc) (S : Nat → Prop), TmOk ι S s.tm E.nt s.nx w a.tmps → (lo.map a.eval = none ∧ l = 0) ∨ ∃ k, lo.map a.eval = some (.int k l))
    (hhi : ∀ (a : Act) (w : World) (ι : Loc) (S : Nat → Prop), TmOk ι S s.tm E.nt s.nx w a.tmps → (hi.map a.eval = none ∧ h = none) ∨ ∃ k b, hi.map a.eval = some (.int k b) ∧ h = some b) :
    (sliceHA s te.size l h p).Sound E s (fun ρ => do pure (.value (← Instr.sliceAt t (ρ x) (lo.map ρ) (hi.map ρ) none))) := by
  cases p with
  | own id len =>
    have main : ∀ (m : Nat), l = 0 → m ≤ len → hiOf h len = m → (∀ b, h = some b → 0 ≤ b) → ∀ (a : Act) (w : World) (ι : Loc) (S : Nat → Prop), Core E ι S s.hp s.nx w → TmOk ι S s.tm E.nt s.nx w a.tmps →
        Good E s ((do pure (.value (← Instr.sliceAt t (a.eval x) (lo.map a.eval) (hi.map a.eval) none)) : Sem Next).run E.P w) w ι S (.own id m) s.hp s.nx := by
      intro m hl hm hmm hb a w ι S hC hTm
      have hv := opnd_rel hTm hx
      have hbb : ∀ b, h = some b → b.toNat = m := fun b e => by rw [e] at hmm; exact hmm
      rcases hv.1.own_inv with ⟨g, cap, s', hg, h1, h2, ev⟩ | ⟨hg, h1, ev⟩
      · have hr := run_sliceAt hT he w (some ⟨g, 0, none⟩) len cap _ _ l h (hlo a w ι S hTm) (hhi a w ι S hTm) (by omega) (fun b hb' => by have := hb b hb'; have := hbb b hb'; omega) (fun _ => by omega)
        rw [hmm, ← ev] at hr
        refine Good.same hC (v := .slice (some ⟨g, 0, none⟩) m cap) (exec_value (hr.trans ?_)) (.one (.cell (.own id m g cap s' hg (by omega) h2))) hv.2
        simp only [sliced, hl, Int.toNat_zero, Nat.zero_mul, Nat.sub_zero]
        congr 2
        split <;> simp [Addr.add]
      · have hr := run_sliceAt hT he w none 0 0 _ _ l h (hlo a w ι S hTm) (hhi a w ι S hTm) (by omega) (fun b hb' => by have := hb b hb'; have := hbb b hb'; omega) (fun _ => by omega)
        subst h1
        rw [hmm, ← ev] at hr
        obtain rfl : m = 0 := by omega
        refine Good.same hC (v := .slice none 0 0) (exec_value (hr.trans ?_)) (.one (.cell (.own0 id hg))) hv.2
        simp [sliced, hl]
    cases h with
    | some b => exact fun hc => main b.toNat hc.1 (by omega) rfl (fun b' e => by cases e; exact hc.2.1)
    | none => exact fun hc => main len hc (Nat.le_refl _) rfl (fun b' e => by cases e)
  | lst rows =>
    have main : ∀ (m : Nat), 0 ≤ l → hiOf h rows.length = m → l.toNat ≤ m → m ≤ rows.length → (∀ b, h = some b → l ≤ b) → (l = 0 ∨ (rows.getD 0 []).length = te.size) → ∀ (a : Act) (w : World) (ι : Loc) (S : Nat → Prop), Core E ι S s.hp s.nx w → TmOk ι S s.tm E.nt s.nx w a.tmps →
        Good E s ((do pure (.value (← Instr.sliceAt t (a.eval x) (lo.map a.eval) (hi.map a.eval) none)) : Sem Next).run E.P w) w ι S (.lst ((rows.drop l.toNat).take (m - l.toNat))) s.hp s.nx := by
      intro m h0 hmm hlm hm hb hsz a w ι S hC hTm
      have hv := opnd_rel hTm hx
      have hrd := hv.1.lst_inv
      have hbb : ∀ b, h = some b → b.toNat = m := fun b e => by rw [e] at hmm; exact hmm
      generalize hv0 : a.eval x = v0 at hrd
      cases hrd with
      | nil ad cap hc =>
        simp at hm
        have hr := run_sliceAt hT he w ad 0 cap _ _ l h (hlo a w ι S hTm) (hhi a w ι S hTm) h0 (fun b hb' => by have := hb b hb'; have := hbb b hb'; omega) (fun _ => by omega)
        refine Good.same hC (exec_value hr) ?_ trivial
        simp only [List.length_nil] at hmm
        rw [hmm]
        have : m - l.toNat = 0 := by omega
        simp only [sliced, this, List.drop_nil, List.take_nil]
        exact .one (.cell (.rd (.nil _ _ (by omega))))
      | lst _ b off cap sz cells g0 g1 g2 g3 g4 g5 g6 g7 =>
        have hr := run_sliceAt hT he w (some ⟨b, off, none⟩) rows.length cap _ _ l h (hlo a w ι S hTm) (hhi a w ι S hTm) h0 (fun b hb' => by have := hb b hb'; have := hbb b hb'; omega) (fun _ => by omega)
        refine Good.same hC (exec_value hr) ?_ trivial
        rw [hmm]
        have hlen : ((rows.drop l.toNat).take (m - l.toNat)).length = m - l.toNat := by simp; omega
        by_cases hz : m - l.toNat = 0
        · have : (rows.drop l.toNat).take (m - l.toNat) = [] := by rw [hz]; simp
          rw [this]
          simp only [sliced, hz]
          exact .one (.cell (.rd (.nil _ _ (by omega))))
        · have hcl : cap ≠ l.toNat := by omega
          simp only [sliced, hcl, if_false, Option.map_some, Addr.add_none]
          have hte : l.toNat * te.size = l.toNat * sz := by
            rcases hsz with hsz | hsz
            · simp [hsz]
            · have hpos : 0 < rows.length := by omega
              have e1 : rows.getD 0 [] = rows[0] := by simp [List.getD_eq_getElem?_getD, hpos]
              rw [e1, g4 _ (List.getElem_mem hpos)] at hsz
              rw [hsz]
          rw [hte]
          refine .one (.cell (.rd ?_))
          have hfl : ((rows.drop l.toNat).take (m - l.toNat)).flatten = (rows.flatten.drop (l.toNat * sz)).take ((m - l.toNat) * sz) := by
            rw [flatten_take _ _ fun r hr => g4 r (List.mem_of_mem_drop hr), flatten_drop rows _ g4]
          have := Rd.lst (w := w) (S := S) ((rows.drop l.toNat).take (m - l.toNat)) b (off + l.toNat * sz) (cap - l.toNat) sz ((cells.drop (l.toNat * sz)).take ((m - l.toNat) * sz)) (by intro e; rw [e] at hlen; simp at hlen; omega) (by omega) (by omega) g3
            (fun r hr => g4 r (List.mem_of_mem_drop (List.mem_of_mem_take hr))) ?_ ?_ ?_
          · rw [hlen] at this; exact this
          · rw [hlen, List.length_take, List.length_drop, g5]
            have : (m - l.toNat) * sz ≤ rows.length * sz - l.toNat * sz := by rw [← Nat.sub_mul]; exact Nat.mul_le_mul_right _ (by omega)
            omega
          · intro i v hi
            rw [List.getElem?_take] at hi
            split at hi
            · rw [List.getElem?_drop] at hi
              have := g6 _ v hi
              rwa [← Nat.add_assoc] at this
            · cases hi
          · intro i v av hi ha
            rw [hfl] at ha
            rw [List.getElem?_take] at hi ha
            split at hi
            · rename_i hlt
              rw [if_pos hlt] at ha
              rw [List.getElem?_drop] at hi ha
              exact g7 _ v av hi ha
            · cases hi
    cases h with
    | some b => exact fun hc => main b.toNat hc.1 rfl (by omega) (by omega) (fun b' e => by cases e; exact hc.2.1) hc.2.2.2
    | none =>
      intro hc
      have := main rows.length hc.1 rfl (by omega) (Nat.le_refl _) (fun b' e => by cases e) hc.2.2
      rw [List.take_of_length_le (by simp)] at this
      exact this
  | _ => trivial

theorem sliceLA_sound (hT : TabOk E.P tt) (t e : Nat) (te : TI) (he : elemOfA tt t = some (e, te)) (x : Operand) (p : AV) (hx : opnd s.tm x = some p) (l : Int) (h : Option Int)
    (lo hi : Option Operand) (hlo : ∀ (a : Act) (w : World) (ι : Loc) (S : Nat → Prop), TmOk ι S s.tm E.nt s.nx w a.tmps → (lo.map a.eval = none ∧ l = 0) ∨ ∃ k, lo.map a.eval = some (.int k l))
    (hhi : ∀ (a : Act) (w : World) (ι : Loc) (S : Nat → Prop), TmOk ι S s.tm E.nt s.nx w a.tmps → (hi.map a.eval = none ∧ h = none) ∨ ∃ k b, hi.map a.eval = some (.int k b) ∧ h = some b) :
    (sliceLA s te.size l h p).Sound E s (fun ρ => do pure (.value (← Instr.sliceAt t (ρ x) (lo.map ρ) (hi.map ρ) none))) := by
  cases p with
  | own id len =>
    simp only [sliceLA]
    cases hlk : look s.hp id with
    | none => trivial
    | some o =>
      cases o with
      | box cs => trivial
      | map _ _ => trivial
      | ranged _ _ _ => trivial
      | clo _ _ _ => trivial
      | nest e' sz' rows => trivial
      | list e' sz' rows =>
        simp only
        cases hb : Nat.beq sz' te.size with
        | false => trivial
        | true =>
          simp only [cond_true]
          have hsz := Nat.eq_of_beq_eq_true hb
          have main : ∀ (m : Nat), 0 ≤ l → l.toNat ≤ m → (m ≤ len ∨ m ≤ rows.length) → hiOf h len = m → (∀ b, h = some b → l ≤ b) → ∀ (a : Act) (w : World) (ι : Loc) (S : Nat → Prop), Core E ι S s.hp s.nx w → TmOk ι S s.tm E.nt s.nx w a.tmps →
              Good E s ((do pure (.value (← Instr.sliceAt t (a.eval x) (lo.map a.eval) (hi.map a.eval) none)) : Sem Next).run E.P w) w ι S (.sb id l.toNat 0 (m - l.toNat)) s.hp s.nx := by
            intro m h0 hlm hm hmm hb' a w ι S hC hTm
            have hv := opnd_rel hTm hx
            have hbb : ∀ b, h = some b → b.toNat = m := fun b e => by rw [e] at hmm; exact hmm
            rcases hv.1.own_inv with ⟨g, cap, s', hg, h1, h2, ev⟩ | ⟨hg, h1, ev⟩
            · have hs2 : s' = te.size ∧ m ≤ cap := by
                obtain ⟨_, _, hob⟩ := hC.obj id _ hlk
                cases hob with
                | nil _ _ h' _ => rw [hg] at h'; cases h'
                | list g' cap' _ _ _ vs h' _ _ hle _ _ _ _ =>
                  rw [hg] at h'; simp at h'; obtain ⟨_, rfl, rfl⟩ := h'
                  exact ⟨hsz, by omega⟩
              obtain ⟨hs', hmc⟩ := hs2
              have hr := run_sliceAt hT he w (some ⟨g, 0, none⟩) len cap _ _ l h (hlo a w ι S hTm) (hhi a w ι S hTm) h0 (fun b hb2 => by have := hb' b hb2; have := hbb b hb2; omega) (fun e => by subst e; have : len = m := hmm; omega)
              rw [hmm, ← ev] at hr
              refine Good.same hC (exec_value hr) ?_ hv.2
              simp only [sliced]
              by_cases hcl : cap = l.toNat
              · rw [if_pos hcl]
                have : m - l.toNat = 0 := by omega
                rw [this]
                exact .one (.cell (.sb id _ 0 0 g cap s' 0 _ hg (by omega) (by omega) (fun h => by omega)))
              · rw [if_neg hcl]
                simp only [Option.map_some, Addr.add_none]
                exact .one (.cell (.sb id _ 0 _ g cap s' _ _ hg (by omega) (by omega) (fun _ => by rw [hs']; omega)))
            · have hm0 : m = 0 := by
                obtain ⟨_, _, hob⟩ := hC.obj id _ hlk
                cases hob with
                | nil _ _ h' _ => simp at hm; omega
                | list g' cap' _ _ _ vs h' _ _ hle _ _ _ _ => rw [hg] at h'; cases h'
              have hr := run_sliceAt hT he w none 0 0 _ _ l h (hlo a w ι S hTm) (hhi a w ι S hTm) h0 (fun b hb2 => by have := hb' b hb2; have := hbb b hb2; omega) (fun _ => by omega)
              subst h1
              rw [hmm, ← ev] at hr
              obtain rfl : m = 0 := by omega
              have e2 : l.toNat = 0 := by omega
              refine Good.same hC (exec_value hr) ?_ hv.2
              simp only [sliced, e2, Nat.sub_zero, if_true]
              exact .one (.cell (.sb0 id 0 0 hg))
          cases h with
          | some b => exact fun hc => main b.toNat hc.1 (by omega) (by have := hc.2.2; omega) rfl (fun b' e => by cases e; exact hc.2.1)
          | none => exact fun hc => main len hc.1 (by omega) (.inl (Nat.le_refl _)) rfl (fun b' e => by cases e)
  | _ => exact sliceHA_sound hT t e te he x _ hx l h lo hi hlo hhi
theorem sliceArrA_sound (hT : TabOk E.P tt) (t : TypeId) (x : Operand) (lo hi : Option Operand) : (sliceArrA tt s t x lo hi).Sound E s (fun ρ => do pure (.value (← Instr.sliceAt t (ρ x) (lo.map ρ) (hi.map ρ) none))) := by
  unfold sliceArrA
  cases ha : arrayOfA tt t with
  | none => trivial
  | some y =>
    obtain ⟨m, e, te⟩ := y
    simp only
    obtain ⟨hu, it, dt, hk⟩ := arrayOfA_ok hT ha
    cases hx : opnd s.tm x with
    | none => trivial
    | some p =>
      cases lo with
      | some l => trivial
      | none =>
        cases hi with
        | some h => trivial
        | none =>
          cases p with
          | pt id row off =>
            simp only [sliceRA]
            cases hb : Nat.ble m 65536 with
            | false => trivial
            | true =>
              simp only [cond_true]
              have hm := Nat.le_of_ble_eq_true hb
              intro a w ι S hC hTm
              have h := opnd_rel hTm hx
              obtain ⟨g, c, s', hg, ev⟩ := h.1.pt_inv
              refine Good.same hC (v := .slice (some ⟨g, row * s' + off, none⟩) m m) ?_ (.one (.cell (.sb id row off m g c s' _ m hg (Nat.le_refl _) (by simp only [maxLen]; omega) (fun _ => rfl)))) h.2
              dsimp only
              rw [ev]
              refine exec_value ?_
              have hs := hk.sizeOf w
              simp [Instr.sliceAt, run_underlying hu, Instr.sliceBounds, Instr.sureAddr, hs, Addr.add_none]
          | _ => trivial
theorem sliceMA_sound (hT : TabOk E.P tt) (t : TypeId) (x : Operand) (lo hi : Option Operand) (mx : Operand) : (sliceMA tt s t x lo hi mx).Sound E s (fun ρ => do pure (.value (← Instr.sliceAt t (ρ x) (lo.map ρ) (hi.map ρ) (some (ρ mx))))) := by
  unfold sliceMA
  cases he : elemOfA tt t with
  | none => trivial
  | some et =>
    obtain ⟨e, te⟩ := et
    obtain ⟨hu, it, dt, hk⟩ := elemOfA_ok hT he
    simp only
    split
    · rename_i id len hx
      cases lo with
      | none => trivial
      | some l =>
        cases hi with
        | none => trivial
        | some h =>
          simp only
          cases hl : intA s l with
          | none => trivial
          | some i =>
            simp only
            cases hj : intA s h with
            | none => trivial
            | some j =>
              simp only
              cases hm : intA s mx with
              | none => trivial
              | some m =>
                intro hp a w ι S hC hTm
                obtain ⟨h0, h1, h2, h3⟩ := hp
                obtain ⟨k1, e1⟩ := intA_ok hTm hl
                obtain ⟨k2, e2⟩ := intA_ok hTm hj
                obtain ⟨k3, e3⟩ := intA_ok hTm hm
                have hs := hk.sizeOf w
                have fin : ∀ (ad : Option Addr) (cap : Nat), a.eval x = .slice ad len cap → len ≤ cap → Good E s ((do pure (.value (← Instr.sliceAt t (a.eval x) ((some l).map a.eval) ((some h).map a.eval) (some (a.eval mx)))) : Sem Next).run E.P w) w ι S .junk s.hp s.nx := by
                  intro ad cap ev hle
                  have c1 : 0 ≤ m ∧ m ≤ (cap : Int) := by omega
                  have c2 : 0 ≤ j ∧ j ≤ (m.toNat : Int) := by omega
                  have c3 : 0 ≤ i ∧ i ≤ (j.toNat : Int) := by omega
                  have hel : E.P.underlying t = some (.slice (E.P.elem t)) := by simp [Program.elem, hu]
                  have hr : ∃ v, (Instr.sliceAt t (.slice ad len cap) (some (.int k1 i)) (some (.int k2 j)) (some (.int k3 m))).run E.P w = .ok v w := by
                    rw [run_sliceAt_slice _ _ _ _ _ _ hel]
                    simp [Instr.slice, Instr.sliceBounds, Instr.sliceBound, asIntOf, run_underlying hu, hs, c1, c2, c3]
                    rw [if_pos (by omega), if_pos (by omega)]
                    exact ⟨_, rfl⟩
                  obtain ⟨v, hr⟩ := hr
                  refine Good.same hC (v := v) (exec_value ?_) (.any v) trivial
                  rw [show (some l).map a.eval = some (a.eval l) from rfl, show (some h).map a.eval = some (a.eval h) from rfl, ev, e1, e2, e3]
                  exact hr
                rcases (opnd_rel hTm hx).1.own_inv with ⟨g, cap, s', hg, g1, g2, ev⟩ | ⟨hg, g1, ev⟩
                · exact fin _ cap ev g1
                · subst g1; exact fin _ 0 ev (Nat.le_refl _)
    · trivial
theorem sliceOA_sound (hT : TabOk E.P tt) (t : TypeId) (x : Operand) (lo hi : Option Operand) : (sliceOA tt s t x lo hi).Sound E s (fun ρ => do pure (.value (← Instr.sliceAt t (ρ x) (lo.map ρ) (hi.map ρ) none))) := by
  unfold sliceOA
  cases he : elemOfA tt t with
  | none =>
    simp only
    cases hb : isStrT tt t with
    | false => exact sliceArrA_sound hT t x lo hi
    | true =>
      simp only
      cases hx : opnd s.tm x with
      | none => trivial
      | some p => exact strCutA_sound (isStrT_ok hT hb) x lo hi p hx
  | some et =>
    obtain ⟨e, te⟩ := et
    simp only
    cases hx : opnd s.tm x with
    | none => trivial
    | some p =>
      have nolo : ∀ (a : Act) (w : World) (ι : Loc) (S : Nat → Prop), TmOk ι S s.tm E.nt s.nx w a.tmps → ((none : Option Operand).map a.eval = none ∧ (0 : Int) = 0) ∨ ∃ k, (none : Option Operand).map a.eval = some (.int k 0) := fun a w ι S hTm => .inl ⟨rfl, rfl⟩
      have nohi : ∀ (a : Act) (w : World) (ι : Loc) (S : Nat → Prop), TmOk ι S s.tm E.nt s.nx w a.tmps → ((none : Option Operand).map a.eval = none ∧ (none : Option Int) = none) ∨ ∃ k b, (none : Option Operand).map a.eval = some (.int k b) ∧ (none : Option Int) = some b := fun a w ι S hTm => .inl ⟨rfl, rfl⟩
      have someLo : ∀ (o : Operand) (i : Int), intA s o = some i → ∀ (a : Act) (w : World) (ι : Loc) (S : Nat → Prop), TmOk ι S s.tm E.nt s.nx w a.tmps → ((some o).map a.eval = none ∧ i = 0) ∨ ∃ k, (some o).map a.eval = some (.int k i) := fun o i ho a w ι S hTm => by
        obtain ⟨k, e⟩ := intA_ok hTm ho
        exact .inr ⟨k, by simp [e]⟩
      have someHi : ∀ (o : Operand) (i : Int), intA s o = some i → ∀ (a : Act) (w : World) (ι : Loc) (S : Nat → Prop), TmOk ι S s.tm E.nt s.nx w a.tmps → ((some o).map a.eval = none ∧ some i = none) ∨ ∃ k b, (some o).map a.eval = some (.int k b) ∧ some i = some b := fun o i ho a w ι S hTm => by
        obtain ⟨k, e⟩ := intA_ok hTm ho
        exact .inr ⟨k, i, by simp [e], rfl⟩
      cases lo with
      | none =>
        cases hi with
        | none => exact sliceHA_sound hT t e te he x p hx 0 none none none nolo nohi
        | some h =>
          simp only
          cases hb : intA s h with
          | none => trivial
          | some b => exact sliceHA_sound hT t e te he x p hx 0 (some b) none (some h) nolo (someHi h b hb)
      | some l =>
        simp only
        cases hl : intA s l with
        | none => trivial
        | some i =>
          cases hi with
          | none => exact sliceLA_sound hT t e te he x p hx i none (some l) none (someLo l i hl) nohi
          | some h =>
            simp only
            cases hb : intA s h with
            | none => trivial
            | some b => exact sliceLA_sound hT t e te he x p hx i (some b) (some l) (some h) (someLo l i hl) (someHi h b hb)

end Go.Am
