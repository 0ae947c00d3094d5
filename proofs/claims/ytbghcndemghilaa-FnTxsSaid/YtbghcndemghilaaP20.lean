/-
  CHAPTER 3: packing and summing transactions, by the reading.
-/
import Derived.Test.YtbghcndemghilaaP18
namespace Go.Proofs.Ytbghcndemghilaa
open Go Go.Am Go.RowKit
set_option linter.unusedVariables false
set_option linter.unusedSimpArgs false
/-! ### nil in rows that are read -/
def nilOr (a b : AV) : Prop := a = b ∨ (a = nl ∧ b = .lst [])
theorem all2_flatten {R : AV → AV → Prop} : ∀ {l m : List (List AV)}, All2 (All2 R) l m → All2 R l.flatten m.flatten
  | [], [], _ => trivial
  | _ :: _, _ :: _, h => by rw [List.flatten_cons, List.flatten_cons]; exact All2.append h.1 (all2_flatten h.2)
  | [], _ :: _, h => h.elim
  | _ :: _, [], h => h.elim
theorem rd_nilOr {w : World} {S : Nat → Prop} {v : Value} {a b : AV} (h : Rd w S v a) (hw : nilOr a b) : Rd w S v b := by
  rcases hw with rfl | ⟨rfl, rfl⟩
  · exact h
  · cases h; exact .nil _ _ (Nat.zero_le _)
theorem rd_rowsW {w : World} {S : Nat → Prop} {v : Value} {rows rows' : List (List AV)} (h : Rd w S v (.lst rows)) (hw : All2 (All2 nilOr) rows rows') : Rd w S v (.lst rows') := by
  cases h with
  | nil a cap hc =>
    cases rows' with
    | nil => exact .nil a cap hc
    | cons => exact hw.elim
  | lst _ b off cap s cells h0 h1 h2 h3 h4 h5 h6 h7 =>
    have hl := hw.length
    have hf := all2_flatten hw
    have := Rd.lst (w := w) (S := S) rows' b off cap s cells (fun e => by subst e; cases rows with | nil => exact h0 rfl | cons => exact hw.elim) (by omega) h2 h3 (fun r hr => by
        obtain ⟨i, hi⟩ := List.mem_iff_getElem?.1 hr
        have hlt : i < rows.length := by rw [hl]; exact (List.getElem?_eq_some_iff.1 hi).1
        have hr0 := List.getElem?_eq_getElem hlt
        rw [← (hw.at hr0 hi).length]; exact h4 _ (List.getElem_mem hlt)) (by rw [h5, hl]) h6
      (fun i v a hv ha => by
        have hlt : i < rows.flatten.length := by rw [hf.length]; exact (List.getElem?_eq_some_iff.1 ha).1
        have h8 := List.getElem?_eq_getElem hlt
        exact rd_nilOr (h7 i v _ hv h8) (hf.at h8 ha))
    rw [← hl] at this
    exact this
/-! ### PackTx -/
theorem specPackTx_yes (t : TxD) (n : Nat) (hf : Fits t) (h : faultC t = 0) : Ret Try.prog 25 [txV t] [] n true (Is (.agg [iv 0, .own n (packT t).length]) [(n, .list 5 1 (uvs (packT t)))] (n + 1)) := by
  have hl := fun i n => l3Fault_ret t i n hf.ins hf.outs
  rw [h] at hl
  refine Ret.fn ttOk Try.func25 rfl Try.call25 rfl rfl ?_
  conv => whnf
  repeat' first
    | (refine CondP.yes ?_; conv => whnf)
    | (refine CondP.not ?_; conv => whnf)
    | ((first | refine CondP.dec (fun h => ?_) (fun h => ?_) | refine CondP.ndec (fun h => ?_) (fun h => ?_)) <;> first | (exfalso; first | omega | exact h (by assumption) | exact absurd h (by assumption)) | (conv => whnf))
    | (refine Both.mk ?_ ?_ <;> (conv => whnf))
    | (refine Keep.mk (by repeat' first | exact trivial | rfl | refine And.intro ?_ ?_) ?_; conv => whnf)
    | (refine And.intro (by first | decide | omega) ?_; conv => whnf)
    | fail
  refine CallP.heapIs (hl 0 _) rfl (by repeat' first | exact trivial | rfl | exact leafI (by first | rfl | omega | (simp (disch := omega) only [Int.reduceToNat, IntKind.bits, Nat.min_eq_left, Int.reducePow, IntWalk.i64_in, IntWalk.rem_in, IntWalk.i64_quo, IntWalk.u8_in, IntWalk.u32_in, IntWalk.u64_in]; done) | (simp (disch := omega) only [Int.reduceToNat, IntKind.bits, Nat.min_eq_left, Int.reducePow, IntWalk.i64_in, IntWalk.rem_in, IntWalk.i64_quo, IntWalk.u8_in, IntWalk.u32_in, IntWalk.u64_in]; omega)) | refine And.intro ?_ ?_) rfl ?_
  conv => whnf
  repeat' first
    | (refine CondP.yes ?_; conv => whnf)
    | (refine CondP.not ?_; conv => whnf)
    | ((first | refine CondP.dec (fun h => ?_) (fun h => ?_) | refine CondP.ndec (fun h => ?_) (fun h => ?_)) <;> first | (exfalso; first | omega | exact h (by assumption) | exact absurd h (by assumption)) | (conv => whnf))
    | (refine Both.mk ?_ ?_ <;> (conv => whnf))
    | (refine Keep.mk (by repeat' first | exact trivial | rfl | refine And.intro ?_ ?_) ?_; conv => whnf)
    | (refine And.intro (by first | decide | omega) ?_; conv => whnf)
    | fail
  refine CallP.heapIs (l3Pack_yes t 0 _ (fault_ok h)) rfl (by repeat' first | exact trivial | rfl | exact leafI (by first | rfl | omega | (simp (disch := omega) only [Int.reduceToNat, IntKind.bits, Nat.min_eq_left, Int.reducePow, IntWalk.i64_in, IntWalk.rem_in, IntWalk.i64_quo, IntWalk.u8_in, IntWalk.u32_in, IntWalk.u64_in]; done) | (simp (disch := omega) only [Int.reduceToNat, IntKind.bits, Nat.min_eq_left, Int.reducePow, IntWalk.i64_in, IntWalk.rem_in, IntWalk.i64_quo, IntWalk.u8_in, IntWalk.u32_in, IntWalk.u64_in]; omega)) | refine And.intro ?_ ?_) rfl ?_
  conv => whnf
  repeat' first
    | (refine CondP.yes ?_; conv => whnf)
    | (refine CondP.not ?_; conv => whnf)
    | ((first | refine CondP.dec (fun h => ?_) (fun h => ?_) | refine CondP.ndec (fun h => ?_) (fun h => ?_)) <;> first | (exfalso; first | omega | exact h (by assumption) | exact absurd h (by assumption)) | (conv => whnf))
    | (refine Both.mk ?_ ?_ <;> (conv => whnf))
    | (refine Keep.mk (by repeat' first | exact trivial | rfl | refine And.intro ?_ ?_) ?_; conv => whnf)
    | (refine And.intro (by first | decide | omega) ?_; conv => whnf)
    | fail
  refine FinOk.mk' [2] rfl rfl rfl rfl rfl rfl rfl ⟨?_, ?_, rfl⟩
  · rfl
  · rfl
theorem specPackTx_no (t : TxD) (n : Nat) (hf : Fits t) (h : faultC t ≠ 0) : Ret Try.prog 25 [txV t] [] n true (Is (.agg [iv (faultC t), nl]) [] n) := by
  refine Ret.fn ttOk Try.func25 rfl Try.call25 rfl rfl ?_
  conv => whnf
  repeat' first
    | (refine CondP.yes ?_; conv => whnf)
    | (refine CondP.not ?_; conv => whnf)
    | ((first | refine CondP.dec (fun h => ?_) (fun h => ?_) | refine CondP.ndec (fun h => ?_) (fun h => ?_)) <;> first | (exfalso; first | omega | exact h (by assumption) | exact absurd h (by assumption)) | (conv => whnf))
    | (refine Both.mk ?_ ?_ <;> (conv => whnf))
    | (refine Keep.mk (by repeat' first | exact trivial | rfl | refine And.intro ?_ ?_) ?_; conv => whnf)
    | (refine And.intro (by first | decide | omega) ?_; conv => whnf)
    | fail
  refine CallP.heapIs (l3Fault_ret t 0 _ hf.ins hf.outs) rfl (by repeat' first | exact trivial | rfl | exact leafI (by first | rfl | omega | (simp (disch := omega) only [Int.reduceToNat, IntKind.bits, Nat.min_eq_left, Int.reducePow, IntWalk.i64_in, IntWalk.rem_in, IntWalk.i64_quo, IntWalk.u8_in, IntWalk.u32_in, IntWalk.u64_in]; done) | (simp (disch := omega) only [Int.reduceToNat, IntKind.bits, Nat.min_eq_left, Int.reducePow, IntWalk.i64_in, IntWalk.rem_in, IntWalk.i64_quo, IntWalk.u8_in, IntWalk.u32_in, IntWalk.u64_in]; omega)) | refine And.intro ?_ ?_) rfl ?_
  conv => whnf
  repeat' first
    | (refine CondP.yes ?_; conv => whnf)
    | (refine CondP.not ?_; conv => whnf)
    | ((first | refine CondP.dec (fun h => ?_) (fun h => ?_) | refine CondP.ndec (fun h => ?_) (fun h => ?_)) <;> first | (exfalso; first | omega | exact h (by assumption) | exact absurd h (by assumption)) | (conv => whnf))
    | (refine Both.mk ?_ ?_ <;> (conv => whnf))
    | (refine Keep.mk (by repeat' first | exact trivial | rfl | refine And.intro ?_ ?_) ?_; conv => whnf)
    | (refine And.intro (by first | decide | omega) ?_; conv => whnf)
    | fail
  refine FinOk.pure rfl rfl rfl ⟨?_, rfl, rfl⟩
  rfl
theorem implPackTx_yes (t : TxD) (n : Nat) (hf : Fits t) (h : faultC t = 0) : Ret Try.prog 17 [txV t] [] n true (Is (.agg [iv 0, .own n (packT t).length]) [(n, .list 5 1 (uvs (packT t)))] (n + 1)) := by
  have hl := fun n => implTxFault_ret t n hf.ins hf.outs
  rw [h] at hl
  refine Ret.fn ttOk Try.func17 rfl Try.call17 rfl rfl ?_
  conv => whnf
  repeat' first
    | (refine CondP.yes ?_; conv => whnf)
    | (refine CondP.not ?_; conv => whnf)
    | ((first | refine CondP.dec (fun h => ?_) (fun h => ?_) | refine CondP.ndec (fun h => ?_) (fun h => ?_)) <;> first | (exfalso; first | omega | exact h (by assumption) | exact absurd h (by assumption)) | (conv => whnf))
    | (refine Both.mk ?_ ?_ <;> (conv => whnf))
    | (refine Keep.mk (by repeat' first | exact trivial | rfl | refine And.intro ?_ ?_) ?_; conv => whnf)
    | (refine And.intro (by first | decide | omega) ?_; conv => whnf)
    | fail
  refine CallP.is (hl _) rfl ?_
  conv => whnf
  repeat' first
    | (refine CondP.yes ?_; conv => whnf)
    | (refine CondP.not ?_; conv => whnf)
    | ((first | refine CondP.dec (fun h => ?_) (fun h => ?_) | refine CondP.ndec (fun h => ?_) (fun h => ?_)) <;> first | (exfalso; first | omega | exact h (by assumption) | exact absurd h (by assumption)) | (conv => whnf))
    | (refine Both.mk ?_ ?_ <;> (conv => whnf))
    | (refine Keep.mk (by repeat' first | exact trivial | rfl | refine And.intro ?_ ?_) ?_; conv => whnf)
    | (refine And.intro (by first | decide | omega) ?_; conv => whnf)
    | fail
  refine CallP.heapIs (tx_ret 2 _ t (fault_ok h)) rfl (by repeat' first | exact trivial | rfl | exact leafI (by first | rfl | omega | (simp (disch := omega) only [Int.reduceToNat, IntKind.bits, Nat.min_eq_left, Int.reducePow, IntWalk.i64_in, IntWalk.rem_in, IntWalk.i64_quo, IntWalk.u8_in, IntWalk.u32_in, IntWalk.u64_in]; done) | (simp (disch := omega) only [Int.reduceToNat, IntKind.bits, Nat.min_eq_left, Int.reducePow, IntWalk.i64_in, IntWalk.rem_in, IntWalk.i64_quo, IntWalk.u8_in, IntWalk.u32_in, IntWalk.u64_in]; omega)) | refine And.intro ?_ ?_) rfl ?_
  conv => whnf
  repeat' first
    | (refine CondP.yes ?_; conv => whnf)
    | (refine CondP.not ?_; conv => whnf)
    | ((first | refine CondP.dec (fun h => ?_) (fun h => ?_) | refine CondP.ndec (fun h => ?_) (fun h => ?_)) <;> first | (exfalso; first | omega | exact h (by assumption) | exact absurd h (by assumption)) | (conv => whnf))
    | (refine Both.mk ?_ ?_ <;> (conv => whnf))
    | (refine Keep.mk (by repeat' first | exact trivial | rfl | refine And.intro ?_ ?_) ?_; conv => whnf)
    | (refine And.intro (by first | decide | omega) ?_; conv => whnf)
    | fail
  refine FinOk.mk' [3] rfl rfl rfl rfl rfl rfl rfl ⟨?_, ?_, rfl⟩
  · rfl
  · rfl
theorem implPackTx_no (t : TxD) (n : Nat) (hf : Fits t) (h : faultC t ≠ 0) : Ret Try.prog 17 [txV t] [] n true (Is (.agg [iv (faultC t), nl]) [] n) := by
  refine Ret.fn ttOk Try.func17 rfl Try.call17 rfl rfl ?_
  conv => whnf
  repeat' first
    | (refine CondP.yes ?_; conv => whnf)
    | (refine CondP.not ?_; conv => whnf)
    | ((first | refine CondP.dec (fun h => ?_) (fun h => ?_) | refine CondP.ndec (fun h => ?_) (fun h => ?_)) <;> first | (exfalso; first | omega | exact h (by assumption) | exact absurd h (by assumption)) | (conv => whnf))
    | (refine Both.mk ?_ ?_ <;> (conv => whnf))
    | (refine Keep.mk (by repeat' first | exact trivial | rfl | refine And.intro ?_ ?_) ?_; conv => whnf)
    | (refine And.intro (by first | decide | omega) ?_; conv => whnf)
    | fail
  refine CallP.is (implTxFault_ret t _ hf.ins hf.outs) rfl ?_
  conv => whnf
  repeat' first
    | (refine CondP.yes ?_; conv => whnf)
    | (refine CondP.not ?_; conv => whnf)
    | ((first | refine CondP.dec (fun h => ?_) (fun h => ?_) | refine CondP.ndec (fun h => ?_) (fun h => ?_)) <;> first | (exfalso; first | omega | exact h (by assumption) | exact absurd h (by assumption)) | (conv => whnf))
    | (refine Both.mk ?_ ?_ <;> (conv => whnf))
    | (refine Keep.mk (by repeat' first | exact trivial | rfl | refine And.intro ?_ ?_) ?_; conv => whnf)
    | (refine And.intro (by first | decide | omega) ?_; conv => whnf)
    | fail
  refine FinOk.pure rfl rfl rfl ⟨?_, rfl, rfl⟩
  rfl
/-- The packed bytes, only read. -/
def packR (t : TxD) : AV := if faultC t = 0 then .agg [iv 0, ul (packT t)] else .agg [iv (faultC t), ul []]
theorem frPack {t : TxD} {n : Nat} : ∀ r ho m, Is (AV.agg [iv 0, .own n (packT t).length]) [(n, AObj.list 5 1 (uvs (packT t)))] (n + 1) r ho m → ∃ r', FrV ho r r' ∧ Is (AV.agg [iv 0, ul (packT t)]) [] n r' [] n := by
  rintro _ _ _ ⟨rfl, rfl, rfl⟩
  exact ⟨_, .agg _ [iv 0, ul (packT t)] ⟨fr0 rfl, frOwn (look_cons_eq _ _ _) (by simp), trivial⟩, rfl, rfl, rfl⟩
theorem frNone {c : Int} {n : Nat} : ∀ r ho m, Is (AV.agg [iv c, nl]) [] n r ho m → ∃ r', FrV ho r r' ∧ Is (AV.agg [iv c, ul []]) [] n r' [] n := by
  rintro _ _ _ ⟨rfl, rfl, rfl⟩
  exact ⟨_, .agg _ [iv c, ul []] ⟨fr0 rfl, .nil, trivial⟩, rfl, rfl, rfl⟩
theorem implPackTx_fr (t : TxD) (n : Nat) (hf : Fits t) : Ret Try.prog 17 [txV t] [] n true (Is (packR t) [] n) := by
  unfold packR
  split
  · rename_i h; exact Ret.freeze frPack (implPackTx_yes t n hf h)
  · rename_i h; exact Ret.freeze frNone (implPackTx_no t n hf h)
theorem specPackTx_fr (t : TxD) (n : Nat) (hf : Fits t) : Ret Try.prog 25 [txV t] [] n true (Is (packR t) [] n) := by
  unfold packR
  split
  · rename_i h; exact Ret.freeze frPack (specPackTx_yes t n hf h)
  · rename_i h; exact Ret.freeze frNone (specPackTx_no t n hf h)
end Go.Proofs.Ytbghcndemghilaa
