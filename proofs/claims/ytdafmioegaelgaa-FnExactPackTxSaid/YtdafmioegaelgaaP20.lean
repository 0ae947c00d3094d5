/-
  CHAPTER 3: packing and summing transactions, by the reading.
-/
import Derived.Test.YtdafmioegaelgaaP19
namespace Go.Proofs.Ytdafmioegaelgaa
open Go Go.Am Go.RowKit
set_option linter.unusedVariables false
set_option linter.unusedSimpArgs false
/-! ### what came in as an empty list may be nil -/
theorem Ret.emp {P : Program} {f : FuncId} {hi : Hp} {n : Nat} {st : Bool} {Q : AV → Hp → Nat → Prop} (h : ∀ (a : Option Addr) (cap : Nat), Ret P f [.val (.slice a 0 cap)] hi n st Q) : Ret P f [.lst []] hi n st Q := by
  refine ⟨(h none 0).enter, fun w ι A vs hC h1 h2 h3 h4 => ?_⟩
  match vs, h2 with
  | [v], h2 =>
    have hr := h2.1.lst_inv
    cases hr with
    | nil a cap hcap =>
      have hu : ∀ x ∈ [AV.val (.slice a 0 cap)], x.uses (inH hi) := by
        intro x hx
        rcases List.mem_singleton.1 hx with rfl
        trivial
      exact (h a cap).calls w ι A [.slice a 0 cap] hC h1 ⟨.one (.cell (.rd (.val _ rfl))), trivial⟩ hu h4
    | lst _ _ _ _ _ _ h0 => exact absurd rfl h0
/-! ### nil in rows that are read -/
def nilOr (a b : AV) : Prop := a = b ∨ (a = nl ∧ b = .lst [])
theorem all2_flatten {R : AV → AV → Prop} : ∀ {l m : List (List AV)}, All2 (All2 R) l m → All2 R l.flatten m.flatten
  | [], [], _ => trivial
  | _ :: _, _ :: _, h => by rw [List.flatten_cons, List.flatten_cons]; exact All2.append h.1 (all2_flatten h.2)
  | [], _ :: _, h => h.elim
  | _ :: _, [], h => h.elim
theorem rd_nilOr {w : World} {S : Nat → Prop} {v : Value} {a b : AV} (h : Rd w S v a) (hw : nilOr a b) : Rd w S v b := by
  rcases hw with rfl | ⟨rfl, rfl⟩
  · exact h
  · cases h; exact .nil _ _ (Nat.zero_le _)
theorem rd_rowsW {w : World} {S : Nat → Prop} {v : Value} {rows rows' : List (List AV)} (h : Rd w S v (.lst rows)) (hw : All2 (All2 nilOr) rows rows') : Rd w S v (.lst rows') := by
  cases h with
  | nil a cap hc =>
    cases rows' with
    | nil => exact .nil a cap hc
    | cons => exact hw.elim
  | lst _ b off cap s cells h0 h1 h2 h3 h4 h5 h6 h7 =>
    have hl := hw.length
    have hf := all2_flatten hw
    have := Rd.lst (w := w) (S := S) rows' b off cap s cells (fun e => by subst e; cases rows with | nil => exact h0 rfl | cons => exact hw.elim) (by omega) h2 h3 (fun r hr => by
        obtain ⟨i, hi⟩ := List.mem_iff_getElem?.1 hr
        have hlt : i < rows.length := by rw [hl]; exact (List.getElem?_eq_some_iff.1 hi).1
        have hr0 := List.getElem?_eq_getElem hlt
        rw [← (hw.at hr0 hi).length]; exact h4 _ (List.getElem_mem hlt)) (by rw [h5, hl]) h6
      (fun i v a hv ha => by
        have hlt : i < rows.flatten.length := by rw [hf.length]; exact (List.getElem?_eq_some_iff.1 ha).1
        have h8 := List.getElem?_eq_getElem hlt
        exact rd_nilOr (h7 i v _ hv h8) (hf.at h8 ha))
    rw [← hl] at this
    exact this
/-- An answer that is only read, with empty lists for nil in its rows. -/
theorem Ret.rowsW {P : Program} {f : FuncId} {args : List AV} {n : Nat} {rows rows' : List (List AV)} (hw : All2 (All2 nilOr) rows rows') (h : Ret P f args [] n true (Is (.lst rows) [] n)) : Ret P f args [] n true (Is (.lst rows') [] n) := by
  refine ⟨h.enter, fun w ι A vs hC h1 h2 h3 h4 => Calls.mono (h.calls w ι A vs hC h1 h2 h3 h4) ?_⟩
  rintro e w' ⟨v, r, ho, m, ι', S', rfl, ⟨rfl, rfl, rfl⟩, hnm, hC', hdom, hv, hu, huo, hio, hoi, hkeep⟩
  exact ⟨v, .lst rows', [], m, ι', S', rfl, ⟨rfl, rfl, rfl⟩, hnm, hC', hdom, .one (.cell (.rd (rd_rowsW hv.lst_inv hw))), trivial, huo, hio, hoi, hkeep⟩

/-! ### PackTx -/
theorem specPackTx_yes (t : TxD) (n : Nat) (hf : Fits t) (h : faultC t = 0) : Ret Try.prog 10 [txV t] [] n true (Is (.agg [iv 0, .own n (packT t).length]) [(n, .list 5 1 (uvs (packT t)))] (n + 1)) := by
  have hl := fun i n => l3Fault_ret t i n hf.ins hf.outs
  rw [h] at hl
  refine Ret.fn ttOk Try.func10 rfl Try.call10 rfl rfl ?_
  conv => whnf
  repeat' first
    | (refine CondP.yes ?_; conv => whnf)
    | (refine CondP.not ?_; conv => whnf)
    | ((first | refine CondP.dec (fun h => ?_) (fun h => ?_) | refine CondP.ndec (fun h => ?_) (fun h => ?_)) <;> first | (exfalso; first | omega | exact h (by assumption) | exact absurd h (by assumption)) | (conv => whnf))
    | (refine Both.mk ?_ ?_ <;> (conv => whnf))
    | (refine Keep.mk (by repeat' first | exact trivial | rfl | refine And.intro ?_ ?_) ?_; conv => whnf)
    | (refine And.intro (by first | decide | omega) ?_; conv => whnf)
    | fail
  refine CallP.heapIs (hl 0 _) rfl (by repeat' first | exact trivial | rfl | exact leafI (by first | rfl | omega | (simp (disch := omega) only [Int.reduceToNat, IntKind.bits, Nat.min_eq_left, Int.reducePow, IntWalk.i64_in, IntWalk.rem_in, IntWalk.i64_quo, IntWalk.u8_in, IntWalk.u32_in, IntWalk.u64_in]; done) | (simp (disch := omega) only [Int.reduceToNat, IntKind.bits, Nat.min_eq_left, Int.reducePow, IntWalk.i64_in, IntWalk.rem_in, IntWalk.i64_quo, IntWalk.u8_in, IntWalk.u32_in, IntWalk.u64_in]; omega)) | refine And.intro ?_ ?_) rfl ?_
  conv => whnf
  repeat' first
    | (refine CondP.yes ?_; conv => whnf)
    | (refine CondP.not ?_; conv => whnf)
    | ((first | refine CondP.dec (fun h => ?_) (fun h => ?_) | refine CondP.ndec (fun h => ?_) (fun h => ?_)) <;> first | (exfalso; first | omega | exact h (by assumption) | exact absurd h (by assumption)) | (conv => whnf))
    | (refine Both.mk ?_ ?_ <;> (conv => whnf))
    | (refine Keep.mk (by repeat' first | exact trivial | rfl | refine And.intro ?_ ?_) ?_; conv => whnf)
    | (refine And.intro (by first | decide | omega) ?_; conv => whnf)
    | fail
  refine CallP.heapIs (l3Pack_yes t 0 _ (fault_ok h)) rfl (by repeat' first | exact trivial | rfl | exact leafI (by first | rfl | omega | (simp (disch := omega) only [Int.reduceToNat, IntKind.bits, Nat.min_eq_left, Int.reducePow, IntWalk.i64_in, IntWalk.rem_in, IntWalk.i64_quo, IntWalk.u8_in, IntWalk.u32_in, IntWalk.u64_in]; done) | (simp (disch := omega) only [Int.reduceToNat, IntKind.bits, Nat.min_eq_left, Int.reducePow, IntWalk.i64_in, IntWalk.rem_in, IntWalk.i64_quo, IntWalk.u8_in, IntWalk.u32_in, IntWalk.u64_in]; omega)) | refine And.intro ?_ ?_) rfl ?_
  conv => whnf
  repeat' first
    | (refine CondP.yes ?_; conv => whnf)
    | (refine CondP.not ?_; conv => whnf)
    | ((first | refine CondP.dec (fun h => ?_) (fun h => ?_) | refine CondP.ndec (fun h => ?_) (fun h => ?_)) <;> first | (exfalso; first | omega | exact h (by assumption) | exact absurd h (by assumption)) | (conv => whnf))
    | (refine Both.mk ?_ ?_ <;> (conv => whnf))
    | (refine Keep.mk (by repeat' first | exact trivial | rfl | refine And.intro ?_ ?_) ?_; conv => whnf)
    | (refine And.intro (by first | decide | omega) ?_; conv => whnf)
    | fail
  refine FinOk.mk' [2] rfl rfl rfl rfl rfl rfl rfl ⟨?_, ?_, rfl⟩
  · rfl
  · rfl
theorem specPackTx_no (t : TxD) (n : Nat) (hf : Fits t) (h : faultC t ≠ 0) : Ret Try.prog 10 [txV t] [] n true (Is (.agg [iv (faultC t), nl]) [] n) := by
  refine Ret.fn ttOk Try.func10 rfl Try.call10 rfl rfl ?_
  conv => whnf
  repeat' first
    | (refine CondP.yes ?_; conv => whnf)
    | (refine CondP.not ?_; conv => whnf)
    | ((first | refine CondP.dec (fun h => ?_) (fun h => ?_) | refine CondP.ndec (fun h => ?_) (fun h => ?_)) <;> first | (exfalso; first | omega | exact h (by assumption) | exact absurd h (by assumption)) | (conv => whnf))
    | (refine Both.mk ?_ ?_ <;> (conv => whnf))
    | (refine Keep.mk (by repeat' first | exact trivial | rfl | refine And.intro ?_ ?_) ?_; conv => whnf)
    | (refine And.intro (by first | decide | omega) ?_; conv => whnf)
    | fail
  refine CallP.heapIs (l3Fault_ret t 0 _ hf.ins hf.outs) rfl (by repeat' first | exact trivial | rfl | exact leafI (by first | rfl | omega | (simp (disch := omega) only [Int.reduceToNat, IntKind.bits, Nat.min_eq_left, Int.reducePow, IntWalk.i64_in, IntWalk.rem_in, IntWalk.i64_quo, IntWalk.u8_in, IntWalk.u32_in, IntWalk.u64_in]; done) | (simp (disch := omega) only [Int.reduceToNat, IntKind.bits, Nat.min_eq_left, Int.reducePow, IntWalk.i64_in, IntWalk.rem_in, IntWalk.i64_quo, IntWalk.u8_in, IntWalk.u32_in, IntWalk.u64_in]; omega)) | refine And.intro ?_ ?_) rfl ?_
  conv => whnf
  repeat' first
    | (refine CondP.yes ?_; conv => whnf)
    | (refine CondP.not ?_; conv => whnf)
    | ((first | refine CondP.dec (fun h => ?_) (fun h => ?_) | refine CondP.ndec (fun h => ?_) (fun h => ?_)) <;> first | (exfalso; first | omega | exact h (by assumption) | exact absurd h (by assumption)) | (conv => whnf))
    | (refine Both.mk ?_ ?_ <;> (conv => whnf))
    | (refine Keep.mk (by repeat' first | exact trivial | rfl | refine And.intro ?_ ?_) ?_; conv => whnf)
    | (refine And.intro (by first | decide | omega) ?_; conv => whnf)
    | fail
  refine FinOk.pure rfl rfl rfl ⟨?_, rfl, rfl⟩
  rfl
theorem implPackTx_yes (t : TxD) (n : Nat) (hf : Fits t) (h : faultC t = 0) : Ret Try.prog 12 [txV t] [] n true (Is (.agg [iv 0, .own n (packT t).length]) [(n, .list 5 1 (uvs (packT t)))] (n + 1)) := by
  have hl := fun n => implTxFault_ret t n hf.ins hf.outs
  rw [h] at hl
  refine Ret.fn ttOk Try.func12 rfl Try.call12 rfl rfl ?_
  conv => whnf
  repeat' first
    | (refine CondP.yes ?_; conv => whnf)
    | (refine CondP.not ?_; conv => whnf)
    | ((first | refine CondP.dec (fun h => ?_) (fun h => ?_) | refine CondP.ndec (fun h => ?_) (fun h => ?_)) <;> first | (exfalso; first | omega | exact h (by assumption) | exact absurd h (by assumption)) | (conv => whnf))
    | (refine Both.mk ?_ ?_ <;> (conv => whnf))
    | (refine Keep.mk (by repeat' first | exact trivial | rfl | refine And.intro ?_ ?_) ?_; conv => whnf)
    | (refine And.intro (by first | decide | omega) ?_; conv => whnf)
    | fail
  first | refine CallP.is (hl _) rfl ?_ | refine CallQ.is (hl _) rfl rfl ?_
  conv => whnf
  repeat' first
    | (refine CondP.yes ?_; conv => whnf)
    | (refine CondP.not ?_; conv => whnf)
    | ((first | refine CondP.dec (fun h => ?_) (fun h => ?_) | refine CondP.ndec (fun h => ?_) (fun h => ?_)) <;> first | (exfalso; first | omega | exact h (by assumption) | exact absurd h (by assumption)) | (conv => whnf))
    | (refine Both.mk ?_ ?_ <;> (conv => whnf))
    | (refine Keep.mk (by repeat' first | exact trivial | rfl | refine And.intro ?_ ?_) ?_; conv => whnf)
    | (refine And.intro (by first | decide | omega) ?_; conv => whnf)
    | fail
  refine CallP.heapIs (tx_ret 2 _ t (fault_ok h)) rfl (by repeat' first | exact trivial | rfl | exact leafI (by first | rfl | omega | (simp (disch := omega) only [Int.reduceToNat, IntKind.bits, Nat.min_eq_left, Int.reducePow, IntWalk.i64_in, IntWalk.rem_in, IntWalk.i64_quo, IntWalk.u8_in, IntWalk.u32_in, IntWalk.u64_in]; done) | (simp (disch := omega) only [Int.reduceToNat, IntKind.bits, Nat.min_eq_left, Int.reducePow, IntWalk.i64_in, IntWalk.rem_in, IntWalk.i64_quo, IntWalk.u8_in, IntWalk.u32_in, IntWalk.u64_in]; omega)) | refine And.intro ?_ ?_) rfl ?_
  conv => whnf
  repeat' first
    | (refine CondP.yes ?_; conv => whnf)
    | (refine CondP.not ?_; conv => whnf)
    | ((first | refine CondP.dec (fun h => ?_) (fun h => ?_) | refine CondP.ndec (fun h => ?_) (fun h => ?_)) <;> first | (exfalso; first | omega | exact h (by assumption) | exact absurd h (by assumption)) | (conv => whnf))
    | (refine Both.mk ?_ ?_ <;> (conv => whnf))
    | (refine Keep.mk (by repeat' first | exact trivial | rfl | refine And.intro ?_ ?_) ?_; conv => whnf)
    | (refine And.intro (by first | decide | omega) ?_; conv => whnf)
    | fail
  refine FinOk.mk' [3] rfl rfl rfl rfl rfl rfl rfl ⟨?_, ?_, rfl⟩
  · rfl
  · rfl
theorem implPackTx_no (t : TxD) (n : Nat) (hf : Fits t) (h : faultC t ≠ 0) : Ret Try.prog 12 [txV t] [] n true (Is (.agg [iv (faultC t), nl]) [] n) := by
  refine Ret.fn ttOk Try.func12 rfl Try.call12 rfl rfl ?_
  conv => whnf
  repeat' first
    | (refine CondP.yes ?_; conv => whnf)
    | (refine CondP.not ?_; conv => whnf)
    | ((first | refine CondP.dec (fun h => ?_) (fun h => ?_) | refine CondP.ndec (fun h => ?_) (fun h => ?_)) <;> first | (exfalso; first | omega | exact h (by assumption) | exact absurd h (by assumption)) | (conv => whnf))
    | (refine Both.mk ?_ ?_ <;> (conv => whnf))
    | (refine Keep.mk (by repeat' first | exact trivial | rfl | refine And.intro ?_ ?_) ?_; conv => whnf)
    | (refine And.intro (by first | decide | omega) ?_; conv => whnf)
    | fail
  first | refine CallP.is (implTxFault_ret t _ hf.ins hf.outs) rfl ?_ | refine CallQ.is (implTxFault_ret t _ hf.ins hf.outs) rfl rfl ?_
  conv => whnf
  repeat' first
    | (refine CondP.yes ?_; conv => whnf)
    | (refine CondP.not ?_; conv => whnf)
    | ((first | refine CondP.dec (fun h => ?_) (fun h => ?_) | refine CondP.ndec (fun h => ?_) (fun h => ?_)) <;> first | (exfalso; first | omega | exact h (by assumption) | exact absurd h (by assumption)) | (conv => whnf))
    | (refine Both.mk ?_ ?_ <;> (conv => whnf))
    | (refine Keep.mk (by repeat' first | exact trivial | rfl | refine And.intro ?_ ?_) ?_; conv => whnf)
    | (refine And.intro (by first | decide | omega) ?_; conv => whnf)
    | fail
  refine FinOk.pure rfl rfl rfl ⟨?_, rfl, rfl⟩
  rfl
/-- The packed bytes, only read. -/
def packR (t : TxD) : AV := if faultC t = 0 then .agg [iv 0, ul (packT t)] else .agg [iv (faultC t), ul []]
theorem frPack {t : TxD} {n : Nat} : ∀ r ho m, Is (AV.agg [iv 0, .own n (packT t).length]) [(n, AObj.list 5 1 (uvs (packT t)))] (n + 1) r ho m → ∃ r', FrV ho r r' ∧ Is (AV.agg [iv 0, ul (packT t)]) [] n r' [] n := by
  rintro _ _ _ ⟨rfl, rfl, rfl⟩
  exact ⟨_, .agg _ [iv 0, ul (packT t)] ⟨fr0 rfl, frOwn (look_cons_eq _ _ _) (by simp), trivial⟩, rfl, rfl, rfl⟩
theorem frNone {c : Int} {n : Nat} : ∀ r ho m, Is (AV.agg [iv c, nl]) [] n r ho m → ∃ r', FrV ho r r' ∧ Is (AV.agg [iv c, ul []]) [] n r' [] n := by
  rintro _ _ _ ⟨rfl, rfl, rfl⟩
  exact ⟨_, .agg _ [iv c, ul []] ⟨fr0 rfl, .nil, trivial⟩, rfl, rfl, rfl⟩
theorem implPackTx_fr (t : TxD) (n : Nat) (hf : Fits t) : Ret Try.prog 12 [txV t] [] n true (Is (packR t) [] n) := by
  unfold packR
  split
  · rename_i h; exact Ret.freeze frPack (implPackTx_yes t n hf h)
  · rename_i h; exact Ret.freeze frNone (implPackTx_no t n hf h)
theorem specPackTx_fr (t : TxD) (n : Nat) (hf : Fits t) : Ret Try.prog 10 [txV t] [] n true (Is (packR t) [] n) := by
  unfold packR
  split
  · rename_i h; exact Ret.freeze frPack (specPackTx_yes t n hf h)
  · rename_i h; exact Ret.freeze frNone (specPackTx_no t n hf h)
abbrev nilRow (x : InD) : List AV := [iv x.1, iv x.2.1, nl]
def nilP (xs : List InD) (k : Nat) : List (List AV) := (xs.take k).map nilRow ++ (xs.drop k).map inRow
theorem nilP_len (xs : List InD) (k : Nat) (h : k ≤ xs.length) : (nilP xs k).length = xs.length := by simp only [nilP, List.length_append, List.length_map, List.length_take, List.length_drop]; omega
theorem nilP_at (xs : List InD) (k : Nat) (h : k < xs.length) : (nilP xs k).getD k [] = inRow xs[k] := by
  unfold nilP
  rw [List.getD_eq_getElem?_getD, List.getElem?_append_right (by simp only [List.length_map, List.length_take]; omega)]
  simp only [List.length_map, List.length_take]
  have : k - min k xs.length = 0 := by omega
  rw [this, List.drop_eq_getElem_cons h]; rfl
theorem nilP_set (xs : List InD) (k : Nat) (h : k < xs.length) : (nilP xs k).set k (nilRow xs[k]) = nilP xs (k + 1) := by
  unfold nilP
  rw [takeS xs k h, List.map_append, List.drop_eq_getElem_cons h, List.map_cons, List.set_append_right _ _ (by simp only [List.length_map, List.length_take]; omega)]
  simp only [List.length_map, List.length_take]
  have : k - min k xs.length = 0 := by omega
  rw [this, List.set_cons_zero, List.append_assoc]; rfl
theorem nilRows : ∀ (xs : List InD), All2 (All2 nilOr) (xs.map nilRow) ((xs.map bareI).map inRow)
  | [] => trivial
  | x :: r => ⟨⟨.inl rfl, .inl rfl, .inr ⟨rfl, rfl⟩, trivial⟩, nilRows r⟩
def sumR (t : TxD) : List AV := if faultC t = 0 then [iv 0, iv (sumF (packT (bareT t)))] else [iv (faultC t), iv 0]
theorem fits_bare {t : TxD} (h : Fits t) : Fits (bareT t) := ⟨by simpa [bareT] using h.ins, h.outs, fun x hx => by
  obtain ⟨y, _, rfl⟩ := List.mem_map.1 hx
  exact Nat.zero_le _, h.locks⟩
end Go.Proofs.Ytdafmioegaelgaa
