/-
  CHAPTER 3: DrawTxSum, read.
-/
import Derived.Test.YtbghcndemghilaaP23
namespace Go.Proofs.Ytbghcndemghilaa
open Go Go.Am Go.RowKit
set_option linter.unusedVariables false
set_option linter.unusedSimpArgs false
/-- The same, or a read list with empty lists for nil in its rows. -/
def CW (a b : AV) : Prop := a = b ∨ ∃ rows rows' : List (List AV), a = .lst rows ∧ b = .lst rows' ∧ All2 (All2 nilOr) rows rows'
theorem CW.rel {w : World} {S : Nat → Prop} {ι : Am.Loc} {v : Value} {a b : AV} (h : CRel w S ι v a) (hw : CW a b) : CRel w S ι v b := by
  rcases hw with rfl | ⟨rows, rows', rfl, rfl, hw⟩
  · exact h
  · cases h with
    | rd h => exact .rd (rd_rowsW h hw)
theorem CW.id {a b : AV} (hw : CW a b) {i : Nat} (h : b.idOf = some i) : a.idOf = some i := by
  rcases hw with rfl | ⟨rows, rows', rfl, rfl, hw⟩
  · exact h
  · cases h
theorem Ret.aggW {P : Program} {f : FuncId} {args : List AV} {hi : Hp} {n : Nat} {st : Bool} {Q Q' : AV → Hp → Nat → Prop} (hQ : ∀ r ho m, Q r ho m → ∃ cs ds, r = .agg cs ∧ All2 CW cs ds ∧ Q' (.agg ds) ho m) (h : Ret P f args hi n st Q) : Ret P f args hi n st Q' := by
  refine ⟨h.enter, fun w ι A vs hC h1 h2 h3 h4 => Calls.mono (h.calls w ι A vs hC h1 h2 h3 h4) ?_⟩
  rintro e w' ⟨v, r, ho, m, ι', S', rfl, hq, hnm, hC', hdom, hv, hu, huo, hio, hoi, hkeep⟩
  obtain ⟨cs, ds, rfl, hw, hq'⟩ := hQ _ _ _ hq
  obtain ⟨vs', rfl, hvs⟩ := hv.agg_inv
  refine ⟨_, .agg ds, ho, m, ι', S', rfl, hq', hnm, hC', hdom, .one (.agg vs' ds (All2.of (hvs.length.trans hw.length) fun i v d hvi hd => ?_)), ?_, huo, hio, hoi, hkeep⟩
  · have hlt : i < cs.length := by rw [hw.length]; exact (List.getElem?_eq_some_iff.1 hd).1
    have hc := List.getElem?_eq_getElem hlt
    exact CW.rel (hvs.at hvi hc) (hw.at hc hd)
  · intro d hd id e
    obtain ⟨i, hi'⟩ := List.mem_iff_getElem?.1 hd
    have hlt : i < cs.length := by rw [hw.length]; exact (List.getElem?_eq_some_iff.1 hi').1
    have hc := List.getElem?_eq_getElem hlt
    exact hu _ (List.getElem_mem hlt) id (CW.id (hw.at hc hi') e)
theorem all2_row {R : AV → AV → Prop} {rows rows' : List (List AV)} (h : All2 (All2 R) rows rows') {s : Nat} (hr : ∀ r ∈ rows, r.length = s) : ∀ r ∈ rows', r.length = s := by
  intro r hr'
  obtain ⟨i, hi⟩ := List.mem_iff_getElem?.1 hr'
  have hlt : i < rows.length := by rw [h.length]; exact (List.getElem?_eq_some_iff.1 hi).1
  have hr0 := List.getElem?_eq_getElem hlt
  rw [← (h.at hr0 hi).length]; exact hr _ (List.getElem_mem hlt)
/-- Empty lists for nil in the rows of an own list. -/
theorem Weak.rows {fx : List Nat} {tm : List (Nat × AV)} {hp : Hp} {nx : Nat} (id e s : Nat) (rows rows' : List (List AV)) (hl : Am.look hp id = some (.list e s rows)) (hw : All2 (All2 nilOr) rows rows') :
    Weak fx ⟨tm, hp, nx⟩ ⟨tm, (id, .list e s rows') :: hp, nx⟩ := by
  rintro E a w _ ⟨hsz, hd, ι, S, hC, hTm⟩
  obtain ⟨hid0, huse0, hob⟩ := hC.obj id _ hl
  refine ⟨hsz, hd, ι, S, ⟨hC.frame, hC.sub, hC.lt, hC.dis, hC.own, hC.inj, hC.new, ?_, hC.stay, hC.fxs⟩, hTm⟩
  intro i o h
  by_cases hii : id = i
  · subst hii
    rw [look_cons_eq] at h
    simp only [Option.some.injEq] at h
    subst h
    refine ⟨hid0, trivial, ?_⟩
    have hL := hw.length
    cases hob with
    | nil _ _ h' h2 =>
      cases rows' with
      | nil => exact .nil e s h' h2
      | cons => simp at hL
    | list g cap _ _ _ vs h' hs hr hle hm hb hn hc =>
      exact .list g cap e s rows' vs h' hs (all2_row hw hr) (by omega) hm hb hn (fun j v av hv ha => by
        have hf := all2_flatten hw
        have hlt : j < rows.flatten.length := by rw [hf.length]; exact (List.getElem?_eq_some_iff.1 ha).1
        have h8 := List.getElem?_eq_getElem hlt
        exact rd_nilOr (hc j v _ hv h8) (hf.at h8 ha))
  · rw [look_cons_ne _ _ hii] at h
    exact hC.obj i o h
/-- Sizes of a drawn transaction that may be bent. -/
def Bent (t : TxD) : Prop := t.2.1.length ≤ 5 ∧ t.2.2.length ≤ 3 ∧ (∀ x ∈ t.2.1, x.2.2.length ≤ 8) ∧ (∀ y ∈ t.2.2, y.2.length ≤ 13)
theorem Bent.fits {t : TxD} (h : Bent t) : Fits t := ⟨Nat.le_trans h.1 (by decide), Nat.le_trans h.2.1 (by decide), fun x hx => Nat.le_trans (h.2.2.1 x hx) (by decide), fun y hy => Nat.le_trans (h.2.2.2 y hy) (by decide)⟩
theorem l3Bent_fr (c : List Int) (i n : Nat) (hc : ∀ z ∈ c, isU8 z) (hl : c.length ≤ 1048576) :
    Ret Try.prog 76 [.pt i 0 0] [(i, .box [ul c, iv 0])] n true (fun r ho k => ∃ (t : TxD) (a : Int), r = txV t ∧ ho = [(i, .box [ul c, iv a])] ∧ k = n ∧ Bent t) := by
  refine Ret.aggW (Q := fun r ho k => ∃ (note a : Int) (rx : List (List AV)) (xs : List InD) (ys : List OutD), r = .agg [iv note, .lst rx, outsV ys] ∧ ho = [(i, .box [ul c, iv a])] ∧ k = n ∧ All2 (All2 nilOr) rx (xs.map inRow) ∧ Bent (note, xs, ys)) ?_ (Ret.frBox (fun hin => ?_) (l3Bent_ret c i n hc hl))
  · rintro r ho m ⟨note, a, rx, xs, ys, rfl, rfl, rfl, hw, hb⟩
    exact ⟨_, txC (note, xs, ys), rfl, ⟨.inl rfl, .inr ⟨_, _, rfl, rfl, hw⟩, .inl rfl, trivial⟩, (note, xs, ys), a, rfl, rfl, rfl, hb⟩
  · rintro r ho m ⟨note, a, rx, Y, xs, ys, rfl, hY, hrx, h1, h2, h3, h4, h5, h6⟩
    have hlen : xs.length = rx.length := by have := hrx.length; simpa using this.symm
    rcases hY with ⟨rfl, rfl, rfl⟩ | ⟨rfl, rfl⟩
    · exact ⟨.agg [iv note, .lst rx, .lst []], [ul c, iv a], .agg _ _ ⟨.refl _ (fun _ e => by cases e) (fun _ e => by cases e), frOwnH (look_cons_ne _ _ (by omega)) ((look_cons_ne _ _ (by omega)).trans (look_cons_eq _ _ _)) hlen, .nil, trivial⟩, look_cons_eq _ _ _, rfl, note, a, rx, xs, [], rfl, rfl, rfl, hrx, h1, h2, h3, h4⟩
    · exact ⟨.agg [iv note, .lst rx, outsV ys], [ul c, iv a], .agg _ _ ⟨.refl _ (fun _ e => by cases e) (fun _ e => by cases e), frOwnH (look_cons_ne _ _ (by omega)) ((look_cons_ne _ _ (by omega)).trans (look_cons_eq _ _ _)) hlen, frOwnH (look_cons_ne _ _ (by omega)) ((look_cons_ne _ _ (by omega)).trans ((look_cons_ne _ _ (by omega)).trans (look_cons_eq _ _ _))) (by simp), trivial⟩, look_cons_eq _ _ _, rfl, note, a, rx, xs, ys, rfl, rfl, rfl, hrx, h1, h2, h3, h4⟩
end Go.Proofs.Ytbghcndemghilaa
