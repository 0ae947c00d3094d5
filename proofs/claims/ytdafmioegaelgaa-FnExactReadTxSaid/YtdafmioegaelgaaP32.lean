/-
  CHAPTER 3: what the specification's reader finds is what the parsers find.
-/
import Derived.Test.YtdafmioegaelgaaP31
namespace Go.Proofs.Ytdafmioegaelgaa
open Go Go.Am Go.RowKit
set_option linter.unusedVariables false
set_option linter.unusedSimpArgs false
/-- A count, whatever it is, and so many. -/
def pCntU {α : Type} (p : Par α) : Par (List α) := fun d => match rdV d with
  | none => none
  | some (n, u) => match pMany p n.toNat (d.drop u) with
    | none => none
    | some (l, w) => some (l, u + w)
theorem fol_var {d : List Int} (hd : ∀ z ∈ d, isU8 z) : Fol d rdV (varF d) where
  yes a x u ha h := varF_some false h
  no a ha h := varF_none false h
  bad s h := varF_wrong s h
  bd s h := (varF_bd hd s h).2.2.2.1
theorem fol_wh {α : Type} {d : List Int} {p : Par α} {f : RS → α × RS} (hp : Fol d p f) : ∀ k, Fol d (pMany p k) fun s => whF f k s
  | 0 => fol_id _
  | k + 1 => {
    yes := fun a x u ha h => by
      obtain ⟨y, v, z, w, h1, h2, rfl, rfl⟩ := then_some h
      have e1 := hp.yes a y v ha h1
      have hb := hp.bd (a, false) ha
      rw [e1] at hb
      have e2 := (fol_wh hp k).yes (a + v) z w hb (by rw [← List.drop_drop]; exact h2)
      rw [whF_next (by rfl), e1, e2, Nat.add_assoc]
    no := fun a ha h => by
      rw [whF_next (by rfl)]
      have h' : pThen p (pMany p k) List.cons (d.drop a) = none := h
      cases h1 : p (d.drop a) with
      | none => exact (fol_wh hp k).bad _ (hp.no a ha h1)
      | some y =>
        obtain ⟨y, v⟩ := y
        have e1 := hp.yes a y v ha h1
        have hb := hp.bd (a, false) ha
        rw [e1] at hb
        rw [e1]
        refine (fol_wh hp k).no (a + v) hb ?_
        unfold pThen at h'
        simp only [h1] at h'
        rw [← List.drop_drop]
        cases h2 : pMany p k ((d.drop a).drop v) with
        | none => rfl
        | some z => rw [h2] at h'; cases h'
    bad := fun s h => by rw [whF_stop h]; exact h
    bd := fun s h => whF_bd hp.bd _ s h }
theorem cntU_some {α : Type} {p : Par α} {d : List Int} {x : List α} {n : Nat} (h : pCntU p d = some (x, n)) : ∃ k u w, rdV d = some (k, u) ∧ pMany p k.toNat (d.drop u) = some (x, w) ∧ n = u + w := by
  unfold pCntU at h
  cases hp : rdV d with
  | none => simp [hp] at h
  | some y =>
    obtain ⟨k, u⟩ := y
    simp only [hp] at h
    cases hq : pMany p k.toNat (d.drop u) with
    | none => simp [hq] at h
    | some z =>
      obtain ⟨b, w⟩ := z
      simp only [hq, Option.some.injEq, Prod.mk.injEq] at h
      obtain ⟨rfl, rfl⟩ := h
      exact ⟨k, u, w, rfl, hq, rfl⟩
theorem fol_cntU {α : Type} {d : List Int} (hd : ∀ z ∈ d, isU8 z) {p : Par α} {f : RS → α × RS} (hp : Fol d p f) : Fol d (pCntU p) fun s => whF f (varF d s).1.toNat (varF d s).2 where
  yes a x u ha h := by
    obtain ⟨k, v, w, h1, h3, rfl⟩ := cntU_some h
    have e1 := (fol_var hd).yes a k v ha h1
    have hb := (fol_var hd).bd (a, false) ha
    rw [e1] at hb
    simp only [e1]
    have e2 := (fol_wh hp k.toNat).yes (a + v) x w hb (by rw [← List.drop_drop]; exact h3)
    rw [e2, Nat.add_assoc]
  no a ha h := by
    unfold pCntU at h
    cases h1 : rdV (d.drop a) with
    | none => exact (fol_wh hp _).bad _ ((fol_var hd).no a ha h1)
    | some y =>
      obtain ⟨k, v⟩ := y
      have e1 := (fol_var hd).yes a k v ha h1
      have hb := (fol_var hd).bd (a, false) ha
      rw [e1] at hb
      simp only [h1] at h
      simp only [e1]
      refine (fol_wh hp k.toNat).no (a + v) hb ?_
      rw [← List.drop_drop]
      cases h2 : pMany p k.toNat ((d.drop a).drop v) with
      | none => rfl
      | some z => rw [h2] at h; cases h
  bad s h := (fol_wh hp _).bad _ ((fol_var hd).bad s h)
  bd s h := (fol_wh hp _).bd _ ((fol_var hd).bd s h)
def pInU : Par InD := pThen pBig (pThen rdV (pCntU rdV) Prod.mk) fun a b => (a, b.1, b.2)
def pOutU : Par OutD := pThen pBig (pCntU rdV) Prod.mk
def pTxU : Par TxD := pThen rdV (pThen (pCntU pInU) (pCntU pOutU) Prod.mk) fun a b => (a, b.1, b.2)
theorem fol_bigS {d : List Int} (hd : ∀ z ∈ d, isU8 z) : Fol d pBig (bigS d) := fol_then (fol_var hd) (fol_var hd)
theorem fol_listS {d : List Int} (hd : ∀ z ∈ d, isU8 z) : Fol d (pCntU rdV) (listS d) := fol_cntU hd (fol_var hd)
theorem fol_InU {d : List Int} (hd : ∀ z ∈ d, isU8 z) : Fol d pInU (inS d) := (fol_then (fol_bigS hd) (fol_then (fol_var hd) (fol_listS hd))).cong rfl rfl
theorem fol_OutU {d : List Int} (hd : ∀ z ∈ d, isU8 z) : Fol d pOutU (outS d) := (fol_then (fol_bigS hd) (fol_listS hd)).cong rfl rfl
theorem fol_TxU {d : List Int} (hd : ∀ z ∈ d, isU8 z) : Fol d pTxU (txS d) := (fol_then (fol_var hd) (fol_then (fol_cntU hd (fol_InU hd)) (fol_cntU hd (fol_OutU hd)))).cong rfl rfl
/-- The one is the other where a property holds. -/
def Restr {α : Type} (p q : Par α) (P : α → Prop) : Prop := ∀ d x u, p d = some (x, u) ↔ q d = some (x, u) ∧ P x
theorem restr_self {α : Type} (p : Par α) : Restr p p fun _ => True := fun d x u => ⟨fun h => ⟨h, trivial⟩, fun h => h.1⟩
theorem restr_then {α β γ : Type} {p p' : Par α} {q q' : Par β} {f : α → β → γ} {P : α → Prop} {Q : β → Prop} {R : γ → Prop} (hp : Restr p p' P) (hq : Restr q q' Q) (hR : ∀ a b, R (f a b) ↔ P a ∧ Q b) : Restr (pThen p q f) (pThen p' q' f) R := by
  intro d c n
  constructor
  · intro h
    obtain ⟨a, u, b, w, h1, h2, rfl, rfl⟩ := then_some h
    obtain ⟨g1, g2⟩ := (hp _ _ _).1 h1
    obtain ⟨g3, g4⟩ := (hq _ _ _).1 h2
    exact ⟨then_of g1 g3, (hR a b).2 ⟨g2, g4⟩⟩
  · rintro ⟨h, hr⟩
    obtain ⟨a, u, b, w, h1, h2, rfl, rfl⟩ := then_some h
    have := (hR a b).1 hr
    exact then_of ((hp _ _ _).2 ⟨h1, this.1⟩) ((hq _ _ _).2 ⟨h2, this.2⟩)
theorem restr_many {α : Type} {p p' : Par α} {P : α → Prop} (hp : Restr p p' P) : ∀ k, Restr (pMany p k) (pMany p' k) fun xs => ∀ x ∈ xs, P x
  | 0 => fun d x u => by
    simp only [pMany, Option.some.injEq, Prod.mk.injEq]
    constructor
    · rintro ⟨rfl, rfl⟩; exact ⟨⟨rfl, rfl⟩, by simp⟩
    · rintro ⟨h, _⟩; exact h
  | k + 1 => restr_then hp (restr_many hp k) fun a b => by simp
theorem restr_cnt {α : Type} {p p' : Par α} {P : α → Prop} (hp : Restr p p' P) (m : Nat) : Restr (pCnt p m) (pCntU p') fun xs => xs.length ≤ m ∧ ∀ x ∈ xs, P x := by
  intro d x n
  constructor
  · intro h
    obtain ⟨k, u, w, h1, h2, h3, rfl⟩ := cnt_some h
    obtain ⟨g1, g2⟩ := (restr_many hp _ _ _ _).1 h3
    refine ⟨by unfold pCntU; simp only [h1, g1], by rw [many_len h3]; omega, g2⟩
  · rintro ⟨h, h5, h6⟩
    obtain ⟨k, u, w, h1, h3, rfl⟩ := cntU_some h
    have g := (restr_many hp _ _ _ _).2 ⟨h3, h6⟩
    have := many_len h3
    unfold pCnt
    simp only [h1, g]
    rw [if_neg (by omega)]
theorem restr_In : Restr Am.pIn pInU fun x => x.2.2.length ≤ 8 := restr_then (Q := fun y => y.2.length ≤ 8) (restr_self _) (restr_then (restr_self _) (restr_cnt (restr_self _) 8) fun a b => by simp) fun a b => by simp
theorem restr_Out : Restr Am.pOut pOutU fun x => x.2.length ≤ 12 := restr_then (restr_self _) (restr_cnt (restr_self _) 12) fun a b => by simp
theorem restr_Tx : Restr pTx pTxU fun t => (t.2.1.length ≤ 4 ∧ ∀ x ∈ t.2.1, x.2.2.length ≤ 8) ∧ (t.2.2.length ≤ 4 ∧ ∀ x ∈ t.2.2, x.2.length ≤ 12) :=
  restr_then (Q := fun y => (y.1.length ≤ 4 ∧ ∀ x ∈ y.1, x.2.2.length ≤ 8) ∧ (y.2.length ≤ 4 ∧ ∀ x ∈ y.2, x.2.length ≤ 12)) (restr_self _) (restr_then (restr_cnt restr_In 4) (restr_cnt restr_Out 4) fun a b => Iff.rfl) fun a b => by simp
/-- What the specification's ReadTx finds is what the program's does. -/
theorem readS_is {d : List Int} (hd : ∀ z ∈ d, isU8 z) : readF d = if (endS (txS d (0, false))).2 = false then some ((txS d (0, false)).1, (endS (txS d (0, false))).1) else none := by
  have hF := fol_TxU hd
  have hp := fun t u => readF_some (d := d) hd (t := t) (u := u)
  cases hU : pTxU d with
  | none =>
    have h1 := hF.no 0 (Nat.zero_le _) (by rw [List.drop_zero]; exact hU)
    rw [if_neg (by unfold endS; simp [h1])]
    cases hr : readF d with
    | none => rfl
    | some x =>
      have := ((restr_Tx _ _ _).1 ((hp x.1 x.2).1 hr).1).1
      rw [hU] at this; cases this
  | some x =>
    obtain ⟨t, u⟩ := x
    have h1 := hF.yes 0 t u (Nat.zero_le _) (by rw [List.drop_zero]; exact hU)
    rw [h1]
    unfold endS
    by_cases hf : faultC t = 0
    · rw [if_pos (by simp [hf])]
      obtain ⟨g1, g2, g3, g4, g5⟩ := fault_ok hf
      rw [Nat.zero_add]
      exact (hp t u).2 ⟨(restr_Tx _ _ _).2 ⟨hU, ⟨g2, fun x hx => (g4 x hx).2.2.1⟩, ⟨g3, fun x hx => (g5 x hx).2.1⟩⟩, hf⟩
    · rw [if_neg (by simp [hf])]
      cases hr : readF d with
      | none => rfl
      | some x =>
        have h2 := (hp x.1 x.2).1 hr
        have := ((restr_Tx _ _ _).1 h2.1).1
        rw [hU] at this
        simp only [Option.some.injEq] at this
        have h3 := h2.2
        rw [← (Prod.mk.inj this).1] at h3
        exact absurd h3 hf
end Go.Proofs.Ytdafmioegaelgaa
