/-
  CHAPTER 3: what the program's reader finds is what the parsers find.
-/
import Derived.Test.YtdafmioegaelgaaP27
namespace Go.Proofs.Ytdafmioegaelgaa
open Go Go.Am Go.RowKit
set_option linter.unusedVariables false
set_option linter.unusedSimpArgs false
/-- The reader does as the parser does: what it finds, or a mark of failure that stays. -/
structure Fol {α : Type} (d : List Int) (p : Par α) (f : RS → α × RS) : Prop where
  yes : ∀ a x u, a ≤ d.length → p (d.drop a) = some (x, u) → f (a, false) = (x, (a + u, false))
  no : ∀ a, a ≤ d.length → p (d.drop a) = none → (f (a, false)).2.2 = true
  bad : ∀ s : RS, s.2 = true → (f s).2.2 = true
  bd : ∀ s : RS, s.1 ≤ d.length → (f s).2.1 ≤ d.length
theorem fol_num {d : List Int} (hd : ∀ z ∈ d, isU8 z) : Fol d rdV (numF d) where
  yes a x u ha h := by unfold numF; simp [h]
  no a ha h := by unfold numF; simp [h]
  bad s h := by unfold numF; simp [h]
  bd s h := (numF_bd hd s h).2.2
theorem fol_then {α β γ : Type} {d : List Int} {p : Par α} {q : Par β} {f : RS → α × RS} {g : RS → β × RS} {c : α → β → γ} (hp : Fol d p f) (hq : Fol d q g) : Fol d (pThen p q c) fun s => (c (f s).1 (g (f s).2).1, (g (f s).2).2) where
  yes a x u ha h := by
    obtain ⟨y, v, z, w, h1, h2, rfl, rfl⟩ := then_some h
    have e1 := hp.yes a y v ha h1
    have hb := hp.bd (a, false) ha
    rw [e1] at hb
    have e2 := hq.yes (a + v) z w hb (by rw [← List.drop_drop]; exact h2)
    simp only [e1, e2, Nat.add_assoc]
  no a ha h := by
    cases h1 : p (d.drop a) with
    | none => exact hq.bad _ (hp.no a ha h1)
    | some y =>
      obtain ⟨y, v⟩ := y
      have e1 := hp.yes a y v ha h1
      have hb := hp.bd (a, false) ha
      rw [e1] at hb
      simp only [e1]
      refine hq.no (a + v) hb ?_
      unfold pThen at h
      simp only [h1] at h
      rw [← List.drop_drop]
      cases h2 : q ((d.drop a).drop v) with
      | none => rfl
      | some z => rw [h2] at h; cases h
  bad s h := hq.bad _ (hp.bad s h)
  bd s h := hq.bd _ (hp.bd s h)
theorem fol_id {α : Type} {d : List Int} (x : α) : Fol d (fun _ => some (x, 0)) fun s => (x, s) where
  yes a y u ha h := by simp at h; simp [h.1, ← h.2]
  no a ha h := by simp at h
  bad s h := h
  bd s h := h
theorem snocF_cons {α : Type} (f : RS → α × RS) : ∀ (k : Nat) (s : RS), snocF f s (k + 1) = ((f s).1 :: (snocF f (f s).2 k).1, (snocF f (f s).2 k).2)
  | 0, s => rfl
  | k + 1, s => by
    show ((snocF f s (k + 1)).1 ++ [(f (snocF f s (k + 1)).2).1], (f (snocF f s (k + 1)).2).2) = _
    rw [snocF_cons f k s]
    rfl
theorem fol_many {α : Type} {d : List Int} {p : Par α} {f : RS → α × RS} (hp : Fol d p f) : ∀ k, Fol d (pMany p k) fun s => snocF f s k
  | 0 => fol_id _
  | k + 1 => by
    have h := fol_then (c := List.cons) hp (fol_many hp k)
    have e : (fun s => snocF f s (k + 1)) = fun s => (List.cons (f s).1 (snocF f (f s).2 k).1, (snocF f (f s).2 k).2) := funext fun s => snocF_cons f k s
    rw [e]
    exact h
theorem numsF_snoc (d : List Int) (s : RS) : ∀ k, numsF d s k = snocF (numF d) s k
  | 0 => rfl
  | k + 1 => by
    show ((numsF d s k).1 ++ [(numF d (numsF d s k).2).1], (numF d (numsF d s k).2).2) = _
    rw [numsF_snoc d s k]
    rfl
theorem fol_cnt {α : Type} {d : List Int} (hd : ∀ z ∈ d, isU8 z) {p : Par α} {f : RS → α × RS} (hp : Fol d p f) (m : Nat) : Fol d (pCnt p m) fun s => snocF f (cntF m d s).2 (cntF m d s).1.toNat where
  yes a x u ha h := by
    obtain ⟨k, v, w, h1, h2, h3, rfl⟩ := cnt_some h
    have e1 := (fol_num hd).yes a k v ha h1
    have hb := (fol_num hd).bd (a, false) ha
    rw [e1] at hb
    have ec : cntF m d (a, false) = (k, (a + v, false)) := by unfold cntF; rw [e1]; exact if_neg (by omega)
    simp only [ec]
    have e2 := (fol_many hp k.toNat).yes (a + v) x w hb (by rw [← List.drop_drop]; exact h3)
    rw [e2, Nat.add_assoc]
  no a ha h := by
    unfold pCnt at h
    cases h1 : rdV (d.drop a) with
    | none =>
      have e1 := (fol_num hd).no a ha h1
      refine (fol_many hp _).bad _ ?_
      unfold cntF
      split
      · rfl
      · exact e1
    | some y =>
      obtain ⟨k, v⟩ := y
      have e1 := (fol_num hd).yes a k v ha h1
      have hb := (fol_num hd).bd (a, false) ha
      rw [e1] at hb
      simp only [h1] at h
      by_cases hk : (m : Int) < k
      · refine (fol_many hp _).bad _ ?_
        unfold cntF
        rw [e1, if_pos hk]
      · have ec : cntF m d (a, false) = (k, (a + v, false)) := by unfold cntF; rw [e1]; exact if_neg hk
        rw [if_neg hk] at h
        simp only [ec]
        refine (fol_many hp k.toNat).no (a + v) hb ?_
        rw [← List.drop_drop]
        cases h2 : pMany p k.toNat ((d.drop a).drop v) with
        | none => rfl
        | some z => rw [h2] at h; cases h
  bad s h := by
    refine (fol_many hp _).bad _ ?_
    unfold cntF
    split
    · rfl
    · exact (fol_num hd).bad s h
  bd s h := (fol_many hp _).bd _ (cntF_bd hd m s h).2.2
theorem Fol.cong {α : Type} {d : List Int} {p q : Par α} {f g : RS → α × RS} (h : Fol d p f) (e1 : p = q) (e2 : f = g) : Fol d q g := by subst e1 e2; exact h
theorem fol_big {d : List Int} (hd : ∀ z ∈ d, isU8 z) : Fol d pBig (bigF d) := fol_then (fol_num hd) (fol_num hd)
theorem fol_list {d : List Int} (hd : ∀ z ∈ d, isU8 z) (m : Nat) : Fol d (pCnt rdV m) (listF m d) := (fol_cnt hd (fol_num hd) m).cong rfl (funext fun s => (numsF_snoc d _ _).symm)
theorem fol_In {d : List Int} (hd : ∀ z ∈ d, isU8 z) : Fol d Am.pIn (inF d) := (fol_then (fol_big hd) (fol_then (fol_num hd) (fol_list hd 8))).cong rfl rfl
theorem fol_Out {d : List Int} (hd : ∀ z ∈ d, isU8 z) : Fol d Am.pOut (outF d) := (fol_then (fol_big hd) (fol_list hd 12)).cong rfl rfl
theorem fol_Tx {d : List Int} (hd : ∀ z ∈ d, isU8 z) : Fol d pTx (txF d) := (fol_then (fol_num hd) (fol_then (fol_cnt hd (fol_In hd) 4) (fol_cnt hd (fol_Out hd) 4))).cong rfl rfl
/-- ReadTx finds a transaction where the parser does and it has no fault. -/
theorem readF_some {d : List Int} (hd : ∀ z ∈ d, isU8 z) {t : TxD} {u : Nat} : readF d = some (t, u) ↔ pTx d = some (t, u) ∧ faultC t = 0 := by
  have hF := fol_Tx hd
  unfold readF
  constructor
  · intro h
    split at h
    · rename_i hc
      simp only [Option.some.injEq, Prod.mk.injEq] at h
      cases hp : pTx d with
      | none => have := hF.no 0 (Nat.zero_le _) (by rw [List.drop_zero]; exact hp); rw [this] at hc; exact absurd hc.1 (by simp)
      | some x =>
        obtain ⟨t', u'⟩ := x
        have := hF.yes 0 t' u' (Nat.zero_le _) (by rw [List.drop_zero]; exact hp)
        rw [this] at h hc
        simp only [Nat.zero_add] at h
        obtain ⟨rfl, rfl⟩ := h
        exact ⟨rfl, hc.2⟩
    · cases h
  · rintro ⟨hp, hf⟩
    have := hF.yes 0 t u (Nat.zero_le _) (by rw [List.drop_zero]; exact hp)
    rw [this]
    simp [hf]
end Go.Proofs.Ytdafmioegaelgaa
