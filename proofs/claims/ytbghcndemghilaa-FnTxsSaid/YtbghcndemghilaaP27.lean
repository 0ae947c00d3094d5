/-
  CHAPTER 3: ReadTx, by the reading.
-/
import Derived.Test.YtbghcndemghilaaP26
import Derived.Test.YtbghcndemghilaaP15
namespace Go.Proofs.Ytbghcndemghilaa
open Go Go.Am Go.RowKit
set_option linter.unusedVariables false
set_option linter.unusedSimpArgs false
theorem txF_bd {d : List Int} (hd : ∀ z ∈ d, isU8 z) (s : RS) (hs : s.1 ≤ d.length) : (txF d s).2.1 ≤ d.length ∧ (txF d s).1.2.1.length ≤ 4 ∧ (txF d s).1.2.2.length ≤ 4 := by
  have h1 := numF_bd hd s hs
  have h2 := cntF_bd hd 4 _ h1.2.2
  have h3 := snocF_bd (inF_bd hd) _ h2.2.2 (cntF 4 d (numF d s).2).1.toNat
  have h4 := cntF_bd hd 4 _ h3
  have h5 := snocF_bd (outF_bd hd) _ h4.2.2 (cntF 4 d (snocF (inF d) (cntF 4 d (numF d s).2).2 (cntF 4 d (numF d s).2).1.toNat).2).1.toNat
  unfold txF
  dsimp only
  refine ⟨h5, ?_, ?_⟩
  · rw [snocF_len]; omega
  · rw [snocF_len]; omega
theorem rdTx_fr (d : List Int) (s : RS) (i n : Nat) (hd : ∀ z ∈ d, isU8 z) (hl : d.length ≤ 1048576) (hs : s.1 ≤ d.length) : Ret Try.prog 68 [.pt i 0 0] [(i, rdO d s)] n true (Is (txV (txF d s).1) [(i, rdO d (txF d s).2)] n) := by
  refine Ret.frBox (fun hin => ?_) (rdTx_ret d s i n hd hl hs)
  rintro _ _ _ ⟨rfl, rfl, rfl⟩
  exact ⟨txV (txF d s).1, _, .agg _ _ ⟨.refl _ (fun _ e => by cases e) (fun _ e => by cases e), frOwnH (look_cons_ne _ _ (by omega)) ((look_cons_ne _ _ (by omega)).trans (look_cons_eq _ _ _)) (by simp), frOwnH (look_cons_ne _ _ (by omega)) ((look_cons_ne _ _ (by omega)).trans ((look_cons_ne _ _ (by omega)).trans (look_cons_eq _ _ _))) (by simp), trivial⟩, look_cons_eq _ _ _, rfl, rfl, rfl, rfl⟩
/-- What ReadTx finds. -/
def readF (d : List Int) : Option (TxD × Nat) := if (txF d (0, false)).2.2 = false ∧ faultC (txF d (0, false)).1 = 0 then some ((txF d (0, false)).1, (txF d (0, false)).2.1) else none
def readR (d : List Int) : List AV := match readF d with
  | some (t, u) => [iv 0, iv t.1, insV t.2.1, outsV t.2.2, iv (u : Nat)]
  | none => [iv 5, iv 0, nl, nl, iv 0]
theorem implReadTx_ret (d : List Int) (n : Nat) (hd : ∀ z ∈ d, isU8 z) (hl : d.length ≤ 1048576) : Ret Try.prog 15 [ul d] [] n true (Is (.agg (readR d)) [] n) := by
  have hb := txF_bd hd (0, false) (Nat.zero_le _)
  refine Ret.fn ttOk Try.func15 rfl Try.call15 rfl rfl ?_
  conv => whnf
  repeat' first
    | (refine CondP.yes ?_; conv => whnf)
    | (refine CondP.not ?_; conv => whnf)
    | ((first | refine CondP.dec (fun h => ?_) (fun h => ?_) | refine CondP.ndec (fun h => ?_) (fun h => ?_)) <;> first | (exfalso; first | omega | exact h (by assumption) | exact absurd h (by assumption)) | (conv => whnf))
    | (refine Both.mk ?_ ?_ <;> (conv => whnf))
    | (refine Keep.mk (by repeat' first | exact trivial | rfl | refine And.intro ?_ ?_) ?_; conv => whnf)
    | (refine And.intro (by first | decide | omega) ?_; conv => whnf)
    | fail
  refine CallP.heapIs (rdTx_fr d (0, false) 1 _ hd hl (Nat.zero_le _)) rfl (by repeat' first | exact trivial | rfl | exact leafI (by first | rfl | omega | (simp (disch := omega) only [Int.reduceToNat, IntKind.bits, Nat.min_eq_left, Int.reducePow, IntWalk.i64_in, IntWalk.rem_in, IntWalk.i64_quo, IntWalk.u8_in, IntWalk.u32_in, IntWalk.u64_in]; done) | (simp (disch := omega) only [Int.reduceToNat, IntKind.bits, Nat.min_eq_left, Int.reducePow, IntWalk.i64_in, IntWalk.rem_in, IntWalk.i64_quo, IntWalk.u8_in, IntWalk.u32_in, IntWalk.u64_in]; omega)) | refine And.intro ?_ ?_) rfl ?_
  conv => whnf
  repeat' first
    | (refine CondP.yes ?_; conv => whnf)
    | (refine CondP.not ?_; conv => whnf)
    | ((first | refine CondP.dec (fun h => ?_) (fun h => ?_) | refine CondP.ndec (fun h => ?_) (fun h => ?_)) <;> first | (exfalso; first | omega | exact h (by assumption) | exact absurd h (by assumption)) | (conv => whnf))
    | (refine Both.mk ?_ ?_ <;> (conv => whnf))
    | (refine Keep.mk (by repeat' first | exact trivial | rfl | refine And.intro ?_ ?_) ?_; conv => whnf)
    | (refine And.intro (by first | decide | omega) ?_; conv => whnf)
    | fail
  unfold readR readF
  generalize txF d (0, false) = x at *
  obtain ⟨t, p, b⟩ := x
  dsimp only at hb ⊢
  cases b with
  | true =>
    rw [if_neg (by simp)]
    conv => whnf
    repeat' first
      | (refine CondP.yes ?_; conv => whnf)
      | (refine CondP.not ?_; conv => whnf)
      | ((first | refine CondP.dec (fun h => ?_) (fun h => ?_) | refine CondP.ndec (fun h => ?_) (fun h => ?_)) <;> first | (exfalso; first | omega | exact h (by assumption) | exact absurd h (by assumption)) | (conv => whnf))
      | (refine Both.mk ?_ ?_ <;> (conv => whnf))
      | (refine Keep.mk (by repeat' first | exact trivial | rfl | refine And.intro ?_ ?_) ?_; conv => whnf)
      | (refine And.intro (by first | decide | omega) ?_; conv => whnf)
      | fail
    refine FinOk.pure rfl rfl rfl ⟨?_, rfl, rfl⟩
    rfl
  | false =>
    conv => whnf
    repeat' first
      | (refine CondP.yes ?_; conv => whnf)
      | (refine CondP.not ?_; conv => whnf)
      | ((first | refine CondP.dec (fun h => ?_) (fun h => ?_) | refine CondP.ndec (fun h => ?_) (fun h => ?_)) <;> first | (exfalso; first | omega | exact h (by assumption) | exact absurd h (by assumption)) | (conv => whnf))
      | (refine Both.mk ?_ ?_ <;> (conv => whnf))
      | (refine Keep.mk (by repeat' first | exact trivial | rfl | refine And.intro ?_ ?_) ?_; conv => whnf)
      | (refine And.intro (by first | decide | omega) ?_; conv => whnf)
      | fail
    refine CallP.is (implTxFault_ret t _ (by omega) (by omega)) rfl ?_
    conv => whnf
    repeat' first
      | (refine CondP.yes ?_; conv => whnf)
      | (refine CondP.not ?_; conv => whnf)
      | ((first | refine CondP.dec (fun h => ?_) (fun h => ?_) | refine CondP.ndec (fun h => ?_) (fun h => ?_)) <;> first | (exfalso; first | omega | exact h (by assumption) | exact absurd h (by assumption)) | (conv => whnf))
      | (refine Both.mk ?_ ?_ <;> (conv => whnf))
      | (refine Keep.mk (by repeat' first | exact trivial | rfl | refine And.intro ?_ ?_) ?_; conv => whnf)
      | (refine And.intro (by first | decide | omega) ?_; conv => whnf)
      | fail
    · rw [if_neg (fun e => by omega)]
      refine FinOk.pure rfl rfl rfl ⟨?_, rfl, rfl⟩
      rfl
    · rw [if_pos ⟨rfl, by omega⟩]
      refine FinOk.pure rfl rfl rfl ⟨?_, rfl, rfl⟩
      rfl
end Go.Proofs.Ytbghcndemghilaa
/-
  CHAPTER 3: what the program's reader finds is what the parsers find.
-/
namespace Go.Proofs.Ytbghcndemghilaa
open Go Go.Am Go.RowKit
set_option linter.unusedVariables false
set_option linter.unusedSimpArgs false
/-- The reader does as the parser does: what it finds, or a mark of failure that stays. -/
structure Fol {α : Type} (d : List Int) (p : Par α) (f : RS → α × RS) : Prop where
  yes : ∀ a x u, a ≤ d.length → p (d.drop a) = some (x, u) → f (a, false) = (x, (a + u, false))
  no : ∀ a, a ≤ d.length → p (d.drop a) = none → (f (a, false)).2.2 = true
  bad : ∀ s : RS, s.2 = true → (f s).2.2 = true
  bd : ∀ s : RS, s.1 ≤ d.length → (f s).2.1 ≤ d.length
theorem fol_num {d : List Int} (hd : ∀ z ∈ d, isU8 z) : Fol d rdV (numF d) where
  yes a x u ha h := by unfold numF; simp [h]
  no a ha h := by unfold numF; simp [h]
  bad s h := by unfold numF; simp [h]
  bd s h := (numF_bd hd s h).2.2
theorem fol_then {α β γ : Type} {d : List Int} {p : Par α} {q : Par β} {f : RS → α × RS} {g : RS → β × RS} {c : α → β → γ} (hp : Fol d p f) (hq : Fol d q g) : Fol d (pThen p q c) fun s => (c (f s).1 (g (f s).2).1, (g (f s).2).2) where
  yes a x u ha h := by
    obtain ⟨y, v, z, w, h1, h2, rfl, rfl⟩ := then_some h
    have e1 := hp.yes a y v ha h1
    have hb := hp.bd (a, false) ha
    rw [e1] at hb
    have e2 := hq.yes (a + v) z w hb (by rw [← List.drop_drop]; exact h2)
    simp only [e1, e2, Nat.add_assoc]
  no a ha h := by
    cases h1 : p (d.drop a) with
    | none => exact hq.bad _ (hp.no a ha h1)
    | some y =>
      obtain ⟨y, v⟩ := y
      have e1 := hp.yes a y v ha h1
      have hb := hp.bd (a, false) ha
      rw [e1] at hb
      simp only [e1]
      refine hq.no (a + v) hb ?_
      unfold pThen at h
      simp only [h1] at h
      rw [← List.drop_drop]
      cases h2 : q ((d.drop a).drop v) with
      | none => rfl
      | some z => rw [h2] at h; cases h
  bad s h := hq.bad _ (hp.bad s h)
  bd s h := hq.bd _ (hp.bd s h)
theorem fol_id {α : Type} {d : List Int} (x : α) : Fol d (fun _ => some (x, 0)) fun s => (x, s) where
  yes a y u ha h := by simp at h; simp [h.1, ← h.2]
  no a ha h := by simp at h
  bad s h := h
  bd s h := h
theorem snocF_cons {α : Type} (f : RS → α × RS) : ∀ (k : Nat) (s : RS), snocF f s (k + 1) = ((f s).1 :: (snocF f (f s).2 k).1, (snocF f (f s).2 k).2)
  | 0, s => rfl
  | k + 1, s => by
    show ((snocF f s (k + 1)).1 ++ [(f (snocF f s (k + 1)).2).1], (f (snocF f s (k + 1)).2).2) = _
    rw [snocF_cons f k s]
    rfl
theorem fol_many {α : Type} {d : List Int} {p : Par α} {f : RS → α × RS} (hp : Fol d p f) : ∀ k, Fol d (pMany p k) fun s => snocF f s k
  | 0 => fol_id _
  | k + 1 => by
    have h := fol_then (c := List.cons) hp (fol_many hp k)
    have e : (fun s => snocF f s (k + 1)) = fun s => (List.cons (f s).1 (snocF f (f s).2 k).1, (snocF f (f s).2 k).2) := funext fun s => snocF_cons f k s
    rw [e]
    exact h
theorem numsF_snoc (d : List Int) (s : RS) : ∀ k, numsF d s k = snocF (numF d) s k
  | 0 => rfl
  | k + 1 => by
    show ((numsF d s k).1 ++ [(numF d (numsF d s k).2).1], (numF d (numsF d s k).2).2) = _
    rw [numsF_snoc d s k]
    rfl
theorem fol_cnt {α : Type} {d : List Int} (hd : ∀ z ∈ d, isU8 z) {p : Par α} {f : RS → α × RS} (hp : Fol d p f) (m : Nat) : Fol d (pCnt p m) fun s => snocF f (cntF m d s).2 (cntF m d s).1.toNat where
  yes a x u ha h := by
    obtain ⟨k, v, w, h1, h2, h3, rfl⟩ := cnt_some h
    have e1 := (fol_num hd).yes a k v ha h1
    have hb := (fol_num hd).bd (a, false) ha
    rw [e1] at hb
    have ec : cntF m d (a, false) = (k, (a + v, false)) := by unfold cntF; rw [e1]; exact if_neg (by omega)
    simp only [ec]
    have e2 := (fol_many hp k.toNat).yes (a + v) x w hb (by rw [← List.drop_drop]; exact h3)
    rw [e2, Nat.add_assoc]
  no a ha h := by
    unfold pCnt at h
    cases h1 : rdV (d.drop a) with
    | none =>
      have e1 := (fol_num hd).no a ha h1
      refine (fol_many hp _).bad _ ?_
      unfold cntF
      split
      · rfl
      · exact e1
    | some y =>
      obtain ⟨k, v⟩ := y
      have e1 := (fol_num hd).yes a k v ha h1
      have hb := (fol_num hd).bd (a, false) ha
      rw [e1] at hb
      simp only [h1] at h
      by_cases hk : (m : Int) < k
      · refine (fol_many hp _).bad _ ?_
        unfold cntF
        rw [e1, if_pos hk]
      · have ec : cntF m d (a, false) = (k, (a + v, false)) := by unfold cntF; rw [e1]; exact if_neg hk
        rw [if_neg hk] at h
        simp only [ec]
        refine (fol_many hp k.toNat).no (a + v) hb ?_
        rw [← List.drop_drop]
        cases h2 : pMany p k.toNat ((d.drop a).drop v) with
        | none => rfl
        | some z => rw [h2] at h; cases h
  bad s h := by
    refine (fol_many hp _).bad _ ?_
    unfold cntF
    split
    · rfl
    · exact (fol_num hd).bad s h
  bd s h := (fol_many hp _).bd _ (cntF_bd hd m s h).2.2
theorem Fol.cong {α : Type} {d : List Int} {p q : Par α} {f g : RS → α × RS} (h : Fol d p f) (e1 : p = q) (e2 : f = g) : Fol d q g := by subst e1 e2; exact h
theorem fol_big {d : List Int} (hd : ∀ z ∈ d, isU8 z) : Fol d pBig (bigF d) := fol_then (fol_num hd) (fol_num hd)
theorem fol_list {d : List Int} (hd : ∀ z ∈ d, isU8 z) (m : Nat) : Fol d (pCnt rdV m) (listF m d) := (fol_cnt hd (fol_num hd) m).cong rfl (funext fun s => (numsF_snoc d _ _).symm)
theorem fol_In {d : List Int} (hd : ∀ z ∈ d, isU8 z) : Fol d Am.pIn (inF d) := (fol_then (fol_big hd) (fol_then (fol_num hd) (fol_list hd 8))).cong rfl rfl
theorem fol_Out {d : List Int} (hd : ∀ z ∈ d, isU8 z) : Fol d Am.pOut (outF d) := (fol_then (fol_big hd) (fol_list hd 12)).cong rfl rfl
theorem fol_Tx {d : List Int} (hd : ∀ z ∈ d, isU8 z) : Fol d pTx (txF d) := (fol_then (fol_num hd) (fol_then (fol_cnt hd (fol_In hd) 4) (fol_cnt hd (fol_Out hd) 4))).cong rfl rfl
/-- ReadTx finds a transaction where the parser does and it has no fault. -/
theorem readF_some {d : List Int} (hd : ∀ z ∈ d, isU8 z) {t : TxD} {u : Nat} : readF d = some (t, u) ↔ pTx d = some (t, u) ∧ faultC t = 0 := by
  have hF := fol_Tx hd
  unfold readF
  constructor
  · intro h
    split at h
    · rename_i hc
      simp only [Option.some.injEq, Prod.mk.injEq] at h
      cases hp : pTx d with
      | none => have := hF.no 0 (Nat.zero_le _) (by rw [List.drop_zero]; exact hp); rw [this] at hc; exact absurd hc.1 (by simp)
      | some x =>
        obtain ⟨t', u'⟩ := x
        have := hF.yes 0 t' u' (Nat.zero_le _) (by rw [List.drop_zero]; exact hp)
        rw [this] at h hc
        simp only [Nat.zero_add] at h
        obtain ⟨rfl, rfl⟩ := h
        exact ⟨rfl, hc.2⟩
    · cases h
  · rintro ⟨hp, hf⟩
    have := hF.yes 0 t u (Nat.zero_le _) (by rw [List.drop_zero]; exact hp)
    rw [this]
    simp [hf]
end Go.Proofs.Ytbghcndemghilaa
