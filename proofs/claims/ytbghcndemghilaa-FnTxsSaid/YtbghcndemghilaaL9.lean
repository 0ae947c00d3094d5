/-
  CHAPTER 3: the law FnTxs.
-/
import Derived.Test.YtbghcndemghilaaP39
import Derived.Test.YtbghcndemghilaaP32
import Derived.Test.YtbghcndemghilaaP17
namespace Go.Proofs.Ytbghcndemghilaa
open Go Go.Am Go.RowKit
set_option linter.unusedVariables false
set_option linter.unusedSimpArgs false
def putR (v : Int) : AV := if inR 0 65535 v then .agg [iv 0, ul (putN v)] else .agg [iv 3, .lst []]
theorem implPutVar_fr (v : Int) (n : Nat) : Ret Try.prog 19 [iv v] [] n true (Is (putR v) [] n) := by
  unfold putR
  split
  · rename_i h
    refine Ret.freeze (fun r ho m hq => ?_) (implPutVar_ret v n h)
    obtain ⟨rfl, rfl, rfl⟩ := hq
    exact ⟨.agg [iv 0, ul (putN v)], .agg _ _ ⟨.refl _ rfl (fun _ e => by cases e), frOwn (look_cons_eq _ _ _) (by simp), trivial⟩, rfl, rfl, rfl⟩
  · rename_i h
    refine Ret.freeze (fun r ho m hq => ?_) (implPutVar_no v n h)
    obtain ⟨rfl, rfl, rfl⟩ := hq
    exact ⟨.agg [iv 3, .lst []], .agg _ _ ⟨.refl _ rfl (fun _ e => by cases e), .nil, trivial⟩, rfl, rfl, rfl⟩
theorem specPutVar_fr (v : Int) (n : Nat) : Ret Try.prog 22 [iv v] [] n true (Is (putR v) [] n) := by
  unfold putR
  split
  · rename_i h
    refine Ret.freeze (fun r ho m hq => ?_) (specPutVar_ret v n h)
    obtain ⟨rfl, rfl, rfl⟩ := hq
    exact ⟨.agg [iv 0, ul (putN v)], .agg _ _ ⟨.refl _ rfl (fun _ e => by cases e), frOwn (look_cons_eq _ _ _) (by simp), trivial⟩, rfl, rfl, rfl⟩
  · rename_i h
    refine Ret.freeze (fun r ho m hq => ?_) (specPutVar_no v n h)
    obtain ⟨rfl, rfl, rfl⟩ := hq
    exact ⟨.agg [iv 3, .lst []], .agg _ _ ⟨.refl _ rfl (fun _ e => by cases e), .nil, trivial⟩, rfl, rfl, rfl⟩
theorem okFits {t : TxD} (h : okT t) : Fits t := by
  obtain ⟨_, h2, h3, h4, h5⟩ := h
  refine ⟨by omega, by omega, fun x hx => ?_, fun y hy => ?_⟩
  · have := (h4 x hx).2.2.1; omega
  · have := (h5 y hy).2.1; omega
theorem strSame (X Y : List (List AV)) (h : X = Y) : ((strOf X).toList == (strOf Y).toList) = true := by subst h; exact beq_self_eq_true _
theorem cutU (d : List Int) (u : Nat) : List.take ((u : Int).toNat - Int.toNat 0) (List.drop (Int.toNat 0) (uvs d)) = uvs (d.take u) := by
  show List.take (u - 0) (List.drop 0 (d.map uv1)) = (d.take u).map uv1
  rw [List.drop_zero, Nat.sub_zero, List.map_take]
theorem bytes_uvs (d : List Int) : bytesP (uvs d) := by
  intro r hr
  simp only [List.mem_map] at hr
  obtain ⟨z, _, rfl⟩ := hr
  exact ⟨z, rfl⟩
theorem pack_read (t : TxD) (n : Nat) (hz : faultC t = 0) : Ret Try.prog 15 [ul (packT t ++ [1, 2, 3])] [] n true (Is (.agg [iv 0, iv t.1, insV t.2.1, outsV t.2.2, iv ((packT t).length : Nat)]) [] n) := by
  have hk := fault_ok hz
  have hpl := packT_len hk
  have hpu := packT_u8 hk
  have hu3 : ∀ z ∈ packT t ++ [1, 2, 3], isU8 z := fun z hz => (List.mem_append.1 hz).elim (hpu z) fun h => by simp at h; unfold isU8; omega
  have hrd : readF (packT t ++ [1, 2, 3]) = some (t, (packT t).length) := (readF_some hu3).2 ⟨reads1_Tx t hk [1, 2, 3], hz⟩
  have q4 := implReadTx_ret (packT t ++ [1, 2, 3]) n hu3 (by simp; omega)
  rw [readR, hrd] at q4
  exact q4
def forgT (tm : List (Nat × AV)) : List (Nat × AV) → Prop
  | [] => True
  | (t, v) :: r => Am.look tm t = some v ∧ forgT tm r
theorem forgT_look {tm : List (Nat × AV)} : ∀ {l : List (Nat × AV)}, forgT tm l → ∀ t v, Am.look l t = some v → Am.look tm t = some v
  | [], _, t, v, e => by simp [Am.look] at e
  | (k, u) :: r, h, t, v, e => by
    rw [look_cons] at e
    split at e
    · rename_i hk; simp at e; subst hk e; exact h.1
    · exact forgT_look h.2 t v e
theorem forgOf {tm tm' : List (Nat × AV)} {hp : Hp} {nx nx' : Nat} (hn : Nat.ble nx nx' = true) (h : forgT tm tm') : Forget ⟨tm, hp, nx⟩ ⟨tm', [], nx'⟩ := ⟨forgT_look h, fun i o e => by simp [Am.look] at e, Nat.le_of_ble_eq_true hn⟩
theorem cut2 {T : Int → Prop} {G : Prop} (h1 : (∀ v, -1 ≤ v → v ≤ 65536 → T v) → G) (h2 : ∀ v, -1 ≤ v → v ≤ 65536 → T v) : G := h1 h2
theorem cut4 {T : TxD → Prop} {G : Prop} (h1 : (∀ t, Fits t → T t) → G) (h2 : ∀ t, Fits t → T t) : G := h1 h2
set_option maxHeartbeats 4000000 in
theorem txs_law (c : List Int) (n : Nat) (hl : c.length ≤ 1048576) (h1 : ∀ n, Ret Try.prog 14 [ul c] [] n true (fun r ho k => ∃ d : List Int, r = ul d ∧ ho = [] ∧ k = n ∧ d.length ≤ 1000 ∧ ∀ z ∈ d, isU8 z))
    (h2 : ∀ n, Ret Try.prog 18 [ul c] [] n true (fun r ho k => ∃ v : Int, r = iv v ∧ ho = [] ∧ k = n ∧ -1 ≤ v ∧ v ≤ 65536))
    (h3 : ∀ n, Ret Try.prog 20 [ul c] [] n true (fun r ho k => ∃ d : List Int, r = ul d ∧ ho = [] ∧ k = n ∧ d.length ≤ 100 ∧ ∀ z ∈ d, isU8 z))
    (h4 : ∀ n, Ret Try.prog 24 [ul c] [] n true (fun r ho k => ∃ t : TxD, r = txV t ∧ ho = [] ∧ k = n ∧ Fits t)) : Ret Try.prog 3 [ul c] [] n true (fun r _ _ => r = bv true) := by
  have hbig := lwBig_ret c
  rw [decide_eq_false (show ¬ 1048576 < (c.length : Int) by omega)] at hbig
  refine Ret.fn ttOk Try.func3 rfl Try.call3 rfl rfl ?_
  conv => whnf
  repeat' first
    | (refine CondP.yes ?_; conv => whnf)
    | (refine CondP.not ?_; conv => whnf)
    | ((first | refine CondP.dec (fun h => ?_) (fun h => ?_) | refine CondP.ndec (fun h => ?_) (fun h => ?_)) <;> first | (exfalso; first | omega | exact h (by assumption) | exact absurd h (by assumption)) | (conv => whnf))
    | (refine Both.mk ?_ ?_ <;> (conv => whnf))
    | (refine Keep.mk (by repeat' first | exact trivial | rfl | refine And.intro ?_ ?_) ?_; conv => whnf)
    | (refine And.intro (by first | decide | omega) ?_; conv => whnf)
    | fail
  refine CallP.is (hbig _) rfl ?_
  conv => whnf
  repeat' first
    | (refine CondP.yes ?_; conv => whnf)
    | (refine CondP.not ?_; conv => whnf)
    | ((first | refine CondP.dec (fun h => ?_) (fun h => ?_) | refine CondP.ndec (fun h => ?_) (fun h => ?_)) <;> first | (exfalso; first | omega | exact h (by assumption) | exact absurd h (by assumption)) | (conv => whnf))
    | (refine Both.mk ?_ ?_ <;> (conv => whnf))
    | (refine Keep.mk (by repeat' first | exact trivial | rfl | refine And.intro ?_ ?_) ?_; conv => whnf)
    | (refine And.intro (by first | decide | omega) ?_; conv => whnf)
    | fail
  refine CallP.pure (h1 _) rfl ?_
  rintro r ho m ⟨d, rfl, rfl, rfl, hd, hdu⟩
  have hdL : (uvs d).length = d.length := by simp
  have a1 := fun n => implReadTx_ret d n hdu (by omega)
  have a2 := fun n => specReadTx_ret d n hdu (by omega)
  apply cut2
  · intro tail
    cases hr : readF d with
    | none =>
      rw [readR, hr] at a1 a2
      dsimp only at a1 a2
      conv => whnf
      repeat' first
        | (refine CondP.yes ?_; conv => whnf)
        | (refine CondP.not ?_; conv => whnf)
        | ((first | refine CondP.dec (fun h => ?_) (fun h => ?_) | refine CondP.ndec (fun h => ?_) (fun h => ?_)) <;> first | (exfalso; first | omega | exact h (by assumption) | exact absurd h (by assumption)) | (conv => whnf))
        | (refine Both.mk ?_ ?_ <;> (conv => whnf))
        | (refine Keep.mk (by repeat' first | exact trivial | rfl | refine And.intro ?_ ?_) ?_; conv => whnf)
        | (refine And.intro (by first | decide | omega) ?_; conv => whnf)
        | fail
      refine CallP.is (a1 _) rfl ?_
      conv => whnf
      repeat' first
        | (refine CondP.yes ?_; conv => whnf)
        | (refine CondP.not ?_; conv => whnf)
        | ((first | refine CondP.dec (fun h => ?_) (fun h => ?_) | refine CondP.ndec (fun h => ?_) (fun h => ?_)) <;> first | (exfalso; first | omega | exact h (by assumption) | exact absurd h (by assumption)) | (conv => whnf))
        | (refine Both.mk ?_ ?_ <;> (conv => whnf))
        | (refine Keep.mk (by repeat' first | exact trivial | rfl | refine And.intro ?_ ?_) ?_; conv => whnf)
        | (refine And.intro (by first | decide | omega) ?_; conv => whnf)
        | fail
      refine CallQ.is (a2 _) rfl rfl ?_
      conv => whnf
      repeat' first
        | (refine CondP.yes ?_; conv => whnf)
        | (refine CondP.not ?_; conv => whnf)
        | ((first | refine CondP.dec (fun h => ?_) (fun h => ?_) | refine CondP.ndec (fun h => ?_) (fun h => ?_)) <;> first | (exfalso; first | omega | exact h (by assumption) | exact absurd h (by assumption)) | (conv => whnf))
        | (refine Both.mk ?_ ?_ <;> (conv => whnf))
        | (refine Keep.mk (by repeat' first | exact trivial | rfl | refine And.intro ?_ ?_) ?_; conv => whnf)
        | (refine And.intro (by first | decide | omega) ?_; conv => whnf)
        | fail
      refine CallP.cut (CallP.pure (h2 _) rfl ?_)
      rintro r ho m ⟨v, rfl, rfl, rfl, hv1, hv2⟩
      exact ⟨⟨[(55, iv v), (0, ul c)], [], 9⟩, forgOf (by decide) ⟨rfl, rfl, trivial⟩, tail v hv1 hv2⟩
    | some tu =>
      obtain ⟨t, u⟩ := tu
      rw [readR, hr] at a1 a2
      dsimp only at a1 a2
      obtain ⟨hp, hf⟩ := (readF_some hdu).1 hr
      obtain ⟨e1, e2⟩ := wrote_Tx d hdu t u hp
      have hft : Fits t := okFits (fault_ok hf)
      have a3 := fun n => implPackTx_fr t n hft
      rw [packR, if_pos hf, e1] at a3
      conv => whnf
      repeat' first
        | (refine CondP.yes ?_; conv => whnf)
        | (refine CondP.not ?_; conv => whnf)
        | ((first | refine CondP.dec (fun h => ?_) (fun h => ?_) | refine CondP.ndec (fun h => ?_) (fun h => ?_)) <;> first | (exfalso; first | omega | exact h (by assumption) | exact absurd h (by assumption)) | (conv => whnf))
        | (refine Both.mk ?_ ?_ <;> (conv => whnf))
        | (refine Keep.mk (by repeat' first | exact trivial | rfl | refine And.intro ?_ ?_) ?_; conv => whnf)
        | (refine And.intro (by first | decide | omega) ?_; conv => whnf)
        | fail
      refine CallP.is (a1 _) rfl ?_
      conv => whnf
      repeat' first
        | (refine CondP.yes ?_; conv => whnf)
        | (refine CondP.not ?_; conv => whnf)
        | ((first | refine CondP.dec (fun h => ?_) (fun h => ?_) | refine CondP.ndec (fun h => ?_) (fun h => ?_)) <;> first | (exfalso; first | omega | exact h (by assumption) | exact absurd h (by assumption)) | (conv => whnf))
        | (refine Both.mk ?_ ?_ <;> (conv => whnf))
        | (refine Keep.mk (by repeat' first | exact trivial | rfl | refine And.intro ?_ ?_) ?_; conv => whnf)
        | (refine And.intro (by first | decide | omega) ?_; conv => whnf)
        | fail
      refine CallQ.is (a2 _) rfl rfl ?_
      conv => whnf
      repeat' first
        | (refine CondP.yes ?_; conv => whnf)
        | (refine CondP.not ?_; conv => whnf)
        | ((first | refine CondP.dec (fun h => ?_) (fun h => ?_) | refine CondP.ndec (fun h => ?_) (fun h => ?_)) <;> first | (exfalso; first | omega | exact h (by assumption) | exact absurd h (by assumption)) | (conv => whnf))
        | (refine Both.mk ?_ ?_ <;> (conv => whnf))
        | (refine Keep.mk (by repeat' first | exact trivial | rfl | refine And.intro ?_ ?_) ?_; conv => whnf)
        | (refine And.intro (by first | decide | omega) ?_; conv => whnf)
        | fail
      refine CallQ.is (a3 _) rfl rfl ?_
      conv => whnf
      repeat' first
        | (refine CondP.yes ?_; conv => whnf)
        | (refine CondP.not ?_; conv => whnf)
        | ((first | refine CondP.dec (fun h => ?_) (fun h => ?_) | refine CondP.ndec (fun h => ?_) (fun h => ?_)) <;> first | (exfalso; first | omega | exact h (by assumption) | exact absurd h (by assumption)) | (conv => whnf))
        | (refine Both.mk ?_ ?_ <;> (conv => whnf))
        | (refine Keep.mk (by repeat' first | exact trivial | rfl | refine And.intro ?_ ?_) ?_; conv => whnf)
        | (refine And.intro (by first | decide | omega) ?_; conv => whnf)
        | fail
      refine ⟨⟨trivial, bytes_uvs _⟩, ?_⟩
      conv => whnf
      repeat' first
        | (refine CondP.yes ?_; conv => whnf)
        | (refine CondP.not ?_; conv => whnf)
        | ((first | refine CondP.dec (fun h => ?_) (fun h => ?_) | refine CondP.ndec (fun h => ?_) (fun h => ?_)) <;> first | (exfalso; first | omega | exact h (by assumption) | exact absurd h (by assumption)) | (conv => whnf))
        | (refine Both.mk ?_ ?_ <;> (conv => whnf))
        | (refine Keep.mk (by repeat' first | exact trivial | rfl | refine And.intro ?_ ?_) ?_; conv => whnf)
        | (refine And.intro (by first | decide | omega) ?_; conv => whnf)
        | fail
      rw [cutU]
      refine ⟨⟨trivial, bytes_uvs _⟩, ?_⟩
      conv => whnf
      repeat' first
        | (refine CondP.yes ?_; conv => whnf)
        | (refine CondP.not ?_; conv => whnf)
        | ((first | refine CondP.dec (fun h => ?_) (fun h => ?_) | refine CondP.ndec (fun h => ?_) (fun h => ?_)) <;> first | (exfalso; first | omega | exact h (by assumption) | exact absurd h (by assumption)) | (conv => whnf))
        | (refine Both.mk ?_ ?_ <;> (conv => whnf))
        | (refine Keep.mk (by repeat' first | exact trivial | rfl | refine And.intro ?_ ?_) ?_; conv => whnf)
        | (refine And.intro (by first | decide | omega) ?_; conv => whnf)
        | fail
      rw [strSame _ _ rfl]
      first | refine CondP.not ?_ | refine CondP.yes ?_
      conv => whnf
      repeat' first
        | (refine CondP.yes ?_; conv => whnf)
        | (refine CondP.not ?_; conv => whnf)
        | ((first | refine CondP.dec (fun h => ?_) (fun h => ?_) | refine CondP.ndec (fun h => ?_) (fun h => ?_)) <;> first | (exfalso; first | omega | exact h (by assumption) | exact absurd h (by assumption)) | (conv => whnf))
        | (refine Both.mk ?_ ?_ <;> (conv => whnf))
        | (refine Keep.mk (by repeat' first | exact trivial | rfl | refine And.intro ?_ ?_) ?_; conv => whnf)
        | (refine And.intro (by first | decide | omega) ?_; conv => whnf)
        | fail
      refine CallP.cut (CallP.pure (h2 _) rfl ?_)
      rintro r ho m ⟨v, rfl, rfl, rfl, hv1, hv2⟩
      exact ⟨⟨[(55, iv v), (0, ul c)], [], 9⟩, forgOf (by decide) ⟨rfl, rfl, trivial⟩, tail v hv1 hv2⟩
  · intro v hv1 hv2
    conv => whnf
    repeat' first
      | (refine CondP.yes ?_; conv => whnf)
      | (refine CondP.not ?_; conv => whnf)
      | ((first | refine CondP.dec (fun h => ?_) (fun h => ?_) | refine CondP.ndec (fun h => ?_) (fun h => ?_)) <;> first | (exfalso; first | omega | exact h (by assumption) | exact absurd h (by assumption)) | (conv => whnf))
      | (refine Both.mk ?_ ?_ <;> (conv => whnf))
      | (refine Keep.mk (by repeat' first | exact trivial | rfl | refine And.intro ?_ ?_) ?_; conv => whnf)
      | (refine And.intro (by first | decide | omega) ?_; conv => whnf)
      | fail
    have b1 := fun n => implPutVar_fr v n
    have b2 := fun n => specPutVar_fr v n
    apply cut4
    · intro tail4
      by_cases hv : inR 0 65535 v
      · rw [putR, if_pos hv] at b1 b2
        have b3 := fun n => implReadVar_ret (putN v) n (putN_u8 hv) (by have := (putN_len v).2; omega)
        have e5 := put_rdV hv []
        rw [List.append_nil] at e5
        rw [rvC, e5] at b3
        dsimp only at b3
        refine CallP.is (b1 _) rfl ?_
        conv => whnf
        repeat' first
          | (refine CondP.yes ?_; conv => whnf)
          | (refine CondP.not ?_; conv => whnf)
          | ((first | refine CondP.dec (fun h => ?_) (fun h => ?_) | refine CondP.ndec (fun h => ?_) (fun h => ?_)) <;> first | (exfalso; first | omega | exact h (by assumption) | exact absurd h (by assumption)) | (conv => whnf))
          | (refine Both.mk ?_ ?_ <;> (conv => whnf))
          | (refine Keep.mk (by repeat' first | exact trivial | rfl | refine And.intro ?_ ?_) ?_; conv => whnf)
          | (refine And.intro (by first | decide | omega) ?_; conv => whnf)
          | fail
        refine CallP.pure (h3 _) rfl ?_
        rintro r ho m ⟨e, rfl, rfl, rfl, he, heu⟩
        have heL : (uvs e).length = e.length := by simp
        have d1 := fun n => implReadVar_ret e n heu (by omega)
        have d2 := fun n => specReadVar_ret e n heu (by omega)
        cases hr2 : rdV e with
        | none =>
          rw [rvC, hr2] at d1 d2
          dsimp only at d1 d2
          conv => whnf
          repeat' first
            | (refine CondP.yes ?_; conv => whnf)
            | (refine CondP.not ?_; conv => whnf)
            | ((first | refine CondP.dec (fun h => ?_) (fun h => ?_) | refine CondP.ndec (fun h => ?_) (fun h => ?_)) <;> first | (exfalso; first | omega | exact h (by assumption) | exact absurd h (by assumption)) | (conv => whnf))
            | (refine Both.mk ?_ ?_ <;> (conv => whnf))
            | (refine Keep.mk (by repeat' first | exact trivial | rfl | refine And.intro ?_ ?_) ?_; conv => whnf)
            | (refine And.intro (by first | decide | omega) ?_; conv => whnf)
            | fail
          refine CallP.is (d1 _) rfl ?_
          conv => whnf
          repeat' first
            | (refine CondP.yes ?_; conv => whnf)
            | (refine CondP.not ?_; conv => whnf)
            | ((first | refine CondP.dec (fun h => ?_) (fun h => ?_) | refine CondP.ndec (fun h => ?_) (fun h => ?_)) <;> first | (exfalso; first | omega | exact h (by assumption) | exact absurd h (by assumption)) | (conv => whnf))
            | (refine Both.mk ?_ ?_ <;> (conv => whnf))
            | (refine Keep.mk (by repeat' first | exact trivial | rfl | refine And.intro ?_ ?_) ?_; conv => whnf)
            | (refine And.intro (by first | decide | omega) ?_; conv => whnf)
            | fail
          refine CallQ.is (b2 _) rfl rfl ?_
          conv => whnf
          repeat' first
            | (refine CondP.yes ?_; conv => whnf)
            | (refine CondP.not ?_; conv => whnf)
            | ((first | refine CondP.dec (fun h => ?_) (fun h => ?_) | refine CondP.ndec (fun h => ?_) (fun h => ?_)) <;> first | (exfalso; first | omega | exact h (by assumption) | exact absurd h (by assumption)) | (conv => whnf))
            | (refine Both.mk ?_ ?_ <;> (conv => whnf))
            | (refine Keep.mk (by repeat' first | exact trivial | rfl | refine And.intro ?_ ?_) ?_; conv => whnf)
            | (refine And.intro (by first | decide | omega) ?_; conv => whnf)
            | fail
          try (refine CallQ.is (b3 _) rfl rfl ?_
               conv => whnf
               repeat' first
                 | (refine CondP.yes ?_; conv => whnf)
                 | (refine CondP.not ?_; conv => whnf)
                 | ((first | refine CondP.dec (fun h => ?_) (fun h => ?_) | refine CondP.ndec (fun h => ?_) (fun h => ?_)) <;> first | (exfalso; first | omega | exact h (by assumption) | exact absurd h (by assumption)) | (conv => whnf))
                 | (refine Both.mk ?_ ?_ <;> (conv => whnf))
                 | (refine Keep.mk (by repeat' first | exact trivial | rfl | refine And.intro ?_ ?_) ?_; conv => whnf)
                 | (refine And.intro (by first | decide | omega) ?_; conv => whnf)
                 | fail)
          refine CallQ.is (d2 _) rfl rfl ?_
          conv => whnf
          repeat' first
            | (refine CondP.yes ?_; conv => whnf)
            | (refine CondP.not ?_; conv => whnf)
            | ((first | refine CondP.dec (fun h => ?_) (fun h => ?_) | refine CondP.ndec (fun h => ?_) (fun h => ?_)) <;> first | (exfalso; first | omega | exact h (by assumption) | exact absurd h (by assumption)) | (conv => whnf))
            | (refine Both.mk ?_ ?_ <;> (conv => whnf))
            | (refine Keep.mk (by repeat' first | exact trivial | rfl | refine And.intro ?_ ?_) ?_; conv => whnf)
            | (refine And.intro (by first | decide | omega) ?_; conv => whnf)
            | fail
          refine CallP.cut (CallP.pure (h4 _) rfl ?_)
          rintro r ho m ⟨tt0, rfl, rfl, rfl, hft⟩
          exact ⟨⟨[(120, txV tt0), (0, ul c)], [], 19⟩, forgOf (by decide) ⟨rfl, rfl, trivial⟩, tail4 tt0 hft⟩
        | some xu =>
          obtain ⟨x, w⟩ := xu
          rw [rvC, hr2] at d1 d2
          dsimp only at d1 d2
          obtain ⟨g1, g2, g3⟩ := rdV_len hr2
          have hx := rdV_bd heu hr2
          have d3 := fun n => implPutVar_fr x n
          rw [putR, if_pos hx, rdV_put heu hr2] at d3
          conv => whnf
          repeat' first
            | (refine CondP.yes ?_; conv => whnf)
            | (refine CondP.not ?_; conv => whnf)
            | ((first | refine CondP.dec (fun h => ?_) (fun h => ?_) | refine CondP.ndec (fun h => ?_) (fun h => ?_)) <;> first | (exfalso; first | omega | exact h (by assumption) | exact absurd h (by assumption)) | (conv => whnf))
            | (refine Both.mk ?_ ?_ <;> (conv => whnf))
            | (refine Keep.mk (by repeat' first | exact trivial | rfl | refine And.intro ?_ ?_) ?_; conv => whnf)
            | (refine And.intro (by first | decide | omega) ?_; conv => whnf)
            | fail
          refine CallP.is (d1 _) rfl ?_
          conv => whnf
          repeat' first
            | (refine CondP.yes ?_; conv => whnf)
            | (refine CondP.not ?_; conv => whnf)
            | ((first | refine CondP.dec (fun h => ?_) (fun h => ?_) | refine CondP.ndec (fun h => ?_) (fun h => ?_)) <;> first | (exfalso; first | omega | exact h (by assumption) | exact absurd h (by assumption)) | (conv => whnf))
            | (refine Both.mk ?_ ?_ <;> (conv => whnf))
            | (refine Keep.mk (by repeat' first | exact trivial | rfl | refine And.intro ?_ ?_) ?_; conv => whnf)
            | (refine And.intro (by first | decide | omega) ?_; conv => whnf)
            | fail
          refine CallQ.is (b2 _) rfl rfl ?_
          conv => whnf
          repeat' first
            | (refine CondP.yes ?_; conv => whnf)
            | (refine CondP.not ?_; conv => whnf)
            | ((first | refine CondP.dec (fun h => ?_) (fun h => ?_) | refine CondP.ndec (fun h => ?_) (fun h => ?_)) <;> first | (exfalso; first | omega | exact h (by assumption) | exact absurd h (by assumption)) | (conv => whnf))
            | (refine Both.mk ?_ ?_ <;> (conv => whnf))
            | (refine Keep.mk (by repeat' first | exact trivial | rfl | refine And.intro ?_ ?_) ?_; conv => whnf)
            | (refine And.intro (by first | decide | omega) ?_; conv => whnf)
            | fail
          try (refine CallQ.is (b3 _) rfl rfl ?_
               conv => whnf
               repeat' first
                 | (refine CondP.yes ?_; conv => whnf)
                 | (refine CondP.not ?_; conv => whnf)
                 | ((first | refine CondP.dec (fun h => ?_) (fun h => ?_) | refine CondP.ndec (fun h => ?_) (fun h => ?_)) <;> first | (exfalso; first | omega | exact h (by assumption) | exact absurd h (by assumption)) | (conv => whnf))
                 | (refine Both.mk ?_ ?_ <;> (conv => whnf))
                 | (refine Keep.mk (by repeat' first | exact trivial | rfl | refine And.intro ?_ ?_) ?_; conv => whnf)
                 | (refine And.intro (by first | decide | omega) ?_; conv => whnf)
                 | fail)
          refine CallQ.is (d2 _) rfl rfl ?_
          conv => whnf
          repeat' first
            | (refine CondP.yes ?_; conv => whnf)
            | (refine CondP.not ?_; conv => whnf)
            | ((first | refine CondP.dec (fun h => ?_) (fun h => ?_) | refine CondP.ndec (fun h => ?_) (fun h => ?_)) <;> first | (exfalso; first | omega | exact h (by assumption) | exact absurd h (by assumption)) | (conv => whnf))
            | (refine Both.mk ?_ ?_ <;> (conv => whnf))
            | (refine Keep.mk (by repeat' first | exact trivial | rfl | refine And.intro ?_ ?_) ?_; conv => whnf)
            | (refine And.intro (by first | decide | omega) ?_; conv => whnf)
            | fail
          refine CallQ.is (d3 _) rfl rfl ?_
          conv => whnf
          repeat' first
            | (refine CondP.yes ?_; conv => whnf)
            | (refine CondP.not ?_; conv => whnf)
            | ((first | refine CondP.dec (fun h => ?_) (fun h => ?_) | refine CondP.ndec (fun h => ?_) (fun h => ?_)) <;> first | (exfalso; first | omega | exact h (by assumption) | exact absurd h (by assumption)) | (conv => whnf))
            | (refine Both.mk ?_ ?_ <;> (conv => whnf))
            | (refine Keep.mk (by repeat' first | exact trivial | rfl | refine And.intro ?_ ?_) ?_; conv => whnf)
            | (refine And.intro (by first | decide | omega) ?_; conv => whnf)
            | fail
          refine ⟨⟨trivial, bytes_uvs _⟩, ?_⟩
          conv => whnf
          repeat' first
            | (refine CondP.yes ?_; conv => whnf)
            | (refine CondP.not ?_; conv => whnf)
            | ((first | refine CondP.dec (fun h => ?_) (fun h => ?_) | refine CondP.ndec (fun h => ?_) (fun h => ?_)) <;> first | (exfalso; first | omega | exact h (by assumption) | exact absurd h (by assumption)) | (conv => whnf))
            | (refine Both.mk ?_ ?_ <;> (conv => whnf))
            | (refine Keep.mk (by repeat' first | exact trivial | rfl | refine And.intro ?_ ?_) ?_; conv => whnf)
            | (refine And.intro (by first | decide | omega) ?_; conv => whnf)
            | fail
          rw [cutU]
          refine ⟨⟨trivial, bytes_uvs _⟩, ?_⟩
          conv => whnf
          repeat' first
            | (refine CondP.yes ?_; conv => whnf)
            | (refine CondP.not ?_; conv => whnf)
            | ((first | refine CondP.dec (fun h => ?_) (fun h => ?_) | refine CondP.ndec (fun h => ?_) (fun h => ?_)) <;> first | (exfalso; first | omega | exact h (by assumption) | exact absurd h (by assumption)) | (conv => whnf))
            | (refine Both.mk ?_ ?_ <;> (conv => whnf))
            | (refine Keep.mk (by repeat' first | exact trivial | rfl | refine And.intro ?_ ?_) ?_; conv => whnf)
            | (refine And.intro (by first | decide | omega) ?_; conv => whnf)
            | fail
          rw [strSame _ _ rfl]
          first | refine CondP.not ?_ | refine CondP.yes ?_
          conv => whnf
          repeat' first
            | (refine CondP.yes ?_; conv => whnf)
            | (refine CondP.not ?_; conv => whnf)
            | ((first | refine CondP.dec (fun h => ?_) (fun h => ?_) | refine CondP.ndec (fun h => ?_) (fun h => ?_)) <;> first | (exfalso; first | omega | exact h (by assumption) | exact absurd h (by assumption)) | (conv => whnf))
            | (refine Both.mk ?_ ?_ <;> (conv => whnf))
            | (refine Keep.mk (by repeat' first | exact trivial | rfl | refine And.intro ?_ ?_) ?_; conv => whnf)
            | (refine And.intro (by first | decide | omega) ?_; conv => whnf)
            | fail
          refine CallP.cut (CallP.pure (h4 _) rfl ?_)
          rintro r ho m ⟨tt0, rfl, rfl, rfl, hft⟩
          exact ⟨⟨[(120, txV tt0), (0, ul c)], [], 19⟩, forgOf (by decide) ⟨rfl, rfl, trivial⟩, tail4 tt0 hft⟩
      · rw [putR, if_neg hv] at b1 b2
        refine CallP.is (b1 _) rfl ?_
        conv => whnf
        repeat' first
          | (refine CondP.yes ?_; conv => whnf)
          | (refine CondP.not ?_; conv => whnf)
          | ((first | refine CondP.dec (fun h => ?_) (fun h => ?_) | refine CondP.ndec (fun h => ?_) (fun h => ?_)) <;> first | (exfalso; first | omega | exact h (by assumption) | exact absurd h (by assumption)) | (conv => whnf))
          | (refine Both.mk ?_ ?_ <;> (conv => whnf))
          | (refine Keep.mk (by repeat' first | exact trivial | rfl | refine And.intro ?_ ?_) ?_; conv => whnf)
          | (refine And.intro (by first | decide | omega) ?_; conv => whnf)
          | fail
        refine CallP.pure (h3 _) rfl ?_
        rintro r ho m ⟨e, rfl, rfl, rfl, he, heu⟩
        have heL : (uvs e).length = e.length := by simp
        have d1 := fun n => implReadVar_ret e n heu (by omega)
        have d2 := fun n => specReadVar_ret e n heu (by omega)
        cases hr2 : rdV e with
        | none =>
          rw [rvC, hr2] at d1 d2
          dsimp only at d1 d2
          conv => whnf
          repeat' first
            | (refine CondP.yes ?_; conv => whnf)
            | (refine CondP.not ?_; conv => whnf)
            | ((first | refine CondP.dec (fun h => ?_) (fun h => ?_) | refine CondP.ndec (fun h => ?_) (fun h => ?_)) <;> first | (exfalso; first | omega | exact h (by assumption) | exact absurd h (by assumption)) | (conv => whnf))
            | (refine Both.mk ?_ ?_ <;> (conv => whnf))
            | (refine Keep.mk (by repeat' first | exact trivial | rfl | refine And.intro ?_ ?_) ?_; conv => whnf)
            | (refine And.intro (by first | decide | omega) ?_; conv => whnf)
            | fail
          refine CallP.is (d1 _) rfl ?_
          conv => whnf
          repeat' first
            | (refine CondP.yes ?_; conv => whnf)
            | (refine CondP.not ?_; conv => whnf)
            | ((first | refine CondP.dec (fun h => ?_) (fun h => ?_) | refine CondP.ndec (fun h => ?_) (fun h => ?_)) <;> first | (exfalso; first | omega | exact h (by assumption) | exact absurd h (by assumption)) | (conv => whnf))
            | (refine Both.mk ?_ ?_ <;> (conv => whnf))
            | (refine Keep.mk (by repeat' first | exact trivial | rfl | refine And.intro ?_ ?_) ?_; conv => whnf)
            | (refine And.intro (by first | decide | omega) ?_; conv => whnf)
            | fail
          refine CallQ.is (b2 _) rfl rfl ?_
          conv => whnf
          repeat' first
            | (refine CondP.yes ?_; conv => whnf)
            | (refine CondP.not ?_; conv => whnf)
            | ((first | refine CondP.dec (fun h => ?_) (fun h => ?_) | refine CondP.ndec (fun h => ?_) (fun h => ?_)) <;> first | (exfalso; first | omega | exact h (by assumption) | exact absurd h (by assumption)) | (conv => whnf))
            | (refine Both.mk ?_ ?_ <;> (conv => whnf))
            | (refine Keep.mk (by repeat' first | exact trivial | rfl | refine And.intro ?_ ?_) ?_; conv => whnf)
            | (refine And.intro (by first | decide | omega) ?_; conv => whnf)
            | fail
          try (refine CallQ.is (b3 _) rfl rfl ?_
               conv => whnf
               repeat' first
                 | (refine CondP.yes ?_; conv => whnf)
                 | (refine CondP.not ?_; conv => whnf)
                 | ((first | refine CondP.dec (fun h => ?_) (fun h => ?_) | refine CondP.ndec (fun h => ?_) (fun h => ?_)) <;> first | (exfalso; first | omega | exact h (by assumption) | exact absurd h (by assumption)) | (conv => whnf))
                 | (refine Both.mk ?_ ?_ <;> (conv => whnf))
                 | (refine Keep.mk (by repeat' first | exact trivial | rfl | refine And.intro ?_ ?_) ?_; conv => whnf)
                 | (refine And.intro (by first | decide | omega) ?_; conv => whnf)
                 | fail)
          refine CallQ.is (d2 _) rfl rfl ?_
          conv => whnf
          repeat' first
            | (refine CondP.yes ?_; conv => whnf)
            | (refine CondP.not ?_; conv => whnf)
            | ((first | refine CondP.dec (fun h => ?_) (fun h => ?_) | refine CondP.ndec (fun h => ?_) (fun h => ?_)) <;> first | (exfalso; first | omega | exact h (by assumption) | exact absurd h (by assumption)) | (conv => whnf))
            | (refine Both.mk ?_ ?_ <;> (conv => whnf))
            | (refine Keep.mk (by repeat' first | exact trivial | rfl | refine And.intro ?_ ?_) ?_; conv => whnf)
            | (refine And.intro (by first | decide | omega) ?_; conv => whnf)
            | fail
          refine CallP.cut (CallP.pure (h4 _) rfl ?_)
          rintro r ho m ⟨tt0, rfl, rfl, rfl, hft⟩
          exact ⟨⟨[(120, txV tt0), (0, ul c)], [], 19⟩, forgOf (by decide) ⟨rfl, rfl, trivial⟩, tail4 tt0 hft⟩
        | some xu =>
          obtain ⟨x, w⟩ := xu
          rw [rvC, hr2] at d1 d2
          dsimp only at d1 d2
          obtain ⟨g1, g2, g3⟩ := rdV_len hr2
          have hx := rdV_bd heu hr2
          have d3 := fun n => implPutVar_fr x n
          rw [putR, if_pos hx, rdV_put heu hr2] at d3
          conv => whnf
          repeat' first
            | (refine CondP.yes ?_; conv => whnf)
            | (refine CondP.not ?_; conv => whnf)
            | ((first | refine CondP.dec (fun h => ?_) (fun h => ?_) | refine CondP.ndec (fun h => ?_) (fun h => ?_)) <;> first | (exfalso; first | omega | exact h (by assumption) | exact absurd h (by assumption)) | (conv => whnf))
            | (refine Both.mk ?_ ?_ <;> (conv => whnf))
            | (refine Keep.mk (by repeat' first | exact trivial | rfl | refine And.intro ?_ ?_) ?_; conv => whnf)
            | (refine And.intro (by first | decide | omega) ?_; conv => whnf)
            | fail
          refine CallP.is (d1 _) rfl ?_
          conv => whnf
          repeat' first
            | (refine CondP.yes ?_; conv => whnf)
            | (refine CondP.not ?_; conv => whnf)
            | ((first | refine CondP.dec (fun h => ?_) (fun h => ?_) | refine CondP.ndec (fun h => ?_) (fun h => ?_)) <;> first | (exfalso; first | omega | exact h (by assumption) | exact absurd h (by assumption)) | (conv => whnf))
            | (refine Both.mk ?_ ?_ <;> (conv => whnf))
            | (refine Keep.mk (by repeat' first | exact trivial | rfl | refine And.intro ?_ ?_) ?_; conv => whnf)
            | (refine And.intro (by first | decide | omega) ?_; conv => whnf)
            | fail
          refine CallQ.is (b2 _) rfl rfl ?_
          conv => whnf
          repeat' first
            | (refine CondP.yes ?_; conv => whnf)
            | (refine CondP.not ?_; conv => whnf)
            | ((first | refine CondP.dec (fun h => ?_) (fun h => ?_) | refine CondP.ndec (fun h => ?_) (fun h => ?_)) <;> first | (exfalso; first | omega | exact h (by assumption) | exact absurd h (by assumption)) | (conv => whnf))
            | (refine Both.mk ?_ ?_ <;> (conv => whnf))
            | (refine Keep.mk (by repeat' first | exact trivial | rfl | refine And.intro ?_ ?_) ?_; conv => whnf)
            | (refine And.intro (by first | decide | omega) ?_; conv => whnf)
            | fail
          try (refine CallQ.is (b3 _) rfl rfl ?_
               conv => whnf
               repeat' first
                 | (refine CondP.yes ?_; conv => whnf)
                 | (refine CondP.not ?_; conv => whnf)
                 | ((first | refine CondP.dec (fun h => ?_) (fun h => ?_) | refine CondP.ndec (fun h => ?_) (fun h => ?_)) <;> first | (exfalso; first | omega | exact h (by assumption) | exact absurd h (by assumption)) | (conv => whnf))
                 | (refine Both.mk ?_ ?_ <;> (conv => whnf))
                 | (refine Keep.mk (by repeat' first | exact trivial | rfl | refine And.intro ?_ ?_) ?_; conv => whnf)
                 | (refine And.intro (by first | decide | omega) ?_; conv => whnf)
                 | fail)
          refine CallQ.is (d2 _) rfl rfl ?_
          conv => whnf
          repeat' first
            | (refine CondP.yes ?_; conv => whnf)
            | (refine CondP.not ?_; conv => whnf)
            | ((first | refine CondP.dec (fun h => ?_) (fun h => ?_) | refine CondP.ndec (fun h => ?_) (fun h => ?_)) <;> first | (exfalso; first | omega | exact h (by assumption) | exact absurd h (by assumption)) | (conv => whnf))
            | (refine Both.mk ?_ ?_ <;> (conv => whnf))
            | (refine Keep.mk (by repeat' first | exact trivial | rfl | refine And.intro ?_ ?_) ?_; conv => whnf)
            | (refine And.intro (by first | decide | omega) ?_; conv => whnf)
            | fail
          refine CallQ.is (d3 _) rfl rfl ?_
          conv => whnf
          repeat' first
            | (refine CondP.yes ?_; conv => whnf)
            | (refine CondP.not ?_; conv => whnf)
            | ((first | refine CondP.dec (fun h => ?_) (fun h => ?_) | refine CondP.ndec (fun h => ?_) (fun h => ?_)) <;> first | (exfalso; first | omega | exact h (by assumption) | exact absurd h (by assumption)) | (conv => whnf))
            | (refine Both.mk ?_ ?_ <;> (conv => whnf))
            | (refine Keep.mk (by repeat' first | exact trivial | rfl | refine And.intro ?_ ?_) ?_; conv => whnf)
            | (refine And.intro (by first | decide | omega) ?_; conv => whnf)
            | fail
          refine ⟨⟨trivial, bytes_uvs _⟩, ?_⟩
          conv => whnf
          repeat' first
            | (refine CondP.yes ?_; conv => whnf)
            | (refine CondP.not ?_; conv => whnf)
            | ((first | refine CondP.dec (fun h => ?_) (fun h => ?_) | refine CondP.ndec (fun h => ?_) (fun h => ?_)) <;> first | (exfalso; first | omega | exact h (by assumption) | exact absurd h (by assumption)) | (conv => whnf))
            | (refine Both.mk ?_ ?_ <;> (conv => whnf))
            | (refine Keep.mk (by repeat' first | exact trivial | rfl | refine And.intro ?_ ?_) ?_; conv => whnf)
            | (refine And.intro (by first | decide | omega) ?_; conv => whnf)
            | fail
          rw [cutU]
          refine ⟨⟨trivial, bytes_uvs _⟩, ?_⟩
          conv => whnf
          repeat' first
            | (refine CondP.yes ?_; conv => whnf)
            | (refine CondP.not ?_; conv => whnf)
            | ((first | refine CondP.dec (fun h => ?_) (fun h => ?_) | refine CondP.ndec (fun h => ?_) (fun h => ?_)) <;> first | (exfalso; first | omega | exact h (by assumption) | exact absurd h (by assumption)) | (conv => whnf))
            | (refine Both.mk ?_ ?_ <;> (conv => whnf))
            | (refine Keep.mk (by repeat' first | exact trivial | rfl | refine And.intro ?_ ?_) ?_; conv => whnf)
            | (refine And.intro (by first | decide | omega) ?_; conv => whnf)
            | fail
          rw [strSame _ _ rfl]
          first | refine CondP.not ?_ | refine CondP.yes ?_
          conv => whnf
          repeat' first
            | (refine CondP.yes ?_; conv => whnf)
            | (refine CondP.not ?_; conv => whnf)
            | ((first | refine CondP.dec (fun h => ?_) (fun h => ?_) | refine CondP.ndec (fun h => ?_) (fun h => ?_)) <;> first | (exfalso; first | omega | exact h (by assumption) | exact absurd h (by assumption)) | (conv => whnf))
            | (refine Both.mk ?_ ?_ <;> (conv => whnf))
            | (refine Keep.mk (by repeat' first | exact trivial | rfl | refine And.intro ?_ ?_) ?_; conv => whnf)
            | (refine And.intro (by first | decide | omega) ?_; conv => whnf)
            | fail
          refine CallP.cut (CallP.pure (h4 _) rfl ?_)
          rintro r ho m ⟨tt0, rfl, rfl, rfl, hft⟩
          exact ⟨⟨[(120, txV tt0), (0, ul c)], [], 19⟩, forgOf (by decide) ⟨rfl, rfl, trivial⟩, tail4 tt0 hft⟩
    · intro tt0 hft
      have q1 := fun n => implPackTx_fr tt0 n hft
      have q2 := fun n => specPackTx_fr tt0 n hft
      by_cases hz : faultC tt0 = 0
      · rw [packR, if_pos hz] at q1 q2
        have hk := fault_ok hz
        have hpl := packT_len hk
        have q4 := fun n => pack_read tt0 n hz
        have q5 := fun n => implSame_ret tt0 tt0 n hft
        rw [decide_eq_true rfl] at q5
        generalize packT tt0 = s0 at *
        have hsL : (uvs s0).length = s0.length := by simp
        conv => whnf
        repeat' first
          | (refine CondP.yes ?_; conv => whnf)
          | (refine CondP.not ?_; conv => whnf)
          | ((first | refine CondP.dec (fun h => ?_) (fun h => ?_) | refine CondP.ndec (fun h => ?_) (fun h => ?_)) <;> first | (exfalso; first | omega | exact h (by assumption) | exact absurd h (by assumption)) | (conv => whnf))
          | (refine Both.mk ?_ ?_ <;> (conv => whnf))
          | (refine Keep.mk (by repeat' first | exact trivial | rfl | refine And.intro ?_ ?_) ?_; conv => whnf)
          | (refine And.intro (by first | decide | omega) ?_; conv => whnf)
          | fail
        refine CallP.is (q1 _) rfl ?_
        conv => whnf
        repeat' first
          | (refine CondP.yes ?_; conv => whnf)
          | (refine CondP.not ?_; conv => whnf)
          | ((first | refine CondP.dec (fun h => ?_) (fun h => ?_) | refine CondP.ndec (fun h => ?_) (fun h => ?_)) <;> first | (exfalso; first | omega | exact h (by assumption) | exact absurd h (by assumption)) | (conv => whnf))
          | (refine Both.mk ?_ ?_ <;> (conv => whnf))
          | (refine Keep.mk (by repeat' first | exact trivial | rfl | refine And.intro ?_ ?_) ?_; conv => whnf)
          | (refine And.intro (by first | decide | omega) ?_; conv => whnf)
          | fail
        refine ⟨⟨by simp, by simp; omega, by simp [maxLen]; omega, trivial, fun r hr => row1 hr⟩, ?_⟩
        conv => whnf
        repeat' first
          | (refine CondP.yes ?_; conv => whnf)
          | (refine CondP.not ?_; conv => whnf)
          | ((first | refine CondP.dec (fun h => ?_) (fun h => ?_) | refine CondP.ndec (fun h => ?_) (fun h => ?_)) <;> first | (exfalso; first | omega | exact h (by assumption) | exact absurd h (by assumption)) | (conv => whnf))
          | (refine Both.mk ?_ ?_ <;> (conv => whnf))
          | (refine Keep.mk (by repeat' first | exact trivial | rfl | refine And.intro ?_ ?_) ?_; conv => whnf)
          | (refine And.intro (by first | decide | omega) ?_; conv => whnf)
          | fail
        refine ⟨⟨by simp, by simp; omega, by simp [maxLen]; omega, by simp, rowsB_ok rfl⟩, ?_⟩
        conv => whnf
        repeat' first
          | (refine CondP.yes ?_; conv => whnf)
          | (refine CondP.not ?_; conv => whnf)
          | ((first | refine CondP.dec (fun h => ?_) (fun h => ?_) | refine CondP.ndec (fun h => ?_) (fun h => ?_)) <;> first | (exfalso; first | omega | exact h (by assumption) | exact absurd h (by assumption)) | (conv => whnf))
          | (refine Both.mk ?_ ?_ <;> (conv => whnf))
          | (refine Keep.mk (by repeat' first | exact trivial | rfl | refine And.intro ?_ ?_) ?_; conv => whnf)
          | (refine And.intro (by first | decide | omega) ?_; conv => whnf)
          | fail
        refine CallP.give1 _ _ _ _ (uvs (s0 ++ [1, 2, 3])) rfl (leafO ?_) ?_ (q4 _) ?_
        · rw [List.take_of_length_le (by simp)]
          simp
        · simp
        rintro _ _ _ ⟨rfl, rfl, rfl⟩
        conv => whnf
        repeat' first
          | (refine CondP.yes ?_; conv => whnf)
          | (refine CondP.not ?_; conv => whnf)
          | ((first | refine CondP.dec (fun h => ?_) (fun h => ?_) | refine CondP.ndec (fun h => ?_) (fun h => ?_)) <;> first | (exfalso; first | omega | exact h (by assumption) | exact absurd h (by assumption)) | (conv => whnf))
          | (refine Both.mk ?_ ?_ <;> (conv => whnf))
          | (refine Keep.mk (by repeat' first | exact trivial | rfl | refine And.intro ?_ ?_) ?_; conv => whnf)
          | (refine And.intro (by first | decide | omega) ?_; conv => whnf)
          | fail
        refine CallP.is (q5 _) rfl ?_
        conv => whnf
        repeat' first
          | (refine CondP.yes ?_; conv => whnf)
          | (refine CondP.not ?_; conv => whnf)
          | ((first | refine CondP.dec (fun h => ?_) (fun h => ?_) | refine CondP.ndec (fun h => ?_) (fun h => ?_)) <;> first | (exfalso; first | omega | exact h (by assumption) | exact absurd h (by assumption)) | (conv => whnf))
          | (refine Both.mk ?_ ?_ <;> (conv => whnf))
          | (refine Keep.mk (by repeat' first | exact trivial | rfl | refine And.intro ?_ ?_) ?_; conv => whnf)
          | (refine And.intro (by first | decide | omega) ?_; conv => whnf)
          | fail
        all_goals repeat' first
          | refine CallP.is (q2 _) rfl ?_
            conv => whnf
            repeat' first
              | (refine CondP.yes ?_; conv => whnf)
              | (refine CondP.not ?_; conv => whnf)
              | ((first | refine CondP.dec (fun h => ?_) (fun h => ?_) | refine CondP.ndec (fun h => ?_) (fun h => ?_)) <;> first | (exfalso; first | omega | exact h (by assumption) | exact absurd h (by assumption)) | (conv => whnf))
              | (refine Both.mk ?_ ?_ <;> (conv => whnf))
              | (refine Keep.mk (by repeat' first | exact trivial | rfl | refine And.intro ?_ ?_) ?_; conv => whnf)
              | (refine And.intro (by first | decide | omega) ?_; conv => whnf)
              | fail
          | refine ⟨⟨trivial, bytes_uvs _⟩, ?_⟩
            conv => whnf
            repeat' first
              | (refine CondP.yes ?_; conv => whnf)
              | (refine CondP.not ?_; conv => whnf)
              | ((first | refine CondP.dec (fun h => ?_) (fun h => ?_) | refine CondP.ndec (fun h => ?_) (fun h => ?_)) <;> first | (exfalso; first | omega | exact h (by assumption) | exact absurd h (by assumption)) | (conv => whnf))
              | (refine Both.mk ?_ ?_ <;> (conv => whnf))
              | (refine Keep.mk (by repeat' first | exact trivial | rfl | refine And.intro ?_ ?_) ?_; conv => whnf)
              | (refine And.intro (by first | decide | omega) ?_; conv => whnf)
              | fail
          | exact FinOk.pure rfl rfl rfl (bvI (strSame _ _ rfl))
      · rw [packR, if_neg hz] at q1 q2
        have q3 := fun n => implTxFault_ret tt0 n hft.ins hft.outs
        generalize faultC tt0 = fc at *
        conv => whnf
        repeat' first
          | (refine CondP.yes ?_; conv => whnf)
          | (refine CondP.not ?_; conv => whnf)
          | ((first | refine CondP.dec (fun h => ?_) (fun h => ?_) | refine CondP.ndec (fun h => ?_) (fun h => ?_)) <;> first | (exfalso; first | omega | exact h (by assumption) | exact absurd h (by assumption)) | (conv => whnf))
          | (refine Both.mk ?_ ?_ <;> (conv => whnf))
          | (refine Keep.mk (by repeat' first | exact trivial | rfl | refine And.intro ?_ ?_) ?_; conv => whnf)
          | (refine And.intro (by first | decide | omega) ?_; conv => whnf)
          | fail
        refine CallP.is (q1 _) rfl ?_
        conv => whnf
        repeat' first
          | (refine CondP.yes ?_; conv => whnf)
          | (refine CondP.not ?_; conv => whnf)
          | ((first | refine CondP.dec (fun h => ?_) (fun h => ?_) | refine CondP.ndec (fun h => ?_) (fun h => ?_)) <;> first | (exfalso; first | omega | exact h (by assumption) | exact absurd h (by assumption)) | (conv => whnf))
          | (refine Both.mk ?_ ?_ <;> (conv => whnf))
          | (refine Keep.mk (by repeat' first | exact trivial | rfl | refine And.intro ?_ ?_) ?_; conv => whnf)
          | (refine And.intro (by first | decide | omega) ?_; conv => whnf)
          | fail
        refine CallQ.is (q2 _) rfl rfl ?_
        conv => whnf
        repeat' first
          | (refine CondP.yes ?_; conv => whnf)
          | (refine CondP.not ?_; conv => whnf)
          | ((first | refine CondP.dec (fun h => ?_) (fun h => ?_) | refine CondP.ndec (fun h => ?_) (fun h => ?_)) <;> first | (exfalso; first | omega | exact h (by assumption) | exact absurd h (by assumption)) | (conv => whnf))
          | (refine Both.mk ?_ ?_ <;> (conv => whnf))
          | (refine Keep.mk (by repeat' first | exact trivial | rfl | refine And.intro ?_ ?_) ?_; conv => whnf)
          | (refine And.intro (by first | decide | omega) ?_; conv => whnf)
          | fail
        refine CallQ.is (q3 _) rfl rfl ?_
        conv => whnf
        repeat' first
          | (refine CondP.yes ?_; conv => whnf)
          | (refine CondP.not ?_; conv => whnf)
          | ((first | refine CondP.dec (fun h => ?_) (fun h => ?_) | refine CondP.ndec (fun h => ?_) (fun h => ?_)) <;> first | (exfalso; first | omega | exact h (by assumption) | exact absurd h (by assumption)) | (conv => whnf))
          | (refine Both.mk ?_ ?_ <;> (conv => whnf))
          | (refine Keep.mk (by repeat' first | exact trivial | rfl | refine And.intro ?_ ?_) ?_; conv => whnf)
          | (refine And.intro (by first | decide | omega) ?_; conv => whnf)
          | fail
        exact FinOk.pure rfl rfl rfl (bvI (decide_eq_true rfl))
end Go.Proofs.Ytbghcndemghilaa
