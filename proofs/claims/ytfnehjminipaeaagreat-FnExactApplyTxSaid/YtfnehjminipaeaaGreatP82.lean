import Derived.Test.YtfnehjminipaeaaGreatP81
/-
  CHAPTER 5: ApplyTx, the specification's.
-/
namespace Go.Proofs.YtfnehjminipaeaaGreat
open Go Go.Am Go.RowKit
set_option linter.unusedVariables false
set_option linter.unusedSimpArgs false
theorem l5Copy_fr (l : List CoinD) (n : Nat) (hfc : FitsC l) : Ret Tryz.prog 89 [coinsV l] [] n true (Is (coinsV l) [] n) := Ret.frList (by simp) (l5Copy_ret l n hfc)
theorem l5Drop_fr (l : List CoinD) (k : Nat) (n : Nat) (hk : k < l.length) (hl : l.length ≤ 1048576) : Ret Tryz.prog 91 [coinsV l, iv k] [] n true (Is (coinsV (l.eraseIdx k)) [] n) := Ret.frList (by simp) (l5Drop_ret l k n hk hl)
theorem l5Put_fr (l : List CoinD) (c : CoinD) (n : Nat) (hl : l.length ≤ 1048576) : Ret Tryz.prog 92 [coinsV l, coinV c] [] n true (Is (coinsV (putC c l)) [] n) := Ret.frList (by simp) (l5Put_ret l c n hl)
abbrev coinsBad' (z : Int) : AV := .agg [iv z, iv 0, nl, nl]
theorem taken_vals (l : List CoinD) (t : TxD) : valsI l t.2.1 = valsC (takenC l t) := by
  unfold valsI valsC takenC
  rw [List.map_map]
  refine List.map_congr_left fun x _ => ?_
  unfold valAt
  show _ = ((atC l x.1 x.2.1).getD coin0).val
  cases atC l x.1 x.2.1 <;> rfl
theorem atI_erase {l : List CoinD} {t o : Int} {j : Nat} (e : atI l t o = j) : l.eraseIdx j = l.eraseP (keyB t o) := by
  rw [List.eraseP_eq_eraseIdx]
  show _ = match l.findIdx? (fun c => decide (c.tx = t ∧ c.out = o)) with | none => l | some i => l.eraseIdx i
  unfold atI at e
  cases hi : l.findIdx? (fun c => decide (c.tx = t ∧ c.out = o)) with
  | none => rw [hi] at e; dsimp only at e; omega
  | some k =>
    rw [hi] at e
    dsimp only at e
    obtain rfl : k = j := by omega
    rfl
theorem l5Bad_ret (z : Int) (n : Nat) : Ret Tryz.prog 87 [iv z] [] n true (Is (coinsBad' z) [] n) := by
  refine Ret.fn ttOk Tryz.func87 rfl Tryz.call87 rfl rfl ?_
  refine Goes ?_
  repeat' first | refine W2.m ?_ ?_ | refine W1.m fun h => ?_ | fail
  refine FinOk.pure rfl rfl rfl ⟨?_, rfl, rfl⟩
  rfl
def SpecQ (l : List CoinD) (t : TxD) (hg : Int) (i n T : Nat) : AV → Hp → Nat → Prop := fun r ho m =>
  (applyC l t hg ≠ 0 ∧ r = coinsBad' (applyC l t hg) ∧ ho = [(i, .box (txC t))] ∧ m = n) ∨
  (applyC l t hg = 0 ∧ r = .agg [iv 0, iv (feeC l t), .own n (takenC l t).length, coinsV (newC l t hg)] ∧ ho = [(i, .box (txC t)), (n, .list T 6 ((takenC l t).map coinRow))] ∧ m = n + 1)
set_option maxHeartbeats 2000000 in
theorem l5Apply_ret (l : List CoinD) (t : TxD) (hg : Int) (i n : Nat) (hfc : FitsC l) (hf : Fits t) (h0 : coinsC l = 0) (hz : faultC t = 0) (hh : inR 0 9999 hg) :
    Ret Tryz.prog 101 [coinsV l, .pt i 0 0, iv hg] [(i, .box (txC t))] n true (SpecQ l t hg i n 49) := by
  have hl := hfc.len
  have hok := fault_ok hz
  have hl1 := hok.2.1
  have hl2 := hok.2.2.1
  have hl40 := (coinsC_ok h0).1
  have hL : (l.map coinRow).length = l.length := by simp
  have hL1 : (t.2.1.map inRow).length = t.2.1.length := by simp
  have hL2 : (t.2.2.map outRow).length = t.2.2.length := by simp
  have hsum : ∀ i n, Ret Tryz.prog 88 [.pt i 0 0] [(i, .box (txC t))] n true (Is (iv (textOf t)) [(i, .box (txC t))] n) := fun i n => l3Sum_ret t i n hz
  have hspend := fun i n => l5Spend_ret l t hg i n hl h0 hz hh
  have hA0 : applyC l t hg = if ¬ t.2.1.length = 0 ∧ spendQ l t hg ≠ 0 then spendQ l t hg else if ((madeC t hg).any fun c => (atC l c.tx c.out).isSome) = true then 6 else coinsC (newC l t hg) := by
    unfold applyC; rw [if_neg (fun e => e h0), if_neg (fun e => e hz), if_neg (fun e => e hh)]
  have hany : ∀ b, ((madeC t hg).any fun c => (atC l c.tx c.out).isSome) = b ↔ (b = true ↔ ∃ j, j < t.2.2.length ∧ (atC l (textOf t) (j : Int)).isSome = true) := by
    intro b
    have h1 : ((madeC t hg).any fun c => (atC l c.tx c.out).isSome) = true ↔ ∃ j, j < t.2.2.length ∧ (atC l (textOf t) (j : Int)).isSome = true := by
      rw [List.any_eq_true]
      constructor
      · rintro ⟨c, hc, h⟩
        obtain ⟨k, hk, rfl⟩ := List.mem_iff_getElem.1 hc
        rw [madeC_len] at hk
        rw [madeC_at t hg k hk] at h
        exact ⟨k, hk, h⟩
      · rintro ⟨k, hk, h⟩
        refine ⟨(madeC t hg)[k]'(by rw [madeC_len]; exact hk), List.getElem_mem _, ?_⟩
        rw [madeC_at t hg k hk]; exact h
    rw [← h1]
    cases b <;> cases ((madeC t hg).any fun c => (atC l c.tx c.out).isSome) <;> simp
  refine Ret.of_run (tt := tt) ttOk Tryz.func101 rfl Tryz.call101 [i] [.box (txC t)] [coinsV l, .pt 0 0 0, iv hg] true n _ rfl (nodup1 i) (by exact Nat.le_of_ble_eq_true rfl) rfl rfl ?_
  by_cases hb : t.2.1.length = 0
  · have hns : ¬ (¬ t.2.1.length = 0 ∧ spendQ l t hg ≠ 0) := fun h => h.1 hb
    refine Goes ?_
    repeat' first | refine W2.m ?_ ?_ | refine W1.m fun h => ?_ | fail
    refine CallP.heapIs (hsum 0 _) rfl ktA rfl ?_
    refine Goes ?_
    repeat' first | refine W2.m ?_ ?_ | refine W1.m fun h => ?_ | fail
    rw [hL1]
    refine LoopP.go (fun k : Nat => k ≤ t.2.2.length ∧ ∀ j : Nat, j < k → atC l (textOf t) (j : Int) = none) (fun k => ⟨[(0, coinsV l), (1, .pt 0 0 0), (2, iv hg), (6, .pt 1 0 0), (7, bv (decide ((t.2.1.length : Int) = 0))), (9, iv (textOf t)), (10, iv k)], [(0, .box (txC t)), (1, .box [iv 0, iv 0, nl, nl])], 2⟩) (fun k => t.2.2.length - k) 0 ⟨Nat.zero_le _, fun j hj => by omega⟩ (Weak.of rfl rfl ktA ktA) ?_
    intro k ⟨hk, hno⟩
    by_cases hlt : k < t.2.2.length
    · refine Goes ?_
      repeat' first | refine W2.m ?_ ?_ | refine W1.m fun h => ?_ | fail
      have hat := fun n => l5AtI_ret l (textOf t) (k : Int) n hl
      rcases atI_cases l (textOf t) (k : Int) with ⟨j, hj, e1, e2⟩ | ⟨e1, e2⟩
      · rw [e1] at hat
        have hA : applyC l t hg = 6 := by rw [hA0, if_neg hns, if_pos ((hany true).2 (iff_of_true rfl ⟨k, hlt, by rw [e2]; rfl⟩))]
        first | refine CallP.is (hat _) rfl ?_ | refine CallQ.is (hat _) rfl rfl ?_
        refine Goes ?_
        repeat' first | refine W2.m ?_ ?_ | refine W1.m fun h => ?_ | fail
        first | refine CallP.is (l5Bad_ret _ _) rfl ?_ | refine CallQ.is (l5Bad_ret _ _) rfl rfl ?_
        refine Goes ?_
        repeat' first | refine W2.m ?_ ?_ | refine W1.m fun h => ?_ | fail
        refine FinOk.mk' [] rfl rfl rfl rfl rfl rfl rfl (.inl ⟨by rw [hA]; decide, ?_, rfl, rfl⟩)
        rw [hA]; rfl
      · rw [e1] at hat
        first | refine CallP.is (hat _) rfl ?_ | refine CallQ.is (hat _) rfl rfl ?_
        refine Goes ?_
        repeat' first | refine W2.m ?_ ?_ | refine W1.m fun h => ?_ | fail
        exact ⟨k + 1, ⟨by omega, fun j hj => by
          by_cases e : j = k
          · rw [e]; exact e2
          · exact hno j (by omega)⟩, by omega, (Weak.of rfl rfl ktA ktA)⟩
    · obtain rfl : k = t.2.2.length := by omega
      have ha : ((madeC t hg).any fun c => (atC l c.tx c.out).isSome) = false := (hany false).2 (iff_of_false (by decide) fun ⟨j, hj, e⟩ => by rw [hno j hj] at e; cases e)
      have hA : applyC l t hg = coinsC (newC l t hg) := by rw [hA0, if_neg hns, if_neg (by rw [ha]; decide)]
      have hins := spendQ_ins hns
      have hnl := newC_len (hg := hg) hz hins
      have hco := newC_code h0 hz hh ha
      have w1 : IntKind.i64.wrap ((l.length : Int) - t.2.1.length) = l.length - t.2.1.length := IntWalk.i64_in _ (by omega)
      have w2 : IntKind.i64.wrap (IntKind.i64.wrap ((l.length : Int) - t.2.1.length) + t.2.2.length) = ((newC l t hg).length : Nat) := by rw [w1, IntWalk.i64_in _ (by omega)]; omega
      have w3 : IntKind.i64.wrap (IntKind.i64.wrap (((l.map coinRow).length : Int) - (t.2.1.map inRow).length) + (t.2.2.map outRow).length) = ((newC l t hg).length : Nat) := by rw [hL, hL1, hL2]; exact w2
      by_cases hmany : 40 < (newC l t hg).length
      · rw [if_pos hmany] at hco
        refine Goes ?_
        repeat' first | refine W2.m ?_ ?_ | refine W1.m fun h => ?_ | fail
        first | refine CallP.is (l5Bad_ret _ _) rfl ?_ | refine CallQ.is (l5Bad_ret _ _) rfl rfl ?_
        refine Goes ?_
        repeat' first | refine W2.m ?_ ?_ | refine W1.m fun h => ?_ | fail
        refine FinOk.mk' [] rfl rfl rfl rfl rfl rfl rfl (.inl ⟨by rw [hA, hco]; decide, ?_, rfl, rfl⟩)
        rw [hA, hco]; rfl
      · rw [if_neg hmany] at hco
        refine Goes ?_
        repeat' first | refine W2.m ?_ ?_ | refine W1.m fun h => ?_ | fail
        first | refine CallP.is (l5Copy_fr l _ hfc) rfl ?_ | refine CallQ.is (l5Copy_fr l _ hfc) rfl rfl ?_
        refine Goes ?_
        repeat' first | refine W2.m ?_ ?_ | refine W1.m fun h => ?_ | fail
        have hlr : ∀ k, (restE l (t.2.1.take k)).length ≤ l.length := fun k => (restE_sub _ _).length_le
        have hfr : ∀ k, FitsC (restE l (t.2.1.take k)) := fun k => ⟨Nat.le_trans (hlr k) hl, fun c hc => hfc.locks c ((restE_sub _ _).subset hc)⟩
        have htl := takenC_len l t
        rw [hL1]
        refine LoopP.go (fun k : Nat => k ≤ t.2.1.length) (fun k => ⟨[(1, .pt 0 0 0), (2, iv hg), (6, .pt 1 0 0), (7, bv (decide ((t.2.1.length : Int) = 0))), (9, iv (textOf t)), (11, .pt 2 0 0), (12, iv k)], [(3, .list 49 6 (((takenC l t).take k).map coinRow)), (2, .box [iv 0, iv 0, .own 3 k, coinsV (restE l (t.2.1.take k))]), (1, .box [iv 0, iv 0, nl, nl]), (0, .box (txC t))], 4⟩) (fun k => t.2.1.length - k) 0 (Nat.zero_le _) ?_ ?_
        · refine Weak.trans (Weak.name 2 2 49 6 _ (by decide) rfl rfl) ?_
          exact (Weak.of rfl rfl ktA ktA)
        intro k hk
        have hrL : ((restE l (t.2.1.take k)).map coinRow).length = (restE l (t.2.1.take k)).length := by simp
        by_cases hlt2 : k < t.2.1.length
        · first
          | exfalso; omega
          | refine Goes ?_
            repeat' first | refine W2.m ?_ ?_ | refine W1.m fun h => ?_ | fail
            have hat := fun n => l5AtI_ret (restE l (t.2.1.take k)) t.2.1[k].1 t.2.1[k].2.1 n (hfr k).len
            rw [rowK inRow t.2.1 k hlt2]
            refine ⟨by rw [hL1]; exact ⟨by omega, by omega, rfl⟩, ?_⟩
            refine Goes ?_
            repeat' first | refine W2.m ?_ ?_ | refine W1.m fun h => ?_ | fail
            rw [rowK inRow t.2.1 k hlt2]
            refine ⟨by rw [hL1]; exact ⟨by omega, by omega, rfl⟩, ?_⟩
            refine Goes ?_
            repeat' first | refine W2.m ?_ ?_ | refine W1.m fun h => ?_ | fail
            obtain ⟨hkc, hck⟩ : ∃ h : k < (takenC l t).length, atC (restE l (t.2.1.take k)) t.2.1[k].1 t.2.1[k].2.1 = some (takenC l t)[k] := ⟨by omega, by rw [takenC_at hz hins k hlt2, List.getElem?_eq_getElem]⟩
            have hrk := hlr k
            rcases atI_cases (restE l (t.2.1.take k)) t.2.1[k].1 t.2.1[k].2.1 with ⟨j, hj, e1, e2⟩ | ⟨e1, e2⟩
            · rw [e1] at hat
              have hcj : (restE l (t.2.1.take k))[j] = (takenC l t)[k] := Option.some.inj (e2.symm.trans hck)
              have her := atI_erase e1
              have hpc : pCoin (takenC l t)[k] ≤ 1048576 := by rw [← hcj]; exact (hfr k).locks _ (List.getElem_mem hj)
              have hdr := fun n => l5Drop_fr (restE l (t.2.1.take k)) j n hj (hfr k).len
              rw [her, ← restE_succ l t.2.1 k hlt2] at hdr
              first | refine CallQ.is (hat _) rfl rfl ?_ | refine CallP.is (hat _) rfl ?_
              refine Goes ?_
              repeat' first | refine W2.m ?_ ?_ | refine W1.m fun h => ?_ | fail
              rw [rowK coinRow _ j hj, hcj]
              refine ⟨by rw [hrL]; exact ⟨by omega, by omega, rfl⟩, ?_⟩
              refine Goes ?_
              repeat' first | refine W2.m ?_ ?_ | refine W1.m fun h => ?_ | fail
              first | refine CallQ.is (l5CopyCoin_fr (takenC l t)[k] _ hpc) rfl rfl ?_ | refine CallP.is (l5CopyCoin_fr (takenC l t)[k] _ hpc) rfl ?_
              refine Goes ?_
              repeat' first | refine W2.m ?_ ?_ | refine W1.m fun h => ?_ | fail
              refine ⟨⟨by simp; omega, by show (k + 1) * 64 ≤ _; omega, by show k + 1 ≤ _; unfold maxLen; omega, True.intro, fun r hr => by rw [List.mem_singleton.1 (List.mem_of_mem_take hr)]; rfl⟩, ?_⟩
              refine Goes ?_
              repeat' first | refine W2.m ?_ ?_ | refine W1.m fun h => ?_ | fail
              first | refine CallQ.is (hdr _) rfl rfl ?_ | refine CallP.is (hdr _) rfl ?_
              refine Goes ?_
              repeat' first | refine W2.m ?_ ?_ | refine W1.m fun h => ?_ | fail
              refine ⟨k + 1, by omega, by omega, Weak.of rfl rfl ⟨⟨rfl, rfl⟩, ⟨rfl, rfl⟩, ⟨rfl, rfl⟩, ⟨rfl, rfl⟩, ⟨rfl, rfl⟩, ⟨rfl, rfl⟩, ⟨leafI numA, rfl⟩, trivial⟩ ⟨⟨leafO ?_, rfl, rfl⟩, ⟨rfl, rfl, rfl⟩, ⟨rfl, rfl, rfl⟩, ⟨rfl, rfl, rfl⟩, trivial⟩⟩
              rw [takeS (takenC l t) k hkc, List.map_append, List.take_of_length_le (by simp; omega)]; rfl
            · rw [e2] at hck; cases hck
        · obtain rfl : k = t.2.1.length := by omega
          refine Goes ?_
          repeat' first | refine W2.m ?_ ?_ | refine W1.m fun h => ?_ | fail
          have hT1 : t.2.1.take t.2.1.length = t.2.1 := List.take_length
          have hT2 : (takenC l t).take t.2.1.length = takenC l t := by rw [← htl, List.take_length]
          rw [hT1, hT2]
          refine LoopP.go (fun k : Nat => k ≤ t.2.2.length) (fun k => ⟨[(1, .pt 0 0 0), (2, iv hg), (6, .pt 1 0 0), (7, bv (decide ((t.2.1.length : Int) = 0))), (9, iv (textOf t)), (11, .pt 2 0 0), (14, iv k)], [(3, .list 49 6 ((takenC l t).map coinRow)), (2, .box [iv 0, iv 0, .own 3 t.2.1.length, coinsV (putsC (restE l t.2.1) ((madeC t hg).take k))]), (1, .box [iv 0, iv 0, nl, nl]), (0, .box (txC t))], 4⟩) (fun k => t.2.2.length - k) 0 (Nat.zero_le _) (Weak.of rfl rfl ktA ktA) ?_
          intro k hk3
          by_cases hlt3 : k < t.2.2.length
          · refine Goes ?_
            repeat' first | refine W2.m ?_ ?_ | refine W1.m fun h => ?_ | fail
            have hkm : k < (madeC t hg).length := by rw [madeC_len]; exact hlt3
            have hmk := madeC_at t hg k hlt3
            have hput : putsC (restE l t.2.1) ((madeC t hg).take (k + 1)) = putC ⟨textOf t, k, t.2.2[k].1, t.2.2[k].2, hg, decide (t.2.1.length = 0)⟩ (putsC (restE l t.2.1) ((madeC t hg).take k)) := by
              rw [takeS _ k hkm, ← hmk]; unfold putsC; rw [List.foldl_append]; rfl
            have hpl : (putsC (restE l t.2.1) ((madeC t hg).take k)).length ≤ 1048576 := by
              have h1 := (putsC_perm ((madeC t hg).take k) (restE l t.2.1)).length_eq
              have h2 := (restE_sub t.2.1 l).length_le
              rw [List.length_append, List.length_take] at h1
              omega
            have hlk : t.2.2[k].2.length ≤ 1048576 := hf.locks _ (List.getElem_mem hlt3)
            have hints := fun n => Ret.frList (by simp) (l1Ints_ret t.2.2[k].2 n hlk)
            have hputr := fun n => l5Put_fr (putsC (restE l t.2.1) ((madeC t hg).take k)) ⟨textOf t, k, t.2.2[k].1, t.2.2[k].2, hg, decide (t.2.1.length = 0)⟩ n hpl
            rw [← hput] at hputr
            have hdec : decide ((t.2.1.length : Int) = 0) = decide (t.2.1.length = 0) := by simp
            rw [hdec]
            rw [rowK outRow t.2.2 k hlt3]
            refine ⟨by rw [hL2]; exact ⟨by omega, by omega, rfl⟩, ?_⟩
            refine Goes ?_
            repeat' first | refine W2.m ?_ ?_ | refine W1.m fun h => ?_ | fail
            rw [rowK outRow t.2.2 k hlt3]
            refine ⟨by rw [hL2]; exact ⟨by omega, by omega, rfl⟩, ?_⟩
            refine Goes ?_
            repeat' first | refine W2.m ?_ ?_ | refine W1.m fun h => ?_ | fail
            refine CallN.is rfl (hints) ?_
            refine Goes ?_
            repeat' first | refine W2.m ?_ ?_ | refine W1.m fun h => ?_ | fail
            first | refine CallP.is (hputr _) rfl ?_ | refine CallQ.is (hputr _) rfl rfl ?_
            refine Goes ?_
            repeat' first | refine W2.m ?_ ?_ | refine W1.m fun h => ?_ | fail
            refine ⟨k + 1, by omega, by omega, Weak.of rfl rfl ⟨⟨rfl, rfl⟩, ⟨rfl, rfl⟩, ⟨rfl, rfl⟩, ⟨rfl, rfl⟩, ⟨rfl, rfl⟩, ⟨rfl, rfl⟩, ⟨leafI numA, rfl⟩, trivial⟩ ⟨⟨rfl, rfl, rfl⟩, ⟨rfl, rfl, rfl⟩, ⟨rfl, rfl, rfl⟩, ⟨rfl, rfl, rfl⟩, trivial⟩⟩
          · obtain rfl : k = t.2.2.length := by omega
            have hT3 : (madeC t hg).take t.2.2.length = madeC t hg := by rw [← madeC_len t hg, List.take_length]
            rw [hT3]
            have hfn : (newC l t hg).length ≤ 1048576 := by omega
            have hflt := fun n => l5Fault_ret (newC l t hg) n hfn
            by_cases hin : inR 0 1000000 (sumV (valsC (newC l t hg)))
            · rw [if_pos hin] at hco
              rw [hco] at hflt
              rw [hco] at hA
              refine Goes ?_
              repeat' first | refine W2.m ?_ ?_ | refine W1.m fun h => ?_ | fail
              first | refine CallP.is (hflt _) rfl ?_ | refine CallQ.is (hflt _) rfl rfl ?_
              refine Goes ?_
              repeat' first | refine W2.m ?_ ?_ | refine W1.m fun h => ?_ | fail
              first
              | (refine FinOk.mk' [3] rfl rfl rfl rfl rfl rfl rfl (.inr ⟨hA, ?_, ?_, rfl⟩)
                 · have hfee : feeC l t = 0 := by unfold feeC; rw [if_pos (by omega)]
                   rw [hfee, htl]; rfl
                 · rfl)
              | (have hv : ∀ z ∈ valsC (takenC l t), inR 0 1000000 z := fun z hz' => by
                   obtain ⟨c, hc, rfl⟩ := List.mem_map.1 hz'
                   exact cgC_vals _ _ (coinsC_ok h0).2.1 _ (List.mem_map.2 ⟨c, takenC_mem hins hc, rfl⟩)
                 have hvI : valsI l t.2.1 = valsC (takenC l t) := taken_vals l t
                 have hb1 := sumV_toC 1000000 (valsC (takenC l t)) hv (valsC (takenC l t)).length (Nat.le_refl _)
                 have hb2 := sumV_toC 2147483646 (valsO t.2.2) (fun z hz => by obtain ⟨y, hy, rfl⟩ := List.mem_map.1 hz; exact (hok.2.2.2.2 y hy).1) (valsO t.2.2).length (Nat.le_refl _)
                 rw [List.take_length] at hb1 hb2
                 have hl5 : (valsC (takenC l t)).length = t.2.1.length := by simp [htl]
                 have hl6 : (valsO t.2.2).length = t.2.2.length := by simp
                 rw [hl5] at hb1
                 rw [hl6] at hb2
                 have w9 : IntKind.i64.wrap (sumV (valsC (takenC l t)) - sumV (valsO t.2.2)) = feeC l t := by
                   rw [IntWalk.i64_in _ (by omega)]; unfold feeC; rw [if_neg (by omega), hvI]
                 refine CallP.convAIs (l5Worth_ret (takenC l t) _ (by omega) hv) ⟨cvOwn rfl (by simp [htl]), trivial⟩ rfl trivial ?_
                 refine Goes ?_
                 repeat' first | refine W2.m ?_ ?_ | refine W1.m fun h => ?_ | fail
                 refine CallP.heapIs (l5Outs_ret t 0 _ hok) rfl ktA rfl ?_
                 refine Goes ?_
                 repeat' first | refine W2.m ?_ ?_ | refine W1.m fun h => ?_ | fail
                 refine FinOk.mk' [3] rfl rfl rfl rfl rfl rfl rfl (.inr ⟨hA, ?_, ?_, rfl⟩)
                 · rw [← w9, htl]; rfl
                 · rfl)
            · rw [if_neg hin] at hco
              rw [hco] at hflt
              rw [hco] at hA
              refine Goes ?_
              repeat' first | refine W2.m ?_ ?_ | refine W1.m fun h => ?_ | fail
              first | refine CallP.is (hflt _) rfl ?_ | refine CallQ.is (hflt _) rfl rfl ?_
              refine Goes ?_
              repeat' first | refine W2.m ?_ ?_ | refine W1.m fun h => ?_ | fail
              first | refine CallP.is (l5Bad_ret _ _) rfl ?_ | refine CallQ.is (l5Bad_ret _ _) rfl rfl ?_
              refine Goes ?_
              repeat' first | refine W2.m ?_ ?_ | refine W1.m fun h => ?_ | fail
              refine FinOk.mk' [] rfl rfl rfl rfl rfl rfl rfl (.inl ⟨by rw [hA]; decide, ?_, rfl, rfl⟩)
              rw [hA]; rfl
  · simp only [if_neg hb] at hspend
    by_cases hs : spendQ l t hg = 0
    · have hns : ¬ (¬ t.2.1.length = 0 ∧ spendQ l t hg ≠ 0) := fun h => h.2 hs
      refine Goes ?_
      repeat' first | refine W2.m ?_ ?_ | refine W1.m fun h => ?_ | fail
      refine CallP.heapIs (hspend 0 _) rfl ktA rfl ?_
      refine Goes ?_
      repeat' first | refine W2.m ?_ ?_ | refine W1.m fun h => ?_ | fail
      refine CallP.heapIs (hsum 0 _) rfl ktA rfl ?_
      refine Goes ?_
      repeat' first | refine W2.m ?_ ?_ | refine W1.m fun h => ?_ | fail
      rw [hL1]
      refine LoopP.go (fun k : Nat => k ≤ t.2.2.length ∧ ∀ j : Nat, j < k → atC l (textOf t) (j : Int) = none) (fun k => ⟨[(0, coinsV l), (1, .pt 0 0 0), (2, iv hg), (6, .pt 1 0 0), (7, bv (decide ((t.2.1.length : Int) = 0))), (9, iv (textOf t)), (10, iv k)], [(0, .box (txC t)), (1, .box [iv 0, iv 0, nl, nl])], 2⟩) (fun k => t.2.2.length - k) 0 ⟨Nat.zero_le _, fun j hj => by omega⟩ (Weak.of rfl rfl ktA ktA) ?_
      intro k ⟨hk, hno⟩
      by_cases hlt : k < t.2.2.length
      · refine Goes ?_
        repeat' first | refine W2.m ?_ ?_ | refine W1.m fun h => ?_ | fail
        have hat := fun n => l5AtI_ret l (textOf t) (k : Int) n hl
        rcases atI_cases l (textOf t) (k : Int) with ⟨j, hj, e1, e2⟩ | ⟨e1, e2⟩
        · rw [e1] at hat
          have hA : applyC l t hg = 6 := by rw [hA0, if_neg hns, if_pos ((hany true).2 (iff_of_true rfl ⟨k, hlt, by rw [e2]; rfl⟩))]
          first | refine CallP.is (hat _) rfl ?_ | refine CallQ.is (hat _) rfl rfl ?_
          refine Goes ?_
          repeat' first | refine W2.m ?_ ?_ | refine W1.m fun h => ?_ | fail
          first | refine CallP.is (l5Bad_ret _ _) rfl ?_ | refine CallQ.is (l5Bad_ret _ _) rfl rfl ?_
          refine Goes ?_
          repeat' first | refine W2.m ?_ ?_ | refine W1.m fun h => ?_ | fail
          refine FinOk.mk' [] rfl rfl rfl rfl rfl rfl rfl (.inl ⟨by rw [hA]; decide, ?_, rfl, rfl⟩)
          rw [hA]; rfl
        · rw [e1] at hat
          first | refine CallP.is (hat _) rfl ?_ | refine CallQ.is (hat _) rfl rfl ?_
          refine Goes ?_
          repeat' first | refine W2.m ?_ ?_ | refine W1.m fun h => ?_ | fail
          exact ⟨k + 1, ⟨by omega, fun j hj => by
            by_cases e : j = k
            · rw [e]; exact e2
            · exact hno j (by omega)⟩, by omega, (Weak.of rfl rfl ktA ktA)⟩
      · obtain rfl : k = t.2.2.length := by omega
        have ha : ((madeC t hg).any fun c => (atC l c.tx c.out).isSome) = false := (hany false).2 (iff_of_false (by decide) fun ⟨j, hj, e⟩ => by rw [hno j hj] at e; cases e)
        have hA : applyC l t hg = coinsC (newC l t hg) := by rw [hA0, if_neg hns, if_neg (by rw [ha]; decide)]
        have hins := spendQ_ins hns
        have hnl := newC_len (hg := hg) hz hins
        have hco := newC_code h0 hz hh ha
        have w1 : IntKind.i64.wrap ((l.length : Int) - t.2.1.length) = l.length - t.2.1.length := IntWalk.i64_in _ (by omega)
        have w2 : IntKind.i64.wrap (IntKind.i64.wrap ((l.length : Int) - t.2.1.length) + t.2.2.length) = ((newC l t hg).length : Nat) := by rw [w1, IntWalk.i64_in _ (by omega)]; omega
        have w3 : IntKind.i64.wrap (IntKind.i64.wrap (((l.map coinRow).length : Int) - (t.2.1.map inRow).length) + (t.2.2.map outRow).length) = ((newC l t hg).length : Nat) := by rw [hL, hL1, hL2]; exact w2
        by_cases hmany : 40 < (newC l t hg).length
        · rw [if_pos hmany] at hco
          refine Goes ?_
          repeat' first | refine W2.m ?_ ?_ | refine W1.m fun h => ?_ | fail
          first | refine CallP.is (l5Bad_ret _ _) rfl ?_ | refine CallQ.is (l5Bad_ret _ _) rfl rfl ?_
          refine Goes ?_
          repeat' first | refine W2.m ?_ ?_ | refine W1.m fun h => ?_ | fail
          refine FinOk.mk' [] rfl rfl rfl rfl rfl rfl rfl (.inl ⟨by rw [hA, hco]; decide, ?_, rfl, rfl⟩)
          rw [hA, hco]; rfl
        · rw [if_neg hmany] at hco
          refine Goes ?_
          repeat' first | refine W2.m ?_ ?_ | refine W1.m fun h => ?_ | fail
          first | refine CallP.is (l5Copy_fr l _ hfc) rfl ?_ | refine CallQ.is (l5Copy_fr l _ hfc) rfl rfl ?_
          refine Goes ?_
          repeat' first | refine W2.m ?_ ?_ | refine W1.m fun h => ?_ | fail
          have hlr : ∀ k, (restE l (t.2.1.take k)).length ≤ l.length := fun k => (restE_sub _ _).length_le
          have hfr : ∀ k, FitsC (restE l (t.2.1.take k)) := fun k => ⟨Nat.le_trans (hlr k) hl, fun c hc => hfc.locks c ((restE_sub _ _).subset hc)⟩
          have htl := takenC_len l t
          rw [hL1]
          refine LoopP.go (fun k : Nat => k ≤ t.2.1.length) (fun k => ⟨[(1, .pt 0 0 0), (2, iv hg), (6, .pt 1 0 0), (7, bv (decide ((t.2.1.length : Int) = 0))), (9, iv (textOf t)), (11, .pt 2 0 0), (12, iv k)], [(3, .list 49 6 (((takenC l t).take k).map coinRow)), (2, .box [iv 0, iv 0, .own 3 k, coinsV (restE l (t.2.1.take k))]), (1, .box [iv 0, iv 0, nl, nl]), (0, .box (txC t))], 4⟩) (fun k => t.2.1.length - k) 0 (Nat.zero_le _) ?_ ?_
          · refine Weak.trans (Weak.name 2 2 49 6 _ (by decide) rfl rfl) ?_
            exact (Weak.of rfl rfl ktA ktA)
          intro k hk
          have hrL : ((restE l (t.2.1.take k)).map coinRow).length = (restE l (t.2.1.take k)).length := by simp
          by_cases hlt2 : k < t.2.1.length
          · first
            | exfalso; omega
            | refine Goes ?_
              repeat' first | refine W2.m ?_ ?_ | refine W1.m fun h => ?_ | fail
              have hat := fun n => l5AtI_ret (restE l (t.2.1.take k)) t.2.1[k].1 t.2.1[k].2.1 n (hfr k).len
              rw [rowK inRow t.2.1 k hlt2]
              refine ⟨by rw [hL1]; exact ⟨by omega, by omega, rfl⟩, ?_⟩
              refine Goes ?_
              repeat' first | refine W2.m ?_ ?_ | refine W1.m fun h => ?_ | fail
              rw [rowK inRow t.2.1 k hlt2]
              refine ⟨by rw [hL1]; exact ⟨by omega, by omega, rfl⟩, ?_⟩
              refine Goes ?_
              repeat' first | refine W2.m ?_ ?_ | refine W1.m fun h => ?_ | fail
              obtain ⟨hkc, hck⟩ : ∃ h : k < (takenC l t).length, atC (restE l (t.2.1.take k)) t.2.1[k].1 t.2.1[k].2.1 = some (takenC l t)[k] := ⟨by omega, by rw [takenC_at hz hins k hlt2, List.getElem?_eq_getElem]⟩
              have hrk := hlr k
              rcases atI_cases (restE l (t.2.1.take k)) t.2.1[k].1 t.2.1[k].2.1 with ⟨j, hj, e1, e2⟩ | ⟨e1, e2⟩
              · rw [e1] at hat
                have hcj : (restE l (t.2.1.take k))[j] = (takenC l t)[k] := Option.some.inj (e2.symm.trans hck)
                have her := atI_erase e1
                have hpc : pCoin (takenC l t)[k] ≤ 1048576 := by rw [← hcj]; exact (hfr k).locks _ (List.getElem_mem hj)
                have hdr := fun n => l5Drop_fr (restE l (t.2.1.take k)) j n hj (hfr k).len
                rw [her, ← restE_succ l t.2.1 k hlt2] at hdr
                first | refine CallQ.is (hat _) rfl rfl ?_ | refine CallP.is (hat _) rfl ?_
                refine Goes ?_
                repeat' first | refine W2.m ?_ ?_ | refine W1.m fun h => ?_ | fail
                rw [rowK coinRow _ j hj, hcj]
                refine ⟨by rw [hrL]; exact ⟨by omega, by omega, rfl⟩, ?_⟩
                refine Goes ?_
                repeat' first | refine W2.m ?_ ?_ | refine W1.m fun h => ?_ | fail
                first | refine CallQ.is (l5CopyCoin_fr (takenC l t)[k] _ hpc) rfl rfl ?_ | refine CallP.is (l5CopyCoin_fr (takenC l t)[k] _ hpc) rfl ?_
                refine Goes ?_
                repeat' first | refine W2.m ?_ ?_ | refine W1.m fun h => ?_ | fail
                refine ⟨⟨by simp; omega, by show (k + 1) * 64 ≤ _; omega, by show k + 1 ≤ _; unfold maxLen; omega, True.intro, fun r hr => by rw [List.mem_singleton.1 (List.mem_of_mem_take hr)]; rfl⟩, ?_⟩
                refine Goes ?_
                repeat' first | refine W2.m ?_ ?_ | refine W1.m fun h => ?_ | fail
                first | refine CallQ.is (hdr _) rfl rfl ?_ | refine CallP.is (hdr _) rfl ?_
                refine Goes ?_
                repeat' first | refine W2.m ?_ ?_ | refine W1.m fun h => ?_ | fail
                refine ⟨k + 1, by omega, by omega, Weak.of rfl rfl ⟨⟨rfl, rfl⟩, ⟨rfl, rfl⟩, ⟨rfl, rfl⟩, ⟨rfl, rfl⟩, ⟨rfl, rfl⟩, ⟨rfl, rfl⟩, ⟨leafI numA, rfl⟩, trivial⟩ ⟨⟨leafO ?_, rfl, rfl⟩, ⟨rfl, rfl, rfl⟩, ⟨rfl, rfl, rfl⟩, ⟨rfl, rfl, rfl⟩, trivial⟩⟩
                rw [takeS (takenC l t) k hkc, List.map_append, List.take_of_length_le (by simp; omega)]; rfl
              · rw [e2] at hck; cases hck
          · obtain rfl : k = t.2.1.length := by omega
            refine Goes ?_
            repeat' first | refine W2.m ?_ ?_ | refine W1.m fun h => ?_ | fail
            have hT1 : t.2.1.take t.2.1.length = t.2.1 := List.take_length
            have hT2 : (takenC l t).take t.2.1.length = takenC l t := by rw [← htl, List.take_length]
            rw [hT1, hT2]
            refine LoopP.go (fun k : Nat => k ≤ t.2.2.length) (fun k => ⟨[(1, .pt 0 0 0), (2, iv hg), (6, .pt 1 0 0), (7, bv (decide ((t.2.1.length : Int) = 0))), (9, iv (textOf t)), (11, .pt 2 0 0), (14, iv k)], [(3, .list 49 6 ((takenC l t).map coinRow)), (2, .box [iv 0, iv 0, .own 3 t.2.1.length, coinsV (putsC (restE l t.2.1) ((madeC t hg).take k))]), (1, .box [iv 0, iv 0, nl, nl]), (0, .box (txC t))], 4⟩) (fun k => t.2.2.length - k) 0 (Nat.zero_le _) (Weak.of rfl rfl ktA ktA) ?_
            intro k hk3
            by_cases hlt3 : k < t.2.2.length
            · refine Goes ?_
              repeat' first | refine W2.m ?_ ?_ | refine W1.m fun h => ?_ | fail
              have hkm : k < (madeC t hg).length := by rw [madeC_len]; exact hlt3
              have hmk := madeC_at t hg k hlt3
              have hput : putsC (restE l t.2.1) ((madeC t hg).take (k + 1)) = putC ⟨textOf t, k, t.2.2[k].1, t.2.2[k].2, hg, decide (t.2.1.length = 0)⟩ (putsC (restE l t.2.1) ((madeC t hg).take k)) := by
                rw [takeS _ k hkm, ← hmk]; unfold putsC; rw [List.foldl_append]; rfl
              have hpl : (putsC (restE l t.2.1) ((madeC t hg).take k)).length ≤ 1048576 := by
                have h1 := (putsC_perm ((madeC t hg).take k) (restE l t.2.1)).length_eq
                have h2 := (restE_sub t.2.1 l).length_le
                rw [List.length_append, List.length_take] at h1
                omega
              have hlk : t.2.2[k].2.length ≤ 1048576 := hf.locks _ (List.getElem_mem hlt3)
              have hints := fun n => Ret.frList (by simp) (l1Ints_ret t.2.2[k].2 n hlk)
              have hputr := fun n => l5Put_fr (putsC (restE l t.2.1) ((madeC t hg).take k)) ⟨textOf t, k, t.2.2[k].1, t.2.2[k].2, hg, decide (t.2.1.length = 0)⟩ n hpl
              rw [← hput] at hputr
              have hdec : decide ((t.2.1.length : Int) = 0) = decide (t.2.1.length = 0) := by simp
              rw [hdec]
              rw [rowK outRow t.2.2 k hlt3]
              refine ⟨by rw [hL2]; exact ⟨by omega, by omega, rfl⟩, ?_⟩
              refine Goes ?_
              repeat' first | refine W2.m ?_ ?_ | refine W1.m fun h => ?_ | fail
              rw [rowK outRow t.2.2 k hlt3]
              refine ⟨by rw [hL2]; exact ⟨by omega, by omega, rfl⟩, ?_⟩
              refine Goes ?_
              repeat' first | refine W2.m ?_ ?_ | refine W1.m fun h => ?_ | fail
              refine CallN.is rfl (hints) ?_
              refine Goes ?_
              repeat' first | refine W2.m ?_ ?_ | refine W1.m fun h => ?_ | fail
              first | refine CallP.is (hputr _) rfl ?_ | refine CallQ.is (hputr _) rfl rfl ?_
              refine Goes ?_
              repeat' first | refine W2.m ?_ ?_ | refine W1.m fun h => ?_ | fail
              refine ⟨k + 1, by omega, by omega, Weak.of rfl rfl ⟨⟨rfl, rfl⟩, ⟨rfl, rfl⟩, ⟨rfl, rfl⟩, ⟨rfl, rfl⟩, ⟨rfl, rfl⟩, ⟨rfl, rfl⟩, ⟨leafI numA, rfl⟩, trivial⟩ ⟨⟨rfl, rfl, rfl⟩, ⟨rfl, rfl, rfl⟩, ⟨rfl, rfl, rfl⟩, ⟨rfl, rfl, rfl⟩, trivial⟩⟩
            · obtain rfl : k = t.2.2.length := by omega
              have hT3 : (madeC t hg).take t.2.2.length = madeC t hg := by rw [← madeC_len t hg, List.take_length]
              rw [hT3]
              have hfn : (newC l t hg).length ≤ 1048576 := by omega
              have hflt := fun n => l5Fault_ret (newC l t hg) n hfn
              by_cases hin : inR 0 1000000 (sumV (valsC (newC l t hg)))
              · rw [if_pos hin] at hco
                rw [hco] at hflt
                rw [hco] at hA
                refine Goes ?_
                repeat' first | refine W2.m ?_ ?_ | refine W1.m fun h => ?_ | fail
                first | refine CallP.is (hflt _) rfl ?_ | refine CallQ.is (hflt _) rfl rfl ?_
                refine Goes ?_
                repeat' first | refine W2.m ?_ ?_ | refine W1.m fun h => ?_ | fail
                first
                | (refine FinOk.mk' [3] rfl rfl rfl rfl rfl rfl rfl (.inr ⟨hA, ?_, ?_, rfl⟩)
                   · have hfee : feeC l t = 0 := by unfold feeC; rw [if_pos (by omega)]
                     rw [hfee, htl]; rfl
                   · rfl)
                | (have hv : ∀ z ∈ valsC (takenC l t), inR 0 1000000 z := fun z hz' => by
                     obtain ⟨c, hc, rfl⟩ := List.mem_map.1 hz'
                     exact cgC_vals _ _ (coinsC_ok h0).2.1 _ (List.mem_map.2 ⟨c, takenC_mem hins hc, rfl⟩)
                   have hvI : valsI l t.2.1 = valsC (takenC l t) := taken_vals l t
                   have hb1 := sumV_toC 1000000 (valsC (takenC l t)) hv (valsC (takenC l t)).length (Nat.le_refl _)
                   have hb2 := sumV_toC 2147483646 (valsO t.2.2) (fun z hz => by obtain ⟨y, hy, rfl⟩ := List.mem_map.1 hz; exact (hok.2.2.2.2 y hy).1) (valsO t.2.2).length (Nat.le_refl _)
                   rw [List.take_length] at hb1 hb2
                   have hl5 : (valsC (takenC l t)).length = t.2.1.length := by simp [htl]
                   have hl6 : (valsO t.2.2).length = t.2.2.length := by simp
                   rw [hl5] at hb1
                   rw [hl6] at hb2
                   have w9 : IntKind.i64.wrap (sumV (valsC (takenC l t)) - sumV (valsO t.2.2)) = feeC l t := by
                     rw [IntWalk.i64_in _ (by omega)]; unfold feeC; rw [if_neg (by omega), hvI]
                   refine CallP.convAIs (l5Worth_ret (takenC l t) _ (by omega) hv) ⟨cvOwn rfl (by simp [htl]), trivial⟩ rfl trivial ?_
                   refine Goes ?_
                   repeat' first | refine W2.m ?_ ?_ | refine W1.m fun h => ?_ | fail
                   refine CallP.heapIs (l5Outs_ret t 0 _ hok) rfl ktA rfl ?_
                   refine Goes ?_
                   repeat' first | refine W2.m ?_ ?_ | refine W1.m fun h => ?_ | fail
                   refine FinOk.mk' [3] rfl rfl rfl rfl rfl rfl rfl (.inr ⟨hA, ?_, ?_, rfl⟩)
                   · rw [← w9, htl]; rfl
                   · rfl)
              · rw [if_neg hin] at hco
                rw [hco] at hflt
                rw [hco] at hA
                refine Goes ?_
                repeat' first | refine W2.m ?_ ?_ | refine W1.m fun h => ?_ | fail
                first | refine CallP.is (hflt _) rfl ?_ | refine CallQ.is (hflt _) rfl rfl ?_
                refine Goes ?_
                repeat' first | refine W2.m ?_ ?_ | refine W1.m fun h => ?_ | fail
                first | refine CallP.is (l5Bad_ret _ _) rfl ?_ | refine CallQ.is (l5Bad_ret _ _) rfl rfl ?_
                refine Goes ?_
                repeat' first | refine W2.m ?_ ?_ | refine W1.m fun h => ?_ | fail
                refine FinOk.mk' [] rfl rfl rfl rfl rfl rfl rfl (.inl ⟨by rw [hA]; decide, ?_, rfl, rfl⟩)
                rw [hA]; rfl
    · refine Goes ?_
      repeat' first | refine W2.m ?_ ?_ | refine W1.m fun h => ?_ | fail
      refine CallP.heapIs (hspend 0 _) rfl ktA rfl ?_
      refine Goes ?_
      repeat' first | refine W2.m ?_ ?_ | refine W1.m fun h => ?_ | fail
      first | refine CallP.is (l5Bad_ret _ _) rfl ?_ | refine CallQ.is (l5Bad_ret _ _) rfl rfl ?_
      refine Goes ?_
      repeat' first | refine W2.m ?_ ?_ | refine W1.m fun h => ?_ | fail
      have hA : applyC l t hg = spendQ l t hg := by rw [hA0, if_pos ⟨hb, hs⟩]
      refine FinOk.mk' [] rfl rfl rfl rfl rfl rfl rfl (.inl ⟨by rw [hA]; exact hs, ?_, rfl, rfl⟩)
      rw [hA]; rfl
end Go.Proofs.YtfnehjminipaeaaGreat
