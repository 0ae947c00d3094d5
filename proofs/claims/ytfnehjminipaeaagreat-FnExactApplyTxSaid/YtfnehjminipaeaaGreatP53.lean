import Derived.Test.YtfnehjminipaeaaGreatP55
import Derived.Test.YtfnehjminipaeaaGreatP82
import Derived.Test.YtfnehjminipaeaaGreatP81
import Derived.Test.YtfnehjminipaeaaGreatP52
/-
  CHAPTER 5: ApplyTx, the program's.
-/
namespace Go.Proofs.YtfnehjminipaeaaGreat
open Go Go.Am Go.RowKit
set_option linter.unusedVariables false
set_option linter.unusedSimpArgs false
abbrev coinsBad (z : Int) : AV := .agg [iv z, iv 0, nl, nl]
def ApplyQ (l : List CoinD) (t : TxD) (hg : Int) (n T : Nat) : AV → Hp → Nat → Prop := fun r ho m =>
  (applyC l t hg ≠ 0 ∧ r = coinsBad (applyC l t hg) ∧ ho = [] ∧ m = n) ∨
  (applyC l t hg = 0 ∧ r = .agg [iv 0, iv (feeC l t), .own n (takenC l t).length, .own (n + 1) (newC l t hg).length] ∧ ho = [(n, .nest (c := true) T 6 ((takenC l t).map coinT)), (n + 1, .nest (c := true) T 6 ((newC l t hg).map coinT))] ∧ m = n + 2)
theorem setOfCoins_ret2 (l : List CoinD) (n : Nat) (h0 : coinsC l = 0) (hl : l.length ≤ 1048576) : Ret Tryz.prog 72 [coinsV l] [] n true (Is (.mp n) [(n, .map kks (mapL l))] (n + 1)) := by
  rw [← mapF_list h0]; exact setOfCoins_ret l n hl
theorem coinsMade_fr (t : TxD) (hg : Int) (n : Nat) (hz : faultC t = 0) (hf : Fits t) : Ret Tryz.prog 73 [txV t, iv hg] [] n true (Is (coinsV (madeC t hg)) [] n) :=
  Ret.freeze (by rintro _ _ _ ⟨rfl, rfl, rfl⟩; exact ⟨_, frCell (look_cons_eq _ _ _) (by simp), rfl, rfl, rfl⟩) (coinsMade_ret t hg n hz hf)
set_option maxHeartbeats 2000000 in
theorem implApply_ret (l : List CoinD) (t : TxD) (hg : Int) (n : Nat) (hfc : FitsC l) (hf : Fits t) : Ret Tryz.prog 13 [coinsV l, txV t, iv hg] [] n true (ApplyQ l t hg n 49) := by
  have hl := hfc.len
  have he := fun n => effect_ret l t hg n hl hf
  by_cases h1 : coinsC l ≠ 0
  · have hA : applyC l t hg = coinsC l := by unfold applyC; rw [if_pos h1]
    simp only [if_pos h1] at he
    refine Ret.fn ttOk Tryz.func13 rfl Tryz.call13 rfl rfl ?_
    refine Goes ?_
    repeat' first | refine W2.m ?_ ?_ | refine W1.m fun h => ?_ | fail
    first | refine CallP.is (he _) rfl ?_ | refine CallQ.is (he _) rfl rfl ?_
    refine Goes ?_
    repeat' first | refine W2.m ?_ ?_ | refine W1.m fun h => ?_ | fail
    refine FinOk.pure rfl rfl rfl (.inl ⟨by rw [hA]; exact h1, ?_, rfl, rfl⟩)
    rw [hA]
  by_cases h2 : faultC t ≠ 0
  · have hA : applyC l t hg = faultC t := by unfold applyC; rw [if_neg h1, if_pos h2]
    simp only [if_neg h1, if_pos h2] at he
    refine Ret.fn ttOk Tryz.func13 rfl Tryz.call13 rfl rfl ?_
    refine Goes ?_
    repeat' first | refine W2.m ?_ ?_ | refine W1.m fun h => ?_ | fail
    first | refine CallP.is (he _) rfl ?_ | refine CallQ.is (he _) rfl rfl ?_
    refine Goes ?_
    repeat' first | refine W2.m ?_ ?_ | refine W1.m fun h => ?_ | fail
    refine FinOk.pure rfl rfl rfl (.inl ⟨by rw [hA]; exact h2, ?_, rfl, rfl⟩)
    rw [hA]
  by_cases h3 : inR 0 9999 hg
  case neg =>
    have hA : applyC l t hg = 3 := by unfold applyC; rw [if_neg h1, if_neg h2, if_pos h3]
    simp only [if_neg h1, if_neg h2, if_neg h3] at he
    refine Ret.fn ttOk Tryz.func13 rfl Tryz.call13 rfl rfl ?_
    refine Goes ?_
    repeat' first | refine W2.m ?_ ?_ | refine W1.m fun h => ?_ | fail
    first | refine CallP.is (he _) rfl ?_ | refine CallQ.is (he _) rfl rfl ?_
    refine Goes ?_
    repeat' first | refine W2.m ?_ ?_ | refine W1.m fun h => ?_ | fail
    refine FinOk.pure rfl rfl rfl (.inl ⟨by rw [hA]; decide, ?_, rfl, rfl⟩)
    rw [hA]
  simp only [if_neg h1, if_neg h2, if_pos h3] at he
  have h0 : coinsC l = 0 := Decidable.not_not.1 h1
  have hz : faultC t = 0 := Decidable.not_not.1 h2
  have hok := fault_ok hz
  refine Ret.fn ttOk Tryz.func13 rfl Tryz.call13 rfl rfl ?_
  refine Goes ?_
  repeat' first | refine W2.m ?_ ?_ | refine W1.m fun h => ?_ | fail
  have hl2 := hok.2.2.1
  have hli : t.2.1.length ≤ 1048576 := by have := hok.2.1; omega
  have hlm : (madeC t hg).length ≤ 1048576 := by rw [madeC_len]; omega
  have hl40 := (coinsC_ok h0).1
  have hlr := (restE_sub t.2.1 l).length_le
  have h60 : (restE l t.2.1).length + (madeC t hg).length ≤ 60 := by rw [madeC_len]; omega
  have hpr : ∀ c ∈ restE l t.2.1, pCoin c ≤ 1048576 := fun c hc => hfc.locks c ((restE_sub _ _).subset hc)
  have hpm : ∀ c ∈ madeC t hg, pCoin c ≤ 1048576 := fun c hc => by
    obtain ⟨k, hk, rfl⟩ := List.mem_iff_getElem.1 hc
    rw [madeC_len] at hk
    rw [madeC_at t hg k hk]
    exact hf.locks _ (List.getElem_mem hk)
  have hlz : (newC l t hg).length ≤ 1048576 := by rw [(newC_perm l t hg).length_eq, List.length_append]; omega
  have hsp : ∀ i n, Ret Tryz.prog 75 [.mp i, txV t, iv hg] [(i, .map kks (mapL l))] n true (Is (iv (spendQ l t hg)) [(i, .map kks (mapL l))] n) := fun i n => by
    rw [← mapF_list h0]; exact spendFault_ret l t hg i n h0 hz h3 hf
  have hex : ∀ i n, Ret Tryz.prog 76 [.mp i, txV t] [(i, .map kks (mapL l))] n true (Is (iv (sumV (valsI l t.2.1) - sumV (valsO t.2.2))) [(i, .map kks (mapL l))] n) := fun i n => by
    rw [← mapF_list h0]; exact excess_ret l t i n h0 hok
  first | refine CallP.is (he _) rfl ?_ | refine CallQ.is (he _) rfl rfl ?_
  refine Goes ?_
  repeat' first | refine W2.m ?_ ?_ | refine W1.m fun h => ?_ | fail
  first | refine CallP.is (setOfCoins_ret2 l _ h0 hl) rfl ?_ | refine CallQ.is (setOfCoins_ret2 l _ h0 hl) rfl rfl ?_
  refine Goes ?_
  repeat' first | refine W2.m ?_ ?_ | refine W1.m fun h => ?_ | fail
  first | refine CallP.is (coinsMade_fr t hg _ hz hf) rfl ?_ | refine CallQ.is (coinsMade_fr t hg _ hz hf) rfl rfl ?_
  refine Goes ?_
  repeat' first | refine W2.m ?_ ?_ | refine W1.m fun h => ?_ | fail
  by_cases hb : t.2.1.length = 0
  · have hns : ¬ (¬ t.2.1.length = 0 ∧ spendQ l t hg ≠ 0) := fun h => h.1 hb
    have hins := spendQ_ins hns
    have hpt : ∀ c ∈ takenC l t, pCoin c ≤ 1048576 := fun c hc => hfc.locks c (takenC_mem hins hc)
    have hfee : feeC l t = 0 := by unfold feeC; rw [if_pos hb]
    first | refine CallP.is (isBase_ret t _) rfl ?_ | refine CallQ.is (isBase_ret t _) rfl rfl ?_
    refine Goes ?_
    repeat' first | refine W2.m ?_ ?_ | refine W1.m fun h => ?_ | fail
    refine CallP.heapIs (containsHas_ret l (madeC t hg) 3 2 _ (by decide) hlm) rfl ktA rfl ?_
    refine Goes ?_
    repeat' first | refine W2.m ?_ ?_ | refine W1.m fun h => ?_ | fail
    cases ha : ((madeC t hg).any fun c => (atC l c.tx c.out).isSome) with
    | true =>
      have hA : applyC l t hg = 6 := by unfold applyC; rw [if_neg h1, if_neg h2, if_neg (fun h => h h3), if_neg hns, if_pos ha]
      refine Goes ?_
      repeat' first | refine W2.m ?_ ?_ | refine W1.m fun h => ?_ | fail
      refine FinOk.pure rfl rfl rfl (.inl ⟨by rw [hA]; decide, ?_, rfl, rfl⟩)
      rw [hA]
    | false =>
      have hA : applyC l t hg = coinsC (newC l t hg) := by unfold applyC; rw [if_neg h1, if_neg h2, if_neg (fun h => h h3), if_neg hns, if_neg (by rw [ha]; decide)]
      have hri := newC_rising (hg := hg) h0 ha
      refine Goes ?_
      repeat' first | refine W2.m ?_ ?_ | refine W1.m fun h => ?_ | fail
      refine CallP.heapIs (take_ret l (takenC l t) t.2.1 2 _ hli (takenC_len l t) hpt (takenC_at hz hins)) rfl ktA rfl ?_
      refine Goes ?_
      repeat' first | refine W2.m ?_ ?_ | refine W1.m fun h => ?_ | fail
      refine CallP.heap (listWith_ret (restE l t.2.1) (madeC t hg) (newC l t hg) 2 _ h60 hpr hpm hri (newC_perm l t hg)) rfl ktA rfl ?_
      rintro _ _ _ ⟨x, rfl, rfl, rfl⟩
      refine Goes ?_
      repeat' first | refine W2.m ?_ ?_ | refine W1.m fun h => ?_ | fail
      refine CallP.convAIs (implCoinsFault_ret (newC l t hg) _ hlz) ⟨cvNest rfl rfl (fzCoin _) (by simp), trivial⟩ rfl trivial ?_
      by_cases hcz : coinsC (newC l t hg) = 0
      · refine Goes ?_
        repeat' first | refine W2.m ?_ ?_ | refine W1.m fun h => ?_ | fail
        refine FinOk.mk' [4, 5] rfl rfl rfl rfl rfl rfl rfl (.inr ⟨by rw [hA]; exact hcz, ?_, rfl, rfl⟩)
        rw [takenC_len, hfee]; rfl
      · refine Goes ?_
        repeat' first | refine W2.m ?_ ?_ | refine W1.m fun h => ?_ | fail
        refine FinOk.pure rfl rfl rfl (.inl ⟨by rw [hA]; exact hcz, ?_, rfl, rfl⟩)
        rw [hA]
  · have hfee : feeC l t = sumV (valsI l t.2.1) - sumV (valsO t.2.2) := by unfold feeC; rw [if_neg hb]
    by_cases hs : spendQ l t hg = 0
    · have hns : ¬ (¬ t.2.1.length = 0 ∧ spendQ l t hg ≠ 0) := fun h => h.2 hs
      have hins := spendQ_ins hns
      have hpt : ∀ c ∈ takenC l t, pCoin c ≤ 1048576 := fun c hc => hfc.locks c (takenC_mem hins hc)
      first | refine CallP.is (isBase_ret t _) rfl ?_ | refine CallQ.is (isBase_ret t _) rfl rfl ?_
      refine Goes ?_
      repeat' first | refine W2.m ?_ ?_ | refine W1.m fun h => ?_ | fail
      refine CallP.heapIs (hsp 2 _) rfl ktA rfl ?_
      refine Goes ?_
      repeat' first | refine W2.m ?_ ?_ | refine W1.m fun h => ?_ | fail
      refine CallP.heapIs (hex 2 _) rfl ktA rfl ?_
      refine Goes ?_
      repeat' first | refine W2.m ?_ ?_ | refine W1.m fun h => ?_ | fail
      refine CallP.heapIs (containsHas_ret l (madeC t hg) 3 2 _ (by decide) hlm) rfl ktA rfl ?_
      refine Goes ?_
      repeat' first | refine W2.m ?_ ?_ | refine W1.m fun h => ?_ | fail
      cases ha : ((madeC t hg).any fun c => (atC l c.tx c.out).isSome) with
      | true =>
        have hA : applyC l t hg = 6 := by unfold applyC; rw [if_neg h1, if_neg h2, if_neg (fun h => h h3), if_neg hns, if_pos ha]
        refine Goes ?_
        repeat' first | refine W2.m ?_ ?_ | refine W1.m fun h => ?_ | fail
        refine FinOk.pure rfl rfl rfl (.inl ⟨by rw [hA]; decide, ?_, rfl, rfl⟩)
        rw [hA]
      | false =>
        have hA : applyC l t hg = coinsC (newC l t hg) := by unfold applyC; rw [if_neg h1, if_neg h2, if_neg (fun h => h h3), if_neg hns, if_neg (by rw [ha]; decide)]
        have hri := newC_rising (hg := hg) h0 ha
        refine Goes ?_
        repeat' first | refine W2.m ?_ ?_ | refine W1.m fun h => ?_ | fail
        refine CallP.heapIs (take_ret l (takenC l t) t.2.1 2 _ hli (takenC_len l t) hpt (takenC_at hz hins)) rfl ktA rfl ?_
        refine Goes ?_
        repeat' first | refine W2.m ?_ ?_ | refine W1.m fun h => ?_ | fail
        refine CallP.heap (listWith_ret (restE l t.2.1) (madeC t hg) (newC l t hg) 2 _ h60 hpr hpm hri (newC_perm l t hg)) rfl ktA rfl ?_
        rintro _ _ _ ⟨x, rfl, rfl, rfl⟩
        refine Goes ?_
        repeat' first | refine W2.m ?_ ?_ | refine W1.m fun h => ?_ | fail
        refine CallP.convAIs (implCoinsFault_ret (newC l t hg) _ hlz) ⟨cvNest rfl rfl (fzCoin _) (by simp), trivial⟩ rfl trivial ?_
        by_cases hcz : coinsC (newC l t hg) = 0
        · refine Goes ?_
          repeat' first | refine W2.m ?_ ?_ | refine W1.m fun h => ?_ | fail
          refine FinOk.mk' [4, 5] rfl rfl rfl rfl rfl rfl rfl (.inr ⟨by rw [hA]; exact hcz, ?_, rfl, rfl⟩)
          rw [takenC_len, hfee]; rfl
        · refine Goes ?_
          repeat' first | refine W2.m ?_ ?_ | refine W1.m fun h => ?_ | fail
          refine FinOk.pure rfl rfl rfl (.inl ⟨by rw [hA]; exact hcz, ?_, rfl, rfl⟩)
          rw [hA]
    · have hA : applyC l t hg = spendQ l t hg := by unfold applyC; rw [if_neg h1, if_neg h2, if_neg (fun h => h h3), if_pos ⟨hb, hs⟩]
      first | refine CallP.is (isBase_ret t _) rfl ?_ | refine CallQ.is (isBase_ret t _) rfl rfl ?_
      refine Goes ?_
      repeat' first | refine W2.m ?_ ?_ | refine W1.m fun h => ?_ | fail
      refine CallP.heapIs (hsp 2 _) rfl ktA rfl ?_
      refine Goes ?_
      repeat' first | refine W2.m ?_ ?_ | refine W1.m fun h => ?_ | fail
      refine FinOk.pure rfl rfl rfl (.inl ⟨by rw [hA]; exact hs, ?_, rfl, rfl⟩)
      rw [hA]
end Go.Proofs.YtfnehjminipaeaaGreat
/-
  CHAPTER 5: ApplyTx, the specification's and the program's, where the answer is only read.
-/
namespace Go.Proofs.YtfnehjminipaeaaGreat
open Go Go.Am Go.RowKit
set_option linter.unusedVariables false
set_option linter.unusedSimpArgs false
abbrev appV (l : List CoinD) (t : TxD) (hg : Int) : AV := .agg [iv 0, iv (feeC l t), coinsV (takenC l t), coinsV (newC l t hg)]
theorem applyC_parts {l : List CoinD} {t : TxD} {hg : Int} (h : applyC l t hg = 0) : coinsC l = 0 ∧ faultC t = 0 ∧ inR 0 9999 hg := by
  unfold applyC at h
  by_cases h1 : coinsC l ≠ 0
  · rw [if_pos h1] at h; exact absurd h h1
  rw [if_neg h1] at h
  by_cases h2 : faultC t ≠ 0
  · rw [if_pos h2] at h; exact absurd h h2
  rw [if_neg h2] at h
  by_cases h3 : inR 0 9999 hg
  · exact ⟨Decidable.not_not.1 h1, Decidable.not_not.1 h2, h3⟩
  · rw [if_pos h3] at h; cases h
theorem l5Asked_ret (l : List CoinD) (t : TxD) (hg : Int) (i n : Nat) (hl : l.length ≤ 1048576) (hf : Fits t) : Ret Tryz.prog 86 [coinsV l, .pt i 0 0, iv hg] [(i, .box (txC t))] n true (Is (iv (if coinsC l ≠ 0 then coinsC l else if faultC t ≠ 0 then faultC t else if inR 0 9999 hg then 0 else 3)) [(i, .box (txC t))] n) := by
  refine Ret.of_run (tt := tt) ttOk Tryz.func86 rfl Tryz.call86 [i] [.box (txC t)] [coinsV l, .pt 0 0 0, iv hg] true n _ rfl (nodup1 i) (by exact Nat.le_of_ble_eq_true rfl) rfl rfl ?_
  refine Goes ?_
  repeat' first | refine W2.m ?_ ?_ | refine W1.m fun h => ?_ | fail
  first | refine CallP.is (l5Fault_ret l _ hl) rfl ?_ | refine CallQ.is (l5Fault_ret l _ hl) rfl rfl ?_
  refine Goes ?_
  repeat' first | refine W2.m ?_ ?_ | refine W1.m fun h => ?_ | fail
  · refine FinOk.mk' [] rfl rfl rfl rfl rfl rfl rfl ⟨?_, ?_, rfl⟩
    · rw [if_pos (by assumption)]; rfl
    · rfl
  have h1 : ¬ coinsC l ≠ 0 := by assumption
  rw [if_neg h1]
  refine CallP.heapIs (l3Fault_ret t 0 _ hf.ins hf.outs) rfl ktA rfl ?_
  refine Goes ?_
  repeat' first | refine W2.m ?_ ?_ | refine W1.m fun h => ?_ | fail
  · refine FinOk.mk' [] rfl rfl rfl rfl rfl rfl rfl ⟨?_, ?_, rfl⟩
    · rw [if_pos (by assumption)]; rfl
    · rfl
  have h2 : ¬ faultC t ≠ 0 := by assumption
  rw [if_neg h2]
  first | refine CallP.is (l1In_ret hg 0 9999 _) rfl ?_ | refine CallQ.is (l1In_ret hg 0 9999 _) rfl rfl ?_
  refine Goes ?_
  repeat' first | refine W2.m ?_ ?_ | refine W1.m fun h => ?_ | fail
  · refine FinOk.mk' [] rfl rfl rfl rfl rfl rfl rfl ⟨?_, ?_, rfl⟩
    · rw [if_neg (by assumption)]; rfl
    · rfl
  · refine FinOk.mk' [] rfl rfl rfl rfl rfl rfl rfl ⟨?_, ?_, rfl⟩
    · rw [if_pos (by assumption)]; rfl
    · rfl
theorem specApply_q (l : List CoinD) (t : TxD) (hg : Int) (n : Nat) (hfc : FitsC l) (hf : Fits t) (h0 : coinsC l = 0) (hz : faultC t = 0) (hh : inR 0 9999 hg) :
    Ret Tryz.prog 19 [coinsV l, txV t, iv hg] [] n true (fun r ho m => (applyC l t hg ≠ 0 ∧ r = coinsBad' (applyC l t hg) ∧ ho = [] ∧ m = n) ∨ (applyC l t hg = 0 ∧ r = .agg [iv 0, iv (feeC l t), .own n (takenC l t).length, coinsV (newC l t hg)] ∧ ho = [(n, .list 49 6 ((takenC l t).map coinRow))] ∧ m = n + 1)) := by
  have hl := hfc.len
  have he : ∀ i n, Ret Tryz.prog 86 [coinsV l, .pt i 0 0, iv hg] [(i, .box (txC t))] n true (Is (iv 0) [(i, .box (txC t))] n) := fun i n => by
    have := l5Asked_ret l t hg i n hl hf
    rw [if_neg (fun e => e h0), if_neg (fun e => e hz), if_pos hh] at this
    exact this
  refine Ret.fn ttOk Tryz.func19 rfl Tryz.call19 rfl rfl ?_
  refine Goes ?_
  repeat' first | refine W2.m ?_ ?_ | refine W1.m fun h => ?_ | fail
  refine CallP.heapIs (he 0 _) rfl ktA rfl ?_
  refine Goes ?_
  repeat' first | refine W2.m ?_ ?_ | refine W1.m fun h => ?_ | fail
  refine CallP.heap (l5Apply_ret l t hg 0 _ hfc hf h0 hz hh) rfl ktA rfl ?_
  rintro _ _ _ (⟨hA, rfl, rfl, rfl⟩ | ⟨hA, rfl, rfl, rfl⟩)
  · refine Goes ?_
    repeat' first | refine W2.m ?_ ?_ | refine W1.m fun h => ?_ | fail
    refine FinOk.mk' [] rfl rfl rfl rfl rfl rfl rfl (.inl ⟨hA, ?_, rfl, rfl⟩)
    rfl
  · refine Goes ?_
    repeat' first | refine W2.m ?_ ?_ | refine W1.m fun h => ?_ | fail
    refine FinOk.mk' [2] rfl rfl rfl rfl rfl rfl rfl (.inr ⟨hA, ?_, ?_, rfl⟩)
    · rfl
    · rfl
theorem specApply_fr (l : List CoinD) (t : TxD) (hg : Int) (n : Nat) (hfc : FitsC l) (hf : Fits t) (hA : applyC l t hg = 0) : Ret Tryz.prog 19 [coinsV l, txV t, iv hg] [] n true (Is (appV l t hg) [] n) := by
  have ⟨h0, hz, hh⟩ := applyC_parts hA
  refine Ret.freeze ?_ (specApply_q l t hg n hfc hf h0 hz hh)
  rintro _ _ _ (⟨h, _⟩ | ⟨_, rfl, rfl, rfl⟩)
  · exact absurd hA h
  · exact ⟨_, .agg _ [iv 0, iv (feeC l t), coinsV (takenC l t), coinsV (newC l t hg)] ⟨fr0 rfl, fr0 rfl, frOwn (look_cons_eq _ _ _) (by simp), fr0 rfl, trivial⟩, rfl, rfl, rfl⟩
theorem implApply_fr (l : List CoinD) (t : TxD) (hg : Int) (n : Nat) (hfc : FitsC l) (hf : Fits t) (hA : applyC l t hg = 0) : Ret Tryz.prog 13 [coinsV l, txV t, iv hg] [] n true (Is (appV l t hg) [] n) := by
  refine Ret.freeze ?_ (implApply_ret l t hg n hfc hf)
  rintro _ _ _ (⟨h, _⟩ | ⟨_, rfl, rfl, rfl⟩)
  · exact absurd hA h
  · exact ⟨_, .agg _ [iv 0, iv (feeC l t), coinsV (takenC l t), coinsV (newC l t hg)] ⟨fr0 rfl, fr0 rfl, frNest (look_cons_eq _ _ _) (fzCoin _) (by simp), frNest ((look_cons_ne _ _ (by omega)).trans (look_cons_eq _ _ _)) (fzCoin _) (by simp), trivial⟩, rfl, rfl, rfl⟩
theorem implApply_ok (l : List CoinD) (t : TxD) (hg : Int) (n : Nat) (hfc : FitsC l) (hf : Fits t) (hA : applyC l t hg = 0) : Ret Tryz.prog 13 [coinsV l, txV t, iv hg] [] n true (Is (.agg [iv 0, iv (feeC l t), .own n (takenC l t).length, .own (n + 1) (newC l t hg).length]) [(n, .nest (c := true) 49 6 ((takenC l t).map coinT)), (n + 1, .nest (c := true) 49 6 ((newC l t hg).map coinT))] (n + 2)) := by
  refine Ret.mono ?_ (implApply_ret l t hg n hfc hf)
  rintro _ _ _ (⟨h, _⟩ | ⟨_, rfl, rfl, rfl⟩)
  · exact absurd hA h
  · exact ⟨rfl, rfl, rfl⟩
theorem implApply_bad (l : List CoinD) (t : TxD) (hg : Int) (n : Nat) (hfc : FitsC l) (hf : Fits t) (hA : applyC l t hg ≠ 0) : Ret Tryz.prog 13 [coinsV l, txV t, iv hg] [] n true (Is (coinsBad (applyC l t hg)) [] n) := by
  refine Ret.mono ?_ (implApply_ret l t hg n hfc hf)
  rintro _ _ _ (⟨_, rfl, rfl, rfl⟩ | ⟨h, _⟩)
  · exact ⟨rfl, rfl, rfl⟩
  · exact absurd h hA
theorem specApply_bad (l : List CoinD) (t : TxD) (hg : Int) (n : Nat) (hfc : FitsC l) (hf : Fits t) (hA : applyC l t hg ≠ 0) : Ret Tryz.prog 19 [coinsV l, txV t, iv hg] [] n true (Is (coinsBad (applyC l t hg)) [] n) := by
  have hl := hfc.len
  have he := fun i n => l5Asked_ret l t hg i n hl hf
  by_cases h1 : coinsC l ≠ 0
  · have hE : applyC l t hg = coinsC l := by unfold applyC; rw [if_pos h1]
    rw [hE]
    simp only [if_pos h1] at he
    refine Ret.fn ttOk Tryz.func19 rfl Tryz.call19 rfl rfl ?_
    refine Goes ?_
    repeat' first | refine W2.m ?_ ?_ | refine W1.m fun h => ?_ | fail
    refine CallP.heapIs (he 0 _) rfl ktA rfl ?_
    refine Goes ?_
    repeat' first | refine W2.m ?_ ?_ | refine W1.m fun h => ?_ | fail
    first | refine CallP.is (l5Bad_ret _ _) rfl ?_ | refine CallQ.is (l5Bad_ret _ _) rfl rfl ?_
    refine Goes ?_
    repeat' first | refine W2.m ?_ ?_ | refine W1.m fun h => ?_ | fail
    refine FinOk.pure rfl rfl rfl ⟨?_, rfl, rfl⟩
    rfl
  by_cases h2 : faultC t ≠ 0
  · have hE : applyC l t hg = faultC t := by unfold applyC; rw [if_neg h1, if_pos h2]
    rw [hE]
    simp only [if_neg h1, if_pos h2] at he
    refine Ret.fn ttOk Tryz.func19 rfl Tryz.call19 rfl rfl ?_
    refine Goes ?_
    repeat' first | refine W2.m ?_ ?_ | refine W1.m fun h => ?_ | fail
    refine CallP.heapIs (he 0 _) rfl ktA rfl ?_
    refine Goes ?_
    repeat' first | refine W2.m ?_ ?_ | refine W1.m fun h => ?_ | fail
    first | refine CallP.is (l5Bad_ret _ _) rfl ?_ | refine CallQ.is (l5Bad_ret _ _) rfl rfl ?_
    refine Goes ?_
    repeat' first | refine W2.m ?_ ?_ | refine W1.m fun h => ?_ | fail
    refine FinOk.pure rfl rfl rfl ⟨?_, rfl, rfl⟩
    rfl
  by_cases h3 : inR 0 9999 hg
  case neg =>
    have hE : applyC l t hg = 3 := by unfold applyC; rw [if_neg h1, if_neg h2, if_pos h3]
    rw [hE]
    simp only [if_neg h1, if_neg h2, if_neg h3] at he
    refine Ret.fn ttOk Tryz.func19 rfl Tryz.call19 rfl rfl ?_
    refine Goes ?_
    repeat' first | refine W2.m ?_ ?_ | refine W1.m fun h => ?_ | fail
    refine CallP.heapIs (he 0 _) rfl ktA rfl ?_
    refine Goes ?_
    repeat' first | refine W2.m ?_ ?_ | refine W1.m fun h => ?_ | fail
    first | refine CallP.is (l5Bad_ret _ _) rfl ?_ | refine CallQ.is (l5Bad_ret _ _) rfl rfl ?_
    refine Goes ?_
    repeat' first | refine W2.m ?_ ?_ | refine W1.m fun h => ?_ | fail
    refine FinOk.pure rfl rfl rfl ⟨?_, rfl, rfl⟩
    rfl
  refine Ret.mono ?_ (specApply_q l t hg n hfc hf (Decidable.not_not.1 h1) (Decidable.not_not.1 h2) h3)
  rintro _ _ _ (⟨_, rfl, rfl, rfl⟩ | ⟨h, _⟩)
  · exact ⟨rfl, rfl, rfl⟩
  · exact absurd h hA
end Go.Proofs.YtfnehjminipaeaaGreat
/-
  CHAPTER 5: the law of FindCoin, by the reading.
-/
namespace Go.Proofs.YtfnehjminipaeaaGreat
open Go Go.Am Go.RowKit
set_option linter.unusedVariables false
set_option linter.unusedSimpArgs false
theorem flTl (zs : List Int) : FlatT (tl zs) := .tree _ _ _ fun c hc => by
  obtain ⟨r, hr, hcr⟩ := List.mem_flatten.1 hc
  obtain ⟨x, _, rfl⟩ := List.mem_map.1 hr
  simp at hcr; subst hcr; exact .val _
end Go.Proofs.YtfnehjminipaeaaGreat
