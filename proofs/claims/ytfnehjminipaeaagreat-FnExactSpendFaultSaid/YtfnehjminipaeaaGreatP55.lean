/-
  CHAPTER 5: SpendFault, the specification's (the great seat).
-/
import Derived.Test.YtfnehjminipaeaaGreatP54
namespace Go.Proofs.YtfnehjminipaeaaGreat
open Go Go.Am Go.RowKit
set_option linter.unusedVariables false
set_option linter.unusedSimpArgs false
def atI (l : List CoinD) (t o : Int) : Int := match l.findIdx? (fun c => decide (c.tx = t ∧ c.out = o)) with | some k => k | none => -1
theorem atI_here {l : List CoinD} {t o : Int} {k : Nat} (h : k < l.length) (hp : ∀ x ∈ l.take k, ¬ (x.tx = t ∧ x.out = o)) (hk : l[k].tx = t ∧ l[k].out = o) : atI l t o = k := by
  unfold atI
  rw [(List.findIdx?_eq_some_iff_getElem (i := k)).2 ⟨h, by simpa using hk, fun j hj => by
    have : l[j] ∈ l.take k := by rw [List.mem_take_iff_getElem]; exact ⟨j, by omega, rfl⟩
    simpa using hp _ this⟩]
theorem atI_no {l : List CoinD} {t o : Int} (hp : ∀ x ∈ l, ¬ (x.tx = t ∧ x.out = o)) : atI l t o = -1 := by
  unfold atI
  rw [List.findIdx?_eq_none_iff.2 fun x hx => by simpa using hp x hx]
theorem atI_cases (l : List CoinD) (t o : Int) : (∃ (k : Nat) (h : k < l.length), atI l t o = k ∧ atC l t o = some l[k]) ∨ (atI l t o = -1 ∧ atC l t o = none) := by
  unfold atI
  cases hi : l.findIdx? (fun c => decide (c.tx = t ∧ c.out = o)) with
  | none =>
    rw [List.findIdx?_eq_none_iff] at hi
    exact .inr ⟨rfl, atC_no fun x hx => by simpa using hi x hx⟩
  | some k =>
    obtain ⟨h, h1, h2⟩ := List.findIdx?_eq_some_iff_getElem.1 hi
    refine .inl ⟨k, h, rfl, atC_here h (fun x hx => ?_) (by simpa using h1)⟩
    obtain ⟨j, hj, rfl⟩ := List.mem_take_iff_getElem.1 hx
    have := h2 j (by omega)
    simpa using this
theorem l5AtI_ret (l : List CoinD) (t o : Int) (n : Nat) (hl : l.length ≤ 1048576) : Ret Tryz.prog 90 [coinsV l, iv t, iv o] [] n true (Is (iv (atI l t o)) [] n) := by
  have hL : (l.map coinRow).length = l.length := by simp
  refine Ret.fn ttOk Tryz.func90 rfl Tryz.call90 rfl rfl ?_
  refine Goes ?_
  repeat' first | refine W2.m ?_ ?_ | refine W1.m fun h => ?_ | fail
  refine LoopP.go (fun k : Nat => k ≤ l.length ∧ ∀ x ∈ l.take k, ¬ (x.tx = t ∧ x.out = o)) (fun k => ⟨[(0, coinsV l), (1, iv t), (2, iv o), (7, iv k)], [], 0⟩) (fun k => l.length - k) 0 ⟨Nat.zero_le _, fun x hx => by simp at hx⟩ (Weak.of rfl rfl ktA trivial) ?_
  intro k ⟨hk, hp⟩
  refine Goes ?_
  repeat' first | refine W2.m ?_ ?_ | refine W1.m fun h => ?_ | fail
  · have hlt : k < l.length := by omega
    have next : ¬ (l[k].tx = t ∧ l[k].out = o) → ∀ x ∈ l.take (k + 1), ¬ (x.tx = t ∧ x.out = o) := fun h x hx => by
      rw [takeS l k hlt] at hx
      rcases List.mem_append.1 hx with hx | hx
      · exact hp x hx
      · rw [List.mem_singleton.1 hx]; exact h
    rw [rowK coinRow l k hlt]
    refine ⟨by rw [hL]; exact ⟨by omega, by omega, rfl⟩, ?_⟩
    refine Goes ?_
    repeat' first | refine W2.m ?_ ?_ | refine W1.m fun h => ?_ | fail
    · rw [rowK coinRow l k hlt]
      refine ⟨by rw [hL]; exact ⟨by omega, by omega, rfl⟩, ?_⟩
      refine Goes ?_
      repeat' first | refine W2.m ?_ ?_ | refine W1.m fun h => ?_ | fail
      · refine FinOk.pure rfl rfl rfl ⟨?_, rfl, rfl⟩
        rw [atI_here hlt hp ⟨by assumption, by assumption⟩]
      · exact ⟨k + 1, ⟨by omega, next fun e => absurd e.2 (by assumption)⟩, by omega, (Weak.of rfl rfl ktA trivial)⟩
    · exact ⟨k + 1, ⟨by omega, next fun e => absurd e.1 (by assumption)⟩, by omega, (Weak.of rfl rfl ktA trivial)⟩
  · obtain rfl : k = l.length := by omega
    rw [List.take_length] at hp
    refine FinOk.pure rfl rfl rfl ⟨?_, rfl, rfl⟩
    rw [atI_no hp]
theorem l5In_ret (l : List CoinD) (x : InD) (text hg : Int) (n : Nat) (hl : l.length ≤ 1048576) (h0 : coinsC l = 0) (hh : inR 0 9999 hg) : Ret Tryz.prog 186 [coinsV l, .rp (inRow x), iv text, iv hg] [] n true (Is (iv (inQ l text hg x)) [] n) := by
  have hL : (l.map coinRow).length = l.length := by simp
  have ha := fun n => l5AtI_ret l x.1 x.2.1 n hl
  unfold inR at hh
  unfold inQ
  refine Ret.fn ttOk Tryz.func186 rfl Tryz.call186 rfl rfl ?_
  refine Goes ?_
  repeat' first | refine W2.m ?_ ?_ | refine W1.m fun h => ?_ | fail
  rcases atI_cases l x.1 x.2.1 with ⟨k, hk, e1, e2⟩ | ⟨e1, e2⟩
  · rw [e1] at ha
    rw [e2]
    have hch := coin_h h0 (List.getElem_mem hk)
    unfold inR at hch
    first | refine CallQ.is (ha _) rfl rfl ?_ | refine CallP.is (ha _) rfl ?_
    refine Goes ?_
    repeat' first | refine W2.m ?_ ?_ | refine W1.m fun h => ?_ | fail
    rw [rowK coinRow l k hk]
    refine ⟨by rw [hL]; exact ⟨by omega, by omega, rfl⟩, ?_⟩
    clear ha e1 e2
    have ho := fun n => l2Opens_ret l[k].lock x.2.2 text hg n
    generalize l[k] = c at *
    obtain ⟨ctx, cout, cval, clock, ch, cbase⟩ := c
    dsimp only at hch ho ⊢
    generalize opensB clock x.2.2 text hg = op at *
    have hw : IntKind.i64.wrap (hg - ch) = hg - ch := IntWalk.i64_in _ (by omega)
    cases cbase with
    | true =>
      refine Goes ?_
      repeat' first | refine W2.m ?_ ?_ | refine W1.m fun h => ?_ | fail
      · have hlt2 : hg < ch + 2 := (by have h' : IntKind.i64.wrap (hg - ch) < 2 := (by assumption); omega)
        refine FinOk.pure rfl rfl rfl ⟨?_, rfl, rfl⟩
        rw [if_pos ⟨rfl, hlt2⟩]
      · have hlt2 : ¬ hg < ch + 2 := (by have h' : ¬ IntKind.i64.wrap (hg - ch) < 2 := (by assumption); omega)
        rw [if_neg (fun e => hlt2 e.2)]
        first | refine CallQ.is (ho _) rfl rfl ?_ | refine CallP.is (ho _) rfl ?_
        refine Goes ?_
        repeat' first | refine W2.m ?_ ?_ | refine W1.m fun h => ?_ | fail
        cases op with
        | true =>
          refine Goes ?_
          repeat' first | refine W2.m ?_ ?_ | refine W1.m fun h => ?_ | fail
          refine FinOk.pure rfl rfl rfl ⟨?_, rfl, rfl⟩
          rfl
        | false =>
          refine Goes ?_
          repeat' first | refine W2.m ?_ ?_ | refine W1.m fun h => ?_ | fail
          refine FinOk.pure rfl rfl rfl ⟨?_, rfl, rfl⟩
          rfl
    | false =>
      refine Goes ?_
      repeat' first | refine W2.m ?_ ?_ | refine W1.m fun h => ?_ | fail
      rw [if_neg (fun e => by cases e.1)]
      first | refine CallQ.is (ho _) rfl rfl ?_ | refine CallP.is (ho _) rfl ?_
      refine Goes ?_
      repeat' first | refine W2.m ?_ ?_ | refine W1.m fun h => ?_ | fail
      cases op with
      | true =>
        refine Goes ?_
        repeat' first | refine W2.m ?_ ?_ | refine W1.m fun h => ?_ | fail
        refine FinOk.pure rfl rfl rfl ⟨?_, rfl, rfl⟩
        rfl
      | false =>
        refine Goes ?_
        repeat' first | refine W2.m ?_ ?_ | refine W1.m fun h => ?_ | fail
        refine FinOk.pure rfl rfl rfl ⟨?_, rfl, rfl⟩
        rfl
  · rw [e1] at ha
    rw [e2]
    first | refine CallQ.is (ha _) rfl rfl ?_ | refine CallP.is (ha _) rfl ?_
    refine Goes ?_
    repeat' first | refine W2.m ?_ ?_ | refine W1.m fun h => ?_ | fail
    refine FinOk.pure rfl rfl rfl ⟨?_, rfl, rfl⟩
    rfl
theorem l5Outs_ret (t : TxD) (i n : Nat) (hok : okT t) : Ret Tryz.prog 184 [.pt i 0 0] [(i, .box (txC t))] n true (Is (iv (sumV (valsO t.2.2))) [(i, .box (txC t))] n) := by
  obtain ⟨_, hl1, hl2, _, hoo⟩ := hok
  have hL2 : (t.2.2.map outRow).length = t.2.2.length := by simp
  have hb2 := sumV_toC 2147483646 (valsO t.2.2) (fun z hz => by obtain ⟨y, hy, rfl⟩ := List.mem_map.1 hz; exact (hoo y hy).1)
  refine Ret.of_run (tt := tt) ttOk Tryz.func184 rfl Tryz.call184 [i] [.box (txC t)] [.pt 0 0 0] true n _ rfl (nodup1 i) (by exact Nat.le_of_ble_eq_true rfl) rfl rfl ?_
  refine Goes ?_
  repeat' first | refine W2.m ?_ ?_ | refine W1.m fun h => ?_ | fail
  refine LoopP.go (fun k : Nat => k ≤ t.2.2.length) (fun k => ⟨[(0, .pt 0 0 0), (3, iv (sumV ((valsO t.2.2).take k))), (4, iv k)], [(0, .box (txC t))], 1⟩) (fun k => t.2.2.length - k) 0 (Nat.zero_le _) ?_ ?_
  · exact Weak.of rfl rfl ⟨⟨rfl, rfl⟩, ⟨rfl, rfl⟩, ⟨rfl, rfl⟩, trivial⟩ ⟨⟨rfl, rfl, rfl⟩, trivial⟩
  intro j hj
  refine Goes ?_
  repeat' first | refine W2.m ?_ ?_ | refine W1.m fun h => ?_ | fail
  · have hlt : j < t.2.2.length := by omega
    have c1 := hb2 j (by simpa using hj)
    have c2 := hb2 (j + 1) (by simp; omega)
    have hsj := sumV_take (valsO t.2.2) j (by simpa using hlt)
    rw [List.getElem_map] at hsj
    rw [rowK outRow t.2.2 j hlt]
    refine ⟨by rw [hL2]; exact ⟨by omega, by omega, rfl⟩, ?_⟩
    refine Goes ?_
    repeat' first | refine W2.m ?_ ?_ | refine W1.m fun h => ?_ | fail
    exact ⟨j + 1, by omega, by omega, Weak.of rfl rfl ⟨⟨rfl, rfl⟩, ⟨leafI (by rw [IntWalk.i64_in _ (by omega)]; omega), rfl⟩, ⟨leafI numA, rfl⟩, trivial⟩ ⟨⟨rfl, rfl, rfl⟩, trivial⟩⟩
  · obtain rfl : j = t.2.2.length := by omega
    rw [List.take_of_length_le (by simp)]
    refine FinOk.mk' [] rfl rfl rfl rfl rfl rfl rfl ⟨?_, ?_, rfl⟩
    · rfl
    · rfl
theorem l5Spend_ret (l : List CoinD) (t : TxD) (hg : Int) (i n : Nat) (hl : l.length ≤ 1048576) (h0 : coinsC l = 0) (hz : faultC t = 0) (hh : inR 0 9999 hg) : Ret Tryz.prog 107 [coinsV l, .pt i 0 0, iv hg] [(i, .box (txC t))] n true (Is (iv (if t.2.1.length = 0 then 1 else spendQ l t hg)) [(i, .box (txC t))] n) := by
  have hok := fault_ok hz
  have hl1 := hok.2.1
  have hL : (l.map coinRow).length = l.length := by simp
  have hL1 : (t.2.1.map inRow).length = t.2.1.length := by simp
  have hb1 := sumV_toC 1000000 (valsI l t.2.1) (fun z hz => by obtain ⟨x, _, rfl⟩ := List.mem_map.1 hz; exact valAt_bd h0 x)
  have hsum : ∀ i n, Ret Tryz.prog 88 [.pt i 0 0] [(i, .box (txC t))] n true (Is (iv (textOf t)) [(i, .box (txC t))] n) := fun i n => l3Sum_ret t i n hz
  have houts := fun i n => l5Outs_ret t i n hok
  unfold spendQ
  generalize textOf t = text at *
  refine Ret.of_run (tt := tt) ttOk Tryz.func107 rfl Tryz.call107 [i] [.box (txC t)] [coinsV l, .pt 0 0 0, iv hg] true n _ rfl (nodup1 i) (by exact Nat.le_of_ble_eq_true rfl) rfl rfl ?_
  refine Goes ?_
  repeat' first | refine W2.m ?_ ?_ | refine W1.m fun h => ?_ | fail
  · refine FinOk.mk' [] rfl rfl rfl rfl rfl rfl rfl ⟨?_, ?_, rfl⟩
    · rw [if_pos (by omega)]; rfl
    · rfl
  have hne : ¬ t.2.1.length = 0 := by omega
  rw [if_neg hne]
  refine CallP.heapIs (hsum 0 _) rfl ktA rfl ?_
  refine Goes ?_
  repeat' first | refine W2.m ?_ ?_ | refine W1.m fun h => ?_ | fail
  refine LoopP.go (fun k : Nat => k ≤ t.2.1.length ∧ insQ l text hg t.2.1 = insQ l text hg (t.2.1.drop k)) (fun k => ⟨[(0, coinsV l), (1, .pt 0 0 0), (2, iv hg), (7, iv text), (8, iv (sumV ((valsI l t.2.1).take k))), (9, iv k)], [(0, .box (txC t))], 1⟩) (fun k => t.2.1.length - k) 0 ⟨Nat.zero_le _, rfl⟩ ?_ ?_
  · exact Weak.of rfl rfl ⟨⟨rfl, rfl⟩, ⟨rfl, rfl⟩, ⟨rfl, rfl⟩, ⟨rfl, rfl⟩, ⟨rfl, rfl⟩, ⟨rfl, rfl⟩, trivial⟩ ⟨⟨rfl, rfl, rfl⟩, trivial⟩
  intro k ⟨hk, hp⟩
  refine Goes ?_
  repeat' first | refine W2.m ?_ ?_ | refine W1.m fun h => ?_ | fail
  · have hlt : k < t.2.1.length := by omega
    have hat := insQ_at l text hg t.2.1 k hlt
    rw [← hp] at hat
    rw [rowK inRow t.2.1 k hlt]
    refine ⟨by rw [hL1]; exact ⟨by omega, by omega, rfl⟩, ?_⟩
    refine Goes ?_
    repeat' first | refine W2.m ?_ ?_ | refine W1.m fun h => ?_ | fail
    first | refine CallP.is (l5In_ret l t.2.1[k] text hg _ hl h0 hh) rfl ?_ | refine CallQ.is (l5In_ret l t.2.1[k] text hg _ hl h0 hh) rfl rfl ?_
    refine Goes ?_
    repeat' first | refine W2.m ?_ ?_ | refine W1.m fun h => ?_ | fail
    · have hq : inQ l text hg t.2.1[k] ≠ 0 := by assumption
      rw [if_pos hq] at hat
      refine FinOk.mk' [] rfl rfl rfl rfl rfl rfl rfl ⟨?_, ?_, rfl⟩
      · rw [if_pos (by rw [hat]; exact hq), hat]; rfl
      · rfl
    have hq : ¬ inQ l text hg t.2.1[k] ≠ 0 := by assumption
    rw [if_neg hq] at hat
    have b1 := hb1 k (by simpa using hk)
    have b2 := hb1 (k + 1) (by simp; omega)
    have hst := sumV_take (valsI l t.2.1) k (by simpa using hlt)
    rw [List.getElem_map] at hst
    rw [rowK inRow t.2.1 k hlt]
    refine ⟨by rw [hL1]; exact ⟨by omega, by omega, rfl⟩, ?_⟩
    refine Goes ?_
    repeat' first | refine W2.m ?_ ?_ | refine W1.m fun h => ?_ | fail
    rw [rowK inRow t.2.1 k hlt]
    refine ⟨by rw [hL1]; exact ⟨by omega, by omega, rfl⟩, ?_⟩
    refine Goes ?_
    repeat' first | refine W2.m ?_ ?_ | refine W1.m fun h => ?_ | fail
    have ha := fun n => l5AtI_ret l t.2.1[k].1 t.2.1[k].2.1 n hl
    rcases atI_cases l t.2.1[k].1 t.2.1[k].2.1 with ⟨j, hj, e1, e2⟩ | ⟨e1, e2⟩
    · rw [e1] at ha
      have hv : valAt l t.2.1[k] = l[j].val := by unfold valAt; rw [e2]
      first | refine CallQ.is (ha _) rfl rfl ?_ | refine CallP.is (ha _) rfl ?_
      refine Goes ?_
      repeat' first | refine W2.m ?_ ?_ | refine W1.m fun h => ?_ | fail
      rw [rowK coinRow l j hj]
      refine ⟨by rw [hL]; exact ⟨by omega, by omega, rfl⟩, ?_⟩
      refine Goes ?_
      repeat' first | refine W2.m ?_ ?_ | refine W1.m fun h => ?_ | fail
      exact ⟨k + 1, ⟨by omega, hat⟩, by omega, Weak.of rfl rfl ⟨⟨rfl, rfl⟩, ⟨rfl, rfl⟩, ⟨rfl, rfl⟩, ⟨rfl, rfl⟩, ⟨leafI (by rw [hst, hv, IntWalk.i64_in _ (by omega)]), rfl⟩, ⟨leafI numA, rfl⟩, trivial⟩ ⟨⟨rfl, rfl, rfl⟩, trivial⟩⟩
    · exact absurd (show inQ l text hg t.2.1[k] ≠ 0 by
        have e : inQ l text hg t.2.1[k] = 4 := by unfold inQ; rw [e2]
        rw [e]; decide) hq
  · obtain rfl : k = t.2.1.length := by omega
    rw [List.drop_length] at hp
    rw [List.take_of_length_le (by simp)]
    refine CallP.heapIs (houts 0 _) rfl ktA rfl ?_
    refine Goes ?_
    repeat' first | refine W2.m ?_ ?_ | refine W1.m fun h => ?_ | fail
    · refine FinOk.mk' [] rfl rfl rfl rfl rfl rfl rfl ⟨?_, ?_, rfl⟩
      · rw [if_neg (by rw [hp]; simp [insQ]), if_pos (by omega)]; rfl
      · rfl
    · refine FinOk.mk' [] rfl rfl rfl rfl rfl rfl rfl ⟨?_, ?_, rfl⟩
      · rw [if_neg (by rw [hp]; simp [insQ]), if_neg (by omega)]; rfl
      · rfl
theorem specSpendFault_ret (l : List CoinD) (t : TxD) (hg : Int) (n : Nat) (hl : l.length ≤ 1048576) (hf : Fits t) : Ret Tryz.prog 26 [coinsV l, txV t, iv hg] [] n true (Is (iv (spendC l t hg)) [] n) := by
  have he : ∀ i n, Ret Tryz.prog 86 [coinsV l, .pt i 0 0, iv hg] [(i, .box (txC t))] n true (Is (iv (if coinsC l ≠ 0 then coinsC l else if faultC t ≠ 0 then faultC t else if inR 0 9999 hg then 0 else 3)) [(i, .box (txC t))] n) := fun i n => by
    refine Ret.of_run (tt := tt) ttOk Tryz.func86 rfl Tryz.call86 [i] [.box (txC t)] [coinsV l, .pt 0 0 0, iv hg] true n _ rfl (nodup1 i) (by exact Nat.le_of_ble_eq_true rfl) rfl rfl ?_
    refine Goes ?_
    repeat' first | refine W2.m ?_ ?_ | refine W1.m fun h => ?_ | fail
    first | refine CallP.is (l5Fault_ret l _ hl) rfl ?_ | refine CallQ.is (l5Fault_ret l _ hl) rfl rfl ?_
    refine Goes ?_
    repeat' first | refine W2.m ?_ ?_ | refine W1.m fun h => ?_ | fail
    · refine FinOk.mk' [] rfl rfl rfl rfl rfl rfl rfl ⟨?_, ?_, rfl⟩
      · rw [if_pos (by assumption)]; rfl
      · rfl
    have h1 : ¬ coinsC l ≠ 0 := by assumption
    rw [if_neg h1]
    refine CallP.heapIs (l3Fault_ret t 0 _ hf.ins hf.outs) rfl ktA rfl ?_
    refine Goes ?_
    repeat' first | refine W2.m ?_ ?_ | refine W1.m fun h => ?_ | fail
    · refine FinOk.mk' [] rfl rfl rfl rfl rfl rfl rfl ⟨?_, ?_, rfl⟩
      · rw [if_pos (by assumption)]; rfl
      · rfl
    have h2 : ¬ faultC t ≠ 0 := by assumption
    rw [if_neg h2]
    first | refine CallP.is (l1In_ret hg 0 9999 _) rfl ?_ | refine CallQ.is (l1In_ret hg 0 9999 _) rfl rfl ?_
    refine Goes ?_
    repeat' first | refine W2.m ?_ ?_ | refine W1.m fun h => ?_ | fail
    · refine FinOk.mk' [] rfl rfl rfl rfl rfl rfl rfl ⟨?_, ?_, rfl⟩
      · rw [if_neg (by assumption)]; rfl
      · rfl
    · refine FinOk.mk' [] rfl rfl rfl rfl rfl rfl rfl ⟨?_, ?_, rfl⟩
      · rw [if_pos (by assumption)]; rfl
      · rfl
  unfold spendC
  by_cases h1 : coinsC l ≠ 0
  · simp only [if_pos h1] at he ⊢
    refine Ret.fn ttOk Tryz.func26 rfl Tryz.call26 rfl rfl ?_
    refine Goes ?_
    repeat' first | refine W2.m ?_ ?_ | refine W1.m fun h => ?_ | fail
    refine CallP.heapIs (he 0 _) rfl ktA rfl ?_
    refine Goes ?_
    repeat' first | refine W2.m ?_ ?_ | refine W1.m fun h => ?_ | fail
    refine FinOk.pure rfl rfl rfl ⟨?_, rfl, rfl⟩
    rfl
  simp only [if_neg h1] at he ⊢
  by_cases h2 : faultC t ≠ 0
  · simp only [if_pos h2] at he ⊢
    refine Ret.fn ttOk Tryz.func26 rfl Tryz.call26 rfl rfl ?_
    refine Goes ?_
    repeat' first | refine W2.m ?_ ?_ | refine W1.m fun h => ?_ | fail
    refine CallP.heapIs (he 0 _) rfl ktA rfl ?_
    refine Goes ?_
    repeat' first | refine W2.m ?_ ?_ | refine W1.m fun h => ?_ | fail
    refine FinOk.pure rfl rfl rfl ⟨?_, rfl, rfl⟩
    rfl
  simp only [if_neg h2] at he ⊢
  by_cases h3 : inR 0 9999 hg
  · simp only [if_pos h3] at he ⊢
    refine Ret.fn ttOk Tryz.func26 rfl Tryz.call26 rfl rfl ?_
    refine Goes ?_
    repeat' first | refine W2.m ?_ ?_ | refine W1.m fun h => ?_ | fail
    refine CallP.heapIs (he 0 _) rfl ktA rfl ?_
    refine Goes ?_
    repeat' first | refine W2.m ?_ ?_ | refine W1.m fun h => ?_ | fail
    refine CallP.heapIs (l5Spend_ret l t hg 0 _ hl (by omega) (by omega) h3) rfl ktA rfl ?_
    refine Goes ?_
    repeat' first | refine W2.m ?_ ?_ | refine W1.m fun h => ?_ | fail
    refine FinOk.pure rfl rfl rfl ⟨?_, rfl, rfl⟩
    rfl
  · simp only [if_neg h3] at he ⊢
    refine Ret.fn ttOk Tryz.func26 rfl Tryz.call26 rfl rfl ?_
    refine Goes ?_
    repeat' first | refine W2.m ?_ ?_ | refine W1.m fun h => ?_ | fail
    refine CallP.heapIs (he 0 _) rfl ktA rfl ?_
    refine Goes ?_
    repeat' first | refine W2.m ?_ ?_ | refine W1.m fun h => ?_ | fail
    refine FinOk.pure rfl rfl rfl ⟨?_, rfl, rfl⟩
    rfl
end Go.Proofs.YtfnehjminipaeaaGreat
