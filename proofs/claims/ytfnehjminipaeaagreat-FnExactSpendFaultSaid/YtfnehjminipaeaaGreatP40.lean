/-
  CHAPTER 5: coins, how the laws copy, compare and measure them, by the reading.
-/
import Derived.Test.YtfnehjminipaeaaGreatP16
import Derived.Test.YtfnehjminipaeaaGreatM10
namespace Go.Proofs.YtfnehjminipaeaaGreat
open Go Go.Am Go.RowKit
set_option linter.unusedVariables false
set_option linter.unusedSimpArgs false
theorem toCoin_fr (c : CoinD) (n : Nat) (h : pCoin c ≤ 1048576) : Ret Tryz.prog 150 [coinV c] [] n true (Is (coinV c) [] n) := by
  refine Ret.fn ttOk Tryz.func150 rfl Tryz.call150 rfl rfl ?_
  refine Goes ?_
  repeat' first | refine W2.m ?_ ?_ | refine W1.m fun h => ?_ | fail
  first | refine CallP.is (toInt64S_fr c.lock _ h) rfl ?_ | refine CallQ.is (toInt64S_fr c.lock _ h) rfl rfl ?_
  refine Goes ?_
  repeat' first | refine W2.m ?_ ?_ | refine W1.m fun h => ?_ | fail
  refine FinOk.pure rfl rfl rfl ⟨?_, rfl, rfl⟩
  rfl
theorem toCoinS_ret (xs : List CoinD) (n : Nat) (hf : FitsC xs) : Ret Tryz.prog 58 [coinsV xs] [] n true (Is (.own n xs.length) [(n, .list 49 6 (xs.map coinRow))] (n + 1)) := by
  have hL : (xs.map coinRow).length = xs.length := by simp
  have hl := hf.len
  refine Ret.fn ttOk Tryz.func58 rfl Tryz.call58 rfl rfl ?_
  refine Goes ?_
  repeat' first | refine W2.m ?_ ?_ | refine W1.m fun h => ?_ | fail
  rw [hL]
  refine ⟨⟨by omega, by omega, by omega, by show _ * 64 ≤ _; omega⟩, ?_⟩
  refine Goes ?_
  repeat' first | refine W2.m ?_ ?_ | refine W1.m fun h => ?_ | fail
  refine LoopP.go (fun k : Nat => k ≤ xs.length) (fun k => ⟨[(0, coinsV xs), (3, .own 0 xs.length), (4, iv k)], [(0, .list 49 6 (fillR coinRow [iv 0, iv 0, iv 0, nl, iv 0, bv false] xs k))], 1⟩) (fun k => xs.length - k) 0 (Nat.zero_le _) ?_ ?_
  · refine Weak.of rfl rfl ktA ⟨⟨leafO ?_, rfl, rfl⟩, trivial⟩
    unfold fillR; simp
  intro k hk
  have hfl := fillR_len coinRow [iv 0, iv 0, iv 0, nl, iv 0, bv false] xs k hk
  refine Goes ?_
  repeat' first | refine W2.m ?_ ?_ | refine W1.m fun h => ?_ | fail
  · have hlt : k < xs.length := by omega
    rw [rowK coinRow xs k hlt]
    refine ⟨by rw [hL]; exact ⟨by omega, by omega, rfl⟩, ?_⟩
    refine Goes ?_
    repeat' first | refine W2.m ?_ ?_ | refine W1.m fun h => ?_ | fail
    first | refine CallP.is (toCoin_fr xs[k] _ (hf.locks _ (List.getElem_mem hlt))) rfl ?_ | refine CallQ.is (toCoin_fr xs[k] _ (hf.locks _ (List.getElem_mem hlt))) rfl rfl ?_
    refine Goes ?_
    repeat' first | refine W2.m ?_ ?_ | refine W1.m fun h => ?_ | fail
    refine ⟨k + 1, by omega, by omega, Weak.of rfl rfl ktA ⟨⟨leafO ?_, rfl, rfl⟩, trivial⟩⟩
    exact setRowR coinRow [iv 0, iv 0, iv 0, nl, iv 0, bv false] xs k hlt _ rfl _ rfl
  · obtain rfl : k = xs.length := by omega
    rw [fillR_all]
    refine FinOk.mk' [0] rfl rfl rfl rfl rfl rfl rfl ⟨?_, ?_, rfl⟩
    · rfl
    · rfl
theorem toCoinS_fr (xs : List CoinD) (n : Nat) (hf : FitsC xs) : Ret Tryz.prog 58 [coinsV xs] [] n true (Is (coinsV xs) [] n) :=
  Ret.freeze (by rintro _ _ _ ⟨rfl, rfl, rfl⟩; exact ⟨_, frCell (look_cons_eq _ _ _) (by simp), rfl, rfl, rfl⟩) (toCoinS_ret xs n hf)
theorem szCoin_ret (x : CoinD) (l : Int) (n : Nat) (h0 : 0 ≤ l) (h1 : l ≤ 1048576) (hl : x.lock.length ≤ 9223372036854775807) : Ret Tryz.prog 147 [coinV x, iv l] [] n true (Is (iv (leftI l x.lock.length)) [] n) := by
  refine Ret.fn ttOk Tryz.func147 rfl Tryz.call147 rfl rfl ?_
  refine Goes ?_
  repeat' first | refine W2.m ?_ ?_ | refine W1.m fun h => ?_ | fail
  first | refine CallP.is (szInt64S_ret x.lock l _ h0 h1 hl) rfl ?_ | refine CallQ.is (szInt64S_ret x.lock l _ h0 h1 hl) rfl rfl ?_
  refine Goes ?_
  repeat' first | refine W2.m ?_ ?_ | refine W1.m fun h => ?_ | fail
  · have h' : leftI l x.lock.length < 0 := h
    refine FinOk.pure rfl rfl rfl ⟨?_, rfl, rfl⟩
    rw [(leftI_neg h' h0).1]
  · refine FinOk.pure rfl rfl rfl ⟨?_, rfl, rfl⟩
    rfl
theorem szCoinS_ret (xs : List CoinD) (l : Int) (n : Nat) (h0 : 0 ≤ l) (h1 : l ≤ 1048576) (hm : MemC xs) : Ret Tryz.prog 56 [coinsV xs, iv l] [] n true (Is (iv (leftI l (xs.length + psum pCoin xs : Nat))) [] n) := by
  have hL : (xs.map coinRow).length = xs.length := by simp
  have hl := hm.len
  have he : IntKind.i64.wrap (l - (xs.map coinRow).length) = l - xs.length := by rw [hL, IntWalk.i64_in _ (by omega)]
  refine Ret.fn ttOk Tryz.func56 rfl Tryz.call56 rfl rfl ?_
  refine Goes ?_
  repeat' first | refine W2.m ?_ ?_ | refine W1.m fun h => ?_ | fail
  · rw [he] at h
    refine FinOk.pure rfl rfl rfl ⟨?_, rfl, rfl⟩
    unfold leftI; rw [if_neg (by omega)]
  rw [he] at h ⊢
  refine LoopP.go (fun k : Nat => k ≤ xs.length ∧ (xs.length + psum pCoin (xs.take k) : Nat) ≤ l) (fun k => ⟨[(0, coinsV xs), (1, iv (l - (xs.length + psum pCoin (xs.take k) : Nat))), (5, iv k)], [], 0⟩) (fun k => xs.length - k) 0 ⟨Nat.zero_le _, by simp [psum]; omega⟩ ?_ ?_
  · exact Weak.of rfl rfl ⟨⟨rfl, rfl⟩, ⟨leafI (by simp [psum]), rfl⟩, ⟨rfl, rfl⟩, trivial⟩ trivial
  intro k ⟨hk, hp⟩
  refine Goes ?_
  repeat' first | refine W2.m ?_ ?_ | refine W1.m fun h => ?_ | fail
  · have hlt : k < xs.length := by omega
    have hst : psum pCoin (xs.take (k + 1)) = psum pCoin (xs.take k) + xs[k].lock.length := psum_take pCoin xs k hlt
    have hle := psum_le pCoin xs (k + 1)
    rw [rowK coinRow xs k hlt]
    refine ⟨by rw [hL]; exact ⟨by omega, by omega, rfl⟩, ?_⟩
    refine Goes ?_
    repeat' first | refine W2.m ?_ ?_ | refine W1.m fun h => ?_ | fail
    first | refine CallP.is (szCoin_ret xs[k] _ _ (by omega) (by omega) (hm.locks _ (List.getElem_mem hlt))) rfl ?_ | refine CallQ.is (szCoin_ret xs[k] _ _ (by omega) (by omega) (hm.locks _ (List.getElem_mem hlt))) rfl rfl ?_
    refine Goes ?_
    repeat' first | refine W2.m ?_ ?_ | refine W1.m fun h => ?_ | fail
    · obtain ⟨g1, g2⟩ := leftI_neg h (by omega)
      refine FinOk.pure rfl rfl rfl ⟨?_, rfl, rfl⟩
      unfold leftI; rw [if_neg (by omega)]
    · obtain ⟨g1, g2⟩ := leftI_pos h
      rw [g1]
      exact ⟨k + 1, ⟨by omega, by omega⟩, by omega, Weak.of rfl rfl ⟨⟨rfl, rfl⟩, ⟨leafI (by rw [hst]; omega), rfl⟩, ⟨leafI numA, rfl⟩, trivial⟩ trivial⟩
  · obtain rfl : k = xs.length := by omega
    rw [List.take_length] at hp ⊢
    refine FinOk.pure rfl rfl rfl ⟨?_, rfl, rfl⟩
    unfold leftI; rw [if_pos (by omega)]
def sizeC (l : List CoinD) : Nat := l.length + psum pCoin l
theorem fitsC_of {l : List CoinD} (h : sizeC l ≤ 1048576) : FitsC l := by
  unfold sizeC at h
  exact ⟨by omega, fun c hc => by have := psum_mem pCoin l c hc; omega⟩
theorem eqCoin_ret (a b : CoinD) (n : Nat) (hl : pCoin a ≤ 1048576) : Ret Tryz.prog 153 [coinV a, coinV b] [] n true (Is (bv (decide (a = b))) [] n) := by
  refine Ret.fn ttOk Tryz.func153 rfl Tryz.call153 rfl rfl ?_
  refine Goes ?_
  repeat' first | refine W2.m ?_ ?_ | refine W1.m fun h => ?_ | fail
  · have h' : ¬ a.tx = b.tx := h
    refine FinOk.pure rfl rfl rfl ⟨?_, rfl, rfl⟩; refine bvI ?_; simp [coin_eq, h']
  · have h' : ¬ a.out = b.out := h
    refine FinOk.pure rfl rfl rfl ⟨?_, rfl, rfl⟩; refine bvI ?_; simp [coin_eq, h']
  · have h' : ¬ a.val = b.val := h
    refine FinOk.pure rfl rfl rfl ⟨?_, rfl, rfl⟩; refine bvI ?_; simp [coin_eq, h']
  have g1 : a.tx = b.tx := Decidable.not_not.1 (by assumption)
  have g2 : a.out = b.out := Decidable.not_not.1 (by assumption)
  have g3 : a.val = b.val := Decidable.not_not.1 (by assumption)
  first | refine CallP.is (eqInt64S_ret a.lock b.lock _ hl) rfl ?_ | refine CallQ.is (eqInt64S_ret a.lock b.lock _ hl) rfl rfl ?_
  refine Goes ?_
  repeat' first | refine W2.m ?_ ?_ | refine W1.m fun h => ?_ | fail
  · have h' : ¬ a.lock = b.lock := h
    refine FinOk.pure rfl rfl rfl ⟨?_, rfl, rfl⟩; refine bvI ?_; simp [coin_eq, h']
  · have h' : ¬ a.h = b.h := h
    refine FinOk.pure rfl rfl rfl ⟨?_, rfl, rfl⟩; refine bvI ?_; simp [coin_eq, h']
  · have g4 : a.lock = b.lock := by assumption
    have g5 : a.h = b.h := Decidable.not_not.1 (by assumption)
    have g6 := h
    refine FinOk.pure rfl rfl rfl ⟨?_, rfl, rfl⟩; refine bvI ?_; revert g6; cases h6 : a.base <;> cases h7 : b.base <;> simp [coin_eq, g1, g2, g3, g4, g5, h6, h7]
  · have g4 : a.lock = b.lock := by assumption
    have g5 : a.h = b.h := Decidable.not_not.1 (by assumption)
    have g6 := h
    refine FinOk.pure rfl rfl rfl ⟨?_, rfl, rfl⟩; refine bvI ?_; revert g6; cases h6 : a.base <;> cases h7 : b.base <;> simp [coin_eq, g1, g2, g3, g4, g5, h6, h7]
theorem eqCoinS_ret (a b : List CoinD) (n : Nat) (hf : FitsC a) : Ret Tryz.prog 60 [coinsV a, coinsV b] [] n true (Is (bv (decide (a = b))) [] n) := by
  have hL : (a.map coinRow).length = a.length := by simp
  have hM : (b.map coinRow).length = b.length := by simp
  have hl := hf.len
  refine Ret.fn ttOk Tryz.func60 rfl Tryz.call60 rfl rfl ?_
  refine Goes ?_
  repeat' first | refine W2.m ?_ ?_ | refine W1.m fun h => ?_ | fail
  · refine FinOk.pure rfl rfl rfl ⟨?_, rfl, rfl⟩
    refine bvI ?_
    have : a ≠ b := fun e => h (by rw [e])
    simp [this]
  · have hab : a.length = b.length := by omega
    refine LoopP.go (fun k : Nat => k ≤ a.length ∧ a.take k = b.take k) (fun k => ⟨[(0, coinsV a), (1, coinsV b), (5, iv k)], [], 0⟩) (fun k => a.length - k) 0 ⟨Nat.zero_le _, rfl⟩ (Weak.of rfl rfl ktA trivial) ?_
    intro k ⟨hk, hp⟩
    refine Goes ?_
    repeat' first | refine W2.m ?_ ?_ | refine W1.m fun h => ?_ | fail
    · have hka : k < a.length := by omega
      have hkb : k < b.length := by omega
      rw [rowK coinRow a k hka]
      refine ⟨by rw [hL]; exact ⟨by omega, by omega, rfl⟩, ?_⟩
      refine Goes ?_
      repeat' first | refine W2.m ?_ ?_ | refine W1.m fun h => ?_ | fail
      rw [rowK coinRow b k hkb]
      refine ⟨by rw [hM]; exact ⟨by omega, by omega, rfl⟩, ?_⟩
      refine Goes ?_
      repeat' first | refine W2.m ?_ ?_ | refine W1.m fun h => ?_ | fail
      first | refine CallP.is (eqCoin_ret a[k] b[k] _ (hf.locks _ (List.getElem_mem hka))) rfl ?_ | refine CallQ.is (eqCoin_ret a[k] b[k] _ (hf.locks _ (List.getElem_mem hka))) rfl rfl ?_
      refine Goes ?_
      repeat' first | refine W2.m ?_ ?_ | refine W1.m fun h => ?_ | fail
      · refine FinOk.pure rfl rfl rfl ⟨?_, rfl, rfl⟩
        refine bvI ?_
        have : a ≠ b := fun e => h (by subst e; rfl)
        simp [this]
      · have he : a[k] = b[k] := by assumption
        exact ⟨k + 1, ⟨by omega, by rw [takeS a k hka, takeS b k hkb, hp, he]⟩, by omega, (Weak.of rfl rfl ktA trivial)⟩
    · refine FinOk.pure rfl rfl rfl ⟨?_, rfl, rfl⟩
      refine bvI ?_
      rw [List.take_of_length_le (by omega), List.take_of_length_le (by omega)] at hp
      simp [hp]
theorem eqCoinS_yes (a : List CoinD) (n : Nat) (hf : FitsC a) : Ret Tryz.prog 60 [coinsV a, coinsV a] [] n true (Is (bv true) [] n) := by
  have := eqCoinS_ret a a n hf
  rwa [decide_eq_true rfl] at this
end Go.Proofs.YtfnehjminipaeaaGreat
