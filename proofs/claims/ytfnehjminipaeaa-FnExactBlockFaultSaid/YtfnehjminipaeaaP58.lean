/-
  CHAPTER 6: bits, subsidies.
-/
import Derived.Test.YtfnehjminipaeaaP37
namespace Go.Proofs.Ytfnehjminipaeaa
open Go Go.Am Go.RowKit
set_option linter.unusedVariables false
set_option linter.unusedSimpArgs false
def bitsB (b : Int) : Bool := decide (1 ≤ b ∧ b ≤ 1023 ∧ b % 256 ≠ 0)
/-- What is read at an exponent and a mantissa. -/
def tgF (e m : Int) : Int := (m + 1) * 2 ^ (7 * e).toNat - 1
theorem targetFrom_ret (e m : Int) (n : Nat) (he : 0 ≤ e ∧ e ≤ 3) (hm : 1 ≤ m ∧ m ≤ 255) : Ret Try.prog 61 [iv e, iv m] [] n true (Is (iv (tgF e m)) [] n) := by
  unfold tgF
  rcases (by omega : e = 0 ∨ e = 1 ∨ e = 2 ∨ e = 3) with rfl | rfl | rfl | rfl
  all_goals
    refine Ret.fn ttOk Try.func61 rfl Try.call61 rfl rfl ?_
    refine Goes ?_
    repeat' first | refine W2.m ?_ ?_ | refine W1.m fun h => ?_ | fail
    refine FinOk.pure rfl rfl rfl ⟨?_, rfl, rfl⟩
    refine ivI ?_
    simp (disch := omega) [IntKind.bits, IntWalk.i64_in]
/-- The target of bits, or the code that they are none. -/
def targR (b : Int) : List AV := if bitsB b = true then [iv 0, iv (tgF (b / 256) (b % 256))] else [iv 3, iv 0]
theorem implTargetOf_ret (b : Int) (n : Nat) (hb : isI64 b) : Ret Try.prog 43 [iv b] [] n true (Is (.agg (targR b)) [] n) := by
  unfold isI64 at hb
  by_cases h0 : b < 0
  · have e : targR b = [iv 3, iv 0] := by unfold targR bitsB; rw [if_neg (by simp; omega)]
    rw [e]
    refine Ret.fn ttOk Try.func43 rfl Try.call43 rfl rfl ?_
    refine Goes ?_
    repeat' first | refine W2.m ?_ ?_ | refine W1.m fun h => ?_ | fail
    refine FinOk.pure rfl rfl rfl ⟨?_, rfl, rfl⟩
    rfl
  · have hq : IntKind.i64.wrap (b.tdiv 256) = b / 256 := by rw [Int.tdiv_eq_ediv_of_nonneg (by omega), IntWalk.i64_in _ (by omega)]
    have hr : b.tmod 256 = b % 256 := Int.tmod_eq_emod_of_nonneg (by omega)
    by_cases h : bitsB b = true
    · have e : targR b = [iv 0, iv (tgF (b / 256) (b % 256))] := by unfold targR; rw [if_pos h]
      simp only [bitsB, decide_eq_true_eq] at h
      rw [e]
      refine Ret.fn ttOk Try.func43 rfl Try.call43 rfl rfl ?_
      refine Goes ?_
      repeat' first | refine W2.m ?_ ?_ | refine W1.m fun h => ?_ | fail
      all_goals first | (exfalso; rw [hq] at *; rw [hr] at *; omega) | (exfalso; omega) | skip
      rw [hq, hr]
      first | refine CallP.is (targetFrom_ret (b / 256) (b % 256) _ (by omega) (by omega)) rfl ?_ | refine CallQ.is (targetFrom_ret (b / 256) (b % 256) _ (by omega) (by omega)) rfl rfl ?_
      refine Goes ?_
      repeat' first | refine W2.m ?_ ?_ | refine W1.m fun h => ?_ | fail
      refine FinOk.pure rfl rfl rfl ⟨?_, rfl, rfl⟩
      rfl
    · have e : targR b = [iv 3, iv 0] := by unfold targR; rw [if_neg h]
      simp only [bitsB, decide_eq_true_eq] at h
      rw [e]
      refine Ret.fn ttOk Try.func43 rfl Try.call43 rfl rfl ?_
      refine Goes ?_
      repeat' first | refine W2.m ?_ ?_ | refine W1.m fun h => ?_ | fail
      all_goals first
        | (exfalso; omega)
        | (refine FinOk.pure rfl rfl rfl ⟨?_, rfl, rfl⟩; rfl)
theorem isBits_ret (b : Int) (n : Nat) (hb : isI64 b) : Ret Try.prog 24 [iv b] [] n true (Is (bv (bitsB b)) [] n) := by
  have ht := fun n => implTargetOf_ret b n hb
  unfold targR at ht
  cases h : bitsB b with
  | true =>
    rw [if_pos h] at ht
    refine Ret.fn ttOk Try.func24 rfl Try.call24 rfl rfl ?_
    refine Goes ?_
    repeat' first | refine W2.m ?_ ?_ | refine W1.m fun h => ?_ | fail
    first | refine CallP.is (ht _) rfl ?_ | refine CallQ.is (ht _) rfl rfl ?_
    refine Goes ?_
    repeat' first | refine W2.m ?_ ?_ | refine W1.m fun h => ?_ | fail
    refine FinOk.pure rfl rfl rfl ⟨?_, rfl, rfl⟩
    rfl
  | false =>
    rw [if_neg (by rw [h]; decide)] at ht
    refine Ret.fn ttOk Try.func24 rfl Try.call24 rfl rfl ?_
    refine Goes ?_
    repeat' first | refine W2.m ?_ ?_ | refine W1.m fun h => ?_ | fail
    first | refine CallP.is (ht _) rfl ?_ | refine CallQ.is (ht _) rfl rfl ?_
    refine Goes ?_
    repeat' first | refine W2.m ?_ ?_ | refine W1.m fun h => ?_ | fail
    refine FinOk.pure rfl rfl rfl ⟨?_, rfl, rfl⟩
    rfl
theorem l1Bits_ret (b : Int) (n : Nat) : Ret Try.prog 38 [iv b] [] n true (Is (bv (bitsB b)) [] n) := by
  have h1 := fun n => l1In_ret b 1 1023 n
  by_cases hb : inR 1 1023 b
  · rw [decide_eq_true hb] at h1
    have hr : b.tmod 256 = b % 256 := Int.tmod_eq_emod_of_nonneg (by have := hb.1; omega)
    unfold inR at hb
    refine Ret.fn ttOk Try.func38 rfl Try.call38 rfl rfl ?_
    refine Goes ?_
    repeat' first | refine W2.m ?_ ?_ | refine W1.m fun h => ?_ | fail
    first | refine CallP.is (h1 _) rfl ?_ | refine CallQ.is (h1 _) rfl rfl ?_
    refine Goes ?_
    repeat' first | refine W2.m ?_ ?_ | refine W1.m fun h => ?_ | fail
    refine FinOk.pure rfl rfl rfl ⟨?_, rfl, rfl⟩
    refine bvI ?_
    unfold bitsB
    rw [hr]
    have : (0 < b % 256) ↔ (1 ≤ b ∧ b ≤ 1023 ∧ b % 256 ≠ 0) := by omega
    exact decide_eq_decide.2 this
  · rw [decide_eq_false hb] at h1
    unfold inR at hb
    refine Ret.fn ttOk Try.func38 rfl Try.call38 rfl rfl ?_
    refine Goes ?_
    repeat' first | refine W2.m ?_ ?_ | refine W1.m fun h => ?_ | fail
    first | refine CallP.is (h1 _) rfl ?_ | refine CallQ.is (h1 _) rfl rfl ?_
    refine Goes ?_
    repeat' first | refine W2.m ?_ ?_ | refine W1.m fun h => ?_ | fail
    refine FinOk.pure rfl rfl rfl ⟨?_, rfl, rfl⟩
    refine bvI ?_
    unfold bitsB
    rw [decide_eq_false (by omega)]
theorem isTime_ret (z : Int) (n : Nat) : Ret Try.prog 23 [iv z] [] n true (Is (bv (decide (inR 1 99999 z))) [] n) := by
  refine Ret.fn ttOk Try.func23 rfl Try.call23 rfl rfl ?_
  refine Goes ?_
  repeat' first | refine W2.m ?_ ?_ | refine W1.m fun h => ?_ | fail
  all_goals (refine FinOk.pure rfl rfl rfl ⟨bvI ?_, rfl, rfl⟩; simp [inR, *])
theorem isNonce_ret (z : Int) (n : Nat) : Ret Try.prog 25 [iv z] [] n true (Is (bv (decide (inR 0 65535 z))) [] n) := by
  refine Ret.fn ttOk Try.func25 rfl Try.call25 rfl rfl ?_
  refine Goes ?_
  repeat' first | refine W2.m ?_ ?_ | refine W1.m fun h => ?_ | fail
  all_goals (refine FinOk.pure rfl rfl rfl ⟨bvI ?_, rfl, rfl⟩; simp [inR, *])
/-- 50, halved once for ten heights. -/
def subF (g : Int) : Int := 50 / 2 ^ ((g - 1) / 10).toNat
def subR (g : Int) : List AV := if inR 1 9999 g then [iv 0, iv (subF g)] else [iv 3, iv 0]
theorem sub_big : ∀ m : Nat, 6 ≤ m → (50 : Int) / 2 ^ m = 0 := by
  intro m hm
  have h : (64 : Int) ≤ 2 ^ m := by
    have := Nat.pow_le_pow_right (n := 2) (by decide) hm
    exact_mod_cast this
  exact Int.ediv_eq_zero_of_lt (by decide) (by omega)
theorem sub_min (k : Int) (m : Nat) (h0 : 0 ≤ k) (hm : 6 ≤ m) : (50 : Int).fdiv (2 ^ (min k.toNat m)) = 50 / 2 ^ k.toNat := by
  rw [Int.fdiv_eq_ediv_of_nonneg _ (by exact Int.le_of_lt (Int.pow_pos (by decide)))]
  by_cases h : k.toNat ≤ m
  · rw [Nat.min_eq_left h]
  · rw [Nat.min_eq_right (by omega), sub_big m hm, sub_big k.toNat (by omega)]
theorem implSubsidyAt_ret (g : Int) (n : Nat) : Ret Try.prog 18 [iv g] [] n true (Is (.agg (subR g)) [] n) := by
  have h1 := fun n => isHeight_ret g n
  by_cases hi : inR 1 9999 g
  · have e : subR g = [iv 0, iv (subF g)] := by unfold subR; rw [if_pos hi]
    rw [e]
    unfold inR at hi
    rw [decide_eq_true (by unfold inR; omega)] at h1
    have hs : IntKind.i64.wrap (g - 1) = g - 1 := IntWalk.i64_in _ (by omega)
    have hq : IntKind.i64.wrap ((g - 1).tdiv 10) = (g - 1) / 10 := by rw [Int.tdiv_eq_ediv_of_nonneg (by omega), IntWalk.i64_in _ (by omega)]
    refine Ret.fn ttOk Try.func18 rfl Try.call18 rfl rfl ?_
    refine Goes ?_
    repeat' first | refine W2.m ?_ ?_ | refine W1.m fun h => ?_ | fail
    first | refine CallP.is (h1 _) rfl ?_ | refine CallQ.is (h1 _) rfl rfl ?_
    refine Goes ?_
    repeat' first | refine W2.m ?_ ?_ | refine W1.m fun h => ?_ | fail
    rw [hs, hq]
    refine ⟨by omega, ?_⟩
    refine Goes ?_
    repeat' first | refine W2.m ?_ ?_ | refine W1.m fun h => ?_ | fail
    refine FinOk.pure rfl rfl rfl ⟨?_, rfl, rfl⟩
    rw [show ((50 : Int).fdiv (2 ^ (min ((g - 1) / 10).toNat IntKind.i64.bits))) = subF g from sub_min _ _ (by omega) (by decide)]
  · have e : subR g = [iv 3, iv 0] := by unfold subR; rw [if_neg hi]
    rw [e]
    by_cases hj : inR 0 9999 g
    · rw [decide_eq_true hj] at h1
      unfold inR at hi hj
      refine Ret.fn ttOk Try.func18 rfl Try.call18 rfl rfl ?_
      refine Goes ?_
      repeat' first | refine W2.m ?_ ?_ | refine W1.m fun h => ?_ | fail
      refine FinOk.pure rfl rfl rfl ⟨?_, rfl, rfl⟩
      rfl
    · rw [decide_eq_false hj] at h1
      unfold inR at hi hj
      refine Ret.fn ttOk Try.func18 rfl Try.call18 rfl rfl ?_
      refine Goes ?_
      repeat' first | refine W2.m ?_ ?_ | refine W1.m fun h => ?_ | fail
      all_goals first
        | (refine FinOk.pure rfl rfl rfl ⟨?_, rfl, rfl⟩; rfl)
        | (first | refine CallP.is (h1 _) rfl ?_ | refine CallQ.is (h1 _) rfl rfl ?_
           refine Goes ?_
           repeat' first | refine W2.m ?_ ?_ | refine W1.m fun h => ?_ | fail
           refine FinOk.pure rfl rfl rfl ⟨?_, rfl, rfl⟩
           rfl)
theorem l1Min_ret (a b : Int) (n : Nat) : Ret Try.prog 54 [iv a, iv b] [] n true (Is (iv (if a < b then a else b)) [] n) := by
  refine Ret.fn ttOk Try.func54 rfl Try.call54 rfl rfl ?_
  refine Goes ?_
  repeat' first | refine W2.m ?_ ?_ | refine W1.m fun h => ?_ | fail
  · refine FinOk.pure rfl rfl rfl ⟨?_, rfl, rfl⟩
    rw [if_pos (by assumption)]
  · refine FinOk.pure rfl rfl rfl ⟨?_, rfl, rfl⟩
    rw [if_neg (by assumption)]
theorem l6Subsidy_ret (g : Int) (n : Nat) (hi : inR 1 9999 g) : Ret Try.prog 34 [iv g] [] n true (Is (iv (subF g)) [] n) := by
  unfold inR at hi
  have hs : IntKind.i64.wrap (g - 1) = g - 1 := IntWalk.i64_in _ (by omega)
  have hq : IntKind.i64.wrap ((g - 1).tdiv 10) = (g - 1) / 10 := by rw [Int.tdiv_eq_ediv_of_nonneg (by omega), IntWalk.i64_in _ (by omega)]
  refine Ret.fn ttOk Try.func34 rfl Try.call34 rfl rfl ?_
  refine Goes ?_
  repeat' first | refine W2.m ?_ ?_ | refine W1.m fun h => ?_ | fail
  rw [hs, hq]
  first | refine CallP.is (l1Min_ret 60 ((g - 1) / 10) _) rfl ?_ | refine CallQ.is (l1Min_ret 60 ((g - 1) / 10) _) rfl rfl ?_
  refine Goes ?_
  repeat' first | refine W2.m ?_ ?_ | refine W1.m fun h => ?_ | fail
  have hw : IntKind.u64.wrap (if 60 < (g - 1) / 10 then 60 else (g - 1) / 10) = (if 60 < (g - 1) / 10 then 60 else (g - 1) / 10) := IntWalk.u64_in _ (by split <;> omega)
  rw [hw]
  refine ⟨by split <;> omega, ?_⟩
  refine Goes ?_
  repeat' first | refine W2.m ?_ ?_ | refine W1.m fun h => ?_ | fail
  refine FinOk.pure rfl rfl rfl ⟨?_, rfl, rfl⟩
  refine ivI ?_
  by_cases hc : 60 < (g - 1) / 10
  · rw [if_pos hc, sub_min 60 _ (by decide) (by decide)]
    unfold subF
    exact (sub_big _ (by decide)).trans (sub_big _ (by omega)).symm
  · rw [if_neg hc, sub_min _ _ (by omega) (by decide)]
    rfl
theorem specSubsidyAt_ret (g : Int) (n : Nat) : Ret Try.prog 17 [iv g] [] n true (Is (.agg (subR g)) [] n) := by
  have h1 := fun n => l1In_ret g 1 9999 n
  by_cases hi : inR 1 9999 g
  · have e : subR g = [iv 0, iv (subF g)] := by unfold subR; rw [if_pos hi]
    rw [e]
    rw [decide_eq_true hi] at h1
    refine Ret.fn ttOk Try.func17 rfl Try.call17 rfl rfl ?_
    refine Goes ?_
    repeat' first | refine W2.m ?_ ?_ | refine W1.m fun h => ?_ | fail
    first | refine CallP.is (h1 _) rfl ?_ | refine CallQ.is (h1 _) rfl rfl ?_
    refine Goes ?_
    repeat' first | refine W2.m ?_ ?_ | refine W1.m fun h => ?_ | fail
    first | refine CallP.is (l6Subsidy_ret g _ hi) rfl ?_ | refine CallQ.is (l6Subsidy_ret g _ hi) rfl rfl ?_
    refine Goes ?_
    repeat' first | refine W2.m ?_ ?_ | refine W1.m fun h => ?_ | fail
    refine FinOk.pure rfl rfl rfl ⟨?_, rfl, rfl⟩
    rfl
  · have e : subR g = [iv 3, iv 0] := by unfold subR; rw [if_neg hi]
    rw [e]
    rw [decide_eq_false hi] at h1
    refine Ret.fn ttOk Try.func17 rfl Try.call17 rfl rfl ?_
    refine Goes ?_
    repeat' first | refine W2.m ?_ ?_ | refine W1.m fun h => ?_ | fail
    first | refine CallP.is (h1 _) rfl ?_ | refine CallQ.is (h1 _) rfl rfl ?_
    refine Goes ?_
    repeat' first | refine W2.m ?_ ?_ | refine W1.m fun h => ?_ | fail
    refine FinOk.pure rfl rfl rfl ⟨?_, rfl, rfl⟩
    rfl
theorem eqIR_same (cs : List AV) (h : ∃ a b, cs = [iv a, iv b]) (n : Nat) : Ret Try.prog 14 [.agg cs, .agg cs] [] n true (Is (bv true) [] n) := by
  obtain ⟨a, b, rfl⟩ := h
  have := eqIntResult_ret a b a b n
  rwa [decide_eq_true rfl, decide_eq_true rfl] at this
theorem subR_two (g : Int) : ∃ a b, subR g = [iv a, iv b] := by
  unfold subR
  split <;> exact ⟨_, _, rfl⟩
theorem lawSubsidyAt (g : Int) (n : Nat) : Ret Try.prog 6 [iv g] [] n true (fun r _ _ => r = bv true) := by
  obtain ⟨x, y, hs⟩ := subR_two g
  have h1 := fun n => specSubsidyAt_ret g n
  have h2 := fun n => implSubsidyAt_ret g n
  rw [hs] at h1 h2
  refine Ret.fn ttOk Try.func6 rfl Try.call6 rfl rfl ?_
  refine Goes ?_
  repeat' first | refine W2.m ?_ ?_ | refine W1.m fun h => ?_ | fail
  first | refine CallP.is (h1 _) rfl ?_ | refine CallQ.is (h1 _) rfl rfl ?_
  refine Goes ?_
  repeat' first | refine W2.m ?_ ?_ | refine W1.m fun h => ?_ | fail
  first | refine CallP.is (h2 _) rfl ?_ | refine CallQ.is (h2 _) rfl rfl ?_
  refine Goes ?_
  repeat' first | refine W2.m ?_ ?_ | refine W1.m fun h => ?_ | fail
  first | refine CallP.is (eqIR_same _ ⟨x, y, rfl⟩ _) rfl ?_ | refine CallQ.is (eqIR_same _ ⟨x, y, rfl⟩ _) rfl rfl ?_
  refine Goes ?_
  repeat' first | refine W2.m ?_ ?_ | refine W1.m fun h => ?_ | fail
  exact FinOk.pure rfl rfl rfl rfl
end Go.Proofs.Ytfnehjminipaeaa
