/-
  CHAPTER 6: the laws of blocks.
-/
import Derived.Test.YtfnehjminipaeaaP61
namespace Go.Proofs.Ytfnehjminipaeaa
open Go Go.Am Go.RowKit
set_option linter.unusedVariables false
set_option linter.unusedSimpArgs false
theorem rootB_sum {b : BlkD} (h1 : 1 ≤ b.txs.length) (h2 : b.txs.length ≤ 4) : isSumI (rootB b) := by
  obtain ⟨g1, g2, g3⟩ := askC_ok.1 (sumsX_ask h1 h2)
  exact topW_sum _ ⟨g1, g2, g3⟩
theorem hdr_sumIR {b : BlkD} (h : blkF b = 0) : sumIR [b.prev, rootB b, b.time, b.bits, b.nonce] = [iv 0, iv (hdrB b)] := by
  obtain ⟨⟨a1, a2, a3, a4⟩, h1, h2, _⟩ := blkF_ok h
  have hr := rootB_sum h1 h2
  unfold isSumI at hr
  unfold inR at a1 a2 a4
  unfold bitsB at a3
  simp only [decide_eq_true_eq] at a3
  unfold sumIR
  rw [if_neg (by simp), if_pos]
  · rfl
  · rw [allB_iff]
    intro z hz
    simp only [List.mem_cons, List.not_mem_nil, or_false] at hz
    rcases hz with rfl | rfl | rfl | rfl | rfl <;> omega
theorem implHeaderSum_ret (b : BlkD) (n : Nat) (hf : FitsB b) (hb : isI64 b.bits) : Ret Try.prog 16 [blkV b] [] n true (Is (.agg (hsR b)) [] n) := by
  unfold hsR
  by_cases h : blkF b = 0
  · rw [if_pos h]
    refine Ret.fn ttOk Try.func16 rfl Try.call16 rfl rfl ?_
    refine Goes ?_
    repeat' first | refine W2.m ?_ ?_ | refine W1.m fun h => ?_ | fail
    first | refine CallP.is (sealBlock_ret b _ hf hb h) rfl ?_ | refine CallQ.is (sealBlock_ret b _ hf hb h) rfl rfl ?_
    refine Goes ?_
    repeat' first | refine W2.m ?_ ?_ | refine W1.m fun h => ?_ | fail
    first | refine CallP.is (header_sum b.prev (rootB b) b.time b.bits b.nonce _ (hdr_sumIR h)) rfl ?_ | refine CallQ.is (header_sum b.prev (rootB b) b.time b.bits b.nonce _ (hdr_sumIR h)) rfl rfl ?_
    refine Goes ?_
    repeat' first | refine W2.m ?_ ?_ | refine W1.m fun h => ?_ | fail
    refine FinOk.pure rfl rfl rfl ⟨?_, rfl, rfl⟩
    rfl
  · rw [if_neg h]
    refine Ret.fn ttOk Try.func16 rfl Try.call16 rfl rfl ?_
    refine Goes ?_
    repeat' first | refine W2.m ?_ ?_ | refine W1.m fun h => ?_ | fail
    first | refine CallP.is (sealBlock_no b _ hf hb h) rfl ?_ | refine CallQ.is (sealBlock_no b _ hf hb h) rfl rfl ?_
    refine Goes ?_
    repeat' first | refine W2.m ?_ ?_ | refine W1.m fun h => ?_ | fail
    refine FinOk.pure rfl rfl rfl ⟨?_, rfl, rfl⟩
    rfl
theorem lawBlockFault (b : BlkD) (n : Nat) (hm : MemB b) : Ret Try.prog 3 [blkV b] [] n true (fun r _ _ => r = bv true) := by
  refine Ret.fn ttOk Try.func3 rfl Try.call3 rfl rfl ?_
  refine Goes ?_
  repeat' first | refine W2.m ?_ ?_ | refine W1.m fun h => ?_ | fail
  first | refine CallP.is (szBlock_ret b 1048576 _ (by decide) (by decide) hm) rfl ?_ | refine CallQ.is (szBlock_ret b 1048576 _ (by decide) (by decide) hm) rfl rfl ?_
  refine Goes ?_
  repeat' first | refine W2.m ?_ ?_ | refine W1.m fun h => ?_ | fail
  · exact FinOk.pure rfl rfl rfl rfl
  have hf : FitsB b := fitsB_of (by have := (leftI_pos h).2; omega)
  first | refine CallP.is (toBlock_fr b _ hf) rfl ?_ | refine CallQ.is (toBlock_fr b _ hf) rfl rfl ?_
  refine Goes ?_
  repeat' first | refine W2.m ?_ ?_ | refine W1.m fun h => ?_ | fail
  first | refine CallP.is (specBlockFault_ret b _ hf) rfl ?_ | refine CallQ.is (specBlockFault_ret b _ hf) rfl rfl ?_
  refine Goes ?_
  repeat' first | refine W2.m ?_ ?_ | refine W1.m fun h => ?_ | fail
  first | refine CallP.is (toBlock_fr b _ hf) rfl ?_ | refine CallQ.is (toBlock_fr b _ hf) rfl rfl ?_
  refine Goes ?_
  repeat' first | refine W2.m ?_ ?_ | refine W1.m fun h => ?_ | fail
  first | refine CallP.is (implBlockFault_ret b _ hf hm.bits) rfl ?_ | refine CallQ.is (implBlockFault_ret b _ hf hm.bits) rfl rfl ?_
  refine Goes ?_
  repeat' first | refine W2.m ?_ ?_ | refine W1.m fun h => ?_ | fail
  first | refine CallQ.is (toBlock_fr b _ hf) rfl rfl ?_ | refine CallP.is (toBlock_fr b _ hf) rfl ?_
  refine Goes ?_
  repeat' first | refine W2.m ?_ ?_ | refine W1.m fun h => ?_ | fail
  first | refine CallP.is (eqBlock_yes b _ hf) rfl ?_ | refine CallQ.is (eqBlock_yes b _ hf) rfl rfl ?_
  refine Goes ?_
  repeat' first | refine W2.m ?_ ?_ | refine W1.m fun h => ?_ | fail
  exact FinOk.pure rfl rfl rfl rfl
theorem lawBlockRoot (b : BlkD) (n : Nat) (hm : MemB b) : Ret Try.prog 4 [blkV b] [] n true (fun r _ _ => r = bv true) := by
  obtain ⟨x, y, hs⟩ : ∃ x y, rtR b = [iv x, iv y] := by unfold rtR; split <;> exact ⟨_, _, rfl⟩
  have h1 := fun n => specBlockRoot_ret b n
  have h2 := fun n => implBlockRoot_ret b n
  rw [hs] at h1 h2
  refine Ret.fn ttOk Try.func4 rfl Try.call4 rfl rfl ?_
  refine Goes ?_
  repeat' first | refine W2.m ?_ ?_ | refine W1.m fun h => ?_ | fail
  first | refine CallP.is (szBlock_ret b 1048576 _ (by decide) (by decide) hm) rfl ?_ | refine CallQ.is (szBlock_ret b 1048576 _ (by decide) (by decide) hm) rfl rfl ?_
  refine Goes ?_
  repeat' first | refine W2.m ?_ ?_ | refine W1.m fun h => ?_ | fail
  · exact FinOk.pure rfl rfl rfl rfl
  have hf : FitsB b := fitsB_of (by have := (leftI_pos h).2; omega)
  first | refine CallP.is (toBlock_fr b _ hf) rfl ?_ | refine CallQ.is (toBlock_fr b _ hf) rfl rfl ?_
  refine Goes ?_
  repeat' first | refine W2.m ?_ ?_ | refine W1.m fun h => ?_ | fail
  first | refine CallP.is (h1 _ hf) rfl ?_ | refine CallQ.is (h1 _ hf) rfl rfl ?_
  refine Goes ?_
  repeat' first | refine W2.m ?_ ?_ | refine W1.m fun h => ?_ | fail
  first | refine CallP.is (toBlock_fr b _ hf) rfl ?_ | refine CallQ.is (toBlock_fr b _ hf) rfl rfl ?_
  refine Goes ?_
  repeat' first | refine W2.m ?_ ?_ | refine W1.m fun h => ?_ | fail
  first | refine CallP.is (h2 _ hf hm.bits) rfl ?_ | refine CallQ.is (h2 _ hf hm.bits) rfl rfl ?_
  refine Goes ?_
  repeat' first | refine W2.m ?_ ?_ | refine W1.m fun h => ?_ | fail
  first | refine CallP.is (eqIR_same _ ⟨x, y, rfl⟩ _) rfl ?_ | refine CallQ.is (eqIR_same _ ⟨x, y, rfl⟩ _) rfl rfl ?_
  refine Goes ?_
  repeat' first | refine W2.m ?_ ?_ | refine W1.m fun h => ?_ | fail
  first | refine CallQ.is (toBlock_fr b _ hf) rfl rfl ?_ | refine CallP.is (toBlock_fr b _ hf) rfl ?_
  refine Goes ?_
  repeat' first | refine W2.m ?_ ?_ | refine W1.m fun h => ?_ | fail
  first | refine CallP.is (eqBlock_yes b _ hf) rfl ?_ | refine CallQ.is (eqBlock_yes b _ hf) rfl rfl ?_
  refine Goes ?_
  repeat' first | refine W2.m ?_ ?_ | refine W1.m fun h => ?_ | fail
  exact FinOk.pure rfl rfl rfl rfl
theorem lawHeaderSum (b : BlkD) (n : Nat) (hm : MemB b) : Ret Try.prog 5 [blkV b] [] n true (fun r _ _ => r = bv true) := by
  obtain ⟨x, y, hs⟩ : ∃ x y, hsR b = [iv x, iv y] := by unfold hsR; split <;> exact ⟨_, _, rfl⟩
  have h1 := fun n => specHeaderSum_ret b n
  have h2 := fun n => implHeaderSum_ret b n
  rw [hs] at h1 h2
  refine Ret.fn ttOk Try.func5 rfl Try.call5 rfl rfl ?_
  refine Goes ?_
  repeat' first | refine W2.m ?_ ?_ | refine W1.m fun h => ?_ | fail
  first | refine CallP.is (szBlock_ret b 1048576 _ (by decide) (by decide) hm) rfl ?_ | refine CallQ.is (szBlock_ret b 1048576 _ (by decide) (by decide) hm) rfl rfl ?_
  refine Goes ?_
  repeat' first | refine W2.m ?_ ?_ | refine W1.m fun h => ?_ | fail
  · exact FinOk.pure rfl rfl rfl rfl
  have hf : FitsB b := fitsB_of (by have := (leftI_pos h).2; omega)
  first | refine CallP.is (toBlock_fr b _ hf) rfl ?_ | refine CallQ.is (toBlock_fr b _ hf) rfl rfl ?_
  refine Goes ?_
  repeat' first | refine W2.m ?_ ?_ | refine W1.m fun h => ?_ | fail
  first | refine CallP.is (h1 _ hf) rfl ?_ | refine CallQ.is (h1 _ hf) rfl rfl ?_
  refine Goes ?_
  repeat' first | refine W2.m ?_ ?_ | refine W1.m fun h => ?_ | fail
  first | refine CallP.is (toBlock_fr b _ hf) rfl ?_ | refine CallQ.is (toBlock_fr b _ hf) rfl rfl ?_
  refine Goes ?_
  repeat' first | refine W2.m ?_ ?_ | refine W1.m fun h => ?_ | fail
  first | refine CallP.is (h2 _ hf hm.bits) rfl ?_ | refine CallQ.is (h2 _ hf hm.bits) rfl rfl ?_
  refine Goes ?_
  repeat' first | refine W2.m ?_ ?_ | refine W1.m fun h => ?_ | fail
  first | refine CallP.is (eqIR_same _ ⟨x, y, rfl⟩ _) rfl ?_ | refine CallQ.is (eqIR_same _ ⟨x, y, rfl⟩ _) rfl rfl ?_
  refine Goes ?_
  repeat' first | refine W2.m ?_ ?_ | refine W1.m fun h => ?_ | fail
  first | refine CallQ.is (toBlock_fr b _ hf) rfl rfl ?_ | refine CallP.is (toBlock_fr b _ hf) rfl ?_
  refine Goes ?_
  repeat' first | refine W2.m ?_ ?_ | refine W1.m fun h => ?_ | fail
  first | refine CallP.is (eqBlock_yes b _ hf) rfl ?_ | refine CallQ.is (eqBlock_yes b _ hf) rfl rfl ?_
  refine Goes ?_
  repeat' first | refine W2.m ?_ ?_ | refine W1.m fun h => ?_ | fail
  exact FinOk.pure rfl rfl rfl rfl
end Go.Proofs.Ytfnehjminipaeaa
