/-
  CHAPTER 5: the law of SpendFault, by the reading (the great seat).
-/
import Derived.Test.YtfnehjminipaeaaGreatP55
namespace Go.Proofs.YtfnehjminipaeaaGreat
open Go Go.Am Go.RowKit
set_option linter.unusedVariables false
set_option linter.unusedSimpArgs false
theorem lawSpendFault (l : List CoinD) (t : TxD) (hg : Int) (n : Nat) (hm : MemC l) (hm2 : Mem t) : Ret Tryz.prog 8 [coinsV l, txV t, iv hg] [] n true (fun r _ _ => r = bv true) := by
  refine Ret.fn ttOk Tryz.func8 rfl Tryz.call8 rfl rfl ?_
  refine Goes ?_
  repeat' first | refine W2.m ?_ ?_ | refine W1.m fun h => ?_ | fail
  first | refine CallP.is (szCoinS_ret l 1048576 _ (by decide) (by decide) hm) rfl ?_ | refine CallQ.is (szCoinS_ret l 1048576 _ (by decide) (by decide) hm) rfl rfl ?_
  refine Goes ?_
  repeat' first | refine W2.m ?_ ?_ | refine W1.m fun h => ?_ | fail
  · exact FinOk.pure rfl rfl rfl rfl
  have hp1 := leftI_pos (by assumption)
  have hsz : sizeC l ≤ 1048576 := by have := hp1.2; unfold sizeC; omega
  have hfc := fitsC_of hsz
  first | refine CallP.is (szTx_ret t _ _ (by omega) (by unfold leftI; split <;> omega) hm2) rfl ?_ | refine CallQ.is (szTx_ret t _ _ (by omega) (by unfold leftI; split <;> omega) hm2) rfl rfl ?_
  refine Goes ?_
  repeat' first | refine W2.m ?_ ?_ | refine W1.m fun h => ?_ | fail
  · exact FinOk.pure rfl rfl rfl rfl
  have hf : Fits t := fits_of (by have := leftI_pos (by assumption : ¬ leftI (leftI 1048576 ↑(l.length + psum pCoin l)) ↑(sizeX t) < 0); omega)
  first | refine CallQ.is (toCoinS_fr l _ hfc) rfl rfl ?_ | refine CallP.is (toCoinS_fr l _ hfc) rfl ?_
  refine Goes ?_
  repeat' first | refine W2.m ?_ ?_ | refine W1.m fun h => ?_ | fail
  first | refine CallQ.is (toTx_fr t _ hf) rfl rfl ?_ | refine CallP.is (toTx_fr t _ hf) rfl ?_
  refine Goes ?_
  repeat' first | refine W2.m ?_ ?_ | refine W1.m fun h => ?_ | fail
  first | refine CallP.is (specSpendFault_ret l t hg _ hfc.len hf) rfl ?_ | refine CallQ.is (specSpendFault_ret l t hg _ hfc.len hf) rfl rfl ?_
  refine Goes ?_
  repeat' first | refine W2.m ?_ ?_ | refine W1.m fun h => ?_ | fail
  first | refine CallP.is (toCoinS_fr l _ hfc) rfl ?_ | refine CallQ.is (toCoinS_fr l _ hfc) rfl rfl ?_
  refine Goes ?_
  repeat' first | refine W2.m ?_ ?_ | refine W1.m fun h => ?_ | fail
  first | refine CallP.is (toTx_fr t _ hf) rfl ?_ | refine CallQ.is (toTx_fr t _ hf) rfl rfl ?_
  refine Goes ?_
  repeat' first | refine W2.m ?_ ?_ | refine W1.m fun h => ?_ | fail
  first | refine CallP.is (implSpendFault_ret l t hg _ hfc.len hf) rfl ?_ | refine CallQ.is (implSpendFault_ret l t hg _ hfc.len hf) rfl rfl ?_
  refine Goes ?_
  repeat' first | refine W2.m ?_ ?_ | refine W1.m fun h => ?_ | fail
  first | refine CallP.is (toCoinS_fr l _ hfc) rfl ?_ | refine CallQ.is (toCoinS_fr l _ hfc) rfl rfl ?_
  refine Goes ?_
  repeat' first | refine W2.m ?_ ?_ | refine W1.m fun h => ?_ | fail
  first | refine CallP.is (eqCoinS_yes l _ hfc) rfl ?_ | refine CallQ.is (eqCoinS_yes l _ hfc) rfl rfl ?_
  refine Goes ?_
  repeat' first | refine W2.m ?_ ?_ | refine W1.m fun h => ?_ | fail
  first | refine CallQ.is (toTx_fr t _ hf) rfl rfl ?_ | refine CallP.is (toTx_fr t _ hf) rfl ?_
  refine Goes ?_
  repeat' first | refine W2.m ?_ ?_ | refine W1.m fun h => ?_ | fail
  first | refine CallP.is (eqTx_yes t _ hf) rfl ?_ | refine CallQ.is (eqTx_yes t _ hf) rfl rfl ?_
  refine Goes ?_
  repeat' first | refine W2.m ?_ ?_ | refine W1.m fun h => ?_ | fail
  exact FinOk.pure rfl rfl rfl rfl
end Go.Proofs.YtfnehjminipaeaaGreat
