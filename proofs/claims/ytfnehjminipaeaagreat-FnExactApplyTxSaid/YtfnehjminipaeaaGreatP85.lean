import Derived.Test.YtfnehjminipaeaaGreatP83
import Derived.Test.YtfnehjminipaeaaGreatP53
import Derived.Test.YtfnehjminipaeaaGreatP44
import Derived.Test.YtfnehjminipaeaaGreatP20
import Derived.Test.YtfnehjminipaeaaGreatP11
/-
  CHAPTER 5: the law of ApplyTx, by the reading.
-/
namespace Go.Proofs.YtfnehjminipaeaaGreat
open Go Go.Am Go.RowKit
set_option linter.unusedVariables false
set_option linter.unusedSimpArgs false
theorem fitsNil : FitsC [] := fitsC_of (by decide)
theorem lawApplyTx_bad (l : List CoinD) (t : TxD) (hg z : Int) (n : Nat) (hm : MemC l) (hm2 : Mem t) (hs : ∀ n, FitsC l → Fits t → Ret Tryz.prog 19 [coinsV l, txV t, iv hg] [] n true (Is (coinsBad z) [] n)) (hi : ∀ n, FitsC l → Fits t → Ret Tryz.prog 13 [coinsV l, txV t, iv hg] [] n true (Is (coinsBad z) [] n)) : Ret Tryz.prog 9 [coinsV l, txV t, iv hg] [] n true (fun r _ _ => r = bv true) := by
  refine Ret.fn ttOk Tryz.func9 rfl Tryz.call9 rfl rfl ?_
  refine Goes ?_
  repeat' first | refine W2.m ?_ ?_ | refine W1.m fun h => ?_ | fail
  first | refine CallP.is (szCoinS_ret l 1048576 _ (by decide) (by decide) hm) rfl ?_ | refine CallQ.is (szCoinS_ret l 1048576 _ (by decide) (by decide) hm) rfl rfl ?_
  refine Goes ?_
  repeat' first | refine W2.m ?_ ?_ | refine W1.m fun h => ?_ | fail
  · exact FinOk.pure rfl rfl rfl rfl
  have hp1 := leftI_pos (by assumption)
  have hsz : sizeC l ≤ 1048576 := by have := hp1.2; unfold sizeC; omega
  have hfc := fitsC_of hsz
  first | refine CallP.is (szTx_ret t _ _ (by omega) (by unfold leftI; split <;> omega) hm2) rfl ?_ | refine CallQ.is (szTx_ret t _ _ (by omega) (by unfold leftI; split <;> omega) hm2) rfl rfl ?_
  refine Goes ?_
  repeat' first | refine W2.m ?_ ?_ | refine W1.m fun h => ?_ | fail
  · exact FinOk.pure rfl rfl rfl rfl
  have hst : sizeX t ≤ 1048576 := by have := leftI_pos (by assumption : ¬ leftI (leftI 1048576 ↑(l.length + psum pCoin l)) ↑(sizeX t) < 0); omega
  have hf : Fits t := fits_of hst
  have hncs := nCs_eq l 1
  unfold sizeC at hsz
  refine CallN.is rfl (fun n => toCoinS_fr l n hfc) ?_
  refine Goes ?_
  repeat' first | refine W2.m ?_ ?_ | refine W1.m fun h => ?_ | fail
  refine CallN.is rfl (fun n => toTx_fr t n hf) ?_
  refine Goes ?_
  repeat' first | refine W2.m ?_ ?_ | refine W1.m fun h => ?_ | fail
  refine CallN.is rfl (fun n => hs n hfc hf) ?_
  refine Goes ?_
  repeat' first | refine W2.m ?_ ?_ | refine W1.m fun h => ?_ | fail
  first | refine CallP.is (toCoinS_own l _ hfc) rfl ?_ | refine CallQ.is (toCoinS_own l _ hfc) rfl rfl ?_
  refine Goes ?_
  repeat' first | refine W2.m ?_ ?_ | refine W1.m fun h => ?_ | fail
  first | refine CallP.is (toTx_own t _ hf) rfl ?_ | refine CallQ.is (toTx_own t _ hf) rfl rfl ?_
  refine Goes ?_
  repeat' first | refine W2.m ?_ ?_ | refine W1.m fun h => ?_ | fail
  refine CallP.convAIs (hi _ hfc hf) ⟨cvNest rfl rfl (fzCoin l) (by simp), cvTx rfl rfl, cvSame rfl, trivial⟩ rfl trivial ?_
  refine Goes ?_
  repeat' first | refine W2.m ?_ ?_ | refine W1.m fun h => ?_ | fail
  refine CallP.convAIs (eqCoinsResult_yes z 0 [] [] _ fitsNil fitsNil) ⟨cvAgg ⟨cvcSame rfl, cvcSame rfl, cvcNil, cvcNil, trivial⟩, cvAgg ⟨cvcSame rfl, cvcSame rfl, cvcNil, cvcNil, trivial⟩, trivial⟩ rfl trivial ?_
  refine Goes ?_
  repeat' first | refine W2.m ?_ ?_ | refine W1.m fun h => ?_ | fail
  first | refine CallP.is (toCoinS_fr l _ hfc) rfl ?_ | refine CallQ.is (toCoinS_fr l _ hfc) rfl rfl ?_
  refine Goes ?_
  repeat' first | refine W2.m ?_ ?_ | refine W1.m fun h => ?_ | fail
  refine CallP.convAIs (eqCoinS_yes l _ hfc) ⟨cvNest rfl rfl (fzCoin l) (by simp), cvSame rfl, trivial⟩ rfl trivial ?_
  refine Goes ?_
  repeat' first | refine W2.m ?_ ?_ | refine W1.m fun h => ?_ | fail
  first | refine CallQ.is (toTx_fr t _ hf) rfl rfl ?_ | refine CallP.is (toTx_fr t _ hf) rfl ?_
  refine Goes ?_
  repeat' first | refine W2.m ?_ ?_ | refine W1.m fun h => ?_ | fail
  refine CallP.convAIs (eqTx_yes t _ hf) ⟨cvTx rfl rfl, cvAgg ⟨cvcSame rfl, cvcSame rfl, cvcSame rfl, trivial⟩, trivial⟩ rfl trivial ?_
  refine Goes ?_
  repeat' first | refine W2.m ?_ ?_ | refine W1.m fun h => ?_ | fail
  refine CallP.heapIs (markCoinS_own l 2 1 _ (by omega) (by omega) (by decide)) rfl ktA rfl ?_
  refine Goes ?_
  repeat' first | refine W2.m ?_ ?_ | refine W1.m fun h => ?_ | fail
  refine CallP.heapIs (markTx_own t 3 4 (nCs 1 l) _ (by decide) hst (by omega)) rfl ktA rfl ?_
  refine Goes ?_
  repeat' first | refine W2.m ?_ ?_ | refine W1.m fun h => ?_ | fail
  refine CallP.convAIs (eqCoinsResult_yes z 0 [] [] _ fitsNil fitsNil) ⟨cvAgg ⟨cvcSame rfl, cvcSame rfl, cvcNil, cvcNil, trivial⟩, cvAgg ⟨cvcSame rfl, cvcSame rfl, cvcNil, cvcNil, trivial⟩, trivial⟩ rfl trivial ?_
  refine Goes ?_
  repeat' first | refine W2.m ?_ ?_ | refine W1.m fun h => ?_ | fail
  first | refine CallP.is (markCoinsResult_nil z 0 1 _) rfl ?_ | refine CallQ.is (markCoinsResult_nil z 0 1 _) rfl rfl ?_
  refine Goes ?_
  repeat' first | refine W2.m ?_ ?_ | refine W1.m fun h => ?_ | fail
  refine CallP.convAIs (heldCoinsResult_rd z 0 [] [] 1 _ (by decide) (by decide) (by decide) (by decide) (by decide)) ⟨cvAgg ⟨cvcSame rfl, cvcSame rfl, cvcNil, cvcNil, trivial⟩, cvSame rfl, trivial⟩ rfl trivial ?_
  refine Goes ?_
  repeat' first | refine W2.m ?_ ?_ | refine W1.m fun h => ?_ | fail
  refine CallN.is rfl (fun n => toCoinS_fr l n hfc) ?_
  refine Goes ?_
  repeat' first | refine W2.m ?_ ?_ | refine W1.m fun h => ?_ | fail
  refine CallN.is rfl (fun n => toTx_fr t n hf) ?_
  refine Goes ?_
  repeat' first | refine W2.m ?_ ?_ | refine W1.m fun h => ?_ | fail
  refine CallN.is rfl (fun n => hi n hfc hf) ?_
  refine Goes ?_
  repeat' first | refine W2.m ?_ ?_ | refine W1.m fun h => ?_ | fail
  refine CallP.convAIs (eqCoinsResult_yes z 0 [] [] _ fitsNil fitsNil) ⟨cvAgg ⟨cvcSame rfl, cvcSame rfl, cvcNil, cvcNil, trivial⟩, cvAgg ⟨cvcSame rfl, cvcSame rfl, cvcNil, cvcNil, trivial⟩, trivial⟩ rfl trivial ?_
  refine Goes ?_
  repeat' first | refine W2.m ?_ ?_ | refine W1.m fun h => ?_ | fail
  refine CallP.convAIs (heldCoinsResult_rd z 0 [] [] 1 _ (by decide) (by decide) (by decide) (by decide) (by decide)) ⟨cvAgg ⟨cvcSame rfl, cvcSame rfl, cvcNil, cvcNil, trivial⟩, cvSame rfl, trivial⟩ rfl trivial ?_
  refine Goes ?_
  repeat' first | refine W2.m ?_ ?_ | refine W1.m fun h => ?_ | fail
  exact FinOk.pure rfl rfl rfl rfl
theorem coinC_len {c : CoinD} (h : coinC c = 0) : pCoin c ≤ 12 := by
  unfold coinC at h
  split at h
  · exact (progC_ok h).1
  · cases h
theorem coins_size {l : List CoinD} (h : coinsC l = 0) : l.length ≤ 40 ∧ ∀ c ∈ l, pCoin c ≤ 12 :=
  ⟨(coinsC_ok h).1, fun c hc => coinC_len (cgC_all _ _ (coinsC_ok h).2.1 c hc)⟩
theorem applyC_more {l : List CoinD} {t : TxD} {hg : Int} (h : applyC l t hg = 0) : (∀ x ∈ t.2.1, ∃ c, atC l x.1 x.2.1 = some c) ∧ coinsC (newC l t hg) = 0 := by
  obtain ⟨h0, hz, hh⟩ := applyC_parts h
  unfold applyC at h
  rw [if_neg (fun e => e h0), if_neg (fun e => e hz), if_neg (fun e => e hh)] at h
  by_cases h1 : ¬ t.2.1.length = 0 ∧ spendQ l t hg ≠ 0
  · rw [if_pos h1] at h; exact absurd h h1.2
  rw [if_neg h1] at h
  by_cases h2 : ((madeC t hg).any fun c => (atC l c.tx c.out).isSome) = true
  · rw [if_pos h2] at h; cases h
  rw [if_neg h2] at h
  exact ⟨spendQ_ins h1, h⟩
theorem apply_fits {l : List CoinD} {t : TxD} {hg : Int} (hfc : FitsC l) (hf : Fits t) (h : applyC l t hg = 0) : FitsC (takenC l t) ∧ FitsC (newC l t hg) ∧ (takenC l t).length ≤ 1048576 ∧ (newC l t hg).length ≤ 1048576 ∧ psum pCoin (takenC l t) ≤ 1048576 ∧ psum pCoin (newC l t hg) ≤ 1048576 := by
  obtain ⟨h0, hz, hh⟩ := applyC_parts h
  obtain ⟨hi, hn⟩ := applyC_more h
  have a1 := takenC_len l t
  have a2 := (fault_ok hz).2.1
  have b1 := coins_size h0
  have b2 := coins_size hn
  have a3 : ∀ c ∈ takenC l t, pCoin c ≤ 12 := fun c hc => b1.2 c (takenC_mem hi hc)
  have c1 := psum_bd pCoin 12 _ a3
  have c2 := psum_bd pCoin 12 _ b2.2
  exact ⟨⟨by omega, fun c hc => by have := a3 c hc; omega⟩, ⟨by omega, fun c hc => by have := b2.2 c hc; omega⟩, by omega, by omega, by omega, by omega⟩
theorem flCoin (xs : List CoinD) : flatO (.nest (c := true) 49 6 (xs.map coinT)) := flatMap' (fun x c hc => by
  simp only [List.mem_cons, List.not_mem_nil, or_false] at hc
  rcases hc with rfl | rfl | rfl | rfl | rfl | rfl
  · exact .val _
  · exact .val _
  · exact .val _
  · exact flTl _
  · exact .val _
  · exact .val _) xs
theorem cvCoins2 {hp : Hp} {a b : Bool} {i j k m : Nat} {f : Int} {xs ys : List CoinD} (h1 : Go.Am.look hp i = some (AObj.nest (c := a) 49 6 (xs.map coinT))) (h2 : Go.Am.look hp j = some (AObj.nest (c := b) 49 6 (ys.map coinT))) (hk : k = xs.length) (hm : m = ys.length) : Cv hp [] false (.agg [iv 0, iv f, .own i k, .own j m]) (.agg [iv 0, iv f, coinsV xs, coinsV ys]) :=
  cvAgg ⟨cvcSame rfl, cvcSame rfl, cvcNest h1 rfl (fzCoin _) (by simpa using hk), cvcNest h2 rfl (fzCoin _) (by simpa using hm), trivial⟩
theorem cvCoinsS {hp : Hp} {f : Int} {xs ys : List CoinD} : Cv hp [] false (.agg [iv 0, iv f, coinsV xs, coinsV ys]) (.agg [iv 0, iv f, coinsV xs, coinsV ys]) :=
  cvAgg ⟨cvcSame rfl, cvcSame rfl, cvcSame rfl, cvcSame rfl, trivial⟩
theorem lawApplyTx_ok (l : List CoinD) (t : TxD) (hg : Int) (n : Nat) (hm : MemC l) (hm2 : Mem t) (hA : applyC l t hg = 0) : Ret Tryz.prog 9 [coinsV l, txV t, iv hg] [] n true (fun r _ _ => r = bv true) := by
  refine Ret.fn ttOk Tryz.func9 rfl Tryz.call9 rfl rfl ?_
  refine Goes ?_
  repeat' first | refine W2.m ?_ ?_ | refine W1.m fun h => ?_ | fail
  first | refine CallP.is (szCoinS_ret l 1048576 _ (by decide) (by decide) hm) rfl ?_ | refine CallQ.is (szCoinS_ret l 1048576 _ (by decide) (by decide) hm) rfl rfl ?_
  refine Goes ?_
  repeat' first | refine W2.m ?_ ?_ | refine W1.m fun h => ?_ | fail
  · exact FinOk.pure rfl rfl rfl rfl
  have hp1 := leftI_pos (by assumption)
  have hsz : sizeC l ≤ 1048576 := by have := hp1.2; unfold sizeC; omega
  have hfc := fitsC_of hsz
  first | refine CallP.is (szTx_ret t _ _ (by omega) (by unfold leftI; split <;> omega) hm2) rfl ?_ | refine CallQ.is (szTx_ret t _ _ (by omega) (by unfold leftI; split <;> omega) hm2) rfl rfl ?_
  refine Goes ?_
  repeat' first | refine W2.m ?_ ?_ | refine W1.m fun h => ?_ | fail
  · exact FinOk.pure rfl rfl rfl rfl
  have hst : sizeX t ≤ 1048576 := by have := leftI_pos (by assumption : ¬ leftI (leftI 1048576 ↑(l.length + psum pCoin l)) ↑(sizeX t) < 0); omega
  have hf : Fits t := fits_of hst
  have hncs := nCs_eq l 1
  unfold sizeC at hsz
  obtain ⟨hfA, hfB, hlA, hlB, hpA, hpB⟩ := apply_fits hfc hf hA
  refine CallN.is rfl (fun n => toCoinS_fr l n hfc) ?_
  refine Goes ?_
  repeat' first | refine W2.m ?_ ?_ | refine W1.m fun h => ?_ | fail
  refine CallN.is rfl (fun n => toTx_fr t n hf) ?_
  refine Goes ?_
  repeat' first | refine W2.m ?_ ?_ | refine W1.m fun h => ?_ | fail
  refine CallN.is rfl (fun n => specApply_fr l t hg n hfc hf hA) ?_
  refine Goes ?_
  repeat' first | refine W2.m ?_ ?_ | refine W1.m fun h => ?_ | fail
  first | refine CallP.is (toCoinS_own l _ hfc) rfl ?_ | refine CallQ.is (toCoinS_own l _ hfc) rfl rfl ?_
  refine Goes ?_
  repeat' first | refine W2.m ?_ ?_ | refine W1.m fun h => ?_ | fail
  first | refine CallP.is (toTx_own t _ hf) rfl ?_ | refine CallQ.is (toTx_own t _ hf) rfl rfl ?_
  refine Goes ?_
  repeat' first | refine W2.m ?_ ?_ | refine W1.m fun h => ?_ | fail
  refine CallP.convAIs (implApply_ok l t hg _ hfc hf hA) ⟨cvNest rfl rfl (fzCoin l) (by simp), cvTx rfl rfl, cvSame rfl, trivial⟩ rfl ⟨flCoin _, flCoin _, trivial⟩ ?_
  refine Goes ?_
  repeat' first | refine W2.m ?_ ?_ | refine W1.m fun h => ?_ | fail
  refine CallP.convAIs (eqCoinsResult_yes 0 (feeC l t) (takenC l t) (newC l t hg) _ hfA hfB) ⟨cvCoins2 rfl rfl rfl rfl, cvCoinsS, trivial⟩ rfl trivial ?_
  refine Goes ?_
  repeat' first | refine W2.m ?_ ?_ | refine W1.m fun h => ?_ | fail
  first | refine CallP.is (toCoinS_fr l _ hfc) rfl ?_ | refine CallQ.is (toCoinS_fr l _ hfc) rfl rfl ?_
  refine Goes ?_
  repeat' first | refine W2.m ?_ ?_ | refine W1.m fun h => ?_ | fail
  refine CallP.convAIs (eqCoinS_yes l _ hfc) ⟨cvNest rfl rfl (fzCoin l) (by simp), cvSame rfl, trivial⟩ rfl trivial ?_
  refine Goes ?_
  repeat' first | refine W2.m ?_ ?_ | refine W1.m fun h => ?_ | fail
  first | refine CallQ.is (toTx_fr t _ hf) rfl rfl ?_ | refine CallP.is (toTx_fr t _ hf) rfl ?_
  refine Goes ?_
  repeat' first | refine W2.m ?_ ?_ | refine W1.m fun h => ?_ | fail
  refine CallP.convAIs (eqTx_yes t _ hf) ⟨cvTx rfl rfl, cvAgg ⟨cvcSame rfl, cvcSame rfl, cvcSame rfl, trivial⟩, trivial⟩ rfl trivial ?_
  refine Goes ?_
  repeat' first | refine W2.m ?_ ?_ | refine W1.m fun h => ?_ | fail
  refine CallP.heapIs (markCoinS_own l 2 1 _ (by omega) (by omega) (by decide)) rfl ktA rfl ?_
  refine Goes ?_
  repeat' first | refine W2.m ?_ ?_ | refine W1.m fun h => ?_ | fail
  refine CallP.heapIs (markTx_own t 3 4 (nCs 1 l) _ (by decide) hst (by omega)) rfl ktA rfl ?_
  refine Goes ?_
  repeat' first | refine W2.m ?_ ?_ | refine W1.m fun h => ?_ | fail
  refine CallP.convAIs (eqCoinsResult_yes 0 (feeC l t) (takenC l t) (newC l t hg) _ hfA hfB) ⟨cvCoins2 rfl rfl rfl rfl, cvCoinsS, trivial⟩ rfl trivial ?_
  refine Goes ?_
  repeat' first | refine W2.m ?_ ?_ | refine W1.m fun h => ?_ | fail
  refine CallP.heapIs (markCoinsResult_own 0 (feeC l t) (takenC l t) (newC l t hg) 6 7 1 _ (by decide) hlA hlB hpA hpB (by decide)) rfl ktA rfl ?_
  refine Goes ?_
  repeat' first | refine W2.m ?_ ?_ | refine W1.m fun h => ?_ | fail
  refine CallP.convAIs (heldCoinsResult_rd 0 (feeC l t) (takenC l t) (newC l t hg) 1 _ hlA hlB hpA hpB (by decide)) ⟨cvCoins2 rfl rfl (mkCs_len _ _).symm (mkCs_len _ _).symm, cvSame rfl, trivial⟩ rfl trivial ?_
  refine Goes ?_
  repeat' first | refine W2.m ?_ ?_ | refine W1.m fun h => ?_ | fail
  refine CallN.is rfl (fun n => toCoinS_fr l n hfc) ?_
  refine Goes ?_
  repeat' first | refine W2.m ?_ ?_ | refine W1.m fun h => ?_ | fail
  refine CallN.is rfl (fun n => toTx_fr t n hf) ?_
  refine Goes ?_
  repeat' first | refine W2.m ?_ ?_ | refine W1.m fun h => ?_ | fail
  refine CallN.is rfl (fun n => implApply_fr l t hg n hfc hf hA) ?_
  refine Goes ?_
  repeat' first | refine W2.m ?_ ?_ | refine W1.m fun h => ?_ | fail
  refine CallP.convAIs (eqCoinsResult_yes 0 (feeC l t) (takenC l t) (newC l t hg) _ hfA hfB) ⟨cvCoinsS, cvCoinsS, trivial⟩ rfl trivial ?_
  refine Goes ?_
  repeat' first | refine W2.m ?_ ?_ | refine W1.m fun h => ?_ | fail
  refine CallP.convAIs (heldCoinsResult_rd 0 (feeC l t) (takenC l t) (newC l t hg) 1 _ hlA hlB hpA hpB (by decide)) ⟨cvCoins2 rfl rfl (mkCs_len _ _).symm (mkCs_len _ _).symm, cvSame rfl, trivial⟩ rfl trivial ?_
  refine Goes ?_
  repeat' first | refine W2.m ?_ ?_ | refine W1.m fun h => ?_ | fail
  exact FinOk.pure rfl rfl rfl rfl
theorem lawApplyTx (l : List CoinD) (t : TxD) (hg : Int) (n : Nat) (hm : MemC l) (hm2 : Mem t) : Ret Tryz.prog 9 [coinsV l, txV t, iv hg] [] n true (fun r _ _ => r = bv true) := by
  by_cases hA : applyC l t hg = 0
  · exact lawApplyTx_ok l t hg n hm hm2 hA
  · exact lawApplyTx_bad l t hg _ n hm hm2 (fun n hfc hf => specApply_bad l t hg n hfc hf hA) (fun n hfc hf => implApply_bad l t hg n hfc hf hA)
end Go.Proofs.YtfnehjminipaeaaGreat
