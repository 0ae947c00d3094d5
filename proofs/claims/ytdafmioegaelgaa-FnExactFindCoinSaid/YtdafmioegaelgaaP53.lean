/-
  CHAPTER 5: the law of FindCoin, by the reading.
-/
import Derived.Test.YtdafmioegaelgaaP51
import Derived.Test.YtdafmioegaelgaaP52
namespace Go.Proofs.Ytdafmioegaelgaa
open Go Go.Am Go.RowKit
set_option linter.unusedVariables false
set_option linter.unusedSimpArgs false
theorem flTl (zs : List Int) : FlatT (tl zs) := .tree _ _ _ fun c hc => by
  obtain ⟨r, hr, hcr⟩ := List.mem_flatten.1 hc
  obtain ⟨x, _, rfl⟩ := List.mem_map.1 hr
  simp at hcr; subst hcr; exact .val _
theorem cvCoinR {hp : Hp} {i len : Nat} {z : Int} {c : CoinD} {rows : List (List AV)} (h : Go.Am.look hp i = some (AObj.list 2 1 rows)) (hl : len = rows.length) : Cv hp [] false (.agg [iv z, iv c.tx, iv c.out, iv c.val, .own i len, iv c.h, bv c.base]) (.agg [iv z, iv c.tx, iv c.out, iv c.val, .lst rows, iv c.h, bv c.base]) :=
  cvAgg ⟨cvcSame rfl, cvcSame rfl, cvcSame rfl, cvcSame rfl, cvcOwn h hl, cvcSame rfl, cvcSame rfl, trivial⟩
theorem cvCoinN {hp : Hp} {z : Int} {c : CoinD} : Cv hp [] false (.agg [iv z, iv c.tx, iv c.out, iv c.val, nl, iv c.h, bv c.base]) (.agg [iv z, iv c.tx, iv c.out, iv c.val, .lst [], iv c.h, bv c.base]) :=
  cvAgg ⟨cvcSame rfl, cvcSame rfl, cvcSame rfl, cvcSame rfl, cvcNil, cvcSame rfl, cvcSame rfl, trivial⟩
theorem cvCoinS {hp : Hp} {z : Int} {c : CoinD} : Cv hp [] false (.agg [iv z, iv c.tx, iv c.out, iv c.val, il c.lock, iv c.h, bv c.base]) (.agg [iv z, iv c.tx, iv c.out, iv c.val, il c.lock, iv c.h, bv c.base]) :=
  cvAgg ⟨cvcSame rfl, cvcSame rfl, cvcSame rfl, cvcSame rfl, cvcSame rfl, cvcSame rfl, cvcSame rfl, trivial⟩
theorem lawFindCoin_bad (l : List CoinD) (t o z : Int) (n : Nat) (hm : MemC l) (hs : ∀ n, FitsC l → Ret Try.prog 31 [coinsV l, iv t, iv o] [] n true (Is (noCoin z) [] n)) (hi : ∀ n, FitsC l → Ret Try.prog 32 [coinsV l, iv t, iv o] [] n true (Is (noCoin z) [] n)) : Ret Try.prog 6 [coinsV l, iv t, iv o] [] n true (fun r _ _ => r = bv true) := by
  refine Ret.fn ttOk Try.func6 rfl Try.call6 rfl rfl ?_
  conv => whnf
  repeat' first
    | (refine CondP.yes ?_; conv => whnf)
    | (refine CondP.not ?_; conv => whnf)
    | ((first | refine CondP.dec (fun h => ?_) (fun h => ?_) | refine CondP.ndec (fun h => ?_) (fun h => ?_)) <;> first | (exfalso; first | omega | exact h (by assumption) | exact absurd h (by assumption)) | (conv => whnf))
    | (refine Both.mk ?_ ?_ <;> (conv => whnf))
    | (refine Keep.mk (by repeat' first | exact trivial | rfl | refine And.intro ?_ ?_) ?_; conv => whnf)
    | (refine And.intro (by first | decide | omega) ?_; conv => whnf)
    | fail
  first | refine CallP.is (szCoinS_ret l 1048576 _ (by decide) (by decide) hm) rfl ?_ | refine CallQ.is (szCoinS_ret l 1048576 _ (by decide) (by decide) hm) rfl rfl ?_
  conv => whnf
  repeat' first
    | (refine CondP.yes ?_; conv => whnf)
    | (refine CondP.not ?_; conv => whnf)
    | ((first | refine CondP.dec (fun h => ?_) (fun h => ?_) | refine CondP.ndec (fun h => ?_) (fun h => ?_)) <;> first | (exfalso; first | omega | exact h (by assumption) | exact absurd h (by assumption)) | (conv => whnf))
    | (refine Both.mk ?_ ?_ <;> (conv => whnf))
    | (refine Keep.mk (by repeat' first | exact trivial | rfl | refine And.intro ?_ ?_) ?_; conv => whnf)
    | (refine And.intro (by first | decide | omega) ?_; conv => whnf)
    | fail
  · exact FinOk.pure rfl rfl rfl rfl
  have hsz : sizeC l ≤ 1048576 := by have := (leftI_pos h).2; unfold sizeC; omega
  have hf := fitsC_of hsz
  have hc0 : pCoin ⟨0, 0, 0, [], 0, false⟩ ≤ 1048576 := by decide
  first | refine CallP.is (toCoinS_fr l _ hf) rfl ?_ | refine CallQ.is (toCoinS_fr l _ hf) rfl rfl ?_
  conv => whnf
  repeat' first
    | (refine CondP.yes ?_; conv => whnf)
    | (refine CondP.not ?_; conv => whnf)
    | ((first | refine CondP.dec (fun h => ?_) (fun h => ?_) | refine CondP.ndec (fun h => ?_) (fun h => ?_)) <;> first | (exfalso; first | omega | exact h (by assumption) | exact absurd h (by assumption)) | (conv => whnf))
    | (refine Both.mk ?_ ?_ <;> (conv => whnf))
    | (refine Keep.mk (by repeat' first | exact trivial | rfl | refine And.intro ?_ ?_) ?_; conv => whnf)
    | (refine And.intro (by first | decide | omega) ?_; conv => whnf)
    | fail
  first | refine CallP.is (hs _ hf) rfl ?_ | refine CallQ.is (hs _ hf) rfl rfl ?_
  conv => whnf
  repeat' first
    | (refine CondP.yes ?_; conv => whnf)
    | (refine CondP.not ?_; conv => whnf)
    | ((first | refine CondP.dec (fun h => ?_) (fun h => ?_) | refine CondP.ndec (fun h => ?_) (fun h => ?_)) <;> first | (exfalso; first | omega | exact h (by assumption) | exact absurd h (by assumption)) | (conv => whnf))
    | (refine Both.mk ?_ ?_ <;> (conv => whnf))
    | (refine Keep.mk (by repeat' first | exact trivial | rfl | refine And.intro ?_ ?_) ?_; conv => whnf)
    | (refine And.intro (by first | decide | omega) ?_; conv => whnf)
    | fail
  first | refine CallP.is (toCoinS_own l _ hf) rfl ?_ | refine CallQ.is (toCoinS_own l _ hf) rfl rfl ?_
  conv => whnf
  repeat' first
    | (refine CondP.yes ?_; conv => whnf)
    | (refine CondP.not ?_; conv => whnf)
    | ((first | refine CondP.dec (fun h => ?_) (fun h => ?_) | refine CondP.ndec (fun h => ?_) (fun h => ?_)) <;> first | (exfalso; first | omega | exact h (by assumption) | exact absurd h (by assumption)) | (conv => whnf))
    | (refine Both.mk ?_ ?_ <;> (conv => whnf))
    | (refine Keep.mk (by repeat' first | exact trivial | rfl | refine And.intro ?_ ?_) ?_; conv => whnf)
    | (refine And.intro (by first | decide | omega) ?_; conv => whnf)
    | fail
  refine CallP.convAIs (hi _ hf) ⟨cvNest rfl rfl (fzCoin l) (by simp), cvSame rfl, cvSame rfl, trivial⟩ rfl trivial ?_
  conv => whnf
  repeat' first
    | (refine CondP.yes ?_; conv => whnf)
    | (refine CondP.not ?_; conv => whnf)
    | ((first | refine CondP.dec (fun h => ?_) (fun h => ?_) | refine CondP.ndec (fun h => ?_) (fun h => ?_)) <;> first | (exfalso; first | omega | exact h (by assumption) | exact absurd h (by assumption)) | (conv => whnf))
    | (refine Both.mk ?_ ?_ <;> (conv => whnf))
    | (refine Keep.mk (by repeat' first | exact trivial | rfl | refine And.intro ?_ ?_) ?_; conv => whnf)
    | (refine And.intro (by first | decide | omega) ?_; conv => whnf)
    | fail
  refine CallP.convAIs (eqCoinResult_yes z ⟨0, 0, 0, [], 0, false⟩ _ hc0) ⟨cvCoinN (c := ⟨0, 0, 0, [], 0, false⟩), cvCoinN (c := ⟨0, 0, 0, [], 0, false⟩), trivial⟩ rfl trivial ?_
  conv => whnf
  repeat' first
    | (refine CondP.yes ?_; conv => whnf)
    | (refine CondP.not ?_; conv => whnf)
    | ((first | refine CondP.dec (fun h => ?_) (fun h => ?_) | refine CondP.ndec (fun h => ?_) (fun h => ?_)) <;> first | (exfalso; first | omega | exact h (by assumption) | exact absurd h (by assumption)) | (conv => whnf))
    | (refine Both.mk ?_ ?_ <;> (conv => whnf))
    | (refine Keep.mk (by repeat' first | exact trivial | rfl | refine And.intro ?_ ?_) ?_; conv => whnf)
    | (refine And.intro (by first | decide | omega) ?_; conv => whnf)
    | fail
  first | refine CallP.is (toCoinS_fr l _ hf) rfl ?_ | refine CallQ.is (toCoinS_fr l _ hf) rfl rfl ?_
  conv => whnf
  repeat' first
    | (refine CondP.yes ?_; conv => whnf)
    | (refine CondP.not ?_; conv => whnf)
    | ((first | refine CondP.dec (fun h => ?_) (fun h => ?_) | refine CondP.ndec (fun h => ?_) (fun h => ?_)) <;> first | (exfalso; first | omega | exact h (by assumption) | exact absurd h (by assumption)) | (conv => whnf))
    | (refine Both.mk ?_ ?_ <;> (conv => whnf))
    | (refine Keep.mk (by repeat' first | exact trivial | rfl | refine And.intro ?_ ?_) ?_; conv => whnf)
    | (refine And.intro (by first | decide | omega) ?_; conv => whnf)
    | fail
  refine CallP.convAIs (eqCoinS_yes l _ hf) ⟨cvNest rfl rfl (fzCoin l) (by simp), cvSame rfl, trivial⟩ rfl trivial ?_
  conv => whnf
  repeat' first
    | (refine CondP.yes ?_; conv => whnf)
    | (refine CondP.not ?_; conv => whnf)
    | ((first | refine CondP.dec (fun h => ?_) (fun h => ?_) | refine CondP.ndec (fun h => ?_) (fun h => ?_)) <;> first | (exfalso; first | omega | exact h (by assumption) | exact absurd h (by assumption)) | (conv => whnf))
    | (refine Both.mk ?_ ?_ <;> (conv => whnf))
    | (refine Keep.mk (by repeat' first | exact trivial | rfl | refine And.intro ?_ ?_) ?_; conv => whnf)
    | (refine And.intro (by first | decide | omega) ?_; conv => whnf)
    | fail
  refine CallP.heapIs (markCoinS_own l 1 1 _ (by unfold sizeC at hsz; omega) (by unfold sizeC at hsz; omega) (by decide)) rfl (by repeat' first | exact trivial | rfl | exact leafI (by first | rfl | omega | (simp (disch := omega) only [Int.reduceToNat, IntKind.bits, Nat.min_eq_left, Int.reducePow, IntWalk.i64_in, IntWalk.rem_in, IntWalk.i64_quo, IntWalk.u8_in, IntWalk.u32_in, IntWalk.u64_in]; done) | (simp (disch := omega) only [Int.reduceToNat, IntKind.bits, Nat.min_eq_left, Int.reducePow, IntWalk.i64_in, IntWalk.rem_in, IntWalk.i64_quo, IntWalk.u8_in, IntWalk.u32_in, IntWalk.u64_in]; omega)) | refine And.intro ?_ ?_) rfl ?_
  conv => whnf
  repeat' first
    | (refine CondP.yes ?_; conv => whnf)
    | (refine CondP.not ?_; conv => whnf)
    | ((first | refine CondP.dec (fun h => ?_) (fun h => ?_) | refine CondP.ndec (fun h => ?_) (fun h => ?_)) <;> first | (exfalso; first | omega | exact h (by assumption) | exact absurd h (by assumption)) | (conv => whnf))
    | (refine Both.mk ?_ ?_ <;> (conv => whnf))
    | (refine Keep.mk (by repeat' first | exact trivial | rfl | refine And.intro ?_ ?_) ?_; conv => whnf)
    | (refine And.intro (by first | decide | omega) ?_; conv => whnf)
    | fail
  refine CallP.convAIs (eqCoinResult_yes z ⟨0, 0, 0, [], 0, false⟩ _ hc0) ⟨cvCoinN (c := ⟨0, 0, 0, [], 0, false⟩), cvCoinN (c := ⟨0, 0, 0, [], 0, false⟩), trivial⟩ rfl trivial ?_
  conv => whnf
  repeat' first
    | (refine CondP.yes ?_; conv => whnf)
    | (refine CondP.not ?_; conv => whnf)
    | ((first | refine CondP.dec (fun h => ?_) (fun h => ?_) | refine CondP.ndec (fun h => ?_) (fun h => ?_)) <;> first | (exfalso; first | omega | exact h (by assumption) | exact absurd h (by assumption)) | (conv => whnf))
    | (refine Both.mk ?_ ?_ <;> (conv => whnf))
    | (refine Keep.mk (by repeat' first | exact trivial | rfl | refine And.intro ?_ ?_) ?_; conv => whnf)
    | (refine And.intro (by first | decide | omega) ?_; conv => whnf)
    | fail
  first | refine CallP.is (markCoinResult_nil z ⟨0, 0, 0, [], 0, false⟩ 1 _) rfl ?_ | refine CallQ.is (markCoinResult_nil z ⟨0, 0, 0, [], 0, false⟩ 1 _) rfl rfl ?_
  conv => whnf
  repeat' first
    | (refine CondP.yes ?_; conv => whnf)
    | (refine CondP.not ?_; conv => whnf)
    | ((first | refine CondP.dec (fun h => ?_) (fun h => ?_) | refine CondP.ndec (fun h => ?_) (fun h => ?_)) <;> first | (exfalso; first | omega | exact h (by assumption) | exact absurd h (by assumption)) | (conv => whnf))
    | (refine Both.mk ?_ ?_ <;> (conv => whnf))
    | (refine Keep.mk (by repeat' first | exact trivial | rfl | refine And.intro ?_ ?_) ?_; conv => whnf)
    | (refine And.intro (by first | decide | omega) ?_; conv => whnf)
    | fail
  refine CallP.convAIs (heldCoinResult_rd z ⟨0, 0, 0, [], 0, false⟩ 0 1 _ (by decide) (by decide)) ⟨cvCoinN (c := ⟨0, 0, 0, [], 0, false⟩), cvSame rfl, trivial⟩ rfl trivial ?_
  conv => whnf
  repeat' first
    | (refine CondP.yes ?_; conv => whnf)
    | (refine CondP.not ?_; conv => whnf)
    | ((first | refine CondP.dec (fun h => ?_) (fun h => ?_) | refine CondP.ndec (fun h => ?_) (fun h => ?_)) <;> first | (exfalso; first | omega | exact h (by assumption) | exact absurd h (by assumption)) | (conv => whnf))
    | (refine Both.mk ?_ ?_ <;> (conv => whnf))
    | (refine Keep.mk (by repeat' first | exact trivial | rfl | refine And.intro ?_ ?_) ?_; conv => whnf)
    | (refine And.intro (by first | decide | omega) ?_; conv => whnf)
    | fail
  first | refine CallP.is (toCoinS_fr l _ hf) rfl ?_ | refine CallQ.is (toCoinS_fr l _ hf) rfl rfl ?_
  conv => whnf
  repeat' first
    | (refine CondP.yes ?_; conv => whnf)
    | (refine CondP.not ?_; conv => whnf)
    | ((first | refine CondP.dec (fun h => ?_) (fun h => ?_) | refine CondP.ndec (fun h => ?_) (fun h => ?_)) <;> first | (exfalso; first | omega | exact h (by assumption) | exact absurd h (by assumption)) | (conv => whnf))
    | (refine Both.mk ?_ ?_ <;> (conv => whnf))
    | (refine Keep.mk (by repeat' first | exact trivial | rfl | refine And.intro ?_ ?_) ?_; conv => whnf)
    | (refine And.intro (by first | decide | omega) ?_; conv => whnf)
    | fail
  first | refine CallP.is (hi _ hf) rfl ?_ | refine CallQ.is (hi _ hf) rfl rfl ?_
  conv => whnf
  repeat' first
    | (refine CondP.yes ?_; conv => whnf)
    | (refine CondP.not ?_; conv => whnf)
    | ((first | refine CondP.dec (fun h => ?_) (fun h => ?_) | refine CondP.ndec (fun h => ?_) (fun h => ?_)) <;> first | (exfalso; first | omega | exact h (by assumption) | exact absurd h (by assumption)) | (conv => whnf))
    | (refine Both.mk ?_ ?_ <;> (conv => whnf))
    | (refine Keep.mk (by repeat' first | exact trivial | rfl | refine And.intro ?_ ?_) ?_; conv => whnf)
    | (refine And.intro (by first | decide | omega) ?_; conv => whnf)
    | fail
  refine CallP.convAIs (eqCoinResult_yes z ⟨0, 0, 0, [], 0, false⟩ _ hc0) ⟨cvCoinN (c := ⟨0, 0, 0, [], 0, false⟩), cvCoinN (c := ⟨0, 0, 0, [], 0, false⟩), trivial⟩ rfl trivial ?_
  conv => whnf
  repeat' first
    | (refine CondP.yes ?_; conv => whnf)
    | (refine CondP.not ?_; conv => whnf)
    | ((first | refine CondP.dec (fun h => ?_) (fun h => ?_) | refine CondP.ndec (fun h => ?_) (fun h => ?_)) <;> first | (exfalso; first | omega | exact h (by assumption) | exact absurd h (by assumption)) | (conv => whnf))
    | (refine Both.mk ?_ ?_ <;> (conv => whnf))
    | (refine Keep.mk (by repeat' first | exact trivial | rfl | refine And.intro ?_ ?_) ?_; conv => whnf)
    | (refine And.intro (by first | decide | omega) ?_; conv => whnf)
    | fail
  refine CallP.convAIs (heldCoinResult_rd z ⟨0, 0, 0, [], 0, false⟩ 0 1 _ (by decide) (by decide)) ⟨cvCoinN (c := ⟨0, 0, 0, [], 0, false⟩), cvSame rfl, trivial⟩ rfl trivial ?_
  conv => whnf
  repeat' first
    | (refine CondP.yes ?_; conv => whnf)
    | (refine CondP.not ?_; conv => whnf)
    | ((first | refine CondP.dec (fun h => ?_) (fun h => ?_) | refine CondP.ndec (fun h => ?_) (fun h => ?_)) <;> first | (exfalso; first | omega | exact h (by assumption) | exact absurd h (by assumption)) | (conv => whnf))
    | (refine Both.mk ?_ ?_ <;> (conv => whnf))
    | (refine Keep.mk (by repeat' first | exact trivial | rfl | refine And.intro ?_ ?_) ?_; conv => whnf)
    | (refine And.intro (by first | decide | omega) ?_; conv => whnf)
    | fail
  exact FinOk.pure rfl rfl rfl rfl
theorem implFind_fr (l : List CoinD) (t o : Int) (c : CoinD) (n : Nat) (hf : FitsC l) (h0 : coinsC l = 0) (ha : atC l t o = some c) : Ret Try.prog 32 [coinsV l, iv t, iv o] [] n true (Is (foundV c) [] n) := by
  refine Ret.freeze ?_ (implFind_some l t o c n hf h0 ha)
  rintro _ _ _ ⟨x, ⟨rfl, rfl, rfl⟩ | ⟨g0, rfl, rfl, rfl⟩, rfl⟩
  · exact ⟨_, .agg _ [iv 0, iv c.tx, iv c.out, iv c.val, il c.lock, iv c.h, bv c.base] ⟨fr0 rfl, fr0 rfl, fr0 rfl, fr0 rfl, frOwn (look_cons_eq _ _ _) (by simp), fr0 rfl, fr0 rfl, trivial⟩, rfl, rfl, rfl⟩
  · exact ⟨_, .agg _ [iv 0, iv c.tx, iv c.out, iv c.val, il c.lock, iv c.h, bv c.base] ⟨fr0 rfl, fr0 rfl, fr0 rfl, fr0 rfl, by rw [g0]; exact .nil, fr0 rfl, fr0 rfl, trivial⟩, rfl, rfl, rfl⟩
theorem lawFindCoin_some (l : List CoinD) (t o : Int) (c : CoinD) (n : Nat) (hm : MemC l) (h0 : coinsC l = 0) (ha : atC l t o = some c) : Ret Try.prog 6 [coinsV l, iv t, iv o] [] n true (fun r _ _ => r = bv true) := by
  refine Ret.fn ttOk Try.func6 rfl Try.call6 rfl rfl ?_
  conv => whnf
  repeat' first
    | (refine CondP.yes ?_; conv => whnf)
    | (refine CondP.not ?_; conv => whnf)
    | ((first | refine CondP.dec (fun h => ?_) (fun h => ?_) | refine CondP.ndec (fun h => ?_) (fun h => ?_)) <;> first | (exfalso; first | omega | exact h (by assumption) | exact absurd h (by assumption)) | (conv => whnf))
    | (refine Both.mk ?_ ?_ <;> (conv => whnf))
    | (refine Keep.mk (by repeat' first | exact trivial | rfl | refine And.intro ?_ ?_) ?_; conv => whnf)
    | (refine And.intro (by first | decide | omega) ?_; conv => whnf)
    | fail
  first | refine CallP.is (szCoinS_ret l 1048576 _ (by decide) (by decide) hm) rfl ?_ | refine CallQ.is (szCoinS_ret l 1048576 _ (by decide) (by decide) hm) rfl rfl ?_
  conv => whnf
  repeat' first
    | (refine CondP.yes ?_; conv => whnf)
    | (refine CondP.not ?_; conv => whnf)
    | ((first | refine CondP.dec (fun h => ?_) (fun h => ?_) | refine CondP.ndec (fun h => ?_) (fun h => ?_)) <;> first | (exfalso; first | omega | exact h (by assumption) | exact absurd h (by assumption)) | (conv => whnf))
    | (refine Both.mk ?_ ?_ <;> (conv => whnf))
    | (refine Keep.mk (by repeat' first | exact trivial | rfl | refine And.intro ?_ ?_) ?_; conv => whnf)
    | (refine And.intro (by first | decide | omega) ?_; conv => whnf)
    | fail
  · exact FinOk.pure rfl rfl rfl rfl
  have hsz : sizeC l ≤ 1048576 := by have := (leftI_pos h).2; unfold sizeC; omega
  have hf := fitsC_of hsz
  have hc : pCoin c ≤ 1048576 := hf.locks c (List.mem_of_find?_eq_some ha)
  first | refine CallP.is (toCoinS_fr l _ hf) rfl ?_ | refine CallQ.is (toCoinS_fr l _ hf) rfl rfl ?_
  conv => whnf
  repeat' first
    | (refine CondP.yes ?_; conv => whnf)
    | (refine CondP.not ?_; conv => whnf)
    | ((first | refine CondP.dec (fun h => ?_) (fun h => ?_) | refine CondP.ndec (fun h => ?_) (fun h => ?_)) <;> first | (exfalso; first | omega | exact h (by assumption) | exact absurd h (by assumption)) | (conv => whnf))
    | (refine Both.mk ?_ ?_ <;> (conv => whnf))
    | (refine Keep.mk (by repeat' first | exact trivial | rfl | refine And.intro ?_ ?_) ?_; conv => whnf)
    | (refine And.intro (by first | decide | omega) ?_; conv => whnf)
    | fail
  first | refine CallP.is (specFind_some l t o c _ hf h0 ha) rfl ?_ | refine CallQ.is (specFind_some l t o c _ hf h0 ha) rfl rfl ?_
  conv => whnf
  repeat' first
    | (refine CondP.yes ?_; conv => whnf)
    | (refine CondP.not ?_; conv => whnf)
    | ((first | refine CondP.dec (fun h => ?_) (fun h => ?_) | refine CondP.ndec (fun h => ?_) (fun h => ?_)) <;> first | (exfalso; first | omega | exact h (by assumption) | exact absurd h (by assumption)) | (conv => whnf))
    | (refine Both.mk ?_ ?_ <;> (conv => whnf))
    | (refine Keep.mk (by repeat' first | exact trivial | rfl | refine And.intro ?_ ?_) ?_; conv => whnf)
    | (refine And.intro (by first | decide | omega) ?_; conv => whnf)
    | fail
  first | refine CallP.is (toCoinS_own l _ hf) rfl ?_ | refine CallQ.is (toCoinS_own l _ hf) rfl rfl ?_
  conv => whnf
  repeat' first
    | (refine CondP.yes ?_; conv => whnf)
    | (refine CondP.not ?_; conv => whnf)
    | ((first | refine CondP.dec (fun h => ?_) (fun h => ?_) | refine CondP.ndec (fun h => ?_) (fun h => ?_)) <;> first | (exfalso; first | omega | exact h (by assumption) | exact absurd h (by assumption)) | (conv => whnf))
    | (refine Both.mk ?_ ?_ <;> (conv => whnf))
    | (refine Keep.mk (by repeat' first | exact trivial | rfl | refine And.intro ?_ ?_) ?_; conv => whnf)
    | (refine And.intro (by first | decide | omega) ?_; conv => whnf)
    | fail
  refine CallP.convA (implFind_some l t o c _ hf h0 ha) ⟨cvNest rfl rfl (fzCoin l) (by simp), cvSame rfl, cvSame rfl, trivial⟩ ?_
  rintro _ _ _ ⟨x, ⟨rfl, rfl, rfl⟩ | ⟨g0, rfl, rfl, rfl⟩, rfl⟩
  · refine ⟨⟨rfl, flat_vals _ _, trivial⟩, ?_⟩
    conv => whnf
    repeat' first
      | (refine CondP.yes ?_; conv => whnf)
      | (refine CondP.not ?_; conv => whnf)
      | ((first | refine CondP.dec (fun h => ?_) (fun h => ?_) | refine CondP.ndec (fun h => ?_) (fun h => ?_)) <;> first | (exfalso; first | omega | exact h (by assumption) | exact absurd h (by assumption)) | (conv => whnf))
      | (refine Both.mk ?_ ?_ <;> (conv => whnf))
      | (refine Keep.mk (by repeat' first | exact trivial | rfl | refine And.intro ?_ ?_) ?_; conv => whnf)
      | (refine And.intro (by first | decide | omega) ?_; conv => whnf)
      | fail
    refine CallP.convAIs (eqCoinResult_yes 0 c _ hc) ⟨cvCoinR rfl (by simp), cvCoinS, trivial⟩ rfl trivial ?_
    conv => whnf
    repeat' first
      | (refine CondP.yes ?_; conv => whnf)
      | (refine CondP.not ?_; conv => whnf)
      | ((first | refine CondP.dec (fun h => ?_) (fun h => ?_) | refine CondP.ndec (fun h => ?_) (fun h => ?_)) <;> first | (exfalso; first | omega | exact h (by assumption) | exact absurd h (by assumption)) | (conv => whnf))
      | (refine Both.mk ?_ ?_ <;> (conv => whnf))
      | (refine Keep.mk (by repeat' first | exact trivial | rfl | refine And.intro ?_ ?_) ?_; conv => whnf)
      | (refine And.intro (by first | decide | omega) ?_; conv => whnf)
      | fail
    first | refine CallP.is (toCoinS_fr l _ hf) rfl ?_ | refine CallQ.is (toCoinS_fr l _ hf) rfl rfl ?_
    conv => whnf
    repeat' first
      | (refine CondP.yes ?_; conv => whnf)
      | (refine CondP.not ?_; conv => whnf)
      | ((first | refine CondP.dec (fun h => ?_) (fun h => ?_) | refine CondP.ndec (fun h => ?_) (fun h => ?_)) <;> first | (exfalso; first | omega | exact h (by assumption) | exact absurd h (by assumption)) | (conv => whnf))
      | (refine Both.mk ?_ ?_ <;> (conv => whnf))
      | (refine Keep.mk (by repeat' first | exact trivial | rfl | refine And.intro ?_ ?_) ?_; conv => whnf)
      | (refine And.intro (by first | decide | omega) ?_; conv => whnf)
      | fail
    refine CallP.convAIs (eqCoinS_yes l _ hf) ⟨cvNest rfl rfl (fzCoin l) (by simp), cvSame rfl, trivial⟩ rfl trivial ?_
    conv => whnf
    repeat' first
      | (refine CondP.yes ?_; conv => whnf)
      | (refine CondP.not ?_; conv => whnf)
      | ((first | refine CondP.dec (fun h => ?_) (fun h => ?_) | refine CondP.ndec (fun h => ?_) (fun h => ?_)) <;> first | (exfalso; first | omega | exact h (by assumption) | exact absurd h (by assumption)) | (conv => whnf))
      | (refine Both.mk ?_ ?_ <;> (conv => whnf))
      | (refine Keep.mk (by repeat' first | exact trivial | rfl | refine And.intro ?_ ?_) ?_; conv => whnf)
      | (refine And.intro (by first | decide | omega) ?_; conv => whnf)
      | fail
    refine CallP.heapIs (markCoinS_own l 1 1 _ (by unfold sizeC at hsz; omega) (by unfold sizeC at hsz; omega) (by decide)) rfl (by repeat' first | exact trivial | rfl | exact leafI (by first | rfl | omega | (simp (disch := omega) only [Int.reduceToNat, IntKind.bits, Nat.min_eq_left, Int.reducePow, IntWalk.i64_in, IntWalk.rem_in, IntWalk.i64_quo, IntWalk.u8_in, IntWalk.u32_in, IntWalk.u64_in]; done) | (simp (disch := omega) only [Int.reduceToNat, IntKind.bits, Nat.min_eq_left, Int.reducePow, IntWalk.i64_in, IntWalk.rem_in, IntWalk.i64_quo, IntWalk.u8_in, IntWalk.u32_in, IntWalk.u64_in]; omega)) | refine And.intro ?_ ?_) rfl ?_
    conv => whnf
    repeat' first
      | (refine CondP.yes ?_; conv => whnf)
      | (refine CondP.not ?_; conv => whnf)
      | ((first | refine CondP.dec (fun h => ?_) (fun h => ?_) | refine CondP.ndec (fun h => ?_) (fun h => ?_)) <;> first | (exfalso; first | omega | exact h (by assumption) | exact absurd h (by assumption)) | (conv => whnf))
      | (refine Both.mk ?_ ?_ <;> (conv => whnf))
      | (refine Keep.mk (by repeat' first | exact trivial | rfl | refine And.intro ?_ ?_) ?_; conv => whnf)
      | (refine And.intro (by first | decide | omega) ?_; conv => whnf)
      | fail
    refine CallP.convAIs (eqCoinResult_yes 0 c _ hc) ⟨cvCoinR rfl (by simp), cvCoinS, trivial⟩ rfl trivial ?_
    conv => whnf
    repeat' first
      | (refine CondP.yes ?_; conv => whnf)
      | (refine CondP.not ?_; conv => whnf)
      | ((first | refine CondP.dec (fun h => ?_) (fun h => ?_) | refine CondP.ndec (fun h => ?_) (fun h => ?_)) <;> first | (exfalso; first | omega | exact h (by assumption) | exact absurd h (by assumption)) | (conv => whnf))
      | (refine Both.mk ?_ ?_ <;> (conv => whnf))
      | (refine Keep.mk (by repeat' first | exact trivial | rfl | refine And.intro ?_ ?_) ?_; conv => whnf)
      | (refine And.intro (by first | decide | omega) ?_; conv => whnf)
      | fail
    refine CallP.heapIs (markCoinResult_own 0 c 2 1 _ hc (by decide)) rfl (by repeat' first | exact trivial | rfl | exact leafI (by first | rfl | omega | (simp (disch := omega) only [Int.reduceToNat, IntKind.bits, Nat.min_eq_left, Int.reducePow, IntWalk.i64_in, IntWalk.rem_in, IntWalk.i64_quo, IntWalk.u8_in, IntWalk.u32_in, IntWalk.u64_in]; done) | (simp (disch := omega) only [Int.reduceToNat, IntKind.bits, Nat.min_eq_left, Int.reducePow, IntWalk.i64_in, IntWalk.rem_in, IntWalk.i64_quo, IntWalk.u8_in, IntWalk.u32_in, IntWalk.u64_in]; omega)) | refine And.intro ?_ ?_) rfl ?_
    conv => whnf
    repeat' first
      | (refine CondP.yes ?_; conv => whnf)
      | (refine CondP.not ?_; conv => whnf)
      | ((first | refine CondP.dec (fun h => ?_) (fun h => ?_) | refine CondP.ndec (fun h => ?_) (fun h => ?_)) <;> first | (exfalso; first | omega | exact h (by assumption) | exact absurd h (by assumption)) | (conv => whnf))
      | (refine Both.mk ?_ ?_ <;> (conv => whnf))
      | (refine Keep.mk (by repeat' first | exact trivial | rfl | refine And.intro ?_ ?_) ?_; conv => whnf)
      | (refine And.intro (by first | decide | omega) ?_; conv => whnf)
      | fail
    refine CallP.convAIs (heldCoinResult_rd 0 c c.lock.length 1 _ hc (by decide)) ⟨cvCoinR rfl (by simp [marks_len]), cvSame rfl, trivial⟩ rfl trivial ?_
    conv => whnf
    repeat' first
      | (refine CondP.yes ?_; conv => whnf)
      | (refine CondP.not ?_; conv => whnf)
      | ((first | refine CondP.dec (fun h => ?_) (fun h => ?_) | refine CondP.ndec (fun h => ?_) (fun h => ?_)) <;> first | (exfalso; first | omega | exact h (by assumption) | exact absurd h (by assumption)) | (conv => whnf))
      | (refine Both.mk ?_ ?_ <;> (conv => whnf))
      | (refine Keep.mk (by repeat' first | exact trivial | rfl | refine And.intro ?_ ?_) ?_; conv => whnf)
      | (refine And.intro (by first | decide | omega) ?_; conv => whnf)
      | fail
    first | refine CallP.is (toCoinS_fr l _ hf) rfl ?_ | refine CallQ.is (toCoinS_fr l _ hf) rfl rfl ?_
    conv => whnf
    repeat' first
      | (refine CondP.yes ?_; conv => whnf)
      | (refine CondP.not ?_; conv => whnf)
      | ((first | refine CondP.dec (fun h => ?_) (fun h => ?_) | refine CondP.ndec (fun h => ?_) (fun h => ?_)) <;> first | (exfalso; first | omega | exact h (by assumption) | exact absurd h (by assumption)) | (conv => whnf))
      | (refine Both.mk ?_ ?_ <;> (conv => whnf))
      | (refine Keep.mk (by repeat' first | exact trivial | rfl | refine And.intro ?_ ?_) ?_; conv => whnf)
      | (refine And.intro (by first | decide | omega) ?_; conv => whnf)
      | fail
    first | refine CallP.is (implFind_fr l t o c _ hf h0 ha) rfl ?_ | refine CallQ.is (implFind_fr l t o c _ hf h0 ha) rfl rfl ?_
    conv => whnf
    repeat' first
      | (refine CondP.yes ?_; conv => whnf)
      | (refine CondP.not ?_; conv => whnf)
      | ((first | refine CondP.dec (fun h => ?_) (fun h => ?_) | refine CondP.ndec (fun h => ?_) (fun h => ?_)) <;> first | (exfalso; first | omega | exact h (by assumption) | exact absurd h (by assumption)) | (conv => whnf))
      | (refine Both.mk ?_ ?_ <;> (conv => whnf))
      | (refine Keep.mk (by repeat' first | exact trivial | rfl | refine And.intro ?_ ?_) ?_; conv => whnf)
      | (refine And.intro (by first | decide | omega) ?_; conv => whnf)
      | fail
    refine CallP.convAIs (eqCoinResult_yes 0 c _ hc) ⟨cvCoinS, cvCoinS, trivial⟩ rfl trivial ?_
    conv => whnf
    repeat' first
      | (refine CondP.yes ?_; conv => whnf)
      | (refine CondP.not ?_; conv => whnf)
      | ((first | refine CondP.dec (fun h => ?_) (fun h => ?_) | refine CondP.ndec (fun h => ?_) (fun h => ?_)) <;> first | (exfalso; first | omega | exact h (by assumption) | exact absurd h (by assumption)) | (conv => whnf))
      | (refine Both.mk ?_ ?_ <;> (conv => whnf))
      | (refine Keep.mk (by repeat' first | exact trivial | rfl | refine And.intro ?_ ?_) ?_; conv => whnf)
      | (refine And.intro (by first | decide | omega) ?_; conv => whnf)
      | fail
    refine CallP.convAIs (heldCoinResult_rd 0 c c.lock.length 1 _ hc (by decide)) ⟨cvCoinR rfl (by simp [marks_len]), cvSame rfl, trivial⟩ rfl trivial ?_
    conv => whnf
    repeat' first
      | (refine CondP.yes ?_; conv => whnf)
      | (refine CondP.not ?_; conv => whnf)
      | ((first | refine CondP.dec (fun h => ?_) (fun h => ?_) | refine CondP.ndec (fun h => ?_) (fun h => ?_)) <;> first | (exfalso; first | omega | exact h (by assumption) | exact absurd h (by assumption)) | (conv => whnf))
      | (refine Both.mk ?_ ?_ <;> (conv => whnf))
      | (refine Keep.mk (by repeat' first | exact trivial | rfl | refine And.intro ?_ ?_) ?_; conv => whnf)
      | (refine And.intro (by first | decide | omega) ?_; conv => whnf)
      | fail
    exact FinOk.pure rfl rfl rfl rfl
  · refine ⟨⟨rfl, trivial⟩, ?_⟩
    conv => whnf
    repeat' first
      | (refine CondP.yes ?_; conv => whnf)
      | (refine CondP.not ?_; conv => whnf)
      | ((first | refine CondP.dec (fun h => ?_) (fun h => ?_) | refine CondP.ndec (fun h => ?_) (fun h => ?_)) <;> first | (exfalso; first | omega | exact h (by assumption) | exact absurd h (by assumption)) | (conv => whnf))
      | (refine Both.mk ?_ ?_ <;> (conv => whnf))
      | (refine Keep.mk (by repeat' first | exact trivial | rfl | refine And.intro ?_ ?_) ?_; conv => whnf)
      | (refine And.intro (by first | decide | omega) ?_; conv => whnf)
      | fail
    refine CallP.convAIs (eqCoinResult_yes 0 c _ hc) ⟨by rw [g0]; exact cvCoinN, cvCoinS, trivial⟩ rfl trivial ?_
    conv => whnf
    repeat' first
      | (refine CondP.yes ?_; conv => whnf)
      | (refine CondP.not ?_; conv => whnf)
      | ((first | refine CondP.dec (fun h => ?_) (fun h => ?_) | refine CondP.ndec (fun h => ?_) (fun h => ?_)) <;> first | (exfalso; first | omega | exact h (by assumption) | exact absurd h (by assumption)) | (conv => whnf))
      | (refine Both.mk ?_ ?_ <;> (conv => whnf))
      | (refine Keep.mk (by repeat' first | exact trivial | rfl | refine And.intro ?_ ?_) ?_; conv => whnf)
      | (refine And.intro (by first | decide | omega) ?_; conv => whnf)
      | fail
    first | refine CallP.is (toCoinS_fr l _ hf) rfl ?_ | refine CallQ.is (toCoinS_fr l _ hf) rfl rfl ?_
    conv => whnf
    repeat' first
      | (refine CondP.yes ?_; conv => whnf)
      | (refine CondP.not ?_; conv => whnf)
      | ((first | refine CondP.dec (fun h => ?_) (fun h => ?_) | refine CondP.ndec (fun h => ?_) (fun h => ?_)) <;> first | (exfalso; first | omega | exact h (by assumption) | exact absurd h (by assumption)) | (conv => whnf))
      | (refine Both.mk ?_ ?_ <;> (conv => whnf))
      | (refine Keep.mk (by repeat' first | exact trivial | rfl | refine And.intro ?_ ?_) ?_; conv => whnf)
      | (refine And.intro (by first | decide | omega) ?_; conv => whnf)
      | fail
    refine CallP.convAIs (eqCoinS_yes l _ hf) ⟨cvNest rfl rfl (fzCoin l) (by simp), cvSame rfl, trivial⟩ rfl trivial ?_
    conv => whnf
    repeat' first
      | (refine CondP.yes ?_; conv => whnf)
      | (refine CondP.not ?_; conv => whnf)
      | ((first | refine CondP.dec (fun h => ?_) (fun h => ?_) | refine CondP.ndec (fun h => ?_) (fun h => ?_)) <;> first | (exfalso; first | omega | exact h (by assumption) | exact absurd h (by assumption)) | (conv => whnf))
      | (refine Both.mk ?_ ?_ <;> (conv => whnf))
      | (refine Keep.mk (by repeat' first | exact trivial | rfl | refine And.intro ?_ ?_) ?_; conv => whnf)
      | (refine And.intro (by first | decide | omega) ?_; conv => whnf)
      | fail
    refine CallP.heapIs (markCoinS_own l 1 1 _ (by unfold sizeC at hsz; omega) (by unfold sizeC at hsz; omega) (by decide)) rfl (by repeat' first | exact trivial | rfl | exact leafI (by first | rfl | omega | (simp (disch := omega) only [Int.reduceToNat, IntKind.bits, Nat.min_eq_left, Int.reducePow, IntWalk.i64_in, IntWalk.rem_in, IntWalk.i64_quo, IntWalk.u8_in, IntWalk.u32_in, IntWalk.u64_in]; done) | (simp (disch := omega) only [Int.reduceToNat, IntKind.bits, Nat.min_eq_left, Int.reducePow, IntWalk.i64_in, IntWalk.rem_in, IntWalk.i64_quo, IntWalk.u8_in, IntWalk.u32_in, IntWalk.u64_in]; omega)) | refine And.intro ?_ ?_) rfl ?_
    conv => whnf
    repeat' first
      | (refine CondP.yes ?_; conv => whnf)
      | (refine CondP.not ?_; conv => whnf)
      | ((first | refine CondP.dec (fun h => ?_) (fun h => ?_) | refine CondP.ndec (fun h => ?_) (fun h => ?_)) <;> first | (exfalso; first | omega | exact h (by assumption) | exact absurd h (by assumption)) | (conv => whnf))
      | (refine Both.mk ?_ ?_ <;> (conv => whnf))
      | (refine Keep.mk (by repeat' first | exact trivial | rfl | refine And.intro ?_ ?_) ?_; conv => whnf)
      | (refine And.intro (by first | decide | omega) ?_; conv => whnf)
      | fail
    refine CallP.convAIs (eqCoinResult_yes 0 c _ hc) ⟨by rw [g0]; exact cvCoinN, cvCoinS, trivial⟩ rfl trivial ?_
    conv => whnf
    repeat' first
      | (refine CondP.yes ?_; conv => whnf)
      | (refine CondP.not ?_; conv => whnf)
      | ((first | refine CondP.dec (fun h => ?_) (fun h => ?_) | refine CondP.ndec (fun h => ?_) (fun h => ?_)) <;> first | (exfalso; first | omega | exact h (by assumption) | exact absurd h (by assumption)) | (conv => whnf))
      | (refine Both.mk ?_ ?_ <;> (conv => whnf))
      | (refine Keep.mk (by repeat' first | exact trivial | rfl | refine And.intro ?_ ?_) ?_; conv => whnf)
      | (refine And.intro (by first | decide | omega) ?_; conv => whnf)
      | fail
    first | refine CallP.is (markCoinResult_nil 0 c 1 _) rfl ?_ | refine CallQ.is (markCoinResult_nil 0 c 1 _) rfl rfl ?_
    conv => whnf
    repeat' first
      | (refine CondP.yes ?_; conv => whnf)
      | (refine CondP.not ?_; conv => whnf)
      | ((first | refine CondP.dec (fun h => ?_) (fun h => ?_) | refine CondP.ndec (fun h => ?_) (fun h => ?_)) <;> first | (exfalso; first | omega | exact h (by assumption) | exact absurd h (by assumption)) | (conv => whnf))
      | (refine Both.mk ?_ ?_ <;> (conv => whnf))
      | (refine Keep.mk (by repeat' first | exact trivial | rfl | refine And.intro ?_ ?_) ?_; conv => whnf)
      | (refine And.intro (by first | decide | omega) ?_; conv => whnf)
      | fail
    refine CallP.convAIs (heldCoinResult_rd 0 c 0 1 _ (by decide) (by decide)) ⟨cvCoinN, cvSame rfl, trivial⟩ rfl trivial ?_
    conv => whnf
    repeat' first
      | (refine CondP.yes ?_; conv => whnf)
      | (refine CondP.not ?_; conv => whnf)
      | ((first | refine CondP.dec (fun h => ?_) (fun h => ?_) | refine CondP.ndec (fun h => ?_) (fun h => ?_)) <;> first | (exfalso; first | omega | exact h (by assumption) | exact absurd h (by assumption)) | (conv => whnf))
      | (refine Both.mk ?_ ?_ <;> (conv => whnf))
      | (refine Keep.mk (by repeat' first | exact trivial | rfl | refine And.intro ?_ ?_) ?_; conv => whnf)
      | (refine And.intro (by first | decide | omega) ?_; conv => whnf)
      | fail
    first | refine CallP.is (toCoinS_fr l _ hf) rfl ?_ | refine CallQ.is (toCoinS_fr l _ hf) rfl rfl ?_
    conv => whnf
    repeat' first
      | (refine CondP.yes ?_; conv => whnf)
      | (refine CondP.not ?_; conv => whnf)
      | ((first | refine CondP.dec (fun h => ?_) (fun h => ?_) | refine CondP.ndec (fun h => ?_) (fun h => ?_)) <;> first | (exfalso; first | omega | exact h (by assumption) | exact absurd h (by assumption)) | (conv => whnf))
      | (refine Both.mk ?_ ?_ <;> (conv => whnf))
      | (refine Keep.mk (by repeat' first | exact trivial | rfl | refine And.intro ?_ ?_) ?_; conv => whnf)
      | (refine And.intro (by first | decide | omega) ?_; conv => whnf)
      | fail
    first | refine CallP.is (implFind_fr l t o c _ hf h0 ha) rfl ?_ | refine CallQ.is (implFind_fr l t o c _ hf h0 ha) rfl rfl ?_
    conv => whnf
    repeat' first
      | (refine CondP.yes ?_; conv => whnf)
      | (refine CondP.not ?_; conv => whnf)
      | ((first | refine CondP.dec (fun h => ?_) (fun h => ?_) | refine CondP.ndec (fun h => ?_) (fun h => ?_)) <;> first | (exfalso; first | omega | exact h (by assumption) | exact absurd h (by assumption)) | (conv => whnf))
      | (refine Both.mk ?_ ?_ <;> (conv => whnf))
      | (refine Keep.mk (by repeat' first | exact trivial | rfl | refine And.intro ?_ ?_) ?_; conv => whnf)
      | (refine And.intro (by first | decide | omega) ?_; conv => whnf)
      | fail
    refine CallP.convAIs (eqCoinResult_yes 0 c _ hc) ⟨cvCoinS, cvCoinS, trivial⟩ rfl trivial ?_
    conv => whnf
    repeat' first
      | (refine CondP.yes ?_; conv => whnf)
      | (refine CondP.not ?_; conv => whnf)
      | ((first | refine CondP.dec (fun h => ?_) (fun h => ?_) | refine CondP.ndec (fun h => ?_) (fun h => ?_)) <;> first | (exfalso; first | omega | exact h (by assumption) | exact absurd h (by assumption)) | (conv => whnf))
      | (refine Both.mk ?_ ?_ <;> (conv => whnf))
      | (refine Keep.mk (by repeat' first | exact trivial | rfl | refine And.intro ?_ ?_) ?_; conv => whnf)
      | (refine And.intro (by first | decide | omega) ?_; conv => whnf)
      | fail
    refine CallP.convAIs (heldCoinResult_rd 0 c 0 1 _ (by decide) (by decide)) ⟨cvCoinN, cvSame rfl, trivial⟩ rfl trivial ?_
    conv => whnf
    repeat' first
      | (refine CondP.yes ?_; conv => whnf)
      | (refine CondP.not ?_; conv => whnf)
      | ((first | refine CondP.dec (fun h => ?_) (fun h => ?_) | refine CondP.ndec (fun h => ?_) (fun h => ?_)) <;> first | (exfalso; first | omega | exact h (by assumption) | exact absurd h (by assumption)) | (conv => whnf))
      | (refine Both.mk ?_ ?_ <;> (conv => whnf))
      | (refine Keep.mk (by repeat' first | exact trivial | rfl | refine And.intro ?_ ?_) ?_; conv => whnf)
      | (refine And.intro (by first | decide | omega) ?_; conv => whnf)
      | fail
    exact FinOk.pure rfl rfl rfl rfl
theorem lawFindCoin (l : List CoinD) (t o : Int) (n : Nat) (hm : MemC l) : Ret Try.prog 6 [coinsV l, iv t, iv o] [] n true (fun r _ _ => r = bv true) := by
  by_cases h0 : coinsC l = 0
  · cases ha : atC l t o with
    | none => exact lawFindCoin_bad l t o 4 n hm (fun n hf => specFind_none l t o n hf.len h0 ha) (fun n hf => implFind_none l t o n hf.len h0 ha)
    | some c => exact lawFindCoin_some l t o c n hm h0 ha
  · exact lawFindCoin_bad l t o (coinsC l) n hm (fun n hf => specFind_fault l t o n hf.len h0) (fun n hf => implFind_fault l t o n hf.len h0)
end Go.Proofs.Ytdafmioegaelgaa
