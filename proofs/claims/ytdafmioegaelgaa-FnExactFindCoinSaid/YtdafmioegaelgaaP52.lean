/-
  CHAPTER 5: coins whose memory is their own: how the laws make and mark them.
-/
import Derived.Test.YtdafmioegaelgaaP40
import Derived.Test.YtdafmioegaelgaaP43
namespace Go.Proofs.Ytdafmioegaelgaa
open Go Go.Am Go.RowKit
set_option linter.unusedVariables false
set_option linter.unusedSimpArgs false
abbrev coinT (c : CoinD) : List AV := [iv c.tx, iv c.out, iv c.val, tl c.lock, iv c.h, bv c.base]
theorem fzCoin (xs : List CoinD) : FzR 6 (xs.map coinT) (xs.map coinRow) := FzR.map (f := coinT) (g := coinRow) (fun _ => rfl) (fun x => ⟨.val _, .val _, .val _, fzTl x.lock, .val _, .val _, trivial⟩) xs
theorem inBCoin (xs : List CoinD) : ∀ c ∈ (xs.map coinT).flatten, inB c = true := inB_map (fun x c hc => by simp only [List.mem_cons, List.not_mem_nil, or_false] at hc; rcases hc with rfl | rfl | rfl | rfl | rfl | rfl <;> rfl) xs
theorem toCoin_own (c : CoinD) (n : Nat) (h : pCoin c ≤ 1048576) : Ret Try.prog 60 [coinV c] [] n true (Is (.agg [iv c.tx, iv c.out, iv c.val, .own n c.lock.length, iv c.h, bv c.base]) [(n, .list 2 1 (ivs c.lock))] (n + 1)) := by
  refine Ret.fn ttOk Try.func60 rfl Try.call60 rfl rfl ?_
  conv => whnf
  repeat' first
    | (refine CondP.yes ?_; conv => whnf)
    | (refine CondP.not ?_; conv => whnf)
    | ((first | refine CondP.dec (fun h => ?_) (fun h => ?_) | refine CondP.ndec (fun h => ?_) (fun h => ?_)) <;> first | (exfalso; first | omega | exact h (by assumption) | exact absurd h (by assumption)) | (conv => whnf))
    | (refine Both.mk ?_ ?_ <;> (conv => whnf))
    | (refine Keep.mk (by repeat' first | exact trivial | rfl | refine And.intro ?_ ?_) ?_; conv => whnf)
    | (refine And.intro (by first | decide | omega) ?_; conv => whnf)
    | fail
  first | refine CallP.is (toInt64S_ret c.lock _ h) rfl ?_ | refine CallQ.is (toInt64S_ret c.lock _ h) rfl rfl ?_
  conv => whnf
  repeat' first
    | (refine CondP.yes ?_; conv => whnf)
    | (refine CondP.not ?_; conv => whnf)
    | ((first | refine CondP.dec (fun h => ?_) (fun h => ?_) | refine CondP.ndec (fun h => ?_) (fun h => ?_)) <;> first | (exfalso; first | omega | exact h (by assumption) | exact absurd h (by assumption)) | (conv => whnf))
    | (refine Both.mk ?_ ?_ <;> (conv => whnf))
    | (refine Keep.mk (by repeat' first | exact trivial | rfl | refine And.intro ?_ ?_) ?_; conv => whnf)
    | (refine And.intro (by first | decide | omega) ?_; conv => whnf)
    | fail
  refine FinOk.mk' [3] rfl rfl rfl rfl rfl rfl rfl ⟨?_, ?_, rfl⟩
  · rfl
  · rfl
abbrev zeroCoin : List AV := [iv 0, iv 0, iv 0, nl, iv 0, bv false]
theorem toCoinS_own (xs : List CoinD) (n : Nat) (hf : FitsC xs) : Ret Try.prog 28 [coinsV xs] [] n true (Is (.own n xs.length) [(n, .nest (c := true) 59 6 (xs.map coinT))] (n + 1)) := by
  have hL : (xs.map coinRow).length = xs.length := by simp
  have hl := hf.len
  have hB := inB_fill (f := coinT) (z := zeroCoin) (fun x c hc => inBCoin [x] c (by simpa using hc)) (fun c hc => by simp only [List.mem_cons, List.not_mem_nil, or_false] at hc; rcases hc with rfl | rfl | rfl | rfl | rfl | rfl <;> rfl) xs
  refine Ret.fn ttOk Try.func28 rfl Try.call28 rfl rfl ?_
  conv => whnf
  repeat' first
    | (refine CondP.yes ?_; conv => whnf)
    | (refine CondP.not ?_; conv => whnf)
    | ((first | refine CondP.dec (fun h => ?_) (fun h => ?_) | refine CondP.ndec (fun h => ?_) (fun h => ?_)) <;> first | (exfalso; first | omega | exact h (by assumption) | exact absurd h (by assumption)) | (conv => whnf))
    | (refine Both.mk ?_ ?_ <;> (conv => whnf))
    | (refine Keep.mk (by repeat' first | exact trivial | rfl | refine And.intro ?_ ?_) ?_; conv => whnf)
    | (refine And.intro (by first | decide | omega) ?_; conv => whnf)
    | fail
  rw [hL]
  refine ⟨⟨by omega, by omega, by omega, by show _ * 64 ≤ _; omega⟩, ?_⟩
  conv => whnf
  repeat' first
    | (refine CondP.yes ?_; conv => whnf)
    | (refine CondP.not ?_; conv => whnf)
    | ((first | refine CondP.dec (fun h => ?_) (fun h => ?_) | refine CondP.ndec (fun h => ?_) (fun h => ?_)) <;> first | (exfalso; first | omega | exact h (by assumption) | exact absurd h (by assumption)) | (conv => whnf))
    | (refine Both.mk ?_ ?_ <;> (conv => whnf))
    | (refine Keep.mk (by repeat' first | exact trivial | rfl | refine And.intro ?_ ?_) ?_; conv => whnf)
    | (refine And.intro (by first | decide | omega) ?_; conv => whnf)
    | fail
  refine LoopP.go (fun k : Nat => k ≤ xs.length) (fun k => ⟨[(0, coinsV xs), (3, .own 0 xs.length), (4, iv k)], [(0, .nest (c := true) 59 6 (fillR coinT zeroCoin xs k))], 1⟩) (fun k => xs.length - k) 0 (Nat.zero_le _) ?_ ?_
  · refine (Weak.nest 0 _ _ _ rfl).trans (Weak.of rfl rfl (by repeat' first | exact trivial | rfl | exact leafI (by first | rfl | omega | (simp (disch := omega) only [Int.reduceToNat, IntKind.bits, Nat.min_eq_left, Int.reducePow, IntWalk.i64_in, IntWalk.rem_in, IntWalk.i64_quo, IntWalk.u8_in, IntWalk.u32_in, IntWalk.u64_in]; done) | (simp (disch := omega) only [Int.reduceToNat, IntKind.bits, Nat.min_eq_left, Int.reducePow, IntWalk.i64_in, IntWalk.rem_in, IntWalk.i64_quo, IntWalk.u8_in, IntWalk.u32_in, IntWalk.u64_in]; omega)) | refine And.intro ?_ ?_) ⟨⟨congrArg some (congrArg _ ?_), rfl, rfl⟩, trivial⟩)
    unfold fillR; simp
  intro k hk
  have hfl := fillR_len coinT zeroCoin xs k hk
  conv => whnf
  repeat' first
    | (refine CondP.yes ?_; conv => whnf)
    | (refine CondP.not ?_; conv => whnf)
    | ((first | refine CondP.dec (fun h => ?_) (fun h => ?_) | refine CondP.ndec (fun h => ?_) (fun h => ?_)) <;> first | (exfalso; first | omega | exact h (by assumption) | exact absurd h (by assumption)) | (conv => whnf))
    | (refine Both.mk ?_ ?_ <;> (conv => whnf))
    | (refine Keep.mk (by repeat' first | exact trivial | rfl | refine And.intro ?_ ?_) ?_; conv => whnf)
    | (refine And.intro (by first | decide | omega) ?_; conv => whnf)
    | fail
  · have hlt : k < xs.length := by omega
    rw [rowK coinRow xs k hlt]
    refine ⟨by rw [hL]; exact ⟨by omega, by omega, rfl⟩, ?_⟩
    conv => whnf
    repeat' first
      | (refine CondP.yes ?_; conv => whnf)
      | (refine CondP.not ?_; conv => whnf)
      | ((first | refine CondP.dec (fun h => ?_) (fun h => ?_) | refine CondP.ndec (fun h => ?_) (fun h => ?_)) <;> first | (exfalso; first | omega | exact h (by assumption) | exact absurd h (by assumption)) | (conv => whnf))
      | (refine Both.mk ?_ ?_ <;> (conv => whnf))
      | (refine Keep.mk (by repeat' first | exact trivial | rfl | refine And.intro ?_ ?_) ?_; conv => whnf)
      | (refine And.intro (by first | decide | omega) ?_; conv => whnf)
      | fail
    first | refine CallP.is (toCoin_own xs[k] _ (hf.locks _ (List.getElem_mem hlt))) rfl ?_ | refine CallQ.is (toCoin_own xs[k] _ (hf.locks _ (List.getElem_mem hlt))) rfl rfl ?_
    conv => whnf
    repeat' first
      | (refine CondP.yes ?_; conv => whnf)
      | (refine CondP.not ?_; conv => whnf)
      | ((first | refine CondP.dec (fun h => ?_) (fun h => ?_) | refine CondP.ndec (fun h => ?_) (fun h => ?_)) <;> first | (exfalso; first | omega | exact h (by assumption) | exact absurd h (by assumption)) | (conv => whnf))
      | (refine Both.mk ?_ ?_ <;> (conv => whnf))
      | (refine Keep.mk (by repeat' first | exact trivial | rfl | refine And.intro ?_ ?_) ?_; conv => whnf)
      | (refine And.intro (by first | decide | omega) ?_; conv => whnf)
      | fail
    rw [storeRow (by omega) (by rw [fillR_at coinT _ xs k hlt]; rfl)]
    refine ⟨k + 1, by omega, by omega, Weak.plant 0 _ 6 k 3 1 _ 1 xs[k].lock.length _ _ _ [iv xs[k].tx, iv xs[k].out, iv xs[k].val, .own 1 xs[k].lock.length, iv xs[k].h, bv xs[k].base] rfl rfl (by simp) ?_ rfl ?_ (hB (k + 1)) (inBIvs _) rfl ⟨⟨rfl, rfl, rfl⟩, ⟨rfl, rfl, rfl⟩, ⟨leafI (by first | rfl | omega | (simp (disch := omega) only [Int.reduceToNat, IntKind.bits, Nat.min_eq_left, Int.reducePow, IntWalk.i64_in, IntWalk.rem_in, IntWalk.i64_quo, IntWalk.u8_in, IntWalk.u32_in, IntWalk.u64_in]; done) | (simp (disch := omega) only [Int.reduceToNat, IntKind.bits, Nat.min_eq_left, Int.reducePow, IntWalk.i64_in, IntWalk.rem_in, IntWalk.i64_quo, IntWalk.u8_in, IntWalk.u32_in, IntWalk.u64_in]; omega)), rfl, rfl⟩, trivial⟩ trivial⟩
    · rw [List.getElem?_set_self (by omega)]; rfl
    · rw [List.set_set]
      exact (fillR_set coinT _ xs k hlt).symm
  · obtain rfl : k = xs.length := by omega
    rw [fillR_all]
    refine FinOk.mk' [0] rfl rfl rfl rfl rfl rfl rfl ⟨?_, ?_, rfl⟩
    · rfl
    · rfl
theorem markInts_nil (k0 : Int) (n : Nat) : Ret Try.prog 70 [nl, iv k0] [] n true (Is (iv k0) [] n) := by
  refine Ret.fn ttOk Try.func70 rfl Try.call70 rfl rfl ?_
  conv => whnf
  repeat' first
    | (refine CondP.yes ?_; conv => whnf)
    | (refine CondP.not ?_; conv => whnf)
    | ((first | refine CondP.dec (fun h => ?_) (fun h => ?_) | refine CondP.ndec (fun h => ?_) (fun h => ?_)) <;> first | (exfalso; first | omega | exact h (by assumption) | exact absurd h (by assumption)) | (conv => whnf))
    | (refine Both.mk ?_ ?_ <;> (conv => whnf))
    | (refine Keep.mk (by repeat' first | exact trivial | rfl | refine And.intro ?_ ?_) ?_; conv => whnf)
    | (refine And.intro (by first | decide | omega) ?_; conv => whnf)
    | fail
  refine LoopP.go (fun _ : Unit => True) (fun _ => ⟨[(0, nl), (1, iv k0), (5, iv 0)], [], 0⟩) (fun _ => 0) () trivial (Weak.of rfl rfl (by repeat' first | exact trivial | rfl | exact leafI (by first | rfl | omega | (simp (disch := omega) only [Int.reduceToNat, IntKind.bits, Nat.min_eq_left, Int.reducePow, IntWalk.i64_in, IntWalk.rem_in, IntWalk.i64_quo, IntWalk.u8_in, IntWalk.u32_in, IntWalk.u64_in]; done) | (simp (disch := omega) only [Int.reduceToNat, IntKind.bits, Nat.min_eq_left, Int.reducePow, IntWalk.i64_in, IntWalk.rem_in, IntWalk.i64_quo, IntWalk.u8_in, IntWalk.u32_in, IntWalk.u64_in]; omega)) | refine And.intro ?_ ?_) trivial) ?_
  intro _ _
  conv => whnf
  repeat' first
    | (refine CondP.yes ?_; conv => whnf)
    | (refine CondP.not ?_; conv => whnf)
    | ((first | refine CondP.dec (fun h => ?_) (fun h => ?_) | refine CondP.ndec (fun h => ?_) (fun h => ?_)) <;> first | (exfalso; first | omega | exact h (by assumption) | exact absurd h (by assumption)) | (conv => whnf))
    | (refine Both.mk ?_ ?_ <;> (conv => whnf))
    | (refine Keep.mk (by repeat' first | exact trivial | rfl | refine And.intro ?_ ?_) ?_; conv => whnf)
    | (refine And.intro (by first | decide | omega) ?_; conv => whnf)
    | fail
  refine FinOk.pure rfl rfl rfl ⟨?_, rfl, rfl⟩
  rfl
theorem markCoin_own (c : CoinD) (i m n : Nat) (h : pCoin c ≤ 1048576) (hm : m ≤ 1099511627776) : Ret Try.prog 71 [.agg [iv c.tx, iv c.out, iv c.val, .own i c.lock.length, iv c.h, bv c.base], iv m] [(i, .list 2 1 (ivs c.lock))] n true (Is (iv ((m + c.lock.length : Nat) : Int)) [(i, .list 2 1 (ivs (marks m c.lock.length)))] n) := by
  refine Ret.of_run (tt := tt) ttOk Try.func71 rfl Try.call71 [i] [.list 2 1 (ivs c.lock)] [.agg [iv c.tx, iv c.out, iv c.val, .own 0 c.lock.length, iv c.h, bv c.base], iv m] true n _ rfl (nodup1 i) (by exact Nat.le_of_ble_eq_true rfl) rfl rfl ?_
  conv => whnf
  repeat' first
    | (refine CondP.yes ?_; conv => whnf)
    | (refine CondP.not ?_; conv => whnf)
    | ((first | refine CondP.dec (fun h => ?_) (fun h => ?_) | refine CondP.ndec (fun h => ?_) (fun h => ?_)) <;> first | (exfalso; first | omega | exact h (by assumption) | exact absurd h (by assumption)) | (conv => whnf))
    | (refine Both.mk ?_ ?_ <;> (conv => whnf))
    | (refine Keep.mk (by repeat' first | exact trivial | rfl | refine And.intro ?_ ?_) ?_; conv => whnf)
    | (refine And.intro (by first | decide | omega) ?_; conv => whnf)
    | fail
  refine CallP.heapIs (markInt64S_ret c.lock 0 m _ h hm) rfl (by repeat' first | exact trivial | rfl | exact leafI (by first | rfl | omega | (simp (disch := omega) only [Int.reduceToNat, IntKind.bits, Nat.min_eq_left, Int.reducePow, IntWalk.i64_in, IntWalk.rem_in, IntWalk.i64_quo, IntWalk.u8_in, IntWalk.u32_in, IntWalk.u64_in]; done) | (simp (disch := omega) only [Int.reduceToNat, IntKind.bits, Nat.min_eq_left, Int.reducePow, IntWalk.i64_in, IntWalk.rem_in, IntWalk.i64_quo, IntWalk.u8_in, IntWalk.u32_in, IntWalk.u64_in]; omega)) | refine And.intro ?_ ?_) rfl ?_
  conv => whnf
  repeat' first
    | (refine CondP.yes ?_; conv => whnf)
    | (refine CondP.not ?_; conv => whnf)
    | ((first | refine CondP.dec (fun h => ?_) (fun h => ?_) | refine CondP.ndec (fun h => ?_) (fun h => ?_)) <;> first | (exfalso; first | omega | exact h (by assumption) | exact absurd h (by assumption)) | (conv => whnf))
    | (refine Both.mk ?_ ?_ <;> (conv => whnf))
    | (refine Keep.mk (by repeat' first | exact trivial | rfl | refine And.intro ?_ ?_) ?_; conv => whnf)
    | (refine And.intro (by first | decide | omega) ?_; conv => whnf)
    | fail
  refine FinOk.mk' [] rfl rfl rfl rfl rfl rfl rfl ⟨?_, ?_, rfl⟩
  · rfl
  · rfl
theorem markCoin_nil (c : CoinD) (m : Int) (n : Nat) : Ret Try.prog 71 [.agg [iv c.tx, iv c.out, iv c.val, nl, iv c.h, bv c.base], iv m] [] n true (Is (iv m) [] n) := by
  refine Ret.fn ttOk Try.func71 rfl Try.call71 rfl rfl ?_
  conv => whnf
  repeat' first
    | (refine CondP.yes ?_; conv => whnf)
    | (refine CondP.not ?_; conv => whnf)
    | ((first | refine CondP.dec (fun h => ?_) (fun h => ?_) | refine CondP.ndec (fun h => ?_) (fun h => ?_)) <;> first | (exfalso; first | omega | exact h (by assumption) | exact absurd h (by assumption)) | (conv => whnf))
    | (refine Both.mk ?_ ?_ <;> (conv => whnf))
    | (refine Keep.mk (by repeat' first | exact trivial | rfl | refine And.intro ?_ ?_) ?_; conv => whnf)
    | (refine And.intro (by first | decide | omega) ?_; conv => whnf)
    | fail
  first | refine CallP.is (markInts_nil m _) rfl ?_ | refine CallQ.is (markInts_nil m _) rfl rfl ?_
  conv => whnf
  repeat' first
    | (refine CondP.yes ?_; conv => whnf)
    | (refine CondP.not ?_; conv => whnf)
    | ((first | refine CondP.dec (fun h => ?_) (fun h => ?_) | refine CondP.ndec (fun h => ?_) (fun h => ?_)) <;> first | (exfalso; first | omega | exact h (by assumption) | exact absurd h (by assumption)) | (conv => whnf))
    | (refine Both.mk ?_ ?_ <;> (conv => whnf))
    | (refine Keep.mk (by repeat' first | exact trivial | rfl | refine And.intro ?_ ?_) ?_; conv => whnf)
    | (refine And.intro (by first | decide | omega) ?_; conv => whnf)
    | fail
  refine FinOk.pure rfl rfl rfl ⟨?_, rfl, rfl⟩
  rfl
theorem markCoinResult_own (z : Int) (c : CoinD) (i m n : Nat) (h : pCoin c ≤ 1048576) (hm : m ≤ 1099511627776) : Ret Try.prog 35 [.agg [iv z, iv c.tx, iv c.out, iv c.val, .own i c.lock.length, iv c.h, bv c.base], iv m] [(i, .list 2 1 (ivs c.lock))] n true (Is (iv ((m + c.lock.length : Nat) : Int)) [(i, .list 2 1 (ivs (marks m c.lock.length)))] n) := by
  refine Ret.of_run (tt := tt) ttOk Try.func35 rfl Try.call35 [i] [.list 2 1 (ivs c.lock)] [.agg [iv z, iv c.tx, iv c.out, iv c.val, .own 0 c.lock.length, iv c.h, bv c.base], iv m] true n _ rfl (nodup1 i) (by exact Nat.le_of_ble_eq_true rfl) rfl rfl ?_
  conv => whnf
  repeat' first
    | (refine CondP.yes ?_; conv => whnf)
    | (refine CondP.not ?_; conv => whnf)
    | ((first | refine CondP.dec (fun h => ?_) (fun h => ?_) | refine CondP.ndec (fun h => ?_) (fun h => ?_)) <;> first | (exfalso; first | omega | exact h (by assumption) | exact absurd h (by assumption)) | (conv => whnf))
    | (refine Both.mk ?_ ?_ <;> (conv => whnf))
    | (refine Keep.mk (by repeat' first | exact trivial | rfl | refine And.intro ?_ ?_) ?_; conv => whnf)
    | (refine And.intro (by first | decide | omega) ?_; conv => whnf)
    | fail
  refine CallP.heapIs (markCoin_own c 0 m _ h hm) rfl (by repeat' first | exact trivial | rfl | exact leafI (by first | rfl | omega | (simp (disch := omega) only [Int.reduceToNat, IntKind.bits, Nat.min_eq_left, Int.reducePow, IntWalk.i64_in, IntWalk.rem_in, IntWalk.i64_quo, IntWalk.u8_in, IntWalk.u32_in, IntWalk.u64_in]; done) | (simp (disch := omega) only [Int.reduceToNat, IntKind.bits, Nat.min_eq_left, Int.reducePow, IntWalk.i64_in, IntWalk.rem_in, IntWalk.i64_quo, IntWalk.u8_in, IntWalk.u32_in, IntWalk.u64_in]; omega)) | refine And.intro ?_ ?_) rfl ?_
  conv => whnf
  repeat' first
    | (refine CondP.yes ?_; conv => whnf)
    | (refine CondP.not ?_; conv => whnf)
    | ((first | refine CondP.dec (fun h => ?_) (fun h => ?_) | refine CondP.ndec (fun h => ?_) (fun h => ?_)) <;> first | (exfalso; first | omega | exact h (by assumption) | exact absurd h (by assumption)) | (conv => whnf))
    | (refine Both.mk ?_ ?_ <;> (conv => whnf))
    | (refine Keep.mk (by repeat' first | exact trivial | rfl | refine And.intro ?_ ?_) ?_; conv => whnf)
    | (refine And.intro (by first | decide | omega) ?_; conv => whnf)
    | fail
  refine FinOk.mk' [] rfl rfl rfl rfl rfl rfl rfl ⟨?_, ?_, rfl⟩
  · rfl
  · rfl
theorem markCoinResult_nil (z : Int) (c : CoinD) (m : Int) (n : Nat) : Ret Try.prog 35 [.agg [iv z, iv c.tx, iv c.out, iv c.val, nl, iv c.h, bv c.base], iv m] [] n true (Is (iv m) [] n) := by
  refine Ret.fn ttOk Try.func35 rfl Try.call35 rfl rfl ?_
  conv => whnf
  repeat' first
    | (refine CondP.yes ?_; conv => whnf)
    | (refine CondP.not ?_; conv => whnf)
    | ((first | refine CondP.dec (fun h => ?_) (fun h => ?_) | refine CondP.ndec (fun h => ?_) (fun h => ?_)) <;> first | (exfalso; first | omega | exact h (by assumption) | exact absurd h (by assumption)) | (conv => whnf))
    | (refine Both.mk ?_ ?_ <;> (conv => whnf))
    | (refine Keep.mk (by repeat' first | exact trivial | rfl | refine And.intro ?_ ?_) ?_; conv => whnf)
    | (refine And.intro (by first | decide | omega) ?_; conv => whnf)
    | fail
  first | refine CallP.is (markCoin_nil c m _) rfl ?_ | refine CallQ.is (markCoin_nil c m _) rfl rfl ?_
  conv => whnf
  repeat' first
    | (refine CondP.yes ?_; conv => whnf)
    | (refine CondP.not ?_; conv => whnf)
    | ((first | refine CondP.dec (fun h => ?_) (fun h => ?_) | refine CondP.ndec (fun h => ?_) (fun h => ?_)) <;> first | (exfalso; first | omega | exact h (by assumption) | exact absurd h (by assumption)) | (conv => whnf))
    | (refine Both.mk ?_ ?_ <;> (conv => whnf))
    | (refine Keep.mk (by repeat' first | exact trivial | rfl | refine And.intro ?_ ?_) ?_; conv => whnf)
    | (refine And.intro (by first | decide | omega) ?_; conv => whnf)
    | fail
  refine FinOk.pure rfl rfl rfl ⟨?_, rfl, rfl⟩
  rfl
theorem heldCoin_rd (c : CoinD) (len m n : Nat) (h : len ≤ 1048576) (hm : m ≤ 1099511627776) : Ret Try.prog 72 [.agg [iv c.tx, iv c.out, iv c.val, il (marks m len), iv c.h, bv c.base], iv m] [] n true (Is (iv ((m + len : Nat) : Int)) [] n) := by
  refine Ret.fn ttOk Try.func72 rfl Try.call72 rfl rfl ?_
  conv => whnf
  repeat' first
    | (refine CondP.yes ?_; conv => whnf)
    | (refine CondP.not ?_; conv => whnf)
    | ((first | refine CondP.dec (fun h => ?_) (fun h => ?_) | refine CondP.ndec (fun h => ?_) (fun h => ?_)) <;> first | (exfalso; first | omega | exact h (by assumption) | exact absurd h (by assumption)) | (conv => whnf))
    | (refine Both.mk ?_ ?_ <;> (conv => whnf))
    | (refine Keep.mk (by repeat' first | exact trivial | rfl | refine And.intro ?_ ?_) ?_; conv => whnf)
    | (refine And.intro (by first | decide | omega) ?_; conv => whnf)
    | fail
  first | refine CallP.is (heldInt64S_rd len m _ h hm) rfl ?_ | refine CallQ.is (heldInt64S_rd len m _ h hm) rfl rfl ?_
  conv => whnf
  repeat' first
    | (refine CondP.yes ?_; conv => whnf)
    | (refine CondP.not ?_; conv => whnf)
    | ((first | refine CondP.dec (fun h => ?_) (fun h => ?_) | refine CondP.ndec (fun h => ?_) (fun h => ?_)) <;> first | (exfalso; first | omega | exact h (by assumption) | exact absurd h (by assumption)) | (conv => whnf))
    | (refine Both.mk ?_ ?_ <;> (conv => whnf))
    | (refine Keep.mk (by repeat' first | exact trivial | rfl | refine And.intro ?_ ?_) ?_; conv => whnf)
    | (refine And.intro (by first | decide | omega) ?_; conv => whnf)
    | fail
  refine FinOk.pure rfl rfl rfl ⟨?_, rfl, rfl⟩
  rfl
theorem heldCoinResult_rd (z : Int) (c : CoinD) (len m n : Nat) (h : len ≤ 1048576) (hm : m ≤ 1099511627776) : Ret Try.prog 36 [.agg [iv z, iv c.tx, iv c.out, iv c.val, il (marks m len), iv c.h, bv c.base], iv m] [] n true (Is (iv ((m + len : Nat) : Int)) [] n) := by
  refine Ret.fn ttOk Try.func36 rfl Try.call36 rfl rfl ?_
  conv => whnf
  repeat' first
    | (refine CondP.yes ?_; conv => whnf)
    | (refine CondP.not ?_; conv => whnf)
    | ((first | refine CondP.dec (fun h => ?_) (fun h => ?_) | refine CondP.ndec (fun h => ?_) (fun h => ?_)) <;> first | (exfalso; first | omega | exact h (by assumption) | exact absurd h (by assumption)) | (conv => whnf))
    | (refine Both.mk ?_ ?_ <;> (conv => whnf))
    | (refine Keep.mk (by repeat' first | exact trivial | rfl | refine And.intro ?_ ?_) ?_; conv => whnf)
    | (refine And.intro (by first | decide | omega) ?_; conv => whnf)
    | fail
  first | refine CallP.is (heldCoin_rd c len m _ h hm) rfl ?_ | refine CallQ.is (heldCoin_rd c len m _ h hm) rfl rfl ?_
  conv => whnf
  repeat' first
    | (refine CondP.yes ?_; conv => whnf)
    | (refine CondP.not ?_; conv => whnf)
    | ((first | refine CondP.dec (fun h => ?_) (fun h => ?_) | refine CondP.ndec (fun h => ?_) (fun h => ?_)) <;> first | (exfalso; first | omega | exact h (by assumption) | exact absurd h (by assumption)) | (conv => whnf))
    | (refine Both.mk ?_ ?_ <;> (conv => whnf))
    | (refine Keep.mk (by repeat' first | exact trivial | rfl | refine And.intro ?_ ?_) ?_; conv => whnf)
    | (refine And.intro (by first | decide | omega) ?_; conv => whnf)
    | fail
  refine FinOk.pure rfl rfl rfl ⟨?_, rfl, rfl⟩
  rfl
theorem eqCoinResult_yes (z : Int) (c : CoinD) (n : Nat) (h : pCoin c ≤ 1048576) : Ret Try.prog 33 [.agg [iv z, iv c.tx, iv c.out, iv c.val, il c.lock, iv c.h, bv c.base], .agg [iv z, iv c.tx, iv c.out, iv c.val, il c.lock, iv c.h, bv c.base]] [] n true (Is (bv true) [] n) := by
  have he := fun n => eqCoin_ret c c n h
  simp only [decide_true] at he
  refine Ret.fn ttOk Try.func33 rfl Try.call33 rfl rfl ?_
  conv => whnf
  repeat' first
    | (refine CondP.yes ?_; conv => whnf)
    | (refine CondP.not ?_; conv => whnf)
    | ((first | refine CondP.dec (fun h => ?_) (fun h => ?_) | refine CondP.ndec (fun h => ?_) (fun h => ?_)) <;> first | (exfalso; first | omega | exact h (by assumption) | exact absurd h (by assumption)) | (conv => whnf))
    | (refine Both.mk ?_ ?_ <;> (conv => whnf))
    | (refine Keep.mk (by repeat' first | exact trivial | rfl | refine And.intro ?_ ?_) ?_; conv => whnf)
    | (refine And.intro (by first | decide | omega) ?_; conv => whnf)
    | fail
  first | refine CallP.is (he _) rfl ?_ | refine CallQ.is (he _) rfl rfl ?_
  conv => whnf
  repeat' first
    | (refine CondP.yes ?_; conv => whnf)
    | (refine CondP.not ?_; conv => whnf)
    | ((first | refine CondP.dec (fun h => ?_) (fun h => ?_) | refine CondP.ndec (fun h => ?_) (fun h => ?_)) <;> first | (exfalso; first | omega | exact h (by assumption) | exact absurd h (by assumption)) | (conv => whnf))
    | (refine Both.mk ?_ ?_ <;> (conv => whnf))
    | (refine Keep.mk (by repeat' first | exact trivial | rfl | refine And.intro ?_ ?_) ?_; conv => whnf)
    | (refine And.intro (by first | decide | omega) ?_; conv => whnf)
    | fail
  refine FinOk.pure rfl rfl rfl ⟨?_, rfl, rfl⟩
  rfl
abbrev mkC (m : Nat) (c : CoinD) : CoinD := ⟨(m : Int), ((m + 1 : Nat) : Int), ((m + 2 : Nat) : Int), marks (m + 3) c.lock.length, ((m + 3 + c.lock.length : Nat) : Int), decide (((m + 4 + c.lock.length : Nat) : Int).tmod 3 = 0)⟩
def mkCs (m : Nat) : List CoinD → List CoinD
  | [] => []
  | x :: r => mkC m x :: mkCs (m + 5 + x.lock.length) r
def nCs (m : Nat) : List CoinD → Nat
  | [] => m
  | x :: r => nCs (m + 5 + x.lock.length) r
theorem mkCs_len : ∀ (l : List CoinD) (m : Nat), (mkCs m l).length = l.length
  | [], m => rfl
  | x :: r, m => by simp [mkCs, mkCs_len r]
theorem mkCs_app : ∀ (l : List CoinD) (x : CoinD) (m : Nat), mkCs m (l ++ [x]) = mkCs m l ++ [mkC (nCs m l) x] ∧ nCs m (l ++ [x]) = nCs m l + 5 + x.lock.length
  | [], x, m => ⟨rfl, rfl⟩
  | y :: r, x, m => by
    obtain ⟨h1, h2⟩ := mkCs_app r x (m + 5 + y.lock.length)
    exact ⟨by simp only [List.cons_append, mkCs, nCs, h1], by simp only [List.cons_append, nCs, h2]⟩
theorem nCs_eq : ∀ (l : List CoinD) (m : Nat), nCs m l = m + 5 * l.length + psum pCoin l
  | [], m => by simp [nCs, psum]
  | x :: r, m => by
    rw [nCs, nCs_eq r]
    simp only [psum, List.map_cons, List.sum_cons, List.length_cons, pCoin]
    omega
def mkR (m : Nat) (xs : List CoinD) (k : Nat) : List CoinD := mkCs m (xs.take k) ++ xs.drop k
theorem mkR_zero (m : Nat) (xs : List CoinD) : mkR m xs 0 = xs := by simp [mkR, mkCs]
theorem mkR_all (m : Nat) (xs : List CoinD) : mkR m xs xs.length = mkCs m xs := by simp [mkR]
theorem mkR_len (m : Nat) (xs : List CoinD) (k : Nat) (h : k ≤ xs.length) : (mkR m xs k).length = xs.length := by simp [mkR, mkCs_len]; omega
theorem mkR_at (m : Nat) (xs : List CoinD) (k : Nat) (h : k < xs.length) : (mkR m xs k)[k]? = some xs[k] := by
  rw [mkR, List.getElem?_append_right (by rw [mkCs_len, List.length_take]; omega), mkCs_len, List.length_take, List.getElem?_drop, show k + (k - min k xs.length) = k by omega, List.getElem?_eq_getElem h]
theorem mkR_set (m : Nat) (xs : List CoinD) (k : Nat) (h : k < xs.length) : (mkR m xs k).set k (mkC (nCs m (xs.take k)) xs[k]) = mkR m xs (k + 1) := by
  unfold mkR
  rw [takeS xs k h, (mkCs_app _ _ _).1, List.set_append_right _ _ (by rw [mkCs_len, List.length_take]; omega), mkCs_len, List.length_take, show k - min k xs.length = 0 by omega, List.drop_eq_getElem_cons h, List.set_cons_zero, List.append_assoc]
  rfl
theorem markCoinS_own (xs : List CoinD) (i m n : Nat) (hl : xs.length ≤ 1048576) (hp : psum pCoin xs ≤ 1048576) (hm : m ≤ 1099000000000) :
    Ret Try.prog 34 [.own i xs.length, iv m] [(i, .nest (c := true) 59 6 (xs.map coinT))] n true (Is (iv (nCs m xs)) [(i, .nest (c := true) 59 6 ((mkCs m xs).map coinT))] n) := by
  refine Ret.of_run (tt := tt) ttOk Try.func34 rfl Try.call34 [i] [.nest (c := true) 59 6 (xs.map coinT)] [.own 0 xs.length, iv m] true n _ rfl (nodup1 i) (by exact Nat.le_of_ble_eq_true rfl) rfl rfl ?_
  conv => whnf
  repeat' first
    | (refine CondP.yes ?_; conv => whnf)
    | (refine CondP.not ?_; conv => whnf)
    | ((first | refine CondP.dec (fun h => ?_) (fun h => ?_) | refine CondP.ndec (fun h => ?_) (fun h => ?_)) <;> first | (exfalso; first | omega | exact h (by assumption) | exact absurd h (by assumption)) | (conv => whnf))
    | (refine Both.mk ?_ ?_ <;> (conv => whnf))
    | (refine Keep.mk (by repeat' first | exact trivial | rfl | refine And.intro ?_ ?_) ?_; conv => whnf)
    | (refine And.intro (by first | decide | omega) ?_; conv => whnf)
    | fail
  obtain ⟨R, hR⟩ : ∃ R : Nat → List (List AV), ∀ k, R k = (mkR m xs k).map coinT := ⟨_, fun _ => rfl⟩
  obtain ⟨cn, hcn⟩ : ∃ cn : Nat → Nat, ∀ k, cn k = nCs m (xs.take k) := ⟨_, fun _ => rfl⟩
  have hRB : ∀ k, ∀ c ∈ (R k).flatten, inB c = true := fun k => by rw [hR]; exact inBCoin _
  have hRl : ∀ k, k ≤ xs.length → (R k).length = xs.length := fun k hk => by rw [hR, List.length_map, mkR_len m xs k hk]
  have hRa : ∀ k (h : k < xs.length), (R k)[k]? = some (coinT xs[k]) := fun k h => by rw [hR, List.getElem?_map, mkR_at m xs k h]; rfl
  have hRs : ∀ k (h : k < xs.length), (R k).set k (coinT (mkC (cn k) xs[k])) = R (k + 1) := fun k h => by rw [hR, hR, hcn, setM coinT, mkR_set m xs k h]
  have hcb : ∀ k, k ≤ xs.length → cn k ≤ m + 5 * xs.length + psum pCoin xs := fun k hk => by
    have h1 := nCs_eq (xs.take k) m
    have h2 := psum_le pCoin xs k
    rw [List.length_take] at h1
    rw [hcn]; omega
  have hcs : ∀ k (h : k < xs.length), cn (k + 1) = cn k + 5 + xs[k].lock.length := fun k h => by rw [hcn, hcn, takeS xs k h, (mkCs_app _ _ _).2]
  have up : ∀ k (h : k < xs.length), Weak [0] ⟨[(0, .own 0 xs.length), (1, iv (cn k)), (5, iv k)], [(0, .nest (c := true) 59 6 (R k))], 1⟩ ⟨[(0, .own 0 xs.length), (1, iv (cn k)), (5, iv k)], [(0, .nest (c := false) 59 6 ((R k).set k [iv xs[k].tx, iv xs[k].out, iv xs[k].val, .own 1 xs[k].lock.length, iv xs[k].h, bv xs[k].base])), (1, .list 2 1 (ivs xs[k].lock))], 2⟩ := fun k h => by
    refine (Weak.lift 0 _ 6 k 3 _ 1 (R k) (ivs xs[k].lock) (coinT xs[k]) rfl (hRa k h) rfl (plIvs _) rfl).trans ?_
    rw [List.length_map]
    exact Weak.of rfl rfl ⟨⟨rfl, rfl⟩, ⟨rfl, rfl⟩, ⟨rfl, rfl⟩, trivial⟩ ⟨⟨rfl, rfl, ltO_set (hRB k) rfl⟩, ⟨rfl, rfl, rfl⟩, trivial⟩
  have toT : ∀ k, Weak [0] ⟨[(0, .own 0 xs.length), (1, iv (cn k)), (5, iv k)], [(0, .nest (c := true) 59 6 (R k))], 1⟩ (if h : k < xs.length then ⟨[(0, .own 0 xs.length), (1, iv (cn k)), (5, iv k)], [(0, .nest (c := false) 59 6 ((R k).set k [iv xs[k].tx, iv xs[k].out, iv xs[k].val, .own 1 xs[k].lock.length, iv xs[k].h, bv xs[k].base])), (1, .list 2 1 (ivs xs[k].lock))], 2⟩ else ⟨[(0, .own 0 xs.length), (1, iv (cn k)), (5, iv k)], [(0, .nest (c := true) 59 6 (R k))], 1⟩) := fun k => by
    by_cases h : k < xs.length
    · rw [dif_pos h]; exact up k h
    · rw [dif_neg h]; exact fun E a w _ hR => hR
  have h0 : m = cn 0 := by rw [hcn]; rfl
  have hR0 : xs.map coinT = R 0 := by rw [hR, mkR_zero]
  rw [hR0]
  refine LoopP.go (fun k : Nat => k ≤ xs.length) (fun k => if h : k < xs.length then ⟨[(0, .own 0 xs.length), (1, iv (cn k)), (5, iv k)], [(0, .nest (c := false) 59 6 ((R k).set k [iv xs[k].tx, iv xs[k].out, iv xs[k].val, .own 1 xs[k].lock.length, iv xs[k].h, bv xs[k].base])), (1, .list 2 1 (ivs xs[k].lock))], 2⟩ else ⟨[(0, .own 0 xs.length), (1, iv (cn k)), (5, iv k)], [(0, .nest (c := true) 59 6 (R k))], 1⟩) (fun k => xs.length - k) 0 (Nat.zero_le _) (Weak.trans ?_ (toT 0)) ?_
  · exact Weak.of rfl rfl ⟨⟨rfl, rfl⟩, ⟨leafI (by rw [h0]), rfl⟩, ⟨rfl, rfl⟩, trivial⟩ ⟨⟨rfl, rfl, rfl⟩, trivial⟩
  intro k hk
  by_cases hlt : k < xs.length
  · rw [dif_pos hlt]
    have hb := hcb k hk
    have hb1 := hcb (k + 1) hlt
    have hst := hcs k hlt
    have hRk := hRl k hk
    have hps := psum_mem pCoin xs xs[k] (List.getElem_mem hlt)
    simp only [pCoin] at hps
    have w1 : IntKind.i64.wrap ((cn k : Int) + 1) = ((cn k + 1 : Nat) : Int) := by rw [IntWalk.i64_in _ (by omega)]; omega
    have w2 : IntKind.i64.wrap (((cn k + 1 : Nat) : Int) + 1) = ((cn k + 2 : Nat) : Int) := by rw [IntWalk.i64_in _ (by omega)]; omega
    have w3 : IntKind.i64.wrap (((cn k + 2 : Nat) : Int) + 1) = ((cn k + 3 : Nat) : Int) := by rw [IntWalk.i64_in _ (by omega)]; omega
    have w4 : IntKind.i64.wrap (((cn k + 3 + xs[k].lock.length : Nat) : Int) + 1) = ((cn k + 4 + xs[k].lock.length : Nat) : Int) := by rw [IntWalk.i64_in _ (by omega)]; omega
    have w5 : IntKind.i64.wrap (((cn k + 4 + xs[k].lock.length : Nat) : Int) + 1) = ((cn k + 5 + xs[k].lock.length : Nat) : Int) := by rw [IntWalk.i64_in _ (by omega)]; omega
    conv => whnf
    repeat' first
      | (refine AbsK.use (by assumption) ?_; conv => whnf)
      | (refine CondP.yes ?_; conv => whnf)
      | (refine CondP.not ?_; conv => whnf)
      | ((first | refine CondP.dec (fun h => ?_) (fun h => ?_) | refine CondP.ndec (fun h => ?_) (fun h => ?_)) <;> first | (exfalso; first | omega | exact h (by assumption) | exact absurd h (by assumption)) | (conv => whnf))
      | (refine Both.mk ?_ ?_ <;> (conv => whnf))
      | (refine Keep.mk (by repeat' first | exact trivial | rfl | refine And.intro ?_ ?_) ?_; conv => whnf)
      | (refine And.intro (by first | decide | omega) ?_; first | (refine runOps_abs (fun K hK => ?_); conv => whnf) | (conv => whnf))
      | fail
    refine ⟨by rw [List.length_set]; omega, ?_⟩
    rw [setAt (by omega) (row' := [iv (cn k), iv xs[k].out, iv xs[k].val, .own 1 xs[k].lock.length, iv xs[k].h, bv xs[k].base]) rfl]
    try refine runOps_abs (fun K hK => ?_)
    conv => whnf
    repeat' first
      | (refine AbsK.use (by assumption) ?_; conv => whnf)
      | (refine CondP.yes ?_; conv => whnf)
      | (refine CondP.not ?_; conv => whnf)
      | ((first | refine CondP.dec (fun h => ?_) (fun h => ?_) | refine CondP.ndec (fun h => ?_) (fun h => ?_)) <;> first | (exfalso; first | omega | exact h (by assumption) | exact absurd h (by assumption)) | (conv => whnf))
      | (refine Both.mk ?_ ?_ <;> (conv => whnf))
      | (refine Keep.mk (by repeat' first | exact trivial | rfl | refine And.intro ?_ ?_) ?_; conv => whnf)
      | (refine And.intro (by first | decide | omega) ?_; first | (refine runOps_abs (fun K hK => ?_); conv => whnf) | (conv => whnf))
      | fail
    rw [w1]
    refine ⟨by rw [List.length_set]; omega, ?_⟩
    rw [setAt (by omega) (row' := [iv (cn k), iv ((cn k + 1 : Nat) : Int), iv xs[k].val, .own 1 xs[k].lock.length, iv xs[k].h, bv xs[k].base]) rfl]
    try refine runOps_abs (fun K hK => ?_)
    conv => whnf
    repeat' first
      | (refine AbsK.use (by assumption) ?_; conv => whnf)
      | (refine CondP.yes ?_; conv => whnf)
      | (refine CondP.not ?_; conv => whnf)
      | ((first | refine CondP.dec (fun h => ?_) (fun h => ?_) | refine CondP.ndec (fun h => ?_) (fun h => ?_)) <;> first | (exfalso; first | omega | exact h (by assumption) | exact absurd h (by assumption)) | (conv => whnf))
      | (refine Both.mk ?_ ?_ <;> (conv => whnf))
      | (refine Keep.mk (by repeat' first | exact trivial | rfl | refine And.intro ?_ ?_) ?_; conv => whnf)
      | (refine And.intro (by first | decide | omega) ?_; first | (refine runOps_abs (fun K hK => ?_); conv => whnf) | (conv => whnf))
      | fail
    rw [w2]
    refine ⟨by rw [List.length_set]; omega, ?_⟩
    rw [setAt (by omega) (row' := [iv (cn k), iv ((cn k + 1 : Nat) : Int), iv ((cn k + 2 : Nat) : Int), .own 1 xs[k].lock.length, iv xs[k].h, bv xs[k].base]) rfl]
    try refine runOps_abs (fun K hK => ?_)
    conv => whnf
    repeat' first
      | (refine AbsK.use (by assumption) ?_; conv => whnf)
      | (refine CondP.yes ?_; conv => whnf)
      | (refine CondP.not ?_; conv => whnf)
      | ((first | refine CondP.dec (fun h => ?_) (fun h => ?_) | refine CondP.ndec (fun h => ?_) (fun h => ?_)) <;> first | (exfalso; first | omega | exact h (by assumption) | exact absurd h (by assumption)) | (conv => whnf))
      | (refine Both.mk ?_ ?_ <;> (conv => whnf))
      | (refine Keep.mk (by repeat' first | exact trivial | rfl | refine And.intro ?_ ?_) ?_; conv => whnf)
      | (refine And.intro (by first | decide | omega) ?_; first | (refine runOps_abs (fun K hK => ?_); conv => whnf) | (conv => whnf))
      | fail
    rw [w3, getAt (by omega)]
    refine ⟨⟨by rw [List.length_set]; omega, rfl⟩, ?_⟩
    try refine runOps_abs (fun K hK => ?_)
    conv => whnf
    repeat' first
      | (refine AbsK.use (by assumption) ?_; conv => whnf)
      | (refine CondP.yes ?_; conv => whnf)
      | (refine CondP.not ?_; conv => whnf)
      | ((first | refine CondP.dec (fun h => ?_) (fun h => ?_) | refine CondP.ndec (fun h => ?_) (fun h => ?_)) <;> first | (exfalso; first | omega | exact h (by assumption) | exact absurd h (by assumption)) | (conv => whnf))
      | (refine Both.mk ?_ ?_ <;> (conv => whnf))
      | (refine Keep.mk (by repeat' first | exact trivial | rfl | refine And.intro ?_ ?_) ?_; conv => whnf)
      | (refine And.intro (by first | decide | omega) ?_; first | (refine runOps_abs (fun K hK => ?_); conv => whnf) | (conv => whnf))
      | fail
    refine CallP.heapIs (markInt64S_ret xs[k].lock 1 (cn k + 3) 2 (by omega) (by omega)) rfl (by repeat' first | exact trivial | rfl | exact leafI (by first | rfl | omega | (simp (disch := omega) only [Int.reduceToNat, IntKind.bits, Nat.min_eq_left, Int.reducePow, IntWalk.i64_in, IntWalk.rem_in, IntWalk.i64_quo, IntWalk.u8_in, IntWalk.u32_in, IntWalk.u64_in]; done) | (simp (disch := omega) only [Int.reduceToNat, IntKind.bits, Nat.min_eq_left, Int.reducePow, IntWalk.i64_in, IntWalk.rem_in, IntWalk.i64_quo, IntWalk.u8_in, IntWalk.u32_in, IntWalk.u64_in]; omega)) | refine And.intro ?_ ?_) rfl ?_
    conv => whnf
    repeat' first
      | (refine AbsK.use (by assumption) ?_; conv => whnf)
      | (refine CondP.yes ?_; conv => whnf)
      | (refine CondP.not ?_; conv => whnf)
      | ((first | refine CondP.dec (fun h => ?_) (fun h => ?_) | refine CondP.ndec (fun h => ?_) (fun h => ?_)) <;> first | (exfalso; first | omega | exact h (by assumption) | exact absurd h (by assumption)) | (conv => whnf))
      | (refine Both.mk ?_ ?_ <;> (conv => whnf))
      | (refine Keep.mk (by repeat' first | exact trivial | rfl | refine And.intro ?_ ?_) ?_; conv => whnf)
      | (refine And.intro (by first | decide | omega) ?_; first | (refine runOps_abs (fun K hK => ?_); conv => whnf) | (conv => whnf))
      | fail
    refine ⟨by rw [List.length_set]; omega, ?_⟩
    rw [setAt (by omega) (row' := [iv (cn k), iv ((cn k + 1 : Nat) : Int), iv ((cn k + 2 : Nat) : Int), .own 1 xs[k].lock.length, iv ((cn k + 3 + xs[k].lock.length : Nat) : Int), bv xs[k].base]) rfl]
    try refine runOps_abs (fun K hK => ?_)
    conv => whnf
    repeat' first
      | (refine AbsK.use (by assumption) ?_; conv => whnf)
      | (refine CondP.yes ?_; conv => whnf)
      | (refine CondP.not ?_; conv => whnf)
      | ((first | refine CondP.dec (fun h => ?_) (fun h => ?_) | refine CondP.ndec (fun h => ?_) (fun h => ?_)) <;> first | (exfalso; first | omega | exact h (by assumption) | exact absurd h (by assumption)) | (conv => whnf))
      | (refine Both.mk ?_ ?_ <;> (conv => whnf))
      | (refine Keep.mk (by repeat' first | exact trivial | rfl | refine And.intro ?_ ?_) ?_; conv => whnf)
      | (refine And.intro (by first | decide | omega) ?_; first | (refine runOps_abs (fun K hK => ?_); conv => whnf) | (conv => whnf))
      | fail
    rw [w4]
    refine ⟨by rw [List.length_set]; omega, ?_⟩
    rw [setAt (by omega) (row' := [iv (cn k), iv ((cn k + 1 : Nat) : Int), iv ((cn k + 2 : Nat) : Int), .own 1 xs[k].lock.length, iv ((cn k + 3 + xs[k].lock.length : Nat) : Int), bv (decide (((cn k + 4 + xs[k].lock.length : Nat) : Int).tmod 3 = 0))]) rfl]
    try refine runOps_abs (fun K hK => ?_)
    conv => whnf
    repeat' first
      | (refine AbsK.use (by assumption) ?_; conv => whnf)
      | (refine CondP.yes ?_; conv => whnf)
      | (refine CondP.not ?_; conv => whnf)
      | ((first | refine CondP.dec (fun h => ?_) (fun h => ?_) | refine CondP.ndec (fun h => ?_) (fun h => ?_)) <;> first | (exfalso; first | omega | exact h (by assumption) | exact absurd h (by assumption)) | (conv => whnf))
      | (refine Both.mk ?_ ?_ <;> (conv => whnf))
      | (refine Keep.mk (by repeat' first | exact trivial | rfl | refine And.intro ?_ ?_) ?_; conv => whnf)
      | (refine And.intro (by first | decide | omega) ?_; first | (refine runOps_abs (fun K hK => ?_); conv => whnf) | (conv => whnf))
      | fail
    rw [w5]
    refine ⟨k + 1, by omega, by omega, Weak.trans ?_ (toT (k + 1))⟩
    refine Weak.plant 0 _ 6 k 3 1 _ 1 xs[k].lock.length _ _ _ [iv (cn k), iv ((cn k + 1 : Nat) : Int), iv ((cn k + 2 : Nat) : Int), .own 1 xs[k].lock.length, iv ((cn k + 3 + xs[k].lock.length : Nat) : Int), bv (decide (((cn k + 4 + xs[k].lock.length : Nat) : Int).tmod 3 = 0))] rfl rfl (by simp [marks_len]) ?_ rfl ?_ (hRB (k + 1)) (inBIvs _) rfl ⟨⟨rfl, rfl, rfl⟩, ⟨leafI (by rw [hst]), rfl, rfl⟩, ⟨leafI (by first | rfl | omega | (simp (disch := omega) only [Int.reduceToNat, IntKind.bits, Nat.min_eq_left, Int.reducePow, IntWalk.i64_in, IntWalk.rem_in, IntWalk.i64_quo, IntWalk.u8_in, IntWalk.u32_in, IntWalk.u64_in]; done) | (simp (disch := omega) only [Int.reduceToNat, IntKind.bits, Nat.min_eq_left, Int.reducePow, IntWalk.i64_in, IntWalk.rem_in, IntWalk.i64_quo, IntWalk.u8_in, IntWalk.u32_in, IntWalk.u64_in]; omega)), rfl, rfl⟩, trivial⟩ trivial
    · rw [List.getElem?_set_self (by omega)]
    · rw [List.set_set]
      exact (hRs k hlt).symm
  · rw [dif_neg hlt]
    obtain rfl : k = xs.length := by omega
    conv => whnf
    repeat' first
      | (refine CondP.yes ?_; conv => whnf)
      | (refine CondP.not ?_; conv => whnf)
      | ((first | refine CondP.dec (fun h => ?_) (fun h => ?_) | refine CondP.ndec (fun h => ?_) (fun h => ?_)) <;> first | (exfalso; first | omega | exact h (by assumption) | exact absurd h (by assumption)) | (conv => whnf))
      | (refine Both.mk ?_ ?_ <;> (conv => whnf))
      | (refine Keep.mk (by repeat' first | exact trivial | rfl | refine And.intro ?_ ?_) ?_; conv => whnf)
      | (refine And.intro (by first | decide | omega) ?_; conv => whnf)
      | fail
    refine FinOk.mk' [] rfl rfl rfl rfl rfl rfl rfl ⟨?_, ?_, rfl⟩
    · rw [hcn, List.take_length]; rfl
    · rw [hR, mkR_all]; rfl
end Go.Proofs.Ytdafmioegaelgaa
