/-
  CHAPTER 6: blocks, how the laws copy, compare and measure them.
-/
import Derived.Test.YtfnehjminipaeaaP57
import Derived.Test.YtfnehjminipaeaaP58
namespace Go.Proofs.Ytfnehjminipaeaa
open Go Go.Am Go.RowKit
set_option linter.unusedVariables false
set_option linter.unusedSimpArgs false
structure BlkD where
  prev : Int
  time : Int
  bits : Int
  nonce : Int
  txs : List TxD
abbrev txsV (xs : List TxD) : AV := .lst (xs.map txC)
abbrev blkC (b : BlkD) : List AV := [iv b.prev, iv b.time, iv b.bits, iv b.nonce, txsV b.txs]
abbrev blkV (b : BlkD) : AV := .agg (blkC b)
def sizeB (b : BlkD) : Nat := b.txs.length + psum sizeX b.txs
structure MemB (b : BlkD) : Prop where
  len : b.txs.length ≤ 9223372036854775807
  txs : ∀ x ∈ b.txs, Mem x
  bits : isI64 b.bits
structure FitsB (b : BlkD) : Prop where
  len : b.txs.length ≤ 1048576
  txs : ∀ x ∈ b.txs, Fits x
theorem fitsB_of {b : BlkD} (h : sizeB b ≤ 1048576) : FitsB b := by
  unfold sizeB at h
  exact ⟨by omega, fun x hx => fits_of (by have := psum_mem sizeX b.txs x hx; omega)⟩
theorem toTxS_ret (xs : List TxD) (n : Nat) (hl : xs.length ≤ 1048576) (hx : ∀ x ∈ xs, ∀ n, Ret Try.prog 42 [.agg (txC x)] [] n true (Is (.agg (txC x)) [] n)) : Ret Try.prog 21 [.lst (xs.map txC)] [] n true (Is (.own n xs.length) [(n, .list 67 3 (xs.map txC))] (n + 1)) := by
  have hL : (xs.map txC).length = xs.length := by simp
  refine Ret.fn ttOk Try.func21 rfl Try.call21 rfl rfl ?_
  refine Goes ?_
  repeat' first | refine W2.m ?_ ?_ | refine W1.m fun h => ?_ | fail
  rw [hL]
  refine ⟨⟨by omega, by omega, by omega, by show _ * 56 ≤ _; omega⟩, ?_⟩
  refine Goes ?_
  repeat' first | refine W2.m ?_ ?_ | refine W1.m fun h => ?_ | fail
  refine LoopP.go (fun k : Nat => k ≤ xs.length) (fun k => ⟨[(0, .lst (xs.map txC)), (3, .own 0 xs.length), (4, iv k)], [(0, .list 67 3 (fillR txC [iv 0, nl, nl] xs k))], 1⟩) (fun k => xs.length - k) 0 (Nat.zero_le _) ?_ ?_
  · refine Weak.of rfl rfl ktA ⟨⟨leafO ?_, rfl, rfl⟩, trivial⟩
    unfold fillR; simp
  intro k hk
  have hfl := fillR_len txC [iv 0, nl, nl] xs k hk
  refine Goes ?_
  repeat' first | refine W2.m ?_ ?_ | refine W1.m fun h => ?_ | fail
  · have hlt : k < xs.length := by omega
    rw [rowK txC xs k hlt]
    refine ⟨by rw [hL]; exact ⟨by omega, by omega, rfl⟩, ?_⟩
    refine Goes ?_
    repeat' first | refine W2.m ?_ ?_ | refine W1.m fun h => ?_ | fail
    first | refine CallP.is (hx xs[k] (List.getElem_mem hlt) _) rfl ?_ | refine CallQ.is (hx xs[k] (List.getElem_mem hlt) _) rfl rfl ?_
    refine Goes ?_
    repeat' first | refine W2.m ?_ ?_ | refine W1.m fun h => ?_ | fail
    refine ⟨k + 1, by omega, by omega, Weak.of rfl rfl ktA ⟨⟨leafO ?_, rfl, rfl⟩, trivial⟩⟩
    exact setRowR txC [iv 0, nl, nl] xs k hlt _ rfl _ rfl
  · obtain rfl : k = xs.length := by omega
    rw [fillR_all]
    refine FinOk.mk' [0] rfl rfl rfl rfl rfl rfl rfl ⟨?_, ?_, rfl⟩
    · rfl
    · rfl
theorem toTxS_fr (xs : List TxD) (n : Nat) (hl : xs.length ≤ 1048576) (hx : ∀ x ∈ xs, ∀ n, Ret Try.prog 42 [.agg (txC x)] [] n true (Is (.agg (txC x)) [] n)) : Ret Try.prog 21 [.lst (xs.map txC)] [] n true (Is (.lst (xs.map txC)) [] n) :=
  Ret.freeze (by rintro _ _ _ ⟨rfl, rfl, rfl⟩; exact ⟨_, frCell (look_cons_eq _ _ _) (by simp), rfl, rfl, rfl⟩) (toTxS_ret xs n hl hx)
theorem szTxS_ret (xs : List TxD) (l : Int) (n : Nat) (h0 : 0 ≤ l) (h1 : l ≤ 1048576) (hl : xs.length ≤ 9223372036854775807) (hx : ∀ x ∈ xs, ∀ (l : Int) (n : Nat), 0 ≤ l → l ≤ 1048576 → Ret Try.prog 36 [.agg (txC x), iv l] [] n true (Is (iv (leftI l (sizeX x))) [] n)) : Ret Try.prog 19 [.lst (xs.map txC), iv l] [] n true (Is (iv (leftI l (xs.length + psum sizeX xs : Nat))) [] n) := by
  have hL : (xs.map txC).length = xs.length := by simp
  have he : IntKind.i64.wrap (l - (xs.map txC).length) = l - xs.length := by rw [hL, IntWalk.i64_in _ (by omega)]
  refine Ret.fn ttOk Try.func19 rfl Try.call19 rfl rfl ?_
  refine Goes ?_
  repeat' first | refine W2.m ?_ ?_ | refine W1.m fun h => ?_ | fail
  · rw [he] at h
    refine FinOk.pure rfl rfl rfl ⟨?_, rfl, rfl⟩
    unfold leftI; rw [if_neg (by omega)]
  rw [he] at h ⊢
  refine LoopP.go (fun k : Nat => k ≤ xs.length ∧ (xs.length + psum sizeX (xs.take k) : Nat) ≤ l) (fun k => ⟨[(0, .lst (xs.map txC)), (1, iv (l - (xs.length + psum sizeX (xs.take k) : Nat))), (5, iv k)], [], 0⟩) (fun k => xs.length - k) 0 ⟨Nat.zero_le _, by simp [psum]; omega⟩ ?_ ?_
  · exact Weak.of rfl rfl ⟨⟨rfl, rfl⟩, ⟨leafI (by simp [psum]), rfl⟩, ⟨rfl, rfl⟩, trivial⟩ trivial
  intro k ⟨hk, hp⟩
  refine Goes ?_
  repeat' first | refine W2.m ?_ ?_ | refine W1.m fun h => ?_ | fail
  · have hlt : k < xs.length := by omega
    have hst : psum sizeX (xs.take (k + 1)) = psum sizeX (xs.take k) + sizeX xs[k] := psum_take sizeX xs k hlt
    have hle := psum_le sizeX xs (k + 1)
    rw [rowK txC xs k hlt]
    refine ⟨by rw [hL]; exact ⟨by omega, by omega, rfl⟩, ?_⟩
    refine Goes ?_
    repeat' first | refine W2.m ?_ ?_ | refine W1.m fun h => ?_ | fail
    first | refine CallP.is (hx xs[k] (List.getElem_mem hlt) _ _ (by omega) (by omega)) rfl ?_ | refine CallQ.is (hx xs[k] (List.getElem_mem hlt) _ _ (by omega) (by omega)) rfl rfl ?_
    refine Goes ?_
    repeat' first | refine W2.m ?_ ?_ | refine W1.m fun h => ?_ | fail
    · obtain ⟨g1, g2⟩ := leftI_neg h (by omega)
      refine FinOk.pure rfl rfl rfl ⟨?_, rfl, rfl⟩
      unfold leftI; rw [if_neg (by omega)]
    · obtain ⟨g1, g2⟩ := leftI_pos h
      rw [g1]
      exact ⟨k + 1, ⟨by omega, by omega⟩, by omega, Weak.of rfl rfl ⟨⟨rfl, rfl⟩, ⟨leafI (by rw [hst]; omega), rfl⟩, ⟨leafI numA, rfl⟩, trivial⟩ trivial⟩
  · obtain rfl : k = xs.length := by omega
    rw [List.take_length] at hp ⊢
    refine FinOk.pure rfl rfl rfl ⟨?_, rfl, rfl⟩
    unfold leftI; rw [if_pos (by omega)]
theorem eqTxS_yes (a : List TxD) (n : Nat) (hl : a.length ≤ 1048576) (hx : ∀ x ∈ a, ∀ n, Ret Try.prog 48 [.agg (txC x), .agg (txC x)] [] n true (Is (bv true) [] n)) : Ret Try.prog 27 [.lst (a.map txC), .lst (a.map txC)] [] n true (Is (bv true) [] n) := by
  have hL : (a.map txC).length = a.length := by simp
  refine Ret.fn ttOk Try.func27 rfl Try.call27 rfl rfl ?_
  refine Goes ?_
  repeat' first | refine W2.m ?_ ?_ | refine W1.m fun h => ?_ | fail
  refine LoopP.go (fun k : Nat => k ≤ a.length) (fun k => ⟨[(0, .lst (a.map txC)), (1, .lst (a.map txC)), (5, iv k)], [], 0⟩) (fun k => a.length - k) 0 (Nat.zero_le _) (Weak.of rfl rfl ktA trivial) ?_
  intro k hk
  refine Goes ?_
  repeat' first | refine W2.m ?_ ?_ | refine W1.m fun h => ?_ | fail
  · have hka : k < a.length := by omega
    rw [rowK txC a k hka]
    refine ⟨by rw [hL]; exact ⟨by omega, by omega, rfl⟩, ?_⟩
    refine Goes ?_
    repeat' first | refine W2.m ?_ ?_ | refine W1.m fun h => ?_ | fail
    rw [rowK txC a k hka]
    refine ⟨by rw [hL]; exact ⟨by omega, by omega, rfl⟩, ?_⟩
    refine Goes ?_
    repeat' first | refine W2.m ?_ ?_ | refine W1.m fun h => ?_ | fail
    first | refine CallP.is (hx a[k] (List.getElem_mem hka) _) rfl ?_ | refine CallQ.is (hx a[k] (List.getElem_mem hka) _) rfl rfl ?_
    refine Goes ?_
    repeat' first | refine W2.m ?_ ?_ | refine W1.m fun h => ?_ | fail
    exact ⟨k + 1, by omega, by omega, (Weak.of rfl rfl ktA trivial)⟩
  · refine FinOk.pure rfl rfl rfl ⟨?_, rfl, rfl⟩
    rfl
theorem toBlock_fr (b : BlkD) (n : Nat) (h : FitsB b) : Ret Try.prog 9 [blkV b] [] n true (Is (blkV b) [] n) := by
  refine Ret.fn ttOk Try.func9 rfl Try.call9 rfl rfl ?_
  refine Goes ?_
  repeat' first | refine W2.m ?_ ?_ | refine W1.m fun h => ?_ | fail
  first | refine CallP.is (toTxS_fr b.txs _ h.len fun x hx n => toTx_fr x n (h.txs x hx)) rfl ?_ | refine CallQ.is (toTxS_fr b.txs _ h.len fun x hx n => toTx_fr x n (h.txs x hx)) rfl rfl ?_
  refine Goes ?_
  repeat' first | refine W2.m ?_ ?_ | refine W1.m fun h => ?_ | fail
  refine FinOk.pure rfl rfl rfl ⟨?_, rfl, rfl⟩
  rfl
theorem szBlock_ret (b : BlkD) (l : Int) (n : Nat) (h0 : 0 ≤ l) (h1 : l ≤ 1048576) (hm : MemB b) : Ret Try.prog 7 [blkV b, iv l] [] n true (Is (iv (leftI l (sizeB b))) [] n) := by
  refine Ret.fn ttOk Try.func7 rfl Try.call7 rfl rfl ?_
  refine Goes ?_
  repeat' first | refine W2.m ?_ ?_ | refine W1.m fun h => ?_ | fail
  first | refine CallP.is (szTxS_ret b.txs l _ h0 h1 hm.len fun x hx l n a c => szTx_ret x l n a c (hm.txs x hx)) rfl ?_ | refine CallQ.is (szTxS_ret b.txs l _ h0 h1 hm.len fun x hx l n a c => szTx_ret x l n a c (hm.txs x hx)) rfl rfl ?_
  refine Goes ?_
  repeat' first | refine W2.m ?_ ?_ | refine W1.m fun h => ?_ | fail
  · have h' : leftI l (b.txs.length + psum sizeX b.txs : Nat) < 0 := h
    refine FinOk.pure rfl rfl rfl ⟨?_, rfl, rfl⟩
    unfold sizeB
    rw [(leftI_neg h' h0).1]
  · refine FinOk.pure rfl rfl rfl ⟨?_, rfl, rfl⟩
    rfl
theorem eqBlock_yes (b : BlkD) (n : Nat) (hf : FitsB b) : Ret Try.prog 11 [blkV b, blkV b] [] n true (Is (bv true) [] n) := by
  refine Ret.fn ttOk Try.func11 rfl Try.call11 rfl rfl ?_
  refine Goes ?_
  repeat' first | refine W2.m ?_ ?_ | refine W1.m fun h => ?_ | fail
  first | refine CallP.is (eqTxS_yes b.txs _ hf.len fun x hx n => eqTx_yes x n (hf.txs x hx)) rfl ?_ | refine CallQ.is (eqTxS_yes b.txs _ hf.len fun x hx n => eqTx_yes x n (hf.txs x hx)) rfl rfl ?_
  refine Goes ?_
  repeat' first | refine W2.m ?_ ?_ | refine W1.m fun h => ?_ | fail
  refine FinOk.pure rfl rfl rfl ⟨?_, rfl, rfl⟩
  rfl
end Go.Proofs.Ytfnehjminipaeaa
