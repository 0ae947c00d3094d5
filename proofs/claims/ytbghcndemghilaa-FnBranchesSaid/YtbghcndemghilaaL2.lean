/-
  CHAPTER 2: the laws' own functions, and laws.
-/
import Derived.Test.YtbghcndemghilaaP2
namespace Go.Proofs.Ytbghcndemghilaa
open Go Go.Am Go.RowKit
set_option linter.unusedVariables false
set_option linter.unusedSimpArgs false
theorem eqIntsResult_ret (a c : Int) (b d : List Int) (n : Nat) (hl : b.length ≤ 1048576) : Ret Try.prog 58 [.agg [iv a, il b], .agg [iv c, il d]] [] n true (Is (bv (decide (a = c) && decide (b = d))) [] n) := by
  refine Ret.fn ttOk Try.func58 rfl Try.call58 rfl rfl ?_
  conv => whnf
  repeat' first
    | (refine CondP.yes ?_; conv => whnf)
    | (refine CondP.not ?_; conv => whnf)
    | ((first | refine CondP.dec (fun h => ?_) (fun h => ?_) | refine CondP.ndec (fun h => ?_) (fun h => ?_)) <;> first | (exfalso; first | omega | exact h (by assumption) | exact absurd h (by assumption)) | (conv => whnf))
    | (refine Both.mk ?_ ?_ <;> (conv => whnf))
    | (refine Keep.mk (by repeat' first | exact trivial | rfl | refine And.intro ?_ ?_) ?_; conv => whnf)
    | (refine And.intro (by first | decide | omega) ?_; conv => whnf)
    | fail
  · refine FinOk.pure rfl rfl rfl ⟨?_, rfl, rfl⟩; refine bvI ?_; simp [*]
  · refine CallP.is (eqInt64S_ret _ _ _ hl) rfl ?_
    conv => whnf
    repeat' first
      | (refine CondP.yes ?_; conv => whnf)
      | (refine CondP.not ?_; conv => whnf)
      | ((first | refine CondP.dec (fun h => ?_) (fun h => ?_) | refine CondP.ndec (fun h => ?_) (fun h => ?_)) <;> first | (exfalso; first | omega | exact h (by assumption) | exact absurd h (by assumption)) | (conv => whnf))
      | (refine Both.mk ?_ ?_ <;> (conv => whnf))
      | (refine Keep.mk (by repeat' first | exact trivial | rfl | refine And.intro ?_ ?_) ?_; conv => whnf)
      | (refine And.intro (by first | decide | omega) ?_; conv => whnf)
      | fail
    all_goals (simp only [Decidable.not_not] at *; refine FinOk.pure rfl rfl rfl ⟨?_, rfl, rfl⟩; refine bvI ?_; simp [*])
theorem markIntsResult_ret (c : Int) (zs : List Int) (i k0 n : Nat) (hl : zs.length ≤ 1048576) (hk : k0 ≤ 1099511627776) : Ret Try.prog 60 [.agg [iv c, .own i zs.length], iv k0] [(i, .list 2 1 (ivs zs))] n true (Is (iv ((k0 + zs.length : Nat) : Int)) [(i, .list 2 1 (ivs (marks k0 zs.length)))] n) := by
  refine Ret.of_run (tt := tt) ttOk Try.func60 rfl Try.call60 [i] [.list 2 1 (ivs zs)] [.agg [iv c, .own 0 zs.length], iv k0] true n _ rfl (nodup1 i) (by exact Nat.le_of_ble_eq_true rfl) rfl rfl ?_
  conv => whnf
  repeat' first
    | (refine CondP.yes ?_; conv => whnf)
    | (refine CondP.not ?_; conv => whnf)
    | ((first | refine CondP.dec (fun h => ?_) (fun h => ?_) | refine CondP.ndec (fun h => ?_) (fun h => ?_)) <;> first | (exfalso; first | omega | exact h (by assumption) | exact absurd h (by assumption)) | (conv => whnf))
    | (refine Both.mk ?_ ?_ <;> (conv => whnf))
    | (refine Keep.mk (by repeat' first | exact trivial | rfl | refine And.intro ?_ ?_) ?_; conv => whnf)
    | (refine And.intro (by first | decide | omega) ?_; conv => whnf)
    | fail
  refine CallP.heapIs (markInt64S_ret zs 0 k0 _ hl hk) rfl (by repeat' first | exact trivial | rfl | exact leafI (by first | rfl | omega | (simp (disch := omega) only [Int.reduceToNat, IntKind.bits, Nat.min_eq_left, Int.reducePow, IntWalk.i64_in, IntWalk.rem_in, IntWalk.i64_quo, IntWalk.u8_in, IntWalk.u32_in, IntWalk.u64_in]; done) | (simp (disch := omega) only [Int.reduceToNat, IntKind.bits, Nat.min_eq_left, Int.reducePow, IntWalk.i64_in, IntWalk.rem_in, IntWalk.i64_quo, IntWalk.u8_in, IntWalk.u32_in, IntWalk.u64_in]; omega)) | refine And.intro ?_ ?_) rfl ?_
  conv => whnf
  repeat' first
    | (refine CondP.yes ?_; conv => whnf)
    | (refine CondP.not ?_; conv => whnf)
    | ((first | refine CondP.dec (fun h => ?_) (fun h => ?_) | refine CondP.ndec (fun h => ?_) (fun h => ?_)) <;> first | (exfalso; first | omega | exact h (by assumption) | exact absurd h (by assumption)) | (conv => whnf))
    | (refine Both.mk ?_ ?_ <;> (conv => whnf))
    | (refine Keep.mk (by repeat' first | exact trivial | rfl | refine And.intro ?_ ?_) ?_; conv => whnf)
    | (refine And.intro (by first | decide | omega) ?_; conv => whnf)
    | fail
  refine FinOk.mk' [] rfl rfl rfl rfl rfl rfl rfl ⟨?_, ?_, rfl⟩
  · rfl
  · rfl
theorem heldIntsResult_ret (c : Int) (m i k0 n : Nat) (hl : m ≤ 1048576) (hk : k0 ≤ 1099511627776) : Ret Try.prog 61 [.agg [iv c, .own i m], iv k0] [(i, .list 2 1 (ivs (marks k0 m)))] n true (Is (iv ((k0 + m : Nat) : Int)) [(i, .list 2 1 (ivs (marks k0 m)))] n) := by
  refine Ret.of_run (tt := tt) ttOk Try.func61 rfl Try.call61 [i] [.list 2 1 (ivs (marks k0 m))] [.agg [iv c, .own 0 m], iv k0] true n _ rfl (nodup1 i) (by exact Nat.le_of_ble_eq_true rfl) rfl rfl ?_
  conv => whnf
  repeat' first
    | (refine CondP.yes ?_; conv => whnf)
    | (refine CondP.not ?_; conv => whnf)
    | ((first | refine CondP.dec (fun h => ?_) (fun h => ?_) | refine CondP.ndec (fun h => ?_) (fun h => ?_)) <;> first | (exfalso; first | omega | exact h (by assumption) | exact absurd h (by assumption)) | (conv => whnf))
    | (refine Both.mk ?_ ?_ <;> (conv => whnf))
    | (refine Keep.mk (by repeat' first | exact trivial | rfl | refine And.intro ?_ ?_) ?_; conv => whnf)
    | (refine And.intro (by first | decide | omega) ?_; conv => whnf)
    | fail
  refine CallP.heapIs (heldInt64S_ret m 0 k0 _ hl hk) rfl (by repeat' first | exact trivial | rfl | exact leafI (by first | rfl | omega | (simp (disch := omega) only [Int.reduceToNat, IntKind.bits, Nat.min_eq_left, Int.reducePow, IntWalk.i64_in, IntWalk.rem_in, IntWalk.i64_quo, IntWalk.u8_in, IntWalk.u32_in, IntWalk.u64_in]; done) | (simp (disch := omega) only [Int.reduceToNat, IntKind.bits, Nat.min_eq_left, Int.reducePow, IntWalk.i64_in, IntWalk.rem_in, IntWalk.i64_quo, IntWalk.u8_in, IntWalk.u32_in, IntWalk.u64_in]; omega)) | refine And.intro ?_ ?_) rfl ?_
  conv => whnf
  repeat' first
    | (refine CondP.yes ?_; conv => whnf)
    | (refine CondP.not ?_; conv => whnf)
    | ((first | refine CondP.dec (fun h => ?_) (fun h => ?_) | refine CondP.ndec (fun h => ?_) (fun h => ?_)) <;> first | (exfalso; first | omega | exact h (by assumption) | exact absurd h (by assumption)) | (conv => whnf))
    | (refine Both.mk ?_ ?_ <;> (conv => whnf))
    | (refine Keep.mk (by repeat' first | exact trivial | rfl | refine And.intro ?_ ?_) ?_; conv => whnf)
    | (refine And.intro (by first | decide | omega) ?_; conv => whnf)
    | fail
  refine FinOk.mk' [] rfl rfl rfl rfl rfl rfl rfl ⟨?_, ?_, rfl⟩
  · rfl
  · rfl
theorem eqIntsResult_yes (a : Int) (b : List Int) (n : Nat) (hl : b.length ≤ 1048576) : Ret Try.prog 58 [.agg [iv a, il b], .agg [iv a, il b]] [] n true (Is (bv true) [] n) := by
  have := eqIntsResult_ret a a b b n hl
  simpa using this
theorem eqIntResult_yes (a b : Int) (n : Nat) : Ret Try.prog 56 [.agg [iv a, iv b], .agg [iv a, iv b]] [] n true (Is (bv true) [] n) := by
  have := eqIntResult_ret a b a b n
  simpa using this
theorem markInt64S_nil (k0 : Int) (n : Nat) : Ret Try.prog 59 [nl, iv k0] [] n true (Is (iv k0) [] n) := by
  refine Ret.fn ttOk Try.func59 rfl Try.call59 rfl rfl ?_
  conv => whnf
  repeat' first
    | (refine CondP.yes ?_; conv => whnf)
    | (refine CondP.not ?_; conv => whnf)
    | ((first | refine CondP.dec (fun h => ?_) (fun h => ?_) | refine CondP.ndec (fun h => ?_) (fun h => ?_)) <;> first | (exfalso; first | omega | exact h (by assumption) | exact absurd h (by assumption)) | (conv => whnf))
    | (refine Both.mk ?_ ?_ <;> (conv => whnf))
    | (refine Keep.mk (by repeat' first | exact trivial | rfl | refine And.intro ?_ ?_) ?_; conv => whnf)
    | (refine And.intro (by first | decide | omega) ?_; conv => whnf)
    | fail
  refine LoopP.go (fun _ : Unit => True) (fun _ => ⟨[(0, nl), (1, iv k0), (5, iv 0)], [], 0⟩) (fun _ => 0) () trivial (Weak.of rfl rfl (by repeat' first | exact trivial | rfl | exact leafI (by first | rfl | omega | (simp (disch := omega) only [Int.reduceToNat, IntKind.bits, Nat.min_eq_left, Int.reducePow, IntWalk.i64_in, IntWalk.rem_in, IntWalk.i64_quo, IntWalk.u8_in, IntWalk.u32_in, IntWalk.u64_in]; done) | (simp (disch := omega) only [Int.reduceToNat, IntKind.bits, Nat.min_eq_left, Int.reducePow, IntWalk.i64_in, IntWalk.rem_in, IntWalk.i64_quo, IntWalk.u8_in, IntWalk.u32_in, IntWalk.u64_in]; omega)) | refine And.intro ?_ ?_) trivial) ?_
  intro _ _
  conv => whnf
  repeat' first
    | (refine CondP.yes ?_; conv => whnf)
    | (refine CondP.not ?_; conv => whnf)
    | ((first | refine CondP.dec (fun h => ?_) (fun h => ?_) | refine CondP.ndec (fun h => ?_) (fun h => ?_)) <;> first | (exfalso; first | omega | exact h (by assumption) | exact absurd h (by assumption)) | (conv => whnf))
    | (refine Both.mk ?_ ?_ <;> (conv => whnf))
    | (refine Keep.mk (by repeat' first | exact trivial | rfl | refine And.intro ?_ ?_) ?_; conv => whnf)
    | (refine And.intro (by first | decide | omega) ?_; conv => whnf)
    | fail
  refine FinOk.pure rfl rfl rfl ⟨?_, rfl, rfl⟩
  rfl
theorem heldInt64S_nil (k0 : Int) (n : Nat) : Ret Try.prog 109 [nl, iv k0] [] n true (Is (iv k0) [] n) := by
  refine Ret.fn ttOk Try.func109 rfl Try.call109 rfl rfl ?_
  conv => whnf
  repeat' first
    | (refine CondP.yes ?_; conv => whnf)
    | (refine CondP.not ?_; conv => whnf)
    | ((first | refine CondP.dec (fun h => ?_) (fun h => ?_) | refine CondP.ndec (fun h => ?_) (fun h => ?_)) <;> first | (exfalso; first | omega | exact h (by assumption) | exact absurd h (by assumption)) | (conv => whnf))
    | (refine Both.mk ?_ ?_ <;> (conv => whnf))
    | (refine Keep.mk (by repeat' first | exact trivial | rfl | refine And.intro ?_ ?_) ?_; conv => whnf)
    | (refine And.intro (by first | decide | omega) ?_; conv => whnf)
    | fail
  refine LoopP.go (fun _ : Unit => True) (fun _ => ⟨[(0, nl), (1, iv k0), (5, iv 0)], [], 0⟩) (fun _ => 0) () trivial (Weak.of rfl rfl (by repeat' first | exact trivial | rfl | exact leafI (by first | rfl | omega | (simp (disch := omega) only [Int.reduceToNat, IntKind.bits, Nat.min_eq_left, Int.reducePow, IntWalk.i64_in, IntWalk.rem_in, IntWalk.i64_quo, IntWalk.u8_in, IntWalk.u32_in, IntWalk.u64_in]; done) | (simp (disch := omega) only [Int.reduceToNat, IntKind.bits, Nat.min_eq_left, Int.reducePow, IntWalk.i64_in, IntWalk.rem_in, IntWalk.i64_quo, IntWalk.u8_in, IntWalk.u32_in, IntWalk.u64_in]; omega)) | refine And.intro ?_ ?_) trivial) ?_
  intro _ _
  conv => whnf
  repeat' first
    | (refine CondP.yes ?_; conv => whnf)
    | (refine CondP.not ?_; conv => whnf)
    | ((first | refine CondP.dec (fun h => ?_) (fun h => ?_) | refine CondP.ndec (fun h => ?_) (fun h => ?_)) <;> first | (exfalso; first | omega | exact h (by assumption) | exact absurd h (by assumption)) | (conv => whnf))
    | (refine Both.mk ?_ ?_ <;> (conv => whnf))
    | (refine Keep.mk (by repeat' first | exact trivial | rfl | refine And.intro ?_ ?_) ?_; conv => whnf)
    | (refine And.intro (by first | decide | omega) ?_; conv => whnf)
    | fail
  refine FinOk.pure rfl rfl rfl ⟨?_, rfl, rfl⟩
  rfl
theorem markIntsResult_nil (c k0 : Int) (n : Nat) : Ret Try.prog 60 [.agg [iv c, nl], iv k0] [] n true (Is (iv k0) [] n) := by
  refine Ret.fn ttOk Try.func60 rfl Try.call60 rfl rfl ?_
  conv => whnf
  repeat' first
    | (refine CondP.yes ?_; conv => whnf)
    | (refine CondP.not ?_; conv => whnf)
    | ((first | refine CondP.dec (fun h => ?_) (fun h => ?_) | refine CondP.ndec (fun h => ?_) (fun h => ?_)) <;> first | (exfalso; first | omega | exact h (by assumption) | exact absurd h (by assumption)) | (conv => whnf))
    | (refine Both.mk ?_ ?_ <;> (conv => whnf))
    | (refine Keep.mk (by repeat' first | exact trivial | rfl | refine And.intro ?_ ?_) ?_; conv => whnf)
    | (refine And.intro (by first | decide | omega) ?_; conv => whnf)
    | fail
  refine CallP.is (markInt64S_nil k0 _) rfl ?_
  conv => whnf
  repeat' first
    | (refine CondP.yes ?_; conv => whnf)
    | (refine CondP.not ?_; conv => whnf)
    | ((first | refine CondP.dec (fun h => ?_) (fun h => ?_) | refine CondP.ndec (fun h => ?_) (fun h => ?_)) <;> first | (exfalso; first | omega | exact h (by assumption) | exact absurd h (by assumption)) | (conv => whnf))
    | (refine Both.mk ?_ ?_ <;> (conv => whnf))
    | (refine Keep.mk (by repeat' first | exact trivial | rfl | refine And.intro ?_ ?_) ?_; conv => whnf)
    | (refine And.intro (by first | decide | omega) ?_; conv => whnf)
    | fail
  refine FinOk.pure rfl rfl rfl ⟨?_, rfl, rfl⟩
  rfl
theorem heldIntsResult_nil (c k0 : Int) (n : Nat) (hk : 0 ≤ k0) : Ret Try.prog 61 [.agg [iv c, nl], iv k0] [] n true (Is (iv k0) [] n) := by
  refine Ret.fn ttOk Try.func61 rfl Try.call61 rfl rfl ?_
  conv => whnf
  repeat' first
    | (refine CondP.yes ?_; conv => whnf)
    | (refine CondP.not ?_; conv => whnf)
    | ((first | refine CondP.dec (fun h => ?_) (fun h => ?_) | refine CondP.ndec (fun h => ?_) (fun h => ?_)) <;> first | (exfalso; first | omega | exact h (by assumption) | exact absurd h (by assumption)) | (conv => whnf))
    | (refine Both.mk ?_ ?_ <;> (conv => whnf))
    | (refine Keep.mk (by repeat' first | exact trivial | rfl | refine And.intro ?_ ?_) ?_; conv => whnf)
    | (refine And.intro (by first | decide | omega) ?_; conv => whnf)
    | fail
  refine CallP.is (heldInt64S_nil k0 _) rfl ?_
  conv => whnf
  repeat' first
    | (refine CondP.yes ?_; conv => whnf)
    | (refine CondP.not ?_; conv => whnf)
    | ((first | refine CondP.dec (fun h => ?_) (fun h => ?_) | refine CondP.ndec (fun h => ?_) (fun h => ?_)) <;> first | (exfalso; first | omega | exact h (by assumption) | exact absurd h (by assumption)) | (conv => whnf))
    | (refine Both.mk ?_ ?_ <;> (conv => whnf))
    | (refine Keep.mk (by repeat' first | exact trivial | rfl | refine And.intro ?_ ?_) ?_; conv => whnf)
    | (refine And.intro (by first | decide | omega) ?_; conv => whnf)
    | fail
  refine FinOk.pure rfl rfl rfl ⟨?_, rfl, rfl⟩
  rfl
end Go.Proofs.Ytbghcndemghilaa
