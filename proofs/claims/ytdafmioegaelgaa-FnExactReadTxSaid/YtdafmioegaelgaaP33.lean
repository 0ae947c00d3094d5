/-
  CHAPTER 3: the specification's ReadTx, the contract.
-/
import Derived.Test.YtdafmioegaelgaaP32
namespace Go.Proofs.Ytdafmioegaelgaa
open Go Go.Am Go.RowKit
set_option linter.unusedVariables false
set_option linter.unusedSimpArgs false
theorem l3Read_fr (d : List Int) (s : RS) (i n : Nat) (hd : ∀ z ∈ d, isU8 z) (hl : d.length ≤ 1048576) (hs : s.1 ≤ d.length) : Ret Try.prog 55 [.pt i 0 0] [(i, rdO d s)] n true (Is (txV (txS d s).1) [(i, rdO d (endS (txS d s)))] n) := by
  refine Ret.frBox (fun hin => ?_) (l3Read_ret d s i n hd hl hs)
  rintro _ _ _ ⟨rfl, rfl, rfl⟩
  exact ⟨txV (txS d s).1, _, .agg _ _ ⟨.refl _ (fun _ e => by cases e) (fun _ e => by cases e), frOwnH (look_cons_ne _ _ (by omega)) ((look_cons_ne _ _ (by omega)).trans (look_cons_eq _ _ _)) (by simp), frOwnH (look_cons_ne _ _ (by omega)) ((look_cons_ne _ _ (by omega)).trans ((look_cons_ne _ _ (by omega)).trans (look_cons_eq _ _ _))) (by simp), trivial⟩, look_cons_eq _ _ _, rfl, rfl, rfl, rfl⟩
theorem specReadTx_ret (d : List Int) (n : Nat) (hd : ∀ z ∈ d, isU8 z) (hl : d.length ≤ 1048576) : Ret Try.prog 18 [ul d] [] n true (Is (.agg (readR d)) [] n) := by
  unfold readR
  rw [readS_is hd]
  refine Ret.fn ttOk Try.func18 rfl Try.call18 rfl rfl ?_
  conv => whnf
  repeat' first
    | (refine CondP.yes ?_; conv => whnf)
    | (refine CondP.not ?_; conv => whnf)
    | ((first | refine CondP.dec (fun h => ?_) (fun h => ?_) | refine CondP.ndec (fun h => ?_) (fun h => ?_)) <;> first | (exfalso; first | omega | exact h (by assumption) | exact absurd h (by assumption)) | (conv => whnf))
    | (refine Both.mk ?_ ?_ <;> (conv => whnf))
    | (refine Keep.mk (by repeat' first | exact trivial | rfl | refine And.intro ?_ ?_) ?_; conv => whnf)
    | (refine And.intro (by first | decide | omega) ?_; conv => whnf)
    | fail
  refine CallP.heapIs (l3Read_fr d (0, false) 1 _ hd hl (Nat.zero_le _)) rfl (by repeat' first | exact trivial | rfl | exact leafI (by first | rfl | omega | (simp (disch := omega) only [Int.reduceToNat, IntKind.bits, Nat.min_eq_left, Int.reducePow, IntWalk.i64_in, IntWalk.rem_in, IntWalk.i64_quo, IntWalk.u8_in, IntWalk.u32_in, IntWalk.u64_in]; done) | (simp (disch := omega) only [Int.reduceToNat, IntKind.bits, Nat.min_eq_left, Int.reducePow, IntWalk.i64_in, IntWalk.rem_in, IntWalk.i64_quo, IntWalk.u8_in, IntWalk.u32_in, IntWalk.u64_in]; omega)) | refine And.intro ?_ ?_) rfl ?_
  conv => whnf
  repeat' first
    | (refine CondP.yes ?_; conv => whnf)
    | (refine CondP.not ?_; conv => whnf)
    | ((first | refine CondP.dec (fun h => ?_) (fun h => ?_) | refine CondP.ndec (fun h => ?_) (fun h => ?_)) <;> first | (exfalso; first | omega | exact h (by assumption) | exact absurd h (by assumption)) | (conv => whnf))
    | (refine Both.mk ?_ ?_ <;> (conv => whnf))
    | (refine Keep.mk (by repeat' first | exact trivial | rfl | refine And.intro ?_ ?_) ?_; conv => whnf)
    | (refine And.intro (by first | decide | omega) ?_; conv => whnf)
    | fail
  generalize txS d (0, false) = x at *
  generalize hy : endS x = y at *
  obtain ⟨t, s⟩ := x
  obtain ⟨p, b⟩ := y
  dsimp only
  cases b with
  | true =>
    rw [if_neg (by simp)]
    conv => whnf
    repeat' first
      | (refine CondP.yes ?_; conv => whnf)
      | (refine CondP.not ?_; conv => whnf)
      | ((first | refine CondP.dec (fun h => ?_) (fun h => ?_) | refine CondP.ndec (fun h => ?_) (fun h => ?_)) <;> first | (exfalso; first | omega | exact h (by assumption) | exact absurd h (by assumption)) | (conv => whnf))
      | (refine Both.mk ?_ ?_ <;> (conv => whnf))
      | (refine Keep.mk (by repeat' first | exact trivial | rfl | refine And.intro ?_ ?_) ?_; conv => whnf)
      | (refine And.intro (by first | decide | omega) ?_; conv => whnf)
      | fail
    refine FinOk.pure rfl rfl rfl ⟨?_, rfl, rfl⟩
    rfl
  | false =>
    rw [if_pos rfl]
    conv => whnf
    repeat' first
      | (refine CondP.yes ?_; conv => whnf)
      | (refine CondP.not ?_; conv => whnf)
      | ((first | refine CondP.dec (fun h => ?_) (fun h => ?_) | refine CondP.ndec (fun h => ?_) (fun h => ?_)) <;> first | (exfalso; first | omega | exact h (by assumption) | exact absurd h (by assumption)) | (conv => whnf))
      | (refine Both.mk ?_ ?_ <;> (conv => whnf))
      | (refine Keep.mk (by repeat' first | exact trivial | rfl | refine And.intro ?_ ?_) ?_; conv => whnf)
      | (refine And.intro (by first | decide | omega) ?_; conv => whnf)
      | fail
    refine FinOk.pure rfl rfl rfl ⟨?_, rfl, rfl⟩
    rfl
end Go.Proofs.Ytdafmioegaelgaa
