/-
  PICKS, by the reading.
-/
import Derived.Test.YtbghcndemghilaaP1
import Derived.Test.YtbghcndemghilaaAmE
namespace Go.Proofs.Ytbghcndemghilaa
open Go Go.Am Go.RowKit
set_option linter.unusedVariables false
set_option linter.unusedSimpArgs false
theorem takeI (r : List Int) : List.take r.length (ivs r) = ivs r := List.take_of_length_le (by simp)
def pickF (c : List Int) (a : Int) (zs : List Int) : Int := zs.getD (nextF c a zs.length).toNat 0
theorem pickF_at (c : List Int) (a : Int) (zs : List Int) (hz : zs ≠ []) : (nextF c a zs.length).toNat < zs.length ∧ ((nextF c a zs.length).toNat : Int) = nextF c a zs.length := by
  have hp : 0 < zs.length := List.length_pos_iff.2 hz
  have := nextF_bd c a zs.length (by omega)
  omega
theorem l1Pick_ret (c : List Int) (at_ : Int) (zs : List Int) (i j n : Nat) (hij : i ≠ j) (hc : ∀ z ∈ c, isU8 z) (hl : c.length ≤ 1048576) (ha : 0 ≤ at_) (ha2 : at_ ≤ 1000000) (hz : zs ≠ []) (hz2 : zs.length ≤ 1000) :
    Ret Try.prog 67 [.pt i 0 0, .own j zs.length] [(i, .box [ul c, iv at_]), (j, .list 2 1 (ivs zs))] n true (Is (iv (pickF c at_ zs)) [(i, .box [ul c, iv (at_ + 1)]), (j, .list 2 1 (ivs zs))] n) := by
  refine Ret.of_run (tt := tt) ttOk Try.func67 rfl Try.call67 [i, j] [.box [ul c, iv at_], .list 2 1 (ivs zs)] [.pt 0 0 0, .own 1 zs.length] true n _ rfl (nodup2 hij) (by exact Nat.le_of_ble_eq_true rfl) rfl rfl ?_
  have hp := pickF_at c at_ zs hz
  conv => whnf
  repeat' first
    | (refine CondP.yes ?_; conv => whnf)
    | (refine CondP.not ?_; conv => whnf)
    | ((first | refine CondP.dec (fun h => ?_) (fun h => ?_) | refine CondP.ndec (fun h => ?_) (fun h => ?_)) <;> first | (exfalso; first | omega | exact h (by assumption) | exact absurd h (by assumption)) | (conv => whnf))
    | (refine Both.mk ?_ ?_ <;> (conv => whnf))
    | (refine Keep.mk (by repeat' first | exact trivial | rfl | refine And.intro ?_ ?_) ?_; conv => whnf)
    | (refine And.intro (by first | decide | omega) ?_; conv => whnf)
    | fail
  refine CallP.heapIs (l1Next_ret c at_ zs.length 0 _ hc hl ha (by omega) (by omega)) rfl (by repeat' first | exact trivial | rfl | exact leafI (by first | rfl | omega | (simp (disch := omega) only [Int.reduceToNat, IntKind.bits, Nat.min_eq_left, Int.reducePow, IntWalk.i64_in, IntWalk.rem_in, IntWalk.i64_quo, IntWalk.u8_in, IntWalk.u32_in, IntWalk.u64_in]; done) | (simp (disch := omega) only [Int.reduceToNat, IntKind.bits, Nat.min_eq_left, Int.reducePow, IntWalk.i64_in, IntWalk.rem_in, IntWalk.i64_quo, IntWalk.u8_in, IntWalk.u32_in, IntWalk.u64_in]; omega)) | refine And.intro ?_ ?_) rfl ?_
  conv => whnf
  repeat' first
    | (refine CondP.yes ?_; conv => whnf)
    | (refine CondP.not ?_; conv => whnf)
    | ((first | refine CondP.dec (fun h => ?_) (fun h => ?_) | refine CondP.ndec (fun h => ?_) (fun h => ?_)) <;> first | (exfalso; first | omega | exact h (by assumption) | exact absurd h (by assumption)) | (conv => whnf))
    | (refine Both.mk ?_ ?_ <;> (conv => whnf))
    | (refine Keep.mk (by repeat' first | exact trivial | rfl | refine And.intro ?_ ?_) ?_; conv => whnf)
    | (refine And.intro (by first | decide | omega) ?_; conv => whnf)
    | fail
  rw [rowN iv1 zs _ hp.1]
  refine ⟨by rw [List.length_map]; exact hp.1, ?_⟩
  conv => whnf
  repeat' first
    | (refine CondP.yes ?_; conv => whnf)
    | (refine CondP.not ?_; conv => whnf)
    | ((first | refine CondP.dec (fun h => ?_) (fun h => ?_) | refine CondP.ndec (fun h => ?_) (fun h => ?_)) <;> first | (exfalso; first | omega | exact h (by assumption) | exact absurd h (by assumption)) | (conv => whnf))
    | (refine Both.mk ?_ ?_ <;> (conv => whnf))
    | (refine Keep.mk (by repeat' first | exact trivial | rfl | refine And.intro ?_ ?_) ?_; conv => whnf)
    | (refine And.intro (by first | decide | omega) ?_; conv => whnf)
    | fail
  refine FinOk.mk' [] rfl rfl rfl rfl rfl rfl rfl ⟨?_, ?_, rfl⟩
  · refine ivI ?_
    unfold pickF
    simp [List.getD_eq_getElem?_getD, hp.1]
  · rfl
theorem pickF_in (c : List Int) (a lo hi : Int) (zs : List Int) (hz : zs ≠ []) (h : allB lo hi zs = true) : lo ≤ pickF c a zs ∧ pickF c a zs ≤ hi := by
  have hp := pickF_at c a zs hz
  unfold pickF
  have e : zs.getD (nextF c a zs.length).toNat 0 = zs[(nextF c a zs.length).toNat]'hp.1 := by simp [List.getD_eq_getElem?_getD, hp.1]
  rw [e]
  exact allB_at h hp.1
end Go.Proofs.Ytbghcndemghilaa
