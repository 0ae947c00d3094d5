/-
  CHAPTER 1, function by function, by the reading.
-/
import Derived.Test.YthpboccokdhpnaaAmT
import Derived.Test.YthpboccokdhpnaaM1
namespace Go.Proofs.Ythpboccokdhpnaa
open Go Go.Am Go.RowKit
set_option linter.unusedVariables false
set_option linter.unusedSimpArgs false
theorem l1In_ret (v lo hi : Int) (n : Nat) : Ret Try.prog 54 [iv v, iv lo, iv hi] [] n true (Is (bv (decide (inR lo hi v))) [] n) := by
  refine Ret.fn ttOk Try.func54 rfl Try.call54 rfl rfl ?_
  refine Goes ?_
  repeat' first | refine W2.m ?_ ?_ | refine W1.m fun h => ?_ | fail
  all_goals (refine FinOk.pure rfl rfl rfl ⟨bvI ?_, rfl, rfl⟩; simp [inR, *])
def sumIR (zs : List Int) : List AV := if 200 < zs.length then [iv 2, iv 0] else if allB 0 2147483646 zs then [iv 0, iv (sumI zs)] else [iv 3, iv 0]
end Go.Proofs.Ythpboccokdhpnaa
/-
  CHAPTER 2, function by function, by the reading: keys, locks, programs.
-/
namespace Go.Proofs.Ythpboccokdhpnaa
open Go Go.Am Go.RowKit
set_option linter.unusedVariables false
set_option linter.unusedSimpArgs false
theorem allB3 {k t : Int} (h : inR 0 899 k) (h' : inR 0 2147483646 t) : allB 0 2147483646 [k, t, 7] = true := by
  unfold inR at h h'
  simp [allB]; omega
end Go.Proofs.Ythpboccokdhpnaa
