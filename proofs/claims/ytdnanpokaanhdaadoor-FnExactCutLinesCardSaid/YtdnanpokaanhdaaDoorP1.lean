/-
  CHAPTER 1, function by function, by the reading.
-/
import Derived.Test.YtdnanpokaanhdaaDoorAmT
import Derived.Test.YtdnanpokaanhdaaDoorM1
namespace Go.Proofs.YtdnanpokaanhdaaDoor
open Go Go.Am Go.RowKit
set_option linter.unusedVariables false
set_option linter.unusedSimpArgs false
def sumIR (zs : List Int) : List AV := if 200 < zs.length then [iv 2, iv 0] else if allB 0 2147483646 zs then [iv 0, iv (sumI zs)] else [iv 3, iv 0]
end Go.Proofs.YtdnanpokaanhdaaDoor
/-
  CHAPTER 2, function by function, by the reading: keys, locks, programs.
-/
namespace Go.Proofs.YtdnanpokaanhdaaDoor
open Go Go.Am Go.RowKit
set_option linter.unusedVariables false
set_option linter.unusedSimpArgs false
theorem allB3 {k t : Int} (h : inR 0 899 k) (h' : inR 0 2147483646 t) : allB 0 2147483646 [k, t, 7] = true := by
  unfold inR at h h'
  simp [allB]; omega
end Go.Proofs.YtdnanpokaanhdaaDoor
