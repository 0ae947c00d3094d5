/-
  CHAPTER 3: the faults of a transaction, by the reading.
-/
import Derived.Test.YtdnanpokaanhdaaDoorP11
import Derived.Test.YtdnanpokaanhdaaDoorM1
namespace Go.Proofs.YtdnanpokaanhdaaDoor
open Go Go.Am Go.RowKit
set_option linter.unusedVariables false
set_option linter.unusedSimpArgs false
end Go.Proofs.YtdnanpokaanhdaaDoor
