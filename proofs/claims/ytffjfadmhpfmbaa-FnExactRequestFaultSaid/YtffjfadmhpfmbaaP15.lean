/-
  CHAPTER 3: the faults of a transaction, by the reading.
-/
import Derived.Test.YtffjfadmhpfmbaaP11
import Derived.Test.YtffjfadmhpfmbaaM1
namespace Go.Proofs.Ytffjfadmhpfmbaa
open Go Go.Am Go.RowKit
set_option linter.unusedVariables false
set_option linter.unusedSimpArgs false
end Go.Proofs.Ytffjfadmhpfmbaa
