/-
  CHAPTER 3: the faults of a transaction, by the reading.
-/
import Derived.Test.YthpboccokdhpnaaP11
import Derived.Test.YthpboccokdhpnaaM1
namespace Go.Proofs.Ythpboccokdhpnaa
open Go Go.Am Go.RowKit
set_option linter.unusedVariables false
set_option linter.unusedSimpArgs false
end Go.Proofs.Ythpboccokdhpnaa
