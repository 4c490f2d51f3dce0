/-
  Stores compared.
-/
import Derived.Test.YtcminohhdbhikaaS1
namespace Go.Proofs.Ytcminohhdbhikaa
set_option maxRecDepth 100000
set_option linter.unusedSimpArgs false
set_option linter.unusedVariables false
set_option linter.unnecessarySimpa false
open Go Go.Abs Go.Proofs
end Go.Proofs.Ytcminohhdbhikaa
