/-
  The law of PackFrame.
-/
import Derived.Test.YtcfkmdapadejmaaW10
namespace Go.Proofs.Ytcfkmdapadejmaa
set_option maxRecDepth 100000
set_option linter.unusedSimpArgs false
set_option linter.unusedVariables false
set_option linter.unnecessarySimpa false
open Go Go.Abs Go.Proofs

end Go.Proofs.Ytcfkmdapadejmaa
