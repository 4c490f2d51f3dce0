/-
  The laws of objects.
-/
import Derived.Test.YtplnbdjonnfcbaaDoorA2
namespace Go.Proofs.YtplnbdjonnfcbaaDoor
set_option maxRecDepth 100000
set_option linter.unusedSimpArgs false
set_option linter.unusedVariables false
set_option linter.unnecessarySimpa false
open Go Go.Abs Go.Proofs
/-! The walks -/
end Go.Proofs.YtplnbdjonnfcbaaDoor
