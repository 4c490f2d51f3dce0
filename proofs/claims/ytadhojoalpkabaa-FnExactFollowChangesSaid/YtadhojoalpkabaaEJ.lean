/-
  errors.Is as an abstract call; what a refusal's code is.
-/
import Derived.Test.YtadhojoalpkabaaEI
namespace Go.Proofs.Ytadhojoalpkabaa
set_option maxRecDepth 100000
set_option linter.unusedSimpArgs false
set_option linter.unusedVariables false
set_option linter.unnecessarySimpa false
open Go Go.Abs Go.Proofs
end Go.Proofs.Ytadhojoalpkabaa
