/-
  The gate: the model's CheckWrite; the law.
-/
import Derived.Test.YtadhojoalpkabaaG3
namespace Go.Proofs.Ytadhojoalpkabaa
set_option maxRecDepth 100000
set_option linter.unusedSimpArgs false
set_option linter.unusedVariables false
set_option linter.unnecessarySimpa false
open Go Go.Abs Go.Proofs
end Go.Proofs.Ytadhojoalpkabaa
