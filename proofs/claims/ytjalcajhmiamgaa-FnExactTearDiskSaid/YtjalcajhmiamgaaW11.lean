/-
  The law of PackFrame.
-/
import Derived.Test.YtjalcajhmiamgaaW10
namespace Go.Proofs.Ytjalcajhmiamgaa
set_option linter.unusedSimpArgs false
set_option linter.unusedVariables false
set_option linter.unnecessarySimpa false
open Go Go.Abs Go.Proofs

end Go.Proofs.Ytjalcajhmiamgaa
