/-
  Torn frames: what the program lays.
-/
import Derived.Test.YtplnbdjonnfcbaaR3
import Derived.Test.YtplnbdjonnfcbaaW4
namespace Go.Proofs.Ytplnbdjonnfcbaa
set_option maxRecDepth 100000
set_option linter.unusedSimpArgs false
set_option linter.unusedVariables false
set_option linter.unnecessarySimpa false
open Go Go.Abs Go.Proofs
def fits' (n : Int) : Prop := -9223372036854775808 ≤ n ∧ n ≤ 9223372036854775807
end Go.Proofs.Ytplnbdjonnfcbaa
