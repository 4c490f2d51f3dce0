/-
  errors.Is, asked of an error of the program's own and of nil: Go's own text is walked once.
-/
import Derived.Test.YtadhojoalpkabaaTy
import Derived.Test.YtadhojoalpkabaaK6
import Derived.WalkKit
import Derived.LaidEql
import Derived.Stop.Asserts
import Derived.RowKitTokens
namespace Go.Proofs.Ytadhojoalpkabaa
set_option maxRecDepth 100000
set_option linter.unusedSimpArgs false
set_option linter.unusedVariables false
set_option linter.unnecessarySimpa false
open Go Go.RowKit Go.Extern.Stop Go.Stop Go.Extern
end Go.Proofs.Ytadhojoalpkabaa
