/-
  The law of PackWord.
-/
import Derived.Test.YtcfkmdapadejmaaW7
namespace Go.Proofs.Ytcfkmdapadejmaa
set_option maxRecDepth 100000
set_option linter.unusedSimpArgs false
set_option linter.unusedVariables false
set_option linter.unnecessarySimpa false
open Go Go.Abs Go.Proofs

@[simp] theorem marks_take (k n : Nat) : (marks k n).take n = marks k n := List.take_of_length_le (by rw [marks_length]; exact Nat.le_refl _)

end Go.Proofs.Ytcfkmdapadejmaa
