/-
  Equal bytes.
-/
import Derived.Test.YtceafhcjiichfaaW1
namespace Go.Proofs.Ytceafhcjiichfaa
set_option linter.unusedSimpArgs false
set_option linter.unusedVariables false
open Go Go.Abs Go.Proofs

@[simp] theorem bytes_beq (a b : List UInt8) : (a == b) = decide (a = b) := by
  by_cases h : a = b
  · subst h; simp
  · simp [h]

end Go.Proofs.Ytceafhcjiichfaa
