/-
  Equal bytes.
-/
import Derived.Test.YtplnbdjonnfcbaaDoorW1
namespace Go.Proofs.YtplnbdjonnfcbaaDoor
set_option maxRecDepth 100000
set_option linter.unusedSimpArgs false
set_option linter.unusedVariables false
set_option linter.unnecessarySimpa false
open Go Go.Abs Go.Proofs

@[simp] theorem bytes_beq (a b : List UInt8) : (a == b) = decide (a = b) := by
  by_cases h : a = b
  · subst h; simp
  · simp [h]

end Go.Proofs.YtplnbdjonnfcbaaDoor
