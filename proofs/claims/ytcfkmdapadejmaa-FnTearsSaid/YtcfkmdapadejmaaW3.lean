/-
  Equal bytes.
-/
import Derived.Test.YtcfkmdapadejmaaW1
namespace Go.Proofs.Ytcfkmdapadejmaa
set_option maxRecDepth 100000
set_option linter.unusedSimpArgs false
set_option linter.unusedVariables false
set_option linter.unnecessarySimpa false
open Go Go.Abs Go.Proofs

@[simp] theorem bytes_beq (a b : List UInt8) : (a == b) = decide (a = b) := by
  by_cases h : a = b
  · subst h; simp
  · simp [h]

theorem c_bytesEqual (a b : List UInt8) : FCall Try.prog 46 [blist a, blist b] fun r H => r = bv (decide (a = b)) ∧ H = [] := by
  intro clk
  refine acall_of_aw Try.func46 rfl ?_
  simp
end Go.Proofs.Ytcfkmdapadejmaa
