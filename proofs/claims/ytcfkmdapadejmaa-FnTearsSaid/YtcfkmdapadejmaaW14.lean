/-
  What the law of words draws.
-/
import Derived.Test.YtcfkmdapadejmaaW13
namespace Go.Proofs.Ytcfkmdapadejmaa
set_option maxRecDepth 100000
set_option linter.unusedSimpArgs false
set_option linter.unusedVariables false
set_option linter.unnecessarySimpa false
open Go Go.Abs Go.Proofs

theorem u8_some (m : Nat) : ∃ b : UInt8, IntKind.u8.wrap (m : Int) = (b.toNat : Int) := ⟨UInt8.ofNat (m % 256), by rw [wrap_u8, UInt8.toNat_ofNat']; omega⟩



end Go.Proofs.Ytcfkmdapadejmaa
