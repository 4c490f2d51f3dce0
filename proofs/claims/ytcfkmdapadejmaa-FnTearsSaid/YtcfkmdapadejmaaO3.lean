/-
  Objects: what is right, and their faults.
-/
import Derived.Test.YtcfkmdapadejmaaO2
namespace Go.Proofs.Ytcfkmdapadejmaa
set_option maxRecDepth 100000
set_option linter.unusedSimpArgs false
set_option linter.unusedVariables false
set_option linter.unnecessarySimpa false
open Go Go.Abs Go.Proofs

def setOk (o : Ob) : Prop := (0 ≤ o.id ∧ o.id ≤ 19) ∧ (0 ≤ o.a ∧ o.a ≤ 8) ∧ o.b = 0 ∧ o.c = 0 ∧ o.d = 0
def jobOk (o : Ob) : Prop := (0 ≤ o.id ∧ o.id ≤ 19) ∧ (0 ≤ o.a ∧ o.a ≤ 8) ∧ (0 ≤ o.b ∧ o.b ≤ 8) ∧ o.c = 0 ∧ o.d = 0
def leaseOk (o : Ob) : Prop := o.id = 0 ∧ (0 ≤ o.a ∧ o.a ≤ 2) ∧ (1 ≤ o.b ∧ o.b ≤ 9999) ∧ o.c = 0 ∧ o.d = 0
def kindOk (o : Ob) : Prop := if o.kind = 1 then setOk o else if o.kind = 2 then jobOk o else if o.kind = 3 then podOk o else leaseOk o
def obRight (o : Ob) : Prop := (0 ≤ o.rev ∧ o.rev ≤ 100000) ∧ kindOk o
instance (o : Ob) : Decidable (kindOk o) := by unfold kindOk setOk jobOk leaseOk; infer_instance
instance (o : Ob) : Decidable (obRight o) := by unfold obRight; infer_instance
/-- The fault of an object. -/
def obFault (o : Ob) : Int := if 1 ≤ o.kind ∧ o.kind ≤ 4 then (if obRight o then 0 else 3) else 1
end Go.Proofs.Ytcfkmdapadejmaa
