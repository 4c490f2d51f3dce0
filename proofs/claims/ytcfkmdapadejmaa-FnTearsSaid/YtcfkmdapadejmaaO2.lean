/-
  Objects: their ids and faults, as the model and the program tell them.
-/
import Derived.Test.YtcfkmdapadejmaaO1
namespace Go.Proofs.Ytcfkmdapadejmaa
set_option maxRecDepth 100000
set_option linter.unusedSimpArgs false
set_option linter.unusedVariables false
set_option linter.unnecessarySimpa false
open Go Go.Abs Go.Proofs

def ownerOk (k w i : Int) : Bool := (decide (0 ≤ w) && decide (w ≤ 19)) && (decide (0 ≤ i) && decide (i ≤ if k = 2 then 23 else 15))
theorem owner_code {k w i : Int} (hk : k = 1 ∨ k = 2) : podCode k w i = if ownerOk k w i = true then 0 else 3 := by
  rcases hk with rfl | rfl <;> simp [podCode, ownerOk, podMost, and_assoc]
theorem owner_in {k w i : Int} (ho : ownerOk k w i = true) : (0 ≤ w ∧ w ≤ 19) ∧ (0 ≤ i ∧ i ≤ 23) := by
  unfold ownerOk at ho
  simp at ho
  split at ho <;> omega

/-! Pods -/
def podOk (o : Ob) : Prop := podCode o.a o.b o.c = 0 ∧ o.id = podNum o.a o.b o.c ∧ 0 ≤ o.d ∧ o.d ≤ 2
instance (o : Ob) : Decidable (podOk o) := by unfold podOk; infer_instance

end Go.Proofs.Ytcfkmdapadejmaa
