/-
  Objects and writes: their faults, as the model and the program tell them.
-/
import Derived.Test.YtcfkmdapadejmaaO3
namespace Go.Proofs.Ytcfkmdapadejmaa
set_option maxRecDepth 100000
set_option linter.unusedSimpArgs false
set_option linter.unusedVariables false
set_option linter.unnecessarySimpa false
open Go Go.Abs Go.Proofs


structure Wr where
  op : Int
  ob : Ob
  expect : Int
  stamp : Int
  deriving DecidableEq
abbrev Wr.cells (w : Wr) : List AC := [ic w.op, ic w.ob.kind, ic w.ob.id, ic w.ob.a, ic w.ob.b, ic w.ob.c, ic w.ob.d, ic w.ob.rev, ic w.expect, ic w.stamp]
abbrev Wr.av (w : Wr) : AV := .agg w.cells
abbrev Wr.dcs (w : Wr) : List DC := [dc w.op, dc w.ob.kind, dc w.ob.id, dc w.ob.a, dc w.ob.b, dc w.ob.c, dc w.ob.d, dc w.ob.rev, dc w.expect, dc w.stamp]
/-- The fault of a write. -/
def wrFault (w : Wr) : Int :=
  if (w.op ≠ 1 ∧ w.op ≠ 2) ∨ w.ob.rev ≠ 0 then 1
  else if obFault w.ob ≠ 0 then obFault w.ob
  else if ¬ ((0 ≤ w.expect ∧ w.expect ≤ 100000) ∧ (0 ≤ w.stamp ∧ w.stamp ≤ 9999)) then 3
  else if w.op = 2 ∧ w.expect = 0 then 1 else 0
theorem wr_form {w : Wr} (h : (w.op ≠ 1 ∧ w.op ≠ 2) ∨ w.ob.rev ≠ 0) : wrFault w = 1 := by unfold wrFault; rw [if_pos h]
theorem wr_ob {w : Wr} (h : ¬ ((w.op ≠ 1 ∧ w.op ≠ 2) ∨ w.ob.rev ≠ 0)) (h2 : obFault w.ob ≠ 0) : wrFault w = obFault w.ob := by unfold wrFault; rw [if_neg h, if_pos h2]
theorem wr_range {w : Wr} (h : ¬ ((w.op ≠ 1 ∧ w.op ≠ 2) ∨ w.ob.rev ≠ 0)) (h2 : obFault w.ob = 0) (h3 : ¬ ((0 ≤ w.expect ∧ w.expect ≤ 100000) ∧ (0 ≤ w.stamp ∧ w.stamp ≤ 9999))) : wrFault w = 3 := by
  unfold wrFault; rw [if_neg h, if_neg (by simp [h2]), if_pos h3]
theorem wr_end {w : Wr} (h : ¬ ((w.op ≠ 1 ∧ w.op ≠ 2) ∨ w.ob.rev ≠ 0)) (h2 : obFault w.ob = 0) (h3 : (0 ≤ w.expect ∧ w.expect ≤ 100000) ∧ (0 ≤ w.stamp ∧ w.stamp ≤ 9999)) : wrFault w = if w.op = 2 ∧ w.expect = 0 then 1 else 0 := by
  unfold wrFault; rw [if_neg h, if_neg (by simp [h2]), if_neg (fun h => h h3)]
end Go.Proofs.Ytcfkmdapadejmaa
