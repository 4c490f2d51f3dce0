/-
  The gate: what the program lets through.
-/
import Derived.Test.YtadhojoalpkabaaEJ
import Derived.Test.YtadhojoalpkabaaE1
import Derived.Test.YtadhojoalpkabaaS10
namespace Go.Proofs.Ytadhojoalpkabaa
set_option maxRecDepth 100000
set_option linter.unusedSimpArgs false
set_option linter.unusedVariables false
set_option linter.unnecessarySimpa false
open Go Go.Abs Go.Proofs
/-- A write at the gate, what was there, whether there was one, and the epoch. -/
structure Sg where
  w : Wr
  was : Ob
  there : Bool
  ep : Int
abbrev Sg.cells (s : Sg) : List AC := [ic s.w.op, ic s.w.ob.kind, ic s.w.ob.id, ic s.w.ob.a, ic s.w.ob.b, ic s.w.ob.c, ic s.w.ob.d, ic s.w.ob.rev, ic s.w.expect, ic s.w.stamp,
  ic s.was.kind, ic s.was.id, ic s.was.a, ic s.was.b, ic s.was.c, ic s.was.d, ic s.was.rev, .d (.s (.bool s.there)), ic s.ep]
abbrev Sg.av (s : Sg) : AV := .agg s.cells
def Sg.lease (s : Sg) : Bool := decide (s.w.op = 1 ∧ s.w.stamp = s.w.ob.b ∧ ((s.w.ob.a = s.was.a ∧ s.w.ob.b = s.was.b) ∨ s.w.ob.b = s.was.b + 1))
def Sg.user (s : Sg) : Bool := if s.w.ob.kind = 3 then decide (s.w.op = 1 ∧ s.there = true ∧ s.was.d = 0 ∧ s.w.ob.d ≠ 0) else if s.w.ob.kind = 2 then decide (s.w.op ≠ 1 ∨ s.w.ob.b = s.was.b) else true
def Sg.replica (s : Sg) : Bool := if s.w.ob.kind = 3 then decide (s.w.op ≠ 1 ∨ (s.there = false ∧ s.w.ob.d = 0)) else if s.w.ob.kind = 2 then decide (s.w.op = 1 ∧ s.there = true ∧ s.w.ob.a = s.was.a) else false
end Go.Proofs.Ytadhojoalpkabaa
