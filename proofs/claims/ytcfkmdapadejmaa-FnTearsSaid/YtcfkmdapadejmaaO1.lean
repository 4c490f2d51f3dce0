/-
  Objects: what can be, as numbers; what the small functions on them answer.
-/
import Derived.Test.YtcfkmdapadejmaaW1
import Derived.Test.YtcfkmdapadejmaaW4
import Derived.Test.YtcfkmdapadejmaaK3
namespace Go.Proofs.Ytcfkmdapadejmaa
set_option maxRecDepth 100000
set_option linter.unusedSimpArgs false
set_option linter.unusedVariables false
set_option linter.unnecessarySimpa false
open Go Go.Abs Go.Proofs

abbrev ic (n : Int) : AC := .d (.s (.int .i64 n))
abbrev dc (n : Int) : DC := .s (.int .i64 n)
structure Ob where
  kind : Int
  id : Int
  a : Int
  b : Int
  c : Int
  d : Int
  rev : Int
  deriving DecidableEq
abbrev Ob.cells (o : Ob) : List AC := [ic o.kind, ic o.id, ic o.a, ic o.b, ic o.c, ic o.d, ic o.rev]
abbrev Ob.av (o : Ob) : AV := .agg o.cells
abbrev Ob.dcs (o : Ob) : List DC := [dc o.kind, dc o.id, dc o.a, dc o.b, dc o.c, dc o.d, dc o.rev]


/-! What was made -/
def mkSet (id want : Int) : Ob := ⟨1, id, want, 0, 0, 0, 0⟩
def mkJob (id want done : Int) : Ob := ⟨2, id, want, done, 0, 0, 0⟩
def mkLease (holder epoch : Int) : Ob := ⟨4, 0, holder, epoch, 0, 0, 0⟩

/-! Ids of pods -/
def podMost (k : Int) : Int := if k = 1 then 15 else 23
def podCode (k w i : Int) : Int := if k = 1 ∨ k = 2 then (if 0 ≤ w ∧ w ≤ 19 ∧ 0 ≤ i ∧ i ≤ podMost k then 0 else 3) else 1
def podNum (k w i : Int) : Int := 10000 * k + 100 * w + i
def podVal (k w i : Int) : Int := if podCode k w i = 0 then podNum k w i else 0
end Go.Proofs.Ytcfkmdapadejmaa
