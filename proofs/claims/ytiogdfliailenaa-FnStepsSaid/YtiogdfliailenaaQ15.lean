/-
  What a write holds that has no fault.
  The gate: what the program lets through.
-/
import Derived.Test.YtiogdfliailenaaQ5
import Derived.Test.YtiogdfliailenaaQ14
import Derived.Test.YtiogdfliailenaaQ12
namespace Go.Proofs.Ytiogdfliailenaa
set_option maxRecDepth 100000
set_option linter.unusedSimpArgs false
set_option linter.unusedVariables false
set_option linter.unnecessarySimpa false
open Go Go.Abs Go.Proofs
/-- Where a write has no fault its numbers fit. -/
structure Wr.In (w : Wr) : Prop where
  op : 0 ≤ w.op ∧ w.op ≤ 255
  kind : 0 ≤ w.ob.kind ∧ w.ob.kind ≤ 255
  id : 0 ≤ w.ob.id ∧ w.ob.id ≤ 65535
  a : 0 ≤ w.ob.a ∧ w.ob.a ≤ 65535
  b : 0 ≤ w.ob.b ∧ w.ob.b ≤ 65535
  c : 0 ≤ w.ob.c ∧ w.ob.c ≤ 65535
  d : 0 ≤ w.ob.d ∧ w.ob.d ≤ 65535
  rev : w.ob.rev = 0
  expect : 0 ≤ w.expect ∧ w.expect ≤ 16777215
  stamp : 0 ≤ w.stamp ∧ w.stamp ≤ 65535
theorem obFault_in {o : Ob} (h : obFault o = 0) : (1 ≤ o.kind ∧ o.kind ≤ 4) ∧ (0 ≤ o.id ∧ o.id ≤ 65535) ∧ (0 ≤ o.a ∧ o.a ≤ 65535) ∧ (0 ≤ o.b ∧ o.b ≤ 65535) ∧ (0 ≤ o.c ∧ o.c ≤ 65535) ∧ (0 ≤ o.d ∧ o.d ≤ 65535) := by
  unfold obFault at h
  split at h
  · rename_i hk
    split at h
    · rename_i hr
      refine ⟨hk, ?_⟩
      obtain ⟨_, hr⟩ := hr
      unfold kindOk at hr
      split at hr
      · unfold setOk at hr; omega
      · split at hr
        · unfold jobOk at hr; omega
        · split at hr
          · obtain ⟨h1, h2, h3⟩ := hr
            unfold podCode at h1
            split at h1
            · rename_i hk2
              split at h1
              · rename_i hb
                have : podMost o.a ≤ 23 := by unfold podMost; split <;> omega
                unfold podNum at h2
                omega
              · omega
            · omega
          · unfold leaseOk at hr; omega
    · omega
  · omega
theorem wrFault_in {w : Wr} (h : wrFault w = 0) : w.In ∧ obFault w.ob = 0 := by
  unfold wrFault at h
  split at h
  · omega
  · rename_i h1
    split at h
    · omega
    · rename_i h2
      split at h
      · omega
      · rename_i h3
        have ho : obFault w.ob = 0 := by simpa using h2
        have := obFault_in ho
        exact ⟨⟨by omega, by omega, by omega, by omega, by omega, by omega, by omega, by omega, by omega, by omega⟩, ho⟩
end Go.Proofs.Ytiogdfliailenaa
namespace Go.Proofs.Ytiogdfliailenaa
set_option maxRecDepth 100000
set_option linter.unusedSimpArgs false
set_option linter.unusedVariables false
set_option linter.unnecessarySimpa false
open Go Go.Abs Go.Proofs
/-- A write at the gate, what was there, whether there was one, and the epoch. -/
structure Sg where
  w : Wr
  was : Ob
  there : Bool
  ep : Int
abbrev Sg.cells (s : Sg) : List AC := [ic s.w.op, ic s.w.ob.kind, ic s.w.ob.id, ic s.w.ob.a, ic s.w.ob.b, ic s.w.ob.c, ic s.w.ob.d, ic s.w.ob.rev, ic s.w.expect, ic s.w.stamp,
  ic s.was.kind, ic s.was.id, ic s.was.a, ic s.was.b, ic s.was.c, ic s.was.d, ic s.was.rev, .d (.s (.bool s.there)), ic s.ep]
abbrev Sg.av (s : Sg) : AV := .agg s.cells
def Sg.lease (s : Sg) : Bool := decide (s.w.op = 1 ∧ s.w.stamp = s.w.ob.b ∧ ((s.w.ob.a = s.was.a ∧ s.w.ob.b = s.was.b) ∨ s.w.ob.b = s.was.b + 1))
def Sg.user (s : Sg) : Bool := if s.w.ob.kind = 3 then decide (s.w.op = 1 ∧ s.there = true ∧ s.was.d = 0 ∧ s.w.ob.d ≠ 0) else if s.w.ob.kind = 2 then decide (s.w.op ≠ 1 ∨ s.w.ob.b = s.was.b) else true
def Sg.replica (s : Sg) : Bool := if s.w.ob.kind = 3 then decide (s.w.op ≠ 1 ∨ (s.there = false ∧ s.w.ob.d = 0)) else if s.w.ob.kind = 2 then decide (s.w.op = 1 ∧ s.there = true ∧ s.w.ob.a = s.was.a) else false
def Sg.stepRf (s : Sg) : Rf :=
  if s.w.ob.kind = 4 then (if s.lease then .none else .state)
  else if s.w.stamp = 0 then (if s.user then .none else .state)
  else if s.w.stamp ≠ s.ep then .stale
  else (if s.replica then .none else .state)
end Go.Proofs.Ytiogdfliailenaa
