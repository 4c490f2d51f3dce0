/-
  The gate: what the program lets through.
-/
import Derived.Test.YtledabakodggcaaGreatDoorEJ
import Derived.Test.YtledabakodggcaaGreatDoorE1
import Derived.Test.YtledabakodggcaaGreatDoorS10
namespace Go.Proofs.YtledabakodggcaaGreatDoor
set_option maxRecDepth 100000
set_option linter.unusedSimpArgs false
set_option linter.unusedVariables false
set_option linter.unnecessarySimpa false
open Go Go.Abs Go.Proofs
/-- A write at the gate, what was there, whether there was one, and the epoch. -/
structure Sg where
  w : Wr
  was : Ob
  there : Bool
  ep : Int
abbrev Sg.cells (s : Sg) : List AC := [ic s.w.op, ic s.w.ob.kind, ic s.w.ob.id, ic s.w.ob.a, ic s.w.ob.b, ic s.w.ob.c, ic s.w.ob.d, ic s.w.ob.rev, ic s.w.expect, ic s.w.stamp,
  ic s.was.kind, ic s.was.id, ic s.was.a, ic s.was.b, ic s.was.c, ic s.was.d, ic s.was.rev, .d (.s (.bool s.there)), ic s.ep]
abbrev Sg.av (s : Sg) : AV := .agg s.cells
def Sg.lease (s : Sg) : Bool := decide (s.w.op = 1 ∧ s.w.stamp = s.w.ob.b ∧ ((s.w.ob.a = s.was.a ∧ s.w.ob.b = s.was.b) ∨ s.w.ob.b = s.was.b + 1))
def Sg.user (s : Sg) : Bool := if s.w.ob.kind = 3 then decide (s.w.op = 1 ∧ s.there = true ∧ s.was.d = 0 ∧ s.w.ob.d ≠ 0) else if s.w.ob.kind = 2 then decide (s.w.op ≠ 1 ∨ s.w.ob.b = s.was.b) else true
def Sg.replica (s : Sg) : Bool := if s.w.ob.kind = 3 then decide (s.w.op ≠ 1 ∨ (s.there = false ∧ s.w.ob.d = 0)) else if s.w.ob.kind = 2 then decide (s.w.op = 1 ∧ s.there = true ∧ s.w.ob.a = s.was.a) else false
set_option maxRecDepth 100000 in
theorem c_fitsLease (s : Sg) (hb : 0 ≤ s.was.b ∧ s.was.b ≤ 65535) : FCall Tryz.prog 126 [s.av] fun r H => r = bv s.lease ∧ H = [] := by
  have w1 : IntKind.i64.wrap (s.was.b + 1) = s.was.b + 1 := wrap_i64 (by omega) (by omega)
  refine fcall_gather [] id fun clk => acall_of_aw Tryz.func126 rfl ?_
  unfold Sg.lease
  by_cases h1 : s.w.op = 1
  · by_cases h2 : s.w.stamp = s.w.ob.b
    · by_cases h3 : s.w.ob.a = s.was.a
      · by_cases h4 : s.w.ob.b = s.was.b
        · have h5 : ¬ s.was.b = s.was.b + 1 := by omega
          simp [h1, h2, h3, h4, w1, h5]
        · by_cases h5 : s.w.ob.b = s.was.b + 1
          · have h6 : ¬ s.was.b + 1 = s.was.b := by omega
            simp [h1, h2, h3, h5, h6, w1]
          · simp [h1, h2, h3, h4, h5, w1]
      · by_cases h5 : s.w.ob.b = s.was.b + 1
        · simp [h1, h2, h3, h5, w1]
        · simp [h1, h2, h3, h5, w1]
    · by_cases h3 : s.w.ob.a = s.was.a <;> simp [h1, h2, h3, w1]
  · by_cases h3 : s.w.ob.a = s.was.a <;> simp [h1, h3, w1]
set_option maxRecDepth 100000 in
theorem c_fitsUser (s : Sg) : FCall Tryz.prog 127 [s.av] fun r H => r = bv s.user ∧ H = [] := by
  refine fcall_gather [] id fun clk => acall_of_aw Tryz.func127 rfl ?_
  simp
  refine codeOk_freeze 0 ?_
  simp [frzV, frzC, ofJ, snap1, blkAt, AC.dc?]
  refine codeOk_drawS [(.s, 0), (.s, 1), (.s, 2), (.s, 3), (.s, 4), (.s, 5), (.s, 6), (.n, 7), (.n, 8), (.n, 9)] mixed rfl rfl (by kernel_rfl) ?_
  unfold Sg.user
  by_cases k3 : s.w.ob.kind = 3
  · by_cases h1 : s.w.op = 1
    · cases ht : s.there with
      | true =>
        by_cases h2 : s.was.d = 0
        · by_cases h3 : s.w.ob.d = 0 <;> simp [k3, h1, ht, h2, h3]
        · simp [k3, h1, ht, h2]
      | false => simp [k3, h1, ht]
    · simp [k3, h1]
  · by_cases k2 : s.w.ob.kind = 2
    · by_cases h1 : s.w.op = 1
      · by_cases h2 : s.w.ob.b = s.was.b <;> simp [k2, h1, h2]
      · simp [k2, h1]
    · by_cases h1 : s.w.op = 1 <;> simp [k2, k3, h1]
set_option maxRecDepth 100000 in
theorem c_fitsReplica (s : Sg) : FCall Tryz.prog 128 [s.av] fun r H => r = bv s.replica ∧ H = [] := by
  refine fcall_gather [] id fun clk => acall_of_aw Tryz.func128 rfl ?_
  simp
  refine codeOk_freeze 0 ?_
  simp [frzV, frzC, ofJ, snap1, blkAt, AC.dc?]
  refine codeOk_drawS [(.s, 0), (.s, 1), (.s, 2), (.s, 3), (.s, 4), (.s, 5), (.s, 6), (.n, 7), (.n, 8), (.n, 9)] mixed rfl rfl (by kernel_rfl) ?_
  unfold Sg.replica
  by_cases k3 : s.w.ob.kind = 3
  · by_cases h1 : s.w.op = 1
    · cases ht : s.there with
      | true => simp [k3, h1, ht]
      | false => by_cases h3 : s.w.ob.d = 0 <;> simp [k3, h1, ht, h3]
    · simp [k3, h1]
  · by_cases k2 : s.w.ob.kind = 2
    · by_cases h1 : s.w.op = 1
      · cases ht : s.there with
        | true => by_cases h2 : s.w.ob.a = s.was.a <;> simp [k2, h1, ht, h2]
        | false => simp [k2, h1, ht]
      · simp [k2, h1]
    · by_cases h1 : s.w.op = 1 <;> simp [k2, k3, h1]
def Sg.stepRf (s : Sg) : Rf :=
  if s.w.ob.kind = 4 then (if s.lease then .none else .state)
  else if s.w.stamp = 0 then (if s.user then .none else .state)
  else if s.w.stamp ≠ s.ep then .stale
  else (if s.replica then .none else .state)
set_option maxRecDepth 100000 in
theorem c_refuseStep (s : Sg) (hb : 0 ≤ s.was.b ∧ s.was.b ≤ 65535) : FCall Tryz.prog 108 [s.av] fun r H => r = s.stepRf.av ∧ H = [] := by
  refine fcall_gather [] id fun clk => acall_of_aw Tryz.func108 rfl ?_
  unfold Sg.stepRf
  by_cases k4 : s.w.ob.kind = 4
  · simp [k4]
    refine acall_val (c_fitsLease s hb) (by simp [k4]) (by simp) ?_
    cases hl : s.lease <;> simp [Rf.dc, DC.flat]
  · by_cases h0 : s.w.stamp = 0
    · simp [k4, h0]
      refine acall_val (c_fitsUser s) (by simp [h0]) (by simp) ?_
      cases hl : s.user <;> simp [Rf.dc, DC.flat]
    · by_cases he : s.w.stamp = s.ep
      · have h0' : ¬ s.ep = 0 := by rw [← he]; exact h0
        simp [k4, h0', he]
        refine acall_val (c_fitsReplica s) (by simp [he]) (by simp) ?_
        cases hl : s.replica <;> simp [Rf.dc, DC.flat]
      · simp [k4, h0, he, Rf.dc, DC.flat]
end Go.Proofs.YtledabakodggcaaGreatDoor
