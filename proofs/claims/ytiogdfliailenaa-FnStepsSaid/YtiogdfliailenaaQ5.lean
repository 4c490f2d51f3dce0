/-
  Objects and writes: their faults, as the model and the program tell them.
-/
import Derived.Test.YtiogdfliailenaaQ4
namespace Go.Proofs.Ytiogdfliailenaa
set_option maxRecDepth 100000
set_option linter.unusedSimpArgs false
set_option linter.unusedVariables false
set_option linter.unnecessarySimpa false
open Go Go.Abs Go.Proofs

set_option maxRecDepth 100000 in
theorem c_sObjectFault (o : Ob) : FCall Try.prog 55 [o.av] fun r H => r = iv .i64 (obFault o) ∧ H = [] := by
  have call1 := c_l1In o.kind 1 4
  have hb := fun (a b n : Int) => (show (decide (a ≤ n) && decide (n ≤ b)) = decide (a ≤ n ∧ n ≤ b) by simp)
  simp only [hb] at call1
  refine fcall_gather [] id fun clk => acall_of_aw Try.func55 rfl ?_
  simp
  refine acall_val call1 (by simp) (by simp) ?_
  by_cases hk : 1 ≤ o.kind ∧ o.kind ≤ 4
  · have call2 := c_l2Right o hk
    simp [hk]
    refine acall_val call2 (by simp [AC.dc?]) (by simp) ?_
    by_cases hr : obRight o <;> simp [hr, obFault, hk]
  · simp [hk, obFault]
set_option maxRecDepth 100000 in
theorem c_ObjectFault (o : Ob) : FCall Try.prog 43 [o.av] fun r H => r = iv .i64 (obFault o) ∧ H = [] := by
  refine fcall_gather [] id fun clk => acall_of_aw Try.func43 rfl ?_
  by_cases k1 : o.kind = 1
  · have call := c_isBetween o ⟨0, 0, 0, 0, 0, 0, 0⟩ ⟨0, 19, 8, 0, 0, 0, 100000⟩
    simp [k1]
    refine acall_val call (by simp [k1]) (by simp) ?_
    by_cases h : obRight o
    · have e : OkAll [⟨o.id, 0, 19⟩, ⟨o.a, 0, 8⟩, ⟨o.b, 0, 0⟩, ⟨o.c, 0, 0⟩, ⟨o.d, 0, 0⟩, ⟨o.rev, 0, 100000⟩] = true := by
        simp [obRight, kindOk, k1, setOk] at h; simp [OkAll, Sp.ok]; omega
      simp [e, h, obFault, k1]
    · have e : OkAll [⟨o.id, 0, 19⟩, ⟨o.a, 0, 8⟩, ⟨o.b, 0, 0⟩, ⟨o.c, 0, 0⟩, ⟨o.d, 0, 0⟩, ⟨o.rev, 0, 100000⟩] = false := by
        rw [Bool.eq_false_iff]; intro h'; apply h; simp [OkAll, Sp.ok] at h'; simp [obRight, kindOk, k1, setOk]; omega
      simp [e, h, obFault, k1]
  · by_cases k2 : o.kind = 2
    · have call := c_isBetween o ⟨0, 0, 0, 0, 0, 0, 0⟩ ⟨0, 19, 8, 8, 0, 0, 100000⟩
      simp [k1, k2]
      refine acall_val call (by simp [k2]) (by simp) ?_
      by_cases h : obRight o
      · have e : OkAll [⟨o.id, 0, 19⟩, ⟨o.a, 0, 8⟩, ⟨o.b, 0, 8⟩, ⟨o.c, 0, 0⟩, ⟨o.d, 0, 0⟩, ⟨o.rev, 0, 100000⟩] = true := by
          simp [obRight, kindOk, k2, jobOk] at h; simp [OkAll, Sp.ok]; omega
        simp [e, h, obFault, k2]
      · have e : OkAll [⟨o.id, 0, 19⟩, ⟨o.a, 0, 8⟩, ⟨o.b, 0, 8⟩, ⟨o.c, 0, 0⟩, ⟨o.d, 0, 0⟩, ⟨o.rev, 0, 100000⟩] = false := by
          rw [Bool.eq_false_iff]; intro h'; apply h; simp [OkAll, Sp.ok] at h'; simp [obRight, kindOk, k2, jobOk]; omega
        simp [e, h, obFault, k2]
    · by_cases k3 : o.kind = 3
      · have callP := c_PodId o.a o.b o.c
        simp [k1, k2, k3]
        refine acall_val callP (by simp) (by simp) ?_
        by_cases hc : podCode o.a o.b o.c = 0
        · have hv : podVal o.a o.b o.c = podNum o.a o.b o.c := by simp [podVal, hc]
          have call := c_isBetween o ⟨0, podNum o.a o.b o.c, o.a, o.b, o.c, 0, 0⟩ ⟨0, podNum o.a o.b o.c, o.a, o.b, o.c, 2, 100000⟩
          simp [hc, hv]
          refine acall_val call (by simp [k3]) (by simp) ?_
          by_cases h : obRight o
          · have e : OkAll [⟨o.id, podNum o.a o.b o.c, podNum o.a o.b o.c⟩, ⟨o.a, o.a, o.a⟩, ⟨o.b, o.b, o.b⟩, ⟨o.c, o.c, o.c⟩, ⟨o.d, 0, 2⟩, ⟨o.rev, 0, 100000⟩] = true := by
              simp [obRight, kindOk, k3, podOk] at h; simp [OkAll, Sp.ok]; omega
            simp [e, h, obFault, k3]
          · have e : OkAll [⟨o.id, podNum o.a o.b o.c, podNum o.a o.b o.c⟩, ⟨o.a, o.a, o.a⟩, ⟨o.b, o.b, o.b⟩, ⟨o.c, o.c, o.c⟩, ⟨o.d, 0, 2⟩, ⟨o.rev, 0, 100000⟩] = false := by
              rw [Bool.eq_false_iff]; intro h'; apply h; simp [OkAll, Sp.ok] at h'; simp [obRight, kindOk, k3, podOk, hc]; omega
            simp [e, h, obFault, k3]
        · have h : ¬ obRight o := by simp [obRight, kindOk, k3, podOk, hc]
          simp [hc, h, obFault, k3]
      · by_cases k4 : o.kind = 4
        · have call := c_isBetween o ⟨0, 0, 0, 1, 0, 0, 0⟩ ⟨0, 0, 2, 9999, 0, 0, 100000⟩
          simp [k1, k2, k3, k4]
          refine acall_val call (by simp [k4]) (by simp) ?_
          by_cases h : obRight o
          · have e : OkAll [⟨o.id, 0, 0⟩, ⟨o.a, 0, 2⟩, ⟨o.b, 1, 9999⟩, ⟨o.c, 0, 0⟩, ⟨o.d, 0, 0⟩, ⟨o.rev, 0, 100000⟩] = true := by
              simp [obRight, kindOk, k4, leaseOk] at h; simp [OkAll, Sp.ok]; omega
            simp [e, h, obFault, k4]
          · have e : OkAll [⟨o.id, 0, 0⟩, ⟨o.a, 0, 2⟩, ⟨o.b, 1, 9999⟩, ⟨o.c, 0, 0⟩, ⟨o.d, 0, 0⟩, ⟨o.rev, 0, 100000⟩] = false := by
              rw [Bool.eq_false_iff]; intro h'; apply h; simp [OkAll, Sp.ok] at h'; simp [obRight, kindOk, k4, leaseOk]; omega
            simp [e, h, obFault, k4]
        · have h : ¬ (1 ≤ o.kind ∧ o.kind ≤ 4) := by omega
          simp [k1, k2, k3, k4, obFault, h]

structure Wr where
  op : Int
  ob : Ob
  expect : Int
  stamp : Int
  deriving DecidableEq
abbrev Wr.cells (w : Wr) : List AC := [ic w.op, ic w.ob.kind, ic w.ob.id, ic w.ob.a, ic w.ob.b, ic w.ob.c, ic w.ob.d, ic w.ob.rev, ic w.expect, ic w.stamp]
abbrev Wr.av (w : Wr) : AV := .agg w.cells
abbrev Wr.dcs (w : Wr) : List DC := [dc w.op, dc w.ob.kind, dc w.ob.id, dc w.ob.a, dc w.ob.b, dc w.ob.c, dc w.ob.d, dc w.ob.rev, dc w.expect, dc w.stamp]
/-- The fault of a write. -/
def wrFault (w : Wr) : Int :=
  if (w.op ≠ 1 ∧ w.op ≠ 2) ∨ w.ob.rev ≠ 0 then 1
  else if obFault w.ob ≠ 0 then obFault w.ob
  else if ¬ ((0 ≤ w.expect ∧ w.expect ≤ 100000) ∧ (0 ≤ w.stamp ∧ w.stamp ≤ 9999)) then 3
  else if w.op = 2 ∧ w.expect = 0 then 1 else 0
theorem wr_form {w : Wr} (h : (w.op ≠ 1 ∧ w.op ≠ 2) ∨ w.ob.rev ≠ 0) : wrFault w = 1 := by unfold wrFault; rw [if_pos h]
theorem wr_ob {w : Wr} (h : ¬ ((w.op ≠ 1 ∧ w.op ≠ 2) ∨ w.ob.rev ≠ 0)) (h2 : obFault w.ob ≠ 0) : wrFault w = obFault w.ob := by unfold wrFault; rw [if_neg h, if_pos h2]
theorem wr_range {w : Wr} (h : ¬ ((w.op ≠ 1 ∧ w.op ≠ 2) ∨ w.ob.rev ≠ 0)) (h2 : obFault w.ob = 0) (h3 : ¬ ((0 ≤ w.expect ∧ w.expect ≤ 100000) ∧ (0 ≤ w.stamp ∧ w.stamp ≤ 9999))) : wrFault w = 3 := by
  unfold wrFault; rw [if_neg h, if_neg (by simp [h2]), if_pos h3]
theorem wr_end {w : Wr} (h : ¬ ((w.op ≠ 1 ∧ w.op ≠ 2) ∨ w.ob.rev ≠ 0)) (h2 : obFault w.ob = 0) (h3 : (0 ≤ w.expect ∧ w.expect ≤ 100000) ∧ (0 ≤ w.stamp ∧ w.stamp ≤ 9999)) : wrFault w = if w.op = 2 ∧ w.expect = 0 then 1 else 0 := by
  unfold wrFault; rw [if_neg h, if_neg (by simp [h2]), if_neg (fun h => h h3)]
set_option maxRecDepth 100000 in
theorem c_WriteFault (w : Wr) : FCall Try.prog 19 [w.av] fun r H => r = iv .i64 (wrFault w) ∧ H = [] := by
  have callO := c_ObjectFault w.ob
  have callB := c_inBounds [⟨w.expect, 0, 100000⟩, ⟨w.stamp, 0, 9999⟩] (by simp)
  refine fcall_gather [] id fun clk => acall_of_aw Try.func19 rfl ?_
  have tail : ∀ (h : ¬ ((w.op ≠ 1 ∧ w.op ≠ 2) ∨ w.ob.rev ≠ 0)), obFault w.ob = 0 → OkAll [⟨w.expect, 0, 100000⟩, ⟨w.stamp, 0, 9999⟩] = false → wrFault w = 3 := fun h h2 h3 => wr_range h h2 (by
    rw [Bool.eq_false_iff] at h3; intro h'; apply h3; simp [OkAll, Sp.ok, h'])
  have tail2 : OkAll [⟨w.expect, 0, 100000⟩, ⟨w.stamp, 0, 9999⟩] = true → ((0 ≤ w.expect ∧ w.expect ≤ 100000) ∧ (0 ≤ w.stamp ∧ w.stamp ≤ 9999)) := fun h => by
    simpa [OkAll, Sp.ok] using h
  by_cases hr : w.ob.rev = 0
  · by_cases o1 : w.op = 1
    · simp [o1, hr]
      refine acall_val callO (by simp [hr]) (by simp) ?_
      by_cases h2 : obFault w.ob = 0
      · simp [h2]
        refine acall_val callB (by simp [sps, AC.dc?]) (by simp) ?_
        cases hB : OkAll [⟨w.expect, 0, 100000⟩, ⟨w.stamp, 0, 9999⟩]
        · simp [tail (by simp [o1, hr]) h2 hB]
        · simp [wr_end (w := w) (by simp [o1, hr]) h2 (tail2 hB), o1]
      · simp [h2, wr_ob (w := w) (by simp [o1, hr]) h2]
    · by_cases o2 : w.op = 2
      · simp [o1, o2, hr]
        refine acall_val callO (by simp [hr]) (by simp) ?_
        by_cases h2 : obFault w.ob = 0
        · simp [h2]
          refine acall_val callB (by simp [sps, AC.dc?]) (by simp) ?_
          cases hB : OkAll [⟨w.expect, 0, 100000⟩, ⟨w.stamp, 0, 9999⟩]
          · simp [tail (by simp [o2, hr]) h2 hB]
          · by_cases he : w.expect = 0 <;> simp [wr_end (w := w) (by simp [o2, hr]) h2 (tail2 hB), o2, he]
        · simp [h2, wr_ob (w := w) (by simp [o2, hr]) h2]
      · simp [o1, o2, hr, wr_form (w := w) (by simp [o1, o2])]
  · by_cases o1 : w.op = 1
    · simp [o1, hr, wr_form (w := w) (by simp [hr])]
    · by_cases o2 : w.op = 2
      · simp [o1, o2, hr, wr_form (w := w) (by simp [hr])]
      · simp [o1, o2, hr, wr_form (w := w) (by simp [hr])]
set_option maxRecDepth 100000 in
theorem c_sWriteFault (w : Wr) : FCall Try.prog 92 [w.av] fun r H => r = iv .i64 (wrFault w) ∧ H = [] := by
  have callO := c_sObjectFault w.ob
  have callE := c_l1In w.expect 0 100000
  have callS := c_l1In w.stamp 0 9999
  have hb := fun (a b n : Int) => (show (decide (a ≤ n) && decide (n ≤ b)) = decide (a ≤ n ∧ n ≤ b) by simp)
  simp only [hb] at callE callS
  refine fcall_gather [] id fun clk => acall_of_aw Try.func92 rfl ?_
  by_cases hr : w.ob.rev = 0
  · by_cases o1 : w.op = 1
    · simp [o1, hr]
      refine acall_val callO (by simp [hr]) (by simp) ?_
      by_cases h2 : obFault w.ob = 0
      · simp [h2]
        refine acall_val callE (by simp) (by simp) ?_
        by_cases hE : 0 ≤ w.expect ∧ w.expect ≤ 100000
        · simp [hE]
          refine acall_val callS (by simp) (by simp) ?_
          by_cases hS : 0 ≤ w.stamp ∧ w.stamp ≤ 9999
          · simp [hS, wr_end (w := w) (by simp [o1, hr]) h2 ⟨hE, hS⟩, o1]
          · simp [hS, wr_range (w := w) (by simp [o1, hr]) h2 (fun h => hS h.2)]
        · simp [hE, wr_range (w := w) (by simp [o1, hr]) h2 (fun h => hE h.1)]
      · simp [h2, wr_ob (w := w) (by simp [o1, hr]) h2]
    · by_cases o2 : w.op = 2
      · simp [o1, o2, hr]
        refine acall_val callO (by simp [hr]) (by simp) ?_
        by_cases h2 : obFault w.ob = 0
        · simp [h2]
          refine acall_val callE (by simp) (by simp) ?_
          by_cases hE : 0 ≤ w.expect ∧ w.expect ≤ 100000
          · simp [hE]
            refine acall_val callS (by simp) (by simp) ?_
            by_cases hS : 0 ≤ w.stamp ∧ w.stamp ≤ 9999
            · by_cases he : w.expect = 0 <;> simp [hS, wr_end (w := w) (by simp [o2, hr]) h2 ⟨hE, hS⟩, o2, he]
            · simp [hS, wr_range (w := w) (by simp [o2, hr]) h2 (fun h => hS h.2)]
          · simp [hE, wr_range (w := w) (by simp [o2, hr]) h2 (fun h => hE h.1)]
        · simp [h2, wr_ob (w := w) (by simp [o2, hr]) h2]
      · simp [o1, o2, hr, wr_form (w := w) (by simp [o1, o2])]
  · by_cases o1 : w.op = 1
    · simp [o1, hr, wr_form (w := w) (by simp [hr])]
    · by_cases o2 : w.op = 2
      · simp [o1, o2, hr, wr_form (w := w) (by simp [hr])]
      · simp [o1, o2, hr, wr_form (w := w) (by simp [hr])]
set_option maxRecDepth 100000 in
theorem c_NewPod (k w i : Int) : FCall Try.prog 49 [iv .i64 k, iv .i64 w, iv .i64 i] fun r H => r = .agg [ic 3, ic (podVal k w i), ic k, ic w, ic i, ic 0, ic 0] ∧ H = [] := by
  refine fcall_gather [] id fun clk => acall_of_aw Try.func49 rfl ?_
  simp
  refine acall_val (c_PodId k w i) (by simp) (by simp) ?_
  simp
set_option maxRecDepth 100000 in
theorem c_sNewPod (k w i : Int) : FCall Try.prog 61 [iv .i64 k, iv .i64 w, iv .i64 i] fun r H => r = .agg [ic 3, ic (podVal k w i), ic k, ic w, ic i, ic 0, ic 0] ∧ H = [] := by
  refine fcall_gather [] id fun clk => acall_of_aw Try.func61 rfl ?_
  simp
  refine acall_val (c_sPodId k w i) (by simp) (by simp) ?_
  simp
end Go.Proofs.Ytiogdfliailenaa
