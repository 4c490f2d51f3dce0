/-
  Objects: what is right, and their faults.
-/
import Derived.Test.YtiogdfliailenaaQ3
namespace Go.Proofs.Ytiogdfliailenaa
set_option maxRecDepth 100000
set_option linter.unusedSimpArgs false
set_option linter.unusedVariables false
set_option linter.unnecessarySimpa false
open Go Go.Abs Go.Proofs

def setOk (o : Ob) : Prop := (0 ≤ o.id ∧ o.id ≤ 19) ∧ (0 ≤ o.a ∧ o.a ≤ 8) ∧ o.b = 0 ∧ o.c = 0 ∧ o.d = 0
def jobOk (o : Ob) : Prop := (0 ≤ o.id ∧ o.id ≤ 19) ∧ (0 ≤ o.a ∧ o.a ≤ 8) ∧ (0 ≤ o.b ∧ o.b ≤ 8) ∧ o.c = 0 ∧ o.d = 0
def leaseOk (o : Ob) : Prop := o.id = 0 ∧ (0 ≤ o.a ∧ o.a ≤ 2) ∧ (1 ≤ o.b ∧ o.b ≤ 9999) ∧ o.c = 0 ∧ o.d = 0
def kindOk (o : Ob) : Prop := if o.kind = 1 then setOk o else if o.kind = 2 then jobOk o else if o.kind = 3 then podOk o else leaseOk o
def obRight (o : Ob) : Prop := (0 ≤ o.rev ∧ o.rev ≤ 100000) ∧ kindOk o
instance (o : Ob) : Decidable (kindOk o) := by unfold kindOk setOk jobOk leaseOk; infer_instance
instance (o : Ob) : Decidable (obRight o) := by unfold obRight; infer_instance
/-- The fault of an object. -/
def obFault (o : Ob) : Int := if 1 ≤ o.kind ∧ o.kind ≤ 4 then (if obRight o then 0 else 3) else 1
set_option maxRecDepth 100000 in
set_option maxHeartbeats 4000000 in
theorem c_l2Right (o : Ob) (hk : 1 ≤ o.kind ∧ o.kind ≤ 4) : FCall Try.prog 74 [.one (.d (.rptr o.dcs))] fun r H => r = bv (decide (obRight o)) ∧ H = [] := by
  have call1 := c_l1In o.rev 0 100000
  have call2 := c_l1In o.id 0 19
  have callA := c_l1In o.a 0 8
  have callB := c_l1In o.b 0 8
  have callP := c_l2Pod o
  have callA2 := c_l1In o.a 0 2
  have callB2 := c_l1In o.b 1 9999
  have hb := fun (a b n : Int) => (show (decide (a ≤ n) && decide (n ≤ b)) = decide (a ≤ n ∧ n ≤ b) by simp)
  simp only [hb] at call1 call2 callA callB callA2 callB2
  by_cases hr : 0 ≤ o.rev ∧ o.rev ≤ 100000
  · have start : ∀ (Q : Prop), (∀ clk, ACall Try.prog 74 [.one (.d (.rptr o.dcs))] [] clk (GPost [] id fun r H => r = bv (decide (obRight o)) ∧ H = [])) → FCall Try.prog 74 [.one (.d (.rptr o.dcs))] fun r H => r = bv (decide (obRight o)) ∧ H = [] :=
      fun _ h => fcall_gather [] id h
    refine start True fun clk => acall_of_aw Try.func74 rfl ?_
    simp
    refine acall_val call1 (by simp) (by simp) ?_
    simp [hr]
    refine acall_val call2 (by simp) (by simp) ?_
    by_cases k1 : o.kind = 1
    · by_cases hid : 0 ≤ o.id ∧ o.id ≤ 19
      · simp [k1, hid]
        refine acall_val callA (by simp) (by simp) ?_
        by_cases ha : 0 ≤ o.a ∧ o.a ≤ 8
        · by_cases hb0 : o.b = 0 <;> by_cases hc0 : o.c = 0 <;> by_cases hd0 : o.d = 0 <;> simp [ha, obRight, kindOk, setOk, k1, hr, hid, hb0, hc0, hd0]
        · simp [ha, obRight, kindOk, setOk, k1, hr, hid]
      · simp [k1, hid, obRight, kindOk, setOk]
    · by_cases k2 : o.kind = 2
      · by_cases hid : 0 ≤ o.id ∧ o.id ≤ 19
        · simp [k1, k2, hid]
          refine acall_val callA (by simp) (by simp) ?_
          by_cases ha : 0 ≤ o.a ∧ o.a ≤ 8
          · simp [ha]
            refine acall_val callB (by simp) (by simp) ?_
            by_cases hB : 0 ≤ o.b ∧ o.b ≤ 8
            · by_cases hc0 : o.c = 0 <;> by_cases hd0 : o.d = 0 <;> simp [hB, ha, obRight, kindOk, jobOk, k1, k2, hr, hid, hc0, hd0]
            · simp [hB, ha, obRight, kindOk, jobOk, k1, k2, hr, hid]
          · simp [ha, obRight, kindOk, jobOk, k1, k2, hr, hid]
        · simp [k1, k2, hid, obRight, kindOk, jobOk]
      · by_cases k3 : o.kind = 3
        · simp [k1, k2, k3]
          refine acall_val callP (by simp [k3]) (by simp) ?_
          simp [obRight, kindOk, k1, k2, k3, hr]
        · have k4 : o.kind = 4 := by omega
          by_cases hid : o.id = 0
          · simp [k1, k2, k3, k4, hid]
            refine acall_val callA2 (by simp) (by simp) ?_
            by_cases ha : 0 ≤ o.a ∧ o.a ≤ 2
            · simp [ha]
              refine acall_val callB2 (by simp) (by simp) ?_
              by_cases hB : 1 ≤ o.b ∧ o.b ≤ 9999
              · by_cases hc0 : o.c = 0 <;> by_cases hd0 : o.d = 0 <;> simp [hB, ha, obRight, kindOk, leaseOk, k1, k2, k3, k4, hr, hid, hc0, hd0]
              · simp [hB, ha, obRight, kindOk, leaseOk, k1, k2, k3, k4, hr, hid]
            · simp [ha, obRight, kindOk, leaseOk, k1, k2, k3, k4, hr, hid]
          · simp [k1, k2, k3, k4, hid, obRight, kindOk, leaseOk]
  · refine fcall_gather [] id fun clk => acall_of_aw Try.func74 rfl ?_
    simp
    refine acall_val call1 (by simp) (by simp) ?_
    simp [obRight, hr]
end Go.Proofs.Ytiogdfliailenaa
