/-
  The gate: the model's CheckWrite; the law.
-/
import Derived.Test.YtledabakodggcaaGreatDoorG3
namespace Go.Proofs.YtledabakodggcaaGreatDoor
set_option maxRecDepth 100000
set_option linter.unusedSimpArgs false
set_option linter.unusedVariables false
set_option linter.unnecessarySimpa false
open Go Go.Abs Go.Proofs
set_option maxRecDepth 100000 in
set_option maxHeartbeats 1000000 in
theorem c_l3Check (s : St) (w : Wr) (x : List DC) (hs : stFault s = 0) : FCall Tryz.prog 29 [stPtr s, wPtr w x] fun r H => r = iv .i64 (if wrFault w ≠ 0 then wrFault w else (refuse s w).code) ∧ H = [] := by
  obtain ⟨hrev, hl, _, _, hr, _⟩ := stFault_all hs
  refine fcall_gather [] id fun clk => acall_of_aw Tryz.func29 rfl ?_
  simp
  refine acall_val (c_sWriteFault w) (by simp) (by simp) ?_
  by_cases hw : wrFault w = 0
  · have hG := c_l3Gate s w x hs hw
    simp [hw]
    by_cases g1 : s.rev = 100000
    · simp [g1, refuse, Rf.code]
    · have g1' : ¬ 100000 ≤ s.rev := by omega
      have g1'' : s.rev < 100000 := by omega
      have hrf : refuse s w = if w.expect ≠ (wasOb s.obs w).rev then .taken else if (sgOf s w).stepRf ≠ .none then (sgOf s w).stepRf else if thereOb s.obs w = false ∧ s.obs.length = 60 then .full else .none := if_neg g1
      rw [hrf]
      clear hrf
      unfold wasOb thereOb at hG ⊢
      have hidx := findOb_idx hr w.ob.kind w.ob.id
      simp [g1', g1'']
      refine codeOk_drawA mixed (by kernel_rfl) ?_
      simp
      refine qcall_val (c_l2Key w.ob (dc w.expect :: dc w.stamp :: x)) (by simp) (by simp) ?_
      simp
      refine qcall_val (c_l3Find s.obs w.ob.kind w.ob.id (by omega)) (by simp) (by simp) ?_
      generalize (sgOf s w).stepRf = R at hG ⊢
      cases hi : idxOb s.obs w.ob.kind w.ob.id with
      | none =>
        have hf : findOb s.obs w.ob.kind w.ob.id = none := by rw [hidx, hi]; rfl
        rw [hf] at hG ⊢
        simp [idxVal, ob0]
        refine codeOk_drawA mixed (by kernel_rfl) ?_
        by_cases g2 : w.expect = 0
        · simp [g2]
          refine acall_val hG (by simp [AC.dc?, g2, ob0]) (by simp) ?_
          simp
          cases R with
          | none =>
            by_cases g3 : s.obs.length = 60
            · have g3' : (60 : Int) ≤ s.obs.length := by omega
              simp [Rf.code, g3, g3']
            · have g3' : ¬ (60 : Int) ≤ s.obs.length := by omega
              simp [Rf.code, g3, g3']
          | stale => simp [Rf.code]
          | full => simp [Rf.code]
          | state => simp [Rf.code]
          | taken => simp [Rf.code]
        · simp [g2, Rf.code]
      | some i =>
        obtain ⟨o, ho, _, _, hlt⟩ := idx_some hi
        obtain ⟨o', t, hd, ho', _, _⟩ := drop_at s.obs hlt
        rw [ho] at ho'; cases ho'
        have hg : s.obs[i] = o := by rw [List.getElem?_eq_getElem hlt] at ho; exact Option.some.inj ho
        have hf : findOb s.obs w.ob.kind w.ob.id = some o := by rw [hidx, hi]; exact ho
        rw [hf] at hG ⊢
        simp [idxVal, hlt, hd, ho, hg]
        refine codeOk_drawA mixed (by kernel_rfl) ?_
        by_cases g2 : w.expect = o.rev
        · simp [g2]
          refine acall_val hG (by simp [AC.dc?, g2]) (by simp) ?_
          simp
          cases R with
          | none => simp [Rf.code]
          | stale => simp [Rf.code]
          | full => simp [Rf.code]
          | state => simp [Rf.code]
          | taken => simp [Rf.code]
        · simp [g2, Rf.code]
  · simp [hw]
end Go.Proofs.YtledabakodggcaaGreatDoor
