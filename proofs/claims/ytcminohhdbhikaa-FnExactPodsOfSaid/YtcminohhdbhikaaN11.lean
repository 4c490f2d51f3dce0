/-
  The laws of the functions that are asked of a cache what is to be done.
-/
import Derived.Test.YtcminohhdbhikaaN10
namespace Go.Proofs.Ytcminohhdbhikaa
set_option maxRecDepth 100000
set_option linter.unusedSimpArgs false
set_option linter.unusedVariables false
set_option linter.unnecessarySimpa false
open Go Go.Abs Go.Proofs
set_option maxRecDepth 100000 in
theorem c_eqWriteN (a b : Wr) : FCall Try.prog 59 [a.av, b.av] fun r H => r = bv (decide (a = b)) ∧ H = [] := by
  have e : (a = b) ↔ (a.op = b.op ∧ a.ob = b.ob ∧ a.expect = b.expect ∧ a.stamp = b.stamp) := by cases a; cases b; simp
  refine fcall_gather [] id fun clk => acall_of_aw Try.func59 rfl ?_
  by_cases h1 : a.op = b.op
  · simp [h1]
    refine acall_val (c_eqObject a.ob b.ob) (by simp) (by simp) ?_
    by_cases h2 : a.ob = b.ob
    · by_cases h3 : a.expect = b.expect <;> by_cases h4 : a.stamp = b.stamp <;> simp [e, h1, h2, h3, h4]
    · simp [e, h1, h2]
  · simp [e, h1]
set_option maxRecDepth 100000 in
theorem c_eqStepResult (x y : Int) (a b : Wr) : FCall Try.prog 28 [.agg (ic x :: a.cells), .agg (ic y :: b.cells)] fun r H => r = bv (decide (x = y ∧ a = b)) ∧ H = [] := by
  refine fcall_gather [] id fun clk => acall_of_aw Try.func28 rfl ?_
  by_cases h1 : x = y
  · simp [h1]
    refine acall_val (c_eqWriteN a b) (by simp) (by simp) ?_
    by_cases h2 : a = b <;> simp [h1, h2]
  · simp [h1]
set_option maxRecDepth 100000 in
theorem law_NextForSet (s : Ca) (q : Int) (hs : s.Fits) : FCall Try.prog 6 [s.av, iv .i64 q] TT := by
  refine fcall_gather [] id fun clk => acall_of_aw Try.func6 rfl ?_
  simp
  refine acall_val (c_szCache s 1048576 hs (by omega) (by omega)) (by simp) (by simp) ?_
  by_cases g : szCa s 1048576 < 0
  · simp [g]
  · obtain ⟨b1, b3, b4⟩ := szCa_le g (by omega)
    have k1 := c_sNextForSet s q
    have k2 := c_NextForSet s q b1
    rw [faR_eq] at k1 k2
    obtain ⟨C, hC⟩ : ∃ C, C = faC s (askW s 1 q setStep) := ⟨_, rfl⟩
    obtain ⟨W, hW⟩ : ∃ W, W = faW s (askW s 1 q setStep) := ⟨_, rfl⟩
    rw [← hC, ← hW] at k1 k2
    clear hC hW
    simp [g]
    refine a_toCache s b1 ?_
    simp
    refine acall_val k1 (by simp) (by simp) ?_
    simp
    refine a_toCache s b1 ?_
    simp
    refine acall_val k2 (by simp) (by simp) ?_
    simp
    refine acall_val (c_eqStepResult C C W W) (by simp) (by simp) ?_
    simp
    refine codeOk_drawA mixed (by kernel_rfl) ?_
    simp
    refine q_toCache s b1 ?_
    simp
    refine qcall_val (c_eqCache s s b1) (by simp) (by simp) ?_
    simp
theorem walk_FnExactNextForSet {x y : AV} (h : OkAV true [.int .i64, .slice [.int .i64, .int .i64, .int .i64, .int .i64, .int .i64, .int .i64, .int .i64]] x) (h1 : OkAV false [.int .i64] y) : FCall Try.prog 6 [x, y] TT := by
  obtain ⟨s, rfl, hs⟩ := av_ca h; obtain ⟨b, rfl, _⟩ := av_int h1; exact law_NextForSet s b hs
set_option maxRecDepth 100000 in
theorem law_NextForJob (s : Ca) (q : Int) (hs : s.Fits) : FCall Try.prog 7 [s.av, iv .i64 q] TT := by
  refine fcall_gather [] id fun clk => acall_of_aw Try.func7 rfl ?_
  simp
  refine acall_val (c_szCache s 1048576 hs (by omega) (by omega)) (by simp) (by simp) ?_
  by_cases g : szCa s 1048576 < 0
  · simp [g]
  · obtain ⟨b1, b3, b4⟩ := szCa_le g (by omega)
    have k1 := c_sNextForJob s q
    have k2 := c_NextForJob s q b1
    rw [faR_eq] at k1 k2
    obtain ⟨C, hC⟩ : ∃ C, C = faC s (askW s 2 q jobStep) := ⟨_, rfl⟩
    obtain ⟨W, hW⟩ : ∃ W, W = faW s (askW s 2 q jobStep) := ⟨_, rfl⟩
    rw [← hC, ← hW] at k1 k2
    clear hC hW
    simp [g]
    refine a_toCache s b1 ?_
    simp
    refine acall_val k1 (by simp) (by simp) ?_
    simp
    refine a_toCache s b1 ?_
    simp
    refine acall_val k2 (by simp) (by simp) ?_
    simp
    refine acall_val (c_eqStepResult C C W W) (by simp) (by simp) ?_
    simp
    refine codeOk_drawA mixed (by kernel_rfl) ?_
    simp
    refine q_toCache s b1 ?_
    simp
    refine qcall_val (c_eqCache s s b1) (by simp) (by simp) ?_
    simp
theorem walk_FnExactNextForJob {x y : AV} (h : OkAV true [.int .i64, .slice [.int .i64, .int .i64, .int .i64, .int .i64, .int .i64, .int .i64, .int .i64]] x) (h1 : OkAV false [.int .i64] y) : FCall Try.prog 7 [x, y] TT := by
  obtain ⟨s, rfl, hs⟩ := av_ca h; obtain ⟨b, rfl, _⟩ := av_int h1; exact law_NextForJob s b hs
set_option maxRecDepth 100000 in
theorem law_NextOrphan (s : Ca) (hs : s.Fits) : FCall Try.prog 8 [s.av] TT := by
  refine fcall_gather [] id fun clk => acall_of_aw Try.func8 rfl ?_
  simp
  refine acall_val (c_szCache s 1048576 hs (by omega) (by omega)) (by simp) (by simp) ?_
  by_cases g : szCa s 1048576 < 0
  · simp [g]
  · obtain ⟨b1, b3, b4⟩ := szCa_le g (by omega)
    have k1 := c_sNextOrphan s
    have k2 := c_NextOrphan s b1
    rw [faR_eq] at k1 k2
    obtain ⟨C, hC⟩ : ∃ C, C = faC s (orphan s.obs) := ⟨_, rfl⟩
    obtain ⟨W, hW⟩ : ∃ W, W = faW s (orphan s.obs) := ⟨_, rfl⟩
    rw [← hC, ← hW] at k1 k2
    clear hC hW
    simp [g]
    refine a_toCache s b1 ?_
    simp
    refine acall_val k1 (by simp) (by simp) ?_
    simp
    refine a_toCache s b1 ?_
    simp
    refine acall_val k2 (by simp) (by simp) ?_
    simp
    refine acall_val (c_eqStepResult C C W W) (by simp) (by simp) ?_
    simp
    refine codeOk_drawA mixed (by kernel_rfl) ?_
    simp
    refine q_toCache s b1 ?_
    simp
    refine qcall_val (c_eqCache s s b1) (by simp) (by simp) ?_
    simp
theorem walk_FnExactNextOrphan {x : AV} (h : OkAV true [.int .i64, .slice [.int .i64, .int .i64, .int .i64, .int .i64, .int .i64, .int .i64, .int .i64]] x) : FCall Try.prog 8 [x] TT := by
  obtain ⟨s, rfl, hs⟩ := av_ca h; exact law_NextOrphan s hs
set_option maxRecDepth 100000 in
theorem law_NextWrite (s : Ca) (hs : s.Fits) : FCall Try.prog 9 [s.av] TT := by
  refine fcall_gather [] id fun clk => acall_of_aw Try.func9 rfl ?_
  simp
  refine acall_val (c_szCache s 1048576 hs (by omega) (by omega)) (by simp) (by simp) ?_
  by_cases g : szCa s 1048576 < 0
  · simp [g]
  · obtain ⟨b1, b3, b4⟩ := szCa_le g (by omega)
    have k1 := c_sNextWrite s
    have k2 := c_NextWrite s b1
    rw [faR_eq] at k1 k2
    obtain ⟨C, hC⟩ : ∃ C, C = faC s (nextW s.obs) := ⟨_, rfl⟩
    obtain ⟨W, hW⟩ : ∃ W, W = faW s (nextW s.obs) := ⟨_, rfl⟩
    rw [← hC, ← hW] at k1 k2
    clear hC hW
    simp [g]
    refine a_toCache s b1 ?_
    simp
    refine acall_val k1 (by simp) (by simp) ?_
    simp
    refine a_toCache s b1 ?_
    simp
    refine acall_val k2 (by simp) (by simp) ?_
    simp
    refine acall_val (c_eqStepResult C C W W) (by simp) (by simp) ?_
    simp
    refine codeOk_drawA mixed (by kernel_rfl) ?_
    simp
    refine q_toCache s b1 ?_
    simp
    refine qcall_val (c_eqCache s s b1) (by simp) (by simp) ?_
    simp
theorem walk_FnExactNextWrite {x : AV} (h : OkAV true [.int .i64, .slice [.int .i64, .int .i64, .int .i64, .int .i64, .int .i64, .int .i64, .int .i64]] x) : FCall Try.prog 9 [x] TT := by
  obtain ⟨s, rfl, hs⟩ := av_ca h; exact law_NextWrite s hs
set_option maxRecDepth 100000 in
theorem law_IsConverged (s : Ca) (hs : s.Fits) : FCall Try.prog 10 [s.av] TT := by
  refine fcall_gather [] id fun clk => acall_of_aw Try.func10 rfl ?_
  simp
  refine acall_val (c_szCache s 1048576 hs (by omega) (by omega)) (by simp) (by simp) ?_
  by_cases g : szCa s 1048576 < 0
  · simp [g]
  · obtain ⟨b1, b3, b4⟩ := szCa_le g (by omega)
    have k1 := c_sIsConverged s
    have k2 := c_IsConverged s b1
    obtain ⟨B, hB⟩ : ∃ B, B = decide (faC s (nextW s.obs) = 4) := ⟨_, rfl⟩
    rw [← hB] at k1 k2
    clear hB
    simp [g]
    refine a_toCache s b1 ?_
    simp
    refine acall_val k1 (by simp) (by simp) ?_
    simp
    refine a_toCache s b1 ?_
    simp
    refine acall_val k2 (by simp) (by simp) ?_
    simp
    refine codeOk_drawA mixed (by kernel_rfl) ?_
    simp
    refine q_toCache s b1 ?_
    simp
    refine qcall_val (c_eqCache s s b1) (by simp) (by simp) ?_
    simp
theorem walk_FnExactIsConverged {x : AV} (h : OkAV true [.int .i64, .slice [.int .i64, .int .i64, .int .i64, .int .i64, .int .i64, .int .i64, .int .i64]] x) : FCall Try.prog 10 [x] TT := by
  obtain ⟨s, rfl, hs⟩ := av_ca h; exact law_IsConverged s hs
end Go.Proofs.Ytcminohhdbhikaa
