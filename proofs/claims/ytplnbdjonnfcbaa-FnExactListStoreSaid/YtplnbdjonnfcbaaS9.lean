/-
  The laws of a store: its fault, an object of it, its epoch.
-/
import Derived.Test.YtplnbdjonnfcbaaS8
import Derived.Test.YtplnbdjonnfcbaaS3
namespace Go.Proofs.Ytplnbdjonnfcbaa
set_option maxRecDepth 100000
set_option linter.unusedSimpArgs false
set_option linter.unusedVariables false
set_option linter.unnecessarySimpa false
open Go Go.Abs Go.Proofs
set_option maxRecDepth 100000 in
theorem c_toKey (a b : Int) : FCall Try.prog 31 [kav a b] fun r H => r = kav a b ∧ H = [] := by
  refine fcall_gather [] id fun clk => acall_of_aw Try.func31 rfl ?_
  simp
set_option maxRecDepth 100000 in
theorem c_eqObjectResult (c d : Int) (x y : Ob) : FCall Try.prog 33 [.agg (ic c :: x.cells), .agg (ic d :: y.cells)] fun r H => r = bv (decide (c = d ∧ x = y)) ∧ H = [] := by
  refine fcall_gather [] id fun clk => acall_of_aw Try.func33 rfl ?_
  by_cases h : c = d
  · simp [h]
    refine acall_val (c_eqObject x y) (by simp) (by simp) ?_
    by_cases h2 : x = y <;> simp [h2]
  · simp [h]
theorem av_key {x : AV} (h : OkAV true [.int .i64, .int .i64] x) : ∃ a b, x = kav a b := by
  obtain ⟨ds, hd, rfl⟩ := h
  obtain ⟨e0, t0, rfl, c0, h⟩ := okCs_cons hd
  obtain ⟨e1, t1, rfl, c1, h⟩ := okCs_cons h
  cases okCs_nil h
  obtain ⟨n0, rfl, _⟩ := okC_int c0
  obtain ⟨n1, rfl, _⟩ := okC_int c1
  exact ⟨n0, n1, rfl⟩
set_option maxRecDepth 100000 in
theorem law_StoreFault (s : St) (hs : s.Fits) (hF : s.obs.length ≤ 1048576 → s.hist.length ≤ 1048576 → FCall Try.prog 28 [s.av] fun r H => r = iv .i64 (stFault s) ∧ H = []) : FCall Try.prog 4 [s.av] TT := by
  have w0 : IntKind.i64.wrap 1048576 = 1048576 := rfl
  refine fcall_gather [] id fun clk => acall_of_aw Try.func4 rfl ?_
  simp
  refine acall_val (c_szStore s 1048576 hs (by omega) (by omega)) (by simp) (by simp) ?_
  by_cases g : szSt s 1048576 < 0
  · simp [g]
  · obtain ⟨b1, b2, b3, b4⟩ := szSt_le g (by omega)
    simp [g]
    refine a_toStore s b1 b2 ?_
    simp
    refine acall_val (c_sStoreFault s) (by simp) (by simp) ?_
    simp
    refine a_toStore s b1 b2 ?_
    simp
    refine acall_val (hF b1 b2) (by simp) (by simp) ?_
    simp
    refine codeOk_drawA mixed (by kernel_rfl) ?_
    simp
    refine q_toStore s b1 b2 ?_
    simp
    refine qcall_val (c_eqStore s s b1 b2) (by simp) (by simp) ?_
    simp
set_option maxRecDepth 100000 in
theorem law_FindObject (s : St) (a b : Int) (hs : s.Fits) (hF : s.obs.length ≤ 1048576 → s.hist.length ≤ 1048576 → FCall Try.prog 28 [s.av] fun r H => r = iv .i64 (stFault s) ∧ H = []) : FCall Try.prog 5 [s.av, kav a b] TT := by
  have w0 : IntKind.i64.wrap 1048576 = 1048576 := rfl
  refine fcall_gather [] id fun clk => acall_of_aw Try.func5 rfl ?_
  simp
  refine acall_val (c_szStore s 1048576 hs (by omega) (by omega)) (by simp) (by simp) ?_
  by_cases g : szSt s 1048576 < 0
  · simp [g]
  · obtain ⟨b1, b2, b3, b4⟩ := szSt_le g (by omega)
    have k1 := c_sFindObject s a b
    have k2 := c_FindObject s a b (stFault s) (hF b1 b2) (fun h => by have := (stFault_ok h).1; omega)
    obtain ⟨C, hC⟩ : ∃ C, C = (if stFault s = 0 then (if (findOb s.obs a b).isSome then (0 : Int) else 4) else stFault s) := ⟨_, rfl⟩
    obtain ⟨O, hO⟩ : ∃ O, O = (if stFault s = 0 then (findOb s.obs a b).getD ob0 else ob0) := ⟨_, rfl⟩
    rw [← hC, ← hO] at k1 k2
    clear hC hO
    simp [g]
    refine codeOk_drawA mixed (by kernel_rfl) ?_
    simp
    refine q_toStore s b1 b2 ?_
    simp
    refine qcall_val (c_toKey a b) (by simp) (by simp) ?_
    simp
    refine qcall_val k1 (by simp) (by simp) ?_
    simp
    refine a_toStore s b1 b2 ?_
    simp
    refine codeOk_drawA mixed (by kernel_rfl) ?_
    simp
    refine qcall_val (c_toKey a b) (by simp) (by simp) ?_
    simp
    refine qcall_val k2 (by simp) (by simp) ?_
    simp
    refine acall_val (c_eqObjectResult C C O O) (by simp) (by simp) ?_
    simp
    refine codeOk_drawA mixed (by kernel_rfl) ?_
    simp
    refine q_toStore s b1 b2 ?_
    simp
    refine qcall_val (c_eqStore s s b1 b2) (by simp) (by simp) ?_
    simp
set_option maxRecDepth 100000 in
theorem law_EpochOf (s : St) (hs : s.Fits) (hF : s.obs.length ≤ 1048576 → s.hist.length ≤ 1048576 → FCall Try.prog 28 [s.av] fun r H => r = iv .i64 (stFault s) ∧ H = []) : FCall Try.prog 6 [s.av] TT := by
  have w0 : IntKind.i64.wrap 1048576 = 1048576 := rfl
  refine fcall_gather [] id fun clk => acall_of_aw Try.func6 rfl ?_
  simp
  refine acall_val (c_szStore s 1048576 hs (by omega) (by omega)) (by simp) (by simp) ?_
  by_cases g : szSt s 1048576 < 0
  · simp [g]
  · obtain ⟨b1, b2, b3, b4⟩ := szSt_le g (by omega)
    have k1 := c_sEpochOf s
    have k2 := c_EpochOf s (stFault s) (hF b1 b2) (fun h => by have := (stFault_ok h).1; omega)
    obtain ⟨C, hC⟩ : ∃ C, C = stFault s := ⟨_, rfl⟩
    obtain ⟨O, hO⟩ : ∃ O, O = (if stFault s = 0 then ((findOb s.obs 4 0).getD ob0).b else 0) := ⟨_, rfl⟩
    rw [← hO, ← hC] at k1 k2
    clear hC hO
    simp [g]
    refine a_toStore s b1 b2 ?_
    simp
    refine acall_val k1 (by simp) (by simp) ?_
    simp
    refine a_toStore s b1 b2 ?_
    simp
    refine acall_val k2 (by simp) (by simp) ?_
    simp
    refine acall_val (c_eqIntResult C O C O) (by simp) (by simp) ?_
    simp
    refine codeOk_drawA mixed (by kernel_rfl) ?_
    simp
    refine q_toStore s b1 b2 ?_
    simp
    refine qcall_val (c_eqStore s s b1 b2) (by simp) (by simp) ?_
    simp
end Go.Proofs.Ytplnbdjonnfcbaa
