/-
  The laws of stores and caches that answer numbers, booleans and single objects.
-/
import Derived.Test.YtplnbdjonnfcbaaC1
namespace Go.Proofs.Ytplnbdjonnfcbaa
set_option maxRecDepth 100000
set_option linter.unusedSimpArgs false
set_option linter.unusedVariables false
set_option linter.unnecessarySimpa false
open Go Go.Abs Go.Proofs
set_option maxRecDepth 100000 in
theorem law_CacheFault (s : Ca) (hs : s.Fits) : FCall Try.prog 7 [s.av] TT := by
  have w0 : IntKind.i64.wrap 1048576 = 1048576 := rfl
  refine fcall_gather [] id fun clk => acall_of_aw Try.func7 rfl ?_
  simp
  refine acall_val (c_szCache s 1048576 hs (by omega) (by omega)) (by simp) (by simp) ?_
  by_cases g : szCa s 1048576 < 0
  · simp [g]
  · obtain ⟨b1, b3, b4⟩ := szCa_le g (by omega)
    simp [g]
    refine a_toCache s b1 ?_
    simp
    refine acall_val (c_sCacheFault s) (by simp) (by simp) ?_
    simp
    refine a_toCache s b1 ?_
    simp
    refine acall_val (c_CacheFault s b1) (by simp) (by simp) ?_
    simp
    refine codeOk_drawA mixed (by kernel_rfl) ?_
    simp
    refine q_toCache s b1 ?_
    simp
    refine qcall_val (c_eqCache s s b1) (by simp) (by simp) ?_
    simp
theorem walk_FnExactCacheFault {x : AV} (h : OkAV true [.int .i64, .slice [.int .i64, .int .i64, .int .i64, .int .i64, .int .i64, .int .i64, .int .i64]] x) : FCall Try.prog 7 [x] TT := by
  obtain ⟨s, rfl, hs⟩ := av_ca h; exact law_CacheFault s hs
set_option maxRecDepth 100000 in
theorem law_FindCached (s : Ca) (a b : Int) (hs : s.Fits) : FCall Try.prog 11 [s.av, kav a b] TT := by
  have w0 : IntKind.i64.wrap 1048576 = 1048576 := rfl
  refine fcall_gather [] id fun clk => acall_of_aw Try.func11 rfl ?_
  simp
  refine acall_val (c_szCache s 1048576 hs (by omega) (by omega)) (by simp) (by simp) ?_
  by_cases g : szCa s 1048576 < 0
  · simp [g]
  · obtain ⟨b1, b3, b4⟩ := szCa_le g (by omega)
    have k1 := c_sFindCached s a b
    have k2 := c_FindCached s a b b1
    obtain ⟨C, hC⟩ : ∃ C, C = (if caFault s = 0 then (if (findOb s.obs a b).isSome then (0 : Int) else 4) else caFault s) := ⟨_, rfl⟩
    obtain ⟨O, hO⟩ : ∃ O, O = (if caFault s = 0 then (findOb s.obs a b).getD ob0 else ob0) := ⟨_, rfl⟩
    rw [← hC, ← hO] at k1 k2
    clear hC hO
    simp [g]
    refine codeOk_drawA mixed (by kernel_rfl) ?_
    simp
    refine q_toCache s b1 ?_
    simp
    refine qcall_val (c_toKey a b) (by simp) (by simp) ?_
    simp
    refine qcall_val k1 (by simp) (by simp) ?_
    simp
    refine a_toCache s b1 ?_
    simp
    refine codeOk_drawA mixed (by kernel_rfl) ?_
    simp
    refine qcall_val (c_toKey a b) (by simp) (by simp) ?_
    simp
    refine qcall_val k2 (by simp) (by simp) ?_
    simp
    refine acall_val (c_eqObjectResult C C O O) (by simp) (by simp) ?_
    simp
    refine codeOk_drawA mixed (by kernel_rfl) ?_
    simp
    refine q_toCache s b1 ?_
    simp
    refine qcall_val (c_eqCache s s b1) (by simp) (by simp) ?_
    simp
theorem walk_FnExactFindCached {x y : AV} (h : OkAV true [.int .i64, .slice [.int .i64, .int .i64, .int .i64, .int .i64, .int .i64, .int .i64, .int .i64]] x) (h1 : OkAV true [.int .i64, .int .i64] y) : FCall Try.prog 11 [x, y] TT := by
  obtain ⟨s, rfl, hs⟩ := av_ca h; obtain ⟨a, b, rfl⟩ := av_key h1; exact law_FindCached s a b hs
set_option maxRecDepth 100000 in
theorem law_SameCaches (s t : Ca) (hs : s.Fits) (ht : t.Fits) : FCall Try.prog 12 [s.av, t.av] TT := by
  have w0 : IntKind.i64.wrap 1048576 = 1048576 := rfl
  refine fcall_gather [] id fun clk => acall_of_aw Try.func12 rfl ?_
  simp
  refine acall_val (c_szCache s 1048576 hs (by omega) (by omega)) (by simp) (by simp) ?_
  by_cases g : szCa s 1048576 < 0
  · simp [g]
  · obtain ⟨b1, b3, b4⟩ := szCa_le g (by omega)
    simp [g]
    refine acall_val (c_szCache t (szCa s 1048576) ht (by omega) (by omega)) (by simp) (by simp) ?_
    by_cases g2 : szCa t (szCa s 1048576) < 0
    · simp [g2]
    · obtain ⟨d1, d3, d4⟩ := szCa_le g2 (by omega)
      simp [g2]
      refine codeOk_drawA mixed (by kernel_rfl) ?_
      simp
      refine q_toCache s b1 ?_
      simp
      refine q_toCache t d1 ?_
      simp
      refine qcall_val (c_sSameCaches s t b1) (by simp) (by simp) ?_
      simp
      refine a_toCache s b1 ?_
      simp
      refine a_toCache t d1 ?_
      simp
      refine acall_val (c_SameCaches s t b1) (by simp) (by simp) ?_
      simp
      refine codeOk_drawA mixed (by kernel_rfl) ?_
      simp
      refine q_toCache s b1 ?_
      simp
      refine qcall_val (c_eqCache s s b1) (by simp) (by simp) ?_
      simp
      refine codeOk_drawA mixed (by kernel_rfl) ?_
      simp
      refine q_toCache t d1 ?_
      simp
      refine qcall_val (c_eqCache t t d1) (by simp) (by simp) ?_
      simp
theorem walk_FnExactSameCaches {x y : AV} (h : OkAV true [.int .i64, .slice [.int .i64, .int .i64, .int .i64, .int .i64, .int .i64, .int .i64, .int .i64]] x) (h1 : OkAV true [.int .i64, .slice [.int .i64, .int .i64, .int .i64, .int .i64, .int .i64, .int .i64, .int .i64]] y) : FCall Try.prog 12 [x, y] TT := by
  obtain ⟨s, rfl, hs⟩ := av_ca h; obtain ⟨t, rfl, ht⟩ := av_ca h1; exact law_SameCaches s t hs ht
theorem walk_FnExactStoreFault {x : AV} (h : OkAV true [.int .i64, .slice [.int .i64, .int .i64, .int .i64, .int .i64, .int .i64, .int .i64, .int .i64], .slice [.int .i64, .bool, .int .i64, .int .i64, .int .i64, .int .i64, .int .i64, .int .i64, .int .i64]] x) : FCall Try.prog 4 [x] TT := by
  obtain ⟨s, rfl, hs⟩ := av_st h; exact law_StoreFault s hs (c_StoreFault s)
theorem walk_FnExactFindObject {x y : AV} (h : OkAV true [.int .i64, .slice [.int .i64, .int .i64, .int .i64, .int .i64, .int .i64, .int .i64, .int .i64], .slice [.int .i64, .bool, .int .i64, .int .i64, .int .i64, .int .i64, .int .i64, .int .i64, .int .i64]] x) (h1 : OkAV true [.int .i64, .int .i64] y) : FCall Try.prog 5 [x, y] TT := by
  obtain ⟨s, rfl, hs⟩ := av_st h; obtain ⟨a, b, rfl⟩ := av_key h1; exact law_FindObject s a b hs (c_StoreFault s)
theorem walk_FnExactEpochOf {x : AV} (h : OkAV true [.int .i64, .slice [.int .i64, .int .i64, .int .i64, .int .i64, .int .i64, .int .i64, .int .i64], .slice [.int .i64, .bool, .int .i64, .int .i64, .int .i64, .int .i64, .int .i64, .int .i64, .int .i64]] x) : FCall Try.prog 6 [x] TT := by
  obtain ⟨s, rfl, hs⟩ := av_st h; exact law_EpochOf s hs (c_StoreFault s)
end Go.Proofs.Ytplnbdjonnfcbaa
