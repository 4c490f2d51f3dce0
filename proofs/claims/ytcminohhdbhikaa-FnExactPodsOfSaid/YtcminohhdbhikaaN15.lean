/-
  The law of the indexes of an owner's pods.
-/
import Derived.Test.YtcminohhdbhikaaN14
namespace Go.Proofs.Ytcminohhdbhikaa
set_option maxRecDepth 100000
set_option linter.unusedSimpArgs false
set_option linter.unusedVariables false
set_option linter.unnecessarySimpa false
open Go Go.Abs Go.Proofs
set_option maxRecDepth 100000 in
set_option maxHeartbeats 1000000 in
theorem law_PodsOf1 (s : Ca) (a b : Int) (hs : s.Fits) (g : ¬ szCa s 1048576 < 0) (h : owF s a = 0) : FCall Try.prog 3 [s.av, kav a b] TT := by
  obtain ⟨b1, b3, b4⟩ := szCa_le g (by omega)
  have k1 := c_sPodsOf1 s a b h
  have k2 := c_PodsOf1 s a b b1 h
  have hPl : (idxL (podsL s.obs a b)).length ≤ 1048576 := by
    have := podsL_len s.obs a b
    rw [idxL_len]; omega
  obtain ⟨P, hP⟩ : ∃ P, P = idxL (podsL s.obs a b) := ⟨_, rfl⟩
  rw [← hP] at k1 k2 hPl
  clear hP h
  have q1 : ¬ (1 : Int) + 7 * s.obs.length < 0 := by omega
  have q2 : ¬ (1 : Int) + P.length < 0 := by omega
  have ht : List.take P.length (iMarks 1 P.length) = iMarks 1 P.length := List.take_of_length_le (by simp)
  refine fcall_gather [] id fun clk => acall_of_aw Try.func3 rfl ?_
  simp
  refine acall_val (c_szCache s 1048576 hs (by omega) (by omega)) (by simp) (by simp) ?_
  simp [g]
  refine codeOk_drawA mixed (by kernel_rfl) ?_
  simp
  refine q_toCache s b1 ?_
  simp
  refine qcall_val (c_toKey a b) (by simp) (by simp) ?_
  simp
  refine qcall (.agg [ic 0, .d (.list P.length (rds P))]) k1 (by simp) (by
    rintro r Hn (⟨hz, rfl, rfl⟩ | ⟨_, g0, rfl, rfl⟩)
    · simp [hz]
    · simp) ?_
  simp
  refine acall_pure (c_toCache s b1) (by simp) ?_
  rintro r Hn c ⟨g1, rfl, rfl⟩ _
  simp
  refine codeOk_draw2 [(.n, 0), (.n, 1), (.q, 2)] 3 4 [(.n, 4), (.n, 5)] [(.n, 3), (.n, 5)] mixed rfl rfl rfl (by kernel_rfl) ?_
  simp
  refine qcall_val (c_toKey a b) (by simp) (by simp) ?_
  simp
  constructor
  · refine acall_pure k2 (by simp) ?_
    rintro r Hn c2 ⟨g3, rfl, rfl⟩ _
    simp
    refine acall_val (c_eqIntsResult 0 0 P P hPl) (by simp) (by simp) ?_
    simp
    refine codeOk_drawA mixed (by kernel_rfl) ?_
    simp
    refine q_toCache s b1 ?_
    simp
    refine qcall_val (c_eqCache s s b1) (by simp) (by simp) ?_
    simp
    refine acall_ref (k := 3) (c_markCacheN s.rev s.obs 1 g1 b1 (by omega)) (by simp) (by simp) ?_
    rintro r B Hn c3 ⟨rfl, rfl, rfl⟩ _
    simp [q1]
    refine acall_val (c_eqIntsResult 0 0 P P hPl) (by simp) (by simp) ?_
    simp
    refine acall_ref (k := 5) (c_markIntsResult 0 P 1 g3 hPl (by omega)) (by simp) (by simp) ?_
    rintro r B Hn c4 ⟨rfl, rfl, rfl⟩ _
    simp
    refine acall_val (c_heldIntsResult 0 P.length 1 hPl (by omega)) (by simp [ht]) (by simp) ?_
    simp [q2]
    refine codeOk_drawA mixed (by kernel_rfl) ?_
    simp
    refine q_toCache s b1 ?_
    simp
    refine qcall_val (c_toKey a b) (by simp) (by simp) ?_
    simp
    refine qcall (.agg [ic 0, .d (.list P.length (rds P))]) k2 (by simp) (by rintro r Hn ⟨g0, rfl, rfl⟩; simp) ?_
    simp
    refine acall_val (c_eqIntsResult 0 0 P P hPl) (by simp) (by simp) ?_
    simp
    refine acall_val (c_heldIntsResult 0 P.length 1 hPl (by omega)) (by simp [ht]) (by simp) ?_
    simp [q2]
  · refine acall_pure k2 (by simp) ?_
    rintro r Hn c2 ⟨g3, rfl, rfl⟩ _
    simp
    refine acall_val (c_eqIntsResult 0 0 P P hPl) (by simp) (by simp) ?_
    simp
    refine codeOk_drawA mixed (by kernel_rfl) ?_
    simp
    refine q_toCache s b1 ?_
    simp
    refine qcall_val (c_eqCache s s b1) (by simp) (by simp) ?_
    simp
    refine acall_ref (k := 3) (c_markCacheN s.rev s.obs 1 g1 b1 (by omega)) (by simp) (by simp) ?_
    rintro r B Hn c3 ⟨rfl, rfl, rfl⟩ _
    simp [q1]
    refine acall_val (c_eqIntsResult 0 0 P P hPl) (by simp) (by simp) ?_
    simp
    refine acall_ref (k := 6) (c_markIntsResult 0 P 1 g3 hPl (by omega)) (by simp) (by simp) ?_
    rintro r B Hn c4 ⟨rfl, rfl, rfl⟩ _
    simp
    refine acall_val (c_heldIntsResult 0 P.length 1 hPl (by omega)) (by simp [ht]) (by simp) ?_
    simp [q2]
    refine codeOk_drawA mixed (by kernel_rfl) ?_
    simp
    refine q_toCache s b1 ?_
    simp
    refine qcall_val (c_toKey a b) (by simp) (by simp) ?_
    simp
    refine qcall (.agg [ic 0, .d (.list P.length (rds P))]) k2 (by simp) (by rintro r Hn ⟨g0, rfl, rfl⟩; simp) ?_
    simp
    refine acall_val (c_eqIntsResult 0 0 P P hPl) (by simp) (by simp) ?_
    simp
    refine acall_val (c_heldIntsResult 0 P.length 1 hPl (by omega)) (by simp [ht]) (by simp) ?_
    simp [q2]
set_option maxRecDepth 100000 in
set_option maxHeartbeats 1000000 in
theorem law_PodsOf0 (s : Ca) (a b : Int) (hs : s.Fits) (g : ¬ szCa s 1048576 < 0) (h : ¬ owF s a = 0) : FCall Try.prog 3 [s.av, kav a b] TT := by
  obtain ⟨b1, b3, b4⟩ := szCa_le g (by omega)
  have k1 := c_sPodsOf0 s a b h
  have k2 := c_PodsOf0 s a b b1 h
  obtain ⟨F, hF⟩ : ∃ F, F = owF s a := ⟨_, rfl⟩
  rw [← hF] at k1 k2
  clear hF h
  have q1 : ¬ (1 : Int) + 7 * s.obs.length < 0 := by omega
  refine fcall_gather [] id fun clk => acall_of_aw Try.func3 rfl ?_
  simp
  refine acall_val (c_szCache s 1048576 hs (by omega) (by omega)) (by simp) (by simp) ?_
  simp [g]
  refine codeOk_drawA mixed (by kernel_rfl) ?_
  simp
  refine q_toCache s b1 ?_
  simp
  refine qcall_val (c_toKey a b) (by simp) (by simp) ?_
  simp
  refine qcall (.agg [ic F, .d (.list 0 [])]) k1 (by simp) (by rintro r Hn ⟨rfl, rfl⟩; rfl) ?_
  simp
  refine acall_pure (c_toCache s b1) (by simp) ?_
  rintro r Hn c ⟨g1, rfl, rfl⟩ _
  simp
  refine codeOk_drawA mixed (by kernel_rfl) ?_
  simp
  refine qcall_val (c_toKey a b) (by simp) (by simp) ?_
  simp
  refine qcall (.agg [ic F, .d (.list 0 [])]) k2 (by simp) (by rintro r Hn ⟨rfl, rfl⟩; rfl) ?_
  simp
  refine acall_val (c_eqIntsResult F F [] [] (by simp)) (by simp) (by simp) ?_
  simp
  refine codeOk_drawA mixed (by kernel_rfl) ?_
  simp
  refine q_toCache s b1 ?_
  simp
  refine qcall_val (c_eqCache s s b1) (by simp) (by simp) ?_
  simp
  refine acall_ref (k := 3) (c_markCacheN s.rev s.obs 1 g1 b1 (by omega)) (by simp) (by simp) ?_
  rintro r B Hn c3 ⟨rfl, rfl, rfl⟩ _
  simp [q1]
  refine acall_val (c_eqIntsResult F F [] [] (by simp)) (by simp) (by simp) ?_
  simp
  refine acall_val (c_markIntsResultn F 1) (by simp) (by simp) ?_
  simp
  refine acall_val (c_heldIntsResult F 0 1 (by omega) (by omega)) (by simp [iMarks]) (by simp) ?_
  simp
  refine codeOk_drawA mixed (by kernel_rfl) ?_
  simp
  refine q_toCache s b1 ?_
  simp
  refine qcall_val (c_toKey a b) (by simp) (by simp) ?_
  simp
  refine qcall (.agg [ic F, .d (.list 0 [])]) k2 (by simp) (by rintro r Hn ⟨rfl, rfl⟩; rfl) ?_
  simp
  refine acall_val (c_eqIntsResult F F [] [] (by simp)) (by simp) (by simp) ?_
  simp
  refine acall_val (c_heldIntsResult F 0 1 (by omega) (by omega)) (by simp [iMarks]) (by simp) ?_
  simp
set_option maxRecDepth 100000 in
theorem law_PodsOf (s : Ca) (a b : Int) (hs : s.Fits) : FCall Try.prog 3 [s.av, kav a b] TT := by
  by_cases g : szCa s 1048576 < 0
  · refine fcall_gather [] id fun clk => acall_of_aw Try.func3 rfl ?_
    simp
    refine acall_val (c_szCache s 1048576 hs (by omega) (by omega)) (by simp) (by simp) ?_
    simp [g]
  · by_cases h : owF s a = 0
    · exact law_PodsOf1 s a b hs g h
    · exact law_PodsOf0 s a b hs g h
theorem walk_FnExactPodsOf {x y : AV} (h : OkAV true [.int .i64, .slice [.int .i64, .int .i64, .int .i64, .int .i64, .int .i64, .int .i64, .int .i64]] x) (h1 : OkAV true [.int .i64, .int .i64] y) : FCall Try.prog 3 [x, y] TT := by
  obtain ⟨s, rfl, hs⟩ := av_ca h; obtain ⟨a, b, rfl⟩ := av_key h1; exact law_PodsOf s a b hs
end Go.Proofs.Ytcminohhdbhikaa
