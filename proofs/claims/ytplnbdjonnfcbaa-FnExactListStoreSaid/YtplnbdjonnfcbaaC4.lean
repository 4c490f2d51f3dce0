/-
  The law of ListStore.
-/
import Derived.Test.YtplnbdjonnfcbaaC3
namespace Go.Proofs.Ytplnbdjonnfcbaa
set_option maxRecDepth 100000
set_option linter.unusedSimpArgs false
set_option linter.unusedVariables false
set_option linter.unnecessarySimpa false
open Go Go.Abs Go.Proofs
set_option maxRecDepth 100000 in
set_option maxHeartbeats 1000000 in
theorem law_ListStore0 (s : St) (hs : s.Fits) (g : ¬ szSt s 1048576 < 0) (h : stFault s ≠ 0) : FCall Try.prog 8 [s.av] TT := by
  have w0 : IntKind.i64.wrap 1048576 = 1048576 := rfl
  obtain ⟨b1, b2, b3, b4⟩ := szSt_le g (by omega)
  have k1 := c_sListStore0 s h
  have k2 := c_ListStore0 s h b1 b2
  obtain ⟨F, hF⟩ : ∃ F, F = stFault s := ⟨_, rfl⟩
  rw [← hF] at k1 k2
  clear hF h
  have q1 : ¬ (1 : Int) + 7 * s.obs.length + 9 * s.hist.length < 0 := by omega
  refine fcall_gather [] id fun clk => acall_of_aw Try.func8 rfl ?_
  simp
  refine acall_val (c_szStore s 1048576 hs (by omega) (by omega)) (by simp) (by simp) ?_
  simp [g]
  refine a_toStore s b1 b2 ?_
  simp
  refine acall_froze k1 (by simp) fun r Hn h => ⟨.agg [ic F, ic 0, .d (.list 0 [])], by obtain ⟨rfl, rfl⟩ := h; rfl, ?_⟩
  simp
  refine acall_pure (c_toStore s b1 b2) (by simp) ?_
  rintro r Hn c ⟨g1, g2, rfl, rfl⟩ _
  simp
  refine acall_pure k2 (by simp) ?_
  rintro r Hn c ⟨rfl, rfl⟩ _
  simp
  refine acall_val (c_eqCacheResult F F ⟨0, []⟩ ⟨0, []⟩ (by simp)) (by simp) (by simp) ?_
  simp
  refine codeOk_drawA mixed (by kernel_rfl) ?_
  simp
  refine q_toStore s b1 b2 ?_
  simp
  refine qcall_val (c_eqStore s s b1 b2) (by simp) (by simp) ?_
  simp
  refine acall_refs [2, 3] (c_markStore s 1 g1 g2 b1 b2 (by omega)) (by simp) rfl (by simp [rhoS]) ?_ ?_
  · intro j k B hj hB
    match j with
    | 0 => simp at hj hB; subst hj; subst hB; simp
    | 1 => simp at hj hB; subst hj; subst hB; simp
    | j + 2 => simp at hj
  rintro r Bs Hn c ⟨rfl, ⟨l, m, rfl⟩, X, rfl⟩ _ _
  simp [setL, q1]
  refine acall_val (c_eqCacheResult F F ⟨0, []⟩ ⟨0, []⟩ (by simp)) (by simp) (by simp) ?_
  simp
  refine acall_val (c_markCacheResultn F 0 1) (by simp) (by simp) ?_
  simp
  refine acall_val (c_heldCacheResult F 0 0 1 (by omega) (by omega)) (by simp [obMarks]) (by simp) ?_
  simp
  refine a_toStore s b1 b2 ?_
  simp
  refine acall_froze k2 (by simp) fun r Hn h => ⟨.agg [ic F, ic 0, .d (.list 0 [])], by obtain ⟨rfl, rfl⟩ := h; rfl, ?_⟩
  simp
  refine acall_val (c_eqCacheResult F F ⟨0, []⟩ ⟨0, []⟩ (by simp)) (by simp) (by simp) ?_
  simp
  refine acall_val (c_heldCacheResult F 0 0 1 (by omega) (by omega)) (by simp [obMarks]) (by simp) ?_
  simp
set_option maxRecDepth 100000 in
set_option maxHeartbeats 1000000 in
theorem law_ListStore1 (s : St) (hs : s.Fits) (g : ¬ szSt s 1048576 < 0) (h : stFault s = 0) : FCall Try.prog 8 [s.av] TT := by
  have w0 : IntKind.i64.wrap 1048576 = 1048576 := rfl
  obtain ⟨b1, b2, b3, b4⟩ := szSt_le g (by omega)
  have k1 := c_sListStore1 s h
  have k2 := c_ListStore1 s h
  clear h
  have q1 : ¬ (1 : Int) + 7 * s.obs.length + 9 * s.hist.length < 0 := by omega
  have q2 : ¬ (1 : Int) + 7 * s.obs.length < 0 := by omega
  have ht : List.take s.obs.length (obMarks 1 s.obs.length) = obMarks 1 s.obs.length := List.take_of_length_le (by simp)
  refine fcall_gather [] id fun clk => acall_of_aw Try.func8 rfl ?_
  simp
  refine acall_val (c_szStore s 1048576 hs (by omega) (by omega)) (by simp) (by simp) ?_
  simp [g]
  refine a_toStore s b1 b2 ?_
  simp
  refine acall_froze k1 (by simp) fun r Hn h => ⟨.agg [ic 0, ic s.rev, .d (.list s.obs.length (rds s.obs))], by obtain ⟨g0, rfl, rfl⟩ := h; simp, ?_⟩
  simp
  refine acall_pure (c_toStore s b1 b2) (by simp) ?_
  rintro r Hn c ⟨g1, g2, rfl, rfl⟩ _
  simp
  refine acall_pure k2 (by simp) ?_
  rintro r Hn c ⟨g3, rfl, rfl⟩ _
  simp
  refine acall_val (c_eqCacheResult 0 0 ⟨s.rev, s.obs⟩ ⟨s.rev, s.obs⟩ b1) (by simp) (by simp) ?_
  simp
  refine codeOk_drawA mixed (by kernel_rfl) ?_
  simp
  refine q_toStore s b1 b2 ?_
  simp
  refine qcall_val (c_eqStore s s b1 b2) (by simp) (by simp) ?_
  simp
  refine acall_refs [2, 3] (c_markStore s 1 g1 g2 b1 b2 (by omega)) (by simp) rfl (by simp [rhoS]) ?_ ?_
  · intro j k B hj hB
    match j with
    | 0 => simp at hj hB; subst hj; subst hB; simp
    | 1 => simp at hj hB; subst hj; subst hB; simp
    | j + 2 => simp at hj
  rintro r Bs Hn c ⟨rfl, ⟨l, m, rfl⟩, X, rfl⟩ _ _
  simp [setL, q1]
  refine acall_val (c_eqCacheResult 0 0 ⟨s.rev, s.obs⟩ ⟨s.rev, s.obs⟩ b1) (by simp) (by simp) ?_
  simp
  refine acall_ref (k := 5) (c_markCacheResult 0 s.rev s.obs 1 g3 b1 (by omega)) (by simp) (by simp) ?_
  rintro r B Hn c ⟨rfl, rfl, rfl⟩ _
  simp
  refine acall_val (c_heldCacheResult 0 s.rev s.obs.length 1 b1 (by omega)) (by simp [ht]) (by simp) ?_
  simp [q2]
  refine a_toStore s b1 b2 ?_
  simp
  refine acall_froze k2 (by simp) fun r Hn h => ⟨.agg [ic 0, ic s.rev, .d (.list s.obs.length (rds s.obs))], by obtain ⟨g0, rfl, rfl⟩ := h; simp, ?_⟩
  simp
  refine acall_val (c_eqCacheResult 0 0 ⟨s.rev, s.obs⟩ ⟨s.rev, s.obs⟩ b1) (by simp) (by simp) ?_
  simp
  refine acall_val (c_heldCacheResult 0 s.rev s.obs.length 1 b1 (by omega)) (by simp [ht]) (by simp) ?_
  simp [q2]
set_option maxRecDepth 100000 in
theorem law_ListStore (s : St) (hs : s.Fits) : FCall Try.prog 8 [s.av] TT := by
  by_cases g : szSt s 1048576 < 0
  · refine fcall_gather [] id fun clk => acall_of_aw Try.func8 rfl ?_
    simp
    refine acall_val (c_szStore s 1048576 hs (by omega) (by omega)) (by simp) (by simp) ?_
    simp [g]
  · by_cases h : stFault s = 0
    · exact law_ListStore1 s hs g h
    · exact law_ListStore0 s hs g h
theorem walk_FnExactListStore {x : AV} (h : OkAV true [.int .i64, .slice [.int .i64, .int .i64, .int .i64, .int .i64, .int .i64, .int .i64, .int .i64], .slice [.int .i64, .bool, .int .i64, .int .i64, .int .i64, .int .i64, .int .i64, .int .i64, .int .i64]] x) : FCall Try.prog 8 [x] TT := by
  obtain ⟨s, rfl, hs⟩ := av_st h; exact law_ListStore s hs
end Go.Proofs.Ytplnbdjonnfcbaa
