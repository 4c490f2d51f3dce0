/-
  The law of ApplyWrite.
-/
import Derived.Test.YtckcdpocmmlniaaGreatDoorU9
namespace Go.Proofs.YtckcdpocmmlniaaGreatDoor
set_option maxRecDepth 100000
set_option linter.unusedSimpArgs false
set_option linter.unusedVariables false
set_option linter.unnecessarySimpa false
open Go Go.Abs Go.Proofs
theorem putL_len (o : Ob) : ∀ (l : List Ob) (d : Bool), (putL o d l).length ≤ l.length + (if d then 0 else 1)
  | [], d => by cases d <;> simp [putL]
  | a :: l, d => by
    unfold putL
    have h1 := putL_len o l d
    have h2 := putL_len o l true
    split
    · simp; omega
    · split
      · rename_i h; simp [h.1] at *; omega
      · simp; omega
theorem turnOb_len (gone : Bool) (o : Ob) (l : List Ob) : (turnOb gone o l).length ≤ l.length + 1 := by
  have := putL_len o l gone
  unfold turnOb; split at this <;> omega
theorem c_ApplyWriteS (s : St) (w : Wr) (h1 : s.obs.length ≤ 1048576) (h2 : s.hist.length ≤ 1048576) : FCall Tryz.prog 14 [s.av, w.av] fun r H => snapV H r = some (srAv (chkW s w) (apS s w)) := by
  unfold apS
  by_cases h : chkW s w = 0
  · rw [if_pos h, h]
    refine fcall_mono (c_ApplyWrite1 s w h) ?_
    rintro r H ⟨g1, g2, rfl, rfl⟩
    simp
  · rw [if_neg h]
    refine fcall_mono (c_ApplyWrite0 s w h1 h2 h) ?_
    rintro r H ⟨rfl, rfl⟩
    simp [st0]
set_option maxRecDepth 100000 in
set_option maxHeartbeats 2000000 in
theorem law_ApplyWrite1 (s : St) (w : Wr) (hs : s.Fits) (g : ¬ szSt s 1048576 < 0) (h : chkW s w = 0) : FCall Tryz.prog 8 [s.av, w.av] TT := by
  have w0 : IntKind.i64.wrap 1048576 = 1048576 := rfl
  obtain ⟨b1, b2, b3, b4⟩ := szSt_le g (by omega)
  have k1 := c_sApplyWrite s w
  have k2 := c_ApplyWrite1 s w h
  have k3 := c_ApplyWriteS s w b1 b2
  have e0 : apS s w = nxSt s w := if_pos h
  rw [h, e0] at k1 k3
  obtain ⟨hst, _, _⟩ := chkW_ok h
  obtain ⟨_, l1, l2, _, hr, _⟩ := stFault_all hst
  have n1 : (nxSt s w).obs.length ≤ 1048576 := by have := turnOb_len (w.op == 2) (nxOb s w) s.obs; show (turnOb (w.op == 2) (nxOb s w) s.obs).length ≤ _; omega
  have n2 : (nxSt s w).hist.length ≤ 1048576 := by have := addCh_len s.hist (nxCh s w) b2; show (addCh s.hist (nxCh s w)).length ≤ _; omega
  generalize nxSt s w = N at *
  have ht1 : List.take N.obs.length (obMarks 1 N.obs.length) = obMarks 1 N.obs.length := List.take_of_length_le (by simp)
  have ht2 : List.take N.hist.length (chMarks (1 + 7 * N.obs.length) N.hist.length) = chMarks (1 + 7 * N.obs.length) N.hist.length := List.take_of_length_le (by simp)
  have q1 : ¬ (1 : Int) + 7 * s.obs.length + 9 * s.hist.length < 0 := by omega
  have q2 : ¬ (1 : Int) + 7 * N.obs.length + 9 * N.hist.length < 0 := by omega
  refine fcall_gather [] id fun clk => acall_of_aw Tryz.func8 rfl ?_
  simp
  refine acall_val (c_szStore s 1048576 hs (by omega) (by omega)) (by simp) (by simp) ?_
  simp [g]
  refine codeOk_drawA mixed (by kernel_rfl) ?_
  simp
  refine q_toStore s b1 b2 ?_
  simp
  refine qcall_val (c_toWrite w) (by simp) (by simp) ?_
  simp
  refine qcall _ k1 (by simp) (fun r Hn h => h) ?_
  simp
  refine acall_pure (c_toStore s b1 b2) (by simp) ?_
  rintro r Hn c ⟨g1, g2, rfl, rfl⟩ _
  simp
  refine codeOk_draw2 [(.n, 0), (.n, 1), (.q, 2)] 3 4 [(.n, 4), (.n, 5)] [(.n, 3), (.n, 5)] mixed rfl rfl rfl (by kernel_rfl) ?_
  simp
  refine qcall_val (c_toWrite w) (by simp) (by simp) ?_
  simp
  constructor
  · refine acall_pure k2 (by simp) ?_
    rintro r Hn c2 ⟨g3, g4, rfl, rfl⟩ _
    simp
    refine acall_val (c_eqStoreResult 0 0 N N n1 n2) (by simp) (by simp) ?_
    simp
    refine codeOk_drawA mixed (by kernel_rfl) ?_
    simp
    refine q_toStore s b1 b2 ?_
    simp
    refine qcall_val (c_eqStore s s b1 b2) (by simp) (by simp) ?_
    simp
    refine acall_refs [3, 4] (c_markStore s 1 g1 g2 b1 b2 (by omega)) (by simp) rfl (by simp [rhoS]) ?_ ?_
    · intro j k B hj hB
      match j with
      | 0 => simp at hj hB; subst hj; subst hB; simp
      | 1 => simp at hj hB; subst hj; subst hB; simp
      | j + 2 => simp at hj
    rintro r Bs Hn c3 ⟨rfl, ⟨l, m, rfl⟩, X, rfl⟩ _ _
    simp [setL, q1]
    refine acall_val (c_eqStoreResult 0 0 N N n1 n2) (by simp) (by simp) ?_
    simp
    refine acall_refs [6, 7] (c_markStoreResult 0 N.rev N.obs N.hist 1 g3 g4 n1 n2 (by omega)) (by simp) rfl (by simp [rhoS]) ?_ ?_
    · intro j k B hj hB
      match j with
      | 0 => simp at hj hB; subst hj; subst hB; simp
      | 1 => simp at hj hB; subst hj; subst hB; simp
      | j + 2 => simp at hj
    rintro r Bs Hn c4 ⟨rfl, rfl, X2, Y2, rfl⟩ _ _
    simp [setL]
    refine acall_val (c_heldStoreResult 0 N.rev N.obs.length N.hist.length 1 n1 n2 (by omega)) (by simp [ht1, ht2]) (by simp) ?_
    simp [q2]
    refine codeOk_drawA mixed (by kernel_rfl) ?_
    simp
    refine q_toStore s b1 b2 ?_
    simp
    refine qcall_val (c_toWrite w) (by simp) (by simp) ?_
    simp
    refine qcall _ k3 (by simp) (fun r Hn h => h) ?_
    simp
    refine acall_val (c_eqStoreResult 0 0 N N n1 n2) (by simp) (by simp) ?_
    simp
    refine acall_val (c_heldStoreResult 0 N.rev N.obs.length N.hist.length 1 n1 n2 (by omega)) (by simp [ht1, ht2]) (by simp) ?_
    simp [q2]
  · refine acall_pure k2 (by simp) ?_
    rintro r Hn c2 ⟨g3, g4, rfl, rfl⟩ _
    simp
    refine acall_val (c_eqStoreResult 0 0 N N n1 n2) (by simp) (by simp) ?_
    simp
    refine codeOk_drawA mixed (by kernel_rfl) ?_
    simp
    refine q_toStore s b1 b2 ?_
    simp
    refine qcall_val (c_eqStore s s b1 b2) (by simp) (by simp) ?_
    simp
    refine acall_refs [3, 4] (c_markStore s 1 g1 g2 b1 b2 (by omega)) (by simp) rfl (by simp [rhoS]) ?_ ?_
    · intro j k B hj hB
      match j with
      | 0 => simp at hj hB; subst hj; subst hB; simp
      | 1 => simp at hj hB; subst hj; subst hB; simp
      | j + 2 => simp at hj
    rintro r Bs Hn c3 ⟨rfl, ⟨l, m, rfl⟩, X, rfl⟩ _ _
    simp [setL, q1]
    refine acall_val (c_eqStoreResult 0 0 N N n1 n2) (by simp) (by simp) ?_
    simp
    refine acall_refs [7, 8] (c_markStoreResult 0 N.rev N.obs N.hist 1 g3 g4 n1 n2 (by omega)) (by simp) rfl (by simp [rhoS]) ?_ ?_
    · intro j k B hj hB
      match j with
      | 0 => simp at hj hB; subst hj; subst hB; simp
      | 1 => simp at hj hB; subst hj; subst hB; simp
      | j + 2 => simp at hj
    rintro r Bs Hn c4 ⟨rfl, rfl, X2, Y2, rfl⟩ _ _
    simp [setL]
    refine acall_val (c_heldStoreResult 0 N.rev N.obs.length N.hist.length 1 n1 n2 (by omega)) (by simp [ht1, ht2]) (by simp) ?_
    simp [q2]
    refine codeOk_drawA mixed (by kernel_rfl) ?_
    simp
    refine q_toStore s b1 b2 ?_
    simp
    refine qcall_val (c_toWrite w) (by simp) (by simp) ?_
    simp
    refine qcall _ k3 (by simp) (fun r Hn h => h) ?_
    simp
    refine acall_val (c_eqStoreResult 0 0 N N n1 n2) (by simp) (by simp) ?_
    simp
    refine acall_val (c_heldStoreResult 0 N.rev N.obs.length N.hist.length 1 n1 n2 (by omega)) (by simp [ht1, ht2]) (by simp) ?_
    simp [q2]
set_option maxRecDepth 100000 in
set_option maxHeartbeats 2000000 in
theorem law_ApplyWrite0 (s : St) (w : Wr) (hs : s.Fits) (g : ¬ szSt s 1048576 < 0) (h : chkW s w ≠ 0) : FCall Tryz.prog 8 [s.av, w.av] TT := by
  have w0 : IntKind.i64.wrap 1048576 = 1048576 := rfl
  obtain ⟨b1, b2, b3, b4⟩ := szSt_le g (by omega)
  have k1 := c_sApplyWrite s w
  have k2 := c_ApplyWrite0 s w b1 b2 h
  have k3 := c_ApplyWriteS s w b1 b2
  have e0 : apS s w = st0 := if_neg h
  rw [e0] at k1 k3
  generalize chkW s w = F at *
  clear h e0
  have q1 : ¬ (1 : Int) + 7 * s.obs.length + 9 * s.hist.length < 0 := by omega
  refine fcall_gather [] id fun clk => acall_of_aw Tryz.func8 rfl ?_
  simp
  refine acall_val (c_szStore s 1048576 hs (by omega) (by omega)) (by simp [st0]) (by simp) ?_
  simp [g]
  refine codeOk_drawA mixed (by kernel_rfl) ?_
  simp
  refine q_toStore s b1 b2 ?_
  simp
  refine qcall_val (c_toWrite w) (by simp [st0]) (by simp) ?_
  simp
  refine qcall _ k1 (by simp) (fun r Hn h => h) ?_
  simp
  refine acall_pure (c_toStore s b1 b2) (by simp) ?_
  rintro r Hn c ⟨g1, g2, rfl, rfl⟩ _
  simp
  refine codeOk_draw2 [(.n, 0), (.n, 1), (.q, 2)] 3 4 [(.n, 4), (.n, 5)] [(.n, 3), (.n, 5)] mixed rfl rfl rfl (by kernel_rfl) ?_
  simp
  refine qcall_val (c_toWrite w) (by simp [st0]) (by simp) ?_
  simp
  constructor
  · refine acall_pure k2 (by simp) ?_
    rintro r Hn c2 ⟨rfl, rfl⟩ _
    simp
    refine acall_val (c_eqStoreResult F F st0 st0 (by simp [st0]) (by simp [st0])) (by simp [st0]) (by simp) ?_
    simp
    refine codeOk_drawA mixed (by kernel_rfl) ?_
    simp
    refine q_toStore s b1 b2 ?_
    simp
    refine qcall_val (c_eqStore s s b1 b2) (by simp [st0]) (by simp) ?_
    simp
    refine acall_refs [3, 4] (c_markStore s 1 g1 g2 b1 b2 (by omega)) (by simp) rfl (by simp [rhoS]) ?_ ?_
    · intro j k B hj hB
      match j with
      | 0 => simp at hj hB; subst hj; subst hB; simp
      | 1 => simp at hj hB; subst hj; subst hB; simp
      | j + 2 => simp at hj
    rintro r Bs Hn c3 ⟨rfl, ⟨l, m, rfl⟩, X, rfl⟩ _ _
    simp [setL, q1]
    refine acall_val (c_eqStoreResult F F st0 st0 (by simp [st0]) (by simp [st0])) (by simp [st0]) (by simp) ?_
    simp
    refine acall_val (c_markStoreResultn F 0 1) (by simp [st0]) (by simp) ?_
    simp
    refine acall_val (c_heldStoreResult F 0 0 0 1 (by omega) (by omega) (by omega)) (by simp [obMarks, chMarks, st0]) (by simp) ?_
    simp
    refine codeOk_drawA mixed (by kernel_rfl) ?_
    simp
    refine q_toStore s b1 b2 ?_
    simp
    refine qcall_val (c_toWrite w) (by simp [st0]) (by simp) ?_
    simp
    refine qcall _ k3 (by simp) (fun r Hn h => h) ?_
    simp
    refine acall_val (c_eqStoreResult F F st0 st0 (by simp [st0]) (by simp [st0])) (by simp [st0]) (by simp) ?_
    simp
    refine acall_val (c_heldStoreResult F 0 0 0 1 (by omega) (by omega) (by omega)) (by simp [obMarks, chMarks, st0]) (by simp) ?_
    simp
  · refine acall_pure k2 (by simp) ?_
    rintro r Hn c2 ⟨rfl, rfl⟩ _
    simp
    refine acall_val (c_eqStoreResult F F st0 st0 (by simp [st0]) (by simp [st0])) (by simp [st0]) (by simp) ?_
    simp
    refine codeOk_drawA mixed (by kernel_rfl) ?_
    simp
    refine q_toStore s b1 b2 ?_
    simp
    refine qcall_val (c_eqStore s s b1 b2) (by simp [st0]) (by simp) ?_
    simp
    refine acall_refs [3, 4] (c_markStore s 1 g1 g2 b1 b2 (by omega)) (by simp) rfl (by simp [rhoS]) ?_ ?_
    · intro j k B hj hB
      match j with
      | 0 => simp at hj hB; subst hj; subst hB; simp
      | 1 => simp at hj hB; subst hj; subst hB; simp
      | j + 2 => simp at hj
    rintro r Bs Hn c3 ⟨rfl, ⟨l, m, rfl⟩, X, rfl⟩ _ _
    simp [setL, q1]
    refine acall_val (c_eqStoreResult F F st0 st0 (by simp [st0]) (by simp [st0])) (by simp [st0]) (by simp) ?_
    simp
    refine acall_val (c_markStoreResultn F 0 1) (by simp [st0]) (by simp) ?_
    simp
    refine acall_val (c_heldStoreResult F 0 0 0 1 (by omega) (by omega) (by omega)) (by simp [obMarks, chMarks, st0]) (by simp) ?_
    simp
    refine codeOk_drawA mixed (by kernel_rfl) ?_
    simp
    refine q_toStore s b1 b2 ?_
    simp
    refine qcall_val (c_toWrite w) (by simp [st0]) (by simp) ?_
    simp
    refine qcall _ k3 (by simp) (fun r Hn h => h) ?_
    simp
    refine acall_val (c_eqStoreResult F F st0 st0 (by simp [st0]) (by simp [st0])) (by simp [st0]) (by simp) ?_
    simp
    refine acall_val (c_heldStoreResult F 0 0 0 1 (by omega) (by omega) (by omega)) (by simp [obMarks, chMarks, st0]) (by simp) ?_
    simp
set_option maxRecDepth 100000 in
theorem law_ApplyWrite (s : St) (w : Wr) (hs : s.Fits) : FCall Tryz.prog 8 [s.av, w.av] TT := by
  have w0 : IntKind.i64.wrap 1048576 = 1048576 := rfl
  by_cases g : szSt s 1048576 < 0
  · refine fcall_gather [] id fun clk => acall_of_aw Tryz.func8 rfl ?_
    simp
    refine acall_val (c_szStore s 1048576 hs (by omega) (by omega)) (by simp) (by simp) ?_
    simp [g]
  · by_cases h : chkW s w = 0
    · exact law_ApplyWrite1 s w hs g h
    · exact law_ApplyWrite0 s w hs g h
theorem walk_FnExactApplyWrite {x y : AV} (h : OkAV true [.int .i64, .slice [.int .i64, .int .i64, .int .i64, .int .i64, .int .i64, .int .i64, .int .i64], .slice [.int .i64, .bool, .int .i64, .int .i64, .int .i64, .int .i64, .int .i64, .int .i64, .int .i64]] x) (h1 : OkAV true [.int .i64, .int .i64, .int .i64, .int .i64, .int .i64, .int .i64, .int .i64, .int .i64, .int .i64, .int .i64] y) : FCall Tryz.prog 8 [x, y] TT := by
  obtain ⟨s, rfl, hs⟩ := av_st h; obtain ⟨w, rfl, hw⟩ := av_wr h1; exact law_ApplyWrite s w hs
end Go.Proofs.YtckcdpocmmlniaaGreatDoor
