/-
  The law of writes replayed.
-/
import Derived.Test.YtledabakodggcaaGreatDoorX5
namespace Go.Proofs.YtledabakodggcaaGreatDoor
set_option maxRecDepth 100000
set_option linter.unusedSimpArgs false
set_option linter.unusedVariables false
set_option linter.unnecessarySimpa false
open Go Go.Abs Go.Proofs
def rpN (l : List Wr) : St := if l.length ≤ 300 ∧ (rp l st0).1 = 0 then (rp l st0).2 else st0
theorem rp_ok : ∀ (l : List Wr) (s : St), stFault s = 0 → (rp l s).1 = 0 → stFault (rp l s).2 = 0
  | [], s, hs, _ => hs
  | w :: t, s, hs, h => by
    rw [rp] at h ⊢
    split at h
    · rename_i hk
      rw [if_pos hk]
      exact rp_ok t _ (nxSt_ok hk) h
    · rename_i hk
      exact absurd h hk
theorem rpN_ok (l : List Wr) : stFault (rpN l) = 0 := by
  unfold rpN
  split
  · rename_i h; exact rp_ok l st0 stFault_st0 h.2
  · exact stFault_st0
theorem a_toWriteS (l : List Wr) (hn : l.length ≤ 1048576) {H : AHeap} {c : Nat} {K : AV → AHeap → Nat → Prop} (hK : K (rlist l) H c) : ACall Tryz.prog 8 [rlist l] H c K :=
  acall_froze (c_toWriteS l hn) (by simp) (by rintro r Hn ⟨g, rfl, rfl⟩; exact ⟨rlist l, by simp, hK⟩)
theorem a_sReplayWrites (l : List Wr) {H : AHeap} {c : Nat} {K : AV → AHeap → Nat → Prop} (hK : K (srAv (rpF l) (rpN l)) H c) : ACall Tryz.prog 7 [rlist l] H c K := by
  by_cases h1 : l.length ≤ 300
  · by_cases h2 : (rp l st0).1 = 0
    · have e1 : rpF l = 0 := by unfold rpF; rw [if_pos h1, h2]
      have e2 : rpN l = (rp l st0).2 := if_pos ⟨h1, h2⟩
      rw [e1, e2] at hK
      exact acall_data (d_sReplayWrites l h1 h2) rfl rfl hK
    · have e1 : rpF l = (rp l st0).1 := if_pos h1
      have e2 : rpN l = st0 := if_neg fun h => h2 h.2
      rw [e1, e2] at hK
      exact acall_froze (c_sReplayWritesN l h1 h2) (by simp) (by rintro r Hn ⟨rfl, rfl⟩; exact ⟨_, rfl, hK⟩)
  · have e1 : rpF l = 2 := if_neg h1
    have e2 : rpN l = st0 := if_neg fun h => h1 h.1
    rw [e1, e2] at hK
    exact acall_froze (c_sReplayWritesM l (by omega)) (by simp) (by rintro r Hn ⟨rfl, rfl⟩; exact ⟨_, rfl, hK⟩)
theorem c_ReplayWrites0 (l : List Wr) (h : ¬ (l.length ≤ 300 ∧ l ≠ [] ∧ (rp l st0).1 = 0)) : FCall Tryz.prog 9 [rlist l] fun r H => r = .agg [ic (rpF l), ic 0, .d .nil, .d .nil] ∧ H = [] := by
  by_cases h1 : l.length ≤ 300
  · have e1 : rpF l = (rp l st0).1 := if_pos h1
    rw [e1]
    refine c_ReplayWritesN l h1 ?_
    by_cases h0 : l = []
    · exact .inl h0
    · exact .inr fun h2 => h ⟨h1, h0, h2⟩
  · have e1 : rpF l = 2 := if_neg h1
    rw [e1]
    exact c_ReplayWritesM l (by omega)
set_option maxRecDepth 100000 in
set_option maxHeartbeats 2000000 in
theorem law_ReplayWrites1 (l : List Wr) (hl : l.length ≤ 9223372036854775807) (g : (l.length : Int) ≤ 1048576) (h : l.length ≤ 300 ∧ l ≠ [] ∧ (rp l st0).1 = 0) : FCall Tryz.prog 3 [rlist l] TT := by
  have k1 := fun H c K => a_sReplayWrites l (H := H) (c := c) (K := K)
  have k2 := c_ReplayWritesY l h.1 h.2.1 h.2.2
  have eF : rpF l = 0 := by unfold rpF; rw [if_pos h.1, h.2.2]
  have eN : rpN l = (rp l st0).2 := if_pos ⟨h.1, h.2.2⟩
  have hN := stFault_ok2 (rpN_ok l)
  rw [← eN] at k2
  rw [eF] at k1
  generalize rpN l = N at *
  obtain ⟨n1', n2'⟩ := hN
  have n1 : N.obs.length ≤ 1048576 := by omega
  have n2 : N.hist.length ≤ 1048576 := by omega
  clear eF eN h
  have hn : l.length ≤ 1048576 := by omega
  have g0 : ¬ (1048576 : Int) - l.length < 0 := by omega
  have q1 : ¬ (1 : Int) + 10 * l.length < 0 := by omega
  have ht1 : List.take N.obs.length (obMarks 1 N.obs.length) = obMarks 1 N.obs.length := List.take_of_length_le (by simp)
  have ht2 : List.take N.hist.length (chMarks (1 + 7 * N.obs.length) N.hist.length) = chMarks (1 + 7 * N.obs.length) N.hist.length := List.take_of_length_le (by simp)
  have q2 : ¬ (1 : Int) + 7 * N.obs.length + 9 * N.hist.length < 0 := by omega
  refine fcall_gather [] id fun clk => acall_of_aw Tryz.func3 rfl ?_
  simp
  refine acall_val (c_szWriteS l 1048576 hl (by omega) (by omega)) (by simp) (by simp) ?_
  rw [if_pos g]
  simp [g0]
  refine a_toWriteS l hn ?_
  simp
  refine k1 _ _ _ ?_
  simp
  refine acall_pure (c_toWriteS l hn) (by simp) ?_
  rintro r Hn c ⟨g1, rfl, rfl⟩ _
  simp
  refine acall_pure k2 (by simp) ?_
  rintro r Hn c2 ⟨g3, g4, rfl, rfl⟩ _
  simp
  refine acall_val (c_eqStoreResult 0 0 N N n1 n2) (by simp) (by simp) ?_
  simp
  refine a_toWriteS l hn ?_
  simp
  refine acall_val (c_eqWriteS l l hn) (by simp) (by simp) ?_
  simp
  refine acall_ref (k := 1) (c_markWriteS l 1 g1 hn (by omega)) (by simp) (by simp) ?_
  rintro r B Hn c3 ⟨rfl, ⟨l', hl', rfl⟩, rfl⟩ _
  simp [q1]
  refine acall_val (c_eqStoreResult 0 0 N N n1 n2) (by simp) (by simp) ?_
  simp
  refine acall_refs [2, 3] (c_markStoreResult 0 N.rev N.obs N.hist 1 g3 g4 n1 n2 (by omega)) (by simp) rfl (by simp [rhoS]) ?_ ?_
  · intro j k B hj hB
    match j with
    | 0 => simp at hj hB; subst hj; subst hB; simp
    | 1 => simp at hj hB; subst hj; subst hB; simp
    | j + 2 => simp at hj
  rintro r Bs Hn c4 ⟨rfl, rfl, X2, Y2, rfl⟩ _ _
  simp [setL]
  refine acall_val (c_heldStoreResult 0 N.rev N.obs.length N.hist.length 1 n1 n2 (by omega)) (by simp [ht1, ht2]) (by simp) ?_
  simp [q2]
  refine a_toWriteS l hn ?_
  simp
  refine acall_froze k2 (by simp) fun r Hn h => ⟨srAv 0 N, by obtain ⟨g5, g6, rfl, rfl⟩ := h; simp, ?_⟩
  simp
  refine acall_val (c_eqStoreResult 0 0 N N n1 n2) (by simp) (by simp) ?_
  simp
  refine acall_val (c_heldStoreResult 0 N.rev N.obs.length N.hist.length 1 n1 n2 (by omega)) (by simp [ht1, ht2]) (by simp) ?_
  simp [q2]
set_option maxRecDepth 100000 in
set_option maxHeartbeats 2000000 in
theorem law_ReplayWrites0 (l : List Wr) (hl : l.length ≤ 9223372036854775807) (g : (l.length : Int) ≤ 1048576) (h : ¬ (l.length ≤ 300 ∧ l ≠ [] ∧ (rp l st0).1 = 0)) : FCall Tryz.prog 3 [rlist l] TT := by
  have k1 := fun H c K => a_sReplayWrites l (H := H) (c := c) (K := K)
  have k2 := c_ReplayWrites0 l h
  have eN : rpN l = st0 := by
    unfold rpN
    split
    · rename_i hh
      by_cases h0 : l = []
      · subst h0; rfl
      · exact absurd ⟨hh.1, h0, hh.2⟩ h
    · rfl
  rw [eN] at k1
  generalize rpF l = F at *
  clear eN h
  have hn : l.length ≤ 1048576 := by omega
  have g0 : ¬ (1048576 : Int) - l.length < 0 := by omega
  have q1 : ¬ (1 : Int) + 10 * l.length < 0 := by omega
  refine fcall_gather [] id fun clk => acall_of_aw Tryz.func3 rfl ?_
  simp
  refine acall_val (c_szWriteS l 1048576 hl (by omega) (by omega)) (by simp) (by simp) ?_
  rw [if_pos g]
  simp [g0]
  refine a_toWriteS l hn ?_
  simp
  refine k1 _ _ _ ?_
  simp
  refine acall_pure (c_toWriteS l hn) (by simp) ?_
  rintro r Hn c ⟨g1, rfl, rfl⟩ _
  simp
  refine acall_pure k2 (by simp) ?_
  rintro r Hn c2 ⟨rfl, rfl⟩ _
  simp [st0]
  refine acall_val (c_eqStoreResult F F st0 st0 (by simp [st0]) (by simp [st0])) (by simp [st0]) (by simp) ?_
  simp
  refine a_toWriteS l hn ?_
  simp
  refine acall_val (c_eqWriteS l l hn) (by simp) (by simp) ?_
  simp
  refine acall_ref (k := 1) (c_markWriteS l 1 g1 hn (by omega)) (by simp) (by simp) ?_
  rintro r B Hn c3 ⟨rfl, ⟨l', hl', rfl⟩, rfl⟩ _
  simp [q1]
  refine acall_val (c_eqStoreResult F F st0 st0 (by simp [st0]) (by simp [st0])) (by simp [st0]) (by simp) ?_
  simp
  refine acall_val (c_markStoreResultn F 0 1) (by simp [st0]) (by simp) ?_
  simp
  refine acall_val (c_heldStoreResult F 0 0 0 1 (by omega) (by omega) (by omega)) (by simp [obMarks, chMarks, st0]) (by simp) ?_
  simp
  refine a_toWriteS l hn ?_
  simp
  refine acall_froze k2 (by simp) fun r Hn h => ⟨srAv F st0, by obtain ⟨rfl, rfl⟩ := h; rfl, ?_⟩
  simp [st0]
  refine acall_val (c_eqStoreResult F F st0 st0 (by simp [st0]) (by simp [st0])) (by simp [st0]) (by simp) ?_
  simp
  refine acall_val (c_heldStoreResult F 0 0 0 1 (by omega) (by omega) (by omega)) (by simp [obMarks, chMarks, st0]) (by simp) ?_
  simp
set_option maxRecDepth 100000 in
theorem law_ReplayWrites (l : List Wr) (hl : l.length ≤ 9223372036854775807) : FCall Tryz.prog 3 [rlist l] TT := by
  by_cases g : (l.length : Int) ≤ 1048576
  · by_cases h : l.length ≤ 300 ∧ l ≠ [] ∧ (rp l st0).1 = 0
    · exact law_ReplayWrites1 l hl g h
    · exact law_ReplayWrites0 l hl g h
  · refine fcall_gather [] id fun clk => acall_of_aw Tryz.func3 rfl ?_
    simp
    refine acall_val (c_szWriteS l 1048576 hl (by omega) (by omega)) (by simp) (by simp) ?_
    simp [g]
theorem av_wrs {x : AV} (h : OkAV false [.slice [.int .i64, .int .i64, .int .i64, .int .i64, .int .i64, .int .i64, .int .i64, .int .i64, .int .i64, .int .i64]] x) : ∃ l : List Wr, x = rlist l ∧ l.length ≤ 9223372036854775807 := by
  obtain ⟨d, hd, rfl⟩ := h
  obtain ⟨_, _, h1, c0, _⟩ := okCs_cons hd
  cases h1
  obtain ⟨os, rfl, ho, hol⟩ := okC_rows (fun ds h => okCs_wr h) c0
  exact ⟨os, rfl, hol⟩
theorem walk_FnExactReplayWrites {x : AV} (h : OkAV false [.slice [.int .i64, .int .i64, .int .i64, .int .i64, .int .i64, .int .i64, .int .i64, .int .i64, .int .i64, .int .i64]] x) : FCall Tryz.prog 3 [x] TT := by
  obtain ⟨l, rfl, hl⟩ := av_wrs h; exact law_ReplayWrites l hl
end Go.Proofs.YtledabakodggcaaGreatDoor
