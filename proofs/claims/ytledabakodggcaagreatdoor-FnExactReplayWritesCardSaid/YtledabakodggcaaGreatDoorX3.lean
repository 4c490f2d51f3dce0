/-
  ReplayWrites of the program.
-/
import Derived.Test.YtledabakodggcaaGreatDoorX1
namespace Go.Proofs.YtledabakodggcaaGreatDoor
set_option maxRecDepth 100000
set_option linter.unusedSimpArgs false
set_option linter.unusedVariables false
set_option linter.unnecessarySimpa false
open Go Go.Abs Go.Proofs
def rp : List Wr → St → Int × St
  | [], s => (0, s)
  | w :: t, s => if chkW s w = 0 then rp t (nxSt s w) else (chkW s w, st0)
def rpF (l : List Wr) : Int := if l.length ≤ 300 then (rp l st0).1 else 2
theorem stFault_st0 : stFault st0 = 0 := by decide
set_option maxRecDepth 100000 in
set_option maxHeartbeats 1000000 in
theorem c_ReplayWritesY (l : List Wr) (hl : l.length ≤ 300) (hne : l ≠ []) (h : (rp l st0).1 = 0) : FCall Tryz.prog 9 [rlist l] fun r H => ∃ g1 g2, r = .agg [ic 0, ic (rp l st0).2.rev, .own 0 g1 0 (rp l st0).2.obs.length, .own 1 g2 0 (rp l st0).2.hist.length] ∧ H = [some ⟨g1, 56, 7, rcs (rp l st0).2.obs⟩, some ⟨g2, 103, 9, rcs (rp l st0).2.hist⟩] := by
  have hl0 : 0 < l.length := List.length_pos_iff.2 hne
  have hq : ¬ (300 : Int) < l.length := by omega
  refine fcall_gather [3, 4] (fun j => j - 3) fun clk => acall_of_aw Tryz.func9 rfl ?_
  simp [hq]
  refine codeOk_loopW [true, false, true, true, false, false, false, false, false, false, false, true, true, true] (fun z => ∃ (i c : Nat) (N : St) (H' : AHeap), i ≤ l.length ∧ stFault N = 0 ∧ rp l st0 = rp (l.drop i) N ∧
      z = ⟨[rlist l, unknown, .one (.ptr 0 clk 0), .one (.ptr 1 (clk + 1) 0)] ++ List.replicate 7 unknown ++ [rlist l, iv .i64 l.length, iv .i64 i] ++ List.replicate 13 unknown,
        some ⟨clk, 29, 4, [ic 0, ic 0, .d .nil, .d .nil]⟩ :: H', c⟩ ∧
      ((i = 0 ∧ N = st0 ∧ H' = [some ⟨clk + 1, 29, 4, [ic 0, ic 0, .d .nil, .d .nil]⟩]) ∨
       (i < l.length ∧ H' = [some ⟨clk + 1, 29, 4, [ic 0, ic N.rev, .d (.list N.obs.length (rds N.obs)), .d (.list N.hist.length (rds N.hist))]⟩]) ∨
       (i = l.length ∧ ∃ g1 g2, H' = [some ⟨clk + 1, 29, 4, [ic 0, ic N.rev, .own 3 g1 0 N.obs.length, .own 4 g2 0 N.hist.length]⟩, none, some ⟨g1, 56, 7, rcs N.obs⟩, some ⟨g2, 103, 9, rcs N.hist⟩])))
    (fun z => match z.tmps.getD 13 unknown with | .one (.d (.s (.int _ i))) => l.length - i.toNat | _ => 0) ?_ ?_
  · refine ⟨[some ⟨clk, 29, 4, [ic 0, ic 0, .d .nil, .d .nil]⟩, some ⟨clk + 1, 29, 4, [ic 0, ic 0, .d .nil, .d .nil]⟩], by simp, ?_⟩
    exact ⟨0, _, st0, _, Nat.zero_le _, stFault_st0, by simp, rfl, .inl ⟨rfl, rfl, rfl⟩⟩
  · rintro z ⟨i, c, N, H', hi, hN, hrp, rfl, hH⟩
    have hlen := stFault_ok2 hN
    rcases hH with ⟨hi0, rfl, rfl⟩ | ⟨hlt, rfl⟩ | ⟨rfl, g1, g2, rfl⟩
    · subst hi0
      have hw := wrap_succ (i := 0) (by omega)
      obtain ⟨w, t, hd, ho, ht1, ht2⟩ := drop_at l (i := 0) hl0
      rw [hd, rp] at hrp
      by_cases hk : chkW st0 w = 0
      · rw [if_pos hk] at hrp
        have hN2 := nxSt_ok hk
        have hd0 : l = w :: t := by simpa using hd
        have hr10 : List.take 10 (rcs l) = [ic w.op, ic w.ob.kind, ic w.ob.id, ic w.ob.a, ic w.ob.b, ic w.ob.c, ic w.ob.d, ic w.ob.rev, ic w.expect, ic w.stamp] := by rw [hd0, rcs_cons]; simp
        have hq10 : 10 ≤ l.length * 10 := by omega
        have hl1 : ¬ l.length = 0 := by omega
        by_cases hend : 0 + 1 < l.length
        · simp [hl0, hr10, hq10]
          have hS := c_ApplyWriteS st0 w (by decide) (by decide)
          rw [hk] at hS
          rw [show apS st0 w = nxSt st0 w by unfold apS; rw [if_pos hk]] at hS
          refine acall_froze hS (by simp [st0]) fun r Hn hr => ⟨_, hr, ?_⟩
          simp [hw]
          refine ⟨[some ⟨clk, 29, 4, [ic 0, ic 0, .d .nil, .d .nil]⟩, some ⟨clk + 1, 29, 4, [ic 0, ic (nxSt st0 w).rev, .d (.list (nxSt st0 w).obs.length (rds (nxSt st0 w).obs)), .d (.list (nxSt st0 w).hist.length (rds (nxSt st0 w).hist))]⟩], ?_, ?_⟩
          · simp only [WkH_cons]
            exact ⟨WkB_refl _, WkB_refl _, WkH_nil _⟩
          · exact ⟨⟨0 + 1, by omega, _, nxSt st0 w, hN2, by rw [hrp, ht1], _, ⟨by simp, rfl, rfl⟩, .inr (.inl ⟨hend, rfl⟩)⟩, by omega⟩
        · simp [hl0, hr10, hq10]
          refine acall_pure (c_ApplyWrite1 st0 w hk) (by simp [st0]) ?_
          rintro r Hn c' ⟨g1, g2, rfl, rfl⟩ _
          simp [hw]
          refine ⟨[some ⟨clk, 29, 4, [ic 0, ic 0, .d .nil, .d .nil]⟩, some ⟨clk + 1, 29, 4, [ic 0, ic (nxSt st0 w).rev, .own 3 g1 0 (nxSt st0 w).obs.length, .own 4 g2 0 (nxSt st0 w).hist.length]⟩, none, some ⟨g1, 56, 7, rcs (nxSt st0 w).obs⟩, some ⟨g2, 103, 9, rcs (nxSt st0 w).hist⟩], ?_, ?_⟩
          · simp only [WkH_cons]
            exact ⟨WkB_refl _, WkB_refl _, trivial, WkB_refl _, WkB_refl _, WkH_nil _⟩
          · exact ⟨⟨0 + 1, by omega, _, nxSt st0 w, hN2, by rw [hrp, ht1], _, ⟨by simp, rfl, rfl⟩, .inr (.inr ⟨by omega, g1, g2, rfl⟩)⟩, by omega⟩
      · rw [if_neg hk] at hrp
        rw [hrp] at h
        exact absurd h hk
    · have hw := wrap_succ (i := i) (by omega)
      obtain ⟨w, t, hd, ho, ht1, ht2⟩ := drop_at l (i := i) hlt
      rw [hd, rp] at hrp
      by_cases hk : chkW N w = 0
      · rw [if_pos hk] at hrp
        have hN2 := nxSt_ok hk
        by_cases hend : i + 1 < l.length
        · simp [hlt, hd]
          have hS := c_ApplyWriteS N w (by omega) (by omega)
          rw [hk] at hS
          rw [show apS N w = nxSt N w by unfold apS; rw [if_pos hk]] at hS
          refine acall_froze hS (by simp) fun r Hn hr => ⟨_, hr, ?_⟩
          simp [hw]
          refine ⟨[some ⟨clk, 29, 4, [ic 0, ic 0, .d .nil, .d .nil]⟩, some ⟨clk + 1, 29, 4, [ic 0, ic (nxSt N w).rev, .d (.list (nxSt N w).obs.length (rds (nxSt N w).obs)), .d (.list (nxSt N w).hist.length (rds (nxSt N w).hist))]⟩], ?_, ?_⟩
          · simp only [WkH_cons]
            exact ⟨WkB_refl _, WkB_refl _, WkH_nil _⟩
          · exact ⟨⟨i + 1, by omega, _, nxSt N w, hN2, by rw [hrp, ht1], _, ⟨by push_cast; rfl, rfl, rfl⟩, .inr (.inl ⟨hend, rfl⟩)⟩, by omega⟩
        · simp [hlt, hd]
          refine acall_pure (c_ApplyWrite1 N w hk) (by simp) ?_
          rintro r Hn c' ⟨g1, g2, rfl, rfl⟩ _
          simp [hw]
          refine ⟨[some ⟨clk, 29, 4, [ic 0, ic 0, .d .nil, .d .nil]⟩, some ⟨clk + 1, 29, 4, [ic 0, ic (nxSt N w).rev, .own 3 g1 0 (nxSt N w).obs.length, .own 4 g2 0 (nxSt N w).hist.length]⟩, none, some ⟨g1, 56, 7, rcs (nxSt N w).obs⟩, some ⟨g2, 103, 9, rcs (nxSt N w).hist⟩], ?_, ?_⟩
          · simp only [WkH_cons]
            exact ⟨WkB_refl _, WkB_refl _, trivial, WkB_refl _, WkB_refl _, WkH_nil _⟩
          · exact ⟨⟨i + 1, by omega, _, nxSt N w, hN2, by rw [hrp, ht1], _, ⟨by push_cast; rfl, rfl, rfl⟩, .inr (.inr ⟨by omega, g1, g2, rfl⟩)⟩, by omega⟩
      · rw [if_neg hk] at hrp
        rw [hrp] at h
        exact absurd h hk
    · have e : rp l st0 = (0, N) := by rw [hrp, List.drop_length]; rfl
      simp
      rw [e]
      exact ⟨g1, g2, ⟨rfl, ⟨rfl, rfl⟩, rfl, rfl⟩, ⟨rfl, rfl⟩, rfl, rfl⟩
set_option maxRecDepth 100000 in
set_option maxHeartbeats 1000000 in
theorem c_ReplayWritesM (l : List Wr) (hl : 300 < l.length) : FCall Tryz.prog 9 [rlist l] fun r H => r = .agg [ic 2, ic 0, .d .nil, .d .nil] ∧ H = [] := by
  have hq : (300 : Int) < l.length := by omega
  refine fcall_gather [] id fun clk => acall_of_aw Tryz.func9 rfl ?_
  simp [hq]
set_option maxRecDepth 100000 in
set_option maxHeartbeats 1000000 in
theorem c_ReplayWritesN (l : List Wr) (hl : l.length ≤ 300) (h : l = [] ∨ (rp l st0).1 ≠ 0) : FCall Tryz.prog 9 [rlist l] fun r H => r = .agg [ic (rp l st0).1, ic 0, .d .nil, .d .nil] ∧ H = [] := by
  have hq : ¬ (300 : Int) < l.length := by omega
  refine fcall_gather [] id fun clk => acall_of_aw Tryz.func9 rfl ?_
  simp [hq]
  refine codeOk_loopW [true, false, true, true, false, false, false, false, false, false, false, true, true, true] (fun z => ∃ (i c : Nat) (N : St) (H' : AHeap), i ≤ l.length ∧ stFault N = 0 ∧ rp l st0 = rp (l.drop i) N ∧
      z = ⟨[rlist l, unknown, .one (.ptr 0 clk 0), .one (.ptr 1 (clk + 1) 0)] ++ List.replicate 7 unknown ++ [rlist l, iv .i64 l.length, iv .i64 i] ++ List.replicate 13 unknown,
        some ⟨clk, 29, 4, [ic 0, ic 0, .d .nil, .d .nil]⟩ :: H', c⟩ ∧
      ((i = 0 ∧ N = st0 ∧ H' = [some ⟨clk + 1, 29, 4, [ic 0, ic 0, .d .nil, .d .nil]⟩]) ∨
       (0 < i ∧ H' = [some ⟨clk + 1, 29, 4, [ic 0, ic N.rev, .d (.list N.obs.length (rds N.obs)), .d (.list N.hist.length (rds N.hist))]⟩])))
    (fun z => match z.tmps.getD 13 unknown with | .one (.d (.s (.int _ i))) => l.length - i.toNat | _ => 0) ?_ ?_
  · refine ⟨[some ⟨clk, 29, 4, [ic 0, ic 0, .d .nil, .d .nil]⟩, some ⟨clk + 1, 29, 4, [ic 0, ic 0, .d .nil, .d .nil]⟩], by simp, ?_⟩
    exact ⟨0, _, st0, _, Nat.zero_le _, stFault_st0, by simp, rfl, .inl ⟨rfl, rfl, rfl⟩⟩
  · rintro z ⟨i, c, N, H', hi, hN, hrp, rfl, hH⟩
    have hlen := stFault_ok2 hN
    rcases hH with ⟨hi0, rfl, rfl⟩ | ⟨hlt0, rfl⟩
    · subst hi0
      by_cases hl0 : 0 < l.length
      · have hw := wrap_succ (i := 0) (by omega)
        obtain ⟨w, t, hd, ho, ht1, ht2⟩ := drop_at l (i := 0) hl0
        rw [hd, rp] at hrp
        have hd0 : l = w :: t := by simpa using hd
        have hr10 : List.take 10 (rcs l) = [ic w.op, ic w.ob.kind, ic w.ob.id, ic w.ob.a, ic w.ob.b, ic w.ob.c, ic w.ob.d, ic w.ob.rev, ic w.expect, ic w.stamp] := by rw [hd0, rcs_cons]; simp
        have hq10 : 10 ≤ l.length * 10 := by omega
        simp [hl0, hr10, hq10]
        by_cases hk : chkW st0 w = 0
        · rw [if_pos hk] at hrp
          have hN2 := nxSt_ok hk
          have hS := c_ApplyWriteS st0 w (by decide) (by decide)
          rw [hk] at hS
          rw [show apS st0 w = nxSt st0 w by unfold apS; rw [if_pos hk]] at hS
          refine acall_froze hS (by simp [st0]) fun r Hn hr => ⟨_, hr, ?_⟩
          simp [hw]
          refine ⟨[some ⟨clk, 29, 4, [ic 0, ic 0, .d .nil, .d .nil]⟩, some ⟨clk + 1, 29, 4, [ic 0, ic (nxSt st0 w).rev, .d (.list (nxSt st0 w).obs.length (rds (nxSt st0 w).obs)), .d (.list (nxSt st0 w).hist.length (rds (nxSt st0 w).hist))]⟩], ?_, ?_⟩
          · simp only [WkH_cons]
            exact ⟨WkB_refl _, WkB_refl _, WkH_nil _⟩
          · exact ⟨⟨0 + 1, by omega, _, nxSt st0 w, hN2, by rw [hrp, ht1], _, ⟨by simp, rfl, rfl⟩, .inr ⟨by omega, rfl⟩⟩, by omega⟩
        · rw [if_neg hk] at hrp
          refine acall_pure (c_ApplyWrite0 st0 w (by decide) (by decide) hk) (by simp [st0]) ?_
          rintro r Hn c' ⟨rfl, rfl⟩ _
          simp [hk, hrp]
      · have e : l = [] := by cases l with
          | nil => rfl
          | cons a t => simp at hl0
        subst e
        simp [rp]
    · by_cases hlt : i < l.length
      · have hw := wrap_succ (i := i) (by omega)
        obtain ⟨w, t, hd, ho, ht1, ht2⟩ := drop_at l (i := i) hlt
        rw [hd, rp] at hrp
        simp [hlt, hd]
        by_cases hk : chkW N w = 0
        · rw [if_pos hk] at hrp
          have hN2 := nxSt_ok hk
          have hS := c_ApplyWriteS N w (by omega) (by omega)
          rw [hk] at hS
          rw [show apS N w = nxSt N w by unfold apS; rw [if_pos hk]] at hS
          refine acall_froze hS (by simp) fun r Hn hr => ⟨_, hr, ?_⟩
          simp [hw]
          refine ⟨[some ⟨clk, 29, 4, [ic 0, ic 0, .d .nil, .d .nil]⟩, some ⟨clk + 1, 29, 4, [ic 0, ic (nxSt N w).rev, .d (.list (nxSt N w).obs.length (rds (nxSt N w).obs)), .d (.list (nxSt N w).hist.length (rds (nxSt N w).hist))]⟩], ?_, ?_⟩
          · simp only [WkH_cons]
            exact ⟨WkB_refl _, WkB_refl _, WkH_nil _⟩
          · exact ⟨⟨i + 1, by omega, _, nxSt N w, hN2, by rw [hrp, ht1], _, ⟨by push_cast; rfl, rfl, rfl⟩, .inr ⟨by omega, rfl⟩⟩, by omega⟩
        · rw [if_neg hk] at hrp
          refine acall_pure (c_ApplyWrite0 N w (by omega) (by omega) hk) (by simp) ?_
          rintro r Hn c' ⟨rfl, rfl⟩ _
          simp [hk, hrp]
      · have e : i = l.length := by omega
        subst e
        rw [List.drop_length] at hrp
        rcases h with rfl | h
        · simp at hlt0
        · rw [hrp] at h
          exact absurd rfl h
end Go.Proofs.YtledabakodggcaaGreatDoor
