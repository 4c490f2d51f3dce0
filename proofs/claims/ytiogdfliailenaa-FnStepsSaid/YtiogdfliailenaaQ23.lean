/-
  ReplayWrites of the model.
-/
import Derived.Test.YtiogdfliailenaaQ22
import Derived.Test.YtiogdfliailenaaK6
import Derived.Test.YtiogdfliailenaaK7
namespace Go.Proofs.Ytiogdfliailenaa
set_option maxRecDepth 100000
set_option linter.unusedSimpArgs false
set_option linter.unusedVariables false
set_option linter.unnecessarySimpa false
open Go Go.Abs Go.Proofs
abbrev stAv (s : St) : AV := .agg [ic s.rev, .d (.list s.obs.length (rds s.obs)), .d (.list s.hist.length (rds s.hist))]
abbrev srAv' (s : St) : AV := .agg [ic 0, ic s.rev, .d (.list s.obs.length (rds s.obs)), .d (.list s.hist.length (rds s.hist))]
theorem chkW_l3 {s : St} {w : Wr} (hs : stFault s = 0) : chkW s w = if wrFault w ≠ 0 then wrFault w else (refuse s w).code := by
  unfold chkW
  rw [if_neg (by simp [hs])]
theorem c_l3ApplyS (s : St) (w : Wr) (x : List DC) (h : chkW s w = 0) : FCall Try.prog 79 [stPtr s, wPtr w x] fun r H => snapV H r = some (stAv (nxSt s w)) := by
  obtain ⟨hs, hw, hc⟩ := chkW_ok h
  obtain ⟨hrev, l1, l2, _, hr, _⟩ := stFault_all hs
  refine fcall_mono (c_l3Apply s w x hrev l1 l2) ?_
  rintro r H ⟨g1, g2, off, cells, rfl, rfl, h1, h2, h3⟩
  generalize nxSt s w = N at *
  have e1 : (rcs cells).drop off = rcs N.hist := by rw [h1, rcs_drop9, h2]
  have e2 : off + N.hist.length * 9 ≤ cells.length * 9 := by rw [h1, ← Nat.add_mul]; exact Nat.mul_le_mul_right 9 (by omega)
  simp [e1, e2]
set_option maxRecDepth 100000 in
set_option maxHeartbeats 1000000 in
theorem c_sReplayWritesM (l : List Wr) (hl : 300 < l.length) : FCall Try.prog 95 [rlist l] fun r H => r = .agg [ic 2, ic 0, .d .nil, .d .nil] ∧ H = [] := by
  have hq : (300 : Int) < l.length := by omega
  refine fcall_gather [] id fun clk => acall_of_aw Try.func95 rfl ?_
  simp [hq]
/-- What holds ahead of each round. -/
def RpI (l : List Wr) (clk : Nat) (z : ASt) : Prop := ∃ (i c : Nat) (N : St) (H' : AHeap), i ≤ l.length ∧ stFault N = 0 ∧ rp l st0 = rp (l.drop i) N ∧
      z = ⟨[rlist l, unknown, .one (.ptr 0 clk 0), .one (.ptr 1 (clk + 1) 0), iv .i64 i] ++ List.replicate 26 unknown,
        some ⟨clk, 127, 4, [ic 0, ic 0, .d (.list 0 []), .d (.list 0 [])]⟩ :: H', c⟩ ∧
      H' = [some ⟨clk + 1, 103, 3, [ic N.rev, .d (.list N.obs.length (rds N.obs)), .d (.list N.hist.length (rds N.hist))]⟩]
abbrev rpMask : List Bool := [true, false, true, true, true]
def rpMu (l : List Wr) (z : ASt) : Nat := match z.tmps.getD 4 unknown with | .one (.d (.s (.int _ i))) => l.length - i.toNat | _ => 0
theorem rpI_next {l : List Wr} {clk i c : Nat} {w : Wr} {N : St} {t : List Wr} (hi : i < l.length) (hk : chkW N w = 0) (hrp : rp l st0 = rp (w :: t) N) (ht : l.drop (i + 1) = t) :
    RpI l clk ⟨[rlist l, unknown, .one (.ptr 0 clk 0), .one (.ptr 1 (clk + 1) 0), iv .i64 ((i + 1 : Nat) : Int)] ++ List.replicate 26 unknown,
        [some ⟨clk, 127, 4, [ic 0, ic 0, .d (.list 0 []), .d (.list 0 [])]⟩, some ⟨clk + 1, 103, 3, [ic (nxSt N w).rev, .d (.list (nxSt N w).obs.length (rds (nxSt N w).obs)), .d (.list (nxSt N w).hist.length (rds (nxSt N w).hist))]⟩], c⟩ := by
  rw [rp, if_pos hk] at hrp
  exact ⟨i + 1, c, nxSt N w, _, hi, nxSt_ok hk, by rw [hrp, ht], rfl, rfl⟩
set_option maxRecDepth 100000 in
set_option maxHeartbeats 1000000 in
theorem c_sReplayWritesN (l : List Wr) (hl : l.length ≤ 300) (h : (rp l st0).1 ≠ 0) : FCall Try.prog 95 [rlist l] fun r H => r = .agg [ic (rp l st0).1, ic 0, .d .nil, .d .nil] ∧ H = [] := by
  have hq : ¬ (300 : Int) < l.length := by omega
  refine fcall_gather [] id fun clk => acall_of_aw Try.func95 rfl ?_
  simp [hq]
  refine codeOk_nil0 ?_
  simp [nilB, nil0]
  refine codeOk_loopW rpMask (RpI l clk) (rpMu l) ?_ ?_
  · refine ⟨[some ⟨clk, 127, 4, [ic 0, ic 0, .d (.list 0 []), .d (.list 0 [])]⟩, some ⟨clk + 1, 103, 3, [ic 0, .d (.list 0 []), .d (.list 0 [])]⟩], by simp, ?_⟩
    exact ⟨0, _, st0, _, Nat.zero_le _, stFault_st0, by simp, rfl, rfl⟩
  · rintro z ⟨i, c, N, H', hi, hN, hrp, rfl, rfl⟩
    by_cases hlt : i < l.length
    · have hw := wrap_succ (i := i) (by omega)
      obtain ⟨w, t, hd, ho, ht1, ht2⟩ := drop_at l (i := i) hlt
      rw [hd] at hrp
      have hC := c_l3Check N w (rds t) hN
      rw [← chkW_l3 hN] at hC
      have hno : chkW N w ≠ 0 → (rp l st0).1 = chkW N w := fun hk => by rw [hrp, rp, if_neg hk]
      simp [hlt, hd]
      refine acall_val hC (by simp [AC.dc?]) (by simp) ?_
      by_cases hk : chkW N w = 0
      · have hA := c_l3ApplyS N w (rds t) hk
        have hnx := fun c => rpI_next (clk := clk) (c := c) hlt hk hrp ht1
        simp [hk, hlt, hd]
        refine acall_froze hA (by simp [AC.dc?]) fun r Hn hr => ⟨_, hr, ?_⟩
        simp
        rw [hw]
        exact ⟨_, WkH.refl _, hnx _, by simp [rpMu]; omega⟩
      · simp [hk, hno hk]
    · have e : i = l.length := by omega
      subst e
      rw [List.drop_length, rp] at hrp
      rw [hrp] at h; exact absurd rfl h
set_option maxRecDepth 100000 in
set_option maxHeartbeats 1000000 in
theorem d_sReplayWrites (l : List Wr) (hl : l.length ≤ 300) (h : (rp l st0).1 = 0) : DCall Try.prog 95 [rlist l] (srAv' (rp l st0).2) := by
  have hq : ¬ (300 : Int) < l.length := by omega
  intro clk
  refine acall_of_aw Try.func95 rfl ?_
  simp [hq]
  refine codeOk_nil0 ?_
  simp [nilB, nil0]
  refine codeOk_loopW rpMask (RpI l clk) (rpMu l) ?_ ?_
  · refine ⟨[some ⟨clk, 127, 4, [ic 0, ic 0, .d (.list 0 []), .d (.list 0 [])]⟩, some ⟨clk + 1, 103, 3, [ic 0, .d (.list 0 []), .d (.list 0 [])]⟩], by simp, ?_⟩
    exact ⟨0, _, st0, _, Nat.zero_le _, stFault_st0, by simp, rfl, rfl⟩
  · rintro z ⟨i, c, N, H', hi, hN, hrp, rfl, rfl⟩
    by_cases hlt : i < l.length
    · have hw := wrap_succ (i := i) (by omega)
      obtain ⟨w, t, hd, ho, ht1, ht2⟩ := drop_at l (i := i) hlt
      rw [hd] at hrp
      have hC := c_l3Check N w (rds t) hN
      rw [← chkW_l3 hN] at hC
      have hk : chkW N w = 0 := by
        rw [hrp, rp] at h
        split at h
        · rename_i g; exact g
        · exact h
      simp [hlt, hd]
      refine acall_val hC (by simp [AC.dc?]) (by simp) ?_
      have hA := c_l3ApplyS N w (rds t) hk
      have hnx := fun c => rpI_next (clk := clk) (c := c) hlt hk hrp ht1
      simp [hk, hlt, hd]
      refine acall_froze hA (by simp [AC.dc?]) fun r Hn hr => ⟨_, hr, ?_⟩
      simp
      rw [hw]
      exact ⟨_, WkH.refl _, hnx _, by simp [rpMu]; omega⟩
    · have e : i = l.length := by omega
      subst e
      rw [List.drop_length, rp] at hrp
      have hN2 : (rp l st0).2 = N := by rw [hrp]
      rw [hN2]
      simp
end Go.Proofs.Ytiogdfliailenaa
