/-
  ReplayWrites of the model.
-/
import Derived.Test.YtledabakodggcaaGreatDoorX3
import Derived.Test.YtledabakodggcaaGreatDoorK6
namespace Go.Proofs.YtledabakodggcaaGreatDoor
set_option maxRecDepth 100000
set_option linter.unusedSimpArgs false
set_option linter.unusedVariables false
set_option linter.unnecessarySimpa false
open Go Go.Abs Go.Proofs
/-- The nil slice read as a slice of nothing. -/
def nil0 : AC → AC
  | .d .nil => .d (.list 0 [])
  | c => c
theorem nil0_rel {w : World} {E : Env} {c : AC} {v : Value} (h : RelC w E c v) : RelC w E (nil0 c) v := by
  cases c with
  | d c =>
    cases c with
    | nil =>
      have h1 : RelD w E.I .nil v := h
      cases h1
      exact RelD.list (fun _ => undef) (fun h => absurd rfl h) (fun j h => absurd h (by simp)) (Nat.le_refl _) (Nat.zero_le _)
    | _ => exact h
  | _ => exact h
def nilB (B : ABlk) : ABlk := { B with cells := B.cells.map nil0 }
theorem codeOk_nil0 {P : Program} {c : Code} {Q : Exit → ASt → Prop} {T : List AV} {H : AHeap} {clk : Nat} (h : CodeOk P c Q ⟨T, H.map (Option.map nilB), clk⟩) : CodeOk P c Q ⟨T, H, clk⟩ := by
  have old : ∀ {k : Nat} {B' : ABlk}, (H.map (Option.map nilB))[k]? = some (some B') → ∃ B, H[k]? = some (some B) ∧ B' = nilB B := by
    intro k B' hB
    rw [List.getElem?_map] at hB
    cases hk : H[k]? with
    | none => simp [hk] at hB
    | some b =>
      cases b with
      | none => simp [hk] at hB
      | some B => simp [hk] at hB; exact ⟨B, rfl, hB.symm⟩
  intro ro n hr w0 E0 H0 a w ⟨E, hE⟩
  have hs : SimH w E H := hE.sim
  refine h ro n hr w0 E0 H0 a w ⟨E, hE.dfr, hE.le, hE.clk, ⟨by simp [hs.len], hs.gens, hs.I, ?_, ?_, hs.glob⟩, hE.rel, hE.frm, ?_, hE.I0⟩
  · intro k B' hB'
    obtain ⟨B, hB, rfl⟩ := old hB'
    obtain ⟨i, hi, h1, h2, h3, h4, h5⟩ := hs.blk k B hB
    refine ⟨i, hi, h1, h2, h3, h4, ?_⟩
    cases hb : i.blk with
    | none =>
      rw [hb] at h5
      exact ⟨by simp [nilB, h5.1], h5.2⟩
    | some b =>
      rw [hb] at h5
      obtain ⟨hn, ⟨C, hC, hCl, hBl, hrel⟩ | ⟨hz0, es, cc, hcs, hm⟩⟩ := h5
      rotate_left
      · exact ⟨hn, .inr ⟨hz0, es, cc, by simp [nilB, hcs, nil0], hm⟩⟩
      refine ⟨hn, .inl ⟨C, hC, hCl, by simpa [nilB] using hBl, by simpa [nilB] using hrel.1, fun j c v hj hv => ?_⟩⟩
      simp only [nilB, List.getElem?_map, List.length_map] at hj hv
      cases hc : B.cells[j]? with
      | none => simp [hc] at hj
      | some c0 =>
        simp [hc] at hj; subst hj
        obtain ⟨g1, g2⟩ := hrel.2 j c0 v hc hv
        exact ⟨g1, nil0_rel g2⟩
  · intro k k' B B' i i' b hB hB' hi hi' hb hb'
    obtain ⟨B1, hB1, _⟩ := old hB
    obtain ⟨B2, hB2, _⟩ := old hB'
    exact hs.apart k k' B1 B2 i i' b hB1 hB2 hi hi' hb hb'
  · rintro b ⟨k, B, i, hB, hi, hb⟩
    obtain ⟨B1, hB1, _⟩ := old hB
    exact hE.live b ⟨k, B1, i, hB1, hi, hb⟩
abbrev stAv (s : St) : AV := .agg [ic s.rev, .d (.list s.obs.length (rds s.obs)), .d (.list s.hist.length (rds s.hist))]
abbrev srAv' (s : St) : AV := .agg [ic 0, ic s.rev, .d (.list s.obs.length (rds s.obs)), .d (.list s.hist.length (rds s.hist))]
theorem chkW_l3 {s : St} {w : Wr} (hs : stFault s = 0) : chkW s w = if wrFault w ≠ 0 then wrFault w else (refuse s w).code := by
  unfold chkW
  rw [if_neg (by simp [hs])]
theorem c_l3ApplyS (s : St) (w : Wr) (x : List DC) (h : chkW s w = 0) : FCall Tryz.prog 30 [stPtr s, wPtr w x] fun r H => snapV H r = some (stAv (nxSt s w)) := by
  obtain ⟨hs, hw, hc⟩ := chkW_ok h
  obtain ⟨hrev, l1, l2, _, hr, _⟩ := stFault_all hs
  refine fcall_mono (c_l3Apply s w x hrev l1 l2) ?_
  rintro r H ⟨g1, g2, off, cells, rfl, rfl, h1, h2, h3⟩
  generalize nxSt s w = N at *
  have e1 : (rcs cells).drop off = rcs N.hist := by rw [h1, rcs_drop9, h2]
  have e2 : off + N.hist.length * 9 ≤ cells.length * 9 := by rw [h1, ← Nat.add_mul]; exact Nat.mul_le_mul_right 9 (by omega)
  simp [e1, e2]
set_option maxRecDepth 100000 in
set_option maxHeartbeats 1000000 in
theorem c_sReplayWritesM (l : List Wr) (hl : 300 < l.length) : FCall Tryz.prog 7 [rlist l] fun r H => r = .agg [ic 2, ic 0, .d .nil, .d .nil] ∧ H = [] := by
  have hq : (300 : Int) < l.length := by omega
  refine fcall_gather [] id fun clk => acall_of_aw Tryz.func7 rfl ?_
  simp [hq]
/-- What holds ahead of each round. -/
def RpI (l : List Wr) (clk : Nat) (z : ASt) : Prop := ∃ (i c : Nat) (N : St) (H' : AHeap), i ≤ l.length ∧ stFault N = 0 ∧ rp l st0 = rp (l.drop i) N ∧
      z = ⟨[rlist l, unknown, .one (.ptr 0 clk 0), .one (.ptr 1 (clk + 1) 0), iv .i64 i] ++ List.replicate 26 unknown,
        some ⟨clk, 29, 4, [ic 0, ic 0, .d (.list 0 []), .d (.list 0 [])]⟩ :: H', c⟩ ∧
      H' = [some ⟨clk + 1, 27, 3, [ic N.rev, .d (.list N.obs.length (rds N.obs)), .d (.list N.hist.length (rds N.hist))]⟩]
abbrev rpMask : List Bool := [true, false, true, true, true]
def rpMu (l : List Wr) (z : ASt) : Nat := match z.tmps.getD 4 unknown with | .one (.d (.s (.int _ i))) => l.length - i.toNat | _ => 0
theorem rpI_next {l : List Wr} {clk i c : Nat} {w : Wr} {N : St} {t : List Wr} (hi : i < l.length) (hk : chkW N w = 0) (hrp : rp l st0 = rp (w :: t) N) (ht : l.drop (i + 1) = t) :
    RpI l clk ⟨[rlist l, unknown, .one (.ptr 0 clk 0), .one (.ptr 1 (clk + 1) 0), iv .i64 ((i + 1 : Nat) : Int)] ++ List.replicate 26 unknown,
        [some ⟨clk, 29, 4, [ic 0, ic 0, .d (.list 0 []), .d (.list 0 [])]⟩, some ⟨clk + 1, 27, 3, [ic (nxSt N w).rev, .d (.list (nxSt N w).obs.length (rds (nxSt N w).obs)), .d (.list (nxSt N w).hist.length (rds (nxSt N w).hist))]⟩], c⟩ := by
  rw [rp, if_pos hk] at hrp
  exact ⟨i + 1, c, nxSt N w, _, hi, nxSt_ok hk, by rw [hrp, ht], rfl, rfl⟩
set_option maxRecDepth 100000 in
set_option maxHeartbeats 1000000 in
theorem c_sReplayWritesN (l : List Wr) (hl : l.length ≤ 300) (h : (rp l st0).1 ≠ 0) : FCall Tryz.prog 7 [rlist l] fun r H => r = .agg [ic (rp l st0).1, ic 0, .d .nil, .d .nil] ∧ H = [] := by
  have hq : ¬ (300 : Int) < l.length := by omega
  refine fcall_gather [] id fun clk => acall_of_aw Tryz.func7 rfl ?_
  simp [hq]
  refine codeOk_nil0 ?_
  simp [nilB, nil0]
  refine codeOk_loopW rpMask (RpI l clk) (rpMu l) ?_ ?_
  · refine ⟨[some ⟨clk, 29, 4, [ic 0, ic 0, .d (.list 0 []), .d (.list 0 [])]⟩, some ⟨clk + 1, 27, 3, [ic 0, .d (.list 0 []), .d (.list 0 [])]⟩], by simp, ?_⟩
    exact ⟨0, _, st0, _, Nat.zero_le _, stFault_st0, by simp, rfl, rfl⟩
  · rintro z ⟨i, c, N, H', hi, hN, hrp, rfl, rfl⟩
    by_cases hlt : i < l.length
    · have hw := wrap_succ (i := i) (by omega)
      obtain ⟨w, t, hd, ho, ht1, ht2⟩ := drop_at l (i := i) hlt
      rw [hd] at hrp
      have hC := c_l3Check N w (rds t) hN
      rw [← chkW_l3 hN] at hC
      have hno : chkW N w ≠ 0 → (rp l st0).1 = chkW N w := fun hk => by rw [hrp, rp, if_neg hk]
      simp [hlt, hd]
      refine acall_val hC (by simp [AC.dc?]) (by simp) ?_
      by_cases hk : chkW N w = 0
      · have hA := c_l3ApplyS N w (rds t) hk
        have hnx := fun c => rpI_next (clk := clk) (c := c) hlt hk hrp ht1
        simp [hk, hlt, hd]
        refine acall_froze hA (by simp [AC.dc?]) fun r Hn hr => ⟨_, hr, ?_⟩
        simp
        rw [hw]
        exact ⟨_, WkH.refl _, hnx _, by simp [rpMu]; omega⟩
      · simp [hk, hno hk]
    · have e : i = l.length := by omega
      subst e
      rw [List.drop_length, rp] at hrp
      rw [hrp] at h; exact absurd rfl h
set_option maxRecDepth 100000 in
set_option maxHeartbeats 1000000 in
theorem d_sReplayWrites (l : List Wr) (hl : l.length ≤ 300) (h : (rp l st0).1 = 0) : DCall Tryz.prog 7 [rlist l] (srAv' (rp l st0).2) := by
  have hq : ¬ (300 : Int) < l.length := by omega
  intro clk
  refine acall_of_aw Tryz.func7 rfl ?_
  simp [hq]
  refine codeOk_nil0 ?_
  simp [nilB, nil0]
  refine codeOk_loopW rpMask (RpI l clk) (rpMu l) ?_ ?_
  · refine ⟨[some ⟨clk, 29, 4, [ic 0, ic 0, .d (.list 0 []), .d (.list 0 [])]⟩, some ⟨clk + 1, 27, 3, [ic 0, .d (.list 0 []), .d (.list 0 [])]⟩], by simp, ?_⟩
    exact ⟨0, _, st0, _, Nat.zero_le _, stFault_st0, by simp, rfl, rfl⟩
  · rintro z ⟨i, c, N, H', hi, hN, hrp, rfl, rfl⟩
    by_cases hlt : i < l.length
    · have hw := wrap_succ (i := i) (by omega)
      obtain ⟨w, t, hd, ho, ht1, ht2⟩ := drop_at l (i := i) hlt
      rw [hd] at hrp
      have hC := c_l3Check N w (rds t) hN
      rw [← chkW_l3 hN] at hC
      have hk : chkW N w = 0 := by
        rw [hrp, rp] at h
        split at h
        · rename_i g; exact g
        · exact h
      simp [hlt, hd]
      refine acall_val hC (by simp [AC.dc?]) (by simp) ?_
      have hA := c_l3ApplyS N w (rds t) hk
      have hnx := fun c => rpI_next (clk := clk) (c := c) hlt hk hrp ht1
      simp [hk, hlt, hd]
      refine acall_froze hA (by simp [AC.dc?]) fun r Hn hr => ⟨_, hr, ?_⟩
      simp
      rw [hw]
      exact ⟨_, WkH.refl _, hnx _, by simp [rpMu]; omega⟩
    · have e : i = l.length := by omega
      subst e
      rw [List.drop_length, rp] at hrp
      have hN2 : (rp l st0).2 = N := by rw [hrp]
      rw [hN2]
      simp
end Go.Proofs.YtledabakodggcaaGreatDoor
