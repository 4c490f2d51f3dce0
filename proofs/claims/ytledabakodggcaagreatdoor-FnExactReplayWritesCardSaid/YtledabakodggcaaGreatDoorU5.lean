/-
  ApplyWrite of the program.
-/
import Derived.Test.YtledabakodggcaaGreatDoorU4
namespace Go.Proofs.YtledabakodggcaaGreatDoor
set_option maxRecDepth 100000
set_option linter.unusedSimpArgs false
set_option linter.unusedVariables false
set_option linter.unnecessarySimpa false
open Go Go.Abs Go.Proofs
set_option maxRecDepth 100000 in
theorem c_cloneCh1 (a : Ch) (t : List Ch) (ht : (a :: t).length ≤ 1048576) : FCall Tryz.prog 94 [rlist (a :: t)] fun r H => ∃ g, r = .one (.own 0 g 0 (a :: t).length) ∧ H = [some ⟨g, 103, 9, rcs (a :: t)⟩] := by
  refine fcall_gather [0] id fun clk => acall_of_aw Tryz.func94 rfl ?_
  simp at ht
  simp
  refine ⟨by omega, ⟨by omega, by show t.length + 1 ≤ 9223372036854775807; omega⟩, ?_⟩
  change flatL (List.take _ (rcs (a :: t))) ∧ List.take _ (rcs (a :: t)) = rcs (a :: t)
  rw [List.take_of_length_le (by simp; omega)]
  exact ⟨flatL_rcs _, rfl⟩
set_option maxRecDepth 100000 in
theorem c_cloneCh0 : FCall Tryz.prog 94 [rlist ([] : List Ch)] fun r H => (r = .one (.d .nil) ∧ H = []) ∨ (∃ g, r = .one (.own 0 g 0 0) ∧ H = [some ⟨g, 103, 9, []⟩]) := by
  have e : rlist ([] : List Ch) = .one (.d (.list 0 [])) := rfl
  rw [e]
  intro clk
  refine acall_of_aw Tryz.func94 rfl ?_
  simp
theorem c_cloneCh (l : List Ch) (hl : l.length ≤ 1048576) : FCall Tryz.prog 94 [rlist l] fun r H => ∃ g, r = .one (.own 0 g 0 l.length) ∧ H = [some ⟨g, 103, 9, rcs l⟩] := by
  cases l with
  | nil => exact fun clk => (fcall_own_nil 103 9 c_cloneCh0 clk).mono fun r H c h => ⟨h.1, h.2.1, h.2.2.elim id id⟩
  | cons a t => exact c_cloneCh1 a t hl
/-- The last changes, with one more. -/
def addCh (l : List Ch) (c : Ch) : List Ch := l.drop (l.length + 1 - 12) ++ [c]
theorem addCh_len (l : List Ch) (c : Ch) (h : l.length ≤ 1048576) : (addCh l c).length ≤ 12 := by simp [addCh]; omega
set_option maxRecDepth 100000 in
theorem c_addChange (l : List Ch) (c : Ch) (hl : l.length ≤ 12) : FCall Tryz.prog 60 [rlist l, c.av] fun r H => ∃ g, r = .one (.own 0 g 0 (addCh l c).length) ∧ H = [some ⟨g, 103, 9, rcs (addCh l c)⟩] := by
  have w1 : IntKind.i64.wrap ((l.length : Int) + 1) = (l.length : Int) + 1 := wrap_i64 (by omega) (by omega)
  have w2 : IntKind.i64.wrap ((l.length : Int) + 1 - 12) = (l.length : Int) + 1 - 12 := wrap_i64 (by omega) (by omega)
  obtain ⟨k, hk⟩ : ∃ k : Nat, k = l.length + 1 - 12 := ⟨_, rfl⟩
  have hm : max ((l.length : Int) + 1 - 12) 0 = (k : Int) := by omega
  refine fcall_gatherE fun clk => acall_of_aw Tryz.func60 rfl ?_
  simp [w1, w2, hm]
  refine codeOk_freeze 0 ?_
  simp [frzV, frzC, ofJ, snap1, blkAt, AC.dc?]
  refine codeOk_drawW (.still 0 (.still 1 (.still 2 (.still 4 (.two 3 (.next 5 (.next 6 (.next 7 .nil))) 5 (.next 3 (.next 6 (.next 7 .nil)))))))) mixed rfl (by kernel_rfl) ?_
  have hkl : k ≤ l.length := by omega
  obtain ⟨D, hD⟩ : ∃ D, D = l.drop k := ⟨_, rfl⟩
  have hDl : D.length = l.length - k := by rw [hD]; simp
  have ht : List.take D.length D = D := List.take_of_length_le (Nat.le_refl _)
  have hc := c_cloneCh D (by omega)
  have he : addCh l c = D ++ [c] := by rw [hD, hk]; rfl
  have hr : rcs (D ++ [c]) = rcs D ++ [.d (.s (.int .i64 c.rev)), .d (.s (.bool c.gone)), .d (.s (.int .i64 c.ob.kind)), .d (.s (.int .i64 c.ob.id)), .d (.s (.int .i64 c.ob.a)), .d (.s (.int .i64 c.ob.b)), .d (.s (.int .i64 c.ob.c)), .d (.s (.int .i64 c.ob.d)), .d (.s (.int .i64 c.ob.rev))] := by
    rw [← rcs_append, rcs_cons, rcs_nil, List.append_nil]; rfl
  have b1 : (D.length + 1) * 72 ≤ 140737488355328 := by omega
  have b2 : D.length + 1 ≤ maxLen := by show D.length + 1 ≤ 9223372036854775807; omega
  rw [he]
  simp [← hD, ← hDl, ht, hkl]
  constructor
  · refine acall_pure hc (by simp) ?_
    rintro r Hn c' ⟨g, rfl, rfl⟩ _
    simp [b1, b2, -rcs_append]
    rw [← hr]
    refine ⟨[1], fun j => j - 1, ?_⟩
    simp
  · refine acall_pure hc (by simp) ?_
    rintro r Hn c' ⟨g, rfl, rfl⟩ _
    simp [b1, b2, -rcs_append]
    rw [← hr]
    refine ⟨[2], fun j => j - 2, ?_⟩
    simp
theorem putU_len (o : Ob) : ∀ (l : List Ob), (putU o l).length ≤ l.length + 1
  | [] => Nat.le_refl _
  | a :: l => by
    unfold putU
    split
    · simp
    · have := putU_len o l; simp; omega
theorem turnU_len (gone : Bool) (o : Ob) (l : List Ob) : (turnU gone o l).length ≤ l.length + 1 := by
  cases gone with
  | true => have := (delU_sub (x := o.kind) (y := o.id) (l := l)).length_le; simp [turnU]; omega
  | false => exact putU_len o l
/-- The store behind a write that it takes. -/
def nxOb (s : St) (w : Wr) : Ob := { w.ob with rev := s.rev + 1 }
def nxCh (s : St) (w : Wr) : Ch := ⟨s.rev + 1, (w.op == 2), nxOb s w⟩
def nxSt (s : St) (w : Wr) : St := ⟨s.rev + 1, turnOb ((w.op == 2)) (nxOb s w) s.obs, addCh s.hist (nxCh s w)⟩
theorem chkW_ok {s : St} {w : Wr} (h : chkW s w = 0) : stFault s = 0 ∧ wrFault w = 0 ∧ (refuse s w).code = 0 := by
  unfold chkW at h
  split at h
  · rename_i h1; exact absurd h h1
  · rename_i h1
    split at h
    · rename_i h2; exact absurd h h2
    · rename_i h2; exact ⟨by simpa using h1, by simpa using h2, h⟩
set_option maxRecDepth 100000 in
set_option maxHeartbeats 1000000 in
theorem c_ApplyWrite0 (s : St) (w : Wr) (h1 : s.obs.length ≤ 1048576) (h2 : s.hist.length ≤ 1048576) (h : chkW s w ≠ 0) : FCall Tryz.prog 31 [s.av, w.av] fun r H => r = .agg [ic (chkW s w), ic 0, .d .nil, .d .nil] ∧ H = [] := by
  refine fcall_gather [] id fun clk => acall_of_aw Tryz.func31 rfl ?_
  simp
  refine acall_val (c_CheckWrite s w h1 h2) (by simp) (by simp) ?_
  simp [h]
set_option maxRecDepth 100000 in
set_option maxHeartbeats 1000000 in
theorem c_ApplyWrite1 (s : St) (w : Wr) (h : chkW s w = 0) : FCall Tryz.prog 31 [s.av, w.av] fun r H => ∃ g1 g2, r = .agg [ic 0, ic (nxSt s w).rev, .own 0 g1 0 (nxSt s w).obs.length, .own 1 g2 0 (nxSt s w).hist.length] ∧ H = [some ⟨g1, 56, 7, rcs (nxSt s w).obs⟩, some ⟨g2, 103, 9, rcs (nxSt s w).hist⟩] := by
  obtain ⟨hs, hw, hc⟩ := chkW_ok h
  obtain ⟨⟨r0, r1⟩, l1, l2, _, hr, _⟩ := stFault_all hs
  have hwr : IntKind.i64.wrap (s.rev + 1) = s.rev + 1 := wrap_i64 (by omega) (by omega)
  refine fcall_gatherE fun clk => acall_of_aw Tryz.func31 rfl ?_
  simp
  refine acall_val (c_CheckWrite s w (by omega) (by omega)) (by simp) (by simp) ?_
  simp [h, hwr]
  refine acall_pure (c_byKey s.obs (by omega)) (by simp) ?_
  rintro r Hn c ⟨g, rfl, rfl⟩ _
  simp
  refine acall_ref (k := 4) (c_turnObject (mapL s.obs) s.obs (obMap_mapL hr) (nxCh s w) g) (by simp [nxCh, nxOb]) (by simp) ?_
  rintro r B Hn c2 ⟨rfl, rfl, rfl⟩ _
  have hom := (obMap_mapL hr).turn (nxCh s w).gone (nxCh s w).ob
  have hln : (turnU (nxCh s w).gone (nxCh s w).ob s.obs).length ≤ 1048576 := by have := turnU_len (nxCh s w).gone (nxCh s w).ob s.obs; omega
  have hin := c_inOrder _ _ hom hln
  have hto := fun d => turnOb_of (d := d) (rises_apart hr) hr (fun q => Iff.rfl) (nxCh s w).gone (nxCh s w).ob
  have hmem : ∀ d, (∀ q, q ∈ d ↔ q ∈ turnU (nxCh s w).gone (nxCh s w).ob s.obs) → rises d = true → d = (nxSt s w).obs := fun d h1 h2 => hto d h2 h1
  generalize turnU (nxCh s w).gone (nxCh s w).ob s.obs = U at *
  generalize turnP (nxCh s w).gone (nxCh s w).ob (mapL s.obs) = pm at *
  have had := c_addChange s.hist (nxCh s w) l2
  simp
  refine codeOk_freeze 0 ?_
  simp [frzV, frzC, ofJ, snap1, blkAt, AC.dc?]
  refine codeOk_freeze 3 ?_
  simp [frzV, frzC, ofJ, snap1, blkAt, AC.dc?]
  refine codeOk_drawS [(.s, 0), (.s, 1), (.s, 2), (.s, 4), (.s, 5), (.s, 6), (.n, 3), (.n, 7), (.n, 8), (.n, 9), (.n, 10)] mixed rfl rfl (by kernel_rfl) ?_
  simp
  refine acall_pure hin (by simp) ?_
  rintro r Hn c3 ⟨d, gd, hdr, hdm, rfl, rfl⟩ _
  have hd := hmem d hdm hdr
  simp
  refine acall_pure had (by simp [nxCh, nxOb]) ?_
  rintro r Hn c4 ⟨gh, rfl, rfl⟩ _
  simp
  have e1 : (nxSt s w).rev = s.rev + 1 := rfl
  have e2 : (nxSt s w).hist = addCh s.hist (nxCh s w) := rfl
  rw [e1, e2, ← hd]
  refine ⟨[5, 6], fun j => j - 5, ?_⟩
  simp
end Go.Proofs.YtledabakodggcaaGreatDoor
