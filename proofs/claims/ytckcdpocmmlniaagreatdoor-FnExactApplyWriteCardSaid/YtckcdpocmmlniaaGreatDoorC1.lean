/-
  Caches: arguments, copies, comparison; CacheFault and FindCached on both sides.
-/
import Derived.Test.YtckcdpocmmlniaaGreatDoorS10
namespace Go.Proofs.YtckcdpocmmlniaaGreatDoor
set_option maxRecDepth 100000
set_option linter.unusedSimpArgs false
set_option linter.unusedVariables false
set_option linter.unnecessarySimpa false
open Go Go.Abs Go.Proofs
structure Ca where
  rev : Int
  obs : List Ob
  deriving DecidableEq
abbrev Ca.av (s : Ca) : AV := .agg [ic s.rev, .d (.list s.obs.length (rds s.obs))]
structure Ca.Fits (s : Ca) : Prop where
  rev : fits s.rev
  obs : ∀ o ∈ s.obs, o.Fits
  lo : s.obs.length ≤ 9223372036854775807
theorem av_ca {x : AV} (h : OkAV true [.int .i64, .slice [.int .i64, .int .i64, .int .i64, .int .i64, .int .i64, .int .i64, .int .i64]] x) : ∃ s : Ca, x = s.av ∧ s.Fits := by
  obtain ⟨ds, hd, rfl⟩ := h
  obtain ⟨e0, t0, rfl, c0, h⟩ := okCs_cons hd
  obtain ⟨e1, t1, rfl, c1, h⟩ := okCs_cons h
  cases okCs_nil h
  obtain ⟨n0, rfl, w0⟩ := okC_int c0
  obtain ⟨os, rfl, ho, hol⟩ := okC_rows (fun ds h => okCs_ob h) c1
  exact ⟨⟨n0, os⟩, rfl, ⟨fits_of w0, ho, hol⟩⟩
def szCa (s : Ca) (n : Int) : Int := if (s.obs.length : Int) ≤ n then n - s.obs.length else -1
theorem szCa_le {s : Ca} {n : Int} (h : ¬ szCa s n < 0) (h1 : n ≤ 1048576) : s.obs.length ≤ 1048576 ∧ 0 ≤ szCa s n ∧ szCa s n ≤ 1048576 := by
  unfold szCa at h ⊢
  split at h
  · rename_i g1
    rw [if_pos g1]
    omega
  · omega
set_option maxRecDepth 100000 in
theorem c_SameCaches (s t : Ca) (h1 : s.obs.length ≤ 1048576) : FCall Tryz.prog 37 [s.av, t.av] fun r H => r = bv (decide (s = t)) ∧ H = [] := by
  have e : (s = t) ↔ (s.rev = t.rev ∧ s.obs = t.obs) := by cases s; cases t; simp
  refine fcall_gather [] id fun clk => acall_of_aw Tryz.func37 rfl ?_
  by_cases g1 : s.rev = t.rev
  · simp [g1]
    refine acall_val (c_slicesEqualOb s.obs t.obs h1) (by simp) (by simp) ?_
    simp [e, g1]
  · simp [g1, e]
set_option maxRecDepth 100000 in
theorem c_sSameCaches (s t : Ca) (h1 : s.obs.length ≤ 1048576) : FCall Tryz.prog 38 [s.av, t.av] fun r H => r = bv (decide (s = t)) ∧ H = [] := by
  have e : (s = t) ↔ (s.rev = t.rev ∧ s.obs = t.obs) := by cases s; cases t; simp
  refine fcall_gather [] id fun clk => acall_of_aw Tryz.func38 rfl ?_
  by_cases g1 : s.rev = t.rev
  · simp [g1]
    refine acall_val (c_l3SameObjects s.obs t.obs h1) (by simp) (by simp) ?_
    simp [e, g1]
  · simp [g1, e]
def caFault (s : Ca) : Int :=
  if 0 ≤ s.rev ∧ s.rev ≤ 100000 then
    if s.obs.length ≤ 60 then
      if obsBad s.rev s.obs = 0 then
        if rises s.obs then 0 else 1
      else obsBad s.rev s.obs
    else 2
  else 3
theorem caFault_ok {s : Ca} (h : caFault s = 0) : s.obs.length ≤ 60 ∧ rises s.obs = true := by
  unfold caFault at h
  split at h
  · split at h
    · rename_i h2
      split at h
      · split at h
        · rename_i h4; exact ⟨h2, h4⟩
        · omega
      · rename_i h3; exact absurd h h3
    · omega
  · omega
set_option maxRecDepth 100000 in
set_option maxHeartbeats 1000000 in
theorem c_CacheFault (s : Ca) (h1 : s.obs.length ≤ 1048576) : FCall Tryz.prog 115 [s.av] fun r H => r = iv .i64 (caFault s) ∧ H = [] := by
  refine fcall_gather [] id fun clk => acall_of_aw Tryz.func115 rfl ?_
  simp
  refine acall_val (c_inBounds [⟨s.rev, 0, 100000⟩] (by simp)) (by simp [sps, AC.dc?]) (by simp) ?_
  by_cases g1 : 0 ≤ s.rev ∧ s.rev ≤ 100000
  · by_cases g2 : s.obs.length ≤ 60
    · have g2' : ¬ (60 : Int) < s.obs.length := by omega
      simp [OkAll, Sp.ok, g1, g2']
      refine acall_val (c_objectsFault s.obs s.rev h1) (by simp) (by simp) ?_
      simp [caFault, g1, g2]
    · have g2' : (60 : Int) < s.obs.length := by omega
      simp [OkAll, Sp.ok, g1, g2', caFault, g2]
  · have e2 : OkAll [⟨s.rev, 0, 100000⟩] = false := by simp [OkAll, Sp.ok]; omega
    rw [e2]
    simp [caFault, g1]
end Go.Proofs.YtckcdpocmmlniaaGreatDoor
