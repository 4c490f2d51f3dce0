/-
  Caches: arguments, copies, comparison; CacheFault and FindCached on both sides.
-/
import Derived.Test.YtledabakodggcaaGreatDoorS10
namespace Go.Proofs.YtledabakodggcaaGreatDoor
set_option maxRecDepth 100000
set_option linter.unusedSimpArgs false
set_option linter.unusedVariables false
set_option linter.unnecessarySimpa false
open Go Go.Abs Go.Proofs
structure Ca where
  rev : Int
  obs : List Ob
  deriving DecidableEq
abbrev Ca.av (s : Ca) : AV := .agg [ic s.rev, .d (.list s.obs.length (rds s.obs))]
structure Ca.Fits (s : Ca) : Prop where
  rev : fits s.rev
  obs : ∀ o ∈ s.obs, o.Fits
  lo : s.obs.length ≤ 9223372036854775807
theorem av_ca {x : AV} (h : OkAV true [.int .i64, .slice [.int .i64, .int .i64, .int .i64, .int .i64, .int .i64, .int .i64, .int .i64]] x) : ∃ s : Ca, x = s.av ∧ s.Fits := by
  obtain ⟨ds, hd, rfl⟩ := h
  obtain ⟨e0, t0, rfl, c0, h⟩ := okCs_cons hd
  obtain ⟨e1, t1, rfl, c1, h⟩ := okCs_cons h
  cases okCs_nil h
  obtain ⟨n0, rfl, w0⟩ := okC_int c0
  obtain ⟨os, rfl, ho, hol⟩ := okC_rows (fun ds h => okCs_ob h) c1
  exact ⟨⟨n0, os⟩, rfl, ⟨fits_of w0, ho, hol⟩⟩
def szCa (s : Ca) (n : Int) : Int := if (s.obs.length : Int) ≤ n then n - s.obs.length else -1
theorem szCa_le {s : Ca} {n : Int} (h : ¬ szCa s n < 0) (h1 : n ≤ 1048576) : s.obs.length ≤ 1048576 ∧ 0 ≤ szCa s n ∧ szCa s n ≤ 1048576 := by
  unfold szCa at h ⊢
  split at h
  · rename_i g1
    rw [if_pos g1]
    omega
  · omega
def caFault (s : Ca) : Int :=
  if 0 ≤ s.rev ∧ s.rev ≤ 100000 then
    if s.obs.length ≤ 60 then
      if obsBad s.rev s.obs = 0 then
        if rises s.obs then 0 else 1
      else obsBad s.rev s.obs
    else 2
  else 3
theorem caFault_ok {s : Ca} (h : caFault s = 0) : s.obs.length ≤ 60 ∧ rises s.obs = true := by
  unfold caFault at h
  split at h
  · split at h
    · rename_i h2
      split at h
      · split at h
        · rename_i h4; exact ⟨h2, h4⟩
        · omega
      · rename_i h3; exact absurd h h3
    · omega
  · omega
end Go.Proofs.YtledabakodggcaaGreatDoor
