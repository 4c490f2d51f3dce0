/-
  Draws of caches.
-/
import Derived.Test.YtiogdfliailenaaQ30
import Derived.Test.YtiogdfliailenaaQ14
namespace Go.Proofs.Ytiogdfliailenaa
set_option maxRecDepth 100000
set_option linter.unusedSimpArgs false
set_option linter.unusedVariables false
set_option linter.unnecessarySimpa false
open Go Go.Abs Go.Proofs
/-- A cache as the draws make it, at its end. -/
def CaP (code : List UInt8) (g m : Nat) (r : AV) (B : ABlk) (Hn : AHeap) : Prop := ∃ (v : Int) (l : List Ob) (q g1 : Nat), l.length ≤ 120 ∧ q ≤ m ∧ B = srcB g code q ∧ r = .agg [ic v, .own 1 g1 0 l.length] ∧ Hn = [some ⟨g1, 30, 7, rcs l⟩]
theorem frzB_src (H : AHeap) (j g p : Nat) (code : List UInt8) : frzB H j (srcB g code p) = srcB g code p := rfl
theorem frzB_mk (H : AHeap) (j a b c : Nat) (d : List AC) : frzB H j ⟨a, b, c, d⟩ = ⟨a, b, c, d.map (frzC H j)⟩ := rfl
theorem frz_rcs {α : Type} [Row α] (H : AHeap) (j : Nat) (l : List α) : (rcs l).map (frzC H j) = rcs l := by
  unfold rcs
  rw [List.map_map]
  rfl
theorem nilB_src (g p : Nat) (code : List UInt8) : nilB (srcB g code p) = srcB g code p := rfl
theorem nilB_mk (a b c : Nat) (d : List AC) : nilB ⟨a, b, c, d⟩ = ⟨a, b, c, d.map nil0⟩ := rfl
set_option maxRecDepth 100000 in
set_option maxHeartbeats 1000000 in
theorem c_l4Bent (code : List UInt8) (g p : Nat) (hc : code.length ≤ 1048576) (hp : p ≤ 400000) : RCall Try.prog 68 [.one (.ptr 0 g 0)] (srcB g code p) (CaP code g (p + 1010)) := by
  refine rcall_gatherE fun clk => acall_of_ok Try.func68 rfl (codeOk_seq (aw_sound _ _ _ ?_))
  simp
  refine codeOk_seq (aw_sound _ _ _ ?_)
  simp
  refine acall_ref (k := 0) (c_l3Bent code g p hc (by omega)) (by simp) (by rw [srcB_ren]; simp) ?_
  rintro r B Hn c ⟨N, q, l1, l2, hq, rfl, hA⟩ _
  rw [srcB_ren]
  have hL := c_l4List N (by omega)
  rcases hA with (⟨g1, g2, off, cells, rfl, rfl, h1, h2, h3⟩ | ⟨e1, e2, rfl, rfl⟩) | ⟨e1, e2, g1, rfl, rfl⟩
  · have e1 : (rcs cells).drop off = rcs N.hist := by rw [h2, rcs_drop9, h3]
    have e2 : off + N.hist.length * 9 ≤ cells.length * 9 := by rw [h2, ← Nat.add_mul]; exact Nat.mul_le_mul_right 9 (by omega)
    simp
    refine codeOk_freezeB 2 (codeOk_freezeB 3 (aw_sound _ _ _ ?_))
    simp [frzV, frzB_src, frzB_mk, frz_rcs, frzC, ofJ, snap1, blkAt, AC.dc?, e1, e2]
    refine acall_pure hL (by simp [AC.dc?]) ?_
    rintro r Hn c' ⟨g', rfl, rfl⟩ _
    simp
    refine ⟨[5], fun j => j - 4, ?_⟩
    simp [GPostR, gat, sig, srcB_ren]
    exact ⟨rfl, _, _, ⟨rfl, rfl⟩, N.rev, N.obs, q, g', l1, hq, rfl, rfl, rfl⟩
  · simp
    refine codeOk_nil0 (aw_sound _ _ _ ?_)
    simp [nilB_src, nilB_mk, nil0]
    refine acall_pure hL (by simp [AC.dc?, e1, e2]) ?_
    rintro r Hn c' ⟨g', rfl, rfl⟩ _
    simp
    refine ⟨[3], fun j => j - 2, ?_⟩
    simp [GPostR, gat, sig, srcB_ren]
    exact ⟨rfl, _, _, ⟨rfl, rfl⟩, N.rev, N.obs, q, g', l1, hq, rfl, rfl, rfl⟩
  · simp
    refine codeOk_freezeB 2 (codeOk_nil0 (aw_sound _ _ _ ?_))
    simp [nilB_src, nilB_mk, nil0, frzV, frzB_src, frzB_mk, frz_rcs, frzC, ofJ, snap1, blkAt, AC.dc?]
    refine acall_pure hL (by simp [AC.dc?, e1, e2]) ?_
    rintro r Hn c' ⟨g', rfl, rfl⟩ _
    simp
    refine ⟨[4], fun j => j - 3, ?_⟩
    simp [GPostR, gat, sig, srcB_ren]
    exact ⟨rfl, _, _, ⟨rfl, rfl⟩, N.rev, N.obs, q, g', l1, hq, rfl, rfl, rfl⟩
end Go.Proofs.Ytiogdfliailenaa
