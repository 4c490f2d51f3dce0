/-
  Draws: the bytes of a write, turned or cut.
-/
import Derived.Test.YtplnbdjonnfcbaaDoorD2
import Derived.Test.YtplnbdjonnfcbaaDoorE3
namespace Go.Proofs.YtplnbdjonnfcbaaDoor
set_option maxRecDepth 100000
set_option linter.unusedSimpArgs false
set_option linter.unusedVariables false
set_option linter.unnecessarySimpa false
open Go Go.Abs Go.Proofs
theorem WrS.in {w : Wr} (h : WrS w) : w.In := by
  obtain ⟨h1, h2, h3, h4⟩ := h
  unfold ObS at h2
  exact ⟨h1, h2.1, h2.2.1, h2.2.2.1, h2.2.2.2.1, h2.2.2.2.2.1, h2.2.2.2.2.2.1, h2.2.2.2.2.2.2, by omega, by omega⟩
theorem u8_any (m : Nat) : ∃ b : UInt8, IntKind.u8.wrap (m : Int) = (b.toNat : Int) := ⟨UInt8.ofNat (m % 256), by rw [wrap_u8, UInt8.toNat_ofNat']; omega⟩
set_option maxRecDepth 100000 in
set_option maxHeartbeats 1000000 in
theorem c_DrawDecodeWrite (code : List UInt8) (hc : code.length ≤ 1048576) : FCall Tryd.prog 8 [blist code] fun r H => ∃ (g n : Nat) (d : List UInt8), r = .one (.own 0 g 0 n) ∧ n ≤ d.length ∧ d.length = 17 ∧ H = [some ⟨g, 5, 1, bcs d⟩] := by
  refine fcall_gather [2] (fun j => j - 2) fun clk => acall_of_aw Tryd.func8 rfl ?_
  simp
  refine a_l1Source code fun c _ => ?_
  simp
  refine a_l2Write (code := code) (p := 0) hc (by omega) (by simp) ?_
  intro w hw q hq c _
  simp
  refine acall_pure (c_l2Encode w hw.in) (by simp [AC.dc?]) ?_
  rintro r Hn c ⟨g2, rfl, rfl⟩ _
  have hl := encLen w
  generalize encB w = bs at hl ⊢
  clear hw
  simp
  refine a_l1Next (code := code) (p := q) 5 hc (by omega) (by omega) (by simp) ?_
  intro v hv c _
  by_cases h0 : v = 0
  · subst h0
    simp
    refine codeOk_drawW (.still 0 (.still 1 (.still 5 (.next 2 (.two 3 (.two 4 (.next 6 (.next 7 (.next 8 (.next 9 (.next 10 (.next 11 .nil)))))) 6 (.still 7 (.still 8 (.next 4 (.next 9 (.next 10 (.next 11 .nil)))))))
      6 (.still 7 (.still 8 (.next 3 (.next 4 (.next 9 (.next 10 (.next 11 .nil)))))))))))) mixed rfl (by kernel_rfl) ?_
    simp
    refine a_l1Next (code := code) (p := q + 1) 17 hc (by omega) (by omega) (by simp) ?_
    intro x hx c _
    have hx2 : x < bs.length := by omega
    have hx3 : (x : Int) < 17 := by omega
    have hx4 : x + 1 ≤ 17 := by omega
    simp [hx, hl, hx2, hx3]
    repeat' apply And.intro
    all_goals refine a_l1Next (code := code) (p := q + 1 + 1) 255 hc (by omega) (by omega) (by simp) ?_
    all_goals intro u hu c _
    all_goals obtain ⟨b2, hb2⟩ := u8_any (bs[x].toNat % 2 ^ IntKind.u8.bits ^^^ (IntKind.u8.wrap (IntKind.i64.wrap (1 + (u : Int))) % 2 ^ IntKind.u8.bits).toNat)
    all_goals simp [hx, hl, hx2, hx3, hx4, bodyA, ressA, hb2, bcs_set]
    all_goals exact ⟨g2, 17, ⟨rfl, rfl⟩, bs.set x b2, by rw [List.length_set]; omega, by rw [List.length_set]; exact hl, rfl, rfl⟩
  by_cases h1 : v = 1
  · subst h1
    simp
    refine a_l1Next (code := code) (p := q + 1) 17 hc (by omega) (by omega) (by simp) ?_
    intro x hx c _
    have hx' : (x : Int) ≤ 17 := by omega
    have hx2 : x ≤ 17 := by omega
    simp [bodyA, ressA, hx2]
    exact ⟨hx', g2, x, ⟨rfl, rfl⟩, bs, by omega, hl, rfl, rfl⟩
  have e0 : ¬ (v : Int) = 0 := by omega
  have e1 : ¬ (v : Int) = 1 := by omega
  simp [h0, h1, e0, e1, bodyA, ressA]
  exact ⟨g2, 17, ⟨rfl, rfl⟩, bs, by omega, hl, rfl, rfl⟩
end Go.Proofs.YtplnbdjonnfcbaaDoor
