/-
  What the laws of frames draw.
-/
import Derived.Test.YtplnbdjonnfcbaaT2
import Derived.Test.YtplnbdjonnfcbaaR4
namespace Go.Proofs.Ytplnbdjonnfcbaa
set_option maxRecDepth 100000
set_option linter.unusedSimpArgs false
set_option linter.unusedVariables false
set_option linter.unnecessarySimpa false
open Go Go.Abs Go.Proofs
set_option maxRecDepth 100000 in
theorem c_DrawReadFrames (code : List UInt8) (hc : code.length ≤ 1048576) : FCall Try.prog 14 [blist code] fun r H => ∃ (g1 n1 : Nat) (d : List UInt8),
    r = .one (.own 0 g1 0 n1) ∧ n1 ≤ d.length ∧ d.length ≤ 5000 ∧ H = [some ⟨g1, 5, 1, bcs d⟩] := by
  refine fcall_gather [1] (fun j => j - 1) fun clk => acall_of_aw Try.func14 rfl ?_
  simp
  refine (c_l1Source code clk).mono ?_
  rintro r H c ⟨g, rfl, rfl, _⟩
  simp
  refine acall_ref (k := 0) (c_l1Disk code g 0 hc (by omega)) (by simp) (by simp [srcB]) ?_
  rintro r B Hn c ⟨g1, n1, q, d, hn1, hd, hq, rfl, rfl, rfl⟩ _
  simp [bodyA, ressA]
  exact ⟨g1, n1, ⟨rfl, rfl⟩, d, hn1, hd, rfl, rfl⟩
end Go.Proofs.Ytplnbdjonnfcbaa
