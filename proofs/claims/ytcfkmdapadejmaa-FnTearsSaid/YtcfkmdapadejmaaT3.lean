/-
  What the laws of frames draw.
-/
import Derived.Test.YtcfkmdapadejmaaT2
import Derived.Test.YtcfkmdapadejmaaR4
namespace Go.Proofs.Ytcfkmdapadejmaa
set_option maxRecDepth 100000
set_option linter.unusedSimpArgs false
set_option linter.unusedVariables false
set_option linter.unnecessarySimpa false
open Go Go.Abs Go.Proofs
set_option maxRecDepth 100000 in
set_option maxHeartbeats 1000000 in
theorem c_DrawTearDisk (code : List UInt8) (hc : code.length ≤ 1048576) : FCall Try.prog 14 [blist code] fun r H => ∃ (g1 n1 g2 : Nat) (d b : List UInt8) (keep at_ mask : Int),
    r = .tup [.one (.own 0 g1 0 n1), .one (.own 1 g2 0 b.length), iv .i64 keep, iv .i64 at_, iv .i64 mask] ∧ n1 ≤ d.length ∧ d.length ≤ 5000 ∧ b.length ≤ 101 ∧ fits' keep ∧ H = [some ⟨g1, 5, 1, bcs d⟩, some ⟨g2, 5, 1, bcs b⟩] := by
  refine fcall_gather [1, 3] (fun j => (j - 1) / 2) fun clk => acall_of_aw Try.func14 rfl ?_
  simp
  refine (c_l1Source code clk).mono ?_
  rintro r H c ⟨g, rfl, rfl, _⟩
  simp
  refine acall_ref (k := 0) (c_l1Disk code g 0 hc (by omega)) (by simp) (by simp [srcB]) ?_
  rintro r B Hn c ⟨g1, n1, q, d, hn1, hd, hq, rfl, rfl, rfl⟩ _
  simp
  refine acall_give 2 (dargs := [.one (.ptr 0 g 0), .one (.d (.list 5 (ids [1, 5, 9, 0, 101])))]) (by simp [giveV, giveC, AC.dc?, ids]) ?_
  refine acall_ref (k := 0) (c_l1Pick code g q [1, 5, 9, 0, 101] hc (by omega) (by simp) (by simp)) (by simp) (by simp [srcB]) ?_
  rintro r B Hn c ⟨⟨x, hx, rfl⟩, rfl, rfl⟩ _
  obtain ⟨n, rfl, hn⟩ : ∃ n : Nat, x = n ∧ n ≤ 101 := ⟨x.toNat, by simp at hx; omega, by simp at hx; omega⟩
  clear hx
  simp
  refine acall_ref (k := 0) (c_l1Some code g (q + 1) n hc (by omega) (by omega)) (by simp) (by simp [srcB]) ?_
  rintro r B Hn c ⟨g2, b, hb, rfl, rfl, rfl⟩ _
  subst hb
  simp
  have w1 : IntKind.i64.wrap ((b.length : Int) + 3) = b.length + 3 := wrap_i64 (by omega) (by omega)
  have w2 : IntKind.i64.wrap ((b.length : Int) + 4) = b.length + 4 := wrap_i64 (by omega) (by omega)
  simp [w1, w2]
  refine acall_give 4 (dargs := [.one (.ptr 0 g 0), .one (.d (.list 6 (ids [0, 1, 4, b.length + 3, b.length + 4, -1])))]) (by simp [giveV, giveC, AC.dc?, ids]) ?_
  refine acall_ref (k := 0) (c_l1Pick code g (q + 1 + b.length) [0, 1, 4, b.length + 3, b.length + 4, -1] hc (by omega) (by simp) (by simp)) (by simp) (by simp [srcB]) ?_
  rintro r B Hn c ⟨⟨x, hx, rfl⟩, rfl, rfl⟩ _
  have hx1 : -1 ≤ x ∧ x ≤ 105 := by simp at hx; omega
  clear hx
  have w3 : IntKind.i64.wrap (x - 1) = x - 1 := wrap_i64 (by omega) (by omega)
  simp [w3]
  refine acall_give 5 (dargs := [.one (.ptr 0 g 0), .one (.d (.list 6 (ids [0, 0, 1, x - 1, x, -1])))]) (by simp [giveV, giveC, AC.dc?, ids]) ?_
  refine acall_ref (k := 0) (c_l1Pick code g (q + 1 + b.length + 1) [0, 0, 1, x - 1, x, -1] hc (by omega) (by simp) (by simp)) (by simp) (by simp [srcB]) ?_
  rintro r B Hn c ⟨⟨y, hy, rfl⟩, rfl, rfl⟩ _
  clear hy
  simp
  refine acall_give 6 (dargs := [.one (.ptr 0 g 0), .one (.d (.list 6 (ids [0, 0, 1, 255, 256, -1])))]) (by simp [giveV, giveC, AC.dc?, ids]) ?_
  refine acall_ref (k := 0) (c_l1Pick code g (q + 1 + b.length + 1 + 1) [0, 0, 1, 255, 256, -1] hc (by omega) (by simp) (by simp)) (by simp) (by simp [srcB]) ?_
  rintro r B Hn c ⟨⟨z, hz, rfl⟩, rfl, rfl⟩ _
  clear hz
  simp [bodyA, ressA]
  exact ⟨g1, n1, g2, d, b, x, ⟨⟨rfl, rfl⟩, ⟨rfl, rfl⟩, rfl⟩, hn1, hd, hn, ⟨by omega, by omega⟩, ⟨rfl, rfl⟩, rfl, rfl⟩
end Go.Proofs.Ytcfkmdapadejmaa
