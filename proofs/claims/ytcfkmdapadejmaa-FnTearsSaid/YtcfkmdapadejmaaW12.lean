/-
  What the laws draw: numbers out of a code.
-/
import Derived.Test.YtcfkmdapadejmaaW1
import Derived.Test.YtcfkmdapadejmaaK3
namespace Go.Proofs.Ytcfkmdapadejmaa
set_option maxRecDepth 100000
set_option linter.unusedSimpArgs false
set_option linter.unusedVariables false
set_option linter.unnecessarySimpa false
open Go Go.Abs Go.Proofs

def srcB (g : Nat) (code : List UInt8) (at_ : Nat) : ABlk := ⟨g, 62, 2, [.d (.list code.length (bds code)), .d (.s (.int .i64 at_))]⟩

theorem tmod_nat (a b : Nat) : (a : Int).tmod (b : Int) = ((a % b : Nat) : Int) := by rw [Int.tmod_eq_emod_of_nonneg (by omega)]; rfl
theorem tdiv_nat (a b : Nat) : (a : Int) / (b : Int) = ((a / b : Nat) : Int) := rfl

set_option maxRecDepth 100000 in
set_option maxHeartbeats 1000000 in
theorem c_l1Next (code : List UInt8) (g p n : Nat) (hc : code.length ≤ 1048576) (hp : p ≤ 1099511627776) (hn : n ≤ 1099511627776) : RCall Try.prog 38 [.one (.ptr 0 g 0), iv .i64 n] (srcB g code p) fun r B Hn =>
    (∃ v : Nat, r = iv .i64 v ∧ (1 ≤ n → v < n) ∧ v ≤ n) ∧ B = srcB g code (p + 1) ∧ Hn = [] := by
  have hw := wrap_succ (i := p) (by omega)
  by_cases h1 : n < 1
  · have h1' : (n : Int) < 1 := by omega
    refine rcall_take fun clk => acall_of_aw Try.func38 rfl ?_
    simp [srcB, hw, h1']
    exact ⟨0, rfl, fun h => by omega, Nat.zero_le _⟩
  · have h1' : ¬ (n : Int) < 1 := by omega
    have hn0 : ¬ n = 0 := by omega
    have hs : IntKind.i64.wrap (p : Int) = (p : Int) := wrap_i64 (by omega) (by omega)
    by_cases hne : code = []
    · subst hne
      have h7 : IntKind.i64.wrap ((p : Int) * 7) = ((p * 7 : Nat) : Int) := by rw [wrap_i64 (by omega) (by omega)]; omega
      refine rcall_take fun clk => acall_of_aw Try.func38 rfl ?_
      simp [srcB, hw, h1', hs, hn0]
      rw [h7, tmod_nat]
      exact ⟨_, rfl, fun h => Nat.mod_lt _ (by omega), Nat.le_of_lt (Nat.mod_lt _ (by omega))⟩
    · have hl0 : 0 < code.length := List.length_pos_iff.2 hne
      obtain ⟨q, hq⟩ : ∃ q, q = p % code.length := ⟨_, rfl⟩
      obtain ⟨d, hd⟩ : ∃ d, d = p / code.length := ⟨_, rfl⟩
      have hql : q < code.length := by rw [hq]; exact Nat.mod_lt _ hl0
      have hdl : d ≤ p := by rw [hd]; exact Nat.div_le_self _ _
      have hqm : (p : Int).tmod (code.length : Int) = (q : Int) := by rw [tmod_nat, hq]
      have hdv : (p : Int) / (code.length : Int) = (d : Int) := by rw [tdiv_nat, hd]
      obtain ⟨b, hb⟩ : ∃ b, b = code[q] := ⟨_, rfl⟩
      have hbl := b.toNat_lt
      have hwb : IntKind.i64.wrap (b.toNat : Int) = (b.toNat : Int) := wrap_i64 (by omega) (by omega)
      have hwd : IntKind.i64.wrap (d : Int) = (d : Int) := wrap_i64 (by omega) (by omega)
      have hwm : IntKind.i64.wrap ((d : Int) * 37) = ((d * 37 : Nat) : Int) := by rw [wrap_i64 (by omega) (by omega)]; omega
      obtain ⟨V, hV⟩ : ∃ V, V = b.toNat + d * 37 := ⟨_, rfl⟩
      have hwV : IntKind.i64.wrap ((b.toNat : Int) + (d : Int) * 37) = (V : Int) := by rw [wrap_i64 (by omega) (by omega)]; omega
      by_cases h200 : n ≤ 200
      · have h200' : ¬ (200 : Int) < n := by omega
        have h6' : ¬ (60000 : Int) < n := by omega
        refine rcall_take fun clk => acall_of_aw Try.func38 rfl ?_
        simp [srcB, hw, h1', hs, hne]
        refine codeOk_draw [0, 1, 2, 3, 4, 5, 6, 7, 8, 9, 10, 11, 12, 13, 14, 15] mixed rfl rfl (by kernel_rfl) ?_
        simp [hqm, hdv, hql, ← hb, hwb, hwd, hwm, hwV, hs, hne, h200', hn0, h6']
        exact ⟨_, tmod_nat _ _, fun h => Nat.mod_lt _ (by omega), Nat.le_of_lt (Nat.mod_lt _ (by omega))⟩
      · have h200' : (200 : Int) < n := by omega
        obtain ⟨q2, hq2⟩ : ∃ q, q = (p + 1) % code.length := ⟨_, rfl⟩
        have hql2 : q2 < code.length := by rw [hq2]; exact Nat.mod_lt _ hl0
        have hqm2 : ((p : Int) + 1).tmod (code.length : Int) = (q2 : Int) := by rw [hq2]; exact tmod_nat (p + 1) code.length
        obtain ⟨b2, hb2⟩ : ∃ b, b = code[q2] := ⟨_, rfl⟩
        have hbl2 := b2.toNat_lt
        have hwb2 : IntKind.i64.wrap (b2.toNat : Int) = (b2.toNat : Int) := wrap_i64 (by omega) (by omega)
        have hwb13 : IntKind.i64.wrap ((b2.toNat : Int) * 13) = ((b2.toNat * 13 : Nat) : Int) := by rw [wrap_i64 (by omega) (by omega)]; omega
        have hV251 : IntKind.i64.wrap ((V : Int) * 251) = ((V * 251 : Nat) : Int) := by rw [wrap_i64 (by omega) (by omega)]; omega
        obtain ⟨Y, hY⟩ : ∃ Y, Y = V * 251 + b2.toNat * 13 := ⟨_, rfl⟩
        have hwY : IntKind.i64.wrap ((V : Int) * 251 + (b2.toNat : Int) * 13) = (Y : Int) := by rw [wrap_i64 (by omega) (by omega)]; omega
        obtain ⟨V2, hV2⟩ : ∃ V2, V2 = Y + p := ⟨_, rfl⟩
        have hwV2 : IntKind.i64.wrap ((Y : Int) + p) = (V2 : Int) := by rw [wrap_i64 (by omega) (by omega)]; omega
        by_cases h6 : n ≤ 60000
        · have h6' : ¬ (60000 : Int) < n := by omega
          refine rcall_take fun clk => acall_of_aw Try.func38 rfl ?_
          simp [srcB, hw, h1', hs, hne]
          refine codeOk_draw [0, 1, 2, 3, 4, 5, 6, 7, 8, 9, 10, 11, 12, 13, 14, 15] mixed rfl rfl (by kernel_rfl) ?_
          simp [hqm, hdv, hql, ← hb, hwb, hwd, hwm, hwV, hs, hne, h200', hn0]
          refine codeOk_draw [0, 1, 2, 3, 4, 5, 6, 7, 8, 9, 10, 11, 12, 13, 14, 15, 16, 17] mixed rfl rfl (by kernel_rfl) ?_
          simp [hw, hqm2, hql2, ← hb2, hwb2, hwb13, hV251, hwY, hwV2, h6', hn0, hne]
          exact ⟨_, tmod_nat _ _, fun h => Nat.mod_lt _ (by omega), Nat.le_of_lt (Nat.mod_lt _ (by omega))⟩
        · have h6' : (60000 : Int) < n := by omega
          obtain ⟨q3, hq3⟩ : ∃ q, q = (p + 2) % code.length := ⟨_, rfl⟩
          have hql3 : q3 < code.length := by rw [hq3]; exact Nat.mod_lt _ hl0
          have hqm3 : ((p : Int) + 2).tmod (code.length : Int) = (q3 : Int) := by rw [hq3]; exact tmod_nat (p + 2) code.length
          have hw3 : IntKind.i64.wrap ((p : Int) + 2) = (p : Int) + 2 := wrap_i64 (by omega) (by omega)
          obtain ⟨b3, hb3⟩ : ∃ b, b = code[q3] := ⟨_, rfl⟩
          have hbl3 := b3.toNat_lt
          have hwb3 : IntKind.i64.wrap (b3.toNat : Int) = (b3.toNat : Int) := wrap_i64 (by omega) (by omega)
          have hV257 : IntKind.i64.wrap ((V2 : Int) * 257) = ((V2 * 257 : Nat) : Int) := by rw [wrap_i64 (by omega) (by omega)]; omega
          obtain ⟨V3, hV3⟩ : ∃ V3, V3 = V2 * 257 + b3.toNat := ⟨_, rfl⟩
          have hwV3 : IntKind.i64.wrap ((V2 : Int) * 257 + b3.toNat) = (V3 : Int) := by rw [wrap_i64 (by omega) (by omega)]; omega
          refine rcall_take fun clk => acall_of_aw Try.func38 rfl ?_
          simp [srcB, hw, h1', hs, hne]
          refine codeOk_draw [0, 1, 2, 3, 4, 5, 6, 7, 8, 9, 10, 11, 12, 13, 14, 15] mixed rfl rfl (by kernel_rfl) ?_
          simp [hqm, hdv, hql, ← hb, hwb, hwd, hwm, hwV, hs, hne, h200', hn0]
          refine codeOk_draw [0, 1, 2, 3, 4, 5, 6, 7, 8, 9, 10, 11, 12, 13, 14, 15, 16, 17] mixed rfl rfl (by kernel_rfl) ?_
          simp [hw, hqm2, hql2, ← hb2, hwb2, hwb13, hV251, hwY, hwV2, h6', hn0, hne]
          refine codeOk_draw [0, 1, 2, 3, 4, 5, 6, 7, 8, 9, 10, 11, 12, 13, 14] mixed rfl rfl (by kernel_rfl) ?_
          simp [hw3, hqm3, hql3, ← hb3, hwb3, hV257, hwV3, hn0, hne]
          exact ⟨_, tmod_nat _ _, fun h => Nat.mod_lt _ (by omega), Nat.le_of_lt (Nat.mod_lt _ (by omega))⟩
end Go.Proofs.Ytcfkmdapadejmaa
