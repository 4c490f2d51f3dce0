/-
  ReplayWrites of the model, with the arrays of its answer.
  What the laws draw: numbers out of a code.
-/
import Derived.Test.YtiogdfliailenaaQ23
import Derived.Test.YtiogdfliailenaaQ1
import Derived.Test.YtiogdfliailenaaK3
namespace Go.Proofs.Ytiogdfliailenaa
set_option maxRecDepth 100000
set_option linter.unusedSimpArgs false
set_option linter.unusedVariables false
set_option linter.unnecessarySimpa false
open Go Go.Abs Go.Proofs
/-- What holds ahead of each round but behind the last one; behind the last one. -/
def RpO (l : List Wr) (clk : Nat) (z : ASt) : Prop := (∃ i : Nat, i < l.length ∧ z.tmps.getD 4 unknown = iv .i64 i ∧ RpI l clk z) ∨
  ∃ (c g1 g2 off : Nat) (cells : List Ch) (N : St), rp l st0 = (0, N) ∧ off = (cells.length - N.hist.length) * 9 ∧ cells.drop (cells.length - N.hist.length) = N.hist ∧ N.hist.length ≤ cells.length ∧
    z = ⟨[rlist l, unknown, .one (.ptr 0 clk 0), .one (.ptr 1 (clk + 1) 0), iv .i64 l.length] ++ List.replicate 26 unknown,
        [some ⟨clk, 127, 4, [ic 0, ic 0, .d (.list 0 []), .d (.list 0 [])]⟩, some ⟨clk + 1, 103, 3, [ic N.rev, .own 2 g1 0 N.obs.length, .own 3 g2 off N.hist.length]⟩, some ⟨g1, 30, 7, rcs N.obs⟩, some ⟨g2, 116, 9, rcs cells⟩], c⟩
set_option maxRecDepth 100000 in
set_option maxHeartbeats 1000000 in
theorem c_sReplayWritesO (l : List Wr) (hl : l.length ≤ 300) (hne : l ≠ []) (h : (rp l st0).1 = 0) : FCall Try.prog 95 [rlist l] fun r H => ∃ g1 g2 off cells, r = .agg [ic 0, ic (rp l st0).2.rev, .own 0 g1 0 (rp l st0).2.obs.length, .own 1 g2 off (rp l st0).2.hist.length] ∧ H = [some ⟨g1, 30, 7, rcs (rp l st0).2.obs⟩, some ⟨g2, 116, 9, rcs cells⟩] ∧ off = (cells.length - (rp l st0).2.hist.length) * 9 ∧ cells.drop (cells.length - (rp l st0).2.hist.length) = (rp l st0).2.hist ∧ (rp l st0).2.hist.length ≤ cells.length := by
  have hq : ¬ (300 : Int) < l.length := by omega
  have hl0 : 0 < l.length := List.length_pos_iff.2 hne
  refine fcall_gatherE fun clk => acall_of_aw Try.func95 rfl ?_
  simp [hq]
  refine codeOk_nil0 ?_
  simp [nilB, nil0]
  refine codeOk_loopW rpMask (RpO l clk) (rpMu l) ?_ ?_
  · refine ⟨[some ⟨clk, 127, 4, [ic 0, ic 0, .d (.list 0 []), .d (.list 0 [])]⟩, some ⟨clk + 1, 103, 3, [ic 0, .d (.list 0 []), .d (.list 0 [])]⟩], by simp, ?_⟩
    exact .inl ⟨0, hl0, rfl, 0, _, st0, _, Nat.zero_le _, stFault_st0, by simp, rfl, rfl⟩
  · rintro z (⟨i, hlt, hz, i', c, N, H', hi, hN, hrp, rfl, rfl⟩ | ⟨c, g1, g2, off, cells, N, hrp, h1, h2, h3, rfl⟩)
    · have hii : i' = i := by
        simp at hz
        omega
      subst hii
      have hw := wrap_succ (i := i') (by omega)
      obtain ⟨w, t, hd, ho, ht1, ht2⟩ := drop_at l (i := i') hlt
      rw [hd] at hrp
      have hC := c_l3Check N w (rds t) hN
      rw [← chkW_l3 hN] at hC
      have hk : chkW N w = 0 := by
        rw [hrp, rp] at h
        split at h
        · rename_i g; exact g
        · exact h
      simp [hlt, hd]
      refine acall_val hC (by simp [AC.dc?]) (by simp) ?_
      by_cases hend : i' + 1 < l.length
      · have hA := c_l3ApplyS N w (rds t) hk
        have hnx := fun c => rpI_next (clk := clk) (c := c) hlt hk hrp ht1
        simp [hk, hlt, hd]
        refine acall_froze hA (by simp [AC.dc?]) fun r Hn hr => ⟨_, hr, ?_⟩
        simp
        rw [hw]
        exact ⟨_, WkH.refl _, .inl ⟨i' + 1, hend, by simp, hnx _⟩, by simp [rpMu]; omega⟩
      · have hel : i' + 1 = l.length := by omega
        have htn : t = [] := by rw [← ht1, hel]; simp
        obtain ⟨hs, hwf, hc⟩ := chkW_ok hk
        obtain ⟨hrev, l1, l2, _, hr, _⟩ := stFault_all hs
        have hA := c_l3Apply N w (rds t) hrev l1 l2
        have hrN : rp l st0 = (0, nxSt N w) := by rw [hrp, rp, if_pos hk, htn]; rfl
        generalize nxSt N w = M at *
        simp [hk, hlt, hd]
        refine acall_pure hA (by simp [AC.dc?]) ?_
        rintro r Hn c' ⟨g1, g2, off, cells, rfl, rfl, h1, h2, h3⟩ _
        simp
        rw [hw, hel]
        exact ⟨_, WkH.refl _, .inr ⟨c', g1, g2, off, cells, M, hrN, h1, h2, h3, rfl⟩, by simp [rpMu]; omega⟩
    · rw [hrp]
      simp
      refine ⟨[2, 3], fun j => j - 2, ?_⟩
      simp
      exact ⟨g1, g2, off, ⟨rfl, rfl, rfl⟩, cells, ⟨rfl, rfl, rfl⟩, h1, h2, h3⟩
end Go.Proofs.Ytiogdfliailenaa
namespace Go.Proofs.Ytiogdfliailenaa
set_option maxRecDepth 100000
set_option linter.unusedSimpArgs false
set_option linter.unusedVariables false
set_option linter.unnecessarySimpa false
open Go Go.Abs Go.Proofs

def srcB (g : Nat) (code : List UInt8) (at_ : Nat) : ABlk := ⟨g, 93, 2, [.d (.list code.length (bds code)), .d (.s (.int .i64 at_))]⟩

theorem tmod_nat (a b : Nat) : (a : Int).tmod (b : Int) = ((a % b : Nat) : Int) := by rw [Int.tmod_eq_emod_of_nonneg (by omega)]; rfl
theorem tdiv_nat (a b : Nat) : (a : Int) / (b : Int) = ((a / b : Nat) : Int) := rfl

set_option maxRecDepth 100000 in
set_option maxHeartbeats 1000000 in
theorem c_l1Next (code : List UInt8) (g p n : Nat) (hc : code.length ≤ 1048576) (hp : p ≤ 1099511627776) (hn : n ≤ 1099511627776) : RCall Try.prog 70 [.one (.ptr 0 g 0), iv .i64 n] (srcB g code p) fun r B Hn =>
    (∃ v : Nat, r = iv .i64 v ∧ (1 ≤ n → v < n) ∧ v ≤ n) ∧ B = srcB g code (p + 1) ∧ Hn = [] := by
  have hw := wrap_succ (i := p) (by omega)
  by_cases h1 : n < 1
  · have h1' : (n : Int) < 1 := by omega
    refine rcall_take fun clk => acall_of_aw Try.func70 rfl ?_
    simp [srcB, hw, h1']
    exact ⟨0, rfl, fun h => by omega, Nat.zero_le _⟩
  · have h1' : ¬ (n : Int) < 1 := by omega
    have hn0 : ¬ n = 0 := by omega
    have hs : IntKind.i64.wrap (p : Int) = (p : Int) := wrap_i64 (by omega) (by omega)
    by_cases hne : code = []
    · subst hne
      have h7 : IntKind.i64.wrap ((p : Int) * 7) = ((p * 7 : Nat) : Int) := by rw [wrap_i64 (by omega) (by omega)]; omega
      refine rcall_take fun clk => acall_of_aw Try.func70 rfl ?_
      simp [srcB, hw, h1', hs, hn0]
      rw [h7, tmod_nat]
      exact ⟨_, rfl, fun h => Nat.mod_lt _ (by omega), Nat.le_of_lt (Nat.mod_lt _ (by omega))⟩
    · have hl0 : 0 < code.length := List.length_pos_iff.2 hne
      obtain ⟨q, hq⟩ : ∃ q, q = p % code.length := ⟨_, rfl⟩
      obtain ⟨d, hd⟩ : ∃ d, d = p / code.length := ⟨_, rfl⟩
      have hql : q < code.length := by rw [hq]; exact Nat.mod_lt _ hl0
      have hdl : d ≤ p := by rw [hd]; exact Nat.div_le_self _ _
      have hqm : (p : Int).tmod (code.length : Int) = (q : Int) := by rw [tmod_nat, hq]
      have hdv : (p : Int) / (code.length : Int) = (d : Int) := by rw [tdiv_nat, hd]
      obtain ⟨b, hb⟩ : ∃ b, b = code[q] := ⟨_, rfl⟩
      have hbl := b.toNat_lt
      have hwb : IntKind.i64.wrap (b.toNat : Int) = (b.toNat : Int) := wrap_i64 (by omega) (by omega)
      have hwd : IntKind.i64.wrap (d : Int) = (d : Int) := wrap_i64 (by omega) (by omega)
      have hwm : IntKind.i64.wrap ((d : Int) * 37) = ((d * 37 : Nat) : Int) := by rw [wrap_i64 (by omega) (by omega)]; omega
      obtain ⟨V, hV⟩ : ∃ V, V = b.toNat + d * 37 := ⟨_, rfl⟩
      have hwV : IntKind.i64.wrap ((b.toNat : Int) + (d : Int) * 37) = (V : Int) := by rw [wrap_i64 (by omega) (by omega)]; omega
      by_cases h200 : n ≤ 200
      · have h200' : ¬ (200 : Int) < n := by omega
        have h6' : ¬ (60000 : Int) < n := by omega
        refine rcall_take fun clk => acall_of_aw Try.func70 rfl ?_
        simp [srcB, hw, h1', hs, hne]
        refine codeOk_draw [0, 1, 2, 3, 4, 5, 6, 7, 8, 9, 10, 11, 12, 13, 14, 15] mixed rfl rfl (by kernel_rfl) ?_
        simp [hqm, hdv, hql, ← hb, hwb, hwd, hwm, hwV, hs, hne, h200', hn0, h6']
        exact ⟨_, tmod_nat _ _, fun h => Nat.mod_lt _ (by omega), Nat.le_of_lt (Nat.mod_lt _ (by omega))⟩
      · have h200' : (200 : Int) < n := by omega
        obtain ⟨q2, hq2⟩ : ∃ q, q = (p + 1) % code.length := ⟨_, rfl⟩
        have hql2 : q2 < code.length := by rw [hq2]; exact Nat.mod_lt _ hl0
        have hqm2 : ((p : Int) + 1).tmod (code.length : Int) = (q2 : Int) := by rw [hq2]; exact tmod_nat (p + 1) code.length
        obtain ⟨b2, hb2⟩ : ∃ b, b = code[q2] := ⟨_, rfl⟩
        have hbl2 := b2.toNat_lt
        have hwb2 : IntKind.i64.wrap (b2.toNat : Int) = (b2.toNat : Int) := wrap_i64 (by omega) (by omega)
        have hwb13 : IntKind.i64.wrap ((b2.toNat : Int) * 13) = ((b2.toNat * 13 : Nat) : Int) := by rw [wrap_i64 (by omega) (by omega)]; omega
        have hV251 : IntKind.i64.wrap ((V : Int) * 251) = ((V * 251 : Nat) : Int) := by rw [wrap_i64 (by omega) (by omega)]; omega
        obtain ⟨Y, hY⟩ : ∃ Y, Y = V * 251 + b2.toNat * 13 := ⟨_, rfl⟩
        have hwY : IntKind.i64.wrap ((V : Int) * 251 + (b2.toNat : Int) * 13) = (Y : Int) := by rw [wrap_i64 (by omega) (by omega)]; omega
        obtain ⟨V2, hV2⟩ : ∃ V2, V2 = Y + p := ⟨_, rfl⟩
        have hwV2 : IntKind.i64.wrap ((Y : Int) + p) = (V2 : Int) := by rw [wrap_i64 (by omega) (by omega)]; omega
        by_cases h6 : n ≤ 60000
        · have h6' : ¬ (60000 : Int) < n := by omega
          refine rcall_take fun clk => acall_of_aw Try.func70 rfl ?_
          simp [srcB, hw, h1', hs, hne]
          refine codeOk_draw [0, 1, 2, 3, 4, 5, 6, 7, 8, 9, 10, 11, 12, 13, 14, 15] mixed rfl rfl (by kernel_rfl) ?_
          simp [hqm, hdv, hql, ← hb, hwb, hwd, hwm, hwV, hs, hne, h200', hn0]
          refine codeOk_draw [0, 1, 2, 3, 4, 5, 6, 7, 8, 9, 10, 11, 12, 13, 14, 15, 16, 17] mixed rfl rfl (by kernel_rfl) ?_
          simp [hw, hqm2, hql2, ← hb2, hwb2, hwb13, hV251, hwY, hwV2, h6', hn0, hne]
          exact ⟨_, tmod_nat _ _, fun h => Nat.mod_lt _ (by omega), Nat.le_of_lt (Nat.mod_lt _ (by omega))⟩
        · have h6' : (60000 : Int) < n := by omega
          obtain ⟨q3, hq3⟩ : ∃ q, q = (p + 2) % code.length := ⟨_, rfl⟩
          have hql3 : q3 < code.length := by rw [hq3]; exact Nat.mod_lt _ hl0
          have hqm3 : ((p : Int) + 2).tmod (code.length : Int) = (q3 : Int) := by rw [hq3]; exact tmod_nat (p + 2) code.length
          have hw3 : IntKind.i64.wrap ((p : Int) + 2) = (p : Int) + 2 := wrap_i64 (by omega) (by omega)
          obtain ⟨b3, hb3⟩ : ∃ b, b = code[q3] := ⟨_, rfl⟩
          have hbl3 := b3.toNat_lt
          have hwb3 : IntKind.i64.wrap (b3.toNat : Int) = (b3.toNat : Int) := wrap_i64 (by omega) (by omega)
          have hV257 : IntKind.i64.wrap ((V2 : Int) * 257) = ((V2 * 257 : Nat) : Int) := by rw [wrap_i64 (by omega) (by omega)]; omega
          obtain ⟨V3, hV3⟩ : ∃ V3, V3 = V2 * 257 + b3.toNat := ⟨_, rfl⟩
          have hwV3 : IntKind.i64.wrap ((V2 : Int) * 257 + b3.toNat) = (V3 : Int) := by rw [wrap_i64 (by omega) (by omega)]; omega
          refine rcall_take fun clk => acall_of_aw Try.func70 rfl ?_
          simp [srcB, hw, h1', hs, hne]
          refine codeOk_draw [0, 1, 2, 3, 4, 5, 6, 7, 8, 9, 10, 11, 12, 13, 14, 15] mixed rfl rfl (by kernel_rfl) ?_
          simp [hqm, hdv, hql, ← hb, hwb, hwd, hwm, hwV, hs, hne, h200', hn0]
          refine codeOk_draw [0, 1, 2, 3, 4, 5, 6, 7, 8, 9, 10, 11, 12, 13, 14, 15, 16, 17] mixed rfl rfl (by kernel_rfl) ?_
          simp [hw, hqm2, hql2, ← hb2, hwb2, hwb13, hV251, hwY, hwV2, h6', hn0, hne]
          refine codeOk_draw [0, 1, 2, 3, 4, 5, 6, 7, 8, 9, 10, 11, 12, 13, 14] mixed rfl rfl (by kernel_rfl) ?_
          simp [hw3, hqm3, hql3, ← hb3, hwb3, hV257, hwV3, hn0, hne]
          exact ⟨_, tmod_nat _ _, fun h => Nat.mod_lt _ (by omega), Nat.le_of_lt (Nat.mod_lt _ (by omega))⟩
end Go.Proofs.Ytiogdfliailenaa
