/-
  ActFault, on both sides; its law.
-/
import Derived.Test.YtckcdpocmmlniabO4
import Derived.Test.YtckcdpocmmlniabA2
import Derived.Test.YtckcdpocmmlniabW2
import Derived.Test.YtckcdpocmmlniabK6
namespace Go.Proofs.Ytckcdpocmmlniab
set_option maxRecDepth 100000
set_option linter.unusedSimpArgs false
set_option linter.unusedVariables false
set_option linter.unnecessarySimpa false
open Go Go.Abs Go.Proofs
def tearsA (n keep at_ mask : Int) : Prop := (0 ≤ keep ∧ keep ≤ n + 3) ∧ (0 ≤ mask ∧ mask ≤ 255) ∧ (0 ≤ at_ ∧ at_ ≤ max (keep - 1) 0)
instance (n keep at_ mask : Int) : Decidable (tearsA n keep at_ mask) := by unfold tearsA; infer_instance
theorem c_l1MaxA (x y : Int) : FCall Try.prog 11 [iv .i64 x, iv .i64 y] fun r H => r = iv .i64 (max x y) ∧ H = [] := by
  intro clk
  refine acall_of_aw Try.func11 rfl ?_
  by_cases h : y < x
  · simp [h]
    omega
  · simp [h]
    omega
theorem c_l1TearsA (b : List UInt8) (keep at_ mask : Int) (hb : b.length ≤ 100) : FCall Try.prog 7 [blist b, iv .i64 keep, iv .i64 at_, iv .i64 mask] fun r H => r = bv (decide (tearsA b.length keep at_ mask)) ∧ H = [] := by
  intro clk
  refine acall_of_aw Try.func7 rfl ?_
  have w1 : IntKind.i64.wrap (b.length : Int) = b.length := wrap_i64 (by omega) (by omega)
  have w2 : IntKind.i64.wrap ((b.length : Int) + 3) = b.length + 3 := wrap_i64 (by omega) (by omega)
  simp [w1, w2]
  refine acall_val (c_l1In keep 0 (b.length + 3)) (by simp) (by simp) ?_
  by_cases h1 : 0 ≤ keep ∧ keep ≤ b.length + 3
  · rw [show (decide (0 ≤ keep) && decide (keep ≤ (b.length : Int) + 3)) = true by simp [h1]]
    simp
    refine acall_val (c_l1In mask 0 255) (by simp) (by simp) ?_
    by_cases h2 : 0 ≤ mask ∧ mask ≤ 255
    · have w3 : IntKind.i64.wrap (keep - 1) = keep - 1 := wrap_i64 (by omega) (by omega)
      rw [show (decide (0 ≤ mask) && decide (mask ≤ 255)) = true by simp [h2]]
      simp [w3]
      refine acall_val (c_l1MaxA (keep - 1) 0) (by simp) (by simp) ?_
      simp
      refine acall_val (c_l1In at_ 0 (max (keep - 1) 0)) (by simp) (by simp) ?_
      simp [tearsA, h1, h2]
    · rw [show (decide (0 ≤ mask) && decide (mask ≤ 255)) = false by simp; omega]
      simp
      exact fun h => h2 h.2.1
  · rw [show (decide (0 ≤ keep) && decide (keep ≤ (b.length : Int) + 3)) = false by simp; omega]
    simp
    exact fun h => h1 h.1
structure Ac where
  kind : Int
  w : Wr
  keep : Int
  at_ : Int
  mask : Int
  deriving DecidableEq
abbrev Ac.av (a : Ac) : AV := .agg [ic a.kind, ic a.w.op, ic a.w.ob.kind, ic a.w.ob.id, ic a.w.ob.a, ic a.w.ob.b, ic a.w.ob.c, ic a.w.ob.d, ic a.w.ob.rev, ic a.w.expect, ic a.w.stamp, ic a.keep, ic a.at_, ic a.mask]
def wr0 : Wr := ⟨0, ⟨0, 0, 0, 0, 0, 0, 0⟩, 0, 0⟩
theorem wr0_iff (w : Wr) : w = wr0 ↔ (w.op = 0 ∧ w.ob.kind = 0 ∧ w.ob.id = 0 ∧ w.ob.a = 0 ∧ w.ob.b = 0 ∧ w.ob.c = 0 ∧ w.ob.d = 0 ∧ w.ob.rev = 0 ∧ w.expect = 0 ∧ w.stamp = 0) := by
  obtain ⟨o, ⟨_, _, _, _, _, _, _⟩, _, _⟩ := w
  simp [wr0, and_assoc]
def Ac.calm (a : Ac) : Bool := decide (a.keep = 0 ∧ a.at_ = 0 ∧ a.mask = 0)
def acFault (a : Ac) : Int :=
  if a.kind = 1 then (if a.calm = true then 0 else 1)
  else if a.kind = 2 then (if tearsA 17 a.keep a.at_ a.mask then 0 else 3)
  else if a.kind = 3 then (if a.calm = true ∧ a.w = wr0 then 0 else 1)
  else 1
set_option maxRecDepth 100000 in
theorem c_isTear (keep at_ mask : Int) (hk : keep ≤ 9223372036854775807) : FCall Try.prog 9 [iv .i64 keep, iv .i64 at_, iv .i64 mask, iv .i64 20] fun r H => r = bv (decide (tearsA 17 keep at_ mask)) ∧ H = [] := by
  have hw : IntKind.i64.wrap (max keep 1 - 1) = max keep 1 - 1 := wrap_i64 (by omega) (by omega)
  have e : OkAll [⟨keep, 0, 20⟩, ⟨mask, 0, 255⟩, ⟨at_, 0, max keep 1 - 1⟩] = decide (tearsA 17 keep at_ mask) := by
    have hm : max keep 1 - 1 = max (keep - 1) 0 := by omega
    rw [hm, Bool.eq_iff_iff]
    simp [OkAll, Sp.ok, tearsA]
    try exact (decide_eq_true_iff (p := _)).symm
    try trace_state
  refine fcall_gather [] id fun clk => acall_of_aw Try.func9 rfl ?_
  simp [hw]
  refine acall_val (c_inBounds [⟨keep, 0, 20⟩, ⟨mask, 0, 255⟩, ⟨at_, 0, max keep 1 - 1⟩] (by simp)) (by simp [sps, AC.dc?]) (by simp) ?_
  rw [e]
  simp
set_option maxRecDepth 100000 in
set_option maxHeartbeats 1000000 in
theorem c_sActFault (a : Ac) : FCall Try.prog 4 [a.av] fun r H => r = iv .i64 (acFault a) ∧ H = [] := by
  have hT := c_l1TearsA (List.replicate 17 0) a.keep a.at_ a.mask (by simp)
  refine fcall_gather [] id fun clk => acall_of_aw Try.func4 rfl ?_
  unfold acFault
  have hz : (a.keep ≠ 0) ∨ (a.keep = 0 ∧ a.at_ ≠ 0) ∨ (a.keep = 0 ∧ a.at_ = 0 ∧ a.mask ≠ 0) ∨ (a.keep = 0 ∧ a.at_ = 0 ∧ a.mask = 0) := by omega
  have hw := wr0_iff a.w
  by_cases k1 : a.kind = 1
  · rcases hz with h1 | ⟨h1, h2⟩ | ⟨h1, h2, h3⟩ | ⟨h1, h2, h3⟩
    · simp [k1, h1, Ac.calm]
    · simp [k1, h1, h2, Ac.calm]
    · simp [k1, h1, h2, h3, Ac.calm]
    · simp [k1, h1, h2, h3, Ac.calm]
  by_cases k2 : a.kind = 2
  · rcases hz with h1 | ⟨h1, h2⟩ | ⟨h1, h2, h3⟩ | ⟨h1, h2, h3⟩
    · simp [k2, h1]
      refine codeOk_freeze 0 ?_
      simp [frzV, frzC, ofJ, snap1, blkAt, AC.dc?]
      refine codeOk_drawS [(.s, 1), (.s, 2), (.s, 3), (.s, 4), (.s, 5), (.s, 6), (.n, 0), (.q, 7), (.n, 8)] mixed rfl rfl (by kernel_rfl) ?_
      simp
      refine qcall_val hT (by simp [AC.dc?]; rfl) (by simp) ?_
      by_cases g : tearsA 17 a.keep a.at_ a.mask <;> simp [g]
    · rw [h1] at hT
      simp [k2, h1, h2]
      refine codeOk_freeze 0 ?_
      simp [frzV, frzC, ofJ, snap1, blkAt, AC.dc?]
      refine codeOk_drawS [(.s, 1), (.s, 2), (.s, 3), (.s, 4), (.s, 5), (.s, 6), (.n, 0), (.q, 7), (.n, 8)] mixed rfl rfl (by kernel_rfl) ?_
      simp
      refine qcall_val hT (by simp [AC.dc?]; rfl) (by simp) ?_
      by_cases g : tearsA 17 0 a.at_ a.mask <;> simp [g]
    · rw [h1, h2] at hT
      simp [k2, h1, h2, h3]
      refine codeOk_freeze 0 ?_
      simp [frzV, frzC, ofJ, snap1, blkAt, AC.dc?]
      refine codeOk_drawS [(.s, 1), (.s, 2), (.s, 3), (.s, 4), (.s, 5), (.s, 6), (.n, 0), (.q, 7), (.n, 8)] mixed rfl rfl (by kernel_rfl) ?_
      simp
      refine qcall_val hT (by simp [AC.dc?]; rfl) (by simp) ?_
      by_cases g : tearsA 17 0 0 a.mask <;> simp [g]
    · rw [h1, h2, h3] at hT
      simp [k2, h1, h2, h3]
      refine codeOk_freeze 0 ?_
      simp [frzV, frzC, ofJ, snap1, blkAt, AC.dc?]
      refine codeOk_drawS [(.s, 1), (.s, 2), (.s, 3), (.s, 4), (.s, 5), (.s, 6), (.n, 0), (.q, 7), (.n, 8)] mixed rfl rfl (by kernel_rfl) ?_
      simp
      refine qcall_val hT (by simp [AC.dc?]; rfl) (by simp) ?_
      by_cases g : tearsA 17 0 0 0 <;> simp [g]
  by_cases k3 : a.kind = 3
  · rcases hz with h1 | ⟨h1, h2⟩ | ⟨h1, h2, h3⟩ | ⟨h1, h2, h3⟩
    · simp [k3, h1, Ac.calm]
    · simp [k3, h1, h2, Ac.calm]
    · simp [k3, h1, h2, h3, Ac.calm]
    · by_cases g : a.w = wr0
      · have g' := hw.1 g
        simp [k3, h1, h2, h3, Ac.calm, g, g']
        simp [wr0]
      · simp [k3, h1, h2, h3, Ac.calm, g]
        have g' := mt hw.2 g
        omega
  rcases hz with h1 | ⟨h1, h2⟩ | ⟨h1, h2, h3⟩ | ⟨h1, h2, h3⟩
  · simp [k1, k2, k3, h1]
  · simp [k1, k2, k3, h1, h2]
  · simp [k1, k2, k3, h1, h2, h3]
  · simp [k1, k2, k3, h1, h2, h3]
set_option maxRecDepth 100000 in
set_option maxHeartbeats 1000000 in
theorem c_ActFault (a : Ac) (hk : a.keep ≤ 9223372036854775807) : FCall Try.prog 6 [a.av] fun r H => r = iv .i64 (acFault a) ∧ H = [] := by
  have hT := c_isTear a.keep a.at_ a.mask hk
  refine fcall_gather [] id fun clk => acall_of_aw Try.func6 rfl ?_
  unfold acFault
  have hz : (a.keep ≠ 0) ∨ (a.keep = 0 ∧ a.at_ ≠ 0) ∨ (a.keep = 0 ∧ a.at_ = 0 ∧ a.mask ≠ 0) ∨ (a.keep = 0 ∧ a.at_ = 0 ∧ a.mask = 0) := by omega
  have hw := wr0_iff a.w
  have hq : tearsA 17 0 0 0 := by decide
  by_cases k1 : a.kind = 1
  · rcases hz with h1 | ⟨h1, h2⟩ | ⟨h1, h2, h3⟩ | ⟨h1, h2, h3⟩
    · simp [k1, h1, Ac.calm]
    · simp [k1, h1, h2, Ac.calm]
    · simp [k1, h1, h2, h3, Ac.calm]
    · rw [h1, h2, h3] at hT
      simp [k1, h1, h2, h3, Ac.calm]
      refine acall_val hT (by simp) (by simp) ?_
      simp [hq]
  by_cases k2 : a.kind = 2
  · simp [k2]
    refine acall_val hT (by simp) (by simp) ?_
    by_cases g : tearsA 17 a.keep a.at_ a.mask <;> simp [g]
  by_cases k3 : a.kind = 3
  · rcases hz with h1 | ⟨h1, h2⟩ | ⟨h1, h2, h3⟩ | ⟨h1, h2, h3⟩
    · simp [k3, h1, Ac.calm]
    · simp [k3, h1, h2, Ac.calm]
    · simp [k3, h1, h2, h3, Ac.calm]
    · by_cases g : a.w = wr0
      · have g' := hw.1 g
        rw [h1, h2, h3] at hT
        simp [k3, h1, h2, h3, Ac.calm, g']
        refine acall_val hT (by simp) (by simp) ?_
        simp [hq, g, wr0]
      · simp [k3, h1, h2, h3, Ac.calm, g]
        have g' := mt hw.2 g
        intros
        exact absurd (by simp [*]) g'
  simp [k1, k2, k3]
set_option maxRecDepth 100000 in
theorem c_toAct (a : Ac) : FCall Try.prog 5 [a.av] fun r H => r = a.av ∧ H = [] := by
  refine fcall_gather [] id fun clk => acall_of_aw Try.func5 rfl ?_
  simp
  refine acall_val (c_toWrite a.w) (by simp) (by simp) ?_
  simp
set_option maxRecDepth 100000 in
theorem law_ActFault (a : Ac) (hk : a.keep ≤ 9223372036854775807) : FCall Try.prog 3 [a.av] TT := by
  refine fcall_gather [] id fun clk => acall_of_aw Try.func3 rfl ?_
  simp
  refine acall_val (c_toAct a) (by simp) (by simp) ?_
  simp
  refine acall_val (c_sActFault a) (by simp) (by simp) ?_
  simp
  refine acall_val (c_toAct a) (by simp) (by simp) ?_
  simp
  refine acall_val (c_ActFault a hk) (by simp) (by simp) ?_
  simp
theorem av_act {x : AV} (h : OkAV true [.int .i64, .int .i64, .int .i64, .int .i64, .int .i64, .int .i64, .int .i64, .int .i64, .int .i64, .int .i64, .int .i64, .int .i64, .int .i64, .int .i64] x) : ∃ a : Ac, x = a.av ∧ a.keep ≤ 9223372036854775807 := by
  obtain ⟨ds, hd, rfl⟩ := h
  obtain ⟨d0, t0, rfl, c0, h0⟩ := okCs_cons hd
  obtain ⟨d1, t1, rfl, c1, h1⟩ := okCs_cons h0
  obtain ⟨d2, t2, rfl, c2, h2⟩ := okCs_cons h1
  obtain ⟨d3, t3, rfl, c3, h3⟩ := okCs_cons h2
  obtain ⟨d4, t4, rfl, c4, h4⟩ := okCs_cons h3
  obtain ⟨d5, t5, rfl, c5, h5⟩ := okCs_cons h4
  obtain ⟨d6, t6, rfl, c6, h6⟩ := okCs_cons h5
  obtain ⟨d7, t7, rfl, c7, h7⟩ := okCs_cons h6
  obtain ⟨d8, t8, rfl, c8, h8⟩ := okCs_cons h7
  obtain ⟨d9, t9, rfl, c9, h9⟩ := okCs_cons h8
  obtain ⟨d10, t10, rfl, c10, h10⟩ := okCs_cons h9
  obtain ⟨d11, t11, rfl, c11, h11⟩ := okCs_cons h10
  obtain ⟨d12, t12, rfl, c12, h12⟩ := okCs_cons h11
  obtain ⟨d13, t13, rfl, c13, h13⟩ := okCs_cons h12
  cases okCs_nil h13
  obtain ⟨n0, rfl, w0⟩ := okC_int c0
  obtain ⟨n1, rfl, w1⟩ := okC_int c1
  obtain ⟨n2, rfl, w2⟩ := okC_int c2
  obtain ⟨n3, rfl, w3⟩ := okC_int c3
  obtain ⟨n4, rfl, w4⟩ := okC_int c4
  obtain ⟨n5, rfl, w5⟩ := okC_int c5
  obtain ⟨n6, rfl, w6⟩ := okC_int c6
  obtain ⟨n7, rfl, w7⟩ := okC_int c7
  obtain ⟨n8, rfl, w8⟩ := okC_int c8
  obtain ⟨n9, rfl, w9⟩ := okC_int c9
  obtain ⟨n10, rfl, w10⟩ := okC_int c10
  obtain ⟨n11, rfl, w11⟩ := okC_int c11
  obtain ⟨n12, rfl, w12⟩ := okC_int c12
  obtain ⟨n13, rfl, w13⟩ := okC_int c13
  exact ⟨⟨n0, ⟨n1, ⟨n2, n3, n4, n5, n6, n7, n8⟩, n9, n10⟩, n11, n12, n13⟩, rfl, (fits_of w11).2⟩
theorem walk_FnExactActFault {x : AV} (h : OkAV true [.int .i64, .int .i64, .int .i64, .int .i64, .int .i64, .int .i64, .int .i64, .int .i64, .int .i64, .int .i64, .int .i64, .int .i64, .int .i64, .int .i64] x) : FCall Try.prog 3 [x] TT := by
  obtain ⟨a, rfl, hk⟩ := av_act h; exact law_ActFault a hk
end Go.Proofs.Ytckcdpocmmlniab
