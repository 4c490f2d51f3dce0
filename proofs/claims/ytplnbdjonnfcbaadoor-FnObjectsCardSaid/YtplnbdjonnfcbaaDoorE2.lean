/-
  Writes as bytes: what the program lays and reads.
-/
import Derived.Test.YtplnbdjonnfcbaaDoorE1
import Derived.Test.YtplnbdjonnfcbaaDoorO4
import Derived.Test.YtplnbdjonnfcbaaDoorW5
import Derived.Test.YtplnbdjonnfcbaaDoorW7
import Derived.Test.YtplnbdjonnfcbaaDoorK3
namespace Go.Proofs.YtplnbdjonnfcbaaDoor
set_option maxRecDepth 100000
set_option linter.unusedSimpArgs false
set_option linter.unusedVariables false
set_option linter.unnecessarySimpa false
open Go Go.Abs Go.Proofs

set_option maxRecDepth 100000 in
theorem c_numbersOf (w : Wr) : FCall Tryd.prog 29 [w.av] fun r H => r = .agg [ic w.op, ic w.ob.kind, ic w.ob.id, ic w.ob.a, ic w.ob.b, ic w.ob.c, ic w.ob.d, ic w.expect, ic w.stamp] ∧ H = [] := by
  refine fcall_gather [] id fun clk => acall_of_aw Tryd.func29 rfl ?_
  simp
set_option maxRecDepth 100000 in
theorem c_writeOf (a b c d e f g h i : Int) : FCall Tryd.prog 36 [.agg [ic a, ic b, ic c, ic d, ic e, ic f, ic g, ic h, ic i]] fun r H => r = (⟨a, ⟨b, c, d, e, f, g, 0⟩, h, i⟩ : Wr).av ∧ H = [] := by
  refine fcall_gather [] id fun clk => acall_of_aw Tryd.func36 rfl ?_
  simp
/-- The bytes of a write. -/
def encB (w : Wr) : List UInt8 := be w.op.toNat 1 ++ be w.ob.kind.toNat 1 ++ be w.ob.id.toNat 2 ++ be w.ob.a.toNat 2 ++ be w.ob.b.toNat 2 ++ be w.ob.c.toNat 2 ++ be w.ob.d.toNat 2 ++ be w.expect.toNat 3 ++ be w.stamp.toNat 2
theorem encLen (w : Wr) : (encB w).length = 17 := by simp [encB, be_length]
theorem pack_ok {n : Int} {k : Nat} (h1 : 1 ≤ k ∧ k ≤ 6) (h2 : 0 ≤ n) (h3 : n.toNat < 256 ^ k) : packCode n k = 0 := by
  unfold packCode
  rw [if_pos]
  exact ⟨by omega, by omega, h2, by simpa using h3⟩
theorem q_Pack {n : Int} {k : Nat} {H : AHeap} {K : AV → Prop} (h1 : 1 ≤ k ∧ k ≤ 6) (h2 : 0 ≤ n) (h3 : n.toNat < 256 ^ k) (h4 : n ≤ 9223372036854775807)
    (hK : K (.agg [ic 0, .d (.list k (bds (be n.toNat k)))])) : QCall Tryd.prog 30 [iv .i64 n, iv .i64 k] H K := by
  refine qcall _ (c_PackWord n k h4) (by simp) ?_ hK
  rintro r Hn (⟨h, _⟩ | ⟨_, g, rfl, rfl⟩)
  · exact absurd (pack_ok h1 h2 h3) h
  · simp [be_length, List.take_of_length_le]
def EncPost (w : Wr) (e : Nat) (r : AV) (H : AHeap) : Prop :=
  (wrFault w ≠ 0 ∧ r = .agg [ic (wrFault w), .d .nil] ∧ H = []) ∨ (wrFault w = 0 ∧ ∃ g, r = .agg [ic 0, .own 0 g 0 17] ∧ H = [some ⟨g, e, 1, bcs (encB w)⟩])
set_option maxRecDepth 100000 in
set_option maxHeartbeats 4000000 in
theorem c_EncodeWrite (w : Wr) : FCall Tryd.prog 7 [w.av] (EncPost w 65) := by
  by_cases hf : wrFault w = 0
  · obtain ⟨hi, _⟩ := wrFault_in hf
    refine fcall_gather [3] (fun j => j - 3) fun clk => acall_of_aw Tryd.func7 rfl ?_
    simp
    refine acall_val (c_WriteFault w) (by simp) (by simp) ?_
    simp [hf]
    refine acall_val (c_numbersOf w) (by simp) (by simp) ?_
    simp
    refine codeOk_rounds 10 ?_
    rw [AR_succ]
    simp [be_length]
    refine codeOk_drawA mixed (by kernel_rfl) ?_
    simp
    refine q_Pack (n := w.op) (k := 1) (by omega) (by have := hi.op; omega) (by have := hi.op; omega) (by have := hi.op; omega) ?_
    simp [be]
    rw [AR_succ]
    simp [be_length]
    refine codeOk_drawA mixed (by kernel_rfl) ?_
    simp
    refine q_Pack (n := w.ob.kind) (k := 1) (by omega) (by have := hi.kind; omega) (by have := hi.kind; omega) (by have := hi.kind; omega) ?_
    simp [be]
    rw [AR_succ]
    simp [be_length]
    refine codeOk_drawA mixed (by kernel_rfl) ?_
    simp
    refine q_Pack (n := w.ob.id) (k := 2) (by omega) (by have := hi.id; omega) (by have := hi.id; omega) (by have := hi.id; omega) ?_
    simp [be]
    rw [AR_succ]
    simp [be_length]
    refine codeOk_drawA mixed (by kernel_rfl) ?_
    simp
    refine q_Pack (n := w.ob.a) (k := 2) (by omega) (by have := hi.a; omega) (by have := hi.a; omega) (by have := hi.a; omega) ?_
    simp [be]
    rw [AR_succ]
    simp [be_length]
    refine codeOk_drawA mixed (by kernel_rfl) ?_
    simp
    refine q_Pack (n := w.ob.b) (k := 2) (by omega) (by have := hi.b; omega) (by have := hi.b; omega) (by have := hi.b; omega) ?_
    simp [be]
    rw [AR_succ]
    simp [be_length]
    refine codeOk_drawA mixed (by kernel_rfl) ?_
    simp
    refine q_Pack (n := w.ob.c) (k := 2) (by omega) (by have := hi.c; omega) (by have := hi.c; omega) (by have := hi.c; omega) ?_
    simp [be]
    rw [AR_succ]
    simp [be_length]
    refine codeOk_drawA mixed (by kernel_rfl) ?_
    simp
    refine q_Pack (n := w.ob.d) (k := 2) (by omega) (by have := hi.d; omega) (by have := hi.d; omega) (by have := hi.d; omega) ?_
    simp [be]
    rw [AR_succ]
    simp [be_length]
    refine codeOk_drawA mixed (by kernel_rfl) ?_
    simp
    refine q_Pack (n := w.expect) (k := 3) (by omega) (by have := hi.expect; omega) (by have := hi.expect; omega) (by have := hi.expect; omega) ?_
    simp [be]
    rw [AR_succ]
    simp [be_length]
    refine codeOk_drawA mixed (by kernel_rfl) ?_
    simp
    refine q_Pack (n := w.stamp) (k := 2) (by omega) (by have := hi.stamp; omega) (by have := hi.stamp; omega) (by have := hi.stamp; omega) ?_
    simp [be]
    rw [AR_succ]
    simp [bcs, EncPost, hf, encB, be]
  · refine fcall_gather [] id fun clk => acall_of_aw Tryd.func7 rfl ?_
    simp
    refine acall_val (c_WriteFault w) (by simp) (by simp) ?_
    simp [hf, EncPost]
/-! The model's bytes -/
def encPostS (w : Wr) (r : AV) (H : AHeap) : Prop :=
  (wrFault w ≠ 0 ∧ r = .agg [ic (wrFault w), .d .nil] ∧ H = []) ∨ (wrFault w = 0 ∧ ∃ g, r = .agg [ic 0, .own 0 g 0 17] ∧ H = [some ⟨g, 5, 1, bcs (encB w)⟩])
theorem q_l1Pack {n : Int} {k : Nat} {H : AHeap} {K : AV → Prop} (h1 : k ≤ 6) (h2 : 0 ≤ n) (h4 : n ≤ 9223372036854775807)
    (hK : K (.one (.d (.list k (bds (be n.toNat k)))))) : QCall Tryd.prog 59 [iv .i64 n, iv .i64 k] H K := by
  obtain ⟨m, rfl⟩ : ∃ m : Nat, n = m := ⟨n.toNat, by omega⟩
  refine qcall _ (c_l1Pack m k (by omega) (by omega)) (by simp) ?_ hK
  rintro r Hn ⟨g, rfl, rfl⟩
  simp [be_length, List.take_of_length_le]
theorem a_l1Pack {n : Int} {k clk : Nat} {H : AHeap} {K : AV → AHeap → Nat → Prop} (h1 : k ≤ 6) (h2 : 0 ≤ n) (h4 : n ≤ 9223372036854775807)
    (hK : K (.one (.d (.list k (bds (be n.toNat k))))) H clk) : ACall Tryd.prog 59 [iv .i64 n, iv .i64 k] H clk K := by
  obtain ⟨m, rfl⟩ : ∃ m : Nat, n = m := ⟨n.toNat, by omega⟩
  refine acall_froze (c_l1Pack m k (by omega) (by omega)) (by simp) ?_
  rintro r Hn ⟨g, rfl, rfl⟩
  exact ⟨_, by simp [be_length, List.take_of_length_le], hK⟩
theorem u8_small {n : Int} (h : 0 ≤ n ∧ n ≤ 255) : IntKind.u8.wrap n = ((UInt8.ofNat (n.toNat % 256)).toNat : Int) := by
  rw [wrap_u8, UInt8.toNat_ofNat']; omega
set_option maxRecDepth 100000 in
set_option maxHeartbeats 4000000 in
theorem c_l2Encode (w : Wr) (hi : w.In) : FCall Tryd.prog 33 [.one (.d (.rptr w.dcs))] fun r H => ∃ g, r = .one (.own 0 g 0 17) ∧ H = [some ⟨g, 5, 1, bcs (encB w)⟩] := by
  refine fcall_gather [0] (fun j => j - 0) fun clk => acall_of_aw Tryd.func33 rfl ?_
  simp
  refine codeOk_drawA mixed (by kernel_rfl) ?_
  simp
  refine codeOk_drawS [(.n, 0), (.n, 1), (.n, 2), (.n, 3), (.n, 4), (.q, 5), (.s, 7), (.s, 8), (.s, 9), (.s, 10), (.n, 6), (.q, 11), (.n, 12), (.n, 13)] mixed rfl rfl (by kernel_rfl) ?_
  simp
  refine q_l1Pack (n := w.ob.id) (k := 2) (by omega) (by have := hi.id; omega) (by have := hi.id; omega) ?_
  simp [be_length, maxLen]
  refine q_l1Pack (n := w.ob.a) (k := 2) (by omega) (by have := hi.a; omega) (by have := hi.a; omega) ?_
  simp [be_length, maxLen]
  refine codeOk_drawS [(.n, 0), (.n, 1), (.n, 2), (.n, 3), (.n, 4), (.q, 5), (.s, 7), (.s, 8), (.s, 9), (.s, 10), (.n, 6), (.q, 11), (.n, 12), (.n, 13)] mixed rfl rfl (by kernel_rfl) ?_
  simp
  refine q_l1Pack (n := w.ob.b) (k := 2) (by omega) (by have := hi.b; omega) (by have := hi.b; omega) ?_
  simp [be_length, maxLen]
  refine q_l1Pack (n := w.ob.c) (k := 2) (by omega) (by have := hi.c; omega) (by have := hi.c; omega) ?_
  simp [be_length, maxLen]
  refine codeOk_drawS [(.n, 0), (.n, 1), (.n, 2), (.n, 3), (.n, 4), (.q, 5), (.s, 7), (.s, 8), (.s, 9), (.s, 10), (.n, 6), (.q, 11), (.n, 12), (.n, 13)] mixed rfl rfl (by kernel_rfl) ?_
  simp
  refine q_l1Pack (n := w.ob.d) (k := 2) (by omega) (by have := hi.d; omega) (by have := hi.d; omega) ?_
  simp [be_length, maxLen]
  refine q_l1Pack (n := w.expect) (k := 3) (by omega) (by have := hi.expect; omega) (by have := hi.expect; omega) ?_
  simp [be_length, maxLen]
  refine a_l1Pack (n := w.stamp) (k := 2) (by omega) (by have := hi.stamp; omega) (by have := hi.stamp; omega) ?_
  simp [be_length, maxLen, bcs, be, encB, u8_small hi.op, u8_small hi.kind]
set_option maxRecDepth 100000 in
set_option maxHeartbeats 4000000 in
theorem c_sEncodeWrite (w : Wr) : FCall Tryd.prog 13 [w.av] (encPostS w) := by
  by_cases hf : wrFault w = 0
  · obtain ⟨hi, _⟩ := wrFault_in hf
    refine fcall_gather [2] (fun j => j - 2) fun clk => acall_of_aw Tryd.func13 rfl ?_
    simp
    refine acall_val (c_sWriteFault w) (by simp) (by simp) ?_
    simp [hf]
    refine acall_pure (c_l2Encode w hi) (by simp [AC.dc?]) ?_
    rintro r Hn c ⟨g, rfl, rfl⟩ _
    simp [encPostS, hf]
  · refine fcall_gather [] id fun clk => acall_of_aw Tryd.func13 rfl ?_
    simp
    refine acall_val (c_sWriteFault w) (by simp) (by simp) ?_
    simp [hf, encPostS]
end Go.Proofs.YtplnbdjonnfcbaaDoor
