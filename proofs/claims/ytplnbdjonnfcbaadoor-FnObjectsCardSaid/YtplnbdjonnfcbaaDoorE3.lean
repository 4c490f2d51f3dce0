/-
  Writes out of bytes: what the program and the model read.
-/
import Derived.Test.YtplnbdjonnfcbaaDoorE2
namespace Go.Proofs.YtplnbdjonnfcbaaDoor
set_option maxRecDepth 100000
set_option linter.unusedSimpArgs false
set_option linter.unusedVariables false
set_option linter.unnecessarySimpa false
open Go Go.Abs Go.Proofs
def rd (bs : List UInt8) (p k : Nat) : Int := (rdN ((bs.drop p).take k) : Nat)
def decW (bs : List UInt8) : Wr := ⟨rd bs 0 1, ⟨rd bs 1 1, rd bs 2 2, rd bs 4 2, rd bs 6 2, rd bs 8 2, rd bs 10 2, 0⟩, rd bs 12 3, rd bs 15 2⟩
theorem rd_one (bs : List UInt8) (p : Nat) (h : p < bs.length) : rd bs p 1 = (bs[p].toNat : Int) := by
  have e : (bs.drop p).take 1 = [bs[p]] := by rw [List.drop_eq_getElem_cons h]; rfl
  simp [rd, e, rdN]
theorem q_l1Read (bs : List UInt8) {p k n : Nat} (hn : n = bs.length) (hb : bs.length = 17) (hk : k ≤ 6) (hp : p + k ≤ 17) {H : AHeap} {K : AV → Prop} (hK : K (iv .i64 (rd bs p k))) :
    QCall Tryd.prog 64 [.one (.d (.list n (bds bs))), iv .i64 p, iv .i64 k] H K := by
  subst hn
  refine qcall _ (c_l1Read bs p k hk (by omega) (by omega)) (by simp) ?_ hK
  rintro r Hn ⟨rfl, rfl⟩
  simp [rd]
theorem a_ReadWord (bs : List UInt8) {p k n clk : Nat} (hn : n = bs.length) (hb : bs.length = 17) (hk : 1 ≤ k ∧ k ≤ 6) (hp : p + k ≤ 17) {H : AHeap} {K : AV → AHeap → Nat → Prop} (hK : K (.agg [ic 0, ic (rd bs p k)]) H clk) :
    ACall Tryd.prog 35 [.one (.d (.list n (bds bs))), iv .i64 p, iv .i64 k] H clk K := by
  subst hn
  refine acall_froze (c_ReadWord bs p k (by omega)) (by simp) ?_
  rintro r Hn ⟨h, rfl⟩
  rcases h with ⟨_, rfl⟩ | ⟨h, _⟩
  · exact ⟨_, by simp [rd], hK⟩
  · exact absurd ⟨⟨by omega, by omega⟩, by omega, by omega⟩ h
set_option maxRecDepth 100000 in
set_option maxHeartbeats 4000000 in
theorem c_l2Decode (bs : List UInt8) (hb : bs.length = 17) : FCall Tryd.prog 40 [blist bs] fun r H => r = .tup [(decW bs).av, bv (decide (wrFault (decW bs) = 0))] ∧ H = [] := by
  refine fcall_gather [] id fun clk => acall_of_aw Tryd.func40 rfl ?_
  have h0 := rd_one bs 0 (by omega)
  have h1 := rd_one bs 1 (by omega)
  have hl0 : 0 < bs.length := by omega
  have e0 : bs.head? = some bs[0] := by rw [List.head?_eq_getElem?, List.getElem?_eq_getElem hl0]
  have e1 : (bcs bs)[1]'(by simp [bcs]; omega) = .d (bd bs[1]) := by simp [bcs]
  have w0 : IntKind.i64.wrap (bs[0].toNat : Int) = (bs[0].toNat : Int) := wrap_i64 (by have := bs[0].toNat_lt; omega) (by have := bs[0].toNat_lt; omega)
  have w1 : IntKind.i64.wrap (bs[1].toNat : Int) = (bs[1].toNat : Int) := wrap_i64 (by have := bs[1].toNat_lt; omega) (by have := bs[1].toNat_lt; omega)
  rw [← h0] at w0
  rw [← h1] at w1
  simp [hb]
  refine codeOk_drawA mixed (by kernel_rfl) ?_
  simp [hb, e0, e1, ← h0, ← h1, w0, w1]
  refine q_l1Read bs (p := 2) (k := 2) (n := bs.length) rfl hb (by omega) (by omega) ?_
  simp
  refine q_l1Read bs (p := 4) (k := 2) (n := bs.length) rfl hb (by omega) (by omega) ?_
  simp
  refine q_l1Read bs (p := 6) (k := 2) (n := bs.length) rfl hb (by omega) (by omega) ?_
  simp
  refine q_l1Read bs (p := 8) (k := 2) (n := bs.length) rfl hb (by omega) (by omega) ?_
  simp
  refine q_l1Read bs (p := 10) (k := 2) (n := bs.length) rfl hb (by omega) (by omega) ?_
  simp
  refine q_l1Read bs (p := 12) (k := 3) (n := bs.length) rfl hb (by omega) (by omega) ?_
  simp
  refine q_l1Read bs (p := 15) (k := 2) (n := bs.length) rfl hb (by omega) (by omega) ?_
  simp
  refine codeOk_drawS [(.n, 0), (.n, 1), (.q, 2), (.s, 3), (.n, 4), (.n, 5)] mixed rfl rfl (by kernel_rfl) ?_
  simp
  refine qcall_val (c_sWriteFault (decW bs)) (by simp [decW]) (by simp) ?_
  simp [bodyA, ressA, decW]
  rfl
def decR (bs : List UInt8) : AV := .agg (if wrFault (decW bs) = 0 then ic 0 :: (decW bs).cells else [ic 5, ic 0, ic 0, ic 0, ic 0, ic 0, ic 0, ic 0, ic 0, ic 0, ic 0])
set_option maxRecDepth 100000 in
set_option maxHeartbeats 4000000 in
theorem c_DecodeWrite (bs : List UInt8) (hb : bs.length = 17) : FCall Tryd.prog 9 [blist bs] fun r H => r = decR bs ∧ H = [] := by
  refine fcall_gather [] id fun clk => acall_of_aw Tryd.func9 rfl ?_
  simp [hb]
  refine codeOk_rounds 10 ?_
  rw [AR_succ]
  simp
  refine a_ReadWord bs (p := 0) (k := 1) (n := bs.length) rfl hb (by omega) (by omega) ?_
  simp
  rw [AR_succ]
  simp
  refine a_ReadWord bs (p := 1) (k := 1) (n := bs.length) rfl hb (by omega) (by omega) ?_
  simp
  rw [AR_succ]
  simp
  refine a_ReadWord bs (p := 2) (k := 2) (n := bs.length) rfl hb (by omega) (by omega) ?_
  simp
  rw [AR_succ]
  simp
  refine a_ReadWord bs (p := 4) (k := 2) (n := bs.length) rfl hb (by omega) (by omega) ?_
  simp
  rw [AR_succ]
  simp
  refine a_ReadWord bs (p := 6) (k := 2) (n := bs.length) rfl hb (by omega) (by omega) ?_
  simp
  rw [AR_succ]
  simp
  refine a_ReadWord bs (p := 8) (k := 2) (n := bs.length) rfl hb (by omega) (by omega) ?_
  simp
  rw [AR_succ]
  simp
  refine a_ReadWord bs (p := 10) (k := 2) (n := bs.length) rfl hb (by omega) (by omega) ?_
  simp
  rw [AR_succ]
  simp
  refine a_ReadWord bs (p := 12) (k := 3) (n := bs.length) rfl hb (by omega) (by omega) ?_
  simp
  rw [AR_succ]
  simp
  refine a_ReadWord bs (p := 15) (k := 2) (n := bs.length) rfl hb (by omega) (by omega) ?_
  simp
  rw [AR_succ]
  simp
  refine acall_val (c_writeOf (rd bs 0 1) (rd bs 1 1) (rd bs 2 2) (rd bs 4 2) (rd bs 6 2) (rd bs 8 2) (rd bs 10 2) (rd bs 12 3) (rd bs 15 2)) (by simp) (by simp) ?_
  simp
  refine acall_val (c_WriteFault (decW bs)) (by simp [decW]) (by simp) ?_
  by_cases hf : wrFault (decW bs) = 0 <;> simp [hf, decR]
  simp [decW]
set_option maxRecDepth 100000 in
theorem c_sDecodeWrite (bs : List UInt8) (hb : bs.length = 17) : FCall Tryd.prog 14 [blist bs] fun r H => r = decR bs ∧ H = [] := by
  refine fcall_gather [] id fun clk => acall_of_aw Tryd.func14 rfl ?_
  simp [hb]
  refine acall_pure (c_l2Decode bs hb) (by simp) ?_
  rintro r Hn c ⟨rfl, rfl⟩ _
  by_cases hf : wrFault (decW bs) = 0 <;> simp [hf, decR]
def manyR : AV := .agg [ic 2, ic 0, ic 0, ic 0, ic 0, ic 0, ic 0, ic 0, ic 0, ic 0, ic 0]
set_option maxRecDepth 100000 in
theorem c_sDecodeWriteN (bs : List UInt8) (hb : ¬ bs.length = 17) : FCall Tryd.prog 14 [blist bs] fun r H => r = manyR ∧ H = [] := by
  refine fcall_gather [] id fun clk => acall_of_aw Tryd.func14 rfl ?_
  have hb' : ¬ (bs.length : Int) = 17 := by omega
  simp [hb', manyR]
set_option maxRecDepth 100000 in
theorem c_DecodeWriteN (bs : List UInt8) (hb : ¬ bs.length = 17) : FCall Tryd.prog 9 [blist bs] fun r H => r = manyR ∧ H = [] := by
  refine fcall_gather [] id fun clk => acall_of_aw Tryd.func9 rfl ?_
  have hb' : ¬ (bs.length : Int) = 17 := by omega
  simp [hb', manyR]
/-! The laws' own comparison -/
end Go.Proofs.YtplnbdjonnfcbaaDoor
