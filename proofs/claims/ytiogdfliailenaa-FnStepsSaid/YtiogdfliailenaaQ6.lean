/-
  What the arguments of the laws are.
-/
import Derived.Test.YtiogdfliailenaaQ5
import Derived.Test.YtiogdfliailenaaK4
namespace Go.Proofs.Ytiogdfliailenaa
set_option maxRecDepth 100000
set_option linter.unusedSimpArgs false
set_option linter.unusedVariables false
set_option linter.unnecessarySimpa false
open Go Go.Abs Go.Proofs

def TT (r : AV) (H : AHeap) : Prop := r = .one (.d (.s (.bool true))) ∧ H = []
@[simp] theorem TT_true (r : AV) (H : AHeap) : TT r H ↔ (r = .one (.d (.s (.bool true))) ∧ H = []) := Iff.rfl
/-! The arguments of the laws -/
def fits (n : Int) : Prop := -9223372036854775808 ≤ n ∧ n ≤ 9223372036854775807
theorem fits_of {n : Int} (h : (Lit.int .i64 n).wf = true) : fits n := by
  have h1 : IntKind.i64.min = -9223372036854775808 := by decide
  have h2 : IntKind.i64.max = 9223372036854775807 := by decide
  simp only [Lit.wf, Bool.and_eq_true, decide_eq_true_eq, h1, h2] at h
  exact h
theorem av_int {x : AV} (h : OkAV false [.int .i64] x) : ∃ n, x = iv .i64 n ∧ fits n := by
  obtain ⟨d, hd, rfl⟩ := h
  obtain ⟨_, _, h1, c0, _⟩ := okCs_cons hd
  cases h1
  obtain ⟨n, rfl, hw⟩ := okC_int c0
  exact ⟨n, rfl, fits_of hw⟩
structure Ob.Fits (o : Ob) : Prop where
  kind : fits o.kind
  id : fits o.id
  a : fits o.a
  b : fits o.b
  c : fits o.c
  d : fits o.d
  rev : fits o.rev
theorem okCs_ob {ds : List DC} (h : OkCs [.int .i64, .int .i64, .int .i64, .int .i64, .int .i64, .int .i64, .int .i64] ds) : ∃ o : Ob, ds = o.dcs ∧ o.Fits := by
  obtain ⟨d0, t0, rfl, c0, h⟩ := okCs_cons h
  obtain ⟨d1, t1, rfl, c1, h⟩ := okCs_cons h
  obtain ⟨d2, t2, rfl, c2, h⟩ := okCs_cons h
  obtain ⟨d3, t3, rfl, c3, h⟩ := okCs_cons h
  obtain ⟨d4, t4, rfl, c4, h⟩ := okCs_cons h
  obtain ⟨d5, t5, rfl, c5, h⟩ := okCs_cons h
  obtain ⟨d6, t6, rfl, c6, h⟩ := okCs_cons h
  cases okCs_nil h
  obtain ⟨n0, rfl, w0⟩ := okC_int c0
  obtain ⟨n1, rfl, w1⟩ := okC_int c1
  obtain ⟨n2, rfl, w2⟩ := okC_int c2
  obtain ⟨n3, rfl, w3⟩ := okC_int c3
  obtain ⟨n4, rfl, w4⟩ := okC_int c4
  obtain ⟨n5, rfl, w5⟩ := okC_int c5
  obtain ⟨n6, rfl, w6⟩ := okC_int c6
  exact ⟨⟨n0, n1, n2, n3, n4, n5, n6⟩, rfl, ⟨fits_of w0, fits_of w1, fits_of w2, fits_of w3, fits_of w4, fits_of w5, fits_of w6⟩⟩
theorem av_ob {x : AV} (h : OkAV true [.int .i64, .int .i64, .int .i64, .int .i64, .int .i64, .int .i64, .int .i64] x) : ∃ o : Ob, x = o.av ∧ o.Fits := by
  obtain ⟨ds, hd, rfl⟩ := h
  obtain ⟨o, rfl, hf⟩ := okCs_ob hd
  exact ⟨o, rfl, hf⟩
structure Wr.Fits (w : Wr) : Prop where
  op : fits w.op
  ob : w.ob.Fits
  expect : fits w.expect
  stamp : fits w.stamp
theorem okCs_wr {ds : List DC} (h : OkCs [.int .i64, .int .i64, .int .i64, .int .i64, .int .i64, .int .i64, .int .i64, .int .i64, .int .i64, .int .i64] ds) : ∃ w : Wr, ds = w.dcs ∧ w.Fits := by
  obtain ⟨e0, t0, rfl, c0, h⟩ := okCs_cons h
  obtain ⟨d0, t0, rfl, b0, h⟩ := okCs_cons h
  obtain ⟨d1, t1, rfl, b1, h⟩ := okCs_cons h
  obtain ⟨d2, t2, rfl, b2, h⟩ := okCs_cons h
  obtain ⟨d3, t3, rfl, b3, h⟩ := okCs_cons h
  obtain ⟨d4, t4, rfl, b4, h⟩ := okCs_cons h
  obtain ⟨d5, t5, rfl, b5, h⟩ := okCs_cons h
  obtain ⟨d6, t6, rfl, b6, h⟩ := okCs_cons h
  obtain ⟨e1, t7, rfl, c1, h⟩ := okCs_cons h
  obtain ⟨e2, t8, rfl, c2, h⟩ := okCs_cons h
  cases okCs_nil h
  obtain ⟨o, ho, hf⟩ := okCs_ob (.cons b0 (.cons b1 (.cons b2 (.cons b3 (.cons b4 (.cons b5 (.cons b6 .nil)))))))
  simp at ho
  obtain ⟨rfl, rfl, rfl, rfl, rfl, rfl, rfl⟩ := ho
  obtain ⟨m0, rfl, w0⟩ := okC_int c0
  obtain ⟨m1, rfl, w1⟩ := okC_int c1
  obtain ⟨m2, rfl, w2⟩ := okC_int c2
  exact ⟨⟨m0, o, m1, m2⟩, rfl, ⟨fits_of w0, hf, fits_of w1, fits_of w2⟩⟩
theorem av_wr {x : AV} (h : OkAV true [.int .i64, .int .i64, .int .i64, .int .i64, .int .i64, .int .i64, .int .i64, .int .i64, .int .i64, .int .i64] x) : ∃ w : Wr, x = w.av ∧ w.Fits := by
  obtain ⟨ds, hd, rfl⟩ := h
  obtain ⟨w, rfl, hf⟩ := okCs_wr hd
  exact ⟨w, rfl, hf⟩
theorem av_bytes {x : AV} (h : OkAV false [.slice [.int .u8]] x) : ∃ bs : List UInt8, x = blist bs := by
  obtain ⟨d, hd, rfl⟩ := h
  obtain ⟨_, _, h1, c0, _⟩ := okCs_cons hd
  cases h1
  obtain ⟨rows, rfl, _, hr⟩ := okC_slice c0
  obtain ⟨bs, rfl⟩ := rows_map (f := fun b : UInt8 => [bd b]) (rows := rows) fun r hr' => by
    obtain ⟨d, ds, rfl, c1, h2⟩ := okCs_cons (hr r hr')
    cases okCs_nil h2
    obtain ⟨n, rfl, hw⟩ := okC_int c1
    have h1 : IntKind.u8.min = 0 := by decide
    have h2 : IntKind.u8.max = 255 := by decide
    simp only [Lit.wf, Bool.and_eq_true, decide_eq_true_eq, h1, h2] at hw
    refine ⟨UInt8.ofNat n.toNat, ?_⟩
    have : ((UInt8.ofNat n.toNat).toNat : Int) = n := by rw [UInt8.toNat_ofNat']; omega
    rw [bd, this]
  refine ⟨bs, ?_⟩
  have e : (bs.map fun b : UInt8 => [bd b]).flatten = bds bs := by
    clear hr c0 hd
    induction bs with
    | nil => rfl
    | cons b bs ih => simpa [bds] using ih (by simp at *; omega)
  simp [e]
end Go.Proofs.Ytiogdfliailenaa
