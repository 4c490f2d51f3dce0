/-
  The laws of objects.
-/
import Derived.Test.YtceafhcjiichfaaO4
import Derived.Test.YtceafhcjiichfaaAbs25
namespace Go.Proofs.Ytceafhcjiichfaa
set_option linter.unusedSimpArgs false
set_option linter.unusedVariables false
open Go Go.Abs Go.Proofs

def TT (r : AV) (H : AHeap) : Prop := r = .one (.d (.s (.bool true))) ∧ H = []
@[simp] theorem TT_true (r : AV) (H : AHeap) : TT r H ↔ (r = .one (.d (.s (.bool true))) ∧ H = []) := Iff.rfl
/-! The arguments of the laws -/
def fits (n : Int) : Prop := -9223372036854775808 ≤ n ∧ n ≤ 9223372036854775807
theorem fits_of {n : Int} (h : (Lit.int .i64 n).wf = true) : fits n := by
  have h1 : IntKind.i64.min = -9223372036854775808 := by decide
  have h2 : IntKind.i64.max = 9223372036854775807 := by decide
  simp only [Lit.wf, Bool.and_eq_true, decide_eq_true_eq, h1, h2] at h
  exact h
theorem av_int {x : AV} (h : OkAV false [.int .i64] x) : ∃ n, x = iv .i64 n ∧ fits n := by
  obtain ⟨d, hd, rfl⟩ := h
  obtain ⟨_, _, h1, c0, _⟩ := okCs_cons hd
  cases h1
  obtain ⟨n, rfl, hw⟩ := okC_int c0
  exact ⟨n, rfl, fits_of hw⟩
structure Ob.Fits (o : Ob) : Prop where
  kind : fits o.kind
  id : fits o.id
  a : fits o.a
  b : fits o.b
  c : fits o.c
  d : fits o.d
  rev : fits o.rev
theorem okCs_ob {ds : List DC} (h : OkCs [.int .i64, .int .i64, .int .i64, .int .i64, .int .i64, .int .i64, .int .i64] ds) : ∃ o : Ob, ds = o.dcs ∧ o.Fits := by
  obtain ⟨d0, t0, rfl, c0, h⟩ := okCs_cons h
  obtain ⟨d1, t1, rfl, c1, h⟩ := okCs_cons h
  obtain ⟨d2, t2, rfl, c2, h⟩ := okCs_cons h
  obtain ⟨d3, t3, rfl, c3, h⟩ := okCs_cons h
  obtain ⟨d4, t4, rfl, c4, h⟩ := okCs_cons h
  obtain ⟨d5, t5, rfl, c5, h⟩ := okCs_cons h
  obtain ⟨d6, t6, rfl, c6, h⟩ := okCs_cons h
  cases okCs_nil h
  obtain ⟨n0, rfl, w0⟩ := okC_int c0
  obtain ⟨n1, rfl, w1⟩ := okC_int c1
  obtain ⟨n2, rfl, w2⟩ := okC_int c2
  obtain ⟨n3, rfl, w3⟩ := okC_int c3
  obtain ⟨n4, rfl, w4⟩ := okC_int c4
  obtain ⟨n5, rfl, w5⟩ := okC_int c5
  obtain ⟨n6, rfl, w6⟩ := okC_int c6
  exact ⟨⟨n0, n1, n2, n3, n4, n5, n6⟩, rfl, ⟨fits_of w0, fits_of w1, fits_of w2, fits_of w3, fits_of w4, fits_of w5, fits_of w6⟩⟩
theorem av_ob {x : AV} (h : OkAV true [.int .i64, .int .i64, .int .i64, .int .i64, .int .i64, .int .i64, .int .i64] x) : ∃ o : Ob, x = o.av ∧ o.Fits := by
  obtain ⟨ds, hd, rfl⟩ := h
  obtain ⟨o, rfl, hf⟩ := okCs_ob hd
  exact ⟨o, rfl, hf⟩
structure Wr.Fits (w : Wr) : Prop where
  op : fits w.op
  ob : w.ob.Fits
  expect : fits w.expect
  stamp : fits w.stamp
theorem okCs_wr {ds : List DC} (h : OkCs [.int .i64, .int .i64, .int .i64, .int .i64, .int .i64, .int .i64, .int .i64, .int .i64, .int .i64, .int .i64] ds) : ∃ w : Wr, ds = w.dcs ∧ w.Fits := by
  obtain ⟨e0, t0, rfl, c0, h⟩ := okCs_cons h
  obtain ⟨d0, t0, rfl, b0, h⟩ := okCs_cons h
  obtain ⟨d1, t1, rfl, b1, h⟩ := okCs_cons h
  obtain ⟨d2, t2, rfl, b2, h⟩ := okCs_cons h
  obtain ⟨d3, t3, rfl, b3, h⟩ := okCs_cons h
  obtain ⟨d4, t4, rfl, b4, h⟩ := okCs_cons h
  obtain ⟨d5, t5, rfl, b5, h⟩ := okCs_cons h
  obtain ⟨d6, t6, rfl, b6, h⟩ := okCs_cons h
  obtain ⟨e1, t7, rfl, c1, h⟩ := okCs_cons h
  obtain ⟨e2, t8, rfl, c2, h⟩ := okCs_cons h
  cases okCs_nil h
  obtain ⟨o, ho, hf⟩ := okCs_ob (.cons b0 (.cons b1 (.cons b2 (.cons b3 (.cons b4 (.cons b5 (.cons b6 .nil)))))))
  simp at ho
  obtain ⟨rfl, rfl, rfl, rfl, rfl, rfl, rfl⟩ := ho
  obtain ⟨m0, rfl, w0⟩ := okC_int c0
  obtain ⟨m1, rfl, w1⟩ := okC_int c1
  obtain ⟨m2, rfl, w2⟩ := okC_int c2
  exact ⟨⟨m0, o, m1, m2⟩, rfl, ⟨fits_of w0, hf, fits_of w1, fits_of w2⟩⟩
theorem av_wr {x : AV} (h : OkAV true [.int .i64, .int .i64, .int .i64, .int .i64, .int .i64, .int .i64, .int .i64, .int .i64, .int .i64, .int .i64] x) : ∃ w : Wr, x = w.av ∧ w.Fits := by
  obtain ⟨ds, hd, rfl⟩ := h
  obtain ⟨w, rfl, hf⟩ := okCs_wr hd
  exact ⟨w, rfl, hf⟩
set_option maxRecDepth 100000 in
theorem law_ObjectFault (o : Ob) : FCall Try.prog 4 [o.av] TT := by
  refine fcall_gather [] id fun clk => acall_of_aw Try.func4 rfl ?_
  simp
  refine acall_val (c_toObject o) (by simp) (by simp) ?_
  simp
  refine acall_val (c_sObjectFault o) (by simp) (by simp) ?_
  simp
  refine acall_val (c_toObject o) (by simp) (by simp) ?_
  simp
  refine acall_val (c_ObjectFault o) (by simp) (by simp) ?_
  simp
set_option maxRecDepth 100000 in
theorem law_WriteFault (w : Wr) : FCall Try.prog 6 [w.av] TT := by
  refine fcall_gather [] id fun clk => acall_of_aw Try.func6 rfl ?_
  simp
  refine acall_val (c_toWrite w) (by simp) (by simp) ?_
  simp
  refine acall_val (c_sWriteFault w) (by simp) (by simp) ?_
  simp
  refine acall_val (c_toWrite w) (by simp) (by simp) ?_
  simp
  refine acall_val (c_WriteFault w) (by simp) (by simp) ?_
  simp
set_option maxRecDepth 100000 in
theorem law_PodId (k w i : Int) : FCall Try.prog 5 [iv .i64 k, iv .i64 w, iv .i64 i] TT := by
  refine fcall_gather [] id fun clk => acall_of_aw Try.func5 rfl ?_
  simp
  refine acall_val (c_sPodId k w i) (by simp) (by simp) ?_
  simp
  refine acall_val (c_PodId k w i) (by simp) (by simp) ?_
  simp
  refine acall_val (c_eqIntResult (podCode k w i) (podVal k w i) (podCode k w i) (podVal k w i)) (by simp) (by simp) ?_
  simp
set_option maxRecDepth 100000 in
theorem law_NewSet (a b : Int) : FCall Try.prog 7 [iv .i64 a, iv .i64 b] TT := by
  refine fcall_gather [] id fun clk => acall_of_aw Try.func7 rfl ?_
  simp
  refine acall_val (c_sNewSet a b) (by simp) (by simp) ?_
  simp
  refine acall_val (c_NewSet a b) (by simp) (by simp) ?_
  simp
  refine acall_val (c_eqObject (mkSet a b) (mkSet a b)) (by simp) (by simp) ?_
  simp
set_option maxRecDepth 100000 in
theorem law_NewJob (a b c : Int) : FCall Try.prog 8 [iv .i64 a, iv .i64 b, iv .i64 c] TT := by
  refine fcall_gather [] id fun clk => acall_of_aw Try.func8 rfl ?_
  simp
  refine acall_val (c_sNewJob a b c) (by simp) (by simp) ?_
  simp
  refine acall_val (c_NewJob a b c) (by simp) (by simp) ?_
  simp
  refine acall_val (c_eqObject (mkJob a b c) (mkJob a b c)) (by simp) (by simp) ?_
  simp
set_option maxRecDepth 100000 in
theorem law_NewPod (k w i : Int) : FCall Try.prog 9 [iv .i64 k, iv .i64 w, iv .i64 i] TT := by
  refine fcall_gather [] id fun clk => acall_of_aw Try.func9 rfl ?_
  simp
  refine acall_val (c_sNewPod k w i) (by simp) (by simp) ?_
  simp
  refine acall_val (c_NewPod k w i) (by simp) (by simp) ?_
  simp
  refine acall_val (c_eqObject ⟨3, podVal k w i, k, w, i, 0, 0⟩ ⟨3, podVal k w i, k, w, i, 0, 0⟩) (by simp) (by simp) ?_
  simp
set_option maxRecDepth 100000 in
theorem law_NewLease (a b : Int) : FCall Try.prog 10 [iv .i64 a, iv .i64 b] TT := by
  refine fcall_gather [] id fun clk => acall_of_aw Try.func10 rfl ?_
  simp
  refine acall_val (c_sNewLease a b) (by simp) (by simp) ?_
  simp
  refine acall_val (c_NewLease a b) (by simp) (by simp) ?_
  simp
  refine acall_val (c_eqObject (mkLease a b) (mkLease a b)) (by simp) (by simp) ?_
  simp
/-! The walks -/
theorem walk_FnExactObjectFault {x : AV} (h : OkAV true [.int .i64, .int .i64, .int .i64, .int .i64, .int .i64, .int .i64, .int .i64] x) : FCall Try.prog 4 [x] TT := by
  obtain ⟨o, rfl, _⟩ := av_ob h; exact law_ObjectFault o
theorem walk_FnExactWriteFault {x : AV} (h : OkAV true [.int .i64, .int .i64, .int .i64, .int .i64, .int .i64, .int .i64, .int .i64, .int .i64, .int .i64, .int .i64] x) : FCall Try.prog 6 [x] TT := by
  obtain ⟨w, rfl, _⟩ := av_wr h; exact law_WriteFault w
theorem walk_FnExactPodId {x y z : AV} (h : OkAV false [.int .i64] x) (h1 : OkAV false [.int .i64] y) (h2 : OkAV false [.int .i64] z) : FCall Try.prog 5 [x, y, z] TT := by
  obtain ⟨a, rfl, _⟩ := av_int h; obtain ⟨b, rfl, _⟩ := av_int h1; obtain ⟨c, rfl, _⟩ := av_int h2; exact law_PodId a b c
theorem walk_FnExactNewPod {x y z : AV} (h : OkAV false [.int .i64] x) (h1 : OkAV false [.int .i64] y) (h2 : OkAV false [.int .i64] z) : FCall Try.prog 9 [x, y, z] TT := by
  obtain ⟨a, rfl, _⟩ := av_int h; obtain ⟨b, rfl, _⟩ := av_int h1; obtain ⟨c, rfl, _⟩ := av_int h2; exact law_NewPod a b c
theorem walk_FnExactNewJob {x y z : AV} (h : OkAV false [.int .i64] x) (h1 : OkAV false [.int .i64] y) (h2 : OkAV false [.int .i64] z) : FCall Try.prog 8 [x, y, z] TT := by
  obtain ⟨a, rfl, _⟩ := av_int h; obtain ⟨b, rfl, _⟩ := av_int h1; obtain ⟨c, rfl, _⟩ := av_int h2; exact law_NewJob a b c
theorem walk_FnExactNewSet {x y : AV} (h : OkAV false [.int .i64] x) (h1 : OkAV false [.int .i64] y) : FCall Try.prog 7 [x, y] TT := by
  obtain ⟨a, rfl, _⟩ := av_int h; obtain ⟨b, rfl, _⟩ := av_int h1; exact law_NewSet a b
theorem walk_FnExactNewLease {x y : AV} (h : OkAV false [.int .i64] x) (h1 : OkAV false [.int .i64] y) : FCall Try.prog 10 [x, y] TT := by
  obtain ⟨a, rfl, _⟩ := av_int h; obtain ⟨b, rfl, _⟩ := av_int h1; exact law_NewLease a b
end Go.Proofs.Ytceafhcjiichfaa
