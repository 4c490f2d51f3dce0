/-
  The gate: what the model lets through; the law of CheckWrite.
-/
import Derived.Test.YtiogdfliailenaaQ16
namespace Go.Proofs.Ytiogdfliailenaa
set_option maxRecDepth 100000
set_option linter.unusedSimpArgs false
set_option linter.unusedVariables false
set_option linter.unnecessarySimpa false
open Go Go.Abs Go.Proofs
abbrev wPtr (w : Wr) (x : List DC) : AV := .one (.d (.rptr (w.dcs ++ x)))
abbrev wasPtr (t : Bool) (o : Ob) : AV := .one (.d (.rptr [.s (.bool t), dc o.kind, dc o.id, dc o.a, dc o.b, dc o.c, dc o.d, dc o.rev]))
def okCode (b : Bool) : Int := if b then 0 else 8
set_option maxRecDepth 100000 in
set_option maxHeartbeats 1000000 in
theorem c_l3Lease (s : Sg) (x : List DC) (hop : s.w.op = 1 ∨ s.w.op = 2) (hb : 0 ≤ s.was.b ∧ s.was.b ≤ 65535) (hn : s.there = false → s.was = ob0) (hB : 1 ≤ s.w.ob.b) : FCall Try.prog 99 [wPtr s.w x, wasPtr s.there s.was] fun r H => r = iv .i64 (okCode s.lease) ∧ H = [] := by
  obtain ⟨⟨op, ⟨kind, id, a, b, c, d, rev⟩, expect, stamp⟩, ⟨kind', id', a', b', c', d', rev'⟩, there, ep⟩ := s
  simp only at hop hb hn hB
  have w1 : IntKind.i64.wrap (b' + 1) = b' + 1 := wrap_i64 (by omega) (by omega)
  intro clk
  refine acall_of_aw Try.func99 rfl ?_
  unfold Sg.lease okCode
  cases there with
  | false =>
    have h0 := hn rfl
    simp only [ob0, Ob.mk.injEq] at h0
    obtain ⟨rfl, rfl, rfl, rfl, rfl, rfl, rfl⟩ := h0
    have h1 : ¬ b = 0 := by omega
    simp
    refine codeOk_drawA mixed (by kernel_rfl) ?_
    rcases hop with rfl | rfl
    · by_cases h2 : stamp = b
      · by_cases h3 : b = 1
        · simp [h2, h3]
        · simp [h1, h2, h3]
      · by_cases h3 : b = 1
        · subst h3; simp [h2]
        · simp [h1, h2, h3]
    · simp
  | true =>
    simp
    refine codeOk_drawA mixed (by kernel_rfl) ?_
    by_cases h3 : a = a'
    · by_cases h4 : b = b'
      · simp [h3, h4, w1]
        refine codeOk_drawA mixed (by kernel_rfl) ?_
        rcases hop with rfl | rfl
        · by_cases h2 : stamp = b' <;> simp [h2]
        · simp
      · by_cases h5 : b = b' + 1
        · have h6 : ¬ b' + 1 = b' := by omega
          simp [h3, h5, h6, w1]
          refine codeOk_drawA mixed (by kernel_rfl) ?_
          rcases hop with rfl | rfl
          · by_cases h2 : stamp = b' + 1 <;> simp [h2]
          · simp
        · simp [h3, h4, h5, w1]
          refine codeOk_drawA mixed (by kernel_rfl) ?_
          rcases hop with rfl | rfl
          · by_cases h2 : stamp = b <;> simp [h2, h4, h5]
          · simp
    · by_cases h5 : b = b' + 1
      · simp [h3, h5, w1]
        refine codeOk_drawA mixed (by kernel_rfl) ?_
        rcases hop with rfl | rfl
        · by_cases h2 : stamp = b' + 1 <;> simp [h2]
        · simp
      · simp [h3, h5, w1]
        refine codeOk_drawA mixed (by kernel_rfl) ?_
        rcases hop with rfl | rfl
        · by_cases h2 : stamp = b <;> simp [h2, h3, h5]
        · simp
set_option maxRecDepth 100000 in
set_option maxHeartbeats 1000000 in
theorem c_l3User (s : Sg) (x : List DC) : FCall Try.prog 100 [wPtr s.w x, wasPtr s.there s.was] fun r H => r = iv .i64 (okCode s.user) ∧ H = [] := by
  obtain ⟨⟨op, ⟨kind, id, a, b, c, d, rev⟩, expect, stamp⟩, ⟨kind', id', a', b', c', d', rev'⟩, there, ep⟩ := s
  intro clk
  refine acall_of_aw Try.func100 rfl ?_
  unfold Sg.user okCode
  by_cases k3 : kind = 3
  · by_cases h1 : op = 1
    · cases there with
      | true =>
        by_cases h2 : d' = 0
        · by_cases h3 : d = 0
          · simp [k3, h1, h2, h3]
          · simp [k3, h1, h2, h3]
            refine codeOk_drawA mixed (by kernel_rfl) ?_
            simp
        · simp [k3, h1, h2]
      | false => simp [k3, h1]
    · simp [k3, h1]
  · simp [k3]
    refine codeOk_drawA mixed (by kernel_rfl) ?_
    by_cases k2 : kind = 2
    · by_cases h1 : op = 1
      · by_cases h2 : b = b' <;> simp [k2, h1, h2]
      · simp [k2, h1]
    · simp [k2, k3]
set_option maxRecDepth 100000 in
set_option maxHeartbeats 1000000 in
theorem c_l3Leader (s : Sg) (x : List DC) (hk : s.w.ob.kind = 1 ∨ s.w.ob.kind = 2 ∨ s.w.ob.kind = 3) : FCall Try.prog 101 [wPtr s.w x, wasPtr s.there s.was] fun r H => r = iv .i64 (okCode s.replica) ∧ H = [] := by
  obtain ⟨⟨op, ⟨kind, id, a, b, c, d, rev⟩, expect, stamp⟩, ⟨kind', id', a', b', c', d', rev'⟩, there, ep⟩ := s
  simp only at hk
  intro clk
  refine acall_of_aw Try.func101 rfl ?_
  unfold Sg.replica okCode
  rcases hk with rfl | rfl | rfl
  · simp
  · simp
    refine codeOk_drawA mixed (by kernel_rfl) ?_
    by_cases h1 : op = 1
    · cases there with
      | true => by_cases h2 : a = a' <;> simp [h1, h2]
      | false => simp [h1]
    · simp [h1]
  · by_cases h1 : op = 1
    · cases there with
      | true => simp [h1]
      | false => by_cases h3 : d = 0 <;> simp [h1, h3]
    · simp [h1]
abbrev stPtr (s : St) : AV := .one (.d (.rptr [dc s.rev, .list s.obs.length (rds s.obs), .list s.hist.length (rds s.hist)]))
set_option maxRecDepth 100000 in
set_option maxHeartbeats 1000000 in
theorem c_l3Gate (s : St) (w : Wr) (x : List DC) (hs : stFault s = 0) (hw : wrFault w = 0) : FCall Try.prog 93 [stPtr s, wPtr w x, wasPtr (thereOb s.obs w) (wasOb s.obs w)] fun r H => r = iv .i64 (sgOf s w).stepRf.code ∧ H = [] := by
  obtain ⟨hin, hof⟩ := wrFault_in hw
  have hop : w.op = 1 ∨ w.op = 2 := by
    unfold wrFault at hw
    split at hw
    · omega
    · omega
  have hk := (obFault_in hof).1
  obtain ⟨_, hl, _, _, hr, _⟩ := stFault_all hs
  have hb := wasOb_b hs w
  have hn : thereOb s.obs w = false → wasOb s.obs w = ob0 := by
    unfold thereOb wasOb
    cases findOb s.obs w.ob.kind w.ob.id with
    | none => intro _; rfl
    | some o => intro h; cases h
  have hE := c_l3Epoch s.obs (by omega) hr
  unfold Sg.stepRf sgOf
  by_cases k4 : w.ob.kind = 4
  · have hB : 1 ≤ w.ob.b := by
      unfold obFault at hof
      rw [if_pos hk] at hof
      split at hof
      · rename_i h
        have := h.2
        unfold kindOk at this
        rw [if_neg (by omega), if_neg (by omega), if_neg (by omega)] at this
        unfold leaseOk at this
        omega
      · omega
    have hc := c_l3Lease (sgOf s w) x hop hb hn hB
    unfold sgOf at hc
    simp only at hc
    intro clk
    refine acall_of_aw Try.func93 rfl ?_
    simp [k4]
    refine acall_val hc (by simp [k4]) (by simp) ?_
    simp
    cases (Sg.mk w (wasOb s.obs w) (thereOb s.obs w) ((findOb s.obs 4 0).getD ob0).b).lease <;> simp [okCode, Rf.code]
  · by_cases h0 : w.stamp = 0
    · have hc := c_l3User (sgOf s w) x
      unfold sgOf at hc
      simp only at hc
      intro clk
      refine acall_of_aw Try.func93 rfl ?_
      simp [k4, h0]
      refine acall_val hc (by simp [h0]) (by simp) ?_
      simp
      cases (Sg.mk w (wasOb s.obs w) (thereOb s.obs w) ((findOb s.obs 4 0).getD ob0).b).user <;> simp [okCode, Rf.code]
    · have hc := c_l3Leader (sgOf s w) x (by show w.ob.kind = 1 ∨ w.ob.kind = 2 ∨ w.ob.kind = 3; omega)
      unfold sgOf at hc
      simp only at hc
      intro clk
      refine acall_of_aw Try.func93 rfl ?_
      simp [k4, h0]
      refine codeOk_drawA mixed (by kernel_rfl) ?_
      simp
      refine qcall_val hE (by simp) (by simp) ?_
      by_cases he : w.stamp = ((findOb s.obs 4 0).getD ob0).b
      · simp [he]
        refine acall_val hc (by simp [he]) (by simp) ?_
        simp
        cases (Sg.mk w (wasOb s.obs w) (thereOb s.obs w) ((findOb s.obs 4 0).getD ob0).b).replica <;> simp [okCode, Rf.code]
      · simp [he, Rf.code]
end Go.Proofs.Ytiogdfliailenaa
