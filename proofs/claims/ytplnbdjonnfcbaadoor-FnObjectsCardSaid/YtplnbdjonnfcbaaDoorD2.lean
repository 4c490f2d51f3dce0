/-
  Draws: writes, objects, pods, bytes.
-/
import Derived.Test.YtplnbdjonnfcbaaDoorD1
import Derived.Test.YtplnbdjonnfcbaaDoorE2
import Derived.Test.YtplnbdjonnfcbaaDoorK6
namespace Go.Proofs.YtplnbdjonnfcbaaDoor
set_option maxRecDepth 100000
set_option linter.unusedSimpArgs false
set_option linter.unusedVariables false
set_option linter.unnecessarySimpa false
open Go Go.Abs Go.Proofs
theorem a_l1Source (code : List UInt8) {H : AHeap} {clk : Nat} {K : AV → AHeap → Nat → Prop} (hK : ∀ c, clk ≤ c → K (.one (.ptr H.length clk 0)) (H ++ [some (srcB clk code 0)]) c) : ACall Tryd.prog 31 [blist code] H clk K := by
  refine acall_of_aw Tryd.func31 rfl ?_
  simp
  exact hK _ (by omega)
structure WrS (w : Wr) : Prop where
  op : 0 ≤ w.op ∧ w.op ≤ 255
  ob : ObS w.ob
  expect : 0 ≤ w.expect ∧ w.expect ≤ 100000
  stamp : 0 ≤ w.stamp ∧ w.stamp ≤ 9999
theorem a_l2Draw {code : List UInt8} {k g p clk : Nat} {H : AHeap} {K : AV → AHeap → Nat → Prop} (hc : code.length ≤ 1048576) (hp : p ≤ 1000000)
    (hk : H[k]? = some (some (srcB g code p))) (hK : ∀ o : Ob, ObS o → ∀ q, q ≤ p + 5 → ∀ c, clk ≤ c → K o.av (H.set k (some (srcB g code q))) c) :
    ACall Tryd.prog 37 [.one (.ptr k g 0)] H clk K := by
  refine acall_ref (k := k) (c_l2Draw code g p hc hp) (by simp) (by rw [srcB_ren]; exact hk) ?_
  rintro r B Hn c ⟨⟨o, rfl, ho⟩, ⟨q, hq, rfl⟩, rfl⟩ hc
  rw [srcB_ren]
  simpa [-ABlk.ren] using hK o ho q hq c hc
set_option maxRecDepth 100000 in
theorem c_l2Write (code : List UInt8) (g p : Nat) (hc : code.length ≤ 1048576) (hp : p ≤ 900000) : RCall Tryd.prog 32 [.one (.ptr 0 g 0)] (srcB g code p) fun r B Hn =>
    (∃ w : Wr, r = w.av ∧ WrS w) ∧ (∃ q, q ≤ p + 8 ∧ B = srcB g code q) ∧ Hn = [] := by
  refine rcall_take fun clk => acall_of_aw Tryd.func32 rfl ?_
  simp
  refine a_l1Pick (code := code) (e := 2) (p := p) [1, 1, 2] hc (by omega) (by simp) rfl (by simp) (by simp [ids]) (by simp) ?_
  intro x hx c _
  simp
  refine a_l2Draw (code := code) (p := p + 1) hc (by omega) (by simp) ?_
  intro o ho q hq c _
  simp
  refine a_l1Pick (code := code) (e := 2) (p := q) [0, 1, 2, 9999] hc (by omega) (by simp) rfl (by simp) (by simp [ids]) (by simp) ?_
  intro z hz c _
  simp
  refine a_l1Pick (code := code) (e := 2) (p := q + 1) [0, 1, 5, 100000] hc (by omega) (by simp) rfl (by simp) (by simp [ids]) (by simp) ?_
  intro y hy c _
  have hx' : x = 1 ∨ x = 2 := by simp at hx; omega
  have hz' : 0 ≤ z ∧ z ≤ 9999 := by simp at hz; omega
  have hy' : 0 ≤ y ∧ y ≤ 100000 := by simp at hy; omega
  clear hx hy hz
  rcases hx' with rfl | rfl
  · simp
    exact ⟨⟨⟨1, o, y, z⟩, by simp, ⟨by simp, ho, hy', hz'⟩⟩, q + 2, by omega, rfl⟩
  · by_cases h0 : y = 0
    · subst h0
      simp
      exact ⟨⟨⟨2, o, 3, z⟩, by simp, ⟨by simp, ho, by simp, hz'⟩⟩, q + 2, by omega, rfl⟩
    · simp [h0]
      exact ⟨⟨⟨2, o, y, z⟩, by simp, ⟨by simp, ho, hy', hz'⟩⟩, q + 2, by omega, rfl⟩
theorem a_l2Write {code : List UInt8} {k g p clk : Nat} {H : AHeap} {K : AV → AHeap → Nat → Prop} (hc : code.length ≤ 1048576) (hp : p ≤ 900000)
    (hk : H[k]? = some (some (srcB g code p))) (hK : ∀ w : Wr, WrS w → ∀ q, q ≤ p + 8 → ∀ c, clk ≤ c → K w.av (H.set k (some (srcB g code q))) c) :
    ACall Tryd.prog 32 [.one (.ptr k g 0)] H clk K := by
  refine acall_ref (k := k) (c_l2Write code g p hc hp) (by simp) (by rw [srcB_ren]; exact hk) ?_
  rintro r B Hn c ⟨⟨o, rfl, ho⟩, ⟨q, hq, rfl⟩, rfl⟩ hc
  rw [srcB_ren]
  simpa [-ABlk.ren] using hK o ho q hq c hc
set_option maxRecDepth 100000 in
theorem c_DrawPodId (code : List UInt8) (hc : code.length ≤ 1048576) : FCall Tryd.prog 11 [blist code] fun r H => ∃ a b c : Int, r = .tup [iv .i64 a, iv .i64 b, iv .i64 c] ∧ (0 ≤ a ∧ a ≤ 3) ∧ (-1 ≤ b ∧ b ≤ 20) ∧ (-1 ≤ c ∧ c ≤ 24) ∧ H = [] := by
  refine fcall_gather [] id fun clk => acall_of_aw Tryd.func11 rfl ?_
  simp
  refine a_l1Source code fun c _ => ?_
  simp
  refine a_l1Pick (code := code) (e := 2) (p := 0) [1, 2, 1, 2, 0, 3] hc (by omega) (by simp) rfl (by simp) (by simp [ids]) (by simp) ?_
  intro x hx c _
  simp
  refine a_l1Pick (code := code) (e := 2) (p := 1) [0, 1, 19, 20, -1] hc (by omega) (by simp) rfl (by simp) (by simp [ids]) (by simp) ?_
  intro y hy c _
  simp
  refine a_l1Pick (code := code) (e := 2) (p := 2) [0, 1, 15, 16, 23, 24, -1] hc (by omega) (by simp) rfl (by simp) (by simp [ids]) (by simp) ?_
  intro z hz c _
  have hx' : 0 ≤ x ∧ x ≤ 3 := by simp at hx; omega
  have hy' : -1 ≤ y ∧ y ≤ 20 := by simp at hy; omega
  have hz' : -1 ≤ z ∧ z ≤ 24 := by simp at hz; omega
  clear hx hy hz
  simp [bodyA, ressA]
  first
    | exact ⟨x, y, z, ⟨rfl, rfl, rfl⟩, hx', hy', hz'⟩
    | exact ⟨hx', hy', hz'⟩
    | (trace_state; sorry)
set_option maxRecDepth 100000 in
set_option maxHeartbeats 1000000 in
theorem c_DrawObjectFault (code : List UInt8) (hc : code.length ≤ 1048576) : FCall Tryd.prog 10 [blist code] fun r H => (∃ o : Ob, r = o.av) ∧ H = [] := by
  refine fcall_gather [] id fun clk => acall_of_aw Tryd.func10 rfl ?_
  simp
  refine a_l1Source code fun c _ => ?_
  simp
  refine a_l2Draw (code := code) (p := 0) hc (by omega) (by simp) ?_
  intro o ho q hq c _
  simp
  refine a_l1Next (code := code) (p := q) 12 hc (by omega) (by omega) (by simp) ?_
  intro v hv c _
  clear ho
  obtain ⟨kind, id, a, b, c0, d, rev⟩ := o
  by_cases h0 : v = 0
  · subst h0
    simp
    refine a_l1Pick (code := code) (e := 2) (p := q + 1) [0, 5, 1, 2, 3, 4] hc (by omega) (by simp) rfl (by simp) (by simp [ids]) (by simp) ?_
    intro x hx c _
    simp
    exact ⟨⟨x, id, a, b, c0, d, rev⟩, by simp⟩
  by_cases h1 : v = 1
  · subst h1
    simp
    refine a_l1Pick (code := code) (e := 2) (p := q + 1) [-1, 20, 5, 0] hc (by omega) (by simp) rfl (by simp) (by simp [ids]) (by simp) ?_
    intro x hx c _
    simp
    exact ⟨⟨kind, x, a, b, c0, d, rev⟩, by simp⟩
  by_cases h2 : v = 2
  · subst h2
    simp
    refine a_l1Pick (code := code) (e := 2) (p := q + 1) [-1, 9, 3, 0] hc (by omega) (by simp) rfl (by simp) (by simp [ids]) (by simp) ?_
    intro x hx c _
    simp
    exact ⟨⟨kind, id, x, b, c0, d, rev⟩, by simp⟩
  by_cases h3 : v = 3
  · subst h3
    simp
    refine a_l1Pick (code := code) (e := 2) (p := q + 1) [-1, 9, 20, 1] hc (by omega) (by simp) rfl (by simp) (by simp [ids]) (by simp) ?_
    intro x hx c _
    simp
    exact ⟨⟨kind, id, a, x, c0, d, rev⟩, by simp⟩
  by_cases h4 : v = 4
  · subst h4
    simp
    refine a_l1Pick (code := code) (e := 2) (p := q + 1) [-1, 16, 24, 1] hc (by omega) (by simp) rfl (by simp) (by simp [ids]) (by simp) ?_
    intro x hx c _
    simp
    exact ⟨⟨kind, id, a, b, x, d, rev⟩, by simp⟩
  by_cases h5 : v = 5
  · subst h5
    simp
    refine a_l1Pick (code := code) (e := 2) (p := q + 1) [-1, 3, 1] hc (by omega) (by simp) rfl (by simp) (by simp [ids]) (by simp) ?_
    intro x hx c _
    simp
    exact ⟨⟨kind, id, a, b, c0, x, rev⟩, by simp⟩
  by_cases h6 : v = 6
  · subst h6
    simp
    refine a_l1Pick (code := code) (e := 2) (p := q + 1) [-1, 100000, 100001] hc (by omega) (by simp) rfl (by simp) (by simp [ids]) (by simp) ?_
    intro x hx c _
    simp
    exact ⟨⟨kind, id, a, b, c0, d, x⟩, by simp⟩
  have e0 : ¬ (v : Int) = 0 := by omega
  have e1 : ¬ (v : Int) = 1 := by omega
  have e2 : ¬ (v : Int) = 2 := by omega
  have e3 : ¬ (v : Int) = 3 := by omega
  have e4 : ¬ (v : Int) = 4 := by omega
  have e5 : ¬ (v : Int) = 5 := by omega
  have e6 : ¬ (v : Int) = 6 := by omega
  simp [h0, h1, h2, h3, h4, h5, h6, e0, e1, e2, e3, e4, e5, e6]
  exact ⟨⟨kind, id, a, b, c0, d, rev⟩, by simp⟩
set_option maxRecDepth 100000 in
set_option maxHeartbeats 1000000 in
theorem c_DrawWriteFault (code : List UInt8) (hc : code.length ≤ 1048576) : FCall Tryd.prog 28 [blist code] fun r H => (∃ w : Wr, r = w.av) ∧ H = [] := by
  refine fcall_gather [] id fun clk => acall_of_aw Tryd.func28 rfl ?_
  simp
  refine a_l1Source code fun c _ => ?_
  simp
  refine a_l2Write (code := code) (p := 0) hc (by omega) (by simp) ?_
  intro w hw q hq c _
  simp
  refine a_l1Next (code := code) (p := q) 10 hc (by omega) (by omega) (by simp) ?_
  intro v hv c _
  clear hw
  obtain ⟨op, o, expect, stamp⟩ := w
  by_cases h0 : v = 0
  · subst h0
    simp
    refine a_l1Pick (code := code) (e := 2) (p := q + 1) [0, 3] hc (by omega) (by simp) rfl (by simp) (by simp [ids]) (by simp) ?_
    intro x hx c _
    simp
    exact ⟨⟨x, o, expect, stamp⟩, by simp⟩
  by_cases h1 : v = 1
  · subst h1
    simp
    refine acall_pure (c_DrawObjectFault code hc) (by simp) ?_
    rintro r Hn c ⟨⟨o', rfl⟩, rfl⟩ _
    simp
    exact ⟨⟨op, o', expect, stamp⟩, by simp⟩
  by_cases h2 : v = 2
  · subst h2
    simp
    refine a_l1Pick (code := code) (e := 2) (p := q + 1) [-1, 100001, 0] hc (by omega) (by simp) rfl (by simp) (by simp [ids]) (by simp) ?_
    intro x hx c _
    simp
    exact ⟨⟨op, o, x, stamp⟩, by simp⟩
  by_cases h3 : v = 3
  · subst h3
    simp
    refine a_l1Pick (code := code) (e := 2) (p := q + 1) [-1, 10000] hc (by omega) (by simp) rfl (by simp) (by simp [ids]) (by simp) ?_
    intro x hx c _
    simp
    exact ⟨⟨op, o, expect, x⟩, by simp⟩
  have e0 : ¬ (v : Int) = 0 := by omega
  have e1 : ¬ (v : Int) = 1 := by omega
  have e2 : ¬ (v : Int) = 2 := by omega
  have e3 : ¬ (v : Int) = 3 := by omega
  simp [h0, h1, h2, h3, e0, e1, e2, e3]
  exact ⟨⟨op, o, expect, stamp⟩, by simp⟩
set_option maxRecDepth 100000 in
theorem c_DrawEncodeWrite (code : List UInt8) (hc : code.length ≤ 1048576) : FCall Tryd.prog 6 [blist code] fun r H => (∃ w : Wr, r = w.av) ∧ H = [] := by
  refine fcall_gather [] id fun clk => acall_of_aw Tryd.func6 rfl ?_
  simp
  refine acall_pure (c_DrawWriteFault code hc) (by simp) ?_
  rintro r Hn c ⟨⟨o', rfl⟩, rfl⟩ _
  simp
  exact ⟨o', by simp⟩
end Go.Proofs.YtplnbdjonnfcbaaDoor
