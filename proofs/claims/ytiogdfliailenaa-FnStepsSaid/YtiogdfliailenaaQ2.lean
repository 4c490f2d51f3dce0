/-
  Objects: what can be, as numbers; what the small functions on them answer.
-/
import Derived.Test.YtiogdfliailenaaQ1
import Derived.Test.YtiogdfliailenaaK3
namespace Go.Proofs.Ytiogdfliailenaa
set_option maxRecDepth 100000
set_option linter.unusedSimpArgs false
set_option linter.unusedVariables false
set_option linter.unnecessarySimpa false
open Go Go.Abs Go.Proofs

abbrev ic (n : Int) : AC := .d (.s (.int .i64 n))
abbrev dc (n : Int) : DC := .s (.int .i64 n)
structure Ob where
  kind : Int
  id : Int
  a : Int
  b : Int
  c : Int
  d : Int
  rev : Int
  deriving DecidableEq
abbrev Ob.cells (o : Ob) : List AC := [ic o.kind, ic o.id, ic o.a, ic o.b, ic o.c, ic o.d, ic o.rev]
abbrev Ob.av (o : Ob) : AV := .agg o.cells
abbrev Ob.dcs (o : Ob) : List DC := [dc o.kind, dc o.id, dc o.a, dc o.b, dc o.c, dc o.d, dc o.rev]


/-! What was made -/
def mkSet (id want : Int) : Ob := ⟨1, id, want, 0, 0, 0, 0⟩
def mkJob (id want done : Int) : Ob := ⟨2, id, want, done, 0, 0, 0⟩
def mkLease (holder epoch : Int) : Ob := ⟨4, 0, holder, epoch, 0, 0, 0⟩
theorem c_sNewSet (a b : Int) : FCall Try.prog 97 [iv .i64 a, iv .i64 b] fun r H => r = (mkSet a b).av ∧ H = [] := by
  refine fcall_gather [] id fun clk => acall_of_aw Try.func97 rfl ?_
  simp [mkSet]
theorem c_sNewJob (a b c : Int) : FCall Try.prog 98 [iv .i64 a, iv .i64 b, iv .i64 c] fun r H => r = (mkJob a b c).av ∧ H = [] := by
  refine fcall_gather [] id fun clk => acall_of_aw Try.func98 rfl ?_
  simp [mkJob]
theorem c_sNewLease (a b : Int) : FCall Try.prog 78 [iv .i64 a, iv .i64 b] fun r H => r = (mkLease a b).av ∧ H = [] := by
  refine fcall_gather [] id fun clk => acall_of_aw Try.func78 rfl ?_
  simp [mkLease]

/-! Ids of pods -/
def podMost (k : Int) : Int := if k = 1 then 15 else 23
def podCode (k w i : Int) : Int := if k = 1 ∨ k = 2 then (if 0 ≤ w ∧ w ≤ 19 ∧ 0 ≤ i ∧ i ≤ podMost k then 0 else 3) else 1
def podNum (k w i : Int) : Int := 10000 * k + 100 * w + i
def podVal (k w i : Int) : Int := if podCode k w i = 0 then podNum k w i else 0
set_option maxRecDepth 100000 in
theorem c_PodId (k w i : Int) : FCall Try.prog 65 [iv .i64 k, iv .i64 w, iv .i64 i] fun r H => r = .agg [ic (podCode k w i), ic (podVal k w i)] ∧ H = [] := by
  have key : ∀ n : Int, (n = 1 ∨ n = 2) → k = n → FCall Try.prog 65 [iv .i64 n, iv .i64 w, iv .i64 i] fun r H => r = .agg [ic (podCode n w i), ic (podVal n w i)] ∧ H = [] := by
    rintro n hn rfl
    refine fcall_gather [] id fun clk => acall_of_aw Try.func65 rfl ?_
    have e1 : IntKind.i64.wrap 15 = 15 := rfl
    have e2 : IntKind.i64.wrap 23 = 23 := rfl
    have e3 : IntKind.i64.wrap 20000 = 20000 := rfl
    have e4 : IntKind.i64.wrap 10000 = 10000 := rfl
    by_cases hin : 0 ≤ w ∧ w ≤ 19 ∧ 0 ≤ i ∧ i ≤ podMost k
    · have hi : i ≤ 23 := by have := hin.2.2.2; unfold podMost at this; split at this <;> omega
      have h1 : IntKind.i64.wrap (100 * w) = 100 * w := wrap_i64 (by omega) (by omega)
      have h2 : IntKind.i64.wrap (10000 + 100 * w) = 10000 + 100 * w := wrap_i64 (by omega) (by omega)
      have h3 : IntKind.i64.wrap (20000 + 100 * w) = 20000 + 100 * w := wrap_i64 (by omega) (by omega)
      have h4 : IntKind.i64.wrap (10000 + 100 * w + i) = 10000 + 100 * w + i := wrap_i64 (by omega) (by omega)
      have h5 : IntKind.i64.wrap (20000 + 100 * w + i) = 20000 + 100 * w + i := wrap_i64 (by omega) (by omega)
      rcases hn with rfl | rfl
      · simp
        refine acall_pure (c_inBounds [⟨w, 0, 19⟩, ⟨i, 0, 15⟩] (by simp)) (by simp [sps, AC.dc?, e1]) ?_
        rintro r Hn c ⟨rfl, rfl⟩ _
        obtain ⟨g1, g2, g3, g4⟩ := hin
        simp only [podMost] at g4
        simp at g4
        simp [OkAll, Sp.ok, g1, g2, g3, g4, podCode, podVal, podMost, podNum, h1, h2, h4, e4]
      · simp
        refine acall_pure (c_inBounds [⟨w, 0, 19⟩, ⟨i, 0, 23⟩] (by simp)) (by simp [sps, AC.dc?, e2]) ?_
        rintro r Hn c ⟨rfl, rfl⟩ _
        obtain ⟨g1, g2, g3, g4⟩ := hin
        simp only [podMost] at g4
        simp at g4
        simp [OkAll, Sp.ok, g1, g2, g3, g4, podCode, podVal, podMost, podNum, h1, h3, h5, e3]
    · rcases hn with rfl | rfl
      · simp
        refine acall_pure (c_inBounds [⟨w, 0, 19⟩, ⟨i, 0, 15⟩] (by simp)) (by simp [sps, AC.dc?, e1]) ?_
        rintro r Hn c ⟨rfl, rfl⟩ _
        have hf : OkAll [⟨w, 0, 19⟩, ⟨i, 0, 15⟩] = false := by
          rw [Bool.eq_false_iff]; intro h; apply hin; simp [OkAll, Sp.ok] at h; simp [podMost]; omega
        simp [hf, podCode, podVal, hin]
      · simp
        refine acall_pure (c_inBounds [⟨w, 0, 19⟩, ⟨i, 0, 23⟩] (by simp)) (by simp [sps, AC.dc?, e2]) ?_
        rintro r Hn c ⟨rfl, rfl⟩ _
        have hf : OkAll [⟨w, 0, 19⟩, ⟨i, 0, 23⟩] = false := by
          rw [Bool.eq_false_iff]; intro h; apply hin; simp [OkAll, Sp.ok] at h; simp [podMost]; omega
        simp [hf, podCode, podVal, hin]
  by_cases h1 : k = 1
  · subst h1; exact key 1 (.inl rfl) rfl
  · by_cases h2 : k = 2
    · subst h2; exact key 2 (.inr rfl) rfl
    · refine fcall_gather [] id fun clk => acall_of_aw Try.func65 rfl ?_
      simp [h1, h2, podCode, podVal]
theorem c_l2PodId (k w i : Int) (hk : k = 1 ∨ k = 2) (hw : 0 ≤ w ∧ w ≤ 19) (hi : 0 ≤ i ∧ i ≤ 23) : FCall Try.prog 88 [iv .i64 k, iv .i64 w, iv .i64 i] fun r H => r = iv .i64 (podNum k w i) ∧ H = [] := by
  refine fcall_gather [] id fun clk => acall_of_aw Try.func88 rfl ?_
  have h1 : IntKind.i64.wrap (100 * w) = 100 * w := wrap_i64 (by omega) (by omega)
  have h2 : IntKind.i64.wrap (10000 * k) = 10000 * k := wrap_i64 (by omega) (by omega)
  have h3 : IntKind.i64.wrap (10000 * k + 100 * w) = 10000 * k + 100 * w := wrap_i64 (by omega) (by omega)
  have h4 : IntKind.i64.wrap (10000 * k + 100 * w + i) = 10000 * k + 100 * w + i := wrap_i64 (by omega) (by omega)
  simp [h1, h2, h3, h4, podNum]
set_option maxRecDepth 100000 in
theorem c_isBetween (o l m : Ob) : FCall Try.prog 66 [o.av, l.av, m.av] fun r H => r = bv (OkAll [⟨o.id, l.id, m.id⟩, ⟨o.a, l.a, m.a⟩, ⟨o.b, l.b, m.b⟩, ⟨o.c, l.c, m.c⟩, ⟨o.d, l.d, m.d⟩, ⟨o.rev, l.rev, m.rev⟩]) ∧ H = [] := by
  refine fcall_gather [] id fun clk => acall_of_aw Try.func66 rfl ?_
  simp
  refine acall_pure (c_inBounds [⟨o.id, l.id, m.id⟩, ⟨o.a, l.a, m.a⟩, ⟨o.b, l.b, m.b⟩, ⟨o.c, l.c, m.c⟩, ⟨o.d, l.d, m.d⟩, ⟨o.rev, l.rev, m.rev⟩] (by simp)) (by simp [sps, AC.dc?]) ?_
  rintro r Hn c ⟨rfl, rfl⟩ _
  simp
end Go.Proofs.Ytiogdfliailenaa
