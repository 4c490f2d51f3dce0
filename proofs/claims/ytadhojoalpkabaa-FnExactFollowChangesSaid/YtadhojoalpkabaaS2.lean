/-
  Stores compared.
-/
import Derived.Test.YtadhojoalpkabaaS1
namespace Go.Proofs.Ytadhojoalpkabaa
set_option maxRecDepth 100000
set_option linter.unusedSimpArgs false
set_option linter.unusedVariables false
set_option linter.unnecessarySimpa false
open Go Go.Abs Go.Proofs
set_option maxRecDepth 100000 in
theorem c_eqChange (x y : Ch) : FCall Try.prog 28 [x.av, y.av] fun r H => r = bv (decide (x = y)) ∧ H = [] := by
  have e : (x = y) ↔ (x.rev = y.rev ∧ x.gone = y.gone ∧ x.ob = y.ob) := by cases x; cases y; simp
  refine fcall_gather [] id fun clk => acall_of_aw Try.func28 rfl ?_
  by_cases h1 : x.rev = y.rev
  · by_cases h2 : x.gone = y.gone
    · simp [h1, h2]
      refine acall_val (c_eqObject x.ob y.ob) (by simp) (by simp) ?_
      simp [e, h1, h2]
    · simp [h1, h2, e]
  · simp [h1, e]
theorem c_eqChangeS (a b : List Ch) (ha : a.length ≤ 1048576) : FCall Try.prog 12 [rlist a, rlist b] fun r H => r = bv (decide (a = b)) ∧ H = [] := by
  intro clk
  refine acall_of_aw Try.func12 rfl ?_
  by_cases hl : a.length = b.length
  · simp [hl]
    refine codeOk_loop [true, true, false, false, false, true] 0 (fun s => ∃ (i c : Nat), i ≤ a.length ∧ a.take i = b.take i ∧ s = ⟨[rlist a, rlist b, unknown, unknown, unknown, iv .i64 i] ++ List.replicate 21 unknown, [], c⟩)
      (fun s => match s.tmps.getD 5 unknown with | .one (.d (.s (.int _ i))) => a.length - i.toNat | _ => 0) ?_ ?_
    · simp [hl]
      exact ⟨0, Nat.zero_le _, rfl, rfl⟩
    · rintro s ⟨i, c, hi, ht, rfl⟩
      by_cases hlt : i < a.length
      · have hw := wrap_succ (i := i) (by omega)
        have hlt' : i < b.length := by omega
        obtain ⟨x, t, hd, hx, _, _⟩ := drop_at a hlt
        obtain ⟨y, u, hd', hy, _, _⟩ := drop_at b hlt'
        simp [hlt, hw]
        refine codeOk_drawA mixed (by kernel_rfl) ?_
        simp [hlt, hlt', hd, hd']
        refine qcall_val (c_eqChange x y) (by simp) (by simp) ?_
        by_cases he : x = y
        · simp [he, hw]
          exact ⟨⟨i + 1, by omega, take_snoc_row hx hy ht he, by omega⟩, by omega⟩
        · simp [he]
          exact ne_at hx hy he
      · have e : i = a.length := by omega
        subst e
        simp
        rw [List.take_length, hl, List.take_length] at ht
        exact ht
  · have hne : a ≠ b := fun e => hl (by rw [e])
    simp [hl, hne]
end Go.Proofs.Ytadhojoalpkabaa
