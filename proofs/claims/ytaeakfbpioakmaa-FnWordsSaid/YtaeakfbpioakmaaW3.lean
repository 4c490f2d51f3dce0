/-
  Equal bytes.
-/
import Derived.Test.YtaeakfbpioakmaaW1
namespace Go.Proofs.Ytaeakfbpioakmaa
open Go Go.Abs Go.Proofs

@[simp] theorem bytes_beq (a b : List UInt8) : (a == b) = decide (a = b) := by
  by_cases h : a = b
  · subst h; simp
  · simp [h]

theorem c46 (a b : List UInt8) : FCall Try.prog 46 [blist a, blist b] fun r H => r = bv (decide (a = b)) ∧ H = [] := by
  intro clk
  refine acall_of_aw Try.func46 rfl ?_
  simp
theorem c58 (a b : List UInt8) : FCall Try.prog 58 [blist a, blist b] fun r H => r = bv (decide (a = b)) ∧ H = [] := by
  intro clk
  refine acall_of_aw Try.func58 rfl ?_
  simp
theorem c21 (a b : List UInt8) : FCall Try.prog 21 [blist a, blist b] fun r H => r = bv (decide (a = b)) ∧ H = [] := by
  intro clk
  refine acall_of_aw Try.func21 rfl ?_
  simp
  refine acall_pure (c58 a b) (by simp) ?_
  rintro r Hn c ⟨rfl, rfl⟩ _
  simp
theorem c12 (a b : List UInt8) : FCall Try.prog 12 [blist a, blist b] fun r H => r = bv true ∧ H = [] := by
  refine fcall_gather [] id fun clk => acall_of_aw Try.func12 rfl ?_
  by_cases ha : a.length ≤ 1048576
  · have ha' : (a.length : Int) ≤ 1048576 := by omega
    by_cases hb : b.length ≤ 1048576
    · have hb' : (b.length : Int) ≤ 1048576 := by omega
      simp [ha', hb']
      refine acall_pure (c39 a ha) (by simp) ?_
      rintro r Hn c ⟨g, rfl, rfl⟩ _
      simp
      refine acall_pure (c39 b hb) (by simp) ?_
      rintro r Hn c ⟨g, rfl, rfl⟩ _
      simp
      refine acall_pure (c46 a b) (by simp) ?_
      rintro r Hn c ⟨rfl, rfl⟩ _
      simp
      refine acall_pure (c39 a ha) (by simp) ?_
      rintro r Hn c ⟨g, rfl, rfl⟩ _
      simp
      refine acall_pure (c39 b hb) (by simp) ?_
      rintro r Hn c ⟨g, rfl, rfl⟩ _
      simp
      refine acall_pure (c21 a b) (by simp) ?_
      rintro r Hn c ⟨rfl, rfl⟩ _
      simp
      refine acall_pure (c39 a ha) (by simp) ?_
      rintro r Hn c ⟨g, rfl, rfl⟩ _
      simp
      refine acall_pure (c41 a a ha) (by simp) ?_
      rintro r Hn c ⟨rfl, rfl⟩ _
      simp
      refine acall_pure (c39 b hb) (by simp) ?_
      rintro r Hn c ⟨g, rfl, rfl⟩ _
      simp
      refine acall_pure (c41 b b hb) (by simp) ?_
      rintro r Hn c ⟨rfl, rfl⟩ _
      simp
    · have hb' : ¬ (b.length : Int) ≤ 1048576 := by omega
      simp [ha', hb']
  · have ha' : ¬ (a.length : Int) ≤ 1048576 := by omega
    simp [ha']
end Go.Proofs.Ytaeakfbpioakmaa
