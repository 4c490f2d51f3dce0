/-
  The law of PackWord.
-/
import Derived.Test.YtaeakfbpioakmaaW7
namespace Go.Proofs.Ytaeakfbpioakmaa
open Go Go.Abs Go.Proofs

@[simp] theorem marks_take (k n : Nat) : (marks k n).take n = marks k n := List.take_of_length_le (by rw [marks_length]; exact Nat.le_refl _)

theorem c6 (n size : Int) (hn : n ≤ 9223372036854775807) : FCall Try.prog 6 [iv .i64 n, iv .i64 size] fun r H => r = bv true ∧ H = [] := by
  obtain ⟨x, hx⟩ : ∃ x, x = packCode n size := ⟨_, rfl⟩
  have k19 := c19 n size hn
  have k15 := c15 n size hn
  rw [← hx] at k19 k15
  have hsz : size.toNat ≤ 6 ∨ x ≠ 0 := by
    by_cases h : 1 ≤ size ∧ size ≤ 6
    · exact .inl (by omega)
    · refine .inr ?_
      rw [hx]; unfold packCode; rw [if_neg (fun h' => h ⟨h'.1, h'.2.1⟩)]; omega
  obtain ⟨bs, hbs⟩ : ∃ bs, bs = be n.toNat size.toNat := ⟨_, rfl⟩
  have hlen : bs.length ≤ 1048576 ∨ x ≠ 0 := by
    rcases hsz with h | h
    · refine .inl ?_; rw [hbs, be_length]; omega
    · exact .inr h
  rw [← hbs] at k19 k15
  clear hbs hsz hx
  by_cases h0 : x = 0
  · subst h0
    have hl : bs.length ≤ 1048576 := hlen.resolve_right (fun h => h rfl)
    refine fcall_gather [] id fun clk => acall_of_aw Try.func6 rfl ?_
    simp
    refine acall_pure k19 (by simp) ?_
    rintro r Hn c (⟨h, _⟩ | ⟨_, g, rfl, rfl⟩) _
    · exact absurd rfl h
    simp
    refine acall_pure k15 (by simp) ?_
    rintro r Hn c (⟨h, _⟩ | ⟨_, g2, rfl, rfl⟩) _
    · exact absurd rfl h
    simp
    refine acall_pure (c36 0 0 bs bs hl) (by simp) ?_
    rintro r Hn c ⟨rfl, rfl⟩ _
    simp
    refine acall_ref (k := 2) (c37 0 bs 1 g2 hl (by omega)) (by simp) (by simp) ?_
    rintro r B Hn c ⟨rfl, rfl, rfl⟩ _
    simp
    refine acall_pure (c38 0 1 bs.length hl (by omega)) (by simp [marks_length]) ?_
    rintro r Hn c ⟨rfl, rfl⟩ _
    have hp : (0 : Int) ≤ 1 + bs.length := by omega
    simp [hp]
    refine acall_pure k15 (by simp) ?_
    rintro r Hn c (⟨h, _⟩ | ⟨_, g3, rfl, rfl⟩) _
    · exact absurd rfl h
    simp
    refine acall_pure (c36 0 0 bs bs hl) (by simp) ?_
    rintro r Hn c ⟨rfl, rfl⟩ _
    simp
    refine acall_pure (c38 0 1 bs.length hl (by omega)) (by simp [marks_length]) ?_
    rintro r Hn c ⟨rfl, rfl⟩ _
    simp [hp]
  · refine fcall_gather [] id fun clk => acall_of_aw Try.func6 rfl ?_
    simp
    refine acall_pure k19 (by simp) ?_
    rintro r Hn c (⟨_, rfl, rfl⟩ | ⟨h, _⟩) _
    rotate_left
    · exact absurd h h0
    simp
    refine acall_pure k15 (by simp) ?_
    rintro r Hn c (⟨_, rfl, rfl⟩ | ⟨h, _⟩) _
    rotate_left
    · exact absurd h h0
    simp
    refine acall_pure (c36 x x [] [] (by simp)) (by simp) ?_
    rintro r Hn c ⟨rfl, rfl⟩ _
    simp
    refine acall_pure (c37n x 1) (by simp) ?_
    rintro r Hn c ⟨rfl, rfl⟩ _
    simp
    refine acall_pure (c38 x 1 0 (by omega) (by omega)) (by simp [marks]) ?_
    rintro r Hn c ⟨rfl, rfl⟩ _
    simp
    refine acall_pure k15 (by simp) ?_
    rintro r Hn c (⟨_, rfl, rfl⟩ | ⟨h, _⟩) _
    rotate_left
    · exact absurd h h0
    simp
    refine acall_pure (c36 x x [] [] (by simp)) (by simp) ?_
    rintro r Hn c ⟨rfl, rfl⟩ _
    simp
    refine acall_pure (c38 x 1 0 (by omega) (by omega)) (by simp [marks]) ?_
    rintro r Hn c ⟨rfl, rfl⟩ _
    simp
end Go.Proofs.Ytaeakfbpioakmaa
