/-
  The law of PackFrame.
-/
import Derived.Test.YtaeakfbpioakmaaW10
namespace Go.Proofs.Ytaeakfbpioakmaa
open Go Go.Abs Go.Proofs

theorem c9 (a : List UInt8) : FCall Try.prog 9 [blist a] fun r H => r = bv true ∧ H = [] := by
  by_cases ha : a.length ≤ 1048576
  · have ha' : (a.length : Int) ≤ 1048576 := by omega
    have hpa : (0 : Int) ≤ 1 + a.length := by omega
    have hpb : ¬ (1 + (a.length : Int) < 0) := by omega
    have k29 := c29 a ha
    have k26 := c26 a ha
    obtain ⟨x, hx⟩ : ∃ x, x = frameCode a := ⟨_, rfl⟩
    obtain ⟨bs, hbs⟩ : ∃ bs, bs = frame a := ⟨_, rfl⟩
    have hlen : x = 0 → bs.length ≤ 1048576 := fun h => by
      rw [hbs, frame_length]
      have : 1 ≤ a.length ∧ a.length ≤ 100 := by
        rcases Classical.em (1 ≤ a.length ∧ a.length ≤ 100) with h' | h'
        · exact h'
        · rw [hx, frameCode, if_neg h'] at h; omega
      omega
    rw [← hx, ← hbs] at k29 k26
    clear hbs hx
    by_cases h0 : x = 0
    · have hl := hlen h0
      clear hlen
      subst h0
      have hp : (0 : Int) ≤ 1 + bs.length := by omega
      refine fcall_gather [] id fun clk => acall_of_aw Try.func9 rfl ?_
      simp [ha']
      refine acall_pure (c39 a ha) (by simp) ?_
      rintro r Hn c ⟨g, rfl, rfl⟩ _
      simp
      refine acall_pure k29 (by simp) ?_
      rintro r Hn c (⟨h, _⟩ | ⟨_, g1, rfl, rfl⟩) _
      · exact absurd rfl h
      simp
      refine acall_pure (c39 a ha) (by simp) ?_
      rintro r Hn c ⟨g2, rfl, rfl⟩ _
      simp
      refine acall_pure k26 (by simp) ?_
      rintro r Hn c (⟨h, _⟩ | ⟨_, g3, rfl, rfl⟩) _
      · exact absurd rfl h
      simp
      refine acall_pure (c36 0 0 bs bs hl) (by simp) ?_
      rintro r Hn c ⟨rfl, rfl⟩ _
      simp [hpa, hpb]
      refine acall_pure (c39 a ha) (by simp) ?_
      rintro r Hn c ⟨g4, rfl, rfl⟩ _
      simp
      refine acall_pure (c41 a a ha) (by simp) ?_
      rintro r Hn c ⟨rfl, rfl⟩ _
      simp
      refine acall_ref (k := 3) (c42 a 1 g2 ha (by omega)) (by simp) (by simp) ?_
      rintro r B Hn c ⟨rfl, rfl, rfl⟩ _
      simp [hpa, hpb]
      refine acall_pure (c36 0 0 bs bs hl) (by simp) ?_
      rintro r Hn c ⟨rfl, rfl⟩ _
      simp [hpa, hpb]
      refine acall_ref (k := 4) (c37 0 bs 1 g3 hl (by omega)) (by simp) (by simp) ?_
      rintro r B Hn c ⟨rfl, rfl, rfl⟩ _
      simp
      refine acall_pure (c38 0 1 bs.length hl (by omega)) (by simp [marks_length]) ?_
      rintro r Hn c ⟨rfl, rfl⟩ _
      simp [hp]
      refine acall_pure (c39 a ha) (by simp) ?_
      rintro r Hn c ⟨g5, rfl, rfl⟩ _
      simp
      refine acall_pure k26 (by simp) ?_
      rintro r Hn c (⟨h, _⟩ | ⟨_, g6, rfl, rfl⟩) _
      · exact absurd rfl h
      simp
      refine acall_pure (c36 0 0 bs bs hl) (by simp) ?_
      rintro r Hn c ⟨rfl, rfl⟩ _
      simp [hpa, hpb]
      refine acall_pure (c38 0 1 bs.length hl (by omega)) (by simp [marks_length]) ?_
      rintro r Hn c ⟨rfl, rfl⟩ _
      simp [hp]
    · clear hlen
      refine fcall_gather [] id fun clk => acall_of_aw Try.func9 rfl ?_
      simp [ha']
      refine acall_pure (c39 a ha) (by simp) ?_
      rintro r Hn c ⟨g, rfl, rfl⟩ _
      simp
      refine acall_pure k29 (by simp) ?_
      rintro r Hn c (⟨_, rfl, rfl⟩ | ⟨h, _⟩) _
      rotate_left
      · exact absurd h h0
      simp
      refine acall_pure (c39 a ha) (by simp) ?_
      rintro r Hn c ⟨g2, rfl, rfl⟩ _
      simp
      refine acall_pure k26 (by simp) ?_
      rintro r Hn c (⟨_, rfl, rfl⟩ | ⟨h, _⟩) _
      rotate_left
      · exact absurd h h0
      simp
      refine acall_pure (c36 x x [] [] (by simp)) (by simp) ?_
      rintro r Hn c ⟨rfl, rfl⟩ _
      simp [hpa, hpb]
      refine acall_pure (c39 a ha) (by simp) ?_
      rintro r Hn c ⟨g4, rfl, rfl⟩ _
      simp
      refine acall_pure (c41 a a ha) (by simp) ?_
      rintro r Hn c ⟨rfl, rfl⟩ _
      simp
      refine acall_ref (k := 2) (c42 a 1 g2 ha (by omega)) (by simp) (by simp) ?_
      rintro r B Hn c ⟨rfl, rfl, rfl⟩ _
      simp [hpa, hpb]
      refine acall_pure (c36 x x [] [] (by simp)) (by simp) ?_
      rintro r Hn c ⟨rfl, rfl⟩ _
      simp [hpa, hpb]
      refine acall_pure (c37n x 1) (by simp) ?_
      rintro r Hn c ⟨rfl, rfl⟩ _
      simp
      refine acall_pure (c38 x 1 0 (by omega) (by omega)) (by simp [marks]) ?_
      rintro r Hn c ⟨rfl, rfl⟩ _
      simp
      refine acall_pure (c39 a ha) (by simp) ?_
      rintro r Hn c ⟨g5, rfl, rfl⟩ _
      simp
      refine acall_pure k26 (by simp) ?_
      rintro r Hn c (⟨_, rfl, rfl⟩ | ⟨h, _⟩) _
      rotate_left
      · exact absurd h h0
      simp
      refine acall_pure (c36 x x [] [] (by simp)) (by simp) ?_
      rintro r Hn c ⟨rfl, rfl⟩ _
      simp [hpa, hpb]
      refine acall_pure (c38 x 1 0 (by omega) (by omega)) (by simp [marks]) ?_
      rintro r Hn c ⟨rfl, rfl⟩ _
      simp
  · have ha' : ¬ (a.length : Int) ≤ 1048576 := by omega
    refine fcall_gather [] id fun clk => acall_of_aw Try.func9 rfl ?_
    simp [ha']
end Go.Proofs.Ytaeakfbpioakmaa
