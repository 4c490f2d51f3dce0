/-
  Objects: their ids and faults, as the model and the program tell them.
-/
import Derived.Test.YtiogdfliailenaaQ2
namespace Go.Proofs.Ytiogdfliailenaa
set_option maxRecDepth 100000
set_option linter.unusedSimpArgs false
set_option linter.unusedVariables false
set_option linter.unnecessarySimpa false
open Go Go.Abs Go.Proofs

def ownerOk (k w i : Int) : Bool := (decide (0 ≤ w) && decide (w ≤ 19)) && (decide (0 ≤ i) && decide (i ≤ if k = 2 then 23 else 15))
set_option maxRecDepth 100000 in
theorem c_l2Owner (k w i : Int) : FCall Try.prog 87 [iv .i64 k, iv .i64 w, iv .i64 i] fun r H => r = bv (ownerOk k w i) ∧ H = [] := by
  have e1 : IntKind.i64.wrap 15 = 15 := rfl
  have e2 : IntKind.i64.wrap 23 = 23 := rfl
  by_cases hk : k = 2 <;> by_cases h1 : (decide (0 ≤ w) && decide (w ≤ 19)) = true
  · subst hk
    refine fcall_gather [] id fun clk => acall_of_aw Try.func87 rfl ?_
    simp
    refine acall_pure (c_l1In w 0 19) (by simp) ?_
    rintro r Hn c ⟨rfl, rfl⟩ _
    simp [h1, e2]
    refine acall_pure (c_l1In i 0 23) (by simp) ?_
    rintro r Hn c ⟨rfl, rfl⟩ _
    simp [ownerOk, h1]
  · subst hk
    refine fcall_gather [] id fun clk => acall_of_aw Try.func87 rfl ?_
    simp
    refine acall_pure (c_l1In w 0 19) (by simp) ?_
    rintro r Hn c ⟨rfl, rfl⟩ _
    simp [h1, ownerOk]
  · refine fcall_gather [] id fun clk => acall_of_aw Try.func87 rfl ?_
    simp [hk]
    refine acall_pure (c_l1In w 0 19) (by simp) ?_
    rintro r Hn c ⟨rfl, rfl⟩ _
    simp [h1, e1]
    refine acall_pure (c_l1In i 0 15) (by simp) ?_
    rintro r Hn c ⟨rfl, rfl⟩ _
    simp [ownerOk, h1, hk]
  · refine fcall_gather [] id fun clk => acall_of_aw Try.func87 rfl ?_
    simp [hk]
    refine acall_pure (c_l1In w 0 19) (by simp) ?_
    rintro r Hn c ⟨rfl, rfl⟩ _
    simp [h1, ownerOk]
theorem owner_code {k w i : Int} (hk : k = 1 ∨ k = 2) : podCode k w i = if ownerOk k w i = true then 0 else 3 := by
  rcases hk with rfl | rfl <;> simp [podCode, ownerOk, podMost, and_assoc]
theorem owner_in {k w i : Int} (ho : ownerOk k w i = true) : (0 ≤ w ∧ w ≤ 19) ∧ (0 ≤ i ∧ i ≤ 23) := by
  unfold ownerOk at ho
  simp at ho
  split at ho <;> omega
set_option maxRecDepth 100000 in
theorem c_sPodId (k w i : Int) : FCall Try.prog 75 [iv .i64 k, iv .i64 w, iv .i64 i] fun r H => r = .agg [ic (podCode k w i), ic (podVal k w i)] ∧ H = [] := by
  by_cases hk : k = 1 ∨ k = 2
  · have hc := owner_code (w := w) (i := i) hk
    have hsplit : ∀ (p : Prop), ((k = 1 → p) → (¬ k = 1 → k = 2 → p) → p) := fun p h1 h2 => by
      by_cases e : k = 1
      · exact h1 e
      · exact h2 e (hk.resolve_left e)
    by_cases ho : ownerOk k w i = true
    · obtain ⟨hw, hi⟩ := owner_in ho
      rw [if_pos ho] at hc
      apply hsplit
      · intro e
        subst e
        refine fcall_gather [] id fun clk => acall_of_aw Try.func75 rfl ?_
        simp
        refine acall_pure (c_l2Owner 1 w i) (by simp) ?_
        rintro r Hn c ⟨rfl, rfl⟩ _
        simp [ho]
        refine acall_pure (c_l2PodId 1 w i hk hw hi) (by simp) ?_
        rintro r Hn c ⟨rfl, rfl⟩ _
        simp [hc, podVal]
      · intro _ e
        subst e
        refine fcall_gather [] id fun clk => acall_of_aw Try.func75 rfl ?_
        simp
        refine acall_pure (c_l2Owner 2 w i) (by simp) ?_
        rintro r Hn c ⟨rfl, rfl⟩ _
        simp [ho]
        refine acall_pure (c_l2PodId 2 w i hk hw hi) (by simp) ?_
        rintro r Hn c ⟨rfl, rfl⟩ _
        simp [hc, podVal]
    · rw [if_neg ho] at hc
      simp at ho
      apply hsplit
      · intro e
        subst e
        refine fcall_gather [] id fun clk => acall_of_aw Try.func75 rfl ?_
        simp
        refine acall_pure (c_l2Owner 1 w i) (by simp) ?_
        rintro r Hn c ⟨rfl, rfl⟩ _
        simp [ho, hc, podVal]
      · intro _ e
        subst e
        refine fcall_gather [] id fun clk => acall_of_aw Try.func75 rfl ?_
        simp
        refine acall_pure (c_l2Owner 2 w i) (by simp) ?_
        rintro r Hn c ⟨rfl, rfl⟩ _
        simp [ho, hc, podVal]
  · refine fcall_gather [] id fun clk => acall_of_aw Try.func75 rfl ?_
    have h1 : ¬ k = 1 := fun h => hk (.inl h)
    have h2 : ¬ k = 2 := fun h => hk (.inr h)
    simp [h1, h2, podCode, podVal]

/-! Pods -/
def podOk (o : Ob) : Prop := podCode o.a o.b o.c = 0 ∧ o.id = podNum o.a o.b o.c ∧ 0 ≤ o.d ∧ o.d ≤ 2
instance (o : Ob) : Decidable (podOk o) := by unfold podOk; infer_instance
set_option maxRecDepth 100000 in
theorem c_l2Pod (o : Ob) : FCall Try.prog 86 [.one (.d (.rptr o.dcs))] fun r H => r = bv (decide (podOk o)) ∧ H = [] := by
  have fin : ∀ (v : Int) (hv : podCode o.a o.b o.c = v), (v = 0 ∨ v = 3) → (o.a = 1 ∨ o.a = 2) → ownerOk o.a o.b o.c = decide (v = 0) →
      FCall Try.prog 86 [.one (.d (.rptr o.dcs))] fun r H => r = bv (decide (podOk o)) ∧ H = [] := by
    intro v hv h03 hk ho
    have body : (o.a = 1 ∨ (¬ o.a = 1 ∧ o.a = 2)) := by omega
    have call := c_l2Owner o.a o.b o.c
    rw [ho] at call
    refine fcall_gather [] id fun clk => acall_of_aw Try.func86 rfl ?_
    rcases h03 with rfl | rfl
    · have call2 := c_l2PodId o.a o.b o.c hk (owner_in (by rw [ho]; rfl)).1 (owner_in (by rw [ho]; rfl)).2
      have call3 := c_l1In o.d 0 2
      by_cases hid : o.id = podNum o.a o.b o.c
      · rcases body with e | ⟨e1, e⟩
        all_goals
          simp [e]
          refine codeOk_drawA mixed (by kernel_rfl) ?_
          simp
          refine qcall_val call (by simp) (by simp) ?_
          simp
          refine qcall_val call2 (by simp) (by simp) ?_
          simp [hid]
          refine qcall_val call3 (by simp) (by simp) ?_
          simp [podOk, hv, hid]
      · rcases body with e | ⟨e1, e⟩
        all_goals
          simp [e]
          refine codeOk_drawA mixed (by kernel_rfl) ?_
          simp
          refine qcall_val call (by simp) (by simp) ?_
          simp
          refine qcall_val call2 (by simp) (by simp) ?_
          simp [podOk, hv, hid]
    · rcases body with e | ⟨e1, e⟩
      all_goals
        simp [e]
        refine codeOk_drawA mixed (by kernel_rfl) ?_
        simp
        refine qcall_val call (by simp) (by simp) ?_
        simp [podOk, hv]
  by_cases hk : o.a = 1 ∨ o.a = 2
  · have hc := owner_code (w := o.b) (i := o.c) hk
    by_cases ho : ownerOk o.a o.b o.c = true
    · rw [if_pos ho] at hc
      exact fin 0 hc (.inl rfl) hk (by rw [ho]; rfl)
    · rw [if_neg ho] at hc
      exact fin 3 hc (.inr rfl) hk (by simpa using ho)
  · refine fcall_gather [] id fun clk => acall_of_aw Try.func86 rfl ?_
    have h1 : ¬ o.a = 1 := fun h => hk (.inl h)
    have h2 : ¬ o.a = 2 := fun h => hk (.inr h)
    simp [h1, h2, podCode, podOk]

end Go.Proofs.Ytiogdfliailenaa
