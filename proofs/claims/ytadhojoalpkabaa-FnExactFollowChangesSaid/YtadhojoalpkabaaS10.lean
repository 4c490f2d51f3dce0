/-
  What a history can be, and what a store can be: the program's StoreFault.
-/
import Derived.Test.YtadhojoalpkabaaS9
namespace Go.Proofs.Ytadhojoalpkabaa
set_option maxRecDepth 100000
set_option linter.unusedSimpArgs false
set_option linter.unusedVariables false
set_option linter.unnecessarySimpa false
open Go Go.Abs Go.Proofs
def chFault (rev : Int) (c : Ch) : Int := if obFault c.ob = 0 ∧ c.ob.rev = c.rev then (if c.rev = rev then 0 else 8) else 1
set_option maxRecDepth 100000 in
theorem c_changeFault (c : Ch) (rev : Int) : FCall Try.prog 40 [c.av, iv .i64 rev] fun r H => r = iv .i64 (chFault rev c) ∧ H = [] := by
  refine fcall_gather [] id fun clk => acall_of_aw Try.func40 rfl ?_
  simp
  refine acall_val (c_ObjectFault c.ob) (by simp) (by simp) ?_
  by_cases h1 : obFault c.ob = 0
  · by_cases h2 : c.ob.rev = c.rev
    · by_cases h3 : c.rev = rev <;> simp [chFault, h1, h2, h3]
    · simp [chFault, h1, h2]
  · simp [chFault, h1]
theorem chFault_ok {rev : Int} {c : Ch} (h : 1 ≤ rev) : chFault rev c = 0 ↔ chOk 1 rev c := by
  unfold chFault chOk
  constructor
  · intro h1
    split at h1
    · rename_i h2
      split at h1
      · rename_i h3; exact ⟨h2.1, h2.2, h3, by omega⟩
      · omega
    · omega
  · rintro ⟨h1, h2, h3, h4⟩
    rw [if_pos ⟨h1, h2⟩, if_pos h3]
theorem histOk_len {l : List Ch} {rev : Int} (hr : 0 ≤ rev) (hl : l.length ≤ 12) (h : ¬ (l.length : Int) = min rev 12) : histOk rev l = false := by
  rw [Bool.eq_false_iff]
  intro hk
  rw [histOk, Bool.and_eq_true, decide_eq_true_eq, histAll_iff] at hk
  obtain ⟨h1, h2⟩ := hk
  have h3 : l.length = 12 ∧ rev < 12 := by omega
  have h4 : 0 < l.length := by omega
  obtain ⟨_, _, h5, h6⟩ := h2 0 l[0] (List.getElem?_eq_getElem h4)
  have h7 : (l.length : Int) = 12 := by rw [h3.1]; rfl
  rw [h7] at h5
  simp at h5
  omega
end Go.Proofs.Ytadhojoalpkabaa
