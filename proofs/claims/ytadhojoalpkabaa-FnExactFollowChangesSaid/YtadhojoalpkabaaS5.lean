/-
  What a store can be: the model's StoreFault.
-/
import Derived.Test.YtadhojoalpkabaaS4
namespace Go.Proofs.Ytadhojoalpkabaa
set_option maxRecDepth 100000
set_option linter.unusedSimpArgs false
set_option linter.unusedVariables false
set_option linter.unnecessarySimpa false
open Go Go.Abs Go.Proofs
/-- Two that stand one behind the other. -/
theorem drop_two {α : Type} (l : List α) {k : Nat} (h : k + 1 < l.length) : ∃ a b t, l.drop k = a :: b :: t ∧ l.drop (k + 1) = b :: t ∧ l[k]? = some a ∧ l[k + 1]? = some b := by
  refine ⟨l[k], l[k + 1], l.drop (k + 2), ?_, List.drop_eq_getElem_cons h, List.getElem?_eq_getElem _, List.getElem?_eq_getElem _⟩
  rw [List.drop_eq_getElem_cons (by omega), List.drop_eq_getElem_cons h]
theorem obsBad_at {rev : Int} {l : List Ob} {i : Nat} {o : Ob} (h : obsBad rev (l.take i) = 0) (ho : l[i]? = some o) : obsBad rev l = if obFault o = 0 then (if 1 ≤ o.rev ∧ o.rev ≤ rev then obsBad rev (l.drop (i + 1)) else 3) else obFault o := by
  have hi := (List.getElem?_eq_some_iff.1 ho).1
  rw [obsBad_take h ho, List.drop_eq_getElem_cons hi, obsBad]
  have : l[i] = o := by rw [List.getElem?_eq_getElem hi] at ho; exact Option.some.inj ho
  rw [this]
theorem stFault_ok {s : St} (h : stFault s = 0) : s.obs.length ≤ 60 ∧ rises s.obs = true := by
  unfold stFault at h
  split at h
  · split at h
    · rename_i h2
      split at h
      · split at h
        · rename_i h4; exact ⟨h2.1, h4⟩
        · omega
      · rename_i h3; exact absurd h h3
    · omega
  · omega
end Go.Proofs.Ytadhojoalpkabaa
