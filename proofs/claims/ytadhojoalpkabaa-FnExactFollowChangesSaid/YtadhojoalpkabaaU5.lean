/-
  ApplyWrite of the program.
-/
import Derived.Test.YtadhojoalpkabaaU4
namespace Go.Proofs.Ytadhojoalpkabaa
set_option maxRecDepth 100000
set_option linter.unusedSimpArgs false
set_option linter.unusedVariables false
set_option linter.unnecessarySimpa false
open Go Go.Abs Go.Proofs
/-- The last changes, with one more. -/
def addCh (l : List Ch) (c : Ch) : List Ch := l.drop (l.length + 1 - 12) ++ [c]
theorem addCh_len (l : List Ch) (c : Ch) (h : l.length ≤ 1048576) : (addCh l c).length ≤ 12 := by simp [addCh]; omega
theorem putU_len (o : Ob) : ∀ (l : List Ob), (putU o l).length ≤ l.length + 1
  | [] => Nat.le_refl _
  | a :: l => by
    unfold putU
    split
    · simp
    · have := putU_len o l; simp; omega
theorem turnU_len (gone : Bool) (o : Ob) (l : List Ob) : (turnU gone o l).length ≤ l.length + 1 := by
  cases gone with
  | true => have := (delU_sub (x := o.kind) (y := o.id) (l := l)).length_le; simp [turnU]; omega
  | false => exact putU_len o l
/-- The store behind a write that it takes. -/
def nxOb (s : St) (w : Wr) : Ob := { w.ob with rev := s.rev + 1 }
def nxCh (s : St) (w : Wr) : Ch := ⟨s.rev + 1, (w.op == 2), nxOb s w⟩
def nxSt (s : St) (w : Wr) : St := ⟨s.rev + 1, turnOb ((w.op == 2)) (nxOb s w) s.obs, addCh s.hist (nxCh s w)⟩
end Go.Proofs.Ytadhojoalpkabaa
