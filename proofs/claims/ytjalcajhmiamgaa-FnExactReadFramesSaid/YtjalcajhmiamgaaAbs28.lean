/-
  Loops whose rounds are counted: walked one after the other. No program's text.
-/
import Derived.Test.YtjalcajhmiamgaaAbs26
import Derived.LoopN
namespace Go.Abs
set_option linter.unusedSimpArgs false
set_option linter.unusedVariables false
set_option linter.unnecessarySimpa false
open Go
/-- At most so many rounds. -/
def AR (P : Program) (c : Code) (Q : Exit → ASt → Prop) : Nat → ASt → Prop
  | 0, _ => False
  | n + 1, st => AW P c (AExit.then (AR P c Q n) Q) st
section
variable {P : Program} {c : Code} {Q : Exit → ASt → Prop} {st : ASt}
theorem AR_succ (n : Nat) : AR P c Q (n + 1) st = AW P c (AExit.then (AR P c Q n) Q) st := rfl
theorem codeOk_rounds (n : Nat) (h : AR P c Q n st) : CodeOk P (.loop c) Q st := by
  intro w0 E0 H0 a w hI
  have key : ∀ (n : Nat) (st : ASt) (a : Act) (w : World), AR P c Q n st → Inv w0 E0 H0 st a w → Code.rounds P c (fun e a' w' => ∃ st', Q e st' ∧ Inv w0 E0 H0 st' a' w') n a w := by
    intro n
    induction n with
    | zero => intro st a w h _; exact h.elim
    | succ n ih =>
      intro st a w h hI
      rw [rounds_succ]
      refine wp_mono (aw_sound c _ _ h w0 E0 H0 a w hI) ?_
      rintro e a' w' ⟨s', hq, hI'⟩
      cases e with
      | normal => exact ih s' a' w' hq hI'
      | exit id => exact ⟨s', hq, hI'⟩
      | goto l => exact ⟨s', hq, hI'⟩
      | ret => exact ⟨s', hq, hI'⟩
      | panic ch => exact ⟨s', hq, hI'⟩
      | outgrown => exact ⟨s', hq, hI'⟩
  exact wp_loop_rounds n (key n st a w h hI)
end
end Go.Abs
