/- Closed facts of the row of FnExactApplyWrite. -/
import Derived.Test.YtckcdpocmmlniaaGreatDoorRows
import Derived.WalkKit
import Derived.ProofKit
import Derived.OpenShut
import Derived.JoinedOf
import Derived.KernelRfl
namespace Go.Proofs.YtckcdpocmmlniaaGreatDoor.fnExactApplyWrite
open Go.ChangeShapes Go.WideShapes Go.ChangeAt Go.RowKit
theorem named : Tryz.pinned.checked.prog.funcNamed Rows.fnExactApplyWriteRow.func = some 8 := by kernel_rfl
set_option maxHeartbeats 8000000 in
theorem closed : joinedFacts Tryz.pinned.checked.prog 8 Tryz.f8 Rows.fnExactApplyWriteSpec Rows.fnExactApplyWriteRow = true := by
  simp only [joinedFacts, Bool.and_eq_true]
  repeat' apply And.intro
  all_goals (as_aux_lemma => kernel_rfl)
theorem inst : Tryz.f8.isInstance Tryz.pinned.checked.prog Rows.fnExactApplyWriteRow.origin Rows.fnExactApplyWriteRow.targs := of_decide_eq_true (by kernel_rfl)
theorem wraps : Tryz.f8.isWrapper Tryz.pinned.checked.prog Rows.fnExactApplyWriteRow.wrapper Rows.fnExactApplyWriteRow.mainSum := by
  unfold Func.isWrapper; first | (rw [if_pos (by decide +kernel)]; kernel_rfl) | (rw [if_neg (by decide +kernel)]; exact ⟨rfl, rfl⟩)
end Go.Proofs.YtckcdpocmmlniaaGreatDoor.fnExactApplyWrite
