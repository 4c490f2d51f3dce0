/-
  DERIVED. GIVEN WITH THE SEED: THE PROGRAM's TIES (one call each: nine closed facts by the kernel) AND EACH ROW's TIE, after the 31st guide's Derived/Test/Toyas{Tie, Card}.lean. No idea stands in it: it is a product of the set-up. Laid BY PROGRAM, IN A SANDBOX (cutbox-door.mjs). By AI agents, Wed Nov 11 2026. No macro, syntax, notation, axiom, sorry.
-/
import Derived.Test.YtledabakodggcaaGreatDoorRows
import Derived.LaidByTextLater
import Derived.SevenTiedAt
import Derived.LaidSub
import Derived.LaidOnce
namespace Go.Proofs.YtledabakodggcaaGreatDoor
open Go
set_option maxRecDepth 100000
theorem seatTie1 : Tryz.prog.laidByTextLater [("loop.example/g00730/impl.writeSizes", Rows.laid_loop_example_g00730_impl_writeSizes), ("loop.example/g00730/impl.errStale", Rows.laid_loop_example_g00730_impl_errStale), ("loop.example/g00730/impl.errFull", Rows.laid_loop_example_g00730_impl_errFull), ("loop.example/g00730/impl.errState", Rows.laid_loop_example_g00730_impl_errState), ("loop.example/g00730/impl.errTaken", Rows.laid_loop_example_g00730_impl_errTaken)] [.data, .sentinel, .sentinel, .sentinel, .sentinel] true :=
  Program.laidByTextLater_by_one 90 8 10 (by kernel_rfl) (by kernel_rfl) (by kernel_rfl) (by kernel_rfl) (by kernel_rfl) (by kernel_rfl) (fun _ _ => by kernel_rfl)
theorem noOwnUnsafe : Tryz.pinned.checked.prog.headLifts.contains "ownunsafe" = false := by kernel_rfl
theorem tie : Tryz.prog.laidByTextLater [("loop.example/g00730/impl.errStale", Rows.laid_loop_example_g00730_impl_errStale), ("loop.example/g00730/impl.errFull", Rows.laid_loop_example_g00730_impl_errFull), ("loop.example/g00730/impl.errState", Rows.laid_loop_example_g00730_impl_errState), ("loop.example/g00730/impl.errTaken", Rows.laid_loop_example_g00730_impl_errTaken)] [.sentinel, .sentinel, .sentinel, .sentinel] true :=
  Program.laidByTextLater.sub seatTie1 ["loop.example/g00730/impl.errStale", "loop.example/g00730/impl.errFull", "loop.example/g00730/impl.errState", "loop.example/g00730/impl.errTaken"] (by kernel_rfl) (by kernel_rfl)
theorem fnExactReplayWrites_row_tie : Rows.fnExactReplayWritesRow.laidByTextAt .later Tryz.pinned [.sentinel, .sentinel, .sentinel, .sentinel] true :=
  OpenClaim.laidByTextAt_later rfl rfl tie noOwnUnsafe
theorem tie2 : Tryz.prog.laidByTextLater [("loop.example/g00730/impl.writeSizes", Rows.laid_loop_example_g00730_impl_writeSizes), ("loop.example/g00730/impl.errStale", Rows.laid_loop_example_g00730_impl_errStale), ("loop.example/g00730/impl.errFull", Rows.laid_loop_example_g00730_impl_errFull), ("loop.example/g00730/impl.errState", Rows.laid_loop_example_g00730_impl_errState), ("loop.example/g00730/impl.errTaken", Rows.laid_loop_example_g00730_impl_errTaken)] [.data, .sentinel, .sentinel, .sentinel, .sentinel] true :=
  Program.laidByTextLater.sub seatTie1 ["loop.example/g00730/impl.writeSizes", "loop.example/g00730/impl.errStale", "loop.example/g00730/impl.errFull", "loop.example/g00730/impl.errState", "loop.example/g00730/impl.errTaken"] (by kernel_rfl) (by kernel_rfl)
theorem fnExactRecoverDisk_row_tie : Rows.fnExactRecoverDiskRow.laidByTextAt .later Tryz.pinned [.data, .sentinel, .sentinel, .sentinel, .sentinel] true :=
  OpenClaim.laidByTextAt_later rfl rfl tie2 noOwnUnsafe
theorem fnExactCommitWrite_row_tie : Rows.fnExactCommitWriteRow.laidByTextAt .later Tryz.pinned [.data, .sentinel, .sentinel, .sentinel, .sentinel] true :=
  OpenClaim.laidByTextAt_later rfl rfl tie2 noOwnUnsafe
theorem fnExactReplayWritesUpto_row_tie : Rows.fnExactReplayWritesUptoRow.laidByTextAt .later Tryz.pinned [.sentinel, .sentinel, .sentinel, .sentinel] true :=
  OpenClaim.laidByTextAt_later rfl rfl tie noOwnUnsafe
theorem fnExactRecoverDiskUpto_row_tie : Rows.fnExactRecoverDiskUptoRow.laidByTextAt .later Tryz.pinned [.data, .sentinel, .sentinel, .sentinel, .sentinel] true :=
  OpenClaim.laidByTextAt_later rfl rfl tie2 noOwnUnsafe
theorem fnExactCommitWriteUpto_row_tie : Rows.fnExactCommitWriteUptoRow.laidByTextAt .later Tryz.pinned [.data, .sentinel, .sentinel, .sentinel, .sentinel] true :=
  OpenClaim.laidByTextAt_later rfl rfl tie2 noOwnUnsafe
end Go.Proofs.YtledabakodggcaaGreatDoor
