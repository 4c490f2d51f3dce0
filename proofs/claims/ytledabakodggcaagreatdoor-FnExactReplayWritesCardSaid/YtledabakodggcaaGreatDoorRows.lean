/-
  NARROWER THAN 'FOR EVERY INPUT', by the rows' own cells (each row's printed sentence says how): FnExactReplayWrites: ifaces, laid · FnExactRecoverDisk: ifaces, laid · FnExactCommitWrite: ifaces, laid.
  DERIVED. THE GIVEN ROWS OF THIS SEAT. 3 by the template 'for every input the law returns true; each argument reads behind the call as it read before'; 0 by the template 'total and deterministic' (their statements: YtledabakodggcaaGreatDoorTotals.lean).
  GIVEN WITH THE SEED: the statements are not yours to turn. If you find one false, say at which input.
  Laid BY PROGRAM, IN A SANDBOX (cutbox-rows.mjs): the forced cells as the released guide's own fill.sh prints them over the translation c9cc8258542998d7… (all of the seat's roots in one cut). By AI agents, Wed Nov 11 2026. No macro, syntax, notation, axiom, sorry.
-/
import Derived.Test.YtledabakodggcaaGreatDoorChecked
import GoSem.Claim
import GoSem.ClaimJoined
import GoSem.ClaimMapViews
import Derived.JoinedTies
import Derived.KernelRfl
namespace Go.Proofs.YtledabakodggcaaGreatDoor
/- THE CELL 'sum', in the pinned program and in every row, IS THE sha256 OF THE DUMP (.gsa) THAT YtledabakodggcaaGreatDoorProg.lean LOADS. Nothing in Lean hashes anything: it is a label: what it is worth is what the hold of that sum in a sandbox is worth. -/
noncomputable def Tryz.pinned : Pinned := { name := "ytledabakodggcaagreatdoor", sum := "c9cc8258542998d76ce6876cd23336559601f86cd66ba08237114a3fa1762dcd", checked := Tryz.checked }
namespace Rows
def none {H : Type} : Left H := { results := [], args := [] }

/- WHAT THE LISTED PACKAGE-LEVEL VARIABLES READ AS WHEN THE CALL BEGINS. Each datum BY PROGRAM (the guide's laid-datum.mjs) off the statement by which the dump's own 'gosem.cut.vars' lays the variable. In a bare row this is a premise. The card (YtledabakodggcaaGreatDoorCards.lean) ties it to the program's text. -/
def laid_loop_example_g00730_impl_errStale {H : Type} : DataW H := .iface "*errors.errorString" (.ptr (.agg [.lit (.string [105, 116, 32, 105, 115, 32, 111, 102, 32, 97, 110, 32, 101, 112, 111, 99, 104, 32, 116, 104, 97, 116, 32, 105, 115, 32, 110, 111, 116, 32, 116, 104, 101, 32, 111, 110, 101, 32, 116, 104, 97, 116, 32, 99, 111, 117, 110, 116, 115])]))
def laid_loop_example_g00730_impl_errFull {H : Type} : DataW H := .iface "*errors.errorString" (.ptr (.agg [.lit (.string [116, 104, 101, 114, 101, 32, 105, 115, 32, 110, 111, 32, 114, 111, 111, 109, 32, 102, 111, 114, 32, 109, 111, 114, 101])]))
def laid_loop_example_g00730_impl_errState {H : Type} : DataW H := .iface "*errors.errorString" (.ptr (.agg [.lit (.string [105, 116, 32, 100, 111, 101, 115, 32, 110, 111, 116, 32, 102, 105, 116, 32, 116, 111, 32, 119, 104, 97, 116, 32, 105, 115, 32, 116, 104, 101, 114, 101])]))
def laid_loop_example_g00730_impl_errTaken {H : Type} : DataW H := .iface "*errors.errorString" (.ptr (.agg [.lit (.string [115, 111, 109, 101, 98, 111, 100, 121, 32, 101, 108, 115, 101, 32, 119, 114, 111, 116, 101, 32, 105, 116])]))
def laid_loop_example_g00730_impl_writeSizes {H : Type} : DataW H := .agg [.lit (.int .i64 1), .lit (.int .i64 1), .lit (.int .i64 2), .lit (.int .i64 2), .lit (.int .i64 2), .lit (.int .i64 2), .lit (.int .i64 2), .lit (.int .i64 3), .lit (.int .i64 2)]

/-- 'laws.FnExactReplayWrites': WHATEVER THE INPUT: true; the input reads as it did. -/
def fnExactReplayWritesSpec : ChangeSpec := { name := "fnExactReplayWrites", vars := ["loop.example/g00730/impl.errFull", "loop.example/g00730/impl.errTaken", "loop.example/g00730/impl.errStale", "loop.example/g00730/impl.errState"], fn := fun _ => fun
  | [d, g1, g2, g3, g4] => { results := [.lit (.bool true)], args := [d], vars := [g1, g2, g3, g4] }
  | _ => none }
def fnExactReplayWritesRow : OpenClaim := { program := "ytledabakodggcaagreatdoor", sum := "c9cc8258542998d76ce6876cd23336559601f86cd66ba08237114a3fa1762dcd", func := "loop.example/g00730/laws.FnExactReplayWrites", spec := "fnExactReplayWrites", inPlace := ["internal/reflectlite.TypeOf"], unfollowed := true, recurses := true, named := ["loop.example/g00730/impl.errFull", "loop.example/g00730/impl.errTaken", "loop.example/g00730/impl.errStale", "loop.example/g00730/impl.errState"], ifaces := true, plainKeys := false, apart := false, laid := [("loop.example/g00730/impl.errStale", laid_loop_example_g00730_impl_errStale), ("loop.example/g00730/impl.errFull", laid_loop_example_g00730_impl_errFull), ("loop.example/g00730/impl.errState", laid_loop_example_g00730_impl_errState), ("loop.example/g00730/impl.errTaken", laid_loop_example_g00730_impl_errTaken)] }
def FnExactReplayWritesSaid : Prop := fnExactReplayWritesRow.holds Tryz.pinned (OpenSpec.ofChange fnExactReplayWritesSpec)

/-- ITS FALSE NEIGHBOUR: 'it returns false'. Refute it at one input. -/
def fnExactReplayWritesWrong : ChangeSpec := { name := "fnExactReplayWrites", vars := ["loop.example/g00730/impl.errFull", "loop.example/g00730/impl.errTaken", "loop.example/g00730/impl.errStale", "loop.example/g00730/impl.errState"], fn := fun _ => fun
  | [d, g1, g2, g3, g4] => { results := [.lit (.bool false)], args := [d], vars := [g1, g2, g3, g4] }
  | _ => none }
def FnExactReplayWritesWrongFalsely : Prop := fnExactReplayWritesRow.holds Tryz.pinned (OpenSpec.ofChange fnExactReplayWritesWrong)

/-- 'laws.FnExactRecoverDisk': WHATEVER THE INPUT: true; the input reads as it did. -/
def fnExactRecoverDiskSpec : ChangeSpec := { name := "fnExactRecoverDisk", vars := ["loop.example/g00730/impl.writeSizes", "loop.example/g00730/impl.errFull", "loop.example/g00730/impl.errTaken", "loop.example/g00730/impl.errStale", "loop.example/g00730/impl.errState"], fn := fun _ => fun
  | [d, g1, g2, g3, g4, g5] => { results := [.lit (.bool true)], args := [d], vars := [g1, g2, g3, g4, g5] }
  | _ => none }
def fnExactRecoverDiskRow : OpenClaim := { program := "ytledabakodggcaagreatdoor", sum := "c9cc8258542998d76ce6876cd23336559601f86cd66ba08237114a3fa1762dcd", func := "loop.example/g00730/laws.FnExactRecoverDisk", spec := "fnExactRecoverDisk", inPlace := ["internal/reflectlite.TypeOf"], unfollowed := true, recurses := true, named := ["loop.example/g00730/impl.writeSizes", "loop.example/g00730/impl.errFull", "loop.example/g00730/impl.errTaken", "loop.example/g00730/impl.errStale", "loop.example/g00730/impl.errState"], ifaces := true, plainKeys := false, apart := false, laid := [("loop.example/g00730/impl.writeSizes", laid_loop_example_g00730_impl_writeSizes), ("loop.example/g00730/impl.errStale", laid_loop_example_g00730_impl_errStale), ("loop.example/g00730/impl.errFull", laid_loop_example_g00730_impl_errFull), ("loop.example/g00730/impl.errState", laid_loop_example_g00730_impl_errState), ("loop.example/g00730/impl.errTaken", laid_loop_example_g00730_impl_errTaken)] }
def FnExactRecoverDiskSaid : Prop := fnExactRecoverDiskRow.holds Tryz.pinned (OpenSpec.ofChange fnExactRecoverDiskSpec)

/-- ITS FALSE NEIGHBOUR: 'it returns false'. Refute it at one input. -/
def fnExactRecoverDiskWrong : ChangeSpec := { name := "fnExactRecoverDisk", vars := ["loop.example/g00730/impl.writeSizes", "loop.example/g00730/impl.errFull", "loop.example/g00730/impl.errTaken", "loop.example/g00730/impl.errStale", "loop.example/g00730/impl.errState"], fn := fun _ => fun
  | [d, g1, g2, g3, g4, g5] => { results := [.lit (.bool false)], args := [d], vars := [g1, g2, g3, g4, g5] }
  | _ => none }
def FnExactRecoverDiskWrongFalsely : Prop := fnExactRecoverDiskRow.holds Tryz.pinned (OpenSpec.ofChange fnExactRecoverDiskWrong)

/-- 'laws.FnExactCommitWrite': WHATEVER THE INPUT: true; the input reads as it did. -/
def fnExactCommitWriteSpec : ChangeSpec := { name := "fnExactCommitWrite", vars := ["loop.example/g00730/impl.writeSizes", "loop.example/g00730/impl.errFull", "loop.example/g00730/impl.errTaken", "loop.example/g00730/impl.errStale", "loop.example/g00730/impl.errState"], fn := fun _ => fun
  | [d1, d2, g1, g2, g3, g4, g5] => { results := [.lit (.bool true)], args := [d1, d2], vars := [g1, g2, g3, g4, g5] }
  | _ => none }
def fnExactCommitWriteRow : OpenClaim := { program := "ytledabakodggcaagreatdoor", sum := "c9cc8258542998d76ce6876cd23336559601f86cd66ba08237114a3fa1762dcd", func := "loop.example/g00730/laws.FnExactCommitWrite", spec := "fnExactCommitWrite", inPlace := ["internal/reflectlite.TypeOf"], unfollowed := true, recurses := true, named := ["loop.example/g00730/impl.writeSizes", "loop.example/g00730/impl.errFull", "loop.example/g00730/impl.errTaken", "loop.example/g00730/impl.errStale", "loop.example/g00730/impl.errState"], ifaces := true, plainKeys := false, apart := false, laid := [("loop.example/g00730/impl.writeSizes", laid_loop_example_g00730_impl_writeSizes), ("loop.example/g00730/impl.errStale", laid_loop_example_g00730_impl_errStale), ("loop.example/g00730/impl.errFull", laid_loop_example_g00730_impl_errFull), ("loop.example/g00730/impl.errState", laid_loop_example_g00730_impl_errState), ("loop.example/g00730/impl.errTaken", laid_loop_example_g00730_impl_errTaken)] }
def FnExactCommitWriteSaid : Prop := fnExactCommitWriteRow.holds Tryz.pinned (OpenSpec.ofChange fnExactCommitWriteSpec)

/-- ITS FALSE NEIGHBOUR: 'it returns false'. Refute it at one input. -/
def fnExactCommitWriteWrong : ChangeSpec := { name := "fnExactCommitWrite", vars := ["loop.example/g00730/impl.writeSizes", "loop.example/g00730/impl.errFull", "loop.example/g00730/impl.errTaken", "loop.example/g00730/impl.errStale", "loop.example/g00730/impl.errState"], fn := fun _ => fun
  | [d1, d2, g1, g2, g3, g4, g5] => { results := [.lit (.bool false)], args := [d1, d2], vars := [g1, g2, g3, g4, g5] }
  | _ => none }
def FnExactCommitWriteWrongFalsely : Prop := fnExactCommitWriteRow.holds Tryz.pinned (OpenSpec.ofChange fnExactCommitWriteWrong)

/- THE SECOND FORM. 'bulk': how many values and letters a reading holds, each counted each time it is reached (what is shared counts as often as it is met; a slice's spare places count too). A statement '..UptoSaid' is the law's where the arguments, and the package variables that the reading takes, are together of bulk at most 1048576: NARROWER than '..Said'. Prove '..Said' where nothing that the law and all that it calls make is longer than what came in: it says more and counts as full. Else prove '..UptoSaid'. A law counts once. -/
mutual
def uptoBulk {H : Type} : DataW H → Nat
  | .lit (.string bytes) => bytes.length + 1
  | .lit _ => 1
  | .nil => 1
  | .ptr d => uptoBulk d + 1
  | .slice elems spare => uptoBulkAll elems + uptoBulkAll spare + 1
  | .agg parts => uptoBulkAll parts + 1
  | .iface _ d => uptoBulk d + 1
  | .map entries => uptoBulkEntries entries + 1
  | .held _ => 1
def uptoBulkAll {H : Type} : List (DataW H) → Nat
  | [] => 0
  | d :: r => uptoBulk d + uptoBulkAll r
def uptoBulkEntries {H : Type} : List (Lit × DataW H) → Nat
  | [] => 0
  | x :: r => uptoBulkEntry x + uptoBulkEntries r
def uptoBulkEntry {H : Type} : Lit × DataW H → Nat
  | (.string bytes, d) => bytes.length + uptoBulk d + 1
  | (_, d) => uptoBulk d + 1
 end
def uptoSmall : (H : Type) → List (DataW H) → Bool := fun _ ds => decide (uptoBulkAll ds ≤ 1048576)
def OpenSpec.upto (s : _root_.Go.ChangeSpec) : _root_.Go.OpenSpec := { _root_.Go.OpenSpec.ofChange s with cond := some uptoSmall }

/-- 'laws.FnExactReplayWrites', WHERE WHAT IT READS IS OF BULK AT MOST 1048576: true; the input reads as it did. -/
def fnExactReplayWritesUptoRow : OpenClaim := { program := "ytledabakodggcaagreatdoor", sum := "c9cc8258542998d76ce6876cd23336559601f86cd66ba08237114a3fa1762dcd", func := "loop.example/g00730/laws.FnExactReplayWrites", spec := "fnExactReplayWrites", inPlace := ["internal/reflectlite.TypeOf"], unfollowed := true, recurses := true, named := ["loop.example/g00730/impl.errFull", "loop.example/g00730/impl.errTaken", "loop.example/g00730/impl.errStale", "loop.example/g00730/impl.errState"], ifaces := true, plainKeys := false, apart := false, laid := [("loop.example/g00730/impl.errStale", laid_loop_example_g00730_impl_errStale), ("loop.example/g00730/impl.errFull", laid_loop_example_g00730_impl_errFull), ("loop.example/g00730/impl.errState", laid_loop_example_g00730_impl_errState), ("loop.example/g00730/impl.errTaken", laid_loop_example_g00730_impl_errTaken)], narrowed := true }
def FnExactReplayWritesUptoSaid : Prop := fnExactReplayWritesUptoRow.holds Tryz.pinned (OpenSpec.upto fnExactReplayWritesSpec)

/-- 'laws.FnExactRecoverDisk', WHERE WHAT IT READS IS OF BULK AT MOST 1048576: true; the input reads as it did. -/
def fnExactRecoverDiskUptoRow : OpenClaim := { program := "ytledabakodggcaagreatdoor", sum := "c9cc8258542998d76ce6876cd23336559601f86cd66ba08237114a3fa1762dcd", func := "loop.example/g00730/laws.FnExactRecoverDisk", spec := "fnExactRecoverDisk", inPlace := ["internal/reflectlite.TypeOf"], unfollowed := true, recurses := true, named := ["loop.example/g00730/impl.writeSizes", "loop.example/g00730/impl.errFull", "loop.example/g00730/impl.errTaken", "loop.example/g00730/impl.errStale", "loop.example/g00730/impl.errState"], ifaces := true, plainKeys := false, apart := false, laid := [("loop.example/g00730/impl.writeSizes", laid_loop_example_g00730_impl_writeSizes), ("loop.example/g00730/impl.errStale", laid_loop_example_g00730_impl_errStale), ("loop.example/g00730/impl.errFull", laid_loop_example_g00730_impl_errFull), ("loop.example/g00730/impl.errState", laid_loop_example_g00730_impl_errState), ("loop.example/g00730/impl.errTaken", laid_loop_example_g00730_impl_errTaken)], narrowed := true }
def FnExactRecoverDiskUptoSaid : Prop := fnExactRecoverDiskUptoRow.holds Tryz.pinned (OpenSpec.upto fnExactRecoverDiskSpec)

/-- 'laws.FnExactCommitWrite', WHERE WHAT IT READS IS OF BULK AT MOST 1048576: true; the input reads as it did. -/
def fnExactCommitWriteUptoRow : OpenClaim := { program := "ytledabakodggcaagreatdoor", sum := "c9cc8258542998d76ce6876cd23336559601f86cd66ba08237114a3fa1762dcd", func := "loop.example/g00730/laws.FnExactCommitWrite", spec := "fnExactCommitWrite", inPlace := ["internal/reflectlite.TypeOf"], unfollowed := true, recurses := true, named := ["loop.example/g00730/impl.writeSizes", "loop.example/g00730/impl.errFull", "loop.example/g00730/impl.errTaken", "loop.example/g00730/impl.errStale", "loop.example/g00730/impl.errState"], ifaces := true, plainKeys := false, apart := false, laid := [("loop.example/g00730/impl.writeSizes", laid_loop_example_g00730_impl_writeSizes), ("loop.example/g00730/impl.errStale", laid_loop_example_g00730_impl_errStale), ("loop.example/g00730/impl.errFull", laid_loop_example_g00730_impl_errFull), ("loop.example/g00730/impl.errState", laid_loop_example_g00730_impl_errState), ("loop.example/g00730/impl.errTaken", laid_loop_example_g00730_impl_errTaken)], narrowed := true }
def FnExactCommitWriteUptoSaid : Prop := fnExactCommitWriteUptoRow.holds Tryz.pinned (OpenSpec.upto fnExactCommitWriteSpec)

end Rows
end Go.Proofs.YtledabakodggcaaGreatDoor
