/-
  NARROWER THAN 'FOR EVERY INPUT', by the rows' own cells (each row's printed sentence says how): FnObjects: laid · FnExactEncodeWrite: laid · FnExactDecodeWrite: laid.
  DERIVED. THE GIVEN ROWS OF THIS SEAT. 3 by the template 'for every input the law returns true; each argument reads behind the call as it read before'; 0 by the template 'total and deterministic' (their statements: YtceafhcjiichfaaDoorTotals.lean).
  GIVEN WITH THE SEED: the statements are not yours to turn. If you find one false, say at which input.
  Laid BY PROGRAM, IN A SANDBOX (cutbox-rows.mjs): the forced cells as the released guide's own fill.sh prints them over the translation 5b9465a924e0d9a3… (all of the seat's roots in one cut). By AI agents, Wed Nov 11 2026. No macro, syntax, notation, axiom, sorry.
-/
import Derived.Test.YtceafhcjiichfaaDoorChecked
import GoSem.Claim
import GoSem.ClaimJoined
import GoSem.ClaimMapViews
import Derived.JoinedTies
import Derived.KernelRfl
namespace Go.Proofs.YtceafhcjiichfaaDoor
/- THE CELL 'sum', in the pinned program and in every row, IS THE sha256 OF THE DUMP (.gsa) THAT YtceafhcjiichfaaDoorProg.lean LOADS. Nothing in Lean hashes anything: it is a label: what it is worth is what the hold of that sum in a sandbox is worth. -/
noncomputable def Tryd.pinned : Pinned := { name := "ytceafhcjiichfaadoor", sum := "5b9465a924e0d9a32d8df20fdb6ac26aa1ea5be24e59f02986b6d186357c5dfb", checked := Tryd.checked }
namespace Rows
def none {H : Type} : Left H := { results := [], args := [] }

/- WHAT THE LISTED PACKAGE-LEVEL VARIABLES READ AS WHEN THE CALL BEGINS. Each datum BY PROGRAM (the guide's laid-datum.mjs) off the statement by which the dump's own 'gosem.cut.vars' lays the variable. In a bare row this is a premise. The card (YtceafhcjiichfaaDoorCards.lean) ties it to the program's text. -/
def laid_loop_example_g00730_impl_writeSizes {H : Type} : DataW H := .agg [.lit (.int .i64 1), .lit (.int .i64 1), .lit (.int .i64 2), .lit (.int .i64 2), .lit (.int .i64 2), .lit (.int .i64 2), .lit (.int .i64 2), .lit (.int .i64 3), .lit (.int .i64 2)]

/-- 'laws.FnObjects': WHATEVER THE INPUT: true; the input reads as it did. -/
def fnObjectsSpec : ChangeSpec := { name := "fnObjects", vars := ["loop.example/g00730/impl.writeSizes"], fn := fun _ => fun
  | [d, g1] => { results := [.lit (.bool true)], args := [d], vars := [g1] }
  | _ => none }
def fnObjectsRow : OpenClaim := { program := "ytceafhcjiichfaadoor", sum := "5b9465a924e0d9a32d8df20fdb6ac26aa1ea5be24e59f02986b6d186357c5dfb", func := "loop.example/g00730/laws.FnObjects", spec := "fnObjects", named := ["loop.example/g00730/impl.writeSizes"], apart := false, laid := [("loop.example/g00730/impl.writeSizes", laid_loop_example_g00730_impl_writeSizes)] }
def FnObjectsSaid : Prop := fnObjectsRow.holds Tryd.pinned (OpenSpec.ofChange fnObjectsSpec)

/-- ITS FALSE NEIGHBOUR: 'it returns false'. Refute it at one input. -/
def fnObjectsWrong : ChangeSpec := { name := "fnObjects", vars := ["loop.example/g00730/impl.writeSizes"], fn := fun _ => fun
  | [d, g1] => { results := [.lit (.bool false)], args := [d], vars := [g1] }
  | _ => none }
def FnObjectsWrongFalsely : Prop := fnObjectsRow.holds Tryd.pinned (OpenSpec.ofChange fnObjectsWrong)

/-- 'laws.FnExactEncodeWrite': WHATEVER THE INPUT: true; the input reads as it did. -/
def fnExactEncodeWriteSpec : ChangeSpec := { name := "fnExactEncodeWrite", vars := ["loop.example/g00730/impl.writeSizes"], fn := fun _ => fun
  | [d, g1] => { results := [.lit (.bool true)], args := [d], vars := [g1] }
  | _ => none }
def fnExactEncodeWriteRow : OpenClaim := { program := "ytceafhcjiichfaadoor", sum := "5b9465a924e0d9a32d8df20fdb6ac26aa1ea5be24e59f02986b6d186357c5dfb", func := "loop.example/g00730/laws.FnExactEncodeWrite", spec := "fnExactEncodeWrite", named := ["loop.example/g00730/impl.writeSizes"], apart := false, laid := [("loop.example/g00730/impl.writeSizes", laid_loop_example_g00730_impl_writeSizes)] }
def FnExactEncodeWriteSaid : Prop := fnExactEncodeWriteRow.holds Tryd.pinned (OpenSpec.ofChange fnExactEncodeWriteSpec)

/-- ITS FALSE NEIGHBOUR: 'it returns false'. Refute it at one input. -/
def fnExactEncodeWriteWrong : ChangeSpec := { name := "fnExactEncodeWrite", vars := ["loop.example/g00730/impl.writeSizes"], fn := fun _ => fun
  | [d, g1] => { results := [.lit (.bool false)], args := [d], vars := [g1] }
  | _ => none }
def FnExactEncodeWriteWrongFalsely : Prop := fnExactEncodeWriteRow.holds Tryd.pinned (OpenSpec.ofChange fnExactEncodeWriteWrong)

/-- 'laws.FnExactDecodeWrite': WHATEVER THE INPUT: true; the input reads as it did. -/
def fnExactDecodeWriteSpec : ChangeSpec := { name := "fnExactDecodeWrite", vars := ["loop.example/g00730/impl.writeSizes"], fn := fun _ => fun
  | [d, g1] => { results := [.lit (.bool true)], args := [d], vars := [g1] }
  | _ => none }
def fnExactDecodeWriteRow : OpenClaim := { program := "ytceafhcjiichfaadoor", sum := "5b9465a924e0d9a32d8df20fdb6ac26aa1ea5be24e59f02986b6d186357c5dfb", func := "loop.example/g00730/laws.FnExactDecodeWrite", spec := "fnExactDecodeWrite", named := ["loop.example/g00730/impl.writeSizes"], apart := false, laid := [("loop.example/g00730/impl.writeSizes", laid_loop_example_g00730_impl_writeSizes)] }
def FnExactDecodeWriteSaid : Prop := fnExactDecodeWriteRow.holds Tryd.pinned (OpenSpec.ofChange fnExactDecodeWriteSpec)

/-- ITS FALSE NEIGHBOUR: 'it returns false'. Refute it at one input. -/
def fnExactDecodeWriteWrong : ChangeSpec := { name := "fnExactDecodeWrite", vars := ["loop.example/g00730/impl.writeSizes"], fn := fun _ => fun
  | [d, g1] => { results := [.lit (.bool false)], args := [d], vars := [g1] }
  | _ => none }
def FnExactDecodeWriteWrongFalsely : Prop := fnExactDecodeWriteRow.holds Tryd.pinned (OpenSpec.ofChange fnExactDecodeWriteWrong)

/- THE SECOND FORM. 'bulk': how many values and letters a reading holds, each counted each time it is reached (what is shared counts as often as it is met; a slice's spare places count too). A statement '..UptoSaid' is the law's where the arguments, and the package variables that the reading takes, are together of bulk at most 1048576: NARROWER than '..Said'. Prove '..Said' where nothing that the law and all that it calls make is longer than what came in: it says more and counts as full. Else prove '..UptoSaid'. A law counts once. -/
mutual
def uptoBulk {H : Type} : DataW H → Nat
  | .lit (.string bytes) => bytes.length + 1
  | .lit _ => 1
  | .nil => 1
  | .ptr d => uptoBulk d + 1
  | .slice elems spare => uptoBulkAll elems + uptoBulkAll spare + 1
  | .agg parts => uptoBulkAll parts + 1
  | .iface _ d => uptoBulk d + 1
  | .map entries => uptoBulkEntries entries + 1
  | .held _ => 1
def uptoBulkAll {H : Type} : List (DataW H) → Nat
  | [] => 0
  | d :: r => uptoBulk d + uptoBulkAll r
def uptoBulkEntries {H : Type} : List (Lit × DataW H) → Nat
  | [] => 0
  | x :: r => uptoBulkEntry x + uptoBulkEntries r
def uptoBulkEntry {H : Type} : Lit × DataW H → Nat
  | (.string bytes, d) => bytes.length + uptoBulk d + 1
  | (_, d) => uptoBulk d + 1
 end
def uptoSmall : (H : Type) → List (DataW H) → Bool := fun _ ds => decide (uptoBulkAll ds ≤ 1048576)
def OpenSpec.upto (s : _root_.Go.ChangeSpec) : _root_.Go.OpenSpec := { _root_.Go.OpenSpec.ofChange s with cond := some uptoSmall }

/-- 'laws.FnObjects', WHERE WHAT IT READS IS OF BULK AT MOST 1048576: true; the input reads as it did. -/
def fnObjectsUptoRow : OpenClaim := { program := "ytceafhcjiichfaadoor", sum := "5b9465a924e0d9a32d8df20fdb6ac26aa1ea5be24e59f02986b6d186357c5dfb", func := "loop.example/g00730/laws.FnObjects", spec := "fnObjects", named := ["loop.example/g00730/impl.writeSizes"], apart := false, laid := [("loop.example/g00730/impl.writeSizes", laid_loop_example_g00730_impl_writeSizes)], narrowed := true }
def FnObjectsUptoSaid : Prop := fnObjectsUptoRow.holds Tryd.pinned (OpenSpec.upto fnObjectsSpec)

/-- 'laws.FnExactEncodeWrite', WHERE WHAT IT READS IS OF BULK AT MOST 1048576: true; the input reads as it did. -/
def fnExactEncodeWriteUptoRow : OpenClaim := { program := "ytceafhcjiichfaadoor", sum := "5b9465a924e0d9a32d8df20fdb6ac26aa1ea5be24e59f02986b6d186357c5dfb", func := "loop.example/g00730/laws.FnExactEncodeWrite", spec := "fnExactEncodeWrite", named := ["loop.example/g00730/impl.writeSizes"], apart := false, laid := [("loop.example/g00730/impl.writeSizes", laid_loop_example_g00730_impl_writeSizes)], narrowed := true }
def FnExactEncodeWriteUptoSaid : Prop := fnExactEncodeWriteUptoRow.holds Tryd.pinned (OpenSpec.upto fnExactEncodeWriteSpec)

/-- 'laws.FnExactDecodeWrite', WHERE WHAT IT READS IS OF BULK AT MOST 1048576: true; the input reads as it did. -/
def fnExactDecodeWriteUptoRow : OpenClaim := { program := "ytceafhcjiichfaadoor", sum := "5b9465a924e0d9a32d8df20fdb6ac26aa1ea5be24e59f02986b6d186357c5dfb", func := "loop.example/g00730/laws.FnExactDecodeWrite", spec := "fnExactDecodeWrite", named := ["loop.example/g00730/impl.writeSizes"], apart := false, laid := [("loop.example/g00730/impl.writeSizes", laid_loop_example_g00730_impl_writeSizes)], narrowed := true }
def FnExactDecodeWriteUptoSaid : Prop := fnExactDecodeWriteUptoRow.holds Tryd.pinned (OpenSpec.upto fnExactDecodeWriteSpec)

end Rows
end Go.Proofs.YtceafhcjiichfaaDoor
