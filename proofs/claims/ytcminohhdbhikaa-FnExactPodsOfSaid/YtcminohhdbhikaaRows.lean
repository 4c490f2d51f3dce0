/-
  No cell of these rows narrows 'for every input' (looked for: loops, veiled, ifaces, maps, wideKeys, modest, calm, conditions, laid).
  DERIVED. THE GIVEN ROWS OF THIS SEAT. 8 by the template 'for every input the law returns true; each argument reads behind the call as it read before'; 0 by the template 'total and deterministic' (their statements: YtcminohhdbhikaaTotals.lean).
  GIVEN WITH THE SEED: the statements are not yours to turn. If you find one false, say at which input.
  Laid BY PROGRAM, IN A SANDBOX (cutbox-rows.mjs): the forced cells as the released guide's own fill.sh prints them over the translation 85d42c9bd4984856… (all of the seat's roots in one cut). By AI agents, Wed Nov 11 2026. No macro, syntax, notation, axiom, sorry.
-/
import Derived.Test.YtcminohhdbhikaaChecked
import GoSem.Claim
import GoSem.ClaimJoined
import GoSem.ClaimMapViews
import Derived.JoinedTies
import Derived.KernelRfl
namespace Go.Proofs.Ytcminohhdbhikaa
/- THE CELL 'sum', in the pinned program and in every row, IS THE sha256 OF THE DUMP (.gsa) THAT YtcminohhdbhikaaProg.lean LOADS. Nothing in Lean hashes anything: it is a label: what it is worth is what the hold of that sum in a sandbox is worth. -/
noncomputable def Try.pinned : Pinned := { name := "ytcminohhdbhikaa", sum := "85d42c9bd4984856243fd6f1edb0780172b6bc6b6750c7359d0abd2df771fdc7", checked := Try.checked }
namespace Rows
def none {H : Type} : Left H := { results := [], args := [] }

/-- 'laws.FnExactPodsOf': WHATEVER THE INPUT: true; the input reads as it did. -/
def fnExactPodsOfSpec : ChangeSpec := { name := "fnExactPodsOf", fn := fun _ => fun
  | [d1, d2] => { results := [.lit (.bool true)], args := [d1, d2] }
  | _ => none }
def fnExactPodsOfRow : OpenClaim := { program := "ytcminohhdbhikaa", sum := "85d42c9bd4984856243fd6f1edb0780172b6bc6b6750c7359d0abd2df771fdc7", func := "loop.example/g00730/laws.FnExactPodsOf", spec := "fnExactPodsOf", unfollowed := true, recurses := true, plainKeys := false, apart := false }
def FnExactPodsOfSaid : Prop := fnExactPodsOfRow.holds Try.pinned (OpenSpec.ofChange fnExactPodsOfSpec)

/-- ITS FALSE NEIGHBOUR: 'it returns false'. Refute it at one input. -/
def fnExactPodsOfWrong : ChangeSpec := { name := "fnExactPodsOf", fn := fun _ => fun
  | [d1, d2] => { results := [.lit (.bool false)], args := [d1, d2] }
  | _ => none }
def FnExactPodsOfWrongFalsely : Prop := fnExactPodsOfRow.holds Try.pinned (OpenSpec.ofChange fnExactPodsOfWrong)

/-- 'laws.FnExactLiveOf': WHATEVER THE INPUT: true; the input reads as it did. -/
def fnExactLiveOfSpec : ChangeSpec := { name := "fnExactLiveOf", fn := fun _ => fun
  | [d1, d2] => { results := [.lit (.bool true)], args := [d1, d2] }
  | _ => none }
def fnExactLiveOfRow : OpenClaim := { program := "ytcminohhdbhikaa", sum := "85d42c9bd4984856243fd6f1edb0780172b6bc6b6750c7359d0abd2df771fdc7", func := "loop.example/g00730/laws.FnExactLiveOf", spec := "fnExactLiveOf", unfollowed := true, recurses := true, plainKeys := false, apart := false }
def FnExactLiveOfSaid : Prop := fnExactLiveOfRow.holds Try.pinned (OpenSpec.ofChange fnExactLiveOfSpec)

/-- ITS FALSE NEIGHBOUR: 'it returns false'. Refute it at one input. -/
def fnExactLiveOfWrong : ChangeSpec := { name := "fnExactLiveOf", fn := fun _ => fun
  | [d1, d2] => { results := [.lit (.bool false)], args := [d1, d2] }
  | _ => none }
def FnExactLiveOfWrongFalsely : Prop := fnExactLiveOfRow.holds Try.pinned (OpenSpec.ofChange fnExactLiveOfWrong)

/-- 'laws.FnExactDoneOf': WHATEVER THE INPUT: true; the input reads as it did. -/
def fnExactDoneOfSpec : ChangeSpec := { name := "fnExactDoneOf", fn := fun _ => fun
  | [d1, d2] => { results := [.lit (.bool true)], args := [d1, d2] }
  | _ => none }
def fnExactDoneOfRow : OpenClaim := { program := "ytcminohhdbhikaa", sum := "85d42c9bd4984856243fd6f1edb0780172b6bc6b6750c7359d0abd2df771fdc7", func := "loop.example/g00730/laws.FnExactDoneOf", spec := "fnExactDoneOf", unfollowed := true, recurses := true, plainKeys := false, apart := false }
def FnExactDoneOfSaid : Prop := fnExactDoneOfRow.holds Try.pinned (OpenSpec.ofChange fnExactDoneOfSpec)

/-- ITS FALSE NEIGHBOUR: 'it returns false'. Refute it at one input. -/
def fnExactDoneOfWrong : ChangeSpec := { name := "fnExactDoneOf", fn := fun _ => fun
  | [d1, d2] => { results := [.lit (.bool false)], args := [d1, d2] }
  | _ => none }
def FnExactDoneOfWrongFalsely : Prop := fnExactDoneOfRow.holds Try.pinned (OpenSpec.ofChange fnExactDoneOfWrong)

/-- 'laws.FnExactNextForSet': WHATEVER THE INPUT: true; the input reads as it did. -/
def fnExactNextForSetSpec : ChangeSpec := { name := "fnExactNextForSet", fn := fun _ => fun
  | [d1, d2] => { results := [.lit (.bool true)], args := [d1, d2] }
  | _ => none }
def fnExactNextForSetRow : OpenClaim := { program := "ytcminohhdbhikaa", sum := "85d42c9bd4984856243fd6f1edb0780172b6bc6b6750c7359d0abd2df771fdc7", func := "loop.example/g00730/laws.FnExactNextForSet", spec := "fnExactNextForSet", unfollowed := true, recurses := true, plainKeys := false, apart := false }
def FnExactNextForSetSaid : Prop := fnExactNextForSetRow.holds Try.pinned (OpenSpec.ofChange fnExactNextForSetSpec)

/-- ITS FALSE NEIGHBOUR: 'it returns false'. Refute it at one input. -/
def fnExactNextForSetWrong : ChangeSpec := { name := "fnExactNextForSet", fn := fun _ => fun
  | [d1, d2] => { results := [.lit (.bool false)], args := [d1, d2] }
  | _ => none }
def FnExactNextForSetWrongFalsely : Prop := fnExactNextForSetRow.holds Try.pinned (OpenSpec.ofChange fnExactNextForSetWrong)

/-- 'laws.FnExactNextForJob': WHATEVER THE INPUT: true; the input reads as it did. -/
def fnExactNextForJobSpec : ChangeSpec := { name := "fnExactNextForJob", fn := fun _ => fun
  | [d1, d2] => { results := [.lit (.bool true)], args := [d1, d2] }
  | _ => none }
def fnExactNextForJobRow : OpenClaim := { program := "ytcminohhdbhikaa", sum := "85d42c9bd4984856243fd6f1edb0780172b6bc6b6750c7359d0abd2df771fdc7", func := "loop.example/g00730/laws.FnExactNextForJob", spec := "fnExactNextForJob", unfollowed := true, recurses := true, plainKeys := false, apart := false }
def FnExactNextForJobSaid : Prop := fnExactNextForJobRow.holds Try.pinned (OpenSpec.ofChange fnExactNextForJobSpec)

/-- ITS FALSE NEIGHBOUR: 'it returns false'. Refute it at one input. -/
def fnExactNextForJobWrong : ChangeSpec := { name := "fnExactNextForJob", fn := fun _ => fun
  | [d1, d2] => { results := [.lit (.bool false)], args := [d1, d2] }
  | _ => none }
def FnExactNextForJobWrongFalsely : Prop := fnExactNextForJobRow.holds Try.pinned (OpenSpec.ofChange fnExactNextForJobWrong)

/-- 'laws.FnExactNextOrphan': WHATEVER THE INPUT: true; the input reads as it did. -/
def fnExactNextOrphanSpec : ChangeSpec := { name := "fnExactNextOrphan", fn := fun _ => fun
  | [d] => { results := [.lit (.bool true)], args := [d] }
  | _ => none }
def fnExactNextOrphanRow : OpenClaim := { program := "ytcminohhdbhikaa", sum := "85d42c9bd4984856243fd6f1edb0780172b6bc6b6750c7359d0abd2df771fdc7", func := "loop.example/g00730/laws.FnExactNextOrphan", spec := "fnExactNextOrphan", unfollowed := true, recurses := true, plainKeys := false, apart := false }
def FnExactNextOrphanSaid : Prop := fnExactNextOrphanRow.holds Try.pinned (OpenSpec.ofChange fnExactNextOrphanSpec)

/-- ITS FALSE NEIGHBOUR: 'it returns false'. Refute it at one input. -/
def fnExactNextOrphanWrong : ChangeSpec := { name := "fnExactNextOrphan", fn := fun _ => fun
  | [d] => { results := [.lit (.bool false)], args := [d] }
  | _ => none }
def FnExactNextOrphanWrongFalsely : Prop := fnExactNextOrphanRow.holds Try.pinned (OpenSpec.ofChange fnExactNextOrphanWrong)

/-- 'laws.FnExactNextWrite': WHATEVER THE INPUT: true; the input reads as it did. -/
def fnExactNextWriteSpec : ChangeSpec := { name := "fnExactNextWrite", fn := fun _ => fun
  | [d] => { results := [.lit (.bool true)], args := [d] }
  | _ => none }
def fnExactNextWriteRow : OpenClaim := { program := "ytcminohhdbhikaa", sum := "85d42c9bd4984856243fd6f1edb0780172b6bc6b6750c7359d0abd2df771fdc7", func := "loop.example/g00730/laws.FnExactNextWrite", spec := "fnExactNextWrite", unfollowed := true, recurses := true, plainKeys := false, apart := false }
def FnExactNextWriteSaid : Prop := fnExactNextWriteRow.holds Try.pinned (OpenSpec.ofChange fnExactNextWriteSpec)

/-- ITS FALSE NEIGHBOUR: 'it returns false'. Refute it at one input. -/
def fnExactNextWriteWrong : ChangeSpec := { name := "fnExactNextWrite", fn := fun _ => fun
  | [d] => { results := [.lit (.bool false)], args := [d] }
  | _ => none }
def FnExactNextWriteWrongFalsely : Prop := fnExactNextWriteRow.holds Try.pinned (OpenSpec.ofChange fnExactNextWriteWrong)

/-- 'laws.FnExactIsConverged': WHATEVER THE INPUT: true; the input reads as it did. -/
def fnExactIsConvergedSpec : ChangeSpec := { name := "fnExactIsConverged", fn := fun _ => fun
  | [d] => { results := [.lit (.bool true)], args := [d] }
  | _ => none }
def fnExactIsConvergedRow : OpenClaim := { program := "ytcminohhdbhikaa", sum := "85d42c9bd4984856243fd6f1edb0780172b6bc6b6750c7359d0abd2df771fdc7", func := "loop.example/g00730/laws.FnExactIsConverged", spec := "fnExactIsConverged", unfollowed := true, recurses := true, plainKeys := false, apart := false }
def FnExactIsConvergedSaid : Prop := fnExactIsConvergedRow.holds Try.pinned (OpenSpec.ofChange fnExactIsConvergedSpec)

/-- ITS FALSE NEIGHBOUR: 'it returns false'. Refute it at one input. -/
def fnExactIsConvergedWrong : ChangeSpec := { name := "fnExactIsConverged", fn := fun _ => fun
  | [d] => { results := [.lit (.bool false)], args := [d] }
  | _ => none }
def FnExactIsConvergedWrongFalsely : Prop := fnExactIsConvergedRow.holds Try.pinned (OpenSpec.ofChange fnExactIsConvergedWrong)

/- THE SECOND FORM. 'bulk': how many values and letters a reading holds, each counted each time it is reached (what is shared counts as often as it is met; a slice's spare places count too). A statement '..UptoSaid' is the law's where the arguments, and the package variables that the reading takes, are together of bulk at most 1048576: NARROWER than '..Said'. Prove '..Said' where nothing that the law and all that it calls make is longer than what came in: it says more and counts as full. Else prove '..UptoSaid'. A law counts once. -/
mutual
def uptoBulk {H : Type} : DataW H → Nat
  | .lit (.string bytes) => bytes.length + 1
  | .lit _ => 1
  | .nil => 1
  | .ptr d => uptoBulk d + 1
  | .slice elems spare => uptoBulkAll elems + uptoBulkAll spare + 1
  | .agg parts => uptoBulkAll parts + 1
  | .iface _ d => uptoBulk d + 1
  | .map entries => uptoBulkEntries entries + 1
  | .held _ => 1
def uptoBulkAll {H : Type} : List (DataW H) → Nat
  | [] => 0
  | d :: r => uptoBulk d + uptoBulkAll r
def uptoBulkEntries {H : Type} : List (Lit × DataW H) → Nat
  | [] => 0
  | x :: r => uptoBulkEntry x + uptoBulkEntries r
def uptoBulkEntry {H : Type} : Lit × DataW H → Nat
  | (.string bytes, d) => bytes.length + uptoBulk d + 1
  | (_, d) => uptoBulk d + 1
 end
def uptoSmall : (H : Type) → List (DataW H) → Bool := fun _ ds => decide (uptoBulkAll ds ≤ 1048576)
def OpenSpec.upto (s : _root_.Go.ChangeSpec) : _root_.Go.OpenSpec := { _root_.Go.OpenSpec.ofChange s with cond := some uptoSmall }

/-- 'laws.FnExactPodsOf', WHERE WHAT IT READS IS OF BULK AT MOST 1048576: true; the input reads as it did. -/
def fnExactPodsOfUptoRow : OpenClaim := { program := "ytcminohhdbhikaa", sum := "85d42c9bd4984856243fd6f1edb0780172b6bc6b6750c7359d0abd2df771fdc7", func := "loop.example/g00730/laws.FnExactPodsOf", spec := "fnExactPodsOf", unfollowed := true, recurses := true, plainKeys := false, apart := false, narrowed := true }
def FnExactPodsOfUptoSaid : Prop := fnExactPodsOfUptoRow.holds Try.pinned (OpenSpec.upto fnExactPodsOfSpec)

/-- 'laws.FnExactLiveOf', WHERE WHAT IT READS IS OF BULK AT MOST 1048576: true; the input reads as it did. -/
def fnExactLiveOfUptoRow : OpenClaim := { program := "ytcminohhdbhikaa", sum := "85d42c9bd4984856243fd6f1edb0780172b6bc6b6750c7359d0abd2df771fdc7", func := "loop.example/g00730/laws.FnExactLiveOf", spec := "fnExactLiveOf", unfollowed := true, recurses := true, plainKeys := false, apart := false, narrowed := true }
def FnExactLiveOfUptoSaid : Prop := fnExactLiveOfUptoRow.holds Try.pinned (OpenSpec.upto fnExactLiveOfSpec)

/-- 'laws.FnExactDoneOf', WHERE WHAT IT READS IS OF BULK AT MOST 1048576: true; the input reads as it did. -/
def fnExactDoneOfUptoRow : OpenClaim := { program := "ytcminohhdbhikaa", sum := "85d42c9bd4984856243fd6f1edb0780172b6bc6b6750c7359d0abd2df771fdc7", func := "loop.example/g00730/laws.FnExactDoneOf", spec := "fnExactDoneOf", unfollowed := true, recurses := true, plainKeys := false, apart := false, narrowed := true }
def FnExactDoneOfUptoSaid : Prop := fnExactDoneOfUptoRow.holds Try.pinned (OpenSpec.upto fnExactDoneOfSpec)

/-- 'laws.FnExactNextForSet', WHERE WHAT IT READS IS OF BULK AT MOST 1048576: true; the input reads as it did. -/
def fnExactNextForSetUptoRow : OpenClaim := { program := "ytcminohhdbhikaa", sum := "85d42c9bd4984856243fd6f1edb0780172b6bc6b6750c7359d0abd2df771fdc7", func := "loop.example/g00730/laws.FnExactNextForSet", spec := "fnExactNextForSet", unfollowed := true, recurses := true, plainKeys := false, apart := false, narrowed := true }
def FnExactNextForSetUptoSaid : Prop := fnExactNextForSetUptoRow.holds Try.pinned (OpenSpec.upto fnExactNextForSetSpec)

/-- 'laws.FnExactNextForJob', WHERE WHAT IT READS IS OF BULK AT MOST 1048576: true; the input reads as it did. -/
def fnExactNextForJobUptoRow : OpenClaim := { program := "ytcminohhdbhikaa", sum := "85d42c9bd4984856243fd6f1edb0780172b6bc6b6750c7359d0abd2df771fdc7", func := "loop.example/g00730/laws.FnExactNextForJob", spec := "fnExactNextForJob", unfollowed := true, recurses := true, plainKeys := false, apart := false, narrowed := true }
def FnExactNextForJobUptoSaid : Prop := fnExactNextForJobUptoRow.holds Try.pinned (OpenSpec.upto fnExactNextForJobSpec)

/-- 'laws.FnExactNextOrphan', WHERE WHAT IT READS IS OF BULK AT MOST 1048576: true; the input reads as it did. -/
def fnExactNextOrphanUptoRow : OpenClaim := { program := "ytcminohhdbhikaa", sum := "85d42c9bd4984856243fd6f1edb0780172b6bc6b6750c7359d0abd2df771fdc7", func := "loop.example/g00730/laws.FnExactNextOrphan", spec := "fnExactNextOrphan", unfollowed := true, recurses := true, plainKeys := false, apart := false, narrowed := true }
def FnExactNextOrphanUptoSaid : Prop := fnExactNextOrphanUptoRow.holds Try.pinned (OpenSpec.upto fnExactNextOrphanSpec)

/-- 'laws.FnExactNextWrite', WHERE WHAT IT READS IS OF BULK AT MOST 1048576: true; the input reads as it did. -/
def fnExactNextWriteUptoRow : OpenClaim := { program := "ytcminohhdbhikaa", sum := "85d42c9bd4984856243fd6f1edb0780172b6bc6b6750c7359d0abd2df771fdc7", func := "loop.example/g00730/laws.FnExactNextWrite", spec := "fnExactNextWrite", unfollowed := true, recurses := true, plainKeys := false, apart := false, narrowed := true }
def FnExactNextWriteUptoSaid : Prop := fnExactNextWriteUptoRow.holds Try.pinned (OpenSpec.upto fnExactNextWriteSpec)

/-- 'laws.FnExactIsConverged', WHERE WHAT IT READS IS OF BULK AT MOST 1048576: true; the input reads as it did. -/
def fnExactIsConvergedUptoRow : OpenClaim := { program := "ytcminohhdbhikaa", sum := "85d42c9bd4984856243fd6f1edb0780172b6bc6b6750c7359d0abd2df771fdc7", func := "loop.example/g00730/laws.FnExactIsConverged", spec := "fnExactIsConverged", unfollowed := true, recurses := true, plainKeys := false, apart := false, narrowed := true }
def FnExactIsConvergedUptoSaid : Prop := fnExactIsConvergedUptoRow.holds Try.pinned (OpenSpec.upto fnExactIsConvergedSpec)

end Rows
end Go.Proofs.Ytcminohhdbhikaa
