/-
  No cell of these rows narrows 'for every input' (looked for: loops, veiled, ifaces, maps, wideKeys, modest, calm, conditions, laid).
  DERIVED. THE GIVEN ROWS OF THIS SEAT. 8 by the template 'for every input the law returns true; each argument reads behind the call as it read before'; 0 by the template 'total and deterministic' (their statements: YtceafhcjiichfaaTotals.lean).
  GIVEN WITH THE SEED: the statements are not yours to turn. If you find one false, say at which input.
  Laid BY PROGRAM, IN A SANDBOX (cutbox-rows.mjs): the forced cells as the released guide's own fill.sh prints them over the translation 8bc75fe3f672c576… (all of the seat's roots in one cut). By AI agents, Wed Nov 11 2026. No macro, syntax, notation, axiom, sorry.
-/
import Derived.Test.YtceafhcjiichfaaChecked
import GoSem.Claim
import GoSem.ClaimJoined
import GoSem.ClaimMapViews
import Derived.JoinedTies
import Derived.KernelRfl
namespace Go.Proofs.Ytceafhcjiichfaa
/- THE CELL 'sum', in the pinned program and in every row, IS THE sha256 OF THE DUMP (.gsa) THAT YtceafhcjiichfaaProg.lean LOADS. Nothing in Lean hashes anything: it is a label: what it is worth is what the hold of that sum in a sandbox is worth. -/
noncomputable def Try.pinned : Pinned := { name := "ytceafhcjiichfaa", sum := "8bc75fe3f672c576c27d30cc6f3b32c3161181695d26c3d97ad41ff9b2e7c184", checked := Try.checked }
namespace Rows
def none {H : Type} : Left H := { results := [], args := [] }

/-- 'laws.FnMakes': WHATEVER THE INPUT: true; the input reads as it did. -/
def fnMakesSpec : ChangeSpec := { name := "fnMakes", fn := fun _ => fun
  | [d] => { results := [.lit (.bool true)], args := [d] }
  | _ => none }
def fnMakesRow : OpenClaim := { program := "ytceafhcjiichfaa", sum := "8bc75fe3f672c576c27d30cc6f3b32c3161181695d26c3d97ad41ff9b2e7c184", func := "loop.example/g00730/laws.FnMakes", spec := "fnMakes", apart := false }
def FnMakesSaid : Prop := fnMakesRow.holds Try.pinned (OpenSpec.ofChange fnMakesSpec)

/-- ITS FALSE NEIGHBOUR: 'it returns false'. Refute it at one input. -/
def fnMakesWrong : ChangeSpec := { name := "fnMakes", fn := fun _ => fun
  | [d] => { results := [.lit (.bool false)], args := [d] }
  | _ => none }
def FnMakesWrongFalsely : Prop := fnMakesRow.holds Try.pinned (OpenSpec.ofChange fnMakesWrong)

/-- 'laws.FnExactObjectFault': WHATEVER THE INPUT: true; the input reads as it did. -/
def fnExactObjectFaultSpec : ChangeSpec := { name := "fnExactObjectFault", fn := fun _ => fun
  | [d] => { results := [.lit (.bool true)], args := [d] }
  | _ => none }
def fnExactObjectFaultRow : OpenClaim := { program := "ytceafhcjiichfaa", sum := "8bc75fe3f672c576c27d30cc6f3b32c3161181695d26c3d97ad41ff9b2e7c184", func := "loop.example/g00730/laws.FnExactObjectFault", spec := "fnExactObjectFault", apart := false }
def FnExactObjectFaultSaid : Prop := fnExactObjectFaultRow.holds Try.pinned (OpenSpec.ofChange fnExactObjectFaultSpec)

/-- ITS FALSE NEIGHBOUR: 'it returns false'. Refute it at one input. -/
def fnExactObjectFaultWrong : ChangeSpec := { name := "fnExactObjectFault", fn := fun _ => fun
  | [d] => { results := [.lit (.bool false)], args := [d] }
  | _ => none }
def FnExactObjectFaultWrongFalsely : Prop := fnExactObjectFaultRow.holds Try.pinned (OpenSpec.ofChange fnExactObjectFaultWrong)

/-- 'laws.FnExactPodId': WHATEVER THE INPUT: true; the input reads as it did. -/
def fnExactPodIdSpec : ChangeSpec := { name := "fnExactPodId", fn := fun _ => fun
  | [d1, d2, d3] => { results := [.lit (.bool true)], args := [d1, d2, d3] }
  | _ => none }
def fnExactPodIdRow : OpenClaim := { program := "ytceafhcjiichfaa", sum := "8bc75fe3f672c576c27d30cc6f3b32c3161181695d26c3d97ad41ff9b2e7c184", func := "loop.example/g00730/laws.FnExactPodId", spec := "fnExactPodId", apart := false }
def FnExactPodIdSaid : Prop := fnExactPodIdRow.holds Try.pinned (OpenSpec.ofChange fnExactPodIdSpec)

/-- ITS FALSE NEIGHBOUR: 'it returns false'. Refute it at one input. -/
def fnExactPodIdWrong : ChangeSpec := { name := "fnExactPodId", fn := fun _ => fun
  | [d1, d2, d3] => { results := [.lit (.bool false)], args := [d1, d2, d3] }
  | _ => none }
def FnExactPodIdWrongFalsely : Prop := fnExactPodIdRow.holds Try.pinned (OpenSpec.ofChange fnExactPodIdWrong)

/-- 'laws.FnExactWriteFault': WHATEVER THE INPUT: true; the input reads as it did. -/
def fnExactWriteFaultSpec : ChangeSpec := { name := "fnExactWriteFault", fn := fun _ => fun
  | [d] => { results := [.lit (.bool true)], args := [d] }
  | _ => none }
def fnExactWriteFaultRow : OpenClaim := { program := "ytceafhcjiichfaa", sum := "8bc75fe3f672c576c27d30cc6f3b32c3161181695d26c3d97ad41ff9b2e7c184", func := "loop.example/g00730/laws.FnExactWriteFault", spec := "fnExactWriteFault", apart := false }
def FnExactWriteFaultSaid : Prop := fnExactWriteFaultRow.holds Try.pinned (OpenSpec.ofChange fnExactWriteFaultSpec)

/-- ITS FALSE NEIGHBOUR: 'it returns false'. Refute it at one input. -/
def fnExactWriteFaultWrong : ChangeSpec := { name := "fnExactWriteFault", fn := fun _ => fun
  | [d] => { results := [.lit (.bool false)], args := [d] }
  | _ => none }
def FnExactWriteFaultWrongFalsely : Prop := fnExactWriteFaultRow.holds Try.pinned (OpenSpec.ofChange fnExactWriteFaultWrong)

/-- 'laws.FnExactNewSet': WHATEVER THE INPUT: true; the input reads as it did. -/
def fnExactNewSetSpec : ChangeSpec := { name := "fnExactNewSet", fn := fun _ => fun
  | [d1, d2] => { results := [.lit (.bool true)], args := [d1, d2] }
  | _ => none }
def fnExactNewSetRow : OpenClaim := { program := "ytceafhcjiichfaa", sum := "8bc75fe3f672c576c27d30cc6f3b32c3161181695d26c3d97ad41ff9b2e7c184", func := "loop.example/g00730/laws.FnExactNewSet", spec := "fnExactNewSet", apart := false }
def FnExactNewSetSaid : Prop := fnExactNewSetRow.holds Try.pinned (OpenSpec.ofChange fnExactNewSetSpec)

/-- ITS FALSE NEIGHBOUR: 'it returns false'. Refute it at one input. -/
def fnExactNewSetWrong : ChangeSpec := { name := "fnExactNewSet", fn := fun _ => fun
  | [d1, d2] => { results := [.lit (.bool false)], args := [d1, d2] }
  | _ => none }
def FnExactNewSetWrongFalsely : Prop := fnExactNewSetRow.holds Try.pinned (OpenSpec.ofChange fnExactNewSetWrong)

/-- 'laws.FnExactNewJob': WHATEVER THE INPUT: true; the input reads as it did. -/
def fnExactNewJobSpec : ChangeSpec := { name := "fnExactNewJob", fn := fun _ => fun
  | [d1, d2, d3] => { results := [.lit (.bool true)], args := [d1, d2, d3] }
  | _ => none }
def fnExactNewJobRow : OpenClaim := { program := "ytceafhcjiichfaa", sum := "8bc75fe3f672c576c27d30cc6f3b32c3161181695d26c3d97ad41ff9b2e7c184", func := "loop.example/g00730/laws.FnExactNewJob", spec := "fnExactNewJob", apart := false }
def FnExactNewJobSaid : Prop := fnExactNewJobRow.holds Try.pinned (OpenSpec.ofChange fnExactNewJobSpec)

/-- ITS FALSE NEIGHBOUR: 'it returns false'. Refute it at one input. -/
def fnExactNewJobWrong : ChangeSpec := { name := "fnExactNewJob", fn := fun _ => fun
  | [d1, d2, d3] => { results := [.lit (.bool false)], args := [d1, d2, d3] }
  | _ => none }
def FnExactNewJobWrongFalsely : Prop := fnExactNewJobRow.holds Try.pinned (OpenSpec.ofChange fnExactNewJobWrong)

/-- 'laws.FnExactNewPod': WHATEVER THE INPUT: true; the input reads as it did. -/
def fnExactNewPodSpec : ChangeSpec := { name := "fnExactNewPod", fn := fun _ => fun
  | [d1, d2, d3] => { results := [.lit (.bool true)], args := [d1, d2, d3] }
  | _ => none }
def fnExactNewPodRow : OpenClaim := { program := "ytceafhcjiichfaa", sum := "8bc75fe3f672c576c27d30cc6f3b32c3161181695d26c3d97ad41ff9b2e7c184", func := "loop.example/g00730/laws.FnExactNewPod", spec := "fnExactNewPod", apart := false }
def FnExactNewPodSaid : Prop := fnExactNewPodRow.holds Try.pinned (OpenSpec.ofChange fnExactNewPodSpec)

/-- ITS FALSE NEIGHBOUR: 'it returns false'. Refute it at one input. -/
def fnExactNewPodWrong : ChangeSpec := { name := "fnExactNewPod", fn := fun _ => fun
  | [d1, d2, d3] => { results := [.lit (.bool false)], args := [d1, d2, d3] }
  | _ => none }
def FnExactNewPodWrongFalsely : Prop := fnExactNewPodRow.holds Try.pinned (OpenSpec.ofChange fnExactNewPodWrong)

/-- 'laws.FnExactNewLease': WHATEVER THE INPUT: true; the input reads as it did. -/
def fnExactNewLeaseSpec : ChangeSpec := { name := "fnExactNewLease", fn := fun _ => fun
  | [d1, d2] => { results := [.lit (.bool true)], args := [d1, d2] }
  | _ => none }
def fnExactNewLeaseRow : OpenClaim := { program := "ytceafhcjiichfaa", sum := "8bc75fe3f672c576c27d30cc6f3b32c3161181695d26c3d97ad41ff9b2e7c184", func := "loop.example/g00730/laws.FnExactNewLease", spec := "fnExactNewLease", apart := false }
def FnExactNewLeaseSaid : Prop := fnExactNewLeaseRow.holds Try.pinned (OpenSpec.ofChange fnExactNewLeaseSpec)

/-- ITS FALSE NEIGHBOUR: 'it returns false'. Refute it at one input. -/
def fnExactNewLeaseWrong : ChangeSpec := { name := "fnExactNewLease", fn := fun _ => fun
  | [d1, d2] => { results := [.lit (.bool false)], args := [d1, d2] }
  | _ => none }
def FnExactNewLeaseWrongFalsely : Prop := fnExactNewLeaseRow.holds Try.pinned (OpenSpec.ofChange fnExactNewLeaseWrong)

/- THE SECOND FORM. 'bulk': how many values and letters a reading holds, each counted each time it is reached (what is shared counts as often as it is met; a slice's spare places count too). A statement '..UptoSaid' is the law's where the arguments, and the package variables that the reading takes, are together of bulk at most 1048576: NARROWER than '..Said'. Prove '..Said' where nothing that the law and all that it calls make is longer than what came in: it says more and counts as full. Else prove '..UptoSaid'. A law counts once. -/
mutual
def uptoBulk {H : Type} : DataW H → Nat
  | .lit (.string bytes) => bytes.length + 1
  | .lit _ => 1
  | .nil => 1
  | .ptr d => uptoBulk d + 1
  | .slice elems spare => uptoBulkAll elems + uptoBulkAll spare + 1
  | .agg parts => uptoBulkAll parts + 1
  | .iface _ d => uptoBulk d + 1
  | .map entries => uptoBulkEntries entries + 1
  | .held _ => 1
def uptoBulkAll {H : Type} : List (DataW H) → Nat
  | [] => 0
  | d :: r => uptoBulk d + uptoBulkAll r
def uptoBulkEntries {H : Type} : List (Lit × DataW H) → Nat
  | [] => 0
  | x :: r => uptoBulkEntry x + uptoBulkEntries r
def uptoBulkEntry {H : Type} : Lit × DataW H → Nat
  | (.string bytes, d) => bytes.length + uptoBulk d + 1
  | (_, d) => uptoBulk d + 1
 end
def uptoSmall : (H : Type) → List (DataW H) → Bool := fun _ ds => decide (uptoBulkAll ds ≤ 1048576)
def OpenSpec.upto (s : _root_.Go.ChangeSpec) : _root_.Go.OpenSpec := { _root_.Go.OpenSpec.ofChange s with cond := some uptoSmall }

/-- 'laws.FnMakes', WHERE WHAT IT READS IS OF BULK AT MOST 1048576: true; the input reads as it did. -/
def fnMakesUptoRow : OpenClaim := { program := "ytceafhcjiichfaa", sum := "8bc75fe3f672c576c27d30cc6f3b32c3161181695d26c3d97ad41ff9b2e7c184", func := "loop.example/g00730/laws.FnMakes", spec := "fnMakes", apart := false, narrowed := true }
def FnMakesUptoSaid : Prop := fnMakesUptoRow.holds Try.pinned (OpenSpec.upto fnMakesSpec)

/-- 'laws.FnExactObjectFault', WHERE WHAT IT READS IS OF BULK AT MOST 1048576: true; the input reads as it did. -/
def fnExactObjectFaultUptoRow : OpenClaim := { program := "ytceafhcjiichfaa", sum := "8bc75fe3f672c576c27d30cc6f3b32c3161181695d26c3d97ad41ff9b2e7c184", func := "loop.example/g00730/laws.FnExactObjectFault", spec := "fnExactObjectFault", apart := false, narrowed := true }
def FnExactObjectFaultUptoSaid : Prop := fnExactObjectFaultUptoRow.holds Try.pinned (OpenSpec.upto fnExactObjectFaultSpec)

/-- 'laws.FnExactPodId', WHERE WHAT IT READS IS OF BULK AT MOST 1048576: true; the input reads as it did. -/
def fnExactPodIdUptoRow : OpenClaim := { program := "ytceafhcjiichfaa", sum := "8bc75fe3f672c576c27d30cc6f3b32c3161181695d26c3d97ad41ff9b2e7c184", func := "loop.example/g00730/laws.FnExactPodId", spec := "fnExactPodId", apart := false, narrowed := true }
def FnExactPodIdUptoSaid : Prop := fnExactPodIdUptoRow.holds Try.pinned (OpenSpec.upto fnExactPodIdSpec)

/-- 'laws.FnExactWriteFault', WHERE WHAT IT READS IS OF BULK AT MOST 1048576: true; the input reads as it did. -/
def fnExactWriteFaultUptoRow : OpenClaim := { program := "ytceafhcjiichfaa", sum := "8bc75fe3f672c576c27d30cc6f3b32c3161181695d26c3d97ad41ff9b2e7c184", func := "loop.example/g00730/laws.FnExactWriteFault", spec := "fnExactWriteFault", apart := false, narrowed := true }
def FnExactWriteFaultUptoSaid : Prop := fnExactWriteFaultUptoRow.holds Try.pinned (OpenSpec.upto fnExactWriteFaultSpec)

/-- 'laws.FnExactNewSet', WHERE WHAT IT READS IS OF BULK AT MOST 1048576: true; the input reads as it did. -/
def fnExactNewSetUptoRow : OpenClaim := { program := "ytceafhcjiichfaa", sum := "8bc75fe3f672c576c27d30cc6f3b32c3161181695d26c3d97ad41ff9b2e7c184", func := "loop.example/g00730/laws.FnExactNewSet", spec := "fnExactNewSet", apart := false, narrowed := true }
def FnExactNewSetUptoSaid : Prop := fnExactNewSetUptoRow.holds Try.pinned (OpenSpec.upto fnExactNewSetSpec)

/-- 'laws.FnExactNewJob', WHERE WHAT IT READS IS OF BULK AT MOST 1048576: true; the input reads as it did. -/
def fnExactNewJobUptoRow : OpenClaim := { program := "ytceafhcjiichfaa", sum := "8bc75fe3f672c576c27d30cc6f3b32c3161181695d26c3d97ad41ff9b2e7c184", func := "loop.example/g00730/laws.FnExactNewJob", spec := "fnExactNewJob", apart := false, narrowed := true }
def FnExactNewJobUptoSaid : Prop := fnExactNewJobUptoRow.holds Try.pinned (OpenSpec.upto fnExactNewJobSpec)

/-- 'laws.FnExactNewPod', WHERE WHAT IT READS IS OF BULK AT MOST 1048576: true; the input reads as it did. -/
def fnExactNewPodUptoRow : OpenClaim := { program := "ytceafhcjiichfaa", sum := "8bc75fe3f672c576c27d30cc6f3b32c3161181695d26c3d97ad41ff9b2e7c184", func := "loop.example/g00730/laws.FnExactNewPod", spec := "fnExactNewPod", apart := false, narrowed := true }
def FnExactNewPodUptoSaid : Prop := fnExactNewPodUptoRow.holds Try.pinned (OpenSpec.upto fnExactNewPodSpec)

/-- 'laws.FnExactNewLease', WHERE WHAT IT READS IS OF BULK AT MOST 1048576: true; the input reads as it did. -/
def fnExactNewLeaseUptoRow : OpenClaim := { program := "ytceafhcjiichfaa", sum := "8bc75fe3f672c576c27d30cc6f3b32c3161181695d26c3d97ad41ff9b2e7c184", func := "loop.example/g00730/laws.FnExactNewLease", spec := "fnExactNewLease", apart := false, narrowed := true }
def FnExactNewLeaseUptoSaid : Prop := fnExactNewLeaseUptoRow.holds Try.pinned (OpenSpec.upto fnExactNewLeaseSpec)

end Rows
end Go.Proofs.Ytceafhcjiichfaa
