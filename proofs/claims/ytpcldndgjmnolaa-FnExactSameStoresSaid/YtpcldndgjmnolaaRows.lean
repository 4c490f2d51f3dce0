/-
  No cell of these rows narrows 'for every input' (looked for: loops, veiled, ifaces, maps, wideKeys, modest, calm, conditions, laid).
  DERIVED. THE GIVEN ROWS OF THIS SEAT. 4 by the template 'for every input the law returns true; each argument reads behind the call as it read before'; 0 by the template 'total and deterministic' (their statements: YtpcldndgjmnolaaTotals.lean).
  GIVEN WITH THE SEED: the statements are not yours to turn. If you find one false, say at which input.
  Laid BY PROGRAM, IN A SANDBOX (cutbox-rows.mjs): the forced cells as the released guide's own fill.sh prints them over the translation 61d0e72c4643a555… (all of the seat's roots in one cut). By AI agents, Wed Nov 11 2026. No macro, syntax, notation, axiom, sorry.
-/
import Derived.Test.YtpcldndgjmnolaaChecked
import GoSem.Claim
import GoSem.ClaimJoined
import GoSem.ClaimMapViews
import Derived.JoinedTies
import Derived.KernelRfl
namespace Go.Proofs.Ytpcldndgjmnolaa
/- THE CELL 'sum', in the pinned program and in every row, IS THE sha256 OF THE DUMP (.gsa) THAT YtpcldndgjmnolaaProg.lean LOADS. Nothing in Lean hashes anything: it is a label: what it is worth is what the hold of that sum in a sandbox is worth. -/
noncomputable def Try.pinned : Pinned := { name := "ytpcldndgjmnolaa", sum := "61d0e72c4643a5554b70d0cd258e5bcf872e4a713f97db5106588360d9642095", checked := Try.checked }
namespace Rows
def none {H : Type} : Left H := { results := [], args := [] }

/-- 'laws.FnExactStoreFault': WHATEVER THE INPUT: true; the input reads as it did. -/
def fnExactStoreFaultSpec : ChangeSpec := { name := "fnExactStoreFault", fn := fun _ => fun
  | [d] => { results := [.lit (.bool true)], args := [d] }
  | _ => none }
def fnExactStoreFaultRow : OpenClaim := { program := "ytpcldndgjmnolaa", sum := "61d0e72c4643a5554b70d0cd258e5bcf872e4a713f97db5106588360d9642095", func := "loop.example/g00730/laws.FnExactStoreFault", spec := "fnExactStoreFault", plainKeys := false, apart := false }
def FnExactStoreFaultSaid : Prop := fnExactStoreFaultRow.holds Try.pinned (OpenSpec.ofChange fnExactStoreFaultSpec)

/-- ITS FALSE NEIGHBOUR: 'it returns false'. Refute it at one input. -/
def fnExactStoreFaultWrong : ChangeSpec := { name := "fnExactStoreFault", fn := fun _ => fun
  | [d] => { results := [.lit (.bool false)], args := [d] }
  | _ => none }
def FnExactStoreFaultWrongFalsely : Prop := fnExactStoreFaultRow.holds Try.pinned (OpenSpec.ofChange fnExactStoreFaultWrong)

/-- 'laws.FnExactFindObject': WHATEVER THE INPUT: true; the input reads as it did. -/
def fnExactFindObjectSpec : ChangeSpec := { name := "fnExactFindObject", fn := fun _ => fun
  | [d1, d2] => { results := [.lit (.bool true)], args := [d1, d2] }
  | _ => none }
def fnExactFindObjectRow : OpenClaim := { program := "ytpcldndgjmnolaa", sum := "61d0e72c4643a5554b70d0cd258e5bcf872e4a713f97db5106588360d9642095", func := "loop.example/g00730/laws.FnExactFindObject", spec := "fnExactFindObject", plainKeys := false, apart := false }
def FnExactFindObjectSaid : Prop := fnExactFindObjectRow.holds Try.pinned (OpenSpec.ofChange fnExactFindObjectSpec)

/-- ITS FALSE NEIGHBOUR: 'it returns false'. Refute it at one input. -/
def fnExactFindObjectWrong : ChangeSpec := { name := "fnExactFindObject", fn := fun _ => fun
  | [d1, d2] => { results := [.lit (.bool false)], args := [d1, d2] }
  | _ => none }
def FnExactFindObjectWrongFalsely : Prop := fnExactFindObjectRow.holds Try.pinned (OpenSpec.ofChange fnExactFindObjectWrong)

/-- 'laws.FnExactEpochOf': WHATEVER THE INPUT: true; the input reads as it did. -/
def fnExactEpochOfSpec : ChangeSpec := { name := "fnExactEpochOf", fn := fun _ => fun
  | [d] => { results := [.lit (.bool true)], args := [d] }
  | _ => none }
def fnExactEpochOfRow : OpenClaim := { program := "ytpcldndgjmnolaa", sum := "61d0e72c4643a5554b70d0cd258e5bcf872e4a713f97db5106588360d9642095", func := "loop.example/g00730/laws.FnExactEpochOf", spec := "fnExactEpochOf", plainKeys := false, apart := false }
def FnExactEpochOfSaid : Prop := fnExactEpochOfRow.holds Try.pinned (OpenSpec.ofChange fnExactEpochOfSpec)

/-- ITS FALSE NEIGHBOUR: 'it returns false'. Refute it at one input. -/
def fnExactEpochOfWrong : ChangeSpec := { name := "fnExactEpochOf", fn := fun _ => fun
  | [d] => { results := [.lit (.bool false)], args := [d] }
  | _ => none }
def FnExactEpochOfWrongFalsely : Prop := fnExactEpochOfRow.holds Try.pinned (OpenSpec.ofChange fnExactEpochOfWrong)

/-- 'laws.FnExactSameStores': WHATEVER THE INPUT: true; the input reads as it did. -/
def fnExactSameStoresSpec : ChangeSpec := { name := "fnExactSameStores", fn := fun _ => fun
  | [d1, d2] => { results := [.lit (.bool true)], args := [d1, d2] }
  | _ => none }
def fnExactSameStoresRow : OpenClaim := { program := "ytpcldndgjmnolaa", sum := "61d0e72c4643a5554b70d0cd258e5bcf872e4a713f97db5106588360d9642095", func := "loop.example/g00730/laws.FnExactSameStores", spec := "fnExactSameStores", plainKeys := false, apart := false }
def FnExactSameStoresSaid : Prop := fnExactSameStoresRow.holds Try.pinned (OpenSpec.ofChange fnExactSameStoresSpec)

/-- ITS FALSE NEIGHBOUR: 'it returns false'. Refute it at one input. -/
def fnExactSameStoresWrong : ChangeSpec := { name := "fnExactSameStores", fn := fun _ => fun
  | [d1, d2] => { results := [.lit (.bool false)], args := [d1, d2] }
  | _ => none }
def FnExactSameStoresWrongFalsely : Prop := fnExactSameStoresRow.holds Try.pinned (OpenSpec.ofChange fnExactSameStoresWrong)

/- THE SECOND FORM. 'bulk': how many values and letters a reading holds, each counted each time it is reached (what is shared counts as often as it is met; a slice's spare places count too). A statement '..UptoSaid' is the law's where the arguments, and the package variables that the reading takes, are together of bulk at most 1048576: NARROWER than '..Said'. Prove '..Said' where nothing that the law and all that it calls make is longer than what came in: it says more and counts as full. Else prove '..UptoSaid'. A law counts once. -/
mutual
def uptoBulk {H : Type} : DataW H → Nat
  | .lit (.string bytes) => bytes.length + 1
  | .lit _ => 1
  | .nil => 1
  | .ptr d => uptoBulk d + 1
  | .slice elems spare => uptoBulkAll elems + uptoBulkAll spare + 1
  | .agg parts => uptoBulkAll parts + 1
  | .iface _ d => uptoBulk d + 1
  | .map entries => uptoBulkEntries entries + 1
  | .held _ => 1
def uptoBulkAll {H : Type} : List (DataW H) → Nat
  | [] => 0
  | d :: r => uptoBulk d + uptoBulkAll r
def uptoBulkEntries {H : Type} : List (Lit × DataW H) → Nat
  | [] => 0
  | x :: r => uptoBulkEntry x + uptoBulkEntries r
def uptoBulkEntry {H : Type} : Lit × DataW H → Nat
  | (.string bytes, d) => bytes.length + uptoBulk d + 1
  | (_, d) => uptoBulk d + 1
 end
def uptoSmall : (H : Type) → List (DataW H) → Bool := fun _ ds => decide (uptoBulkAll ds ≤ 1048576)
def OpenSpec.upto (s : _root_.Go.ChangeSpec) : _root_.Go.OpenSpec := { _root_.Go.OpenSpec.ofChange s with cond := some uptoSmall }

/-- 'laws.FnExactStoreFault', WHERE WHAT IT READS IS OF BULK AT MOST 1048576: true; the input reads as it did. -/
def fnExactStoreFaultUptoRow : OpenClaim := { program := "ytpcldndgjmnolaa", sum := "61d0e72c4643a5554b70d0cd258e5bcf872e4a713f97db5106588360d9642095", func := "loop.example/g00730/laws.FnExactStoreFault", spec := "fnExactStoreFault", plainKeys := false, apart := false, narrowed := true }
def FnExactStoreFaultUptoSaid : Prop := fnExactStoreFaultUptoRow.holds Try.pinned (OpenSpec.upto fnExactStoreFaultSpec)

/-- 'laws.FnExactFindObject', WHERE WHAT IT READS IS OF BULK AT MOST 1048576: true; the input reads as it did. -/
def fnExactFindObjectUptoRow : OpenClaim := { program := "ytpcldndgjmnolaa", sum := "61d0e72c4643a5554b70d0cd258e5bcf872e4a713f97db5106588360d9642095", func := "loop.example/g00730/laws.FnExactFindObject", spec := "fnExactFindObject", plainKeys := false, apart := false, narrowed := true }
def FnExactFindObjectUptoSaid : Prop := fnExactFindObjectUptoRow.holds Try.pinned (OpenSpec.upto fnExactFindObjectSpec)

/-- 'laws.FnExactEpochOf', WHERE WHAT IT READS IS OF BULK AT MOST 1048576: true; the input reads as it did. -/
def fnExactEpochOfUptoRow : OpenClaim := { program := "ytpcldndgjmnolaa", sum := "61d0e72c4643a5554b70d0cd258e5bcf872e4a713f97db5106588360d9642095", func := "loop.example/g00730/laws.FnExactEpochOf", spec := "fnExactEpochOf", plainKeys := false, apart := false, narrowed := true }
def FnExactEpochOfUptoSaid : Prop := fnExactEpochOfUptoRow.holds Try.pinned (OpenSpec.upto fnExactEpochOfSpec)

/-- 'laws.FnExactSameStores', WHERE WHAT IT READS IS OF BULK AT MOST 1048576: true; the input reads as it did. -/
def fnExactSameStoresUptoRow : OpenClaim := { program := "ytpcldndgjmnolaa", sum := "61d0e72c4643a5554b70d0cd258e5bcf872e4a713f97db5106588360d9642095", func := "loop.example/g00730/laws.FnExactSameStores", spec := "fnExactSameStores", plainKeys := false, apart := false, narrowed := true }
def FnExactSameStoresUptoSaid : Prop := fnExactSameStoresUptoRow.holds Try.pinned (OpenSpec.upto fnExactSameStoresSpec)

end Rows
end Go.Proofs.Ytpcldndgjmnolaa
