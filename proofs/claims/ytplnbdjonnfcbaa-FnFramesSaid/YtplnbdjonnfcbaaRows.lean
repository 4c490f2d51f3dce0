/-
  No cell of these rows narrows 'for every input' (looked for: loops, veiled, ifaces, maps, wideKeys, modest, calm, conditions, laid).
  DERIVED. THE GIVEN ROWS OF THIS SEAT. 10 by the template 'for every input the law returns true; each argument reads behind the call as it read before'; 0 by the template 'total and deterministic' (their statements: YtplnbdjonnfcbaaTotals.lean).
  GIVEN WITH THE SEED: the statements are not yours to turn. If you find one false, say at which input.
  Laid BY PROGRAM, IN A SANDBOX (cutbox-rows.mjs): the forced cells as the released guide's own fill.sh prints them over the translation cf94d8f09a2298a0… (all of the seat's roots in one cut). By AI agents, Wed Nov 11 2026. No macro, syntax, notation, axiom, sorry.
-/
import Derived.Test.YtplnbdjonnfcbaaChecked
import GoSem.Claim
import GoSem.ClaimJoined
import GoSem.ClaimMapViews
import Derived.JoinedTies
import Derived.KernelRfl
namespace Go.Proofs.Ytplnbdjonnfcbaa
/- THE CELL 'sum', in the pinned program and in every row, IS THE sha256 OF THE DUMP (.gsa) THAT YtplnbdjonnfcbaaProg.lean LOADS. Nothing in Lean hashes anything: it is a label: what it is worth is what the hold of that sum in a sandbox is worth. -/
noncomputable def Try.pinned : Pinned := { name := "ytplnbdjonnfcbaa", sum := "cf94d8f09a2298a081dcf616f4ab92dc57745e281c8c4d10bdfb917cd1910d41", checked := Try.checked }
namespace Rows
def none {H : Type} : Left H := { results := [], args := [] }

/-- 'laws.FnFrames': WHATEVER THE INPUT: true; the input reads as it did. -/
def fnFramesSpec : ChangeSpec := { name := "fnFrames", fn := fun _ => fun
  | [d] => { results := [.lit (.bool true)], args := [d] }
  | _ => none }
def fnFramesRow : OpenClaim := { program := "ytplnbdjonnfcbaa", sum := "cf94d8f09a2298a081dcf616f4ab92dc57745e281c8c4d10bdfb917cd1910d41", func := "loop.example/g00730/laws.FnFrames", spec := "fnFrames", plainKeys := false, apart := false }
def FnFramesSaid : Prop := fnFramesRow.holds Try.pinned (OpenSpec.ofChange fnFramesSpec)

/-- ITS FALSE NEIGHBOUR: 'it returns false'. Refute it at one input. -/
def fnFramesWrong : ChangeSpec := { name := "fnFrames", fn := fun _ => fun
  | [d] => { results := [.lit (.bool false)], args := [d] }
  | _ => none }
def FnFramesWrongFalsely : Prop := fnFramesRow.holds Try.pinned (OpenSpec.ofChange fnFramesWrong)

/-- 'laws.FnExactStoreFault': WHATEVER THE INPUT: true; the input reads as it did. -/
def fnExactStoreFaultSpec : ChangeSpec := { name := "fnExactStoreFault", fn := fun _ => fun
  | [d] => { results := [.lit (.bool true)], args := [d] }
  | _ => none }
def fnExactStoreFaultRow : OpenClaim := { program := "ytplnbdjonnfcbaa", sum := "cf94d8f09a2298a081dcf616f4ab92dc57745e281c8c4d10bdfb917cd1910d41", func := "loop.example/g00730/laws.FnExactStoreFault", spec := "fnExactStoreFault", plainKeys := false, apart := false }
def FnExactStoreFaultSaid : Prop := fnExactStoreFaultRow.holds Try.pinned (OpenSpec.ofChange fnExactStoreFaultSpec)

/-- ITS FALSE NEIGHBOUR: 'it returns false'. Refute it at one input. -/
def fnExactStoreFaultWrong : ChangeSpec := { name := "fnExactStoreFault", fn := fun _ => fun
  | [d] => { results := [.lit (.bool false)], args := [d] }
  | _ => none }
def FnExactStoreFaultWrongFalsely : Prop := fnExactStoreFaultRow.holds Try.pinned (OpenSpec.ofChange fnExactStoreFaultWrong)

/-- 'laws.FnExactFindObject': WHATEVER THE INPUT: true; the input reads as it did. -/
def fnExactFindObjectSpec : ChangeSpec := { name := "fnExactFindObject", fn := fun _ => fun
  | [d1, d2] => { results := [.lit (.bool true)], args := [d1, d2] }
  | _ => none }
def fnExactFindObjectRow : OpenClaim := { program := "ytplnbdjonnfcbaa", sum := "cf94d8f09a2298a081dcf616f4ab92dc57745e281c8c4d10bdfb917cd1910d41", func := "loop.example/g00730/laws.FnExactFindObject", spec := "fnExactFindObject", plainKeys := false, apart := false }
def FnExactFindObjectSaid : Prop := fnExactFindObjectRow.holds Try.pinned (OpenSpec.ofChange fnExactFindObjectSpec)

/-- ITS FALSE NEIGHBOUR: 'it returns false'. Refute it at one input. -/
def fnExactFindObjectWrong : ChangeSpec := { name := "fnExactFindObject", fn := fun _ => fun
  | [d1, d2] => { results := [.lit (.bool false)], args := [d1, d2] }
  | _ => none }
def FnExactFindObjectWrongFalsely : Prop := fnExactFindObjectRow.holds Try.pinned (OpenSpec.ofChange fnExactFindObjectWrong)

/-- 'laws.FnExactEpochOf': WHATEVER THE INPUT: true; the input reads as it did. -/
def fnExactEpochOfSpec : ChangeSpec := { name := "fnExactEpochOf", fn := fun _ => fun
  | [d] => { results := [.lit (.bool true)], args := [d] }
  | _ => none }
def fnExactEpochOfRow : OpenClaim := { program := "ytplnbdjonnfcbaa", sum := "cf94d8f09a2298a081dcf616f4ab92dc57745e281c8c4d10bdfb917cd1910d41", func := "loop.example/g00730/laws.FnExactEpochOf", spec := "fnExactEpochOf", plainKeys := false, apart := false }
def FnExactEpochOfSaid : Prop := fnExactEpochOfRow.holds Try.pinned (OpenSpec.ofChange fnExactEpochOfSpec)

/-- ITS FALSE NEIGHBOUR: 'it returns false'. Refute it at one input. -/
def fnExactEpochOfWrong : ChangeSpec := { name := "fnExactEpochOf", fn := fun _ => fun
  | [d] => { results := [.lit (.bool false)], args := [d] }
  | _ => none }
def FnExactEpochOfWrongFalsely : Prop := fnExactEpochOfRow.holds Try.pinned (OpenSpec.ofChange fnExactEpochOfWrong)

/-- 'laws.FnExactCacheFault': WHATEVER THE INPUT: true; the input reads as it did. -/
def fnExactCacheFaultSpec : ChangeSpec := { name := "fnExactCacheFault", fn := fun _ => fun
  | [d] => { results := [.lit (.bool true)], args := [d] }
  | _ => none }
def fnExactCacheFaultRow : OpenClaim := { program := "ytplnbdjonnfcbaa", sum := "cf94d8f09a2298a081dcf616f4ab92dc57745e281c8c4d10bdfb917cd1910d41", func := "loop.example/g00730/laws.FnExactCacheFault", spec := "fnExactCacheFault", plainKeys := false, apart := false }
def FnExactCacheFaultSaid : Prop := fnExactCacheFaultRow.holds Try.pinned (OpenSpec.ofChange fnExactCacheFaultSpec)

/-- ITS FALSE NEIGHBOUR: 'it returns false'. Refute it at one input. -/
def fnExactCacheFaultWrong : ChangeSpec := { name := "fnExactCacheFault", fn := fun _ => fun
  | [d] => { results := [.lit (.bool false)], args := [d] }
  | _ => none }
def FnExactCacheFaultWrongFalsely : Prop := fnExactCacheFaultRow.holds Try.pinned (OpenSpec.ofChange fnExactCacheFaultWrong)

/-- 'laws.FnExactListStore': WHATEVER THE INPUT: true; the input reads as it did. -/
def fnExactListStoreSpec : ChangeSpec := { name := "fnExactListStore", fn := fun _ => fun
  | [d] => { results := [.lit (.bool true)], args := [d] }
  | _ => none }
def fnExactListStoreRow : OpenClaim := { program := "ytplnbdjonnfcbaa", sum := "cf94d8f09a2298a081dcf616f4ab92dc57745e281c8c4d10bdfb917cd1910d41", func := "loop.example/g00730/laws.FnExactListStore", spec := "fnExactListStore", plainKeys := false, apart := false }
def FnExactListStoreSaid : Prop := fnExactListStoreRow.holds Try.pinned (OpenSpec.ofChange fnExactListStoreSpec)

/-- ITS FALSE NEIGHBOUR: 'it returns false'. Refute it at one input. -/
def fnExactListStoreWrong : ChangeSpec := { name := "fnExactListStore", fn := fun _ => fun
  | [d] => { results := [.lit (.bool false)], args := [d] }
  | _ => none }
def FnExactListStoreWrongFalsely : Prop := fnExactListStoreRow.holds Try.pinned (OpenSpec.ofChange fnExactListStoreWrong)

/-- 'laws.FnExactChangesSince': WHATEVER THE INPUT: true; the input reads as it did. -/
def fnExactChangesSinceSpec : ChangeSpec := { name := "fnExactChangesSince", fn := fun _ => fun
  | [d1, d2] => { results := [.lit (.bool true)], args := [d1, d2] }
  | _ => none }
def fnExactChangesSinceRow : OpenClaim := { program := "ytplnbdjonnfcbaa", sum := "cf94d8f09a2298a081dcf616f4ab92dc57745e281c8c4d10bdfb917cd1910d41", func := "loop.example/g00730/laws.FnExactChangesSince", spec := "fnExactChangesSince", unfollowed := true, recurses := true, plainKeys := false, apart := false }
def FnExactChangesSinceSaid : Prop := fnExactChangesSinceRow.holds Try.pinned (OpenSpec.ofChange fnExactChangesSinceSpec)

/-- ITS FALSE NEIGHBOUR: 'it returns false'. Refute it at one input. -/
def fnExactChangesSinceWrong : ChangeSpec := { name := "fnExactChangesSince", fn := fun _ => fun
  | [d1, d2] => { results := [.lit (.bool false)], args := [d1, d2] }
  | _ => none }
def FnExactChangesSinceWrongFalsely : Prop := fnExactChangesSinceRow.holds Try.pinned (OpenSpec.ofChange fnExactChangesSinceWrong)

/-- 'laws.FnExactFollowChanges': WHATEVER THE INPUT: true; the input reads as it did. -/
def fnExactFollowChangesSpec : ChangeSpec := { name := "fnExactFollowChanges", fn := fun _ => fun
  | [d1, d2] => { results := [.lit (.bool true)], args := [d1, d2] }
  | _ => none }
def fnExactFollowChangesRow : OpenClaim := { program := "ytplnbdjonnfcbaa", sum := "cf94d8f09a2298a081dcf616f4ab92dc57745e281c8c4d10bdfb917cd1910d41", func := "loop.example/g00730/laws.FnExactFollowChanges", spec := "fnExactFollowChanges", unfollowed := true, recurses := true, plainKeys := false, apart := false }
def FnExactFollowChangesSaid : Prop := fnExactFollowChangesRow.holds Try.pinned (OpenSpec.ofChange fnExactFollowChangesSpec)

/-- ITS FALSE NEIGHBOUR: 'it returns false'. Refute it at one input. -/
def fnExactFollowChangesWrong : ChangeSpec := { name := "fnExactFollowChanges", fn := fun _ => fun
  | [d1, d2] => { results := [.lit (.bool false)], args := [d1, d2] }
  | _ => none }
def FnExactFollowChangesWrongFalsely : Prop := fnExactFollowChangesRow.holds Try.pinned (OpenSpec.ofChange fnExactFollowChangesWrong)

/-- 'laws.FnExactFindCached': WHATEVER THE INPUT: true; the input reads as it did. -/
def fnExactFindCachedSpec : ChangeSpec := { name := "fnExactFindCached", fn := fun _ => fun
  | [d1, d2] => { results := [.lit (.bool true)], args := [d1, d2] }
  | _ => none }
def fnExactFindCachedRow : OpenClaim := { program := "ytplnbdjonnfcbaa", sum := "cf94d8f09a2298a081dcf616f4ab92dc57745e281c8c4d10bdfb917cd1910d41", func := "loop.example/g00730/laws.FnExactFindCached", spec := "fnExactFindCached", plainKeys := false, apart := false }
def FnExactFindCachedSaid : Prop := fnExactFindCachedRow.holds Try.pinned (OpenSpec.ofChange fnExactFindCachedSpec)

/-- ITS FALSE NEIGHBOUR: 'it returns false'. Refute it at one input. -/
def fnExactFindCachedWrong : ChangeSpec := { name := "fnExactFindCached", fn := fun _ => fun
  | [d1, d2] => { results := [.lit (.bool false)], args := [d1, d2] }
  | _ => none }
def FnExactFindCachedWrongFalsely : Prop := fnExactFindCachedRow.holds Try.pinned (OpenSpec.ofChange fnExactFindCachedWrong)

/-- 'laws.FnExactSameCaches': WHATEVER THE INPUT: true; the input reads as it did. -/
def fnExactSameCachesSpec : ChangeSpec := { name := "fnExactSameCaches", fn := fun _ => fun
  | [d1, d2] => { results := [.lit (.bool true)], args := [d1, d2] }
  | _ => none }
def fnExactSameCachesRow : OpenClaim := { program := "ytplnbdjonnfcbaa", sum := "cf94d8f09a2298a081dcf616f4ab92dc57745e281c8c4d10bdfb917cd1910d41", func := "loop.example/g00730/laws.FnExactSameCaches", spec := "fnExactSameCaches", plainKeys := false, apart := false }
def FnExactSameCachesSaid : Prop := fnExactSameCachesRow.holds Try.pinned (OpenSpec.ofChange fnExactSameCachesSpec)

/-- ITS FALSE NEIGHBOUR: 'it returns false'. Refute it at one input. -/
def fnExactSameCachesWrong : ChangeSpec := { name := "fnExactSameCaches", fn := fun _ => fun
  | [d1, d2] => { results := [.lit (.bool false)], args := [d1, d2] }
  | _ => none }
def FnExactSameCachesWrongFalsely : Prop := fnExactSameCachesRow.holds Try.pinned (OpenSpec.ofChange fnExactSameCachesWrong)

/- THE SECOND FORM. 'bulk': how many values and letters a reading holds, each counted each time it is reached (what is shared counts as often as it is met; a slice's spare places count too). A statement '..UptoSaid' is the law's where the arguments, and the package variables that the reading takes, are together of bulk at most 1048576: NARROWER than '..Said'. Prove '..Said' where nothing that the law and all that it calls make is longer than what came in: it says more and counts as full. Else prove '..UptoSaid'. A law counts once. -/
mutual
def uptoBulk {H : Type} : DataW H → Nat
  | .lit (.string bytes) => bytes.length + 1
  | .lit _ => 1
  | .nil => 1
  | .ptr d => uptoBulk d + 1
  | .slice elems spare => uptoBulkAll elems + uptoBulkAll spare + 1
  | .agg parts => uptoBulkAll parts + 1
  | .iface _ d => uptoBulk d + 1
  | .map entries => uptoBulkEntries entries + 1
  | .held _ => 1
def uptoBulkAll {H : Type} : List (DataW H) → Nat
  | [] => 0
  | d :: r => uptoBulk d + uptoBulkAll r
def uptoBulkEntries {H : Type} : List (Lit × DataW H) → Nat
  | [] => 0
  | x :: r => uptoBulkEntry x + uptoBulkEntries r
def uptoBulkEntry {H : Type} : Lit × DataW H → Nat
  | (.string bytes, d) => bytes.length + uptoBulk d + 1
  | (_, d) => uptoBulk d + 1
 end
def uptoSmall : (H : Type) → List (DataW H) → Bool := fun _ ds => decide (uptoBulkAll ds ≤ 1048576)
def OpenSpec.upto (s : _root_.Go.ChangeSpec) : _root_.Go.OpenSpec := { _root_.Go.OpenSpec.ofChange s with cond := some uptoSmall }

/-- 'laws.FnFrames', WHERE WHAT IT READS IS OF BULK AT MOST 1048576: true; the input reads as it did. -/
def fnFramesUptoRow : OpenClaim := { program := "ytplnbdjonnfcbaa", sum := "cf94d8f09a2298a081dcf616f4ab92dc57745e281c8c4d10bdfb917cd1910d41", func := "loop.example/g00730/laws.FnFrames", spec := "fnFrames", plainKeys := false, apart := false, narrowed := true }
def FnFramesUptoSaid : Prop := fnFramesUptoRow.holds Try.pinned (OpenSpec.upto fnFramesSpec)

/-- 'laws.FnExactStoreFault', WHERE WHAT IT READS IS OF BULK AT MOST 1048576: true; the input reads as it did. -/
def fnExactStoreFaultUptoRow : OpenClaim := { program := "ytplnbdjonnfcbaa", sum := "cf94d8f09a2298a081dcf616f4ab92dc57745e281c8c4d10bdfb917cd1910d41", func := "loop.example/g00730/laws.FnExactStoreFault", spec := "fnExactStoreFault", plainKeys := false, apart := false, narrowed := true }
def FnExactStoreFaultUptoSaid : Prop := fnExactStoreFaultUptoRow.holds Try.pinned (OpenSpec.upto fnExactStoreFaultSpec)

/-- 'laws.FnExactFindObject', WHERE WHAT IT READS IS OF BULK AT MOST 1048576: true; the input reads as it did. -/
def fnExactFindObjectUptoRow : OpenClaim := { program := "ytplnbdjonnfcbaa", sum := "cf94d8f09a2298a081dcf616f4ab92dc57745e281c8c4d10bdfb917cd1910d41", func := "loop.example/g00730/laws.FnExactFindObject", spec := "fnExactFindObject", plainKeys := false, apart := false, narrowed := true }
def FnExactFindObjectUptoSaid : Prop := fnExactFindObjectUptoRow.holds Try.pinned (OpenSpec.upto fnExactFindObjectSpec)

/-- 'laws.FnExactEpochOf', WHERE WHAT IT READS IS OF BULK AT MOST 1048576: true; the input reads as it did. -/
def fnExactEpochOfUptoRow : OpenClaim := { program := "ytplnbdjonnfcbaa", sum := "cf94d8f09a2298a081dcf616f4ab92dc57745e281c8c4d10bdfb917cd1910d41", func := "loop.example/g00730/laws.FnExactEpochOf", spec := "fnExactEpochOf", plainKeys := false, apart := false, narrowed := true }
def FnExactEpochOfUptoSaid : Prop := fnExactEpochOfUptoRow.holds Try.pinned (OpenSpec.upto fnExactEpochOfSpec)

/-- 'laws.FnExactCacheFault', WHERE WHAT IT READS IS OF BULK AT MOST 1048576: true; the input reads as it did. -/
def fnExactCacheFaultUptoRow : OpenClaim := { program := "ytplnbdjonnfcbaa", sum := "cf94d8f09a2298a081dcf616f4ab92dc57745e281c8c4d10bdfb917cd1910d41", func := "loop.example/g00730/laws.FnExactCacheFault", spec := "fnExactCacheFault", plainKeys := false, apart := false, narrowed := true }
def FnExactCacheFaultUptoSaid : Prop := fnExactCacheFaultUptoRow.holds Try.pinned (OpenSpec.upto fnExactCacheFaultSpec)

/-- 'laws.FnExactListStore', WHERE WHAT IT READS IS OF BULK AT MOST 1048576: true; the input reads as it did. -/
def fnExactListStoreUptoRow : OpenClaim := { program := "ytplnbdjonnfcbaa", sum := "cf94d8f09a2298a081dcf616f4ab92dc57745e281c8c4d10bdfb917cd1910d41", func := "loop.example/g00730/laws.FnExactListStore", spec := "fnExactListStore", plainKeys := false, apart := false, narrowed := true }
def FnExactListStoreUptoSaid : Prop := fnExactListStoreUptoRow.holds Try.pinned (OpenSpec.upto fnExactListStoreSpec)

/-- 'laws.FnExactChangesSince', WHERE WHAT IT READS IS OF BULK AT MOST 1048576: true; the input reads as it did. -/
def fnExactChangesSinceUptoRow : OpenClaim := { program := "ytplnbdjonnfcbaa", sum := "cf94d8f09a2298a081dcf616f4ab92dc57745e281c8c4d10bdfb917cd1910d41", func := "loop.example/g00730/laws.FnExactChangesSince", spec := "fnExactChangesSince", unfollowed := true, recurses := true, plainKeys := false, apart := false, narrowed := true }
def FnExactChangesSinceUptoSaid : Prop := fnExactChangesSinceUptoRow.holds Try.pinned (OpenSpec.upto fnExactChangesSinceSpec)

/-- 'laws.FnExactFollowChanges', WHERE WHAT IT READS IS OF BULK AT MOST 1048576: true; the input reads as it did. -/
def fnExactFollowChangesUptoRow : OpenClaim := { program := "ytplnbdjonnfcbaa", sum := "cf94d8f09a2298a081dcf616f4ab92dc57745e281c8c4d10bdfb917cd1910d41", func := "loop.example/g00730/laws.FnExactFollowChanges", spec := "fnExactFollowChanges", unfollowed := true, recurses := true, plainKeys := false, apart := false, narrowed := true }
def FnExactFollowChangesUptoSaid : Prop := fnExactFollowChangesUptoRow.holds Try.pinned (OpenSpec.upto fnExactFollowChangesSpec)

/-- 'laws.FnExactFindCached', WHERE WHAT IT READS IS OF BULK AT MOST 1048576: true; the input reads as it did. -/
def fnExactFindCachedUptoRow : OpenClaim := { program := "ytplnbdjonnfcbaa", sum := "cf94d8f09a2298a081dcf616f4ab92dc57745e281c8c4d10bdfb917cd1910d41", func := "loop.example/g00730/laws.FnExactFindCached", spec := "fnExactFindCached", plainKeys := false, apart := false, narrowed := true }
def FnExactFindCachedUptoSaid : Prop := fnExactFindCachedUptoRow.holds Try.pinned (OpenSpec.upto fnExactFindCachedSpec)

/-- 'laws.FnExactSameCaches', WHERE WHAT IT READS IS OF BULK AT MOST 1048576: true; the input reads as it did. -/
def fnExactSameCachesUptoRow : OpenClaim := { program := "ytplnbdjonnfcbaa", sum := "cf94d8f09a2298a081dcf616f4ab92dc57745e281c8c4d10bdfb917cd1910d41", func := "loop.example/g00730/laws.FnExactSameCaches", spec := "fnExactSameCaches", plainKeys := false, apart := false, narrowed := true }
def FnExactSameCachesUptoSaid : Prop := fnExactSameCachesUptoRow.holds Try.pinned (OpenSpec.upto fnExactSameCachesSpec)

end Rows
end Go.Proofs.Ytplnbdjonnfcbaa
