/-
  DERIVED. GIVEN WITH THE SEED: THE CARDS: each row of YtceafhcjiichfaaDoorRows.lean that lists a variable, with what it lists TIED to the program's text (the seventh form; the later family's looks); each row that meets fmt, with fmt's text TOLD by the authors' own Lean function (tested against real Go, not proved from fmt's source: count such statements apart). THE CARD IS WHAT COUNTS. Prove the row's statement (the work); the ties are given (YtceafhcjiichfaaDoorTie.lean); close each card by the builder's one call (the guide's Derived/Test/ToyasCard.lean, 'card_holds'). Laid BY PROGRAM, IN A SANDBOX (cutbox-door.mjs). By AI agents, Wed Nov 11 2026. No macro, syntax, notation, axiom, sorry.
-/
import Derived.Test.YtceafhcjiichfaaDoorRows
import GoSem.ClaimSeven
namespace Go.Proofs.YtceafhcjiichfaaDoor
namespace Rows

/-- THE TIED CARD OF 'laws.FnObjects'. -/
def fnObjectsCard : Claim7 := { stood := { row := fnObjectsRow, standIns := [], harness := (true, "e18b01e8343c2daa49f8658ed8b018ac3dff024e7a277beb24bc2fca1567e639"), looks := false }, kinds := [], alts := [], laidByText := true, laidKinds := [.data], laidTests := true, laidLooks := .later }
def FnObjectsCardSaid : Prop := Claim7.holds Tryd.pinned (.plain (OpenSpec.ofChange fnObjectsSpec)) fnObjectsCard

/-- THE TIED CARD OF 'laws.FnExactEncodeWrite'. -/
def fnExactEncodeWriteCard : Claim7 := { stood := { row := fnExactEncodeWriteRow, standIns := [], harness := (true, "e18b01e8343c2daa49f8658ed8b018ac3dff024e7a277beb24bc2fca1567e639"), looks := false }, kinds := [], alts := [], laidByText := true, laidKinds := [.data], laidTests := true, laidLooks := .later }
def FnExactEncodeWriteCardSaid : Prop := Claim7.holds Tryd.pinned (.plain (OpenSpec.ofChange fnExactEncodeWriteSpec)) fnExactEncodeWriteCard

/-- THE TIED CARD OF 'laws.FnExactDecodeWrite'. -/
def fnExactDecodeWriteCard : Claim7 := { stood := { row := fnExactDecodeWriteRow, standIns := [], harness := (true, "e18b01e8343c2daa49f8658ed8b018ac3dff024e7a277beb24bc2fca1567e639"), looks := false }, kinds := [], alts := [], laidByText := true, laidKinds := [.data], laidTests := true, laidLooks := .later }
def FnExactDecodeWriteCardSaid : Prop := Claim7.holds Tryd.pinned (.plain (OpenSpec.ofChange fnExactDecodeWriteSpec)) fnExactDecodeWriteCard

/-- THE SECOND FORM's CARD OF 'laws.FnObjects'. -/
def fnObjectsUptoCard : Claim7 := { stood := { row := fnObjectsUptoRow, standIns := [], harness := (true, "e18b01e8343c2daa49f8658ed8b018ac3dff024e7a277beb24bc2fca1567e639"), looks := false }, kinds := [], alts := [], laidByText := true, laidKinds := [.data], laidTests := true, laidLooks := .later }
def FnObjectsUptoCardSaid : Prop := Claim7.holds Tryd.pinned (.plain (OpenSpec.upto fnObjectsSpec)) fnObjectsUptoCard

/-- THE SECOND FORM's CARD OF 'laws.FnExactEncodeWrite'. -/
def fnExactEncodeWriteUptoCard : Claim7 := { stood := { row := fnExactEncodeWriteUptoRow, standIns := [], harness := (true, "e18b01e8343c2daa49f8658ed8b018ac3dff024e7a277beb24bc2fca1567e639"), looks := false }, kinds := [], alts := [], laidByText := true, laidKinds := [.data], laidTests := true, laidLooks := .later }
def FnExactEncodeWriteUptoCardSaid : Prop := Claim7.holds Tryd.pinned (.plain (OpenSpec.upto fnExactEncodeWriteSpec)) fnExactEncodeWriteUptoCard

/-- THE SECOND FORM's CARD OF 'laws.FnExactDecodeWrite'. -/
def fnExactDecodeWriteUptoCard : Claim7 := { stood := { row := fnExactDecodeWriteUptoRow, standIns := [], harness := (true, "e18b01e8343c2daa49f8658ed8b018ac3dff024e7a277beb24bc2fca1567e639"), looks := false }, kinds := [], alts := [], laidByText := true, laidKinds := [.data], laidTests := true, laidLooks := .later }
def FnExactDecodeWriteUptoCardSaid : Prop := Claim7.holds Tryd.pinned (.plain (OpenSpec.upto fnExactDecodeWriteSpec)) fnExactDecodeWriteUptoCard
end Rows
end Go.Proofs.YtceafhcjiichfaaDoor
