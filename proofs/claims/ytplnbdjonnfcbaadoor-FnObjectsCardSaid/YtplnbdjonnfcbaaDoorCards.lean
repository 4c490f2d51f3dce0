/-
  DERIVED. GIVEN WITH THE SEED: THE CARDS: each row of YtplnbdjonnfcbaaDoorRows.lean that lists a variable, with what it lists TIED to the program's text (the seventh form; the later family's looks); each row that meets fmt, with fmt's text TOLD by the authors' own Lean function (tested against real Go, not proved from fmt's source: count such statements apart). THE CARD IS WHAT COUNTS. Prove the row's statement (the work); the ties are given (YtplnbdjonnfcbaaDoorTie.lean); close each card by the builder's one call (the guide's Derived/Test/ToyasCard.lean, 'card_holds'). Laid BY PROGRAM, IN A SANDBOX (cutbox-door.mjs). By AI agents, Wed Nov 11 2026. No macro, syntax, notation, axiom, sorry.
-/
import Derived.Test.YtplnbdjonnfcbaaDoorRows
import GoSem.ClaimSeven
namespace Go.Proofs.YtplnbdjonnfcbaaDoor
namespace Rows

/-- THE TIED CARD OF 'laws.FnObjects'. -/
def fnObjectsCard : Claim7 := { stood := { row := fnObjectsRow, standIns := [], harness := (true, "f382accbe86970dee185b20e4e8018fed4911bab7f844ee2ef7133a44ca678ba"), looks := true }, kinds := [], alts := [], laidByText := true, laidKinds := [.data], laidTests := true, laidLooks := .later }
def FnObjectsCardSaid : Prop := Claim7.holds Tryd.pinned (.plain (OpenSpec.ofChange fnObjectsSpec)) fnObjectsCard

/-- THE TIED CARD OF 'laws.FnExactCheckWrite'. -/
def fnExactCheckWriteCard : Claim7 := { stood := { row := fnExactCheckWriteRow, standIns := [], harness := (true, "f382accbe86970dee185b20e4e8018fed4911bab7f844ee2ef7133a44ca678ba"), looks := true }, kinds := [], alts := [], laidByText := true, laidKinds := [.sentinel, .sentinel, .sentinel, .sentinel], laidTests := true, laidLooks := .later }
def FnExactCheckWriteCardSaid : Prop := Claim7.holds Tryd.pinned (.plain (OpenSpec.ofChange fnExactCheckWriteSpec)) fnExactCheckWriteCard

/-- THE SECOND FORM's CARD OF 'laws.FnObjects'. -/
def fnObjectsUptoCard : Claim7 := { stood := { row := fnObjectsUptoRow, standIns := [], harness := (true, "f382accbe86970dee185b20e4e8018fed4911bab7f844ee2ef7133a44ca678ba"), looks := true }, kinds := [], alts := [], laidByText := true, laidKinds := [.data], laidTests := true, laidLooks := .later }
def FnObjectsUptoCardSaid : Prop := Claim7.holds Tryd.pinned (.plain (OpenSpec.upto fnObjectsSpec)) fnObjectsUptoCard

/-- THE SECOND FORM's CARD OF 'laws.FnExactCheckWrite'. -/
def fnExactCheckWriteUptoCard : Claim7 := { stood := { row := fnExactCheckWriteUptoRow, standIns := [], harness := (true, "f382accbe86970dee185b20e4e8018fed4911bab7f844ee2ef7133a44ca678ba"), looks := true }, kinds := [], alts := [], laidByText := true, laidKinds := [.sentinel, .sentinel, .sentinel, .sentinel], laidTests := true, laidLooks := .later }
def FnExactCheckWriteUptoCardSaid : Prop := Claim7.holds Tryd.pinned (.plain (OpenSpec.upto fnExactCheckWriteSpec)) fnExactCheckWriteUptoCard
end Rows
end Go.Proofs.YtplnbdjonnfcbaaDoor
