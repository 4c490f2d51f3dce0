/-
  DERIVED. GIVEN WITH THE SEED: THE CARDS: each row of YtledabakodggcaaGreatDoorRows.lean that lists a variable, with what it lists TIED to the program's text (the seventh form; the later family's looks); each row that meets fmt, with fmt's text TOLD by the authors' own Lean function (tested against real Go, not proved from fmt's source: count such statements apart). THE CARD IS WHAT COUNTS. Prove the row's statement (the work); the ties are given (YtledabakodggcaaGreatDoorTie.lean); close each card by the builder's one call (the guide's Derived/Test/ToyasCard.lean, 'card_holds'). Laid BY PROGRAM, IN A SANDBOX (cutbox-door.mjs). By AI agents, Wed Nov 11 2026. No macro, syntax, notation, axiom, sorry.
-/
import Derived.Test.YtledabakodggcaaGreatDoorRows
import GoSem.ClaimSeven
namespace Go.Proofs.YtledabakodggcaaGreatDoor
namespace Rows

/-- THE TIED CARD OF 'laws.FnExactReplayWrites'. -/
def fnExactReplayWritesCard : Claim7 := { stood := { row := fnExactReplayWritesRow, standIns := [], harness := (true, "df8ff958593d8012495d936c75ae4ce4c66925c07f6379966de4c38391eb8e72"), looks := true }, kinds := [], alts := [], laidByText := true, laidKinds := [.sentinel, .sentinel, .sentinel, .sentinel], laidTests := true, laidLooks := .later }
def FnExactReplayWritesCardSaid : Prop := Claim7.holds Tryz.pinned (.plain (OpenSpec.ofChange fnExactReplayWritesSpec)) fnExactReplayWritesCard

/-- THE TIED CARD OF 'laws.FnExactRecoverDisk'. -/
def fnExactRecoverDiskCard : Claim7 := { stood := { row := fnExactRecoverDiskRow, standIns := [], harness := (true, "df8ff958593d8012495d936c75ae4ce4c66925c07f6379966de4c38391eb8e72"), looks := true }, kinds := [], alts := [], laidByText := true, laidKinds := [.data, .sentinel, .sentinel, .sentinel, .sentinel], laidTests := true, laidLooks := .later }
def FnExactRecoverDiskCardSaid : Prop := Claim7.holds Tryz.pinned (.plain (OpenSpec.ofChange fnExactRecoverDiskSpec)) fnExactRecoverDiskCard

/-- THE TIED CARD OF 'laws.FnExactCommitWrite'. -/
def fnExactCommitWriteCard : Claim7 := { stood := { row := fnExactCommitWriteRow, standIns := [], harness := (true, "df8ff958593d8012495d936c75ae4ce4c66925c07f6379966de4c38391eb8e72"), looks := true }, kinds := [], alts := [], laidByText := true, laidKinds := [.data, .sentinel, .sentinel, .sentinel, .sentinel], laidTests := true, laidLooks := .later }
def FnExactCommitWriteCardSaid : Prop := Claim7.holds Tryz.pinned (.plain (OpenSpec.ofChange fnExactCommitWriteSpec)) fnExactCommitWriteCard

/-- THE SECOND FORM's CARD OF 'laws.FnExactReplayWrites'. -/
def fnExactReplayWritesUptoCard : Claim7 := { stood := { row := fnExactReplayWritesUptoRow, standIns := [], harness := (true, "df8ff958593d8012495d936c75ae4ce4c66925c07f6379966de4c38391eb8e72"), looks := true }, kinds := [], alts := [], laidByText := true, laidKinds := [.sentinel, .sentinel, .sentinel, .sentinel], laidTests := true, laidLooks := .later }
def FnExactReplayWritesUptoCardSaid : Prop := Claim7.holds Tryz.pinned (.plain (OpenSpec.upto fnExactReplayWritesSpec)) fnExactReplayWritesUptoCard

/-- THE SECOND FORM's CARD OF 'laws.FnExactRecoverDisk'. -/
def fnExactRecoverDiskUptoCard : Claim7 := { stood := { row := fnExactRecoverDiskUptoRow, standIns := [], harness := (true, "df8ff958593d8012495d936c75ae4ce4c66925c07f6379966de4c38391eb8e72"), looks := true }, kinds := [], alts := [], laidByText := true, laidKinds := [.data, .sentinel, .sentinel, .sentinel, .sentinel], laidTests := true, laidLooks := .later }
def FnExactRecoverDiskUptoCardSaid : Prop := Claim7.holds Tryz.pinned (.plain (OpenSpec.upto fnExactRecoverDiskSpec)) fnExactRecoverDiskUptoCard

/-- THE SECOND FORM's CARD OF 'laws.FnExactCommitWrite'. -/
def fnExactCommitWriteUptoCard : Claim7 := { stood := { row := fnExactCommitWriteUptoRow, standIns := [], harness := (true, "df8ff958593d8012495d936c75ae4ce4c66925c07f6379966de4c38391eb8e72"), looks := true }, kinds := [], alts := [], laidByText := true, laidKinds := [.data, .sentinel, .sentinel, .sentinel, .sentinel], laidTests := true, laidLooks := .later }
def FnExactCommitWriteUptoCardSaid : Prop := Claim7.holds Tryz.pinned (.plain (OpenSpec.upto fnExactCommitWriteSpec)) fnExactCommitWriteUptoCard
end Rows
end Go.Proofs.YtledabakodggcaaGreatDoor
