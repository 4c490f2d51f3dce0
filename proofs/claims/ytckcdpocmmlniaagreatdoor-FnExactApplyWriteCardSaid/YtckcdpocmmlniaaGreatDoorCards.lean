/-
  DERIVED. GIVEN WITH THE SEED: THE CARDS: each row of YtckcdpocmmlniaaGreatDoorRows.lean that lists a variable, with what it lists TIED to the program's text (the seventh form; the later family's looks); each row that meets fmt, with fmt's text TOLD by the authors' own Lean function (tested against real Go, not proved from fmt's source: count such statements apart). THE CARD IS WHAT COUNTS. Prove the row's statement (the work); the ties are given (YtckcdpocmmlniaaGreatDoorTie.lean); close each card by the builder's one call (the guide's Derived/Test/ToyasCard.lean, 'card_holds'). Laid BY PROGRAM, IN A SANDBOX (cutbox-door.mjs). By AI agents, Wed Nov 11 2026. No macro, syntax, notation, axiom, sorry.
-/
import Derived.Test.YtckcdpocmmlniaaGreatDoorRows
import GoSem.ClaimSeven
namespace Go.Proofs.YtckcdpocmmlniaaGreatDoor
namespace Rows

/-- THE TIED CARD OF 'laws.FnStores'. -/
def fnStoresCard : Claim7 := { stood := { row := fnStoresRow, standIns := [], harness := (true, "2792af2cd4f38a464f31f3668f75d43669745d7701eefee693be1d59d35bb369"), looks := true }, kinds := [], alts := [], laidByText := true, laidKinds := [.sentinel, .sentinel, .sentinel, .sentinel], laidTests := true, laidLooks := .later }
def FnStoresCardSaid : Prop := Claim7.holds Tryz.pinned (.plain (OpenSpec.ofChange fnStoresSpec)) fnStoresCard

/-- THE TIED CARD OF 'laws.FnGates'. -/
def fnGatesCard : Claim7 := { stood := { row := fnGatesRow, standIns := [], harness := (true, "2792af2cd4f38a464f31f3668f75d43669745d7701eefee693be1d59d35bb369"), looks := true }, kinds := [], alts := [], laidByText := true, laidKinds := [.sentinel, .sentinel, .sentinel, .sentinel], laidTests := true, laidLooks := .later }
def FnGatesCardSaid : Prop := Claim7.holds Tryz.pinned (.plain (OpenSpec.ofChange fnGatesSpec)) fnGatesCard

/-- THE TIED CARD OF 'laws.FnFollows'. -/
def fnFollowsCard : Claim7 := { stood := { row := fnFollowsRow, standIns := [], harness := (true, "2792af2cd4f38a464f31f3668f75d43669745d7701eefee693be1d59d35bb369"), looks := true }, kinds := [], alts := [], laidByText := true, laidKinds := [.sentinel, .sentinel, .sentinel, .sentinel], laidTests := true, laidLooks := .later }
def FnFollowsCardSaid : Prop := Claim7.holds Tryz.pinned (.plain (OpenSpec.ofChange fnFollowsSpec)) fnFollowsCard

/-- THE TIED CARD OF 'laws.FnServers'. -/
def fnServersCard : Claim7 := { stood := { row := fnServersRow, standIns := [], harness := (true, "2792af2cd4f38a464f31f3668f75d43669745d7701eefee693be1d59d35bb369"), looks := true }, kinds := [], alts := [], laidByText := true, laidKinds := [.data, .sentinel, .sentinel, .sentinel, .sentinel], laidTests := true, laidLooks := .later }
def FnServersCardSaid : Prop := Claim7.holds Tryz.pinned (.plain (OpenSpec.ofChange fnServersSpec)) fnServersCard

/-- THE TIED CARD OF 'laws.FnRecovers'. -/
def fnRecoversCard : Claim7 := { stood := { row := fnRecoversRow, standIns := [], harness := (true, "2792af2cd4f38a464f31f3668f75d43669745d7701eefee693be1d59d35bb369"), looks := true }, kinds := [], alts := [], laidByText := true, laidKinds := [.data, .sentinel, .sentinel, .sentinel, .sentinel], laidTests := true, laidLooks := .later }
def FnRecoversCardSaid : Prop := Claim7.holds Tryz.pinned (.plain (OpenSpec.ofChange fnRecoversSpec)) fnRecoversCard

/-- THE TIED CARD OF 'laws.FnExactApplyWrite'. -/
def fnExactApplyWriteCard : Claim7 := { stood := { row := fnExactApplyWriteRow, standIns := [], harness := (true, "2792af2cd4f38a464f31f3668f75d43669745d7701eefee693be1d59d35bb369"), looks := true }, kinds := [], alts := [], laidByText := true, laidKinds := [.sentinel, .sentinel, .sentinel, .sentinel], laidTests := true, laidLooks := .later }
def FnExactApplyWriteCardSaid : Prop := Claim7.holds Tryz.pinned (.plain (OpenSpec.ofChange fnExactApplyWriteSpec)) fnExactApplyWriteCard

/-- THE TIED CARD OF 'laws.FnExactReplayWrites'. -/
def fnExactReplayWritesCard : Claim7 := { stood := { row := fnExactReplayWritesRow, standIns := [], harness := (true, "2792af2cd4f38a464f31f3668f75d43669745d7701eefee693be1d59d35bb369"), looks := true }, kinds := [], alts := [], laidByText := true, laidKinds := [.sentinel, .sentinel, .sentinel, .sentinel], laidTests := true, laidLooks := .later }
def FnExactReplayWritesCardSaid : Prop := Claim7.holds Tryz.pinned (.plain (OpenSpec.ofChange fnExactReplayWritesSpec)) fnExactReplayWritesCard

/-- THE TIED CARD OF 'laws.FnExactRecoverDisk'. -/
def fnExactRecoverDiskCard : Claim7 := { stood := { row := fnExactRecoverDiskRow, standIns := [], harness := (true, "2792af2cd4f38a464f31f3668f75d43669745d7701eefee693be1d59d35bb369"), looks := true }, kinds := [], alts := [], laidByText := true, laidKinds := [.data, .sentinel, .sentinel, .sentinel, .sentinel], laidTests := true, laidLooks := .later }
def FnExactRecoverDiskCardSaid : Prop := Claim7.holds Tryz.pinned (.plain (OpenSpec.ofChange fnExactRecoverDiskSpec)) fnExactRecoverDiskCard

/-- THE TIED CARD OF 'laws.FnExactCommitWrite'. -/
def fnExactCommitWriteCard : Claim7 := { stood := { row := fnExactCommitWriteRow, standIns := [], harness := (true, "2792af2cd4f38a464f31f3668f75d43669745d7701eefee693be1d59d35bb369"), looks := true }, kinds := [], alts := [], laidByText := true, laidKinds := [.data, .sentinel, .sentinel, .sentinel, .sentinel], laidTests := true, laidLooks := .later }
def FnExactCommitWriteCardSaid : Prop := Claim7.holds Tryz.pinned (.plain (OpenSpec.ofChange fnExactCommitWriteSpec)) fnExactCommitWriteCard

/-- THE SECOND FORM's CARD OF 'laws.FnStores'. -/
def fnStoresUptoCard : Claim7 := { stood := { row := fnStoresUptoRow, standIns := [], harness := (true, "2792af2cd4f38a464f31f3668f75d43669745d7701eefee693be1d59d35bb369"), looks := true }, kinds := [], alts := [], laidByText := true, laidKinds := [.sentinel, .sentinel, .sentinel, .sentinel], laidTests := true, laidLooks := .later }
def FnStoresUptoCardSaid : Prop := Claim7.holds Tryz.pinned (.plain (OpenSpec.upto fnStoresSpec)) fnStoresUptoCard

/-- THE SECOND FORM's CARD OF 'laws.FnGates'. -/
def fnGatesUptoCard : Claim7 := { stood := { row := fnGatesUptoRow, standIns := [], harness := (true, "2792af2cd4f38a464f31f3668f75d43669745d7701eefee693be1d59d35bb369"), looks := true }, kinds := [], alts := [], laidByText := true, laidKinds := [.sentinel, .sentinel, .sentinel, .sentinel], laidTests := true, laidLooks := .later }
def FnGatesUptoCardSaid : Prop := Claim7.holds Tryz.pinned (.plain (OpenSpec.upto fnGatesSpec)) fnGatesUptoCard

/-- THE SECOND FORM's CARD OF 'laws.FnFollows'. -/
def fnFollowsUptoCard : Claim7 := { stood := { row := fnFollowsUptoRow, standIns := [], harness := (true, "2792af2cd4f38a464f31f3668f75d43669745d7701eefee693be1d59d35bb369"), looks := true }, kinds := [], alts := [], laidByText := true, laidKinds := [.sentinel, .sentinel, .sentinel, .sentinel], laidTests := true, laidLooks := .later }
def FnFollowsUptoCardSaid : Prop := Claim7.holds Tryz.pinned (.plain (OpenSpec.upto fnFollowsSpec)) fnFollowsUptoCard

/-- THE SECOND FORM's CARD OF 'laws.FnServers'. -/
def fnServersUptoCard : Claim7 := { stood := { row := fnServersUptoRow, standIns := [], harness := (true, "2792af2cd4f38a464f31f3668f75d43669745d7701eefee693be1d59d35bb369"), looks := true }, kinds := [], alts := [], laidByText := true, laidKinds := [.data, .sentinel, .sentinel, .sentinel, .sentinel], laidTests := true, laidLooks := .later }
def FnServersUptoCardSaid : Prop := Claim7.holds Tryz.pinned (.plain (OpenSpec.upto fnServersSpec)) fnServersUptoCard

/-- THE SECOND FORM's CARD OF 'laws.FnRecovers'. -/
def fnRecoversUptoCard : Claim7 := { stood := { row := fnRecoversUptoRow, standIns := [], harness := (true, "2792af2cd4f38a464f31f3668f75d43669745d7701eefee693be1d59d35bb369"), looks := true }, kinds := [], alts := [], laidByText := true, laidKinds := [.data, .sentinel, .sentinel, .sentinel, .sentinel], laidTests := true, laidLooks := .later }
def FnRecoversUptoCardSaid : Prop := Claim7.holds Tryz.pinned (.plain (OpenSpec.upto fnRecoversSpec)) fnRecoversUptoCard

/-- THE SECOND FORM's CARD OF 'laws.FnExactApplyWrite'. -/
def fnExactApplyWriteUptoCard : Claim7 := { stood := { row := fnExactApplyWriteUptoRow, standIns := [], harness := (true, "2792af2cd4f38a464f31f3668f75d43669745d7701eefee693be1d59d35bb369"), looks := true }, kinds := [], alts := [], laidByText := true, laidKinds := [.sentinel, .sentinel, .sentinel, .sentinel], laidTests := true, laidLooks := .later }
def FnExactApplyWriteUptoCardSaid : Prop := Claim7.holds Tryz.pinned (.plain (OpenSpec.upto fnExactApplyWriteSpec)) fnExactApplyWriteUptoCard

/-- THE SECOND FORM's CARD OF 'laws.FnExactReplayWrites'. -/
def fnExactReplayWritesUptoCard : Claim7 := { stood := { row := fnExactReplayWritesUptoRow, standIns := [], harness := (true, "2792af2cd4f38a464f31f3668f75d43669745d7701eefee693be1d59d35bb369"), looks := true }, kinds := [], alts := [], laidByText := true, laidKinds := [.sentinel, .sentinel, .sentinel, .sentinel], laidTests := true, laidLooks := .later }
def FnExactReplayWritesUptoCardSaid : Prop := Claim7.holds Tryz.pinned (.plain (OpenSpec.upto fnExactReplayWritesSpec)) fnExactReplayWritesUptoCard

/-- THE SECOND FORM's CARD OF 'laws.FnExactRecoverDisk'. -/
def fnExactRecoverDiskUptoCard : Claim7 := { stood := { row := fnExactRecoverDiskUptoRow, standIns := [], harness := (true, "2792af2cd4f38a464f31f3668f75d43669745d7701eefee693be1d59d35bb369"), looks := true }, kinds := [], alts := [], laidByText := true, laidKinds := [.data, .sentinel, .sentinel, .sentinel, .sentinel], laidTests := true, laidLooks := .later }
def FnExactRecoverDiskUptoCardSaid : Prop := Claim7.holds Tryz.pinned (.plain (OpenSpec.upto fnExactRecoverDiskSpec)) fnExactRecoverDiskUptoCard

/-- THE SECOND FORM's CARD OF 'laws.FnExactCommitWrite'. -/
def fnExactCommitWriteUptoCard : Claim7 := { stood := { row := fnExactCommitWriteUptoRow, standIns := [], harness := (true, "2792af2cd4f38a464f31f3668f75d43669745d7701eefee693be1d59d35bb369"), looks := true }, kinds := [], alts := [], laidByText := true, laidKinds := [.data, .sentinel, .sentinel, .sentinel, .sentinel], laidTests := true, laidLooks := .later }
def FnExactCommitWriteUptoCardSaid : Prop := Claim7.holds Tryz.pinned (.plain (OpenSpec.upto fnExactCommitWriteSpec)) fnExactCommitWriteUptoCard
end Rows
end Go.Proofs.YtckcdpocmmlniaaGreatDoor
