/-
  DERIVED. GIVEN WITH THE SEED: THE CARDS: each row of YtbglppcbgfkhmabGreatDoorRows.lean that lists a variable, with what it lists TIED to the program's text (the seventh form; the later family's looks); each row that meets fmt, with fmt's text TOLD by the authors' own Lean function (tested against real Go, not proved from fmt's source: count such statements apart). THE CARD IS WHAT COUNTS. Prove the row's statement (the work); the ties are given (YtbglppcbgfkhmabGreatDoorTie.lean); close each card by the builder's one call (the guide's Derived/Test/ToyasCard.lean, 'card_holds'). Laid BY PROGRAM, IN A SANDBOX (cutbox-door.mjs). By AI agents, Wed Nov 11 2026. No macro, syntax, notation, axiom, sorry.
-/
import Derived.Test.YtbglppcbgfkhmabGreatDoorRows
import GoSem.ClaimSeven
namespace Go.Proofs.YtbglppcbgfkhmabGreatDoor
namespace Rows

/-- THE TIED CARD OF 'gamelaw.MovesAll'. -/
def movesAllCard : Claim7 := { stood := { row := movesAllRow, standIns := [], harness := (true, "e68886ebbe558c0b3848796d531f2e7655324c89380cc756ef022fd153edd849"), looks := false }, kinds := [], alts := [], laidByText := true, laidKinds := [.data, .pinned], laidTests := true, laidLooks := .later }
def MovesAllCardSaid : Prop := Claim7.holds Tryz.pinned (.plain (OpenSpec.ofChange movesAllSpec)) movesAllCard

/-- THE TIED CARD OF 'gamelaw.MovesTexts'. -/
def movesTextsCard : Claim7 := { stood := { row := movesTextsRow, standIns := [], harness := (true, "e68886ebbe558c0b3848796d531f2e7655324c89380cc756ef022fd153edd849"), looks := false }, kinds := [], alts := [], laidByText := true, laidKinds := [.data, .data, .data, .data, .pinned], laidTests := true, laidLooks := .later }
def MovesTextsCardSaid : Prop := Claim7.holds Tryz.pinned (.plain (OpenSpec.ofChange movesTextsSpec)) movesTextsCard

/-- THE TIED CARD OF 'gamekeep.MovesMirror'. -/
def movesMirrorCard : Claim7 := { stood := { row := movesMirrorRow, standIns := [], harness := (true, "e68886ebbe558c0b3848796d531f2e7655324c89380cc756ef022fd153edd849"), looks := false }, kinds := [], alts := [], laidByText := true, laidKinds := [.data, .pinned], laidTests := true, laidLooks := .later }
def MovesMirrorCardSaid : Prop := Claim7.holds Tryz.pinned (.plain (OpenSpec.ofChange movesMirrorSpec)) movesMirrorCard

/-- THE TIED CARD OF 'gamekeep.MovesBack'. -/
def movesBackCard : Claim7 := { stood := { row := movesBackRow, standIns := [], harness := (true, "e68886ebbe558c0b3848796d531f2e7655324c89380cc756ef022fd153edd849"), looks := false }, kinds := [], alts := [], laidByText := true, laidKinds := [.data, .pinned], laidTests := true, laidLooks := .later }
def MovesBackCardSaid : Prop := Claim7.holds Tryz.pinned (.plain (OpenSpec.ofChange movesBackSpec)) movesBackCard

/-- THE SECOND FORM's CARD OF 'gamelaw.MovesAll'. -/
def movesAllUptoCard : Claim7 := { stood := { row := movesAllUptoRow, standIns := [], harness := (true, "e68886ebbe558c0b3848796d531f2e7655324c89380cc756ef022fd153edd849"), looks := false }, kinds := [], alts := [], laidByText := true, laidKinds := [.data, .pinned], laidTests := true, laidLooks := .later }
def MovesAllUptoCardSaid : Prop := Claim7.holds Tryz.pinned (.plain (OpenSpec.upto movesAllSpec)) movesAllUptoCard

/-- THE SECOND FORM's CARD OF 'gamelaw.MovesTexts'. -/
def movesTextsUptoCard : Claim7 := { stood := { row := movesTextsUptoRow, standIns := [], harness := (true, "e68886ebbe558c0b3848796d531f2e7655324c89380cc756ef022fd153edd849"), looks := false }, kinds := [], alts := [], laidByText := true, laidKinds := [.data, .data, .data, .data, .pinned], laidTests := true, laidLooks := .later }
def MovesTextsUptoCardSaid : Prop := Claim7.holds Tryz.pinned (.plain (OpenSpec.upto movesTextsSpec)) movesTextsUptoCard

/-- THE SECOND FORM's CARD OF 'gamekeep.MovesMirror'. -/
def movesMirrorUptoCard : Claim7 := { stood := { row := movesMirrorUptoRow, standIns := [], harness := (true, "e68886ebbe558c0b3848796d531f2e7655324c89380cc756ef022fd153edd849"), looks := false }, kinds := [], alts := [], laidByText := true, laidKinds := [.data, .pinned], laidTests := true, laidLooks := .later }
def MovesMirrorUptoCardSaid : Prop := Claim7.holds Tryz.pinned (.plain (OpenSpec.upto movesMirrorSpec)) movesMirrorUptoCard

/-- THE SECOND FORM's CARD OF 'gamekeep.MovesBack'. -/
def movesBackUptoCard : Claim7 := { stood := { row := movesBackUptoRow, standIns := [], harness := (true, "e68886ebbe558c0b3848796d531f2e7655324c89380cc756ef022fd153edd849"), looks := false }, kinds := [], alts := [], laidByText := true, laidKinds := [.data, .pinned], laidTests := true, laidLooks := .later }
def MovesBackUptoCardSaid : Prop := Claim7.holds Tryz.pinned (.plain (OpenSpec.upto movesBackSpec)) movesBackUptoCard
end Rows
end Go.Proofs.YtbglppcbgfkhmabGreatDoor
