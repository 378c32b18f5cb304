/-
  DERIVED. GIVEN WITH THE SEED: THE CARDS: each row of YtbijadnekoeofaaGreatDoorRows.lean that lists a variable, with what it lists TIED to the program's text (the seventh form; the later family's looks); each row that meets fmt, with fmt's text TOLD by the authors' own Lean function (tested against real Go, not proved from fmt's source: count such statements apart). THE CARD IS WHAT COUNTS. Prove the row's statement (the work); the ties are given (YtbijadnekoeofaaGreatDoorTie.lean); close each card by the builder's one call (the guide's Derived/Test/ToyasCard.lean, 'card_holds'). Laid BY PROGRAM, IN A SANDBOX (cutbox-door.mjs). By AI agents, Wed Nov 11 2026. No macro, syntax, notation, axiom, sorry.
-/
import Derived.Test.YtbijadnekoeofaaGreatDoorRows
import GoSem.ClaimSeven
namespace Go.Proofs.YtbijadnekoeofaaGreatDoor
namespace Rows

/-- THE TIED CARD OF 'gamelaw.TableMakes'. -/
def tableMakesCard : Claim7 := { stood := { row := tableMakesRow, standIns := [], harness := (true, "58ab290ae9be6b1921e25d9dda3e70076dd1767f8601453b2877090b3b039938"), looks := false }, kinds := [], alts := [], laidByText := true, laidKinds := [.data, .pinned], laidTests := true, laidLooks := .later }
def TableMakesCardSaid : Prop := Claim7.holds Tryz.pinned (.plain (OpenSpec.ofChange tableMakesSpec)) tableMakesCard

/-- THE TIED CARD OF 'gamekeep.TableTrue'. -/
def tableTrueCard : Claim7 := { stood := { row := tableTrueRow, standIns := [], harness := (true, "58ab290ae9be6b1921e25d9dda3e70076dd1767f8601453b2877090b3b039938"), looks := false }, kinds := [], alts := [], laidByText := true, laidKinds := [.data, .pinned], laidTests := true, laidLooks := .later }
def TableTrueCardSaid : Prop := Claim7.holds Tryz.pinned (.plain (OpenSpec.ofChange tableTrueSpec)) tableTrueCard

/-- THE SECOND FORM's CARD OF 'gamelaw.TableMakes'. -/
def tableMakesUptoCard : Claim7 := { stood := { row := tableMakesUptoRow, standIns := [], harness := (true, "58ab290ae9be6b1921e25d9dda3e70076dd1767f8601453b2877090b3b039938"), looks := false }, kinds := [], alts := [], laidByText := true, laidKinds := [.data, .pinned], laidTests := true, laidLooks := .later }
def TableMakesUptoCardSaid : Prop := Claim7.holds Tryz.pinned (.plain (OpenSpec.upto tableMakesSpec)) tableMakesUptoCard

/-- THE SECOND FORM's CARD OF 'gamekeep.TableTrue'. -/
def tableTrueUptoCard : Claim7 := { stood := { row := tableTrueUptoRow, standIns := [], harness := (true, "58ab290ae9be6b1921e25d9dda3e70076dd1767f8601453b2877090b3b039938"), looks := false }, kinds := [], alts := [], laidByText := true, laidKinds := [.data, .pinned], laidTests := true, laidLooks := .later }
def TableTrueUptoCardSaid : Prop := Claim7.holds Tryz.pinned (.plain (OpenSpec.upto tableTrueSpec)) tableTrueUptoCard
end Rows
end Go.Proofs.YtbijadnekoeofaaGreatDoor
