/-
  DERIVED. GIVEN WITH THE SEED: THE CARDS: each row of YtbcedjjocpjkjaaDoorRows.lean that lists a variable, with what it lists TIED to the program's text (the seventh form; the later family's looks); each row that meets fmt, with fmt's text TOLD by the authors' own Lean function (tested against real Go, not proved from fmt's source: count such statements apart). THE CARD IS WHAT COUNTS. Prove the row's statement (the work); the ties are given (YtbcedjjocpjkjaaDoorTie.lean); close each card by the builder's one call (the guide's Derived/Test/ToyasCard.lean, 'card_holds'). Laid BY PROGRAM, IN A SANDBOX (cutbox-door.mjs). By AI agents, Wed Nov 11 2026. No macro, syntax, notation, axiom, sorry.
-/
import Derived.Test.YtbcedjjocpjkjaaDoorRows
import GoSem.ClaimSeven
namespace Go.Proofs.YtbcedjjocpjkjaaDoor
namespace Rows

/-- THE TIED CARD OF 'gamelaw.BoardTexts'. -/
def boardTextsCard : Claim7 := { stood := { row := boardTextsRow, standIns := [], harness := (true, "803541a969804f490ee6878ceb8c29d51af4c69e693472da36760e4ec46a61b2"), looks := false }, kinds := [], alts := [], laidByText := true, laidKinds := [.data, .pinned], laidTests := true, laidLooks := .later }
def BoardTextsCardSaid : Prop := Claim7.holds Tryd.pinned (.plain (OpenSpec.ofChange boardTextsSpec)) boardTextsCard

/-- THE SECOND FORM's CARD OF 'gamelaw.BoardTexts'. -/
def boardTextsUptoCard : Claim7 := { stood := { row := boardTextsUptoRow, standIns := [], harness := (true, "803541a969804f490ee6878ceb8c29d51af4c69e693472da36760e4ec46a61b2"), looks := false }, kinds := [], alts := [], laidByText := true, laidKinds := [.data, .pinned], laidTests := true, laidLooks := .later }
def BoardTextsUptoCardSaid : Prop := Claim7.holds Tryd.pinned (.plain (OpenSpec.upto boardTextsSpec)) boardTextsUptoCard
end Rows
end Go.Proofs.YtbcedjjocpjkjaaDoor
