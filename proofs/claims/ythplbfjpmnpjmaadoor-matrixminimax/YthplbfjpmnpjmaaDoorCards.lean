/-
  DERIVED. GIVEN WITH THE SEED: THE CARDS: each row of YthplbfjpmnpjmaaDoorRows.lean that lists a variable, with what it lists TIED to the program's text (the seventh form; the later family's looks); each row that meets fmt, with fmt's text TOLD by the authors' own Lean function (tested against real Go, not proved from fmt's source: count such statements apart). THE CARD IS WHAT COUNTS. Prove the row's statement (the work); the ties are given (YthplbfjpmnpjmaaDoorTie.lean); close each card by the builder's one call (the guide's Derived/Test/ToyasCard.lean, 'card_holds'). Laid BY PROGRAM, IN A SANDBOX (cutbox-door.mjs). By AI agents, Wed Nov 11 2026. No macro, syntax, notation, axiom, sorry.
-/
import Derived.Test.YthplbfjpmnpjmaaDoorRows
import GoSem.ClaimSeven
namespace Go.Proofs.YthplbfjpmnpjmaaDoor
namespace Rows

/-- THE TIED CARD OF 'gamelaw.MatrixSaddle'. -/
def matrixSaddleCard : Claim7 := { stood := { row := matrixSaddleRow, standIns := [], harness := (true, "1a3b2961ddef3005664960a7ba26537cdf3bd56dfcd47966954e8af171068218"), looks := false }, kinds := [], alts := [], laidByText := true, laidKinds := [.data, .data, .data], laidTests := true, laidLooks := .later }
def MatrixSaddleCardSaid : Prop := Claim7.holds Tryd.pinned (.plain (OpenSpec.ofChange matrixSaddleSpec)) matrixSaddleCard

/-- THE TIED CARD OF 'gamekeep.MatrixMinimax'. -/
def matrixMinimaxCard : Claim7 := { stood := { row := matrixMinimaxRow, standIns := [], harness := (true, "1a3b2961ddef3005664960a7ba26537cdf3bd56dfcd47966954e8af171068218"), looks := false }, kinds := [], alts := [], laidByText := true, laidKinds := [.data, .data, .data], laidTests := true, laidLooks := .later }
def MatrixMinimaxCardSaid : Prop := Claim7.holds Tryd.pinned (.plain (OpenSpec.ofChange matrixMinimaxSpec)) matrixMinimaxCard

/-- THE SECOND FORM's CARD OF 'gamelaw.MatrixSaddle'. -/
def matrixSaddleUptoCard : Claim7 := { stood := { row := matrixSaddleUptoRow, standIns := [], harness := (true, "1a3b2961ddef3005664960a7ba26537cdf3bd56dfcd47966954e8af171068218"), looks := false }, kinds := [], alts := [], laidByText := true, laidKinds := [.data, .data, .data], laidTests := true, laidLooks := .later }
def MatrixSaddleUptoCardSaid : Prop := Claim7.holds Tryd.pinned (.plain (OpenSpec.upto matrixSaddleSpec)) matrixSaddleUptoCard

/-- THE SECOND FORM's CARD OF 'gamekeep.MatrixMinimax'. -/
def matrixMinimaxUptoCard : Claim7 := { stood := { row := matrixMinimaxUptoRow, standIns := [], harness := (true, "1a3b2961ddef3005664960a7ba26537cdf3bd56dfcd47966954e8af171068218"), looks := false }, kinds := [], alts := [], laidByText := true, laidKinds := [.data, .data, .data], laidTests := true, laidLooks := .later }
def MatrixMinimaxUptoCardSaid : Prop := Claim7.holds Tryd.pinned (.plain (OpenSpec.upto matrixMinimaxSpec)) matrixMinimaxUptoCard
end Rows
end Go.Proofs.YthplbfjpmnpjmaaDoor
