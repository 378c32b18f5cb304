/-
  gamelaw.MatrixSaddle returns true for every list of lists of ints, nil ones too, and its argument reads afterwards as before; the library's three listed tables hold what the program's text lays (the tie is given).
-/
import Derived.Test.YthplbfjpmnpjmaaDoorP7
import Derived.Test.YthplbfjpmnpjmaaDoorTie
import Derived.Test.YthplbfjpmnpjmaaDoorCards
import Derived.SevenTiedAt
import Derived.Stop.Joined
import Derived.Shelf.Vars
import Derived.Handed
namespace Go.Proofs.YthplbfjpmnpjmaaDoor
open Go.ChangeShapes Go.WideShapes Go.ChangeAt Go.RowKit

theorem mxs_own : ownKnob Tryd.prog.godebug = none := by kernel_rfl
theorem mxs_laidOut : laidOutB Tryd.prog = true := by kernel_rfl
end Go.Proofs.YthplbfjpmnpjmaaDoor
