/-
  A matrix that came in, opened; the two tables that are read.
-/
import Derived.Test.YthplbfjpmnpjmaaDoorA28
import Derived.Test.YthplbfjpmnpjmaaDoorRows
import Derived.WalkKit
import Derived.ProofKit
import Derived.OpenShut
import Derived.ShutString
import Derived.ChangeOld
import Derived.Below
import Derived.Deep.Slices
import Derived.LaidMore
import Derived.Lay
import Derived.Lib.LaidTab
namespace Go.Proofs.YthplbfjpmnpjmaaDoor
open Go.ChangeShapes Go.WideShapes Go.ChangeAt Go.RowKit

end Go.Proofs.YthplbfjpmnpjmaaDoor
