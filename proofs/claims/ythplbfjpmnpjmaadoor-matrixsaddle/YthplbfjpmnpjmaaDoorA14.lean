/-
  a drawn region inside a round of a range over a function: as outside.
-/
import Derived.Test.YthplbfjpmnpjmaaDoorA13
import Derived.OrdersIn
import Derived.Deep.RegionHeld3
namespace Go.Proofs.YthplbfjpmnpjmaaDoor
open Go.RowKit Go.Shelf Lp

end Go.Proofs.YthplbfjpmnpjmaaDoor
