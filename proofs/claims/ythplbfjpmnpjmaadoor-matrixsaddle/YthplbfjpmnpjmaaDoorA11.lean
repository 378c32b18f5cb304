/-
  package matrix, walked: the members of a set (range over a function).
-/
import Derived.RangeFuncNested
import Derived.RangeFuncBound
import Derived.RangeFuncCalls
import Derived.RangeFuncLeaves
import Derived.RangeFuncBox
import Derived.Shelf.Abstract
import Derived.Shelf.RegionOpen
import Derived.OwnWalkIn
import Derived.TacticsInMore
import Derived.LoopNIn
import Derived.LoopIn
import Derived.Test.YthplbfjpmnpjmaaDoorA10
import Derived.Test.YthplbfjpmnpjmaaDoorM70
namespace Go.Proofs.YthplbfjpmnpjmaaDoor
open Go.RowKit Go.Shelf Lp
attribute [local go_sem] Oper.semAt_some

end Go.Proofs.YthplbfjpmnpjmaaDoor
