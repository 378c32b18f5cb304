/-
  board.turned, walked: the turned position, for every position and turn; of what was there nothing has turned.
-/
import Derived.Test.YthplbfjpmnpjmaaDoorW3b
import Derived.Test.YthplbfjpmnpjmaaDoorM1
import Derived.Deep.AppendLies
import Derived.OwnWalk
import Derived.Deep.DeepMust
namespace Go.Proofs.YthplbfjpmnpjmaaDoor
open Go.RowKit
attribute [local go_sem ↓] Go.wp_at_zero Go.wp_at_succ

end Go.Proofs.YthplbfjpmnpjmaaDoor
