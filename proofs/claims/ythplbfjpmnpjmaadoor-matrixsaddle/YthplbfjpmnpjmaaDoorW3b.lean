/-
  board.copied, walked: the same two texts; of what was there nothing has turned.
-/
import Derived.Test.YthplbfjpmnpjmaaDoorW3
namespace Go.Proofs.YthplbfjpmnpjmaaDoor
open Go.RowKit
attribute [local go_sem ↓] Go.wp_at_zero Go.wp_at_succ

end Go.Proofs.YthplbfjpmnpjmaaDoor
