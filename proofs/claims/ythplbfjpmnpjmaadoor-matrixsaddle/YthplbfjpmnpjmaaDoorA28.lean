/-
  gamelaw.MatrixSaddle, walked: where there is a matrix.
-/
import Derived.Test.YthplbfjpmnpjmaaDoorA27
namespace Go.Proofs.YthplbfjpmnpjmaaDoor
open Go.RowKit Lp
attribute [local go_sem ↓] Go.wp_at_zero Go.wp_at_succ

end Go.Proofs.YthplbfjpmnpjmaaDoor
