/-
  package matrix, walked: isMatrix, Check.
-/
import Derived.Test.YthplbfjpmnpjmaaDoorA1
namespace Go.Proofs.YthplbfjpmnpjmaaDoor
open Go.RowKit
attribute [local go_sem ↓] Go.wp_at_zero Go.wp_at_succ

end Go.Proofs.YthplbfjpmnpjmaaDoor
