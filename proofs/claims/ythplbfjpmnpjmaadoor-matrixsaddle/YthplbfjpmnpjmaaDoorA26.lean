/-
  The document's answer, walked: gameref.Matrix.
-/
import Derived.Test.YthplbfjpmnpjmaaDoorA25
namespace Go.Proofs.YthplbfjpmnpjmaaDoor
open Go.RowKit
attribute [local go_sem ↓] Go.wp_at_zero Go.wp_at_succ


end Go.Proofs.YthplbfjpmnpjmaaDoor
