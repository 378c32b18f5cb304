/-
  package matrix, walked: holds.
-/
import Derived.Test.YthplbfjpmnpjmaaDoorA20
import Derived.Deep.Cut
namespace Go.Proofs.YthplbfjpmnpjmaaDoor
open Go.RowKit Lp
attribute [local go_sem ↓] Go.wp_at_zero Go.wp_at_succ

end Go.Proofs.YthplbfjpmnpjmaaDoor
