/-
  package matrix, walked: slices.Min of ints and of int64s; divisor.
-/
import Derived.Test.YthplbfjpmnpjmaaDoorA2
namespace Go.Proofs.YthplbfjpmnpjmaaDoor
open Go.RowKit
attribute [local go_sem ↓] Go.wp_at_zero Go.wp_at_succ

/-- The least of some. -/
def minL : List Int → Int
  | [] => 0
  | y :: l => l.foldl min y
end Go.Proofs.YthplbfjpmnpjmaaDoor
