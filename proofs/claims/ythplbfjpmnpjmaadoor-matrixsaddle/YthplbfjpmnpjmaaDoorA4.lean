/-
  package matrix, walked: isSaddle.
-/
import Derived.Test.YthplbfjpmnpjmaaDoorA3
namespace Go.Proofs.YthplbfjpmnpjmaaDoor
open Go.RowKit
attribute [local go_sem ↓] Go.wp_at_zero Go.wp_at_succ

/-- The number at a place. -/
def atG (G : List (List Int)) (i j : Nat) : Int := (G.getD i []).getD j 0
/-- The least of its row, the greatest of its column. -/
def saB (G : List (List Int)) (i j : Nat) : Bool := decide (atG G i j = minL (G.getD i [])) && G.all fun r => decide (r.getD j 0 ≤ atG G i j)

end Go.Proofs.YthplbfjpmnpjmaaDoor
