/-
  what level reckons, number by number (plain mathematics); a solution in memory.
-/
import Derived.Test.YthplbfjpmnpjmaaDoorA16
namespace Go.Proofs.YthplbfjpmnpjmaaDoor
open Go.RowKit Lp

end Go.Proofs.YthplbfjpmnpjmaaDoor
