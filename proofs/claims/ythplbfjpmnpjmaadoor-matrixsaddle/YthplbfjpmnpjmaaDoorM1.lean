/-
  Plain mathematics of turned boards, no program: cells by number, where each comes from.
-/
import Derived.Test.YthplbfjpmnpjmaaDoorW2
namespace Go.Proofs.YthplbfjpmnpjmaaDoor
open Go.RowKit

end Go.Proofs.YthplbfjpmnpjmaaDoor
