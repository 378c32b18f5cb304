/-
  Contracts of the library, at this program: one application each.
-/
import Derived.Shelf.Strconv.Itoa4
import Derived.Test.YthplbfjpmnpjmaaDoorProg
namespace Go.Proofs
open Go.Shelf Go.RowKit Go.Sort Go.Lib
end Go.Proofs
