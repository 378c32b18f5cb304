/-
  strings.Clone and board.copied, walked: the same text, the same two texts; of what was there nothing has turned.
-/
import Derived.Test.YthplbfjpmnpjmaaDoorW2
import Derived.Lib.BufferWrite
import Derived.Lib.UnsafeStr
import Derived.Lib.Strings
import Derived.Lib.Walk
import Derived.Laws.MakeOwn
import Derived.Deep.RegionHeld3
import Derived.Deep.DrawnRows
namespace Go.Proofs.YthplbfjpmnpjmaaDoor
open Go.RowKit

end Go.Proofs.YthplbfjpmnpjmaaDoor
