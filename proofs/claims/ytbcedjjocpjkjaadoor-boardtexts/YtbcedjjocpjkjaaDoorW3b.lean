/-
  board.copied, walked: the same two texts; of what was there nothing has turned.
-/
import Derived.Test.YtbcedjjocpjkjaaDoorW3
namespace Go.Proofs.YtbcedjjocpjkjaaDoor
open Go.RowKit
attribute [local go_sem ↓] Go.wp_at_zero Go.wp_at_succ

end Go.Proofs.YtbcedjjocpjkjaaDoor
