/-
  board.copied, walked: the same two texts; of what was there nothing has turned.
-/
import Derived.Test.YtjdlljhhiefmjaaDoorW3
namespace Go.Proofs.YtjdlljhhiefmjaaDoor
open Go.RowKit
attribute [local go_sem ↓] Go.wp_at_zero Go.wp_at_succ

end Go.Proofs.YtjdlljhhiefmjaaDoor
