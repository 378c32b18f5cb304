/-
  package matrix, walked: Solve.
-/
import Derived.Test.YthplbfjpmnpjmaaDoorA24
namespace Go.Proofs.YthplbfjpmnpjmaaDoor
open Go.RowKit Lp
attribute [local go_sem ↓] Go.wp_at_zero Go.wp_at_succ

theorem StR.base {u : World} {base base' g : Nat} {l : List ByteArray} (h : StR u base g l) (hb : base' ≤ base) : StR u base' g l := by
  refine ⟨h.row.1, ?_⟩
  rcases h.row.2 with e | ⟨g', cap, cur, e, h1, r⟩
  · exact .inl e
  · exact .inr ⟨g', cap, cur, e, by omega, r⟩

end Go.Proofs.YthplbfjpmnpjmaaDoor
