/-
  package matrix, walked: holds.
-/
import Derived.Test.YthplbfjpmnpjmaaDoorA19
namespace Go.Proofs.YthplbfjpmnpjmaaDoor
open Go.RowKit Lp
attribute [local go_sem ↓] Go.wp_at_zero Go.wp_at_succ

/-- Six sums. -/
def isGa (W : World) (b : Nat) (g : Nat → Int) : Prop := W.heap[b]? = some (.cells #[.int .i64 (g 0), .int .i64 (g 1), .int .i64 (g 2), .int .i64 (g 3), .int .i64 (g 4), .int .i64 (g 5)] 46 (0, 0))
theorem isGa.cell {W : World} {b : Nat} {g : Nat → Int} (h : isGa W b g) {i : Nat} (hi : i < 6) : W.cell? ⟨b, i, none⟩ = some (.int .i64 (g i)) ∧ W.frozen? ⟨b, i, none⟩ = false := by
  unfold isGa at h
  refine ⟨?_, by simp [World.frozen?, h]⟩
  obtain rfl | rfl | rfl | rfl | rfl | rfl : i = 0 ∨ i = 1 ∨ i = 2 ∨ i = 3 ∨ i = 4 ∨ i = 5 := by omega
  all_goals simp [World.cell?, h]
theorem isGa.congr {W : World} {b : Nat} {g g' : Nat → Int} (h : isGa W b g) (he : ∀ i, i < 6 → g i = g' i) : isGa W b g' := by
  unfold isGa at h ⊢
  rw [h, he 0 (by omega), he 1 (by omega), he 2 (by omega), he 3 (by omega), he 4 (by omega), he 5 (by omega)]
end Go.Proofs.YthplbfjpmnpjmaaDoor
