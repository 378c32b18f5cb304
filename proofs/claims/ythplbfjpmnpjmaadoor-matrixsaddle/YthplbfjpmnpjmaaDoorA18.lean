/-
  a solution in memory; package matrix, walked: turned.
-/
import Derived.Test.YthplbfjpmnpjmaaDoorA17
import Derived.BigQuiet
namespace Go.Proofs.YthplbfjpmnpjmaaDoor
open Go.RowKit Lp
attribute [local go_sem ↓] Go.wp_at_zero Go.wp_at_succ

/-- Its fourteen cells. -/
def soC (s : So) : List Value := [.int .i64 s.v, .int .i64 s.t, .int .i64 (s.x 0), .int .i64 (s.x 1), .int .i64 (s.x 2), .int .i64 (s.x 3), .int .i64 (s.x 4), .int .i64 (s.x 5), .int .i64 (s.y 0), .int .i64 (s.y 1), .int .i64 (s.y 2), .int .i64 (s.y 3), .int .i64 (s.y 4), .int .i64 (s.y 5)]
def isSo (W : World) (b : Nat) (s : So) : Prop := W.heap[b]? = some (.cells (soC s).toArray 48 (0, 0))
section
variable {W W' : World} {b : Nat} {s : So}
theorem isSo.lt (h : isSo W b s) : b < W.heap.size := (Array.getElem?_eq_some_iff.1 h).1
theorem isSo.keep (h : isSo W b s) (hk : W'.heap[b]? = W.heap[b]?) : isSo W' b s := hk.trans h
theorem isSo.cells (h : isSo W b s) : (W.cell? ⟨b, 0, none⟩ = some (.int .i64 s.v) ∧ W.cell? ⟨b, 1, none⟩ = some (.int .i64 s.t)) ∧ (∀ i, i < 6 → W.cell? ⟨b, 2 + i, none⟩ = some (.int .i64 (s.x i))) ∧ (∀ i, i < 6 → W.cell? ⟨b, 8 + i, none⟩ = some (.int .i64 (s.y i))) ∧ ∀ k, W.frozen? ⟨b, k, none⟩ = false := by
  unfold isSo at h
  refine ⟨⟨by simp [World.cell?, h, soC], by simp [World.cell?, h, soC]⟩, fun i hi => ?_, fun i hi => ?_, fun k => by simp [World.frozen?, h]⟩
  · obtain rfl | rfl | rfl | rfl | rfl | rfl : i = 0 ∨ i = 1 ∨ i = 2 ∨ i = 3 ∨ i = 4 ∨ i = 5 := by omega
    all_goals simp [World.cell?, h, soC]
  · obtain rfl | rfl | rfl | rfl | rfl | rfl : i = 0 ∨ i = 1 ∨ i = 2 ∨ i = 3 ∨ i = 4 ∨ i = 5 := by omega
    all_goals simp [World.cell?, h, soC]
end
theorem isSo.all {W : World} {b : Nat} {s : So} (h : isSo W b s) : W.cell? ⟨b, 0, none⟩ = some (.int .i64 (s.v)) ∧ W.cell? ⟨b, 1, none⟩ = some (.int .i64 (s.t)) ∧ W.cell? ⟨b, 2, none⟩ = some (.int .i64 (s.x 0)) ∧ W.cell? ⟨b, 3, none⟩ = some (.int .i64 (s.x 1)) ∧ W.cell? ⟨b, 4, none⟩ = some (.int .i64 (s.x 2)) ∧ W.cell? ⟨b, 5, none⟩ = some (.int .i64 (s.x 3)) ∧ W.cell? ⟨b, 6, none⟩ = some (.int .i64 (s.x 4)) ∧ W.cell? ⟨b, 7, none⟩ = some (.int .i64 (s.x 5)) ∧ W.cell? ⟨b, 8, none⟩ = some (.int .i64 (s.y 0)) ∧ W.cell? ⟨b, 9, none⟩ = some (.int .i64 (s.y 1)) ∧ W.cell? ⟨b, 10, none⟩ = some (.int .i64 (s.y 2)) ∧ W.cell? ⟨b, 11, none⟩ = some (.int .i64 (s.y 3)) ∧ W.cell? ⟨b, 12, none⟩ = some (.int .i64 (s.y 4)) ∧ W.cell? ⟨b, 13, none⟩ = some (.int .i64 (s.y 5)) := by
  unfold isSo at h
  simp [World.cell?, h, soC]
def so0 : So := ⟨0, 0, fun _ => 0, fun _ => 0⟩
end Go.Proofs.YthplbfjpmnpjmaaDoor
