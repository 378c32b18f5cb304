/-
  package matrix, walked: the determinants in memory; cofactor.
-/
import Derived.Test.YthplbfjpmnpjmaaDoorA12
import Derived.Deep.QuietTactic
namespace Go.Proofs.YthplbfjpmnpjmaaDoor
open Go.RowKit Lp
attribute [local go_sem ↓] Go.wp_at_zero Go.wp_at_succ

/-- A block of 64 times 64 whole numbers. -/
structure isMn (W : World) (b : Nat) (T : Nat → Nat → Int) : Prop where
  blk : ∃ arr : Array Value, W.heap[b]? = some (.cells arr 90 (0, 0)) ∧ arr.size = 4096 ∧ ∀ r c, r < 64 → c < 64 → arr[r * 64 + c]? = some (.int .i64 (T r c))
theorem isMn.cell {W : World} {b : Nat} {T : Nat → Nat → Int} (h : isMn W b T) {r c : Nat} (hr : r < 64) (hc : c < 64) : W.cell? ⟨b, r * 64 + c, none⟩ = some (.int .i64 (T r c)) ∧ W.frozen? ⟨b, r * 64 + c, none⟩ = false := by
  obtain ⟨arr, h1, h2, h3⟩ := h.blk
  have h4 := h3 r c hr hc
  exact ⟨by unfold World.cell?; rw [h1]; simpa using h4, by simp [World.frozen?, h1]⟩
theorem isMn.lt {W : World} {b : Nat} {T : Nat → Nat → Int} (h : isMn W b T) : b < W.heap.size := by
  obtain ⟨arr, h1, -⟩ := h.blk
  exact (Array.getElem?_eq_some_iff.1 h1).1
theorem isMn.keep {W W' : World} {b : Nat} {T : Nat → Nat → Int} (h : isMn W b T) (hk : W'.heap[b]? = W.heap[b]?) : isMn W' b T := by
  obtain ⟨arr, h1, h2⟩ := h.blk
  exact ⟨arr, hk.trans h1, h2⟩
end Go.Proofs.YthplbfjpmnpjmaaDoor
