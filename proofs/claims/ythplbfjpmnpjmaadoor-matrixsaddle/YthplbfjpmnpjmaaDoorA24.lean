/-
  package matrix, walked: texts.
-/
import Derived.Test.YthplbfjpmnpjmaaDoorA23
namespace Go.Proofs.YthplbfjpmnpjmaaDoor
open Go.RowKit Lp
attribute [local go_sem ↓] Go.wp_at_zero Go.wp_at_succ

def svl (l : List ByteArray) : List Value := l.map fun s => Value.string s
/-- A row of strings of the call's own. -/
structure StR (u : World) (base g : Nat) (l : List ByteArray) : Prop where
  row : u.ownsRow base 9 1 (.slice (some ⟨g, 0, none⟩) l.length l.length) l.length (svl l)
theorem StR.lt {u : World} {base g : Nat} {l : List ByteArray} (h : StR u base g l) : base ≤ g ∧ g < u.heap.size := by
  rcases h.row.2 with ⟨e, -⟩ | ⟨g', cap, cur, e, h1, h2, -⟩
  · cases e
  · cases e
    exact ⟨h1, (Array.getElem?_eq_some_iff.1 h2).1⟩
theorem StR.keep {u u' : World} {base g : Nat} {l : List ByteArray} (h : StR u base g l) (hk : u'.heap[g]? = u.heap[g]?) : StR u' base g l := by
  refine ⟨h.row.1, ?_⟩
  rcases h.row.2 with ⟨e, -⟩ | ⟨g', cap, cur, e, h1, h2, r⟩
  · cases e
  · cases e
    exact .inr ⟨g, _, cur, rfl, h1, hk.trans h2, r⟩
theorem StR.cell {u : World} {base g : Nat} {l : List ByteArray} (h : StR u base g l) {i : Nat} {x : ByteArray} (hi : l[i]? = some x) : u.cell? ⟨g, i, none⟩ = some (.string x) ∧ u.frozen? ⟨g, i, none⟩ = false := by
  have hil := (List.getElem?_eq_some_iff.1 hi).1
  refine ⟨?_, h.row.frozenAt _⟩
  rw [h.row.cellAt i (by omega)]
  unfold svl
  rw [List.getElem?_map, hi]
  rfl
end Go.Proofs.YthplbfjpmnpjmaaDoor
