/-
  package matrix, walked: isFrom, areNumbers; a matrix in memory.
-/
import Derived.Test.YthplbfjpmnpjmaaDoorL1
namespace Go.Proofs.YthplbfjpmnpjmaaDoor
open Go.RowKit
attribute [local go_sem ↓] Go.wp_at_zero Go.wp_at_succ

/-- Rows of numbers in memory, in blocks below B. -/
structure isMx (w : World) (B : Nat) (ao : Option Addr) (cap : Nat) (G : List (List Int)) : Prop where
  le : G.length ≤ cap
  most : cap ≤ maxLen
  nil : ao = none → cap = 0
  cells : G ≠ [] → ∃ g off, ao = some ⟨g, off, none⟩ ∧ g < B ∧ ∀ (i : Nat) (r : List Int), G[i]? = some r → ∃ ro rc, w.cell? ⟨g, off + i, none⟩ = some (.slice ro r.length rc) ∧ isWl w B ro rc r
theorem isMx.below {w w' : World} {B B' : Nat} {ao : Option Addr} {cap : Nat} {G : List (List Int)} (h : isMx w B ao cap G) (hb : Below B' w w') (hB : B ≤ B') : isMx w' B ao cap G := by
  refine ⟨h.le, h.most, h.nil, fun hl => ?_⟩
  obtain ⟨g, off, e, hg, hc⟩ := h.cells hl
  refine ⟨g, off, e, hg, fun i r hr => ?_⟩
  obtain ⟨ro, rc, h1, h2⟩ := hc i r hr
  exact ⟨ro, rc, (hb.cell (p := ⟨g, off + i, none⟩) (Nat.lt_of_lt_of_le hg hB)).trans h1, h2.below hb hB⟩
end Go.Proofs.YthplbfjpmnpjmaaDoor
