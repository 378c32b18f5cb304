/-
  package matrix, walked: the parts of a matrix (range over a function).
-/
import Derived.Test.YthplbfjpmnpjmaaDoorA11
namespace Go.Proofs.YthplbfjpmnpjmaaDoor
open Go.RowKit Go.Shelf Lp
attribute [local go_sem] Oper.semAt_some

/-- What lay below n₀ and one block besides stay. -/
def KpB (n₀ Bs : Nat) (A B : World) : Prop := Below n₀ A B ∧ B.heap[Bs]? = A.heap[Bs]?
theorem KpB.trans {n₀ Bs : Nat} {A B C : World} (h : KpB n₀ Bs A B) (k : KpB n₀ Bs B C) : KpB n₀ Bs A C := ⟨h.1.trans k.1, k.2.trans h.2⟩
theorem cell_block {A B : World} {b : Nat} (h : B.heap[b]? = A.heap[b]?) (k : Nat) : B.cell? ⟨b, k, none⟩ = A.cell? ⟨b, k, none⟩ := by unfold World.cell?; simp only; rw [h]

/-- What parts reads. -/
structure isPa (W : World) (n₀ Bs g off cap m N : Nat) (ro : Option Addr) (rc : Nat) : Prop where
  lt : g < n₀
  box : W.cell? ⟨Bs, 0, none⟩ = some (.slice (some ⟨g, off, none⟩) m cap)
  row : W.cell? ⟨g, off, none⟩ = some (.slice ro N rc)
theorem isPa.keep {A B : World} {n₀ Bs g off cap m N : Nat} {ro : Option Addr} {rc : Nat} (h : isPa A n₀ Bs g off cap m N ro rc) (hk : KpB n₀ Bs A B) : isPa B n₀ Bs g off cap m N ro rc :=
  ⟨h.lt, (cell_block hk.2 0).trans h.box, (hk.1.cell (p := ⟨g, off, none⟩) h.lt).trans h.row⟩

end Go.Proofs.YthplbfjpmnpjmaaDoor
