/-
  package matrix, walked: sets of at most six (firsts, size, first, without, place).
-/
import Derived.Test.YthplbfjpmnpjmaaDoorA6
import Derived.Test.YthplbfjpmnpjmaaDoorM69
import Derived.Lib.LaidTab
namespace Go.Proofs.YthplbfjpmnpjmaaDoor
open Go.RowKit Lp
attribute [local go_sem ↓] Go.wp_at_zero Go.wp_at_succ

/-- What is read of Go's table deBruijn64tab. -/
structure isDb (w : World) : Prop where
  lt : 2 < w.heap.size
  c0 : w.cell? ⟨2, 0, none⟩ = some (.int .u8 0)
  c1 : w.cell? ⟨2, 1, none⟩ = some (.int .u8 1)
  c2 : w.cell? ⟨2, 3, none⟩ = some (.int .u8 2)
  c3 : w.cell? ⟨2, 7, none⟩ = some (.int .u8 3)
  c4 : w.cell? ⟨2, 15, none⟩ = some (.int .u8 4)
  c5 : w.cell? ⟨2, 31, none⟩ = some (.int .u8 5)
theorem isDb.below {w w' : World} {B : Nat} (h : isDb w) (hb : Below B w w') (hB : 2 < B) : isDb w' :=
  ⟨Nat.lt_of_lt_of_le h.lt hb.size, (hb.cell (p := ⟨2, 0, none⟩) hB).trans h.c0, (hb.cell (p := ⟨2, 1, none⟩) hB).trans h.c1, (hb.cell (p := ⟨2, 3, none⟩) hB).trans h.c2, (hb.cell (p := ⟨2, 7, none⟩) hB).trans h.c3, (hb.cell (p := ⟨2, 15, none⟩) hB).trans h.c4, (hb.cell (p := ⟨2, 31, none⟩) hB).trans h.c5⟩

end Go.Proofs.YthplbfjpmnpjmaaDoor
