/-
  package matrix, walked: level.
-/
import Derived.Test.YthplbfjpmnpjmaaDoorA18
namespace Go.Proofs.YthplbfjpmnpjmaaDoor
open Go.RowKit Go.Shelf Lp
attribute [local go_sem] Oper.semAt_some

/-- What stays while cofactors are added. -/
structure LvF (w W : World) (b r c : Nat) (s : So) : Prop where
  bw : Below w.heap.size w W
  bm : Boxed W w.heap.size 63 (.pointer (some ⟨b, 0, none⟩))
  br : Boxed W (w.heap.size + 1) 69 (.int .u64 (r : Int))
  bc : Boxed W (w.heap.size + 1 + 1) 69 (.int .u64 (c : Int))
  re : isSo W (w.heap.size + 1 + 1 + 1) so0
  so : isSo W (w.heap.size + 4) s
section
variable {w W W' : World} {b r c : Nat} {s : So}
theorem LvF.size (h : LvF w W b r c s) : w.heap.size + 4 < W.heap.size := h.so.lt
theorem LvF.grown (h : LvF w W b r c s) {ob : Option Nat} (hg : W.grownBy W' ob) (hb : ∀ b, ob = some b → w.heap.size + 5 ≤ b) : LvF w W' b r c s := by
  have hs := h.size
  have key : ∀ k, k ≤ w.heap.size + 4 → W'.heap[k]? = W.heap[k]? := fun k hk => hg.block k (by omega) (fun e => by have := hb k e.symm; omega)
  exact ⟨⟨hg.os.trans h.bw.os, hg.tape.trans h.bw.tape, hg.output.trans h.bw.output, Nat.le_trans h.bw.size hg.size, fun k hk => (key k (by omega)).trans (h.bw.block k hk)⟩, (key _ (by omega)).trans h.bm, (key _ (by omega)).trans h.br, (key _ (by omega)).trans h.bc, h.re.keep (key _ (by omega)), h.so.keep (key _ (by omega))⟩
end

end Go.Proofs.YthplbfjpmnpjmaaDoor
