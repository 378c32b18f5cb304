/-
  package matrix, walked: minorsOf.
-/
import Derived.Test.YthplbfjpmnpjmaaDoorA15
import Derived.Laws.Tables
namespace Go.Proofs.YthplbfjpmnpjmaaDoor
open Go.RowKit Go.Shelf Lp
attribute [local go_sem] Oper.semAt_some
attribute [-go_sem] Instr.build Instr.fill

/-- What stays while determinants are made. -/
structure MnF (w W : World) (v : Value) (T : Nat → Nat → Int) : Prop where
  bw : Below w.heap.size w W
  ba : Boxed W w.heap.size 22 v
  mn : isMn W (w.heap.size + 1) T
  bm : Boxed W (w.heap.size + 1 + 1) 63 (.pointer (some ⟨w.heap.size + 1, 0, none⟩))
  bs : Boxed W (w.heap.size + 1 + 1 + 1) 22 v
section
variable {w W W' : World} {v : Value} {T : Nat → Nat → Int}
theorem MnF.size (h : MnF w W v T) : w.heap.size + 1 + 1 + 1 < W.heap.size := h.bs.lt
theorem MnF.grown (h : MnF w W v T) {ob : Option Nat} (hg : W.grownBy W' ob) (hb : ∀ b, ob = some b → w.heap.size + 4 ≤ b) : MnF w W' v T := by
  have hs := h.size
  have key : ∀ k, k ≤ w.heap.size + 3 → W'.heap[k]? = W.heap[k]? := fun k hk => hg.block k (by omega) (fun e => by have := hb k e.symm; omega)
  exact ⟨⟨hg.os.trans h.bw.os, hg.tape.trans h.bw.tape, hg.output.trans h.bw.output, Nat.le_trans h.bw.size hg.size, fun k hk => (key k (by omega)).trans (h.bw.block k hk)⟩, (key _ (by omega)).trans h.ba, h.mn.keep (key _ (by omega)), (key _ (by omega)).trans h.bm, (key _ (by omega)).trans h.bs⟩
end
end Go.Proofs.YthplbfjpmnpjmaaDoor
