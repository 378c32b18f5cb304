/-
  package matrix, walked: solutionOf.
-/
import Derived.Test.YthplbfjpmnpjmaaDoorA21
namespace Go.Proofs.YthplbfjpmnpjmaaDoor
open Go.RowKit Go.Shelf Lp
attribute [local go_sem] Oper.semAt_some

/-- What stays while parts are looked at. -/
structure SlF (w W : World) (v : Value) (n3 b : Nat) (T : Nat → Nat → Int) : Prop where
  bw : Below w.heap.size w W
  ba : Boxed W w.heap.size 22 v
  re : isSo W (w.heap.size + 1) so0
  bm : Boxed W n3 63 (.pointer (some ⟨b, 0, none⟩))
  bs : Boxed W (n3 + 1) 22 v
  mn : isMn W b T
section
variable {w W W' : World} {v : Value} {n3 b : Nat} {T : Nat → Nat → Int}
theorem SlF.grown (h : SlF w W v n3 b T) (hn : w.heap.size + 2 ≤ n3) (hb : b < n3) {ob : Option Nat} (hg : W.grownBy W' ob) (ho : ∀ k, ob = some k → n3 + 2 ≤ k) : SlF w W' v n3 b T := by
  have hs := h.bs.lt
  have key : ∀ k, k ≤ n3 + 1 → W'.heap[k]? = W.heap[k]? := fun k hk => hg.block k (by omega) (fun e => by have := ho k e.symm; omega)
  exact ⟨⟨hg.os.trans h.bw.os, hg.tape.trans h.bw.tape, hg.output.trans h.bw.output, Nat.le_trans h.bw.size hg.size, fun k hk => (key k (by omega)).trans (h.bw.block k hk)⟩, (key _ (by omega)).trans h.ba, h.re.keep (key _ (by omega)), (key _ (by omega)).trans h.bm, (key _ (by omega)).trans h.bs, h.mn.keep (key _ (by omega))⟩
theorem SlF.below (h : SlF w W v n3 b T) (hn : w.heap.size + 2 ≤ n3) (hb : b < n3) (hw : Below W.heap.size W W') : SlF w W' v n3 b T := h.grown hn hb (ob := none) ⟨hw.os, hw.tape, hw.output, hw.size, fun k hk _ => hw.block k hk⟩ (fun k e => by cases e)
end
end Go.Proofs.YthplbfjpmnpjmaaDoor
