/-
  board.Check, board.turned and board.Turned, as their callers want them: for every position and every turn.
-/
import Derived.Test.YthplbfjpmnpjmaaDoorW4
namespace Go.Proofs.YthplbfjpmnpjmaaDoor
open Go.RowKit

/-- A position's facts, in numbers. -/
structure IsPos (W H : Nat) (C : ByteArray) (T : Int) (A B : ByteArray) : Prop where
  w0 : 1 ≤ W
  w1 : W ≤ 8
  h0 : 1 ≤ H
  h1 : H ≤ 8
  c : C.size = W * H
  cs : cellsB C.data.toList = true
  t : T = 0 ∨ T = 1
  a : handB A.data.toList = true
  b : handB B.data.toList = true
theorem handB_size {A : ByteArray} (h : handB A.data.toList = true) : A.size ≤ 8 := by
  simp only [handB, Bool.and_eq_true, decide_eq_true_eq, len_data] at h
  exact h.1
theorem IsPos.as {W H : Nat} {C : ByteArray} {T : Int} {A B : ByteArray} (p : IsPos W H C T A B) : A.size ≤ 8 := handB_size p.a
theorem IsPos.bs {W H : Nat} {C : ByteArray} {T : Int} {A B : ByteArray} (p : IsPos W H C T A B) : B.size ≤ 8 := handB_size p.b
end Go.Proofs.YthplbfjpmnpjmaaDoor
