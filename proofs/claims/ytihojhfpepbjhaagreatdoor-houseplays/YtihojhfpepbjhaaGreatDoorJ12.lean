/-
  A house in memory.
  package rules, walked: texts of ways.
  package house, walked: the small functions.
-/
import Derived.Test.YtihojhfpepbjhaaGreatDoorJ11
import Derived.Test.YtihojhfpepbjhaaGreatDoorJ8
import Derived.Test.YtihojhfpepbjhaaGreatDoorJ7
import Derived.BigQuiet
import Derived.IntWalk
namespace Go.Proofs.YtihojhfpepbjhaaGreatDoor
open Go.RowKit

/-- Below S all but block b is as it was. -/
structure Ex (b S : Nat) (w w' : World) : Prop where
  os : w'.os = w.os
  tape : w'.tape = w.tape
  output : w'.output = w.output
  size : w.heap.size ≤ w'.heap.size
  block : ∀ k, k < S → k ≠ b → w'.heap[k]? = w.heap[k]?
theorem Ex.of {b S : Nat} {w w' : World} (h : Below S w w') : Ex b S w w' := ⟨h.os, h.tape, h.output, h.size, fun k hk _ => h.block k hk⟩
theorem Ex.refl (b S : Nat) (w : World) : Ex b S w w := Ex.of (Below.refl _ _)
theorem Ex.trans {b S : Nat} {u v w : World} (h : Ex b S u v) (k : Ex b S v w) : Ex b S u w :=
  ⟨k.os.trans h.os, k.tape.trans h.tape, k.output.trans h.output, Nat.le_trans h.size k.size, fun i hi hn => (k.block i hi hn).trans (h.block i hi hn)⟩
theorem Ex.mono {b S S' : Nat} {v w : World} (h : Ex b S v w) (hS : S' ≤ S) : Ex b S' v w := ⟨h.os, h.tape, h.output, h.size, fun i hi hn => h.block i (by omega) hn⟩
theorem Ex.set {b S : Nat} {v w : World} (h : Ex b S v w) (i : Nat) (u : Value) : Ex b S v (w.setCell ⟨b, i, none⟩ u) :=
  ⟨h.os, h.tape, h.output, by have := h.size; simpa [World.setCell] using this, fun k hk hn => (Below.heap_setCell _ _ _ _ hn).trans (h.block k hk hn)⟩
theorem Ex.drew {b S : Nat} {w w' : World} (h : Ex b S w w') : Ex b S w w'.drew := ⟨h.os, h.tape, h.output, h.size, h.block⟩
theorem Ex.drewN {b S n : Nat} {w w' : World} (h : Ex b S w w') : Ex b S w (w'.drewN n) := ⟨h.os, h.tape, h.output, h.size, h.block⟩
/-- A frame from below the block on. -/
theorem Ex.fresh {b S : Nat} {v w : World} (h : Ex b S v w) {B : Nat} (hB : B ≤ b) (hS : B ≤ S) : Below B v w := ⟨h.os, h.tape, h.output, h.size, fun k hk => h.block k (by omega) (by omega)⟩
theorem Ex.far {b S : Nat} {v w : World} (h : Ex b S v w) (c i : Nat) (u : Value) (hc : S ≤ c) : Ex b S v (w.setCell ⟨c, i, none⟩ u) :=
  ⟨h.os, h.tape, h.output, by have := h.size; simpa [World.setCell] using this, fun k hk hn => (Below.heap_setCell _ _ _ _ (by show k ≠ c; omega)).trans (h.block k hk hn)⟩
theorem Ex.more {b S : Nat} {u v w : World} (h : Ex b S u v) (k : Below v.heap.size v w) (hS : S ≤ v.heap.size) : Ex b S u w := h.trans (Ex.of (k.mono hS))

/-- A house in block b; its rules' cells are v0 to v12. -/
def isH (w : World) (b : Nat) (v0 v1 v2 v3 v4 v5 v6 v7 v8 v9 v10 v11 v12 : Value) (l0 l1 nw W H : Int) (C : ByteArray) (T : Int) (A B : ByteArray) (y o : Int) (t : ByteArray) : Prop :=
  w.heap[b]? = some (.cells #[.int .i64 l0, .int .i64 l1, .int .i64 nw, v0, v1, v2, v3, v4, v5, v6, v7, v8, v9, v10, v11, v12, .int .i64 W, .int .i64 H, .string C, .int .i64 T, .string A, .string B, .int .i64 y, .int .i64 o, .string t] 82 (0, 0))
theorem isH.cells {w : World} {b : Nat} {v0 v1 v2 v3 v4 v5 v6 v7 v8 v9 v10 v11 v12 : Value} {l0 l1 nw W H : Int} {C : ByteArray} {T : Int} {A B : ByteArray} {y o : Int} {t : ByteArray} (h : isH w b v0 v1 v2 v3 v4 v5 v6 v7 v8 v9 v10 v11 v12 l0 l1 nw W H C T A B y o t) :
    (w.cell? ⟨b, 0, none⟩ = some (.int .i64 l0) ∧ w.cell? ⟨b, 1, none⟩ = some (.int .i64 l1) ∧ w.cell? ⟨b, 2, none⟩ = some (.int .i64 nw)) ∧
    (w.cell? ⟨b, 3, none⟩ = some v0 ∧ w.cell? ⟨b, 4, none⟩ = some v1 ∧ w.cell? ⟨b, 5, none⟩ = some v2 ∧ w.cell? ⟨b, 6, none⟩ = some v3 ∧ w.cell? ⟨b, 7, none⟩ = some v4 ∧ w.cell? ⟨b, 8, none⟩ = some v5 ∧ w.cell? ⟨b, 9, none⟩ = some v6 ∧ w.cell? ⟨b, 10, none⟩ = some v7 ∧ w.cell? ⟨b, 11, none⟩ = some v8 ∧ w.cell? ⟨b, 12, none⟩ = some v9 ∧ w.cell? ⟨b, 13, none⟩ = some v10 ∧ w.cell? ⟨b, 14, none⟩ = some v11 ∧ w.cell? ⟨b, 15, none⟩ = some v12) ∧
    (w.cell? ⟨b, 16, none⟩ = some (.int .i64 W) ∧ w.cell? ⟨b, 17, none⟩ = some (.int .i64 H) ∧ w.cell? ⟨b, 18, none⟩ = some (.string C) ∧ w.cell? ⟨b, 19, none⟩ = some (.int .i64 T) ∧ w.cell? ⟨b, 20, none⟩ = some (.string A) ∧ w.cell? ⟨b, 21, none⟩ = some (.string B)) ∧
    w.cell? ⟨b, 22, none⟩ = some (.int .i64 y) ∧ w.cell? ⟨b, 23, none⟩ = some (.int .i64 o) ∧ w.cell? ⟨b, 24, none⟩ = some (.string t) := by
  unfold isH at h
  simp [World.cell?, h]
theorem isH.lt {w : World} {b : Nat} {v0 v1 v2 v3 v4 v5 v6 v7 v8 v9 v10 v11 v12 : Value} {l0 l1 nw W H : Int} {C : ByteArray} {T : Int} {A B : ByteArray} {y o : Int} {t : ByteArray} (h : isH w b v0 v1 v2 v3 v4 v5 v6 v7 v8 v9 v10 v11 v12 l0 l1 nw W H C T A B y o t) : b < w.heap.size := (Array.getElem?_eq_some_iff.1 h).1
theorem isH.frozen {w : World} {b : Nat} {v0 v1 v2 v3 v4 v5 v6 v7 v8 v9 v10 v11 v12 : Value} {l0 l1 nw W H : Int} {C : ByteArray} {T : Int} {A B : ByteArray} {y o : Int} {t : ByteArray} (h : isH w b v0 v1 v2 v3 v4 v5 v6 v7 v8 v9 v10 v11 v12 l0 l1 nw W H C T A B y o t) (k : Nat) : w.frozen? ⟨b, k, none⟩ = false := frozen_of_row w b k _ _ h
theorem isH.of_block {w w' : World} {b : Nat} {v0 v1 v2 v3 v4 v5 v6 v7 v8 v9 v10 v11 v12 : Value} {l0 l1 nw W H : Int} {C : ByteArray} {T : Int} {A B : ByteArray} {y o : Int} {t : ByteArray} (h : isH w b v0 v1 v2 v3 v4 v5 v6 v7 v8 v9 v10 v11 v12 l0 l1 nw W H C T A B y o t) (hb : w'.heap[b]? = w.heap[b]?) : isH w' b v0 v1 v2 v3 v4 v5 v6 v7 v8 v9 v10 v11 v12 l0 l1 nw W H C T A B y o t := hb.trans h
theorem isH.below {w w' : World} {b S : Nat} {v0 v1 v2 v3 v4 v5 v6 v7 v8 v9 v10 v11 v12 : Value} {l0 l1 nw W H : Int} {C : ByteArray} {T : Int} {A B : ByteArray} {y o : Int} {t : ByteArray} (h : isH w b v0 v1 v2 v3 v4 v5 v6 v7 v8 v9 v10 v11 v12 l0 l1 nw W H C T A B y o t) (hb : Below S w w') (hS : b < S) : isH w' b v0 v1 v2 v3 v4 v5 v6 v7 v8 v9 v10 v11 v12 l0 l1 nw W H C T A B y o t := h.of_block (hb.block b hS)
theorem isH.ex {w w' : World} {b c S : Nat} {v0 v1 v2 v3 v4 v5 v6 v7 v8 v9 v10 v11 v12 : Value} {l0 l1 nw W H : Int} {C : ByteArray} {T : Int} {A B : ByteArray} {y o : Int} {t : ByteArray} (h : isH w b v0 v1 v2 v3 v4 v5 v6 v7 v8 v9 v10 v11 v12 l0 l1 nw W H C T A B y o t) (hb : Ex c S w w') (hS : b < S) (hn : b ≠ c) : isH w' b v0 v1 v2 v3 v4 v5 v6 v7 v8 v9 v10 v11 v12 l0 l1 nw W H C T A B y o t := h.of_block (hb.block b hS hn)
theorem isH.set0
  {w : World} {b : Nat} {v0 v1 v2 v3 v4 v5 v6 v7 v8 v9 v10 v11 v12 : Value} {l0 l1 nw W H : Int} {C : ByteArray} {T : Int} {A B : ByteArray} {y o : Int} {t : ByteArray} (h : isH w b v0 v1 v2 v3 v4 v5 v6 v7 v8 v9 v10 v11 v12 l0 l1 nw W H C T A B y o t)
  (x : Int) : isH (w.setCell ⟨b, 0, none⟩ (.int .i64 x)) b v0 v1 v2 v3 v4 v5 v6 v7 v8 v9 v10 v11 v12 x l1 nw W H C T A B y o t := by
  unfold isH at h ⊢; simp [World.setCell, Array.getElem?_modify, h]
theorem isH.set1
  {w : World} {b : Nat} {v0 v1 v2 v3 v4 v5 v6 v7 v8 v9 v10 v11 v12 : Value} {l0 l1 nw W H : Int} {C : ByteArray} {T : Int} {A B : ByteArray} {y o : Int} {t : ByteArray} (h : isH w b v0 v1 v2 v3 v4 v5 v6 v7 v8 v9 v10 v11 v12 l0 l1 nw W H C T A B y o t)
  (x : Int) : isH (w.setCell ⟨b, 1, none⟩ (.int .i64 x)) b v0 v1 v2 v3 v4 v5 v6 v7 v8 v9 v10 v11 v12 l0 x nw W H C T A B y o t := by
  unfold isH at h ⊢; simp [World.setCell, Array.getElem?_modify, h]
theorem isH.set2
  {w : World} {b : Nat} {v0 v1 v2 v3 v4 v5 v6 v7 v8 v9 v10 v11 v12 : Value} {l0 l1 nw W H : Int} {C : ByteArray} {T : Int} {A B : ByteArray} {y o : Int} {t : ByteArray} (h : isH w b v0 v1 v2 v3 v4 v5 v6 v7 v8 v9 v10 v11 v12 l0 l1 nw W H C T A B y o t)
  (x : Int) : isH (w.setCell ⟨b, 2, none⟩ (.int .i64 x)) b v0 v1 v2 v3 v4 v5 v6 v7 v8 v9 v10 v11 v12 l0 l1 x W H C T A B y o t := by
  unfold isH at h ⊢; simp [World.setCell, Array.getElem?_modify, h]
theorem isH.setP
  {w : World} {b : Nat} {v0 v1 v2 v3 v4 v5 v6 v7 v8 v9 v10 v11 v12 : Value} {l0 l1 nw W H : Int} {C : ByteArray} {T : Int} {A B : ByteArray} {y o : Int} {t : ByteArray} (h : isH w b v0 v1 v2 v3 v4 v5 v6 v7 v8 v9 v10 v11 v12 l0 l1 nw W H C T A B y o t)
  (W' H' : Int) (C' : ByteArray) (T' : Int) (A' B' : ByteArray) : isH ((((((w.setCell ⟨b, 16, none⟩ (.int .i64 W')).setCell ⟨b, 17, none⟩ (.int .i64 H')).setCell ⟨b, 18, none⟩ (.string C')).setCell ⟨b, 19, none⟩ (.int .i64 T')).setCell ⟨b, 20, none⟩ (.string A')).setCell ⟨b, 21, none⟩ (.string B')) b v0 v1 v2 v3 v4 v5 v6 v7 v8 v9 v10 v11 v12 l0 l1 nw W' H' C' T' A' B' y o t := by
  unfold isH at h ⊢; simp [World.setCell, Array.getElem?_modify, h]
theorem isH.set22
  {w : World} {b : Nat} {v0 v1 v2 v3 v4 v5 v6 v7 v8 v9 v10 v11 v12 : Value} {l0 l1 nw W H : Int} {C : ByteArray} {T : Int} {A B : ByteArray} {y o : Int} {t : ByteArray} (h : isH w b v0 v1 v2 v3 v4 v5 v6 v7 v8 v9 v10 v11 v12 l0 l1 nw W H C T A B y o t)
  (x : Int) : isH (w.setCell ⟨b, 22, none⟩ (.int .i64 x)) b v0 v1 v2 v3 v4 v5 v6 v7 v8 v9 v10 v11 v12 l0 l1 nw W H C T A B x o t := by
  unfold isH at h ⊢; simp [World.setCell, Array.getElem?_modify, h]
theorem isH.set23
  {w : World} {b : Nat} {v0 v1 v2 v3 v4 v5 v6 v7 v8 v9 v10 v11 v12 : Value} {l0 l1 nw W H : Int} {C : ByteArray} {T : Int} {A B : ByteArray} {y o : Int} {t : ByteArray} (h : isH w b v0 v1 v2 v3 v4 v5 v6 v7 v8 v9 v10 v11 v12 l0 l1 nw W H C T A B y o t)
  (x : Int) : isH (w.setCell ⟨b, 23, none⟩ (.int .i64 x)) b v0 v1 v2 v3 v4 v5 v6 v7 v8 v9 v10 v11 v12 l0 l1 nw W H C T A B y x t := by
  unfold isH at h ⊢; simp [World.setCell, Array.getElem?_modify, h]
theorem isH.set24
  {w : World} {b : Nat} {v0 v1 v2 v3 v4 v5 v6 v7 v8 v9 v10 v11 v12 : Value} {l0 l1 nw W H : Int} {C : ByteArray} {T : Int} {A B : ByteArray} {y o : Int} {t : ByteArray} (h : isH w b v0 v1 v2 v3 v4 v5 v6 v7 v8 v9 v10 v11 v12 l0 l1 nw W H C T A B y o t)
  (x : ByteArray) : isH (w.setCell ⟨b, 24, none⟩ (.string x)) b v0 v1 v2 v3 v4 v5 v6 v7 v8 v9 v10 v11 v12 l0 l1 nw W H C T A B y o x := by
  unfold isH at h ⊢; simp [World.setCell, Array.getElem?_modify, h]
/-- The house x, its outcome o, in block b. -/
def isHo (w : World) (b : Nat) (v0 v1 v2 v3 v4 v5 v6 v7 v8 v9 v10 v11 v12 : Value) (x : Ho) (o : Int) : Prop :=
  isH w b v0 v1 v2 v3 v4 v5 v6 v7 v8 v9 v10 v11 v12 x.l0 x.l1 x.now x.p.W x.p.H x.p.C x.p.T x.p.A x.p.B x.ply o x.tx

/-- The document's house in block b. -/
def isR (w : World) (b : Nat) (v0 v1 v2 v3 v4 v5 v6 v7 v8 v9 v10 v11 v12 : Value) (W H : Int) (C : ByteArray) (T : Int) (A B : ByteArray) (y l0 l1 nw f : Int) (t : ByteArray) : Prop :=
  w.heap[b]? = some (.cells #[v0, v1, v2, v3, v4, v5, v6, v7, v8, v9, v10, v11, v12, .int .i64 W, .int .i64 H, .string C, .int .i64 T, .string A, .string B, .int .i64 y, .int .i64 l0, .int .i64 l1, .int .i64 nw, .int .i64 f, .string t] 38 (0, 0))
theorem isR.cells
  {w : World} {b : Nat} {v0 v1 v2 v3 v4 v5 v6 v7 v8 v9 v10 v11 v12 : Value} {W H : Int} {C : ByteArray} {T : Int} {A B : ByteArray} {y l0 l1 nw f : Int} {t : ByteArray} (h : isR w b v0 v1 v2 v3 v4 v5 v6 v7 v8 v9 v10 v11 v12 W H C T A B y l0 l1 nw f t)
  : (w.cell? ⟨b, 0, none⟩ = some v0 ∧ w.cell? ⟨b, 1, none⟩ = some v1 ∧ w.cell? ⟨b, 2, none⟩ = some v2 ∧ w.cell? ⟨b, 3, none⟩ = some v3 ∧ w.cell? ⟨b, 4, none⟩ = some v4 ∧ w.cell? ⟨b, 5, none⟩ = some v5 ∧ w.cell? ⟨b, 6, none⟩ = some v6 ∧ w.cell? ⟨b, 7, none⟩ = some v7 ∧ w.cell? ⟨b, 8, none⟩ = some v8 ∧ w.cell? ⟨b, 9, none⟩ = some v9 ∧ w.cell? ⟨b, 10, none⟩ = some v10 ∧ w.cell? ⟨b, 11, none⟩ = some v11 ∧ w.cell? ⟨b, 12, none⟩ = some v12) ∧
    (w.cell? ⟨b, 13, none⟩ = some (.int .i64 W) ∧ w.cell? ⟨b, 14, none⟩ = some (.int .i64 H) ∧ w.cell? ⟨b, 15, none⟩ = some (.string C) ∧ w.cell? ⟨b, 16, none⟩ = some (.int .i64 T) ∧ w.cell? ⟨b, 17, none⟩ = some (.string A) ∧ w.cell? ⟨b, 18, none⟩ = some (.string B)) ∧
    w.cell? ⟨b, 19, none⟩ = some (.int .i64 y) ∧ w.cell? ⟨b, 20, none⟩ = some (.int .i64 l0) ∧ w.cell? ⟨b, 21, none⟩ = some (.int .i64 l1) ∧ w.cell? ⟨b, 22, none⟩ = some (.int .i64 nw) ∧ w.cell? ⟨b, 23, none⟩ = some (.int .i64 f) ∧ w.cell? ⟨b, 24, none⟩ = some (.string t) := by
  unfold isR at h
  simp [World.cell?, h]
theorem isR.lt
  {w : World} {b : Nat} {v0 v1 v2 v3 v4 v5 v6 v7 v8 v9 v10 v11 v12 : Value} {W H : Int} {C : ByteArray} {T : Int} {A B : ByteArray} {y l0 l1 nw f : Int} {t : ByteArray} (h : isR w b v0 v1 v2 v3 v4 v5 v6 v7 v8 v9 v10 v11 v12 W H C T A B y l0 l1 nw f t)
  : b < w.heap.size := (Array.getElem?_eq_some_iff.1 h).1
theorem isR.frozen
  {w : World} {b : Nat} {v0 v1 v2 v3 v4 v5 v6 v7 v8 v9 v10 v11 v12 : Value} {W H : Int} {C : ByteArray} {T : Int} {A B : ByteArray} {y l0 l1 nw f : Int} {t : ByteArray} (h : isR w b v0 v1 v2 v3 v4 v5 v6 v7 v8 v9 v10 v11 v12 W H C T A B y l0 l1 nw f t)
  (k : Nat) : w.frozen? ⟨b, k, none⟩ = false := frozen_of_row w b k _ _ h
theorem isR.of_block
  {w : World} {b : Nat} {v0 v1 v2 v3 v4 v5 v6 v7 v8 v9 v10 v11 v12 : Value} {W H : Int} {C : ByteArray} {T : Int} {A B : ByteArray} {y l0 l1 nw f : Int} {t : ByteArray} (h : isR w b v0 v1 v2 v3 v4 v5 v6 v7 v8 v9 v10 v11 v12 W H C T A B y l0 l1 nw f t)
  {w' : World} (hb : w'.heap[b]? = w.heap[b]?) : isR w' b v0 v1 v2 v3 v4 v5 v6 v7 v8 v9 v10 v11 v12 W H C T A B y l0 l1 nw f t := hb.trans h
theorem isR.below
  {w : World} {b : Nat} {v0 v1 v2 v3 v4 v5 v6 v7 v8 v9 v10 v11 v12 : Value} {W H : Int} {C : ByteArray} {T : Int} {A B : ByteArray} {y l0 l1 nw f : Int} {t : ByteArray} (h : isR w b v0 v1 v2 v3 v4 v5 v6 v7 v8 v9 v10 v11 v12 W H C T A B y l0 l1 nw f t)
  {w' : World} {S : Nat} (hb : Below S w w') (hS : b < S) : isR w' b v0 v1 v2 v3 v4 v5 v6 v7 v8 v9 v10 v11 v12 W H C T A B y l0 l1 nw f t := h.of_block (hb.block b hS)
theorem isR.ex
  {w : World} {b : Nat} {v0 v1 v2 v3 v4 v5 v6 v7 v8 v9 v10 v11 v12 : Value} {W H : Int} {C : ByteArray} {T : Int} {A B : ByteArray} {y l0 l1 nw f : Int} {t : ByteArray} (h : isR w b v0 v1 v2 v3 v4 v5 v6 v7 v8 v9 v10 v11 v12 W H C T A B y l0 l1 nw f t)
  {w' : World} {c S : Nat} (hb : Ex c S w w') (hS : b < S) (hn : b ≠ c) : isR w' b v0 v1 v2 v3 v4 v5 v6 v7 v8 v9 v10 v11 v12 W H C T A B y l0 l1 nw f t := h.of_block (hb.block b hS hn)
theorem isR.setP
  {w : World} {b : Nat} {v0 v1 v2 v3 v4 v5 v6 v7 v8 v9 v10 v11 v12 : Value} {W H : Int} {C : ByteArray} {T : Int} {A B : ByteArray} {y l0 l1 nw f : Int} {t : ByteArray} (h : isR w b v0 v1 v2 v3 v4 v5 v6 v7 v8 v9 v10 v11 v12 W H C T A B y l0 l1 nw f t)
  (W' H' : Int) (C' : ByteArray) (T' : Int) (A' B' : ByteArray) : isR ((((((w.setCell ⟨b, 13, none⟩ (.int .i64 W')).setCell ⟨b, 14, none⟩ (.int .i64 H')).setCell ⟨b, 15, none⟩ (.string C')).setCell ⟨b, 16, none⟩ (.int .i64 T')).setCell ⟨b, 17, none⟩ (.string A')).setCell ⟨b, 18, none⟩ (.string B')) b v0 v1 v2 v3 v4 v5 v6 v7 v8 v9 v10 v11 v12 W' H' C' T' A' B' y l0 l1 nw f t := by
  unfold isR at h ⊢; simp [World.setCell, Array.getElem?_modify, h]
theorem isR.set19
  {w : World} {b : Nat} {v0 v1 v2 v3 v4 v5 v6 v7 v8 v9 v10 v11 v12 : Value} {W H : Int} {C : ByteArray} {T : Int} {A B : ByteArray} {y l0 l1 nw f : Int} {t : ByteArray} (h : isR w b v0 v1 v2 v3 v4 v5 v6 v7 v8 v9 v10 v11 v12 W H C T A B y l0 l1 nw f t)
  (x : Int) : isR (w.setCell ⟨b, 19, none⟩ (.int .i64 x)) b v0 v1 v2 v3 v4 v5 v6 v7 v8 v9 v10 v11 v12 W H C T A B x l0 l1 nw f t := by
  unfold isR at h ⊢; simp [World.setCell, Array.getElem?_modify, h]
theorem isR.set20
  {w : World} {b : Nat} {v0 v1 v2 v3 v4 v5 v6 v7 v8 v9 v10 v11 v12 : Value} {W H : Int} {C : ByteArray} {T : Int} {A B : ByteArray} {y l0 l1 nw f : Int} {t : ByteArray} (h : isR w b v0 v1 v2 v3 v4 v5 v6 v7 v8 v9 v10 v11 v12 W H C T A B y l0 l1 nw f t)
  (x : Int) : isR (w.setCell ⟨b, 20, none⟩ (.int .i64 x)) b v0 v1 v2 v3 v4 v5 v6 v7 v8 v9 v10 v11 v12 W H C T A B y x l1 nw f t := by
  unfold isR at h ⊢; simp [World.setCell, Array.getElem?_modify, h]
theorem isR.set21
  {w : World} {b : Nat} {v0 v1 v2 v3 v4 v5 v6 v7 v8 v9 v10 v11 v12 : Value} {W H : Int} {C : ByteArray} {T : Int} {A B : ByteArray} {y l0 l1 nw f : Int} {t : ByteArray} (h : isR w b v0 v1 v2 v3 v4 v5 v6 v7 v8 v9 v10 v11 v12 W H C T A B y l0 l1 nw f t)
  (x : Int) : isR (w.setCell ⟨b, 21, none⟩ (.int .i64 x)) b v0 v1 v2 v3 v4 v5 v6 v7 v8 v9 v10 v11 v12 W H C T A B y l0 x nw f t := by
  unfold isR at h ⊢; simp [World.setCell, Array.getElem?_modify, h]
theorem isR.set22
  {w : World} {b : Nat} {v0 v1 v2 v3 v4 v5 v6 v7 v8 v9 v10 v11 v12 : Value} {W H : Int} {C : ByteArray} {T : Int} {A B : ByteArray} {y l0 l1 nw f : Int} {t : ByteArray} (h : isR w b v0 v1 v2 v3 v4 v5 v6 v7 v8 v9 v10 v11 v12 W H C T A B y l0 l1 nw f t)
  (x : Int) : isR (w.setCell ⟨b, 22, none⟩ (.int .i64 x)) b v0 v1 v2 v3 v4 v5 v6 v7 v8 v9 v10 v11 v12 W H C T A B y l0 l1 x f t := by
  unfold isR at h ⊢; simp [World.setCell, Array.getElem?_modify, h]
theorem isR.set23
  {w : World} {b : Nat} {v0 v1 v2 v3 v4 v5 v6 v7 v8 v9 v10 v11 v12 : Value} {W H : Int} {C : ByteArray} {T : Int} {A B : ByteArray} {y l0 l1 nw f : Int} {t : ByteArray} (h : isR w b v0 v1 v2 v3 v4 v5 v6 v7 v8 v9 v10 v11 v12 W H C T A B y l0 l1 nw f t)
  (x : Int) : isR (w.setCell ⟨b, 23, none⟩ (.int .i64 x)) b v0 v1 v2 v3 v4 v5 v6 v7 v8 v9 v10 v11 v12 W H C T A B y l0 l1 nw x t := by
  unfold isR at h ⊢; simp [World.setCell, Array.getElem?_modify, h]
theorem isR.set24
  {w : World} {b : Nat} {v0 v1 v2 v3 v4 v5 v6 v7 v8 v9 v10 v11 v12 : Value} {W H : Int} {C : ByteArray} {T : Int} {A B : ByteArray} {y l0 l1 nw f : Int} {t : ByteArray} (h : isR w b v0 v1 v2 v3 v4 v5 v6 v7 v8 v9 v10 v11 v12 W H C T A B y l0 l1 nw f t)
  (x : ByteArray) : isR (w.setCell ⟨b, 24, none⟩ (.string x)) b v0 v1 v2 v3 v4 v5 v6 v7 v8 v9 v10 v11 v12 W H C T A B y l0 l1 nw f x := by
  unfold isR at h ⊢; simp [World.setCell, Array.getElem?_modify, h]
def isRo (w : World) (b : Nat) (v0 v1 v2 v3 v4 v5 v6 v7 v8 v9 v10 v11 v12 : Value) (x : Ho) : Prop :=
  isR w b v0 v1 v2 v3 v4 v5 v6 v7 v8 v9 v10 v11 v12 x.p.W x.p.H x.p.C x.p.T x.p.A x.p.B x.ply x.l0 x.l1 x.now x.flag x.tx
/-- A message in a box. -/
def isG (w : World) (b : Nat) (m : Ms) : Prop := w.heap[b]? = some (.cells #[.int .i64 m.seat, .int .i64 m.ply, .string m.mv, .int .i64 m.at_] 43 (0, 0))
theorem isG.cells {w : World} {b : Nat} {m : Ms} (h : isG w b m) : w.cell? ⟨b, 0, none⟩ = some (.int .i64 m.seat) ∧ w.cell? ⟨b, 1, none⟩ = some (.int .i64 m.ply) ∧ w.cell? ⟨b, 2, none⟩ = some (.string m.mv) ∧ w.cell? ⟨b, 3, none⟩ = some (.int .i64 m.at_) := by
  unfold isG at h
  simp [World.cell?, h]
theorem isG.lt {w : World} {b : Nat} {m : Ms} (h : isG w b m) : b < w.heap.size := (Array.getElem?_eq_some_iff.1 h).1
theorem isG.below {w w' : World} {b S : Nat} {m : Ms} (h : isG w b m) (hb : Below S w w') (hS : b < S) : isG w' b m := (hb.block b hS).trans h
theorem isG.ex {w w' : World} {b c S : Nat} {m : Ms} (h : isG w b m) (hb : Ex c S w w') (hS : b < S) (hn : b ≠ c) : isG w' b m := (hb.block b hS hn).trans h
theorem isG.frozen {w : World} {b : Nat} {m : Ms} (h : isG w b m) (k : Nat) : w.frozen? ⟨b, k, none⟩ = false := frozen_of_row w b k _ _ h
theorem isG.new (w : World) (m : Ms) : isG (w.alloc (.cells #[.int .i64 m.seat, .int .i64 m.ply, .string m.mv, .int .i64 m.at_] 43 (0, 0))) w.heap.size m := heap_alloc_new w _
end Go.Proofs.YtihojhfpepbjhaaGreatDoor

namespace Go.Proofs.YtihojhfpepbjhaaGreatDoor
open Go.RowKit
attribute [local go_sem ↓] Go.wp_at_zero Go.wp_at_succ

theorem grow_below (w : World) (k : Nat) (os : Array Obj) : Below w.heap.size w (Go.Sort.grow (w.drewN k) os) := by
  refine ⟨rfl, rfl, rfl, ?_, ?_⟩
  · simp [Go.Sort.grow, World.drewN]
  · intro i hi
    simp only [Go.Sort.grow, World.drewN]
    rw [Array.getElem?_append_left hi]
/-- Go's table of the powers of ten lies as the program lays it. -/
def isTab (w : World) : Prop := Lib.TabIs Tryz.prog w "internal/strconv.uint64pow10" .u64 Lib.pow10Tab
theorem isTab.below {w w' : World} (h : isTab w) (hb : Below w.heap.size w w') : isTab w' := by
  unfold isTab Lib.TabIs World.var? at *
  cases hg : Tryz.prog.globalNamed "internal/strconv.uint64pow10" with
  | none => simp [hg] at h
  | some g =>
    simp only [hg, Option.bind_some] at h ⊢
    have hlt : g < w.heap.size := by
      rcases Nat.lt_or_ge g w.heap.size with h' | h'
      · exact h'
      · rw [Array.getElem?_eq_none h'] at h; simp at h
    rw [hb.block g hlt]
    exact h
end Go.Proofs.YtihojhfpepbjhaaGreatDoor

namespace Go.Proofs.YtihojhfpepbjhaaGreatDoor
open Go.RowKit
attribute [local go_sem ↓] Go.wp_at_zero Go.wp_at_succ

set_option maxHeartbeats 2000000 in
set_option maxRecDepth 100000 in
theorem hWon_any (p : Int) (w : World) : Calls Tryz.prog 67 #[.int .i64 p] w fun e w' => e = .returned (.int .i64 (if p = 0 then 1 else 2)) ∧ w' = w := by
  go_enter Tryz.func67, Tryz.ntmps67
  by_cases h : p = 0
  · rw [if_pos h]
    have hb : (p == 0) = true := by simp [h]
    go_wp2
    go_ret
    exact ⟨rfl, rfl⟩
  · rw [if_neg h]
    have hb : (p == 0) = false := by simp [h]
    go_wp2
    go_ret
    exact ⟨rfl, rfl⟩
set_option maxHeartbeats 2000000 in
set_option maxRecDepth 100000 in
theorem hFrom_any (a n b : Int) (w : World) : Calls Tryz.prog 26 #[.int .i64 a, .int .i64 n, .int .i64 b] w fun e w' => e = .returned (.bool (decide (a ≤ n) && decide (n ≤ b))) ∧ w' = w := by
  go_enter Tryz.func26, Tryz.ntmps26
  by_cases h : a ≤ n
  · go_wp2
    go_ret
    exact ⟨by simp [h], rfl⟩
  · go_wp2
    go_ret
    rw [show decide (a ≤ n) = false from decide_eq_false (by omega)]
    exact ⟨rfl, rfl⟩
set_option maxHeartbeats 2000000 in
set_option maxRecDepth 100000 in
theorem isOver_any (b : Nat) (v0 v1 v2 v3 v4 v5 v6 v7 v8 v9 v10 v11 v12 : Value) (x : Ho) (o : Int) (w : World) (h : isHo w b v0 v1 v2 v3 v4 v5 v6 v7 v8 v9 v10 v11 v12 x o) :
    Calls Tryz.prog 64 #[.pointer (some ⟨b, 0, none⟩)] w fun e w' => e = .returned (.bool (!(o == 0))) ∧ w' = w := by
  obtain ⟨⟨l0, l1, l2⟩, ⟨r0, r1, r2, r3, r4, r5, r6, r7, r8, r9, r10, r11, r12⟩, ⟨p0, p1, p2, p3, p4, p5⟩, hy, ho, ht⟩ := isH.cells h
  go_enter Tryz.func64, Tryz.ntmps64
  go_wp2
  go_ret
  exact ⟨rfl, rfl⟩
set_option maxHeartbeats 2000000 in
set_option maxRecDepth 100000 in
theorem hasGame_any (b : Nat) (v0 v1 v2 v3 v4 v5 v6 v7 v8 v9 v10 v11 : Value) (pl : Int) (x : Ho) (o : Int) (w : World) (h : isHo w b v0 v1 v2 v3 v4 v5 v6 v7 v8 v9 v10 v11 (.int .i64 pl) x o) (hpl : 0 < pl) :
    Calls Tryz.prog 34 #[.pointer (some ⟨b, 0, none⟩)] w fun e w' => e = .returned (.bool true) ∧ w' = w := by
  obtain ⟨⟨l0, l1, l2⟩, ⟨r0, r1, r2, r3, r4, r5, r6, r7, r8, r9, r10, r11, r12⟩, ⟨p0, p1, p2, p3, p4, p5⟩, hy, ho, ht⟩ := isH.cells h
  go_enter Tryz.func34, Tryz.ntmps34
  go_wp2
  go_ret
  exact ⟨rfl, rfl⟩
set_option maxHeartbeats 2000000 in
set_option maxRecDepth 100000 in
theorem ranOut_any (b : Nat) (v0 v1 v2 v3 v4 v5 v6 v7 v8 v9 v10 v11 v12 : Value) (x : Ho) (o : Int) (w : World) (h : isHo w b v0 v1 v2 v3 v4 v5 v6 v7 v8 v9 v10 v11 v12 x o) (hT : x.p.T = 0 ∨ x.p.T = 1) :
    Calls Tryz.prog 66 #[.pointer (some ⟨b, 0, none⟩), .int .i64 x.p.T] w fun e w' => e = .returned (.bool (decide (x.left < 0))) ∧ w' = w := by
  obtain ⟨⟨l0, l1, l2⟩, ⟨r0, r1, r2, r3, r4, r5, r6, r7, r8, r9, r10, r11, r12⟩, ⟨p0, p1, p2, p3, p4, p5⟩, hy, ho, ht⟩ := isH.cells h
  go_enter Tryz.func66, Tryz.ntmps66
  unfold Ho.left
  rcases hT with hT | hT
  · rw [hT, if_pos rfl]
    go_wp2
    go_ret
    exact ⟨rfl, rfl⟩
  · rw [hT, if_neg (by omega)]
    go_wp2
    go_ret
    exact ⟨rfl, rfl⟩
set_option maxHeartbeats 4000000 in
set_option maxRecDepth 100000 in
theorem goOn_any (b : Nat) (v0 v1 v2 v3 v4 v5 v6 v7 v8 v9 v10 v11 v12 : Value) (x : Ho) (o a : Int) (w : World) (h : isHo w b v0 v1 v2 v3 v4 v5 v6 v7 v8 v9 v10 v11 v12 x o) (hT : x.p.T = 0 ∨ x.p.T = 1) (hn : 0 ≤ x.now ∧ x.now < 9223372036854775808) (ha : a < 9223372036854775808) (h0 : 0 ≤ x.l0 ∧ x.l0 ≤ 1000000) (h1 : 0 ≤ x.l1 ∧ x.l1 ≤ 1000000) :
    Calls Tryz.prog 65 #[.pointer (some ⟨b, 0, none⟩), .int .i64 x.p.T, .int .i64 a] w fun e w' => e = .returned (.tuple #[]) ∧ isHo w' b v0 v1 v2 v3 v4 v5 v6 v7 v8 v9 v10 v11 v12 (x.go a) o ∧ Ex b w.heap.size w w' := by
  have z0 := isH.frozen h 0
  have z1 := isH.frozen h 1
  have z2 := isH.frozen h 2
  have H := hide h
  obtain ⟨⟨l0, l1, l2⟩, ⟨r0, r1, r2, r3, r4, r5, r6, r7, r8, r9, r10, r11, r12⟩, ⟨p0, p1, p2, p3, p4, p5⟩, hy, ho, ht⟩ := isH.cells h
  clear h
  obtain ⟨X, hX⟩ : ∃ X, X = x.go a := ⟨_, rfl⟩
  rw [← hX]
  have HX := hide hX
  clear hX
  go_enter Tryz.func65, Tryz.ntmps65
  by_cases hg : x.now < a
  · rcases hT with hT | hT
    · have hXe : X = { x with l0 := x.l0 - (a - x.now), now := a } := by rw [unhide HX]; unfold Ho.go; rw [if_pos hg, if_pos hT]
      have HXE := hide hXe
      clear hXe HX
      rw [hT]
      have w1 : IntKind.i64.wrap (a - x.now) = a - x.now := IntWalk.i64_in _ (by omega)
      have w2 : IntKind.i64.wrap (x.l0 - (a - x.now)) = x.l0 - (a - x.now) := IntWalk.i64_in _ (by omega)
      go_wp2_with fail
      go_region
      go_wp2
      go_end0
      rw [unhide HXE]
      exact ⟨rfl, isH.set2 (isH.set0 (unhide H) _) _, (((Ex.refl _ _ _).set 0 _).drew.set 2 _)⟩
    · have hne : ¬ x.p.T = 0 := by omega
      have hXe : X = { x with l1 := x.l1 - (a - x.now), now := a } := by rw [unhide HX]; unfold Ho.go; rw [if_pos hg, if_neg hne]
      have HXE := hide hXe
      clear hXe HX hne
      rw [hT]
      have w1 : IntKind.i64.wrap (a - x.now) = a - x.now := IntWalk.i64_in _ (by omega)
      have w2 : IntKind.i64.wrap (x.l1 - (a - x.now)) = x.l1 - (a - x.now) := IntWalk.i64_in _ (by omega)
      go_wp2_with fail
      go_region
      go_wp2
      go_end0
      rw [unhide HXE]
      exact ⟨rfl, isH.set2 (isH.set1 (unhide H) _) _, (((Ex.refl _ _ _).set 1 _).drew.set 2 _)⟩
  · have hXe : X = x := by rw [unhide HX]; unfold Ho.go; rw [if_neg hg]
    rw [hXe]
    clear hXe HX
    go_wp2
    go_end0
    exact ⟨rfl, unhide H, Ex.refl _ _ _⟩
theorem itoaB_any (n : Int) (w : World) (h : 0 ≤ n ∧ n < 9223372036854775808) (ht : isTab w) :
    Calls Tryz.prog 75 #[.int .i64 n] w fun e w' => e = .returned (.string (itoaB n)) ∧ Below w.heap.size w w' := by
  refine (Tryz.strconv_Itoa n (by omega) (by omega) w ht).mono ?_
  rintro e w' ⟨rfl, k, os, rfl⟩
  exact ⟨rfl, grow_below w k os⟩
set_option maxHeartbeats 4000000 in
set_option maxRecDepth 100000 in
theorem lineOf_any (y n : Int) (mv : ByteArray) (w : World) (hy : 0 ≤ y ∧ y < 9223372036854775808) (hn : 0 ≤ n ∧ n < 9223372036854775808) (hm : mv.size ≤ 10) (ht : isTab w) :
    Calls Tryz.prog 80 #[.int .i64 y, .int .i64 n, .string mv] w fun e w' => e = .returned (.string (lineX y n mv)) ∧ Below w.heap.size w w' := by
  have hl := lineX_len hy hn hm
  unfold lineX at hl ⊢
  have s1 := itoa_len y hy
  have s2 := itoa_len n hn
  have hT := hide ht
  obtain ⟨Y, hY⟩ : ∃ Y, Y = itoaB y := ⟨_, rfl⟩
  obtain ⟨N, hN⟩ : ∃ N, N = itoaB n := ⟨_, rfl⟩
  have K1 := fun u (hu : isTab u) => itoaB_any y u hy hu
  have K2 := fun u (hu : isTab u) => itoaB_any n u hn hu
  rw [← hY] at K1 s1 hl ⊢
  rw [← hN] at K2 s2 hl ⊢
  have e1 : (⟨#[32]⟩ : ByteArray).size = 1 := rfl
  have e2 : (⟨#[10]⟩ : ByteArray).size = 1 := rfl
  have HK1 := hide K1
  have HK2 := hide K2
  clear K1 K2 hY hN ht
  go_enter Tryz.func80, Tryz.ntmps80
  go_wp2_with fail
  refine (unhide HK1 _ (unhide hT)).mono ?_
  rintro e w1 ⟨rfl, hb1⟩
  have hT1 := hide ((unhide hT).below hb1)
  go_wp2_with fail
  refine (unhide HK2 _ (unhide hT1)).mono ?_
  rintro e w2 ⟨rfl, hb2⟩
  have HB := hide (hb1.trans (hb2.mono hb1.size))
  clear hb1 hb2
  simp only [ByteArray.size_append] at hl
  go_wp2
  go_ret
  exact ⟨rfl, unhide HB⟩
end Go.Proofs.YtihojhfpepbjhaaGreatDoor
