/-
  package gameref, walked: goes.
  package gameref, walked: every.
  package gameref, walked: every, with drops.
  package gameref, walked: Ends, Moves.
-/
import Derived.Test.YtbijadnekoeofaaGreatDoorJ19
import Derived.Test.YtbijadnekoeofaaGreatDoorJ12
import Derived.BigQuiet
import Derived.Deep.Cut
import Derived.Deep.CutRange
import Derived.Deep.RegionLawGrows
import Derived.Deep.RegionHeld3
import Derived.Test.YtbijadnekoeofaaGreatDoorJ22
import Derived.Test.YtbijadnekoeofaaGreatDoorJ14
import Derived.Test.YtbijadnekoeofaaGreatDoorJ21
namespace Go.Proofs.YtbijadnekoeofaaGreatDoor
open Go.RowKit
attribute [local go_sem ↓] Go.wp_at_zero Go.wp_at_succ

end Go.Proofs.YtbijadnekoeofaaGreatDoor

namespace Go.Proofs.YtbijadnekoeofaaGreatDoor
open Go.RowKit
attribute [local go_sem ↓] Go.wp_at_zero Go.wp_at_succ

/-- A piece in a box of its own. -/
def isXb (w : World) (b : Nat) (l : Nat) (v : Int) (s : Value) : Prop := w.heap[b]? = some (.cells #[.int .u8 (l : Int), .int .i64 v, s] 90 (0, 0))
theorem isXb.all {w : World} {b l : Nat} {v : Int} {s : Value} (h : isXb w b l v s) : w.cell? ⟨b, 0, none⟩ = some (.int .u8 (l : Int)) ∧ w.cell? ⟨b, 1, none⟩ = some (.int .i64 v) ∧ w.cell? ⟨b, 2, none⟩ = some s := by
  unfold isXb at h; simp [World.cell?, h]
theorem isXb.lt {w : World} {b l : Nat} {v : Int} {s : Value} (h : isXb w b l v s) : b < w.heap.size := (Array.getElem?_eq_some_iff.1 h).1
theorem isXb.below {w w' : World} {b B l : Nat} {v : Int} {s : Value} (h : isXb w b l v s) (hh : Below B w w') (hb : b < B) : isXb w' b l v s := by
  unfold isXb at h ⊢; rw [hh.block b hb]; exact h
/-- A row of moves is another block than a piece's box. -/
theorem isXb.ne {w : World} {b l : Nat} {v : Int} {s : Value} (h : isXb w b l v s) {base n : Nat} {rv : Value} {xs : List Value} (hr : w.ownsRow base 45 3 rv n xs) : some b ≠ rv.ownBlock := by
  intro e
  rcases hr.2 with ⟨h1, -⟩ | ⟨g, cap, cur, h1, -, h3, -⟩
  · rw [h1] at e; cases e
  · rw [h1] at e
    have e' : b = g := Option.some.inj e
    subst e'
    unfold isXb at h
    rw [h] at h3
    have h4 := Option.some.inj h3
    injection h4 with _ h5 _
    exact absurd h5 (by decide)
theorem isXb.grown {w w' : World} {b l : Nat} {v : Int} {s : Value} {row : Option Nat} (h : isXb w b l v s) (hg : w.grownBy w' row) (hne : some b ≠ row) : isXb w' b l v s := by
  have hl := h.lt
  unfold isXb at h ⊢; rw [hg.block b hl hne]; exact h
end Go.Proofs.YtbijadnekoeofaaGreatDoor

namespace Go.Proofs.YtbijadnekoeofaaGreatDoor
open Go.RowKit
attribute [local go_sem ↓] Go.wp_at_zero Go.wp_at_succ

end Go.Proofs.YtbijadnekoeofaaGreatDoor

namespace Go.Proofs.YtbijadnekoeofaaGreatDoor
open Go.RowKit
attribute [local go_sem ↓] Go.wp_at_zero Go.wp_at_succ

/-- The last row of a player, as a text. -/
def rowS (W P : Nat) (C : ByteArray) : ByteArray := if P = 1 then C.extract 0 W else C.extract (C.size - W) C.size
/-- The two rows in a box. -/
def isRb (w : World) (b : Nat) (X Y : ByteArray) : Prop := w.heap[b]? = some (.cells #[.string X, .string Y] 22 (0, 0))
theorem isRb.at {w : World} {b : Nat} {W : Nat} {C : ByteArray} (h : isRb w b (rowS W 0 C) (rowS W 1 C)) (P : Nat) (hP : P ≤ 1) : w.cell? ⟨b, P, none⟩ = some (.string (rowS W P C)) := by
  unfold isRb at h
  rcases (by omega : P = 0 ∨ P = 1) with rfl | rfl <;> simp [World.cell?, h]
theorem isRb.below {w w' : World} {b B : Nat} {X Y : ByteArray} (h : isRb w b X Y) (hh : Below B w w') (hb : b < B) : isRb w' b X Y := by
  unfold isRb at h ⊢; rw [hh.block b hb]; exact h
theorem isRb.lt {w : World} {b : Nat} {X Y : ByteArray} (h : isRb w b X Y) : b < w.heap.size := (Array.getElem?_eq_some_iff.1 h).1
end Go.Proofs.YtbijadnekoeofaaGreatDoor
