/-
  board.reader.position, walked: what is read, or where it stops.
-/
import Derived.Test.YtbcedjjocpjkjaaDoorW47
namespace Go.Proofs.YtbcedjjocpjkjaaDoor
open Go.RowKit

/-! ### The reading's ways, one by one -/
theorem turnF_no (s : List UInt8) (n : Nat) (h : (turnF s n).1 = false) : (turnF s n).2.2 = n := by
  unfold turnF at h ⊢
  split
  · rename_i h1; rw [if_pos h1] at h; cases h
  · rename_i h1
    rw [if_neg h1] at h
    split
    · rename_i h2; rw [if_pos h2] at h; cases h
    · rfl
theorem turnF_yes (s : List UInt8) (n : Nat) (h : (turnF s n).1 = true) : (turnF s n).2.2 = n + 1 ∧ n < s.length := by
  unfold turnF at h ⊢
  split
  · rename_i h1
    simp only [atB, decide_eq_true_eq] at h1
    exact ⟨rfl, (List.getElem?_eq_some_iff.1 h1).1⟩
  · rename_i h1
    rw [if_neg h1] at h
    split
    · rename_i h2
      simp only [atB, decide_eq_true_eq] at h2
      exact ⟨rfl, (List.getElem?_eq_some_iff.1 h2).1⟩
    · rename_i h2; rw [if_neg h2] at h; cases h
theorem atB_lt {s : List UInt8} {n : Nat} {c : UInt8} (h : atB s n c = true) : n < s.length := by
  simp only [atB, decide_eq_true_eq] at h
  exact (List.getElem?_eq_some_iff.1 h).1

/-- A position's six cells in block p. -/
def isBx (w : World) (p : Nat) (x0 x1 x2 x3 x4 x5 : Value) : Prop := w.heap[p]? = some (.cells #[x0, x1, x2, x3, x4, x5] 24 (0, 0))
theorem isBx.all {w : World} {p : Nat} {x0 x1 x2 x3 x4 x5 : Value} (h : isBx w p x0 x1 x2 x3 x4 x5) :
    (w.cell? ⟨p, 0, none⟩ = some x0 ∧ w.cell? ⟨p, 1, none⟩ = some x1 ∧ w.cell? ⟨p, 2, none⟩ = some x2 ∧ w.cell? ⟨p, 3, none⟩ = some x3 ∧ w.cell? ⟨p, 4, none⟩ = some x4 ∧ w.cell? ⟨p, 5, none⟩ = some x5) ∧
    w.frozen? ⟨p, 0, none⟩ = false ∧ w.frozen? ⟨p, 1, none⟩ = false ∧ w.frozen? ⟨p, 2, none⟩ = false ∧ w.frozen? ⟨p, 3, none⟩ = false ∧ w.frozen? ⟨p, 4, none⟩ = false ∧ w.frozen? ⟨p, 5, none⟩ = false := by
  unfold isBx at h; simp [World.cell?, World.frozen?, h]
theorem isBx.rd {w w' : World} {p B b n : Nat} {s : ByteArray} {x0 x1 x2 x3 x4 x5 : Value} (h : isBx w p x0 x1 x2 x3 x4 x5) (k : Rd B b s n w w') (hp : p < B) (hn : p ≠ b) : isBx w' p x0 x1 x2 x3 x4 x5 := by
  unfold isBx at h ⊢; rw [k.block p hp hn, h]
theorem isBx.below {w w' : World} {p B : Nat} {x0 x1 x2 x3 x4 x5 : Value} (h : isBx w p x0 x1 x2 x3 x4 x5) (k : Below B w w') (hp : p < B) : isBx w' p x0 x1 x2 x3 x4 x5 := by
  unfold isBx at h ⊢; rw [k.block p hp, h]
theorem isBx.set012 {w : World} {p : Nat} {x0 x1 x2 x3 x4 x5 : Value} (h : isBx w p x0 x1 x2 x3 x4 x5) (y0 y1 y2 : Value) : isBx (((w.setCell ⟨p, 0, none⟩ y0).setCell ⟨p, 1, none⟩ y1).setCell ⟨p, 2, none⟩ y2) p y0 y1 y2 x3 x4 x5 := by
  unfold isBx at h ⊢; simp [World.setCell, Array.getElem?_modify, h]
theorem isBx.set3 {w : World} {p : Nat} {x0 x1 x2 x3 x4 x5 : Value} (h : isBx w p x0 x1 x2 x3 x4 x5) (y : Value) : isBx (w.setCell ⟨p, 3, none⟩ y) p x0 x1 x2 y x4 x5 := by
  unfold isBx at h ⊢; simp [World.setCell, Array.getElem?_modify, h]
theorem isBx.set4 {w : World} {p : Nat} {x0 x1 x2 x3 x4 x5 : Value} (h : isBx w p x0 x1 x2 x3 x4 x5) (y : Value) : isBx (w.setCell ⟨p, 4, none⟩ y) p x0 x1 x2 x3 y x5 := by
  unfold isBx at h ⊢; simp [World.setCell, Array.getElem?_modify, h]
theorem isBx.set5 {w : World} {p : Nat} {x0 x1 x2 x3 x4 x5 : Value} (h : isBx w p x0 x1 x2 x3 x4 x5) (y : Value) : isBx (w.setCell ⟨p, 5, none⟩ y) p x0 x1 x2 x3 x4 y := by
  unfold isBx at h ⊢; simp [World.setCell, Array.getElem?_modify, h]
/-- A store into another block from B on, or into one that is not the reader's. -/
theorem Rd.put {B b n : Nat} {s : ByteArray} {v w : World} (h : Rd B b s n v w) {p : Addr} (hp : B ≤ p.block) (hB : b < B) (u : Value) : Rd B b s n v (w.setCell p u) :=
  h.below ((Below.refl B w).setCell hp u) hB
theorem isRd.put {w : World} {b n : Nat} {s : ByteArray} (h : isRd w b s n) {p : Addr} (hp : p.block ≠ b) (u : Value) : isRd (w.setCell p u) b s n := by
  unfold isRd at h ⊢; rw [Below.heap_setCell _ _ _ _ hp.symm, h]

theorem Rd.put6 {B b n : Nat} {s : ByteArray} {v w : World} (h : Rd B b s n v w) {p : Nat} (hp : B ≤ p) (hB : b < B) {u0 u1 u2 u3 u4 u5 : Value} :
    Rd B b s n v ((((((w.setCell ⟨p, 0, none⟩ u0).setCell ⟨p, 1, none⟩ u1).setCell ⟨p, 2, none⟩ u2).setCell ⟨p, 3, none⟩ u3).setCell ⟨p, 4, none⟩ u4).setCell ⟨p, 5, none⟩ u5) :=
  (((((h.put (p := ⟨p, 0, none⟩) hp hB u0).put (p := ⟨p, 1, none⟩) hp hB u1).put (p := ⟨p, 2, none⟩) hp hB u2).put (p := ⟨p, 3, none⟩) hp hB u3).put (p := ⟨p, 4, none⟩) hp hB u4).put (p := ⟨p, 5, none⟩) hp hB u5

/-- Six parts as a value. -/
def sixV (W H : Int) (C : ByteArray) (T : Int) (A B : ByteArray) : Value := .agg #[.int .i64 W, .int .i64 H, .string C, .int .i64 T, .string A, .string B]
/-- v is a position's value; where one was read: that one. -/
def posV (o : Option Six) (v : Value) : Prop := ∃ (W H : Int) (C : ByteArray) (T : Int) (A B : ByteArray), v = sixV W H C T A B ∧
  ∀ x, o = some x → W = (x.1 : Int) ∧ H = (x.2.1 : Int) ∧ C = ⟨x.2.2.1.toArray⟩ ∧ T = x.2.2.2.1 ∧ A = ⟨x.2.2.2.2.1.toArray⟩ ∧ B = ⟨x.2.2.2.2.2.toArray⟩
theorem posV_none (W H : Int) (C : ByteArray) (T : Int) (A B : ByteArray) : posV none (sixV W H C T A B) := ⟨W, H, C, T, A, B, rfl, fun _ h => nomatch h⟩

/-- The reading's ways (the text's bytes l = s.data.toList; E: where the rows end). -/
structure PosWays (s : ByteArray) (P : Option Six × Nat) : Prop where
  a : (rowsF 8 1 8 s.data.toList).1 = false → P = (none, rowsEnd s.data.toList)
  b : (rowsF 8 1 8 s.data.toList).1 = true → atB s.data.toList (rowsEnd s.data.toList) 32 = false → P = (none, rowsEnd s.data.toList)
  c : (rowsF 8 1 8 s.data.toList).1 = true → atB s.data.toList (rowsEnd s.data.toList) 32 = true → (turnF s.data.toList (rowsEnd s.data.toList + 1)).1 = false → P = (none, rowsEnd s.data.toList + 1)
  d : (rowsF 8 1 8 s.data.toList).1 = true → atB s.data.toList (rowsEnd s.data.toList) 32 = true → (turnF s.data.toList (rowsEnd s.data.toList + 1)).1 = true → atB s.data.toList (rowsEnd s.data.toList + 2) 32 = false → P = (none, rowsEnd s.data.toList + 2)
  e : (rowsF 8 1 8 s.data.toList).1 = true → atB s.data.toList (rowsEnd s.data.toList) 32 = true → (turnF s.data.toList (rowsEnd s.data.toList + 1)).1 = true → atB s.data.toList (rowsEnd s.data.toList + 2) 32 = true →
    (handF (s.data.toList.drop (rowsEnd s.data.toList + 3))).1 = false → P = (none, handE s (rowsEnd s.data.toList + 3))
  f : (rowsF 8 1 8 s.data.toList).1 = true → atB s.data.toList (rowsEnd s.data.toList) 32 = true → (turnF s.data.toList (rowsEnd s.data.toList + 1)).1 = true → atB s.data.toList (rowsEnd s.data.toList + 2) 32 = true →
    (handF (s.data.toList.drop (rowsEnd s.data.toList + 3))).1 = true → atB s.data.toList (handE s (rowsEnd s.data.toList + 3)) 47 = false → P = (none, handE s (rowsEnd s.data.toList + 3))
  g : (rowsF 8 1 8 s.data.toList).1 = true → atB s.data.toList (rowsEnd s.data.toList) 32 = true → (turnF s.data.toList (rowsEnd s.data.toList + 1)).1 = true → atB s.data.toList (rowsEnd s.data.toList + 2) 32 = true →
    (handF (s.data.toList.drop (rowsEnd s.data.toList + 3))).1 = true → atB s.data.toList (handE s (rowsEnd s.data.toList + 3)) 47 = true →
    (handF (s.data.toList.drop (handE s (rowsEnd s.data.toList + 3) + 1))).1 = false → P = (none, handE s (handE s (rowsEnd s.data.toList + 3) + 1))
  h : (rowsF 8 1 8 s.data.toList).1 = true → atB s.data.toList (rowsEnd s.data.toList) 32 = true → (turnF s.data.toList (rowsEnd s.data.toList + 1)).1 = true → atB s.data.toList (rowsEnd s.data.toList + 2) 32 = true →
    (handF (s.data.toList.drop (rowsEnd s.data.toList + 3))).1 = true → atB s.data.toList (handE s (rowsEnd s.data.toList + 3)) 47 = true →
    (handF (s.data.toList.drop (handE s (rowsEnd s.data.toList + 3) + 1))).1 = true →
    P = (some (((rowsF 8 1 8 s.data.toList).2.1.headD []).length, (rowsF 8 1 8 s.data.toList).2.1.length, (rowsF 8 1 8 s.data.toList).2.1.reverse.flatten, (turnF s.data.toList (rowsEnd s.data.toList + 1)).2.1, (handF (s.data.toList.drop (rowsEnd s.data.toList + 3))).2.1, (handF (s.data.toList.drop (handE s (rowsEnd s.data.toList + 3) + 1))).2.1), handE s (handE s (rowsEnd s.data.toList + 3) + 1))
theorem posWays (s : ByteArray) : PosWays s (posF s.data.toList) := by
  refine ⟨?_, ?_, ?_, ?_, ?_, ?_, ?_, ?_⟩
  · intro h; simp [posF, h]
  · intro h h1; simp [posF, h, h1]
  · intro h h1 h2; simp [posF, h, h1, h2]
  · intro h h1 h2 h3; simp [posF, h, h1, h2, h3]
  · intro h h1 h2 h3 h4; simp [posF, h, h1, h2, h3, h4, handE]
  · intro h h1 h2 h3 h4 h5; unfold handE at h5; simp [posF, h, h1, h2, h3, h4, h5, handE]
  · intro h h1 h2 h3 h4 h5 h6; unfold handE at h5 h6; simp [posF, h, h1, h2, h3, h4, h5, h6, handE]
  · intro h h1 h2 h3 h4 h5 h6; unfold handE at h5 h6; simp [posF, h, h1, h2, h3, h4, h5, h6, handE]
theorem handE_le (s : ByteArray) (n : Nat) (h : n ≤ s.size) : handE s n ≤ s.size ∨ (handF (s.data.toList.drop n)).1 = false := by
  cases hb : (handF (s.data.toList.drop n)).1 with
  | false => exact Or.inr rfl
  | true =>
    left
    have := (handF_s _ hb).2.1
    rw [List.length_drop, len_data] at this
    unfold handE; omega
end Go.Proofs.YtbcedjjocpjkjaaDoor
