/-
  board.Read, walked: the position that the whole text is, or where it goes wrong.
-/
import Derived.Test.YtbcedjjocpjkjaaDoorW49
namespace Go.Proofs.YtbcedjjocpjkjaaDoor
open Go.RowKit
attribute [local go_sem ↓] Go.wp_at_zero Go.wp_at_succ

theorem isBx.alloc {w : World} {p : Nat} {x0 x1 x2 x3 x4 x5 : Value} (h : isBx w p x0 x1 x2 x3 x4 x5) (o : Obj) : isBx (w.alloc o) p x0 x1 x2 x3 x4 x5 :=
  h.below ((Below.refl w.heap.size w).alloc (Nat.le_refl _) o) h.lt
/-- A fault's two cells in block p. -/
def isFx (w : World) (p : Nat) (x0 x1 : Value) : Prop := w.heap[p]? = some (.cells #[x0, x1] 29 (0, 0))
theorem isFx.all {w : World} {p : Nat} {x0 x1 : Value} (h : isFx w p x0 x1) : (w.cell? ⟨p, 0, none⟩ = some x0 ∧ w.cell? ⟨p, 1, none⟩ = some x1) ∧ w.frozen? ⟨p, 0, none⟩ = false ∧ w.frozen? ⟨p, 1, none⟩ = false := by
  unfold isFx at h; simp [World.cell?, World.frozen?, h]
theorem isFx.lt {w : World} {p : Nat} {x0 x1 : Value} (h : isFx w p x0 x1) : p < w.heap.size := by
  rcases Nat.lt_or_ge p w.heap.size with h' | h'
  · exact h'
  · unfold isFx at h; simp [Array.getElem?_eq_none h'] at h
theorem isFx.alloc {w : World} {p : Nat} {x0 x1 : Value} (h : isFx w p x0 x1) (o : Obj) : isFx (w.alloc o) p x0 x1 := by
  have := h.lt
  unfold isFx at h ⊢; rw [Below.heap_alloc _ _ _ this, h]
theorem isFx.rd {w w' : World} {p B b n : Nat} {s : ByteArray} {x0 x1 : Value} (h : isFx w p x0 x1) (k : Rd B b s n w w') (hp : p < B) (hn : p ≠ b) : isFx w' p x0 x1 := by
  unfold isFx at h ⊢; rw [k.block p hp hn, h]

def faultV (c n : Int) : Value := .agg #[.int .i64 c, .int .i64 n]
theorem below_set8 {B : Nat} {a w : World} {b c : Nat} {u0 u1 u2 u3 u4 u5 u6 u7 : Value} (hb : B ≤ b) (hc : B ≤ c) (h : Below B a w) :
    Below B a ((((((((w.setCell ⟨b, 0, none⟩ u0).setCell ⟨b, 1, none⟩ u1).setCell ⟨b, 2, none⟩ u2).setCell ⟨b, 3, none⟩ u3).setCell ⟨b, 4, none⟩ u4).setCell ⟨b, 5, none⟩ u5).setCell ⟨c, 0, none⟩ u6).setCell ⟨c, 1, none⟩ u7) :=
  ((below_set6 hb h).setCell (p := ⟨c, 0, none⟩) hc u6).setCell (p := ⟨c, 1, none⟩) hc u7
theorem posF_le (s : List UInt8) (x : Six) (n : Nat) (h : posF s = (some x, n)) : n ≤ s.length := by
  unfold posF at h
  split at h; · simp at h
  split at h; · simp at h
  split at h; · simp at h
  split at h; · simp at h
  split at h; · simp at h
  split at h; · simp at h
  rename_i g5
  split at h; · simp at h
  rename_i g6
  simp only [Bool.not_eq_false] at g5 g6
  have h1 := atB_lt g5
  have h2 := (handF_s _ g6).2.1
  rw [List.length_drop] at h2
  simp only [Prod.mk.injEq] at h
  omega
/-- The text is read to its end, as x. -/
def readsAs (s : ByteArray) (x : Six) : Prop := posF s.data.toList = (some x, s.data.toList.length)
def sixOf (x : Six) : Value := sixV x.1 x.2.1 ⟨x.2.2.1.toArray⟩ x.2.2.2.1 ⟨x.2.2.2.2.1.toArray⟩ ⟨x.2.2.2.2.2.toArray⟩

set_option maxHeartbeats 1000000 in
set_option maxRecDepth 100000 in
theorem Read_any (s : ByteArray) (w : World) (hs : s.size ≤ maxLen) :
    Calls Tryd.prog 5 #[.string s] w fun e w' =>
      ((∃ x, readsAs s x ∧ e = .returned (.tuple #[sixOf x, faultV 0 0])) ∨ ((∀ x, ¬ readsAs s x) ∧ e = .returned (.tuple #[zeroPos, faultV 3 (posF s.data.toList).2]))) ∧ Below w.heap.size w w' := by
  have hrd : isRd (((w.alloc (.cells #[.int .i64 0, .int .i64 0, .string ⟨#[]⟩, .int .i64 0, .string ⟨#[]⟩, .string ⟨#[]⟩] 24 (0, 0))).alloc (.cells #[.int .i64 0, .int .i64 0] 29 (0, 0))).alloc (.cells #[.string s, .int .i64 0] 48 (0, 0))) (w.heap.size + 1 + 1) s 0 := by
    have := heap_alloc_new ((w.alloc (.cells #[.int .i64 0, .int .i64 0, .string ⟨#[]⟩, .int .i64 0, .string ⟨#[]⟩, .string ⟨#[]⟩] 24 (0, 0))).alloc (.cells #[.int .i64 0, .int .i64 0] 29 (0, 0))) (.cells #[.string s, .int .i64 0] 48 (0, 0))
    simpa [isRd] using this
  have hpa := position_any (w.heap.size + 1 + 1) s _ hrd hs
  have HL : Hid (∀ x n, posF s.data.toList = (some x, n) → n ≤ s.size) := fun x n h => by have := posF_le _ _ _ h; rwa [len_data] at this
  have HP : Hid (∀ x, readsAs s x ↔ posF s.data.toList = (some x, s.size)) := fun x => by rw [readsAs, len_data]
  generalize posF s.data.toList = P at HP HL hpa ⊢
  obtain ⟨o, n⟩ := P
  go_enter Tryd.func5, Tryd.ntmps5
  go_wp2_with fail
  refine hpa.mono ?_
  rintro e w1 ⟨v, rfl, hv, hr1⟩
  obtain ⟨W, H, C, T, A, B, rfl, hx⟩ := hv
  have hs1 : w.heap.size + 1 + 1 < w1.heap.size := by have := hr1.size; simp at this; omega
  have hlow : Below w.heap.size w w1 := ((((Below.refl _ w).alloc (Nat.le_refl _) _).alloc (by simp) _).alloc (by simp; omega) _).trans ((hr1.low (by simp)).mono (by omega))
  have hm : Below w1.heap.size w1 w1 := Below.refl _ _
  have c1 : ∀ o, (w1.alloc o).cell? ⟨w.heap.size + 1 + 1, 1, none⟩ = some (.int .i64 (n : Int)) := fun o => ((hm.alloc (Nat.le_refl _) o).cell (p := ⟨w.heap.size + 1 + 1, 1, none⟩) (by dsimp only; omega)).trans hr1.rd.c1
  have hbx0 : isBx (((w.alloc (.cells #[.int .i64 0, .int .i64 0, .string ⟨#[]⟩, .int .i64 0, .string ⟨#[]⟩, .string ⟨#[]⟩] 24 (0, 0))).alloc (.cells #[.int .i64 0, .int .i64 0] 29 (0, 0))).alloc (.cells #[.string s, .int .i64 0] 48 (0, 0))) w.heap.size (.int .i64 0) (.int .i64 0) (.string ⟨#[]⟩) (.int .i64 0) (.string ⟨#[]⟩) (.string ⟨#[]⟩) := isBx.alloc (isBx.alloc (heap_alloc_new w _) _) _
  have hfx0 : isFx (((w.alloc (.cells #[.int .i64 0, .int .i64 0, .string ⟨#[]⟩, .int .i64 0, .string ⟨#[]⟩, .string ⟨#[]⟩] 24 (0, 0))).alloc (.cells #[.int .i64 0, .int .i64 0] 29 (0, 0))).alloc (.cells #[.string s, .int .i64 0] 48 (0, 0))) (w.heap.size + 1) (.int .i64 0) (.int .i64 0) := by
    refine isFx.alloc ?_ _
    have := heap_alloc_new (w.alloc (.cells #[.int .i64 0, .int .i64 0, .string ⟨#[]⟩, .int .i64 0, .string ⟨#[]⟩, .string ⟨#[]⟩] 24 (0, 0))) (.cells #[.int .i64 0, .int .i64 0] 29 (0, 0))
    simpa [isFx] using this
  have hbx1 := hbx0.rd hr1 hbx0.lt (by omega)
  have hfx1 := hfx0.rd hr1 hfx0.lt (by omega)
  have r0 := fun o => (hbx1.alloc o).all.1.1
  have r1 := fun o => (hbx1.alloc o).all.1.2.1
  have r2 := fun o => (hbx1.alloc o).all.1.2.2.1
  have r3 := fun o => (hbx1.alloc o).all.1.2.2.2.1
  have r4 := fun o => (hbx1.alloc o).all.1.2.2.2.2.1
  have r5 := fun o => (hbx1.alloc o).all.1.2.2.2.2.2
  have z0 := fun o => (hbx1.alloc o).all.2.1
  have z1 := fun o => (hbx1.alloc o).all.2.2.1
  have z2 := fun o => (hbx1.alloc o).all.2.2.2.1
  have z3 := fun o => (hbx1.alloc o).all.2.2.2.2.1
  have z4 := fun o => (hbx1.alloc o).all.2.2.2.2.2.1
  have z5 := fun o => (hbx1.alloc o).all.2.2.2.2.2.2
  have r6 := fun o => (hfx1.alloc o).all.1.1
  have r7 := fun o => (hfx1.alloc o).all.1.2
  have z6 := fun o => (hfx1.alloc o).all.2.1
  have z7 := fun o => (hfx1.alloc o).all.2.2
  clear hbx0 hfx0 hbx1 hfx1 hm hrd hr1 hpa
  cases o with
  | none =>
    clear hx
    unfold sixV
    go_wp2
    go_region
    go_wp2
    refine bodyPost_ret (v := .tuple #[zeroPos, faultV 3 (n : Int)]) (by simp [results, Tryd.results5, go_sem, zeroPos, faultV, r0, r1, r2, r3, r4, r5, r6, r7]) rfl ⟨Or.inr ⟨fun x hx => ?_, rfl⟩, ?_⟩
    · have := (unhide HP x).1 hx
      simp at this
    · exact Below.drew (below_set8 (Nat.le_refl _) (by omega) (hlow.alloc (by omega) _))
  | some x =>
    obtain ⟨rfl, rfl, rfl, rfl, rfl, rfl⟩ := hx x rfl
    clear hx
    by_cases hn : n < s.size
    · have hni : (n : Int) < (s.size : Int) := by omega
      unfold sixV
      go_wp2
      go_region
      go_wp2
      refine bodyPost_ret (v := .tuple #[zeroPos, faultV 3 (n : Int)]) (by simp [results, Tryd.results5, go_sem, zeroPos, faultV, r0, r1, r2, r3, r4, r5, r6, r7]) rfl ⟨Or.inr ⟨fun y hy => ?_, rfl⟩, ?_⟩
      · have := (unhide HP y).1 hy
        simp at this
        omega
      · exact Below.drew (below_set8 (Nat.le_refl _) (by omega) (hlow.alloc (by omega) _))
    · have hni : ¬ (n : Int) < (s.size : Int) := by omega
      have hne := unhide HL x n rfl
      have HN : Hid (n = s.size) := by show n = s.size; omega
      unfold sixV
      go_wp2
      refine bodyPost_ret (v := .tuple #[sixOf x, faultV 0 0]) (by simp [results, Tryd.results5, go_sem, sixOf, sixV, faultV, r0, r1, r2, r3, r4, r5, r6, r7]) rfl ⟨Or.inl ⟨x, (unhide HP x).2 (by rw [unhide HN]), rfl⟩, ?_⟩
      exact below_set8 (Nat.le_refl _) (by omega) (hlow.alloc (by omega) _)
end Go.Proofs.YtbcedjjocpjkjaaDoor
