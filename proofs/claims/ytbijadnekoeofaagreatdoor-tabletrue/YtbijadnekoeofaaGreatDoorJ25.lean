/-
  cmp.Or at four numbers.
  package table, walked: compare.
-/
import Derived.Test.YtbijadnekoeofaaGreatDoorT10
import Derived.Test.YtbijadnekoeofaaGreatDoorJ7
import Derived.Sort.Grow
import Derived.Deep.RegionHeld3
namespace Go.Proofs.YtbijadnekoeofaaGreatDoor
open Go.RowKit
attribute [local go_sem ↓] Go.wp_at_zero Go.wp_at_succ

/-- The first that is not 0. -/
def orI : List Int → Int
  | [] => 0
  | a :: l => if a = 0 then orI l else a

/-- All as it was, but for new blocks and what was drawn. -/
structure Gr (w w' : World) : Prop where
  below : Below w.heap.size w w'
  drawn : w.drawn ≤ w'.drawn

theorem Gr.refl (w : World) : Gr w w := ⟨Below.refl _ _, Nat.le_refl _⟩
theorem Gr.alloc {w w' : World} (h : Gr w w') (o : Obj) : Gr w (w'.alloc o) := ⟨h.below.alloc h.below.size _, h.drawn⟩
theorem Gr.drew {w w' : World} (h : Gr w w') : Gr w w'.drew := ⟨⟨h.below.os, h.below.tape, h.below.output, h.below.size, h.below.block⟩, Nat.le_succ_of_le h.drawn⟩
theorem Gr.grow {w w' : World} (h : Gr w w') : ∃ q os', w' = Go.Sort.grow (w.drewN q) os' := by
  obtain ⟨⟨h1, h2, h3, h4, h5⟩, h6⟩ := h
  refine ⟨w'.drawn - w.drawn, w'.heap.extract w.heap.size w'.heap.size, ?_⟩
  cases w with | mk a1 a2 a3 a4 a5 =>
  cases w' with | mk b1 b2 b3 b4 b5 =>
  simp only [Go.Sort.grow, World.drewN] at *
  subst h1; subst h2; subst h3
  have e : a3 + (b3 - a3) = b3 := by omega
  rw [e]
  congr 1
  apply Array.ext_getElem?
  intro i
  by_cases hi : i < a1.size
  · rw [h5 i hi, Array.getElem?_append_left hi]
  · rw [Array.getElem?_append_right (by omega), Array.getElem?_extract]
    by_cases hj : i < b1.size
    · rw [if_pos (by omega)]; congr 1; omega
    · rw [if_neg (by omega), Array.getElem?_eq_none (by omega)]

theorem or4a {a b c d : Int} (h : (a != 0) = true) : a = orI [a, b, c, d] := by simp only [bne_iff_ne, ne_eq] at h; simp [orI, h]
theorem or4b {a b c d : Int} (h : (a != 0) = false) (h' : (b != 0) = true) : b = orI [a, b, c, d] := by simp only [bne_iff_ne, ne_eq, bne_eq_false_iff_eq] at h h'; simp [orI, h, h']
theorem or4c {a b c d : Int} (h : (a != 0) = false) (h' : (b != 0) = false) (h'' : (c != 0) = true) : c = orI [a, b, c, d] := by simp only [bne_iff_ne, ne_eq, bne_eq_false_iff_eq] at h h' h''; simp [orI, h, h', h'']
theorem or4d {a b c d : Int} (h : (a != 0) = false) (h' : (b != 0) = false) (h'' : (c != 0) = false) : d = orI [a, b, c, d] := by
  simp only [bne_eq_false_iff_eq] at h h' h''
  subst h; subst h'; subst h''
  by_cases hd : d = 0 <;> simp [orI, hd]

set_option maxHeartbeats 1000000 in
theorem or4_any (a b c d : Int) (g cap : Nat) (w : World) (h0 : w.cell? ⟨g, 0, none⟩ = some (.int .i64 a)) (h1 : w.cell? ⟨g, 1, none⟩ = some (.int .i64 b)) (h2 : w.cell? ⟨g, 2, none⟩ = some (.int .i64 c)) (h3 : w.cell? ⟨g, 3, none⟩ = some (.int .i64 d)) :
    Calls Tryz.prog 40 #[.slice (some ⟨g, 0, none⟩) 4 cap] w fun e w' => e = .returned (.int .i64 (orI [a, b, c, d])) ∧ w' = w := by
  go_enter Tryz.func40, Tryz.ntmps40
  go_wp2
  refine wp_loop_rounds 5 ?_
  rw [rounds_succ]
  go_wp2
  · go_ret
    exact ⟨ret_int (or4a (by assumption)), rfl⟩
  · rw [rounds_succ]
    go_wp2
    · go_ret
      exact ⟨ret_int (or4b (by assumption) (by assumption)), rfl⟩
    · rw [rounds_succ]
      go_wp2
      · go_ret
        exact ⟨ret_int (or4c (by assumption) (by assumption) (by assumption)), rfl⟩
      · rw [rounds_succ]
        go_wp2
        · go_ret
          exact ⟨ret_int (or4d (by assumption) (by assumption) (by assumption)), rfl⟩
        · have hc : (d != 0) = false := by assumption
          rw [rounds_succ]
          go_wp2
          go_ret
          exact ⟨ret_int (by rw [← or4d (a := a) (b := b) (c := c) (by assumption) (by assumption) (by assumption)]; simp only [bne_eq_false_iff_eq] at hc; exact hc.symm), rfl⟩
end Go.Proofs.YtbijadnekoeofaaGreatDoor

namespace Go.Proofs.YtbijadnekoeofaaGreatDoor
open Go.RowKit
attribute [local go_sem ↓] Go.wp_at_zero Go.wp_at_succ

/-- What compare answers. -/
def cmpP (p q : Po) : Int := orI [Lib.compareBytes p.C.data.toList q.C.data.toList, Lib.compareInt p.T q.T, Lib.compareBytes p.A.data.toList q.A.data.toList, Lib.compareBytes p.B.data.toList q.B.data.toList]

theorem two_new (w : World) (o1 o2 : Obj) : ((w.alloc o1).alloc o2).drew.heap[w.heap.size + 1]? = some o2 := by
  have h : w.heap.size + 1 = (w.alloc o1).heap.size := by simp
  rw [h]
  exact heap_alloc_new _ _
theorem one_row (w : World) (t : TypeId) (cs : Array Value) (j : Nat) : (w.alloc (.cells cs t)).drew.cell? ⟨w.heap.size, j, none⟩ = cs[j]? := cell_of_row _ _ _ cs t (0, 0) (heap_alloc_new _ _)

set_option maxHeartbeats 2000000 in
set_option maxRecDepth 100000 in
theorem tcompare_any (p q : Po) (v d v' d' : Int) (w : World) :
    Calls Tryz.prog 16 #[enV p v d, enV q v' d'] w fun e w' => e = .returned (.int .i64 (cmpP p q)) ∧ Gr w w' := by
  unfold enV cmpP
  obtain ⟨w1, hw1⟩ : ∃ w1, w1 = w.alloc (.cells #[.int .i64 p.W, .int .i64 p.H, .string p.C, .int .i64 p.T, .string p.A, .string p.B, .int .i64 v, .int .i64 d] 34 (0, 0)) := ⟨_, rfl⟩
  obtain ⟨w2, hw2⟩ : ∃ w2, w2 = w1.alloc (.cells #[.int .i64 q.W, .int .i64 q.H, .string q.C, .int .i64 q.T, .string q.A, .string q.B, .int .i64 v', .int .i64 d'] 34 (0, 0)) := ⟨_, rfl⟩
  have b2 : Gr w w2 := by rw [hw2, hw1]; exact ((Gr.refl w).alloc _).alloc _
  have s1 : w1.heap.size = w.heap.size + 1 := by rw [hw1]; simp
  have s2 : w2.heap.size = w.heap.size + 1 + 1 := by rw [hw2]; simp [s1]
  have x1 : w2.heap[w.heap.size]? = some (.cells #[.int .i64 p.W, .int .i64 p.H, .string p.C, .int .i64 p.T, .string p.A, .string p.B, .int .i64 v, .int .i64 d] 34 (0, 0)) := by
    rw [hw2, Below.heap_alloc _ _ _ (by omega), hw1]; exact heap_alloc_new w _
  have x2 : w2.heap[w.heap.size + 1]? = some (.cells #[.int .i64 q.W, .int .i64 q.H, .string q.C, .int .i64 q.T, .string q.A, .string q.B, .int .i64 v', .int .i64 d'] 34 (0, 0)) := by
    rw [hw2, ← s1]; exact heap_alloc_new w1 _
  have p0 : w2.cell? ⟨w.heap.size, 0, none⟩ = some (.int .i64 p.W) := by simp [World.cell?, x1]
  have p1 : w2.cell? ⟨w.heap.size, 1, none⟩ = some (.int .i64 p.H) := by simp [World.cell?, x1]
  have p2 : w2.cell? ⟨w.heap.size, 2, none⟩ = some (.string p.C) := by simp [World.cell?, x1]
  have p3 : w2.cell? ⟨w.heap.size, 3, none⟩ = some (.int .i64 p.T) := by simp [World.cell?, x1]
  have p4 : w2.cell? ⟨w.heap.size, 4, none⟩ = some (.string p.A) := by simp [World.cell?, x1]
  have p5 : w2.cell? ⟨w.heap.size, 5, none⟩ = some (.string p.B) := by simp [World.cell?, x1]
  have q0 : w2.cell? ⟨w.heap.size + 1, 0, none⟩ = some (.int .i64 q.W) := by simp [World.cell?, x2]
  have q1 : w2.cell? ⟨w.heap.size + 1, 1, none⟩ = some (.int .i64 q.H) := by simp [World.cell?, x2]
  have q2 : w2.cell? ⟨w.heap.size + 1, 2, none⟩ = some (.string q.C) := by simp [World.cell?, x2]
  have q3 : w2.cell? ⟨w.heap.size + 1, 3, none⟩ = some (.int .i64 q.T) := by simp [World.cell?, x2]
  have q4 : w2.cell? ⟨w.heap.size + 1, 4, none⟩ = some (.string q.A) := by simp [World.cell?, x2]
  have q5 : w2.cell? ⟨w.heap.size + 1, 5, none⟩ = some (.string q.B) := by simp [World.cell?, x2]
  have HW1 := hide hw1
  have HW2 := hide hw2
  have HB2 := hide b2
  have HS2 := hide s2
  have l1 : w.heap.size < w2.heap.size := by omega
  have l2 : w.heap.size + 1 < w2.heap.size := by omega
  clear hw1 hw2 b2 s1 s2 x1 x2
  go_enter Tryz.func16, Tryz.ntmps16
  go_upto_region 1 with fail
  rw [← unhide HW1, ← unhide HW2]
  go_region
  · obtain ⟨w3, hw3⟩ : ∃ w3, w3 = ((w2.alloc (.cells #[.int .i64 p.W, .int .i64 p.H, .string p.C, .int .i64 p.T, .string p.A, .string p.B] 24 (0, 0))).alloc (.cells #[.int .i64 q.W, .int .i64 q.H, .string q.C, .int .i64 q.T, .string q.A, .string q.B] 24 (0, 0))).drew := ⟨_, rfl⟩
    have b3 : Gr w w3 := by rw [hw3]; exact (((unhide HB2).alloc _).alloc _).drew
    have y1 : w3.heap[w2.heap.size]? = some (.cells #[.int .i64 p.W, .int .i64 p.H, .string p.C, .int .i64 p.T, .string p.A, .string p.B] 24 (0, 0)) := by rw [hw3]; exact (Below.heap_alloc _ _ _ (by simp)).trans (heap_alloc_new w2 _)
    have y2 : w3.heap[w2.heap.size + 1]? = some (.cells #[.int .i64 q.W, .int .i64 q.H, .string q.C, .int .i64 q.T, .string q.A, .string q.B] 24 (0, 0)) := by rw [hw3]; exact two_new w2 _ _
    rw [← hw3]
    have pp2 : w3.cell? ⟨w2.heap.size, 2, none⟩ = some (.string p.C) := by simp [World.cell?, y1]
    have pp3 : w3.cell? ⟨w2.heap.size, 3, none⟩ = some (.int .i64 p.T) := by simp [World.cell?, y1]
    have pp4 : w3.cell? ⟨w2.heap.size, 4, none⟩ = some (.string p.A) := by simp [World.cell?, y1]
    have pp5 : w3.cell? ⟨w2.heap.size, 5, none⟩ = some (.string p.B) := by simp [World.cell?, y1]
    have qq2 : w3.cell? ⟨w2.heap.size + 1, 2, none⟩ = some (.string q.C) := by simp [World.cell?, y2]
    have qq3 : w3.cell? ⟨w2.heap.size + 1, 3, none⟩ = some (.int .i64 q.T) := by simp [World.cell?, y2]
    have qq4 : w3.cell? ⟨w2.heap.size + 1, 4, none⟩ = some (.string q.A) := by simp [World.cell?, y2]
    have qq5 : w3.cell? ⟨w2.heap.size + 1, 5, none⟩ = some (.string q.B) := by simp [World.cell?, y2]
    have HB3 := hide b3
    clear y1 y2 hw3 b3 p0 p1 p2 p3 p4 p5 q0 q1 q2 q3 q4 q5 HW1 HW2 HB2 HS2
    go_upto_region 2 with fail
    go_region_held3 (fun u => u.cell? ⟨w2.heap.size, 2, none⟩ = some (.string p.C) ∧ u.cell? ⟨w2.heap.size, 3, none⟩ = some (.int .i64 p.T) ∧ u.cell? ⟨w2.heap.size, 4, none⟩ = some (.string p.A) ∧ u.cell? ⟨w2.heap.size, 5, none⟩ = some (.string p.B) ∧ u.cell? ⟨w2.heap.size + 1, 2, none⟩ = some (.string q.C) ∧ u.cell? ⟨w2.heap.size + 1, 3, none⟩ = some (.int .i64 q.T) ∧ u.cell? ⟨w2.heap.size + 1, 4, none⟩ = some (.string q.A) ∧ u.cell? ⟨w2.heap.size + 1, 5, none⟩ = some (.string q.B))
      (go_keep)
      (first
        | (go_at_call 42; refine (Tryz.cmp_Compare_int _ _ _).mono ?_; rintro e w' ⟨rfl, rfl⟩)
        | (go_at_call 41; refine (Tryz.strings_Compare _ _ _).mono ?_; rintro e w' ⟨rfl, rfl⟩)
        | (go_at_call 40; refine (or4_any (Lib.compareBytes p.C.data.toList q.C.data.toList) (Lib.compareInt p.T q.T) (Lib.compareBytes p.A.data.toList q.A.data.toList) (Lib.compareBytes p.B.data.toList q.B.data.toList) _ _ _ ?_ ?_ ?_ ?_).mono ?_; (exact one_row _ _ _ 0); (exact one_row _ _ _ 1); (exact one_row _ _ _ 2); (exact one_row _ _ _ 3); rintro e w' ⟨rfl, rfl⟩))
    go_wp2
    go_ret
    exact ⟨rfl, ((unhide HB3).alloc _).drew⟩
  · obtain ⟨w3, hw3⟩ : ∃ w3, w3 = ((w2.alloc (.cells #[.int .i64 q.W, .int .i64 q.H, .string q.C, .int .i64 q.T, .string q.A, .string q.B] 24 (0, 0))).alloc (.cells #[.int .i64 p.W, .int .i64 p.H, .string p.C, .int .i64 p.T, .string p.A, .string p.B] 24 (0, 0))).drew := ⟨_, rfl⟩
    have b3 : Gr w w3 := by rw [hw3]; exact (((unhide HB2).alloc _).alloc _).drew
    have y1 : w3.heap[w2.heap.size]? = some (.cells #[.int .i64 q.W, .int .i64 q.H, .string q.C, .int .i64 q.T, .string q.A, .string q.B] 24 (0, 0)) := by rw [hw3]; exact (Below.heap_alloc _ _ _ (by simp)).trans (heap_alloc_new w2 _)
    have y2 : w3.heap[w2.heap.size + 1]? = some (.cells #[.int .i64 p.W, .int .i64 p.H, .string p.C, .int .i64 p.T, .string p.A, .string p.B] 24 (0, 0)) := by rw [hw3]; exact two_new w2 _ _
    rw [← hw3]
    have pp2 : w3.cell? ⟨w2.heap.size + 1, 2, none⟩ = some (.string p.C) := by simp [World.cell?, y2]
    have pp3 : w3.cell? ⟨w2.heap.size + 1, 3, none⟩ = some (.int .i64 p.T) := by simp [World.cell?, y2]
    have pp4 : w3.cell? ⟨w2.heap.size + 1, 4, none⟩ = some (.string p.A) := by simp [World.cell?, y2]
    have pp5 : w3.cell? ⟨w2.heap.size + 1, 5, none⟩ = some (.string p.B) := by simp [World.cell?, y2]
    have qq2 : w3.cell? ⟨w2.heap.size, 2, none⟩ = some (.string q.C) := by simp [World.cell?, y1]
    have qq3 : w3.cell? ⟨w2.heap.size, 3, none⟩ = some (.int .i64 q.T) := by simp [World.cell?, y1]
    have qq4 : w3.cell? ⟨w2.heap.size, 4, none⟩ = some (.string q.A) := by simp [World.cell?, y1]
    have qq5 : w3.cell? ⟨w2.heap.size, 5, none⟩ = some (.string q.B) := by simp [World.cell?, y1]
    have HB3 := hide b3
    clear y1 y2 hw3 b3 p0 p1 p2 p3 p4 p5 q0 q1 q2 q3 q4 q5 HW1 HW2 HB2 HS2
    go_upto_region 2 with fail
    go_region_held3 (fun u => u.cell? ⟨w2.heap.size + 1, 2, none⟩ = some (.string p.C) ∧ u.cell? ⟨w2.heap.size + 1, 3, none⟩ = some (.int .i64 p.T) ∧ u.cell? ⟨w2.heap.size + 1, 4, none⟩ = some (.string p.A) ∧ u.cell? ⟨w2.heap.size + 1, 5, none⟩ = some (.string p.B) ∧ u.cell? ⟨w2.heap.size, 2, none⟩ = some (.string q.C) ∧ u.cell? ⟨w2.heap.size, 3, none⟩ = some (.int .i64 q.T) ∧ u.cell? ⟨w2.heap.size, 4, none⟩ = some (.string q.A) ∧ u.cell? ⟨w2.heap.size, 5, none⟩ = some (.string q.B))
      (go_keep)
      (first
        | (go_at_call 42; refine (Tryz.cmp_Compare_int _ _ _).mono ?_; rintro e w' ⟨rfl, rfl⟩)
        | (go_at_call 41; refine (Tryz.strings_Compare _ _ _).mono ?_; rintro e w' ⟨rfl, rfl⟩)
        | (go_at_call 40; refine (or4_any (Lib.compareBytes p.C.data.toList q.C.data.toList) (Lib.compareInt p.T q.T) (Lib.compareBytes p.A.data.toList q.A.data.toList) (Lib.compareBytes p.B.data.toList q.B.data.toList) _ _ _ ?_ ?_ ?_ ?_).mono ?_; (exact one_row _ _ _ 0); (exact one_row _ _ _ 1); (exact one_row _ _ _ 2); (exact one_row _ _ _ 3); rintro e w' ⟨rfl, rfl⟩))
    go_wp2
    go_ret
    exact ⟨rfl, ((unhide HB3).alloc _).drew⟩
end Go.Proofs.YtbijadnekoeofaaGreatDoor
