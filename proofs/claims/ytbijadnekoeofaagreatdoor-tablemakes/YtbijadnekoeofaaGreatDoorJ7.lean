/-
  package table, walked: compare.
  Orders by a number below, at or above 0: bytes, ints, one behind another (plain mathematics).
  DERIVED: THE SHELF's CONTRACTS AT THIS DUMP, IN PLAIN WORDS (tools/lay-plain.mjs out of 'YtbijadnekoeofaaGreatDoorShelfS.lean', which tools/lay-shelf.mjs wrote): THE SAME DECLARATIONS UNDER THE SAME NAMES: 'import', 'namespace', 'open', 'def', 'theorem' AND NOTHING ELSE: no command of the shelf's: FOR A HAND-IN. Each laying: the table of numbers ('.._ren') and one theorem, a field a fact of the dump's own or the kernel's comparison; each contract: ONE APPLICATION.
  slices.SortFunc at entries, by table.compare.
  A row of positions in memory, filled one by one (for moves.Next).
-/
import Derived.Test.YtbijadnekoeofaaGreatDoorJ6
import Derived.Deep.RegionHeld3
import Derived.Shelf.SlSortCmp.WholeK
import Derived.Shelf.SlGeneric
import Derived.Ground.SlsfProg
import Derived.Test.YtbijadnekoeofaaGreatDoorProg
import Derived.Test.YtbijadnekoeofaaGreatDoorJ0
namespace Go.Proofs.YtbijadnekoeofaaGreatDoor
open Go.RowKit
attribute [local go_sem ↓] Go.wp_at_zero Go.wp_at_succ

/-- What compare answers. -/
def cmpP (p q : Po) : Int := orI [Lib.compareBytes p.C.data.toList q.C.data.toList, Lib.compareInt p.T q.T, Lib.compareBytes p.A.data.toList q.A.data.toList, Lib.compareBytes p.B.data.toList q.B.data.toList]

theorem two_new (w : World) (o1 o2 : Obj) : ((w.alloc o1).alloc o2).drew.heap[w.heap.size + 1]? = some o2 := by
  have h : w.heap.size + 1 = (w.alloc o1).heap.size := by simp
  rw [h]
  exact heap_alloc_new _ _
theorem one_row (w : World) (t : TypeId) (cs : Array Value) (j : Nat) : (w.alloc (.cells cs t)).drew.cell? ⟨w.heap.size, j, none⟩ = cs[j]? := cell_of_row _ _ _ cs t (0, 0) (heap_alloc_new _ _)

set_option maxHeartbeats 2000000 in
set_option maxRecDepth 100000 in
theorem tcompare_any (p q : Po) (v d v' d' : Int) (w : World) :
    Calls Tryz.prog 16 #[enV p v d, enV q v' d'] w fun e w' => e = .returned (.int .i64 (cmpP p q)) ∧ Gr w w' := by
  unfold enV cmpP
  obtain ⟨w1, hw1⟩ : ∃ w1, w1 = w.alloc (.cells #[.int .i64 p.W, .int .i64 p.H, .string p.C, .int .i64 p.T, .string p.A, .string p.B, .int .i64 v, .int .i64 d] 34 (0, 0)) := ⟨_, rfl⟩
  obtain ⟨w2, hw2⟩ : ∃ w2, w2 = w1.alloc (.cells #[.int .i64 q.W, .int .i64 q.H, .string q.C, .int .i64 q.T, .string q.A, .string q.B, .int .i64 v', .int .i64 d'] 34 (0, 0)) := ⟨_, rfl⟩
  have b2 : Gr w w2 := by rw [hw2, hw1]; exact ((Gr.refl w).alloc _).alloc _
  have s1 : w1.heap.size = w.heap.size + 1 := by rw [hw1]; simp
  have s2 : w2.heap.size = w.heap.size + 1 + 1 := by rw [hw2]; simp [s1]
  have x1 : w2.heap[w.heap.size]? = some (.cells #[.int .i64 p.W, .int .i64 p.H, .string p.C, .int .i64 p.T, .string p.A, .string p.B, .int .i64 v, .int .i64 d] 34 (0, 0)) := by
    rw [hw2, Below.heap_alloc _ _ _ (by omega), hw1]; exact heap_alloc_new w _
  have x2 : w2.heap[w.heap.size + 1]? = some (.cells #[.int .i64 q.W, .int .i64 q.H, .string q.C, .int .i64 q.T, .string q.A, .string q.B, .int .i64 v', .int .i64 d'] 34 (0, 0)) := by
    rw [hw2, ← s1]; exact heap_alloc_new w1 _
  have p0 : w2.cell? ⟨w.heap.size, 0, none⟩ = some (.int .i64 p.W) := by simp [World.cell?, x1]
  have p1 : w2.cell? ⟨w.heap.size, 1, none⟩ = some (.int .i64 p.H) := by simp [World.cell?, x1]
  have p2 : w2.cell? ⟨w.heap.size, 2, none⟩ = some (.string p.C) := by simp [World.cell?, x1]
  have p3 : w2.cell? ⟨w.heap.size, 3, none⟩ = some (.int .i64 p.T) := by simp [World.cell?, x1]
  have p4 : w2.cell? ⟨w.heap.size, 4, none⟩ = some (.string p.A) := by simp [World.cell?, x1]
  have p5 : w2.cell? ⟨w.heap.size, 5, none⟩ = some (.string p.B) := by simp [World.cell?, x1]
  have q0 : w2.cell? ⟨w.heap.size + 1, 0, none⟩ = some (.int .i64 q.W) := by simp [World.cell?, x2]
  have q1 : w2.cell? ⟨w.heap.size + 1, 1, none⟩ = some (.int .i64 q.H) := by simp [World.cell?, x2]
  have q2 : w2.cell? ⟨w.heap.size + 1, 2, none⟩ = some (.string q.C) := by simp [World.cell?, x2]
  have q3 : w2.cell? ⟨w.heap.size + 1, 3, none⟩ = some (.int .i64 q.T) := by simp [World.cell?, x2]
  have q4 : w2.cell? ⟨w.heap.size + 1, 4, none⟩ = some (.string q.A) := by simp [World.cell?, x2]
  have q5 : w2.cell? ⟨w.heap.size + 1, 5, none⟩ = some (.string q.B) := by simp [World.cell?, x2]
  have HW1 := hide hw1
  have HW2 := hide hw2
  have HB2 := hide b2
  have HS2 := hide s2
  have l1 : w.heap.size < w2.heap.size := by omega
  have l2 : w.heap.size + 1 < w2.heap.size := by omega
  clear hw1 hw2 b2 s1 s2 x1 x2
  go_enter Tryz.func16, Tryz.ntmps16
  go_upto_region 1 with fail
  rw [← unhide HW1, ← unhide HW2]
  go_region
  · obtain ⟨w3, hw3⟩ : ∃ w3, w3 = ((w2.alloc (.cells #[.int .i64 p.W, .int .i64 p.H, .string p.C, .int .i64 p.T, .string p.A, .string p.B] 24 (0, 0))).alloc (.cells #[.int .i64 q.W, .int .i64 q.H, .string q.C, .int .i64 q.T, .string q.A, .string q.B] 24 (0, 0))).drew := ⟨_, rfl⟩
    have b3 : Gr w w3 := by rw [hw3]; exact (((unhide HB2).alloc _).alloc _).drew
    have y1 : w3.heap[w2.heap.size]? = some (.cells #[.int .i64 p.W, .int .i64 p.H, .string p.C, .int .i64 p.T, .string p.A, .string p.B] 24 (0, 0)) := by rw [hw3]; exact (Below.heap_alloc _ _ _ (by simp)).trans (heap_alloc_new w2 _)
    have y2 : w3.heap[w2.heap.size + 1]? = some (.cells #[.int .i64 q.W, .int .i64 q.H, .string q.C, .int .i64 q.T, .string q.A, .string q.B] 24 (0, 0)) := by rw [hw3]; exact two_new w2 _ _
    rw [← hw3]
    have pp2 : w3.cell? ⟨w2.heap.size, 2, none⟩ = some (.string p.C) := by simp [World.cell?, y1]
    have pp3 : w3.cell? ⟨w2.heap.size, 3, none⟩ = some (.int .i64 p.T) := by simp [World.cell?, y1]
    have pp4 : w3.cell? ⟨w2.heap.size, 4, none⟩ = some (.string p.A) := by simp [World.cell?, y1]
    have pp5 : w3.cell? ⟨w2.heap.size, 5, none⟩ = some (.string p.B) := by simp [World.cell?, y1]
    have qq2 : w3.cell? ⟨w2.heap.size + 1, 2, none⟩ = some (.string q.C) := by simp [World.cell?, y2]
    have qq3 : w3.cell? ⟨w2.heap.size + 1, 3, none⟩ = some (.int .i64 q.T) := by simp [World.cell?, y2]
    have qq4 : w3.cell? ⟨w2.heap.size + 1, 4, none⟩ = some (.string q.A) := by simp [World.cell?, y2]
    have qq5 : w3.cell? ⟨w2.heap.size + 1, 5, none⟩ = some (.string q.B) := by simp [World.cell?, y2]
    have HB3 := hide b3
    clear y1 y2 hw3 b3 p0 p1 p2 p3 p4 p5 q0 q1 q2 q3 q4 q5 HW1 HW2 HB2 HS2
    go_upto_region 2 with fail
    go_region_held3 (fun u => u.cell? ⟨w2.heap.size, 2, none⟩ = some (.string p.C) ∧ u.cell? ⟨w2.heap.size, 3, none⟩ = some (.int .i64 p.T) ∧ u.cell? ⟨w2.heap.size, 4, none⟩ = some (.string p.A) ∧ u.cell? ⟨w2.heap.size, 5, none⟩ = some (.string p.B) ∧ u.cell? ⟨w2.heap.size + 1, 2, none⟩ = some (.string q.C) ∧ u.cell? ⟨w2.heap.size + 1, 3, none⟩ = some (.int .i64 q.T) ∧ u.cell? ⟨w2.heap.size + 1, 4, none⟩ = some (.string q.A) ∧ u.cell? ⟨w2.heap.size + 1, 5, none⟩ = some (.string q.B))
      (go_keep)
      (first
        | (go_at_call 42; refine (Tryz.cmp_Compare_int _ _ _).mono ?_; rintro e w' ⟨rfl, rfl⟩)
        | (go_at_call 41; refine (Tryz.strings_Compare _ _ _).mono ?_; rintro e w' ⟨rfl, rfl⟩)
        | (go_at_call 40; refine (or4_any (Lib.compareBytes p.C.data.toList q.C.data.toList) (Lib.compareInt p.T q.T) (Lib.compareBytes p.A.data.toList q.A.data.toList) (Lib.compareBytes p.B.data.toList q.B.data.toList) _ _ _ ?_ ?_ ?_ ?_).mono ?_; (exact one_row _ _ _ 0); (exact one_row _ _ _ 1); (exact one_row _ _ _ 2); (exact one_row _ _ _ 3); rintro e w' ⟨rfl, rfl⟩))
    go_wp2
    go_ret
    exact ⟨rfl, ((unhide HB3).alloc _).drew⟩
  · obtain ⟨w3, hw3⟩ : ∃ w3, w3 = ((w2.alloc (.cells #[.int .i64 q.W, .int .i64 q.H, .string q.C, .int .i64 q.T, .string q.A, .string q.B] 24 (0, 0))).alloc (.cells #[.int .i64 p.W, .int .i64 p.H, .string p.C, .int .i64 p.T, .string p.A, .string p.B] 24 (0, 0))).drew := ⟨_, rfl⟩
    have b3 : Gr w w3 := by rw [hw3]; exact (((unhide HB2).alloc _).alloc _).drew
    have y1 : w3.heap[w2.heap.size]? = some (.cells #[.int .i64 q.W, .int .i64 q.H, .string q.C, .int .i64 q.T, .string q.A, .string q.B] 24 (0, 0)) := by rw [hw3]; exact (Below.heap_alloc _ _ _ (by simp)).trans (heap_alloc_new w2 _)
    have y2 : w3.heap[w2.heap.size + 1]? = some (.cells #[.int .i64 p.W, .int .i64 p.H, .string p.C, .int .i64 p.T, .string p.A, .string p.B] 24 (0, 0)) := by rw [hw3]; exact two_new w2 _ _
    rw [← hw3]
    have pp2 : w3.cell? ⟨w2.heap.size + 1, 2, none⟩ = some (.string p.C) := by simp [World.cell?, y2]
    have pp3 : w3.cell? ⟨w2.heap.size + 1, 3, none⟩ = some (.int .i64 p.T) := by simp [World.cell?, y2]
    have pp4 : w3.cell? ⟨w2.heap.size + 1, 4, none⟩ = some (.string p.A) := by simp [World.cell?, y2]
    have pp5 : w3.cell? ⟨w2.heap.size + 1, 5, none⟩ = some (.string p.B) := by simp [World.cell?, y2]
    have qq2 : w3.cell? ⟨w2.heap.size, 2, none⟩ = some (.string q.C) := by simp [World.cell?, y1]
    have qq3 : w3.cell? ⟨w2.heap.size, 3, none⟩ = some (.int .i64 q.T) := by simp [World.cell?, y1]
    have qq4 : w3.cell? ⟨w2.heap.size, 4, none⟩ = some (.string q.A) := by simp [World.cell?, y1]
    have qq5 : w3.cell? ⟨w2.heap.size, 5, none⟩ = some (.string q.B) := by simp [World.cell?, y1]
    have HB3 := hide b3
    clear y1 y2 hw3 b3 p0 p1 p2 p3 p4 p5 q0 q1 q2 q3 q4 q5 HW1 HW2 HB2 HS2
    go_upto_region 2 with fail
    go_region_held3 (fun u => u.cell? ⟨w2.heap.size + 1, 2, none⟩ = some (.string p.C) ∧ u.cell? ⟨w2.heap.size + 1, 3, none⟩ = some (.int .i64 p.T) ∧ u.cell? ⟨w2.heap.size + 1, 4, none⟩ = some (.string p.A) ∧ u.cell? ⟨w2.heap.size + 1, 5, none⟩ = some (.string p.B) ∧ u.cell? ⟨w2.heap.size, 2, none⟩ = some (.string q.C) ∧ u.cell? ⟨w2.heap.size, 3, none⟩ = some (.int .i64 q.T) ∧ u.cell? ⟨w2.heap.size, 4, none⟩ = some (.string q.A) ∧ u.cell? ⟨w2.heap.size, 5, none⟩ = some (.string q.B))
      (go_keep)
      (first
        | (go_at_call 42; refine (Tryz.cmp_Compare_int _ _ _).mono ?_; rintro e w' ⟨rfl, rfl⟩)
        | (go_at_call 41; refine (Tryz.strings_Compare _ _ _).mono ?_; rintro e w' ⟨rfl, rfl⟩)
        | (go_at_call 40; refine (or4_any (Lib.compareBytes p.C.data.toList q.C.data.toList) (Lib.compareInt p.T q.T) (Lib.compareBytes p.A.data.toList q.A.data.toList) (Lib.compareBytes p.B.data.toList q.B.data.toList) _ _ _ ?_ ?_ ?_ ?_).mono ?_; (exact one_row _ _ _ 0); (exact one_row _ _ _ 1); (exact one_row _ _ _ 2); (exact one_row _ _ _ 3); rintro e w' ⟨rfl, rfl⟩))
    go_wp2
    go_ret
    exact ⟨rfl, ((unhide HB3).alloc _).drew⟩
end Go.Proofs.YtbijadnekoeofaaGreatDoor

namespace Go.Proofs.YtbijadnekoeofaaGreatDoor
open Go.Sort

/-- c tells which of two comes first, and 0 only of one and the same. -/
structure TO {α : Type} (c : α → α → Int) : Prop where
  same : ∀ x, c x x = 0
  one : ∀ x y, c x y = 0 → x = y
  anti : ∀ x y, c x y < 0 → 0 < c y x
  back : ∀ x y, 0 < c x y → c y x < 0
  trans : ∀ x y z, c x y < 0 → c y z < 0 → c x z < 0

theorem TO.int : TO Lib.compareInt where
  same x := by unfold Lib.compareInt; simp
  one x y h := by unfold Lib.compareInt at h; repeat' split at h <;> omega
  anti x y h := by unfold Lib.compareInt at *; (repeat' split at h) <;> (repeat' split) <;> omega
  back x y h := by unfold Lib.compareInt at *; (repeat' split at h) <;> (repeat' split) <;> omega
  trans x y z h k := by unfold Lib.compareInt at *; (repeat' split at h) <;> (repeat' split at k) <;> (repeat' split) <;> omega

theorem cb_same : ∀ x : List UInt8, Lib.compareBytes x x = 0
  | [] => rfl
  | a :: l => by
    have h : ¬ a < a := by rw [UInt8.lt_iff_toNat_lt]; omega
    simp only [Lib.compareBytes, h, if_false, cb_same l]
theorem cb_one : ∀ x y : List UInt8, Lib.compareBytes x y = 0 → x = y
  | [], [], _ => rfl
  | [], _ :: _, h => by simp [Lib.compareBytes] at h
  | _ :: _, [], h => by simp [Lib.compareBytes] at h
  | a :: l, b :: k, h => by
    simp only [Lib.compareBytes] at h
    by_cases h1 : a < b
    · rw [if_pos h1] at h; omega
    · rw [if_neg h1] at h
      by_cases h2 : b < a
      · rw [if_pos h2] at h; omega
      · rw [if_neg h2] at h
        rw [UInt8.lt_iff_toNat_lt] at h1 h2
        rw [cb_one l k h, UInt8.toNat_inj.1 (show a.toNat = b.toNat by omega)]
theorem cb_neg : ∀ x y : List UInt8, Lib.compareBytes y x = - Lib.compareBytes x y
  | [], [] => rfl
  | [], _ :: _ => rfl
  | _ :: _, [] => rfl
  | a :: l, b :: k => by
    simp only [Lib.compareBytes]
    by_cases h1 : a < b
    · have h2 : ¬ b < a := by rw [UInt8.lt_iff_toNat_lt] at *; omega
      rw [if_pos h1, if_neg h2, if_pos h1]; rfl
    · rw [if_neg h1]
      by_cases h2 : b < a
      · simp only [h1, h2, if_true, if_false]
      · simp only [h1, h2, if_false]; exact cb_neg l k
theorem cb_trans : ∀ x y z : List UInt8, Lib.compareBytes x y < 0 → Lib.compareBytes y z < 0 → Lib.compareBytes x z < 0
  | [], [], _, h, _ => by simp [Lib.compareBytes] at h
  | [], _ :: _, [], _, k => by simp [Lib.compareBytes] at k
  | [], _ :: _, _ :: _, _, _ => by simp [Lib.compareBytes]
  | _ :: _, [], _, h, _ => by simp [Lib.compareBytes] at h
  | _ :: _, _ :: _, [], _, k => by simp [Lib.compareBytes] at k
  | a :: l, b :: m, c :: n, h, k => by
    simp only [Lib.compareBytes] at h k ⊢
    by_cases h1 : a < b
    · by_cases k1 : b < c
      · rw [if_pos (by rw [UInt8.lt_iff_toNat_lt] at *; omega)]; omega
      · rw [if_neg k1] at k
        by_cases k2 : c < b
        · rw [if_pos k2] at k; omega
        · rw [if_pos (by rw [UInt8.lt_iff_toNat_lt] at *; omega)]; omega
    · rw [if_neg h1] at h
      by_cases h2 : b < a
      · rw [if_pos h2] at h; omega
      · rw [if_neg h2] at h
        by_cases k1 : b < c
        · rw [if_pos (by rw [UInt8.lt_iff_toNat_lt] at *; omega)]; omega
        · rw [if_neg k1] at k
          by_cases k2 : c < b
          · rw [if_pos k2] at k; omega
          · rw [if_neg k2] at k
            rw [if_neg (by rw [UInt8.lt_iff_toNat_lt] at *; omega), if_neg (by rw [UInt8.lt_iff_toNat_lt] at *; omega)]
            exact cb_trans l m n h k

theorem TO.bytes : TO Lib.compareBytes where
  same := cb_same
  one := cb_one
  anti x y h := by rw [cb_neg x y]; omega
  back x y h := by rw [cb_neg x y]; omega
  trans := cb_trans

theorem TO.lex {α β : Type} {c : α → α → Int} {d : β → β → Int} (hc : TO c) (hd : TO d) : TO (fun x y : α × β => if c x.1 y.1 = 0 then d x.2 y.2 else c x.1 y.1) where
  same x := by simp only [hc.same, if_true, hd.same]
  one x y h := by
    by_cases h1 : c x.1 y.1 = 0
    · simp only [h1, if_true] at h; exact Prod.ext (hc.one _ _ h1) (hd.one _ _ h)
    · simp only [h1, if_false] at h
  anti x y h := by
    by_cases h1 : c x.1 y.1 = 0
    · simp only [h1, if_true] at h
      have e := hc.one _ _ h1
      simp only [e, hc.same, if_true]; exact hd.anti _ _ h
    · simp only [h1, if_false] at h
      have := hc.anti _ _ h
      simp only [show c y.1 x.1 ≠ 0 by omega, if_false]; exact this
  back x y h := by
    by_cases h1 : c x.1 y.1 = 0
    · simp only [h1, if_true] at h
      have e := hc.one _ _ h1
      simp only [e, hc.same, if_true]; exact hd.back _ _ h
    · simp only [h1, if_false] at h
      have := hc.back _ _ h
      simp only [show c y.1 x.1 ≠ 0 by omega, if_false]; exact this
  trans x y z h k := by
    by_cases h1 : c x.1 y.1 = 0
    · simp only [h1, if_true] at h
      rw [hc.one _ _ h1]
      by_cases k1 : c y.1 z.1 = 0
      · simp only [k1, if_true] at k ⊢; exact hd.trans _ _ _ h k
      · simp only [k1, if_false] at k ⊢; exact k
    · simp only [h1, if_false] at h
      by_cases k1 : c y.1 z.1 = 0
      · rw [← hc.one _ _ k1]; simp only [h1, if_false]; exact h
      · simp only [k1, if_false] at k
        have := hc.trans _ _ _ h k
        simp only [show c x.1 z.1 ≠ 0 by omega, if_false]; exact this

theorem TO.swo {α β : Type} {c : β → β → Int} (hc : TO c) (f : α → β) : SWO (ltOf fun x y => c (f x) (f y)) where
  irrefl x := by simp [ltOf, hc.same]
  trans x y z h k := by simp only [ltOf, decide_eq_true_eq] at *; exact hc.trans _ _ _ h k
  ntrans x y z h k := by
    simp only [ltOf, decide_eq_false_iff_not] at *
    intro hz
    by_cases h0 : c (f x) (f y) = 0
    · rw [hc.one _ _ h0] at hz; exact k hz
    · have h1 := hc.back _ _ (show 0 < c (f x) (f y) by omega)
      exact k (hc.trans _ _ _ h1 hz)

/-- What compare looks at. -/
def keyP (p : Po) : List UInt8 × Int × List UInt8 × List UInt8 := (p.C.data.toList, p.T, p.A.data.toList, p.B.data.toList)
def cmpK : (List UInt8 × Int × List UInt8 × List UInt8) → (List UInt8 × Int × List UInt8 × List UInt8) → Int :=
  fun x y => if Lib.compareBytes x.1 y.1 = 0 then (fun x y : Int × List UInt8 × List UInt8 => if Lib.compareInt x.1 y.1 = 0 then (fun x y : List UInt8 × List UInt8 => if Lib.compareBytes x.1 y.1 = 0 then Lib.compareBytes x.2 y.2 else Lib.compareBytes x.1 y.1) x.2 y.2 else Lib.compareInt x.1 y.1) x.2 y.2 else Lib.compareBytes x.1 y.1
theorem cmpK_TO : TO cmpK := TO.lex TO.bytes (TO.lex TO.int (TO.lex TO.bytes TO.bytes))
theorem cmpP_K (p q : Po) : cmpP p q = cmpK (keyP p) (keyP q) := by
  simp only [cmpP, cmpK, keyP, orI]
  by_cases h1 : Lib.compareBytes p.C.data.toList q.C.data.toList = 0 <;> simp only [h1, if_true, if_false]
  by_cases h2 : Lib.compareInt p.T q.T = 0 <;> simp only [h2, if_true, if_false]
  by_cases h3 : Lib.compareBytes p.A.data.toList q.A.data.toList = 0 <;> simp only [h3, if_true, if_false]
  by_cases h4 : Lib.compareBytes p.B.data.toList q.B.data.toList = 0 <;> simp only [h4, if_true, if_false]
end Go.Proofs.YtbijadnekoeofaaGreatDoor

namespace Go.Proofs
open Go.Shelf
def Tryz.sortEn_ren : Go.Shelf.Ren := ⟨fun | 6 => 15 | 15 => 39 | 14 => 38 | 28 => 81 | 29 => 82 | 20 => 73 | 21 => 74 | 22 => 75 | 23 => 76 | 24 => 77 | 25 => 78 | 26 => 79 | 27 => 80 | 46 => 109 | 47 => 110 | 48 => 111 | 49 => 112 | 50 => 113 | 57 => 131 | n => n, fun | 22 => 28 | 24 => 34 | 25 => 56 | 3 => 3 | 39 => 84 | 0 => 0 | 53 => 69 | 55 => 130 | 4 => 4 | 46 => 123 | 45 => 122 | 50 => 80 | 5 => 5 | 9 => 9 | 66 => 148 | 70 => 152 | 76 => 175 | 77 => 176 | n => n, fun | n => n⟩
theorem Tryz.sortEn : Go.Proofs.SlLaysF0.n6 Tryz.prog Tryz.sortEn_ren := {
  mixed := by kernel_rfl
  f6 := ⟨Tryz.f15.name, by decide, Tryz.func15.trans (congrArg some (by kernel_rfl))⟩
  f14 := ⟨Tryz.f38.name, by decide, Tryz.func38.trans (congrArg some (by kernel_rfl))⟩
  f15 := Tryz.func39.trans (congrArg some (by kernel_rfl))
  f20 := ⟨Tryz.f73.name, by decide, Tryz.func73.trans (congrArg some (by kernel_rfl))⟩
  f21 := ⟨Tryz.f74.name, by decide, Tryz.func74.trans (congrArg some (by kernel_rfl))⟩
  f22 := ⟨Tryz.f75.name, by decide, Tryz.func75.trans (congrArg some (by kernel_rfl))⟩
  f23 := ⟨Tryz.f76.name, by decide, Tryz.func76.trans (congrArg some (by kernel_rfl))⟩
  f24 := ⟨Tryz.f77.name, by decide, Tryz.func77.trans (congrArg some (by kernel_rfl))⟩
  f25 := ⟨Tryz.f78.name, by decide, Tryz.func78.trans (congrArg some (by kernel_rfl))⟩
  f26 := ⟨Tryz.f79.name, by decide, Tryz.func79.trans (congrArg some (by kernel_rfl))⟩
  f27 := ⟨Tryz.f80.name, by decide, Tryz.func80.trans (congrArg some (by kernel_rfl))⟩
  f28 := Tryz.func81.trans (congrArg some (by kernel_rfl))
  f29 := Tryz.func82.trans (congrArg some (by kernel_rfl))
  f46 := ⟨Tryz.f109.name, by decide, Tryz.func109.trans (congrArg some (by kernel_rfl))⟩
  f47 := Tryz.func110.trans (congrArg some (by kernel_rfl))
  f48 := Tryz.func111.trans (congrArg some (by kernel_rfl))
  f49 := ⟨Tryz.f112.name, by decide, Tryz.func112.trans (congrArg some (by kernel_rfl))⟩
  f50 := ⟨Tryz.f113.name, by decide, Tryz.func113.trans (congrArg some (by kernel_rfl))⟩
  f57 := ⟨Tryz.f131.name, by decide, Tryz.func131.trans (congrArg some (by kernel_rfl))⟩
  t0 := Tryz.underlying0
  a0 := Tryz.isAgg0
  z0 := Tryz.sizeOf0
  v0 := Tryz.zeroValue0
  t3 := Tryz.underlying3
  a3 := Tryz.isAgg3
  z3 := Tryz.sizeOf3
  v3 := Tryz.zeroValue3
  t4 := Tryz.underlying4
  a4 := Tryz.isAgg4
  z4 := Tryz.sizeOf4
  v4 := Tryz.zeroValue4
  t5 := Tryz.underlying5
  a5 := Tryz.isAgg5
  z5 := Tryz.sizeOf5
  v5 := Tryz.zeroValue5
  t9 := Tryz.underlying9
  a9 := Tryz.isAgg9
  z9 := Tryz.sizeOf9
  v9 := Tryz.zeroValue9
  t22 := Tryz.underlying28
  a22 := Tryz.isAgg28
  z22 := Tryz.sizeOf28
  v22 := Tryz.zeroValue28
  t25 := Tryz.underlying56
  a25 := Tryz.isAgg56
  z25 := Tryz.sizeOf56
  v25 := Tryz.zeroValue56
  t39 := Tryz.underlying84
  a39 := Tryz.isAgg84
  z39 := Tryz.sizeOf84
  v39 := Tryz.zeroValue84
  t45 := Tryz.underlying122
  a45 := Tryz.isAgg122
  z45 := Tryz.sizeOf122
  v45 := Tryz.zeroValue122
  t46 := Tryz.underlying123
  a46 := Tryz.isAgg123
  z46 := Tryz.sizeOf123
  v46 := Tryz.zeroValue123
  t50 := Tryz.underlying80
  a50 := Tryz.isAgg80
  z50 := Tryz.sizeOf80
  v50 := Tryz.zeroValue80
  t53 := Tryz.underlying69
  a53 := Tryz.isAgg69
  z53 := Tryz.sizeOf69
  v53 := Tryz.zeroValue69
  t55 := Tryz.underlying130
  a55 := Tryz.isAgg130
  z55 := Tryz.sizeOf130
  v55 := Tryz.zeroValue130
  t66 := Tryz.underlying148
  a66 := Tryz.isAgg148
  z66 := Tryz.sizeOf148
  v66 := Tryz.zeroValue148
  t70 := Tryz.underlying152
  a70 := Tryz.isAgg152
  z70 := Tryz.sizeOf152
  v70 := Tryz.zeroValue152
  t76 := Tryz.underlying175
  a76 := Tryz.isAgg175
  z76 := Tryz.sizeOf175
  v76 := Tryz.zeroValue175
  t77 := Tryz.underlying176
  a77 := Tryz.isAgg176
  z77 := Tryz.sizeOf176
  v77 := Tryz.zeroValue176 }
end Go.Proofs

namespace Go.Proofs.YtbijadnekoeofaaGreatDoor
open Go.Shelf Go.RowKit Go.Lib Go.Sort

instance : Inhabited Po := ⟨⟨0, 0, ⟨#[]⟩, 0, ⟨#[]⟩, ⟨#[]⟩⟩⟩

/-- An entry's eight cells. -/
def encE (x : Po × Int × Int) : List Value := [.int .i64 x.1.W, .int .i64 x.1.H, .string x.1.C, .int .i64 x.1.T, .string x.1.A, .string x.1.B, .int .i64 x.2.1, .int .i64 x.2.2]

theorem cmpLaysE (blk off size : Nat) (w : World) : CmpLays Tryz.prog 16 #[] encE 8 (fun x y => cmpP x.1 y.1) blk off size w :=
  fun _ _ _ _ x y => (tcompare_any x.1 y.1 x.2.1 x.2.2 y.2.1 y.2.2 _).mono fun _ _ ⟨he, hg⟩ => ⟨he, hg.grow⟩

theorem swoE : SWO (ltOf fun x y : Po × Int × Int => cmpP x.1 y.1) := by
  have h := TO.swo cmpK_TO (fun x : Po × Int × Int => keyP x.1)
  have e : (fun x y : Po × Int × Int => cmpP x.1 y.1) = fun x y : Po × Int × Int => cmpK (keyP x.1) (keyP y.1) := by funext x y; exact cmpP_K _ _
  rw [e]
  exact h

theorem sortE (blk off cap : Nat) (d : Array (Po × Int × Int)) (w : World) (hH : HoldsK encE 8 w blk off d) (hblk : blk < w.heap.size) (hsz : d.size < 4611686018427387904) :
    Calls Tryz.prog 15 #[.slice (some ⟨blk, off, none⟩) d.size cap, .func (.func 16) #[] #[]] w fun e w' =>
      e = .returned (.tuple #[]) ∧ ∃ d' n os, PermIn 0 d.size d d' ∧ SortedIn (ltOf fun x y : Po × Int × Int => cmpP x.1 y.1) 0 d.size d' ∧ w' = sortWorldK encE 8 w blk off n d' os := by
  have eg : ∀ args w, (callFunc 16 args).run Tryz.prog w = .ok (.enter 16 args) w := enters_of Tryz.func16 (by kernel_rfl) rfl
  have hcon := AnyQ.slices_SortFunc Tryz.sortEn 8 Tryz.isAgg34 Tryz.sizeOf34 encE (fun _ => rfl) (fun x v hv => by simp only [encE, List.mem_cons, List.not_mem_nil, or_false] at hv; rcases hv with rfl | rfl | rfl | rfl | rfl | rfl | rfl | rfl <;> rfl) (fun x y => cmpP x.1 y.1) swoE 16 #[] blk off cap d w eg (cmpLaysE blk off d.size w) hH hblk hsz
  exact hcon
end Go.Proofs.YtbijadnekoeofaaGreatDoor

namespace Go.Proofs.YtbijadnekoeofaaGreatDoor
open Go.RowKit

/-- The cells of a row of positions. -/
def povs (l : List Po) : List Value := l.flatMap fun p => [.int .i64 p.W, .int .i64 p.H, .string p.C, .int .i64 p.T, .string p.A, .string p.B]
theorem povs_len : ∀ l : List Po, (povs l).length = l.length * 6
  | [] => rfl
  | p :: l => by
    have := povs_len l
    unfold povs at this ⊢
    rw [List.flatMap_cons, List.length_append, this, List.length_cons]
    simp only [List.length_cons, List.length_nil]
    omega
theorem povs_app (a b : List Po) : povs (a ++ b) = povs a ++ povs b := by simp [povs]
theorem set_behind {α : Type} (a r : List α) (n j : Nat) (x : α) (h : n = a.length + j) : (a ++ r).set n x = a ++ r.set j x := by
  subst h
  rw [List.set_append_right _ _ (by omega)]
  congr 2
  omega
/-- One position more. -/
theorem povs_set {a : List Po} {r : List Value} (q : Po) (n : Nat) (hn : n = a.length * 6) (h : 6 ≤ r.length) :
    ((((((povs a ++ r).set n (.int .i64 q.W)).set (n + 1) (.int .i64 q.H)).set (n + 2) (.string q.C)).set (n + 3) (.int .i64 q.T)).set (n + 4) (.string q.A)).set (n + 5) (.string q.B) = povs (a ++ [q]) ++ r.drop 6 := by
  have hl := povs_len a
  match r, h with
  | r0 :: r1 :: r2 :: r3 :: r4 :: r5 :: rest, _ =>
    rw [set_behind _ _ n 0 _ (by omega), set_behind _ _ (n + 1) 1 _ (by omega), set_behind _ _ (n + 2) 2 _ (by omega), set_behind _ _ (n + 3) 3 _ (by omega), set_behind _ _ (n + 4) 4 _ (by omega), set_behind _ _ (n + 5) 5 _ (by omega), povs_app, List.append_assoc]
    rfl
/-- A row of positions of the call's own: six cells each are set, one position more stands in it. -/
theorem row_set6 {w : World} {base g n cap : Nat} {a : List Po} {r : List Value} (q : Po) (t : TypeId) (hr : w.ownsRow base t 6 (.slice (some ⟨g, 0, none⟩) n cap) n (povs a ++ r)) (h : 6 ≤ r.length) (j : Nat) (hj : j = a.length * 6) :
    let w' := (((((w.setCell ⟨g, j, none⟩ (.int .i64 q.W)).setCell ⟨g, j + 1, none⟩ (.int .i64 q.H)).setCell ⟨g, j + 2, none⟩ (.string q.C)).setCell ⟨g, j + 3, none⟩ (.int .i64 q.T)).setCell ⟨g, j + 4, none⟩ (.string q.A)).setCell ⟨g, j + 5, none⟩ (.string q.B)
    w'.ownsRow base t 6 (.slice (some ⟨g, 0, none⟩) n cap) n (povs (a ++ [q]) ++ r.drop 6) ∧ w.grownBy w' (some g) := by
  intro w'
  obtain ⟨h0, g0⟩ := hr.stored j (.int .i64 q.W)
  obtain ⟨h1, g1⟩ := h0.stored (j + 1) (.int .i64 q.H)
  obtain ⟨h2, g2⟩ := h1.stored (j + 2) (.string q.C)
  obtain ⟨h3, g3⟩ := h2.stored (j + 3) (.int .i64 q.T)
  obtain ⟨h4, g4⟩ := h3.stored (j + 4) (.string q.A)
  obtain ⟨h5, g5⟩ := h4.stored (j + 5) (.string q.B)
  rw [povs_set q j hj h] at h5
  refine ⟨h5, ?_⟩
  have k1 := g0.andThen g1 (fun k hk => .inr hk)
  have k2 := k1.andThen g2 (fun k hk => .inr hk)
  have k3 := k2.andThen g3 (fun k hk => .inr hk)
  have k4 := k3.andThen g4 (fun k hk => .inr hk)
  exact k4.andThen g5 (fun k hk => .inr hk)
end Go.Proofs.YtbijadnekoeofaaGreatDoor
