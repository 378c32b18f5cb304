/-
  package table, walked: learn, valueAtEnd.
  Contracts of the library, at this program: one application each.
  cmp.Or at four numbers.
-/
import Derived.Test.YtbijadnekoeofaaGreatDoorJ0
import Derived.Test.YtbijadnekoeofaaGreatDoorJ5
import Derived.Deep.Cut
import Derived.Shelf.Small.Strs
import Derived.Shelf.Small.Wraps
import Derived.Shelf.Strings.Replace
import Derived.Shelf.Strings.Search3
import Derived.Test.YtbijadnekoeofaaGreatDoorProg
import Derived.Sort.Grow
namespace Go.Proofs.YtbijadnekoeofaaGreatDoor
open Go.RowKit
attribute [local go_sem ↓] Go.wp_at_zero Go.wp_at_succ

/-- An entry as a value. -/
def enV (p : Po) (v d : Int) : Value := .agg #[.int .i64 p.W, .int .i64 p.H, .string p.C, .int .i64 p.T, .string p.A, .string p.B, .int .i64 v, .int .i64 d]
/-- What learn leaves. -/
structure LeP (g off : Nat) (l bv bd : Int) (w : World) (e : Ending) (w' : World) : Prop where
  out : ∃ w1, Below w.heap.size w w1 ∧
    ((bv = 2 ∧ e = .returned (.bool true) ∧ w' = ((w1.setCell ⟨g, off + 9, none⟩ (.int .i64 (l - 1))).setCell ⟨g, off + 6, none⟩ (.int .i64 1)).setCell ⟨g, off + 7, none⟩ (.int .i64 (bd + 1))) ∨
     (bv ≠ 2 ∧ l - 1 = 0 ∧ e = .returned (.bool true) ∧ w' = ((w1.setCell ⟨g, off + 9, none⟩ (.int .i64 (l - 1))).setCell ⟨g, off + 6, none⟩ (.int .i64 2)).setCell ⟨g, off + 7, none⟩ (.int .i64 (bd + 1))) ∨
     (bv ≠ 2 ∧ l - 1 ≠ 0 ∧ e = .returned (.bool false) ∧ w' = w1.setCell ⟨g, off + 9, none⟩ (.int .i64 (l - 1))))

set_option maxHeartbeats 1000000 in
set_option maxRecDepth 100000 in
theorem learn_any (g off : Nat) (l bv bd x6 x7 : Int) (bp : Po) (w : World) (hl : 0 ≤ l ∧ l ≤ 100000) (hd : 0 ≤ bd ∧ bd ≤ 1000000) (hg : g < w.heap.size)
    (c6 : w.cell? ⟨g, off + 6, none⟩ = some (.int .i64 x6)) (c7 : w.cell? ⟨g, off + 7, none⟩ = some (.int .i64 x7)) (c9 : w.cell? ⟨g, off + 9, none⟩ = some (.int .i64 l))
    (f6 : w.frozen? ⟨g, off + 6, none⟩ = false) (f7 : w.frozen? ⟨g, off + 7, none⟩ = false) (f9 : w.frozen? ⟨g, off + 9, none⟩ = false) :
    Calls Tryz.prog 37 #[.pointer (some ⟨g, off, none⟩), .agg #[.int .i64 bp.W, .int .i64 bp.H, .string bp.C, .int .i64 bp.T, .string bp.A, .string bp.B, .int .i64 bv, .int .i64 bd]] w (LeP g off l bv bd w) := by
  obtain ⟨w1, hw1⟩ : ∃ w1, w1 = w.alloc (.cells #[.int .i64 bp.W, .int .i64 bp.H, .string bp.C, .int .i64 bp.T, .string bp.A, .string bp.B, .int .i64 bv, .int .i64 bd] 34 (0, 0)) := ⟨_, rfl⟩
  have hb : Below w.heap.size w w1 := by rw [hw1]; exact (Below.refl _ _).alloc (Nat.le_refl _) _
  have hbx : w1.heap[w.heap.size]? = some (.cells #[.int .i64 bp.W, .int .i64 bp.H, .string bp.C, .int .i64 bp.T, .string bp.A, .string bp.B, .int .i64 bv, .int .i64 bd] 34 (0, 0)) := by rw [hw1]; exact heap_alloc_new w _
  have e6 : w1.cell? ⟨w.heap.size, 6, none⟩ = some (.int .i64 bv) := by simp [World.cell?, hbx]
  have e7 : w1.cell? ⟨w.heap.size, 7, none⟩ = some (.int .i64 bd) := by simp [World.cell?, hbx]
  have blk := hb.block g hg
  have d6 : w1.cell? ⟨g, off + 6, none⟩ = some (.int .i64 x6) := (World.cell?_of_block (a := ⟨g, off + 6, none⟩) blk).trans c6
  have d7 : w1.cell? ⟨g, off + 7, none⟩ = some (.int .i64 x7) := (World.cell?_of_block (a := ⟨g, off + 7, none⟩) blk).trans c7
  have d9 : w1.cell? ⟨g, off + 9, none⟩ = some (.int .i64 l) := (World.cell?_of_block (a := ⟨g, off + 9, none⟩) blk).trans c9
  have g6 : w1.frozen? ⟨g, off + 6, none⟩ = false := by simpa [World.frozen?, blk] using f6
  have g7 : w1.frozen? ⟨g, off + 7, none⟩ = false := by simpa [World.frozen?, blk] using f7
  have g9 : w1.frozen? ⟨g, off + 9, none⟩ = false := by simpa [World.frozen?, blk] using f9
  have hne : g ≠ w.heap.size := by omega
  have hne' : w.heap.size ≠ g := by omega
  obtain ⟨l1, hl1⟩ : ∃ l1, l1 = l - 1 := ⟨_, rfl⟩
  have wl : IntKind.i64.wrap l1 = l1 := by unfold IntKind.wrap; simp [IntKind.signed, IntKind.bits]; omega
  obtain ⟨d1, hd1⟩ : ∃ d1, d1 = bd + 1 := ⟨_, rfl⟩
  have wd : IntKind.i64.wrap d1 = d1 := by unfold IntKind.wrap; simp [IntKind.signed, IntKind.bits]; omega
  have el : l - 1 = l1 := hl1.symm
  have ed : bd + 1 = d1 := hd1.symm
  have HB := hide hb
  have HW1 := hide hw1
  have HL1 := hide hl1
  have HD1 := hide hd1
  clear hb hw1 hbx blk c6 c7 c9 f6 f7 f9 hl hd hl1 hd1
  by_cases h2 : bv = 2
  · subst h2
    go_enter Tryz.func37, Tryz.ntmps37
    go_upto_region 1 with fail
    rw [← unhide HW1]
    clear HW1
    go_wp2
    go_ret
    exact ⟨w1, unhide HB, .inl ⟨rfl, rfl, by rw [← unhide HL1, ← unhide HD1]⟩⟩
  · have h2b : (bv == 2) = false := by simp [h2]
    by_cases h0 : l1 = 0
    · have h0b : (l1 == 0) = true := by simp [h0]
      have H0 := hide h0
      have H2 := hide h2
      clear h0 h2
      go_enter Tryz.func37, Tryz.ntmps37
      go_upto_region 1 with fail
      rw [← unhide HW1]
      clear HW1
      go_wp2
      go_ret
      exact ⟨w1, unhide HB, .inr (.inl ⟨unhide H2, by rw [← unhide HL1]; exact unhide H0, rfl, by rw [← unhide HL1, ← unhide HD1]⟩)⟩
    · have h0b : (l1 == 0) = false := by simp [h0]
      have H0 := hide h0
      have H2 := hide h2
      clear h0 h2
      go_enter Tryz.func37, Tryz.ntmps37
      go_upto_region 1 with fail
      rw [← unhide HW1]
      clear HW1
      go_wp2
      go_ret
      exact ⟨w1, unhide HB, .inr (.inr ⟨unhide H2, by rw [← unhide HL1]; exact unhide H0, rfl, by rw [← unhide HL1]⟩)⟩

/-- What a position is worth that is not open. -/
def endV (o T : Int) : Int := if o = T + 1 then 1 else if o = 2 - T then 2 else 3
set_option maxHeartbeats 1000000 in
set_option maxRecDepth 100000 in
theorem valueAtEnd_any (v0 v1 v2 v3 v4 v5 v6 v7 v8 v9 v10 v11 v12 : Value) (W H T : Int) (C A B : ByteArray) (o e0 : Int) (w : World) (hT : T = 0 ∨ T = 1)
    (hO : ∀ u, Below w.heap.size w u → Calls Tryz.prog 8 #[.agg #[v0, v1, v2, v3, v4, v5, v6, v7, v8, v9, v10, v11, v12], .agg #[.int .i64 W, .int .i64 H, .string C, .int .i64 T, .string A, .string B]] u fun e w' => e = .returned (.tuple #[.int .i64 o, .int .i64 e0]) ∧ Below u.heap.size u w') :
    Calls Tryz.prog 36 #[.agg #[v0, v1, v2, v3, v4, v5, v6, v7, v8, v9, v10, v11, v12], .agg #[.int .i64 W, .int .i64 H, .string C, .int .i64 T, .string A, .string B]] w fun e w' => e = .returned (.int .i64 (endV o T)) ∧ Below w.heap.size w w' := by
  obtain ⟨w1, hw1⟩ : ∃ w1, w1 = w.alloc (.cells #[v0, v1, v2, v3, v4, v5, v6, v7, v8, v9, v10, v11, v12] 27 (0, 0)) := ⟨_, rfl⟩
  obtain ⟨w2, hw2⟩ : ∃ w2, w2 = w1.alloc (.cells #[.int .i64 W, .int .i64 H, .string C, .int .i64 T, .string A, .string B] 24 (0, 0)) := ⟨_, rfl⟩
  obtain ⟨w3, hw3⟩ : ∃ w3, w3 = w2.alloc (.cells #[.int .i64 1, .int .i64 2] 119 (0, 0)) := ⟨_, rfl⟩
  have b1 : Below w.heap.size w w1 := by rw [hw1]; exact (Below.refl _ _).alloc (Nat.le_refl _) _
  have b2 : Below w1.heap.size w1 w2 := by rw [hw2]; exact (Below.refl _ _).alloc (Nat.le_refl _) _
  have b3 : Below w2.heap.size w2 w3 := by rw [hw3]; exact (Below.refl _ _).alloc (Nat.le_refl _) _
  have s1 : w1.heap.size = w.heap.size + 1 := by rw [hw1]; simp
  have s2 : w2.heap.size = w.heap.size + 1 + 1 := by rw [hw2]; simp [s1]
  have hru : isRu w3 w.heap.size v0 v1 v2 v3 v4 v5 v6 v7 v8 v9 v10 v11 v12 := isRu.below (isRu.below (show isRu w1 w.heap.size v0 v1 v2 v3 v4 v5 v6 v7 v8 v9 v10 v11 v12 by rw [hw1]; exact heap_alloc_new w _) b2 (by omega)) b3 (by omega)
  have hpb : isPb w3 (w.heap.size + 1) W H T C A B := (show isPb w2 (w.heap.size + 1) W H T C A B by rw [hw2, ← s1]; exact heap_alloc_new w1 _).below b3 (by omega)
  have har : w3.heap[w.heap.size + 1 + 1]? = some (.cells #[.int .i64 1, .int .i64 2] 119 (0, 0)) := by rw [hw3, ← s2]; exact heap_alloc_new w2 _
  have bw : Below w.heap.size w w3 := (b1.trans (b2.mono (by omega))).trans (b3.mono (by omega))
  have HO := hide (hO w3 bw)
  have HW1 := hide hw1
  have HW2 := hide hw2
  have HW3 := hide hw3
  have HAR := hide har
  have HPB := hide hpb
  have HBW := hide bw
  obtain ⟨r0, r1, r2, r3, r4, r5, r6, r7, r8, r9, r10, r11, r12⟩ := hru.cells
  obtain ⟨p0, p1, p2, p3, p4, p5⟩ := hpb.all
  have s3 : w.heap.size + 1 + 1 < w3.heap.size := (Array.getElem?_eq_some_iff.1 har).1
  clear hw1 hw2 hw3 b1 b2 b3 s1 s2 hru hpb har bw hO
  unfold endV
  rcases hT with rfl | rfl
  · by_cases h1 : o = 1
    · subst h1
      rw [if_pos (by omega)]
      go_enter Tryz.func36, Tryz.ntmps36
      go_upto_region 2 with fail
      rw [← unhide HW1, ← unhide HW2, ← unhide HW3]
      go_wp2_with fail
      refine (unhide HO).mono ?_
      rintro e w4 ⟨rfl, hb4⟩
      have har4 := (hb4.block _ s3).trans (unhide HAR)
      have a0 : w4.cell? ⟨w.heap.size + 1 + 1, 0, none⟩ = some (.int .i64 1) := by simp [World.cell?, har4]
      have a1 : w4.cell? ⟨w.heap.size + 1 + 1, 1, none⟩ = some (.int .i64 2) := by simp [World.cell?, har4]
      have hpb4 := (unhide HPB).below hb4 (unhide HPB).lt
      have HB4 := hide ((unhide HBW).trans (hb4.mono (unhide HBW).size))
      clear r0 r1 r2 r3 r4 r5 r6 r7 r8 r9 r10 r11 r12 p0 p1 p2 p3 p4 p5 hb4 har4
      obtain ⟨p0, p1, p2, p3, p4, p5⟩ := hpb4.all
      go_wp2
      go_ret
      exact ⟨rfl, unhide HB4⟩
    · by_cases h2 : o = 2
      · subst h2
        rw [if_neg (by omega), if_pos (by omega)]
        go_enter Tryz.func36, Tryz.ntmps36
        go_upto_region 2 with fail
        rw [← unhide HW1, ← unhide HW2, ← unhide HW3]
        go_wp2_with fail
        refine (unhide HO).mono ?_
        rintro e w4 ⟨rfl, hb4⟩
        have har4 := (hb4.block _ s3).trans (unhide HAR)
        have a0 : w4.cell? ⟨w.heap.size + 1 + 1, 0, none⟩ = some (.int .i64 1) := by simp [World.cell?, har4]
        have a1 : w4.cell? ⟨w.heap.size + 1 + 1, 1, none⟩ = some (.int .i64 2) := by simp [World.cell?, har4]
        have hpb4 := (unhide HPB).below hb4 (unhide HPB).lt
        have HB4 := hide ((unhide HBW).trans (hb4.mono (unhide HBW).size))
        clear r0 r1 r2 r3 r4 r5 r6 r7 r8 r9 r10 r11 r12 p0 p1 p2 p3 p4 p5 hb4 har4
        obtain ⟨p0, p1, p2, p3, p4, p5⟩ := hpb4.all
        go_wp2
        go_ret
        exact ⟨rfl, unhide HB4⟩
      · rw [if_neg (by omega), if_neg (by omega)]
        have e1 : (o == 1) = false := by simp [h1]
        have e2 : (o == 2) = false := by simp [h2]
        clear h1 h2
        go_enter Tryz.func36, Tryz.ntmps36
        go_upto_region 2 with fail
        rw [← unhide HW1, ← unhide HW2, ← unhide HW3]
        go_wp2_with fail
        refine (unhide HO).mono ?_
        rintro e w4 ⟨rfl, hb4⟩
        have har4 := (hb4.block _ s3).trans (unhide HAR)
        have a0 : w4.cell? ⟨w.heap.size + 1 + 1, 0, none⟩ = some (.int .i64 1) := by simp [World.cell?, har4]
        have a1 : w4.cell? ⟨w.heap.size + 1 + 1, 1, none⟩ = some (.int .i64 2) := by simp [World.cell?, har4]
        have hpb4 := (unhide HPB).below hb4 (unhide HPB).lt
        have HB4 := hide ((unhide HBW).trans (hb4.mono (unhide HBW).size))
        clear r0 r1 r2 r3 r4 r5 r6 r7 r8 r9 r10 r11 r12 p0 p1 p2 p3 p4 p5 hb4 har4
        obtain ⟨p0, p1, p2, p3, p4, p5⟩ := hpb4.all
        go_wp2
        go_ret
        exact ⟨rfl, unhide HB4⟩
  · by_cases h1 : o = 1
    · subst h1
      rw [if_neg (by omega), if_pos (by omega)]
      go_enter Tryz.func36, Tryz.ntmps36
      go_upto_region 2 with fail
      rw [← unhide HW1, ← unhide HW2, ← unhide HW3]
      go_wp2_with fail
      refine (unhide HO).mono ?_
      rintro e w4 ⟨rfl, hb4⟩
      have har4 := (hb4.block _ s3).trans (unhide HAR)
      have a0 : w4.cell? ⟨w.heap.size + 1 + 1, 0, none⟩ = some (.int .i64 1) := by simp [World.cell?, har4]
      have a1 : w4.cell? ⟨w.heap.size + 1 + 1, 1, none⟩ = some (.int .i64 2) := by simp [World.cell?, har4]
      have hpb4 := (unhide HPB).below hb4 (unhide HPB).lt
      have HB4 := hide ((unhide HBW).trans (hb4.mono (unhide HBW).size))
      clear r0 r1 r2 r3 r4 r5 r6 r7 r8 r9 r10 r11 r12 p0 p1 p2 p3 p4 p5 hb4 har4
      obtain ⟨p0, p1, p2, p3, p4, p5⟩ := hpb4.all
      go_wp2
      go_ret
      exact ⟨rfl, unhide HB4⟩
    · by_cases h2 : o = 2
      · subst h2
        rw [if_pos (by omega)]
        go_enter Tryz.func36, Tryz.ntmps36
        go_upto_region 2 with fail
        rw [← unhide HW1, ← unhide HW2, ← unhide HW3]
        go_wp2_with fail
        refine (unhide HO).mono ?_
        rintro e w4 ⟨rfl, hb4⟩
        have har4 := (hb4.block _ s3).trans (unhide HAR)
        have a0 : w4.cell? ⟨w.heap.size + 1 + 1, 0, none⟩ = some (.int .i64 1) := by simp [World.cell?, har4]
        have a1 : w4.cell? ⟨w.heap.size + 1 + 1, 1, none⟩ = some (.int .i64 2) := by simp [World.cell?, har4]
        have hpb4 := (unhide HPB).below hb4 (unhide HPB).lt
        have HB4 := hide ((unhide HBW).trans (hb4.mono (unhide HBW).size))
        clear r0 r1 r2 r3 r4 r5 r6 r7 r8 r9 r10 r11 r12 p0 p1 p2 p3 p4 p5 hb4 har4
        obtain ⟨p0, p1, p2, p3, p4, p5⟩ := hpb4.all
        go_wp2
        go_ret
        exact ⟨rfl, unhide HB4⟩
      · rw [if_neg (by omega), if_neg (by omega)]
        have e1 : (o == 1) = false := by simp [h1]
        have e2 : (o == 2) = false := by simp [h2]
        clear h1 h2
        go_enter Tryz.func36, Tryz.ntmps36
        go_upto_region 2 with fail
        rw [← unhide HW1, ← unhide HW2, ← unhide HW3]
        go_wp2_with fail
        refine (unhide HO).mono ?_
        rintro e w4 ⟨rfl, hb4⟩
        have har4 := (hb4.block _ s3).trans (unhide HAR)
        have a0 : w4.cell? ⟨w.heap.size + 1 + 1, 0, none⟩ = some (.int .i64 1) := by simp [World.cell?, har4]
        have a1 : w4.cell? ⟨w.heap.size + 1 + 1, 1, none⟩ = some (.int .i64 2) := by simp [World.cell?, har4]
        have hpb4 := (unhide HPB).below hb4 (unhide HPB).lt
        have HB4 := hide ((unhide HBW).trans (hb4.mono (unhide HBW).size))
        clear r0 r1 r2 r3 r4 r5 r6 r7 r8 r9 r10 r11 r12 p0 p1 p2 p3 p4 p5 hb4 har4
        obtain ⟨p0, p1, p2, p3, p4, p5⟩ := hpb4.all
        go_wp2
        go_ret
        exact ⟨rfl, unhide HB4⟩
end Go.Proofs.YtbijadnekoeofaaGreatDoor

namespace Go.Proofs
open Go.Shelf Go.RowKit Go.Lib
def Tryz.lays106_ren : Go.Shelf.Ren := ⟨fun | 106 => 41 | 213 => 83 | 265 => 114 | n => n, fun | 9 => 9 | 3 => 3 | n => n, fun | n => n⟩
theorem Tryz.lays106 : Go.Proofs.Lays.n106 Tryz.prog Tryz.lays106_ren := {
  mixed := by kernel_rfl
  f106 := Tryz.func41.trans (congrArg some (by kernel_rfl))
  f213 := Tryz.func83.trans (congrArg some (by kernel_rfl))
  f265 := Tryz.func114.trans (congrArg some (by kernel_rfl))
  t3 := Tryz.underlying3
  a3 := Tryz.isAgg3
  z3 := Tryz.sizeOf3
  v3 := Tryz.zeroValue3
  t9 := Tryz.underlying9
  a9 := Tryz.isAgg9
  z9 := Tryz.sizeOf9
  v9 := Tryz.zeroValue9 }
theorem Tryz.strings_Compare (a b : ByteArray) (w : World) :
    Calls Tryz.prog 41 #[.string a, .string b] w fun e w' => e = .returned (.int .i64 (Lib.compareBytes a.data.toList b.data.toList)) ∧ w' = w := Any.strings_Compare Tryz.lays106 a b w
def Tryz.lays137_ren : Go.Shelf.Ren := ⟨fun | 137 => 48 | 217 => 88 | 266 => 116 | n => n, fun | 9 => 9 | 5 => 5 | 3 => 3 | n => n, fun | n => n⟩
theorem Tryz.lays137 : Go.Proofs.Lays.n137 Tryz.prog Tryz.lays137_ren := {
  mixed := by kernel_rfl
  f137 := Tryz.func48.trans (congrArg some (by kernel_rfl))
  f217 := Tryz.func88.trans (congrArg some (by kernel_rfl))
  f266 := Tryz.func116.trans (congrArg some (by kernel_rfl))
  t3 := Tryz.underlying3
  a3 := Tryz.isAgg3
  z3 := Tryz.sizeOf3
  v3 := Tryz.zeroValue3
  t5 := Tryz.underlying5
  a5 := Tryz.isAgg5
  z5 := Tryz.sizeOf5
  v5 := Tryz.zeroValue5
  t9 := Tryz.underlying9
  a9 := Tryz.isAgg9
  z9 := Tryz.sizeOf9
  v9 := Tryz.zeroValue9 }
theorem Tryz.strings_IndexByte (s : ByteArray) (c : Int) (w : World) :
    Calls Tryz.prog 48 #[.string s, .int .u8 c] w fun e w' => e = .returned (.int .i64 (Lib.indexByte s.data.toList c.toNat.toUInt8)) ∧ w' = w := Any.strings_IndexByte Tryz.lays137 s c w
def Tryz.lays122_ren : Go.Shelf.Ren := ⟨fun | 122 => 42 | 215 => 84 | n => n, fun | 3 => 3 | 4 => 4 | n => n, fun | n => n⟩
theorem Tryz.lays122 : Go.Proofs.Lays.n122 Tryz.prog Tryz.lays122_ren := {
  mixed := by kernel_rfl
  f122 := Tryz.func42.trans (congrArg some (by kernel_rfl))
  f215 := Tryz.func84.trans (congrArg some (by kernel_rfl))
  t3 := Tryz.underlying3
  a3 := Tryz.isAgg3
  z3 := Tryz.sizeOf3
  v3 := Tryz.zeroValue3
  t4 := Tryz.underlying4
  a4 := Tryz.isAgg4
  z4 := Tryz.sizeOf4
  v4 := Tryz.zeroValue4 }
theorem Tryz.cmp_Compare_int (x y : Int) (w : World) :
    Calls Tryz.prog 42 #[.int .i64 x, .int .i64 y] w fun e w' => e = .returned (.int .i64 (Lib.compareInt x y)) ∧ w' = w := Any.cmp_Compare_int Tryz.lays122 x y w
def Tryz.lays144_ren : Go.Shelf.Ren := ⟨fun | 144 => 51 | 143 => 89 | 219 => 117 | 217 => 88 | 225 => 132 | 224 => 133 | 267 => 134 | 266 => 116 | 314 => 151 | n => n, fun | 9 => 9 | 4 => 4 | 3 => 3 | 5 => 5 | 46 => 84 | 146 => 185 | 51 => 69 | n => n, fun | 1 => 0 | n => n⟩
theorem Tryz.lays144 : Go.Proofs.Lays.n144 Tryz.prog Tryz.lays144_ren := {
  mixed := by kernel_rfl
  f143 := Tryz.func89.trans (congrArg some (by kernel_rfl))
  f144 := Tryz.func51.trans (congrArg some (by kernel_rfl))
  f217 := Tryz.func88.trans (congrArg some (by kernel_rfl))
  f219 := Tryz.func117.trans (congrArg some (by kernel_rfl))
  f224 := Tryz.func133.trans (congrArg some (by kernel_rfl))
  f225 := Tryz.func132.trans (congrArg some (by kernel_rfl))
  f266 := Tryz.func116.trans (congrArg some (by kernel_rfl))
  f267 := Tryz.func134.trans (congrArg some (by kernel_rfl))
  f314 := Tryz.func151.trans (congrArg some (by kernel_rfl))
  t3 := Tryz.underlying3
  a3 := Tryz.isAgg3
  z3 := Tryz.sizeOf3
  v3 := Tryz.zeroValue3
  t4 := Tryz.underlying4
  a4 := Tryz.isAgg4
  z4 := Tryz.sizeOf4
  v4 := Tryz.zeroValue4
  t5 := Tryz.underlying5
  a5 := Tryz.isAgg5
  z5 := Tryz.sizeOf5
  v5 := Tryz.zeroValue5
  t9 := Tryz.underlying9
  a9 := Tryz.isAgg9
  z9 := Tryz.sizeOf9
  v9 := Tryz.zeroValue9
  t46 := Tryz.underlying84
  a46 := Tryz.isAgg84
  z46 := Tryz.sizeOf84
  v46 := Tryz.zeroValue84
  t51 := Tryz.underlying69
  a51 := Tryz.isAgg69
  z51 := Tryz.sizeOf69
  v51 := Tryz.zeroValue69
  t146 := Tryz.underlying185
  a146 := Tryz.isAgg185
  z146 := Tryz.sizeOf185
  v146 := Tryz.zeroValue185
  g1 := by kernel_rfl }
theorem Tryz.strings_Contains_one (s : ByteArray) (c : UInt8) (w : World) :
    Calls Tryz.prog 51 #[.string s, .string ⟨#[c]⟩] w fun e w' => e = .returned (.bool (decide (0 ≤ Lib.indexByte s.data.toList c))) ∧ w' = w := Any.strings_Contains_one Tryz.lays144 s c w
def Tryz.lays154_ren : Go.Shelf.Ren := ⟨fun | 154 => 99 | 138 => 125 | 165 => 126 | 143 => 89 | 166 => 127 | 197 => 128 | 169 => 129 | 195 => 137 | 218 => 138 | 240 => 139 | 241 => 140 | 219 => 117 | 260 => 141 | 276 => 152 | 277 => 153 | 217 => 88 | 225 => 132 | 224 => 133 | 267 => 134 | 266 => 116 | 314 => 151 | n => n, fun | 9 => 9 | 3 => 3 | 4 => 4 | 72 => 164 | 0 => 0 | 76 => 168 | 105 => 170 | 21 => 21 | 5 => 5 | 70 => 162 | 20 => 20 | 37 => 98 | 75 => 167 | 127 => 174 | 164 => 187 | 46 => 84 | 119 => 190 | 139 => 193 | 138 => 192 | 146 => 185 | 51 => 69 | 80 => 172 | n => n, fun | 1 => 0 | 3 => 1 | 4 => 2 | n => n⟩
theorem Tryz.lays154 : Go.Proofs.Lays.n154 Tryz.prog Tryz.lays154_ren := {
  mixed := by kernel_rfl
  f138 := Tryz.func125.trans (congrArg some (by kernel_rfl))
  f143 := Tryz.func89.trans (congrArg some (by kernel_rfl))
  f154 := Tryz.func99.trans (congrArg some (by kernel_rfl))
  f165 := Tryz.func126.trans (congrArg some (by kernel_rfl))
  f166 := Tryz.func127.trans (congrArg some (by kernel_rfl))
  f169 := Tryz.func129.trans (congrArg some (by kernel_rfl))
  f195 := Tryz.func137.trans (congrArg some (by kernel_rfl))
  f197 := Tryz.func128.trans (congrArg some (by kernel_rfl))
  f217 := Tryz.func88.trans (congrArg some (by kernel_rfl))
  f218 := Tryz.func138.trans (congrArg some (by kernel_rfl))
  f219 := Tryz.func117.trans (congrArg some (by kernel_rfl))
  f224 := Tryz.func133.trans (congrArg some (by kernel_rfl))
  f225 := Tryz.func132.trans (congrArg some (by kernel_rfl))
  f240 := Tryz.func139.trans (congrArg some (by kernel_rfl))
  f241 := Tryz.func140.trans (congrArg some (by kernel_rfl))
  f260 := Tryz.func141.trans (congrArg some (by kernel_rfl))
  f266 := Tryz.func116.trans (congrArg some (by kernel_rfl))
  f267 := Tryz.func134.trans (congrArg some (by kernel_rfl))
  f276 := Tryz.func152.trans (congrArg some (by kernel_rfl))
  f277 := Tryz.func153.trans (congrArg some (by kernel_rfl))
  f314 := Tryz.func151.trans (congrArg some (by kernel_rfl))
  t0 := Tryz.underlying0
  a0 := Tryz.isAgg0
  z0 := Tryz.sizeOf0
  v0 := Tryz.zeroValue0
  t3 := Tryz.underlying3
  a3 := Tryz.isAgg3
  z3 := Tryz.sizeOf3
  v3 := Tryz.zeroValue3
  t4 := Tryz.underlying4
  a4 := Tryz.isAgg4
  z4 := Tryz.sizeOf4
  v4 := Tryz.zeroValue4
  t5 := Tryz.underlying5
  a5 := Tryz.isAgg5
  z5 := Tryz.sizeOf5
  v5 := Tryz.zeroValue5
  t9 := Tryz.underlying9
  a9 := Tryz.isAgg9
  z9 := Tryz.sizeOf9
  v9 := Tryz.zeroValue9
  t20 := Tryz.underlying20
  a20 := Tryz.isAgg20
  z20 := Tryz.sizeOf20
  v20 := Tryz.zeroValue20
  t21 := Tryz.underlying21
  a21 := Tryz.isAgg21
  z21 := Tryz.sizeOf21
  v21 := Tryz.zeroValue21
  t37 := Tryz.underlying98
  a37 := Tryz.isAgg98
  z37 := Tryz.sizeOf98
  v37 := Tryz.zeroValue98
  t46 := Tryz.underlying84
  a46 := Tryz.isAgg84
  z46 := Tryz.sizeOf84
  v46 := Tryz.zeroValue84
  t51 := Tryz.underlying69
  a51 := Tryz.isAgg69
  z51 := Tryz.sizeOf69
  v51 := Tryz.zeroValue69
  t70 := Tryz.underlying162
  a70 := Tryz.isAgg162
  z70 := Tryz.sizeOf162
  v70 := Tryz.zeroValue162
  t72 := Tryz.underlying164
  a72 := Tryz.isAgg164
  z72 := Tryz.sizeOf164
  v72 := Tryz.zeroValue164
  t75 := Tryz.underlying167
  a75 := Tryz.isAgg167
  z75 := Tryz.sizeOf167
  v75 := Tryz.zeroValue167
  t76 := Tryz.underlying168
  a76 := Tryz.isAgg168
  z76 := Tryz.sizeOf168
  v76 := Tryz.zeroValue168
  t105 := Tryz.underlying170
  a105 := Tryz.isAgg170
  z105 := Tryz.sizeOf170
  v105 := Tryz.zeroValue170
  t119 := Tryz.underlying190
  a119 := Tryz.isAgg190
  z119 := Tryz.sizeOf190
  t127 := Tryz.underlying174
  a127 := Tryz.isAgg174
  z127 := Tryz.sizeOf174
  v127 := Tryz.zeroValue174
  t138 := Tryz.underlying192
  a138 := Tryz.isAgg192
  z138 := Tryz.sizeOf192
  v138 := Tryz.zeroValue192
  t139 := Tryz.underlying193
  a139 := Tryz.isAgg193
  z139 := Tryz.sizeOf193
  v139 := Tryz.zeroValue193
  t146 := Tryz.underlying185
  a146 := Tryz.isAgg185
  z146 := Tryz.sizeOf185
  v146 := Tryz.zeroValue185
  t164 := Tryz.underlying187
  a164 := Tryz.isAgg187
  z164 := Tryz.sizeOf187
  v164 := Tryz.zeroValue187
  g1 := by kernel_rfl
  g3 := by kernel_rfl
  g4 := by kernel_rfl }
theorem Tryz.Builder_Extra_154 : Builder.Extra Tryz.prog Tryz.lays154_ren := {
  sizeBuilder := by kernel_rfl
  liesBuilder := by kernel_rfl
  t5 := Tryz.underlying5
  a5 := Tryz.isAgg5
  z5 := Tryz.sizeOf5
  v5 := Tryz.zeroValue5
  infoByte := by kernel_rfl
  cellsByte := by kernel_rfl
  sizeByte := by kernel_rfl
  neB5 := by decide }
theorem Tryz.strings_Replace (s old new : ByteArray) (n : Int) (m : Int) (w : World) (hs : s.size < 4294967281) (hm : w.cell? ⟨0, 0, none⟩ = some (.int .i64 m)) (h1 : 1 ≤ old.size) (hlen : s.size + Lib.countB s old * new.size ≤ 140737488355328) :
    Calls Tryz.prog 99 #[.string s, .string old, .string new, .int .i64 n] w fun e w' =>
      e = .returned (.string ⟨(Lib.replace s.data.toList old.data.toList new.data.toList n).toArray⟩) ∧ Below w.heap.size w w' := Any.strings_Replace Tryz.lays154 Tryz.Builder_Extra_154 s old new n m w hs hm h1 hlen
end Go.Proofs

namespace Go.Proofs.YtbijadnekoeofaaGreatDoor
open Go.RowKit
attribute [local go_sem ↓] Go.wp_at_zero Go.wp_at_succ

/-- The first that is not 0. -/
def orI : List Int → Int
  | [] => 0
  | a :: l => if a = 0 then orI l else a

/-- All as it was, but for new blocks and what was drawn. -/
structure Gr (w w' : World) : Prop where
  below : Below w.heap.size w w'
  drawn : w.drawn ≤ w'.drawn

theorem Gr.refl (w : World) : Gr w w := ⟨Below.refl _ _, Nat.le_refl _⟩
theorem Gr.alloc {w w' : World} (h : Gr w w') (o : Obj) : Gr w (w'.alloc o) := ⟨h.below.alloc h.below.size _, h.drawn⟩
theorem Gr.drew {w w' : World} (h : Gr w w') : Gr w w'.drew := ⟨⟨h.below.os, h.below.tape, h.below.output, h.below.size, h.below.block⟩, Nat.le_succ_of_le h.drawn⟩
theorem Gr.grow {w w' : World} (h : Gr w w') : ∃ q os', w' = Go.Sort.grow (w.drewN q) os' := by
  obtain ⟨⟨h1, h2, h3, h4, h5⟩, h6⟩ := h
  refine ⟨w'.drawn - w.drawn, w'.heap.extract w.heap.size w'.heap.size, ?_⟩
  cases w with | mk a1 a2 a3 a4 a5 =>
  cases w' with | mk b1 b2 b3 b4 b5 =>
  simp only [Go.Sort.grow, World.drewN] at *
  subst h1; subst h2; subst h3
  have e : a3 + (b3 - a3) = b3 := by omega
  rw [e]
  congr 1
  apply Array.ext_getElem?
  intro i
  by_cases hi : i < a1.size
  · rw [h5 i hi, Array.getElem?_append_left hi]
  · rw [Array.getElem?_append_right (by omega), Array.getElem?_extract]
    by_cases hj : i < b1.size
    · rw [if_pos (by omega)]; congr 1; omega
    · rw [if_neg (by omega), Array.getElem?_eq_none (by omega)]

theorem or4a {a b c d : Int} (h : (a != 0) = true) : a = orI [a, b, c, d] := by simp only [bne_iff_ne, ne_eq] at h; simp [orI, h]
theorem or4b {a b c d : Int} (h : (a != 0) = false) (h' : (b != 0) = true) : b = orI [a, b, c, d] := by simp only [bne_iff_ne, ne_eq, bne_eq_false_iff_eq] at h h'; simp [orI, h, h']
theorem or4c {a b c d : Int} (h : (a != 0) = false) (h' : (b != 0) = false) (h'' : (c != 0) = true) : c = orI [a, b, c, d] := by simp only [bne_iff_ne, ne_eq, bne_eq_false_iff_eq] at h h' h''; simp [orI, h, h', h'']
theorem or4d {a b c d : Int} (h : (a != 0) = false) (h' : (b != 0) = false) (h'' : (c != 0) = false) : d = orI [a, b, c, d] := by
  simp only [bne_eq_false_iff_eq] at h h' h''
  subst h; subst h'; subst h''
  by_cases hd : d = 0 <;> simp [orI, hd]

set_option maxHeartbeats 1000000 in
theorem or4_any (a b c d : Int) (g cap : Nat) (w : World) (h0 : w.cell? ⟨g, 0, none⟩ = some (.int .i64 a)) (h1 : w.cell? ⟨g, 1, none⟩ = some (.int .i64 b)) (h2 : w.cell? ⟨g, 2, none⟩ = some (.int .i64 c)) (h3 : w.cell? ⟨g, 3, none⟩ = some (.int .i64 d)) :
    Calls Tryz.prog 40 #[.slice (some ⟨g, 0, none⟩) 4 cap] w fun e w' => e = .returned (.int .i64 (orI [a, b, c, d])) ∧ w' = w := by
  go_enter Tryz.func40, Tryz.ntmps40
  go_wp2
  refine wp_loop_rounds 5 ?_
  rw [rounds_succ]
  go_wp2
  · go_ret
    exact ⟨ret_int (or4a (by assumption)), rfl⟩
  · rw [rounds_succ]
    go_wp2
    · go_ret
      exact ⟨ret_int (or4b (by assumption) (by assumption)), rfl⟩
    · rw [rounds_succ]
      go_wp2
      · go_ret
        exact ⟨ret_int (or4c (by assumption) (by assumption) (by assumption)), rfl⟩
      · rw [rounds_succ]
        go_wp2
        · go_ret
          exact ⟨ret_int (or4d (by assumption) (by assumption) (by assumption)), rfl⟩
        · have hc : (d != 0) = false := by assumption
          rw [rounds_succ]
          go_wp2
          go_ret
          exact ⟨ret_int (by rw [← or4d (a := a) (b := b) (c := c) (by assumption) (by assumption) (by assumption)]; simp only [bne_eq_false_iff_eq] at hc; exact hc.symm), rfl⟩
end Go.Proofs.YtbijadnekoeofaaGreatDoor
