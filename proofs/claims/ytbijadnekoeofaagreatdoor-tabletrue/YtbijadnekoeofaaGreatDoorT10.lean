/-
  package table, walked: learn, valueAtEnd.
-/
import Derived.Test.YtbijadnekoeofaaGreatDoorJ0
import Derived.Test.YtbijadnekoeofaaGreatDoorJ5
import Derived.Test.YtbijadnekoeofaaGreatDoorJ8
import Derived.Deep.Cut
namespace Go.Proofs.YtbijadnekoeofaaGreatDoor
open Go.RowKit
attribute [local go_sem ↓] Go.wp_at_zero Go.wp_at_succ

/-- An entry as a value. -/
def enV (p : Po) (v d : Int) : Value := .agg #[.int .i64 p.W, .int .i64 p.H, .string p.C, .int .i64 p.T, .string p.A, .string p.B, .int .i64 v, .int .i64 d]
/-- What learn leaves. -/
structure LeP (g off : Nat) (l bv bd : Int) (w : World) (e : Ending) (w' : World) : Prop where
  out : ∃ w1, Below w.heap.size w w1 ∧
    ((bv = 2 ∧ e = .returned (.bool true) ∧ w' = ((w1.setCell ⟨g, off + 9, none⟩ (.int .i64 (l - 1))).setCell ⟨g, off + 6, none⟩ (.int .i64 1)).setCell ⟨g, off + 7, none⟩ (.int .i64 (bd + 1))) ∨
     (bv ≠ 2 ∧ l - 1 = 0 ∧ e = .returned (.bool true) ∧ w' = ((w1.setCell ⟨g, off + 9, none⟩ (.int .i64 (l - 1))).setCell ⟨g, off + 6, none⟩ (.int .i64 2)).setCell ⟨g, off + 7, none⟩ (.int .i64 (bd + 1))) ∨
     (bv ≠ 2 ∧ l - 1 ≠ 0 ∧ e = .returned (.bool false) ∧ w' = w1.setCell ⟨g, off + 9, none⟩ (.int .i64 (l - 1))))

set_option maxHeartbeats 1000000 in
set_option maxRecDepth 100000 in
theorem learn_any (g off : Nat) (l bv bd x6 x7 : Int) (bp : Po) (w : World) (hl : 0 ≤ l ∧ l ≤ 100000) (hd : 0 ≤ bd ∧ bd ≤ 1000000) (hg : g < w.heap.size)
    (c6 : w.cell? ⟨g, off + 6, none⟩ = some (.int .i64 x6)) (c7 : w.cell? ⟨g, off + 7, none⟩ = some (.int .i64 x7)) (c9 : w.cell? ⟨g, off + 9, none⟩ = some (.int .i64 l))
    (f6 : w.frozen? ⟨g, off + 6, none⟩ = false) (f7 : w.frozen? ⟨g, off + 7, none⟩ = false) (f9 : w.frozen? ⟨g, off + 9, none⟩ = false) :
    Calls Tryz.prog 37 #[.pointer (some ⟨g, off, none⟩), .agg #[.int .i64 bp.W, .int .i64 bp.H, .string bp.C, .int .i64 bp.T, .string bp.A, .string bp.B, .int .i64 bv, .int .i64 bd]] w (LeP g off l bv bd w) := by
  obtain ⟨w1, hw1⟩ : ∃ w1, w1 = w.alloc (.cells #[.int .i64 bp.W, .int .i64 bp.H, .string bp.C, .int .i64 bp.T, .string bp.A, .string bp.B, .int .i64 bv, .int .i64 bd] 34 (0, 0)) := ⟨_, rfl⟩
  have hb : Below w.heap.size w w1 := by rw [hw1]; exact (Below.refl _ _).alloc (Nat.le_refl _) _
  have hbx : w1.heap[w.heap.size]? = some (.cells #[.int .i64 bp.W, .int .i64 bp.H, .string bp.C, .int .i64 bp.T, .string bp.A, .string bp.B, .int .i64 bv, .int .i64 bd] 34 (0, 0)) := by rw [hw1]; exact heap_alloc_new w _
  have e6 : w1.cell? ⟨w.heap.size, 6, none⟩ = some (.int .i64 bv) := by simp [World.cell?, hbx]
  have e7 : w1.cell? ⟨w.heap.size, 7, none⟩ = some (.int .i64 bd) := by simp [World.cell?, hbx]
  have blk := hb.block g hg
  have d6 : w1.cell? ⟨g, off + 6, none⟩ = some (.int .i64 x6) := (World.cell?_of_block (a := ⟨g, off + 6, none⟩) blk).trans c6
  have d7 : w1.cell? ⟨g, off + 7, none⟩ = some (.int .i64 x7) := (World.cell?_of_block (a := ⟨g, off + 7, none⟩) blk).trans c7
  have d9 : w1.cell? ⟨g, off + 9, none⟩ = some (.int .i64 l) := (World.cell?_of_block (a := ⟨g, off + 9, none⟩) blk).trans c9
  have g6 : w1.frozen? ⟨g, off + 6, none⟩ = false := by simpa [World.frozen?, blk] using f6
  have g7 : w1.frozen? ⟨g, off + 7, none⟩ = false := by simpa [World.frozen?, blk] using f7
  have g9 : w1.frozen? ⟨g, off + 9, none⟩ = false := by simpa [World.frozen?, blk] using f9
  have hne : g ≠ w.heap.size := by omega
  have hne' : w.heap.size ≠ g := by omega
  obtain ⟨l1, hl1⟩ : ∃ l1, l1 = l - 1 := ⟨_, rfl⟩
  have wl : IntKind.i64.wrap l1 = l1 := by unfold IntKind.wrap; simp [IntKind.signed, IntKind.bits]; omega
  obtain ⟨d1, hd1⟩ : ∃ d1, d1 = bd + 1 := ⟨_, rfl⟩
  have wd : IntKind.i64.wrap d1 = d1 := by unfold IntKind.wrap; simp [IntKind.signed, IntKind.bits]; omega
  have el : l - 1 = l1 := hl1.symm
  have ed : bd + 1 = d1 := hd1.symm
  have HB := hide hb
  have HW1 := hide hw1
  have HL1 := hide hl1
  have HD1 := hide hd1
  clear hb hw1 hbx blk c6 c7 c9 f6 f7 f9 hl hd hl1 hd1
  by_cases h2 : bv = 2
  · subst h2
    go_enter Tryz.func37, Tryz.ntmps37
    go_upto_region 1 with fail
    rw [← unhide HW1]
    clear HW1
    go_wp2
    go_ret
    exact ⟨w1, unhide HB, .inl ⟨rfl, rfl, by rw [← unhide HL1, ← unhide HD1]⟩⟩
  · have h2b : (bv == 2) = false := by simp [h2]
    by_cases h0 : l1 = 0
    · have h0b : (l1 == 0) = true := by simp [h0]
      have H0 := hide h0
      have H2 := hide h2
      clear h0 h2
      go_enter Tryz.func37, Tryz.ntmps37
      go_upto_region 1 with fail
      rw [← unhide HW1]
      clear HW1
      go_wp2
      go_ret
      exact ⟨w1, unhide HB, .inr (.inl ⟨unhide H2, by rw [← unhide HL1]; exact unhide H0, rfl, by rw [← unhide HL1, ← unhide HD1]⟩)⟩
    · have h0b : (l1 == 0) = false := by simp [h0]
      have H0 := hide h0
      have H2 := hide h2
      clear h0 h2
      go_enter Tryz.func37, Tryz.ntmps37
      go_upto_region 1 with fail
      rw [← unhide HW1]
      clear HW1
      go_wp2
      go_ret
      exact ⟨w1, unhide HB, .inr (.inr ⟨unhide H2, by rw [← unhide HL1]; exact unhide H0, rfl, by rw [← unhide HL1]⟩)⟩

/-- What a position is worth that is not open. -/
def endV (o T : Int) : Int := if o = T + 1 then 1 else if o = 2 - T then 2 else 3
set_option maxHeartbeats 1000000 in
set_option maxRecDepth 100000 in
theorem valueAtEnd_any (v0 v1 v2 v3 v4 v5 v6 v7 v8 v9 v10 v11 v12 : Value) (W H T : Int) (C A B : ByteArray) (o e0 : Int) (w : World) (hT : T = 0 ∨ T = 1)
    (hO : ∀ u, Below w.heap.size w u → Calls Tryz.prog 8 #[.agg #[v0, v1, v2, v3, v4, v5, v6, v7, v8, v9, v10, v11, v12], .agg #[.int .i64 W, .int .i64 H, .string C, .int .i64 T, .string A, .string B]] u fun e w' => e = .returned (.tuple #[.int .i64 o, .int .i64 e0]) ∧ Below u.heap.size u w') :
    Calls Tryz.prog 36 #[.agg #[v0, v1, v2, v3, v4, v5, v6, v7, v8, v9, v10, v11, v12], .agg #[.int .i64 W, .int .i64 H, .string C, .int .i64 T, .string A, .string B]] w fun e w' => e = .returned (.int .i64 (endV o T)) ∧ Below w.heap.size w w' := by
  obtain ⟨w1, hw1⟩ : ∃ w1, w1 = w.alloc (.cells #[v0, v1, v2, v3, v4, v5, v6, v7, v8, v9, v10, v11, v12] 27 (0, 0)) := ⟨_, rfl⟩
  obtain ⟨w2, hw2⟩ : ∃ w2, w2 = w1.alloc (.cells #[.int .i64 W, .int .i64 H, .string C, .int .i64 T, .string A, .string B] 24 (0, 0)) := ⟨_, rfl⟩
  obtain ⟨w3, hw3⟩ : ∃ w3, w3 = w2.alloc (.cells #[.int .i64 1, .int .i64 2] 119 (0, 0)) := ⟨_, rfl⟩
  have b1 : Below w.heap.size w w1 := by rw [hw1]; exact (Below.refl _ _).alloc (Nat.le_refl _) _
  have b2 : Below w1.heap.size w1 w2 := by rw [hw2]; exact (Below.refl _ _).alloc (Nat.le_refl _) _
  have b3 : Below w2.heap.size w2 w3 := by rw [hw3]; exact (Below.refl _ _).alloc (Nat.le_refl _) _
  have s1 : w1.heap.size = w.heap.size + 1 := by rw [hw1]; simp
  have s2 : w2.heap.size = w.heap.size + 1 + 1 := by rw [hw2]; simp [s1]
  have hru : isRu w3 w.heap.size v0 v1 v2 v3 v4 v5 v6 v7 v8 v9 v10 v11 v12 := isRu.below (isRu.below (show isRu w1 w.heap.size v0 v1 v2 v3 v4 v5 v6 v7 v8 v9 v10 v11 v12 by rw [hw1]; exact heap_alloc_new w _) b2 (by omega)) b3 (by omega)
  have hpb : isPb w3 (w.heap.size + 1) W H T C A B := (show isPb w2 (w.heap.size + 1) W H T C A B by rw [hw2, ← s1]; exact heap_alloc_new w1 _).below b3 (by omega)
  have har : w3.heap[w.heap.size + 1 + 1]? = some (.cells #[.int .i64 1, .int .i64 2] 119 (0, 0)) := by rw [hw3, ← s2]; exact heap_alloc_new w2 _
  have bw : Below w.heap.size w w3 := (b1.trans (b2.mono (by omega))).trans (b3.mono (by omega))
  have HO := hide (hO w3 bw)
  have HW1 := hide hw1
  have HW2 := hide hw2
  have HW3 := hide hw3
  have HAR := hide har
  have HPB := hide hpb
  have HBW := hide bw
  obtain ⟨r0, r1, r2, r3, r4, r5, r6, r7, r8, r9, r10, r11, r12⟩ := hru.cells
  obtain ⟨p0, p1, p2, p3, p4, p5⟩ := hpb.all
  have s3 : w.heap.size + 1 + 1 < w3.heap.size := (Array.getElem?_eq_some_iff.1 har).1
  clear hw1 hw2 hw3 b1 b2 b3 s1 s2 hru hpb har bw hO
  unfold endV
  rcases hT with rfl | rfl
  · by_cases h1 : o = 1
    · subst h1
      rw [if_pos (by omega)]
      go_enter Tryz.func36, Tryz.ntmps36
      go_upto_region 2 with fail
      rw [← unhide HW1, ← unhide HW2, ← unhide HW3]
      go_wp2_with fail
      refine (unhide HO).mono ?_
      rintro e w4 ⟨rfl, hb4⟩
      have har4 := (hb4.block _ s3).trans (unhide HAR)
      have a0 : w4.cell? ⟨w.heap.size + 1 + 1, 0, none⟩ = some (.int .i64 1) := by simp [World.cell?, har4]
      have a1 : w4.cell? ⟨w.heap.size + 1 + 1, 1, none⟩ = some (.int .i64 2) := by simp [World.cell?, har4]
      have hpb4 := (unhide HPB).below hb4 (unhide HPB).lt
      have HB4 := hide ((unhide HBW).trans (hb4.mono (unhide HBW).size))
      clear r0 r1 r2 r3 r4 r5 r6 r7 r8 r9 r10 r11 r12 p0 p1 p2 p3 p4 p5 hb4 har4
      obtain ⟨p0, p1, p2, p3, p4, p5⟩ := hpb4.all
      go_wp2
      go_ret
      exact ⟨rfl, unhide HB4⟩
    · by_cases h2 : o = 2
      · subst h2
        rw [if_neg (by omega), if_pos (by omega)]
        go_enter Tryz.func36, Tryz.ntmps36
        go_upto_region 2 with fail
        rw [← unhide HW1, ← unhide HW2, ← unhide HW3]
        go_wp2_with fail
        refine (unhide HO).mono ?_
        rintro e w4 ⟨rfl, hb4⟩
        have har4 := (hb4.block _ s3).trans (unhide HAR)
        have a0 : w4.cell? ⟨w.heap.size + 1 + 1, 0, none⟩ = some (.int .i64 1) := by simp [World.cell?, har4]
        have a1 : w4.cell? ⟨w.heap.size + 1 + 1, 1, none⟩ = some (.int .i64 2) := by simp [World.cell?, har4]
        have hpb4 := (unhide HPB).below hb4 (unhide HPB).lt
        have HB4 := hide ((unhide HBW).trans (hb4.mono (unhide HBW).size))
        clear r0 r1 r2 r3 r4 r5 r6 r7 r8 r9 r10 r11 r12 p0 p1 p2 p3 p4 p5 hb4 har4
        obtain ⟨p0, p1, p2, p3, p4, p5⟩ := hpb4.all
        go_wp2
        go_ret
        exact ⟨rfl, unhide HB4⟩
      · rw [if_neg (by omega), if_neg (by omega)]
        have e1 : (o == 1) = false := by simp [h1]
        have e2 : (o == 2) = false := by simp [h2]
        clear h1 h2
        go_enter Tryz.func36, Tryz.ntmps36
        go_upto_region 2 with fail
        rw [← unhide HW1, ← unhide HW2, ← unhide HW3]
        go_wp2_with fail
        refine (unhide HO).mono ?_
        rintro e w4 ⟨rfl, hb4⟩
        have har4 := (hb4.block _ s3).trans (unhide HAR)
        have a0 : w4.cell? ⟨w.heap.size + 1 + 1, 0, none⟩ = some (.int .i64 1) := by simp [World.cell?, har4]
        have a1 : w4.cell? ⟨w.heap.size + 1 + 1, 1, none⟩ = some (.int .i64 2) := by simp [World.cell?, har4]
        have hpb4 := (unhide HPB).below hb4 (unhide HPB).lt
        have HB4 := hide ((unhide HBW).trans (hb4.mono (unhide HBW).size))
        clear r0 r1 r2 r3 r4 r5 r6 r7 r8 r9 r10 r11 r12 p0 p1 p2 p3 p4 p5 hb4 har4
        obtain ⟨p0, p1, p2, p3, p4, p5⟩ := hpb4.all
        go_wp2
        go_ret
        exact ⟨rfl, unhide HB4⟩
  · by_cases h1 : o = 1
    · subst h1
      rw [if_neg (by omega), if_pos (by omega)]
      go_enter Tryz.func36, Tryz.ntmps36
      go_upto_region 2 with fail
      rw [← unhide HW1, ← unhide HW2, ← unhide HW3]
      go_wp2_with fail
      refine (unhide HO).mono ?_
      rintro e w4 ⟨rfl, hb4⟩
      have har4 := (hb4.block _ s3).trans (unhide HAR)
      have a0 : w4.cell? ⟨w.heap.size + 1 + 1, 0, none⟩ = some (.int .i64 1) := by simp [World.cell?, har4]
      have a1 : w4.cell? ⟨w.heap.size + 1 + 1, 1, none⟩ = some (.int .i64 2) := by simp [World.cell?, har4]
      have hpb4 := (unhide HPB).below hb4 (unhide HPB).lt
      have HB4 := hide ((unhide HBW).trans (hb4.mono (unhide HBW).size))
      clear r0 r1 r2 r3 r4 r5 r6 r7 r8 r9 r10 r11 r12 p0 p1 p2 p3 p4 p5 hb4 har4
      obtain ⟨p0, p1, p2, p3, p4, p5⟩ := hpb4.all
      go_wp2
      go_ret
      exact ⟨rfl, unhide HB4⟩
    · by_cases h2 : o = 2
      · subst h2
        rw [if_pos (by omega)]
        go_enter Tryz.func36, Tryz.ntmps36
        go_upto_region 2 with fail
        rw [← unhide HW1, ← unhide HW2, ← unhide HW3]
        go_wp2_with fail
        refine (unhide HO).mono ?_
        rintro e w4 ⟨rfl, hb4⟩
        have har4 := (hb4.block _ s3).trans (unhide HAR)
        have a0 : w4.cell? ⟨w.heap.size + 1 + 1, 0, none⟩ = some (.int .i64 1) := by simp [World.cell?, har4]
        have a1 : w4.cell? ⟨w.heap.size + 1 + 1, 1, none⟩ = some (.int .i64 2) := by simp [World.cell?, har4]
        have hpb4 := (unhide HPB).below hb4 (unhide HPB).lt
        have HB4 := hide ((unhide HBW).trans (hb4.mono (unhide HBW).size))
        clear r0 r1 r2 r3 r4 r5 r6 r7 r8 r9 r10 r11 r12 p0 p1 p2 p3 p4 p5 hb4 har4
        obtain ⟨p0, p1, p2, p3, p4, p5⟩ := hpb4.all
        go_wp2
        go_ret
        exact ⟨rfl, unhide HB4⟩
      · rw [if_neg (by omega), if_neg (by omega)]
        have e1 : (o == 1) = false := by simp [h1]
        have e2 : (o == 2) = false := by simp [h2]
        clear h1 h2
        go_enter Tryz.func36, Tryz.ntmps36
        go_upto_region 2 with fail
        rw [← unhide HW1, ← unhide HW2, ← unhide HW3]
        go_wp2_with fail
        refine (unhide HO).mono ?_
        rintro e w4 ⟨rfl, hb4⟩
        have har4 := (hb4.block _ s3).trans (unhide HAR)
        have a0 : w4.cell? ⟨w.heap.size + 1 + 1, 0, none⟩ = some (.int .i64 1) := by simp [World.cell?, har4]
        have a1 : w4.cell? ⟨w.heap.size + 1 + 1, 1, none⟩ = some (.int .i64 2) := by simp [World.cell?, har4]
        have hpb4 := (unhide HPB).below hb4 (unhide HPB).lt
        have HB4 := hide ((unhide HBW).trans (hb4.mono (unhide HBW).size))
        clear r0 r1 r2 r3 r4 r5 r6 r7 r8 r9 r10 r11 r12 p0 p1 p2 p3 p4 p5 hb4 har4
        obtain ⟨p0, p1, p2, p3, p4, p5⟩ := hpb4.all
        go_wp2
        go_ret
        exact ⟨rfl, unhide HB4⟩
end Go.Proofs.YtbijadnekoeofaaGreatDoor
