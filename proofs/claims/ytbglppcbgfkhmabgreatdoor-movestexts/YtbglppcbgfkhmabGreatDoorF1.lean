/-
  MovesBack, walked, over what is known of the functions that it calls.
-/
import Derived.Test.YtbglppcbgfkhmabGreatDoorD4
import Derived.Test.YtbglppcbgfkhmabGreatDoorJ34
import Derived.Deep.CutRange
namespace Go.Proofs.YtbglppcbgfkhmabGreatDoor
open Go.RowKit
attribute [local go_sem ↓] Go.wp_at_zero Go.wp_at_succ

theorem isPb.setAll6 {w : World} {b : Nat} {W H T : Int} {C A B : ByteArray} (h : isPb w b W H T C A B) (W' H' T' : Int) (C' A' B' : ByteArray) : isPb ((((((w.setCell ⟨b, 0, none⟩ (.int .i64 W')).setCell ⟨b, 1, none⟩ (.int .i64 H')).setCell ⟨b, 2, none⟩ (.string C')).setCell ⟨b, 3, none⟩ (.int .i64 T')).setCell ⟨b, 4, none⟩ (.string A')).setCell ⟨b, 5, none⟩ (.string B')) b W' H' T' C' A' B' := by
  unfold isPb at h ⊢; simp [World.setCell, Array.getElem?_modify, h]
theorem isPb.frozen6 {w : World} {b : Nat} {W H T : Int} {C A B : ByteArray} (h : isPb w b W H T C A B) (k : Nat) : w.frozen? ⟨b, k, none⟩ = false := frozen_of_row w b k _ _ h
theorem below_set6B {B : Nat} {w u : World} {b : Nat} (h : Below B w u) (hb : B ≤ b) (x0 x1 x2 x3 x4 x5 : Value) : Below B w ((((((u.setCell ⟨b, 0, none⟩ x0).setCell ⟨b, 1, none⟩ x1).setCell ⟨b, 2, none⟩ x2).setCell ⟨b, 3, none⟩ x3).setCell ⟨b, 4, none⟩ x4).setCell ⟨b, 5, none⟩ x5) :=
  (((((h.setCell (p := ⟨b, 0, none⟩) hb x0).setCell (p := ⟨b, 1, none⟩) hb x1).setCell (p := ⟨b, 2, none⟩) hb x2).setCell (p := ⟨b, 3, none⟩) hb x3).setCell (p := ⟨b, 4, none⟩) hb x4).setCell (p := ⟨b, 5, none⟩) hb x5
theorem eqMove_self (w : World) (f t : Int) (c : Nat) : (Op.equalIn 10000 29 (.agg #[.int .i64 f, .int .i64 t, .int .u8 (c : Int)]) (.agg #[.int .i64 f, .int .i64 t, .int .u8 (c : Int)])).run Tryz.prog w = .ok true w := by
  rw [eqMove]
  simp

set_option maxHeartbeats 4000000 in
set_option maxRecDepth 100000 in
theorem back_no (v0 v1 v2 v3 v4 v5 v6 v7 v8 v9 v10 v11 v12 : Value) (W H T : Int) (C A B : ByteArray) (w : World)
    (hMv : ∀ u, Below w.heap.size w u → Calls Tryz.prog 21 #[] u fun e w' => e = .returned (.bool true) ∧ Below u.heap.size u w')
    (hM0 : ∀ u, Below w.heap.size w u → Calls Tryz.prog 7 #[.agg #[v0, v1, v2, v3, v4, v5, v6, v7, v8, v9, v10, v11, v12], .agg #[.int .i64 W, .int .i64 H, .string C, .int .i64 T, .string A, .string B]] u fun e w' => e = .returned (.tuple #[.slice none 0 0, .int .i64 1]) ∧ Below u.heap.size u w') :
    Calls Tryz.prog 6 #[.agg #[v0, v1, v2, v3, v4, v5, v6, v7, v8, v9, v10, v11, v12], .agg #[.int .i64 W, .int .i64 H, .string C, .int .i64 T, .string A, .string B]] w fun e w' => e = .returned (.bool true) ∧ Below w.heap.size w w' := by
  obtain ⟨w1, hw1⟩ : ∃ w1, w1 = w.alloc (.cells #[v0, v1, v2, v3, v4, v5, v6, v7, v8, v9, v10, v11, v12] 27 (0, 0)) := ⟨_, rfl⟩
  obtain ⟨w2, hw2⟩ : ∃ w2, w2 = w1.alloc (.cells #[.int .i64 W, .int .i64 H, .string C, .int .i64 T, .string A, .string B] 24 (0, 0)) := ⟨_, rfl⟩
  have hb1 : Below w.heap.size w w1 := by rw [hw1]; exact (Below.refl _ _).alloc (Nat.le_refl _) _
  have hb2 : Below w1.heap.size w1 w2 := by rw [hw2]; exact (Below.refl _ _).alloc (Nat.le_refl _) _
  have s1 : w1.heap.size = w.heap.size + 1 := by rw [hw1]; simp
  have s2 : w2.heap.size = w.heap.size + 2 := by rw [hw2]; simp [s1]
  have hmf2 : MF w v0 v1 v2 v3 v4 v5 v6 v7 v8 v9 v10 v11 v12 W H T C A B w2 :=
    ⟨isRu.below (show isRu w1 w.heap.size v0 v1 v2 v3 v4 v5 v6 v7 v8 v9 v10 v11 v12 by rw [hw1]; exact heap_alloc_new w _) hb2 (by omega), by rw [hw2, ← s1]; exact heap_alloc_new w1 _, hb1.trans (hb2.mono (by omega)), by omega⟩
  have HMF := hide hmf2
  have HW1 := hide hw1
  have HW2 := hide hw2
  have HMV := hide hMv
  have HM0 := hide hM0
  clear hw1 hw2 hb1 hb2 s1 s2 hmf2 hMv hM0
  go_enter Tryz.func6, Tryz.ntmps6
  go_wp2_with fail
  rw [← unhide HW1, ← unhide HW2]
  refine (unhide HMV _ (unhide HMF).bw).mono ?_
  rintro e w3 ⟨rfl, hb3⟩
  have HMF3 := hide ((unhide HMF).step hb3)
  clear HMF hb3 HW1 HW2 HMV
  obtain ⟨r0, r1, r2, r3, r4, r5, r6, r7, r8, r9, r10, r11, r12⟩ := (unhide HMF3).ru.cells
  obtain ⟨p0, p1, p2, p3, p4, p5⟩ := (unhide HMF3).pb.all
  go_wp2_with fail
  refine (unhide HM0 _ (unhide HMF3).bw).mono ?_
  rintro e w4 ⟨rfl, hb4⟩
  have HB4 := hide ((unhide HMF3).step hb4).bw
  clear HMF3 hb4 HM0 r0 r1 r2 r3 r4 r5 r6 r7 r8 r9 r10 r11 r12 p0 p1 p2 p3 p4 p5
  go_wp2
  go_ret
  exact ⟨rfl, unhide HB4⟩

/-- What the law's round needs of a move. -/
structure BackM (w : World) (v0 v1 v2 v3 v4 v5 v6 v7 v8 v9 v10 v11 v12 : Value) (W H T : Int) (C A B : ByteArray) (S : ByteArray) (q : Int × Int × ByteArray × ByteArray × ByteArray) (k : Nat) (m : Mv) : Prop where
  tx : ∀ u, Below w.heap.size w u → Calls Tryz.prog 16 #[.agg #[v0, v1, v2, v3, v4, v5, v6, v7, v8, v9, v10, v11, v12], .agg #[.int .i64 W, .int .i64 H, .string C, .int .i64 T, .string A, .string B], .agg #[.int .i64 m.f, .int .i64 (m.t : Int), .int .u8 (m.c : Int)]] u fun e w' => e = .returned (.tuple #[.string S, .int .i64 0]) ∧ Below u.heap.size u w'
  rd : ∀ u, Below w.heap.size w u → Calls Tryz.prog 17 #[.agg #[v0, v1, v2, v3, v4, v5, v6, v7, v8, v9, v10, v11, v12], .agg #[.int .i64 W, .int .i64 H, .string C, .int .i64 T, .string A, .string B], .string S] u fun e w' => e = .returned (.tuple #[.agg #[.int .i64 m.f, .int .i64 (m.t : Int), .int .u8 (m.c : Int)], .int .i64 0]) ∧ Below u.heap.size u w'
  ap : ∀ u, Below w.heap.size w u → Calls Tryz.prog 9 #[.agg #[v0, v1, v2, v3, v4, v5, v6, v7, v8, v9, v10, v11, v12], .agg #[.int .i64 W, .int .i64 H, .string C, .int .i64 T, .string A, .string B], .agg #[.int .i64 m.f, .int .i64 (m.t : Int), .int .u8 (m.c : Int)]] u fun e w' => e = .returned (.tuple #[.agg #[.int .i64 q.1, .int .i64 q.2.1, .string q.2.2.1, .int .i64 (1 - T), .string q.2.2.2.1, .string q.2.2.2.2], .int .i64 0]) ∧ Below u.heap.size u w'
  ck : ∀ u, Calls Tryz.prog 26 #[.agg #[.int .i64 q.1, .int .i64 q.2.1, .string q.2.2.1, .int .i64 (1 - T), .string q.2.2.2.1, .string q.2.2.2.2]] u fun e w' => e = .returned (.int .i64 0) ∧ Below u.heap.size u w'
  cq : ∀ u, Below w.heap.size w u → Calls Tryz.prog 18 #[.agg #[v0, v1, v2, v3, v4, v5, v6, v7, v8, v9, v10, v11, v12], .agg #[.int .i64 q.1, .int .i64 q.2.1, .string q.2.2.1, .int .i64 (1 - T), .string q.2.2.2.1, .string q.2.2.2.2], .int .i64 1] u fun e w' => e = .returned (.tuple #[.int .i64 (k : Int), .int .i64 0]) ∧ Below u.heap.size u w'
  kb : k ≤ 4608

set_option maxHeartbeats 8000000 in
set_option maxRecDepth 100000 in
theorem back_walk (v0 v1 v2 v3 v4 v5 v6 v7 v8 v9 v10 v11 v12 : Value) (W H T : Int) (C A B : ByteArray) (L : List Mv) (tx : Mv → ByteArray) (q : Mv → Int × Int × ByteArray × ByteArray × ByteArray) (k : Mv → Nat) (w : World) (hT : 0 ≤ T ∧ T ≤ 1) (hll : L.length ≤ 4608)
    (hMv : ∀ u, Below w.heap.size w u → Calls Tryz.prog 21 #[] u fun e w' => e = .returned (.bool true) ∧ Below u.heap.size u w')
    (hM0 : ∀ u, Below w.heap.size w u → Calls Tryz.prog 7 #[.agg #[v0, v1, v2, v3, v4, v5, v6, v7, v8, v9, v10, v11, v12], .agg #[.int .i64 W, .int .i64 H, .string C, .int .i64 T, .string A, .string B]] u fun e w' => ∃ v, e = .returned (.tuple #[v, .int .i64 0]) ∧ w'.ownsRow u.heap.size 29 3 v L.length (mvals L) ∧ Below u.heap.size u w')
    (hC1 : ∀ u, Below w.heap.size w u → Calls Tryz.prog 18 #[.agg #[v0, v1, v2, v3, v4, v5, v6, v7, v8, v9, v10, v11, v12], .agg #[.int .i64 W, .int .i64 H, .string C, .int .i64 T, .string A, .string B], .int .i64 1] u fun e w' => e = .returned (.tuple #[.int .i64 (L.length : Nat), .int .i64 0]) ∧ Below u.heap.size u w')
    (hC2 : ∀ u, Below w.heap.size w u → Calls Tryz.prog 18 #[.agg #[v0, v1, v2, v3, v4, v5, v6, v7, v8, v9, v10, v11, v12], .agg #[.int .i64 W, .int .i64 H, .string C, .int .i64 T, .string A, .string B], .int .i64 2] u fun e w' => e = .returned (if 100000 < (L.map k).sum then .tuple #[.int .i64 0, .int .i64 2] else .tuple #[.int .i64 ((L.map k).sum : Nat), .int .i64 0]) ∧ Below u.heap.size u w')
    (hBM : ∀ m ∈ L, BackM w v0 v1 v2 v3 v4 v5 v6 v7 v8 v9 v10 v11 v12 W H T C A B (tx m) (q m) (k m) m) :
    Calls Tryz.prog 6 #[.agg #[v0, v1, v2, v3, v4, v5, v6, v7, v8, v9, v10, v11, v12], .agg #[.int .i64 W, .int .i64 H, .string C, .int .i64 T, .string A, .string B]] w fun e w' => e = .returned (.bool true) ∧ Below w.heap.size w w' := by
  obtain ⟨w1, hw1⟩ : ∃ w1, w1 = w.alloc (.cells #[v0, v1, v2, v3, v4, v5, v6, v7, v8, v9, v10, v11, v12] 27 (0, 0)) := ⟨_, rfl⟩
  obtain ⟨w2, hw2⟩ : ∃ w2, w2 = w1.alloc (.cells #[.int .i64 W, .int .i64 H, .string C, .int .i64 T, .string A, .string B] 24 (0, 0)) := ⟨_, rfl⟩
  have hb1 : Below w.heap.size w w1 := by rw [hw1]; exact (Below.refl _ _).alloc (Nat.le_refl _) _
  have hb2 : Below w1.heap.size w1 w2 := by rw [hw2]; exact (Below.refl _ _).alloc (Nat.le_refl _) _
  have s1 : w1.heap.size = w.heap.size + 1 := by rw [hw1]; simp
  have s2 : w2.heap.size = w.heap.size + 2 := by rw [hw2]; simp [s1]
  have hmf2 : MF w v0 v1 v2 v3 v4 v5 v6 v7 v8 v9 v10 v11 v12 W H T C A B w2 :=
    ⟨isRu.below (show isRu w1 w.heap.size v0 v1 v2 v3 v4 v5 v6 v7 v8 v9 v10 v11 v12 by rw [hw1]; exact heap_alloc_new w _) hb2 (by omega), by rw [hw2, ← s1]; exact heap_alloc_new w1 _, hb1.trans (hb2.mono (by omega)), by omega⟩
  have HMF := hide hmf2
  have HW1 := hide hw1
  have HW2 := hide hw2
  have HMV := hide hMv
  have HM0 := hide hM0
  clear hw1 hw2 hb1 hb2 s1 s2 hmf2 hMv hM0
  obtain ⟨n, hn⟩ : ∃ n, n = L.length := ⟨_, rfl⟩
  rw [← hn] at HM0 hll hC1
  have hn9 : n ≤ 9223372036854775807 := by omega
  have HN := hide hn
  have HC1 := hide hC1
  have HC2 := hide hC2
  have HBM := hide hBM
  clear hC1 hC2 hBM hn
  go_enter Tryz.func6, Tryz.ntmps6
  go_wp2_with fail
  rw [← unhide HW1, ← unhide HW2]
  refine (unhide HMV _ (unhide HMF).bw).mono ?_
  rintro e w3 ⟨rfl, hb3⟩
  have HMF3 := hide ((unhide HMF).step hb3)
  clear HMF hb3 HW1 HW2 HMV
  obtain ⟨r0, r1, r2, r3, r4, r5, r6, r7, r8, r9, r10, r11, r12⟩ := (unhide HMF3).ru.cells
  obtain ⟨p0, p1, p2, p3, p4, p5⟩ := (unhide HMF3).pb.all
  go_wp2_with fail
  refine (unhide HM0 _ (unhide HMF3).bw).mono ?_
  rintro e w4 ⟨va, rfl, hown, hb4⟩
  obtain ⟨lo1, lc1, rfl⟩ := row_len hown
  have hl4 : isMvs w4 (.slice lo1 n lc1) L := isMvs.of (by rw [← unhide HN]; exact hown)
  have HL4 := hide hl4
  have HMF4 := hide ((unhide HMF3).step hb4)
  clear HMF3 hb4 HM0 hown hl4 r0 r1 r2 r3 r4 r5 r6 r7 r8 r9 r10 r11 r12 p0 p1 p2 p3 p4 p5
  obtain ⟨r0, r1, r2, r3, r4, r5, r6, r7, r8, r9, r10, r11, r12⟩ := (unhide HMF4).ru.cells
  obtain ⟨p0, p1, p2, p3, p4, p5⟩ := (unhide HMF4).pb.all
  go_wp2_with fail
  refine (unhide HC1 _ (unhide HMF4).bw).mono ?_
  rintro e wc ⟨rfl, hbc⟩
  have HLD := hide ((unhide HL4).below hbc)
  have HMFC := hide ((unhide HMF4).step hbc)
  clear HMF4 HL4 hbc HC1 r0 r1 r2 r3 r4 r5 r6 r7 r8 r9 r10 r11 r12 p0 p1 p2 p3 p4 p5
  go_wp2_with fail
  go_loopw [9, 48] (fun sv iv wr => ∃ i sn : Nat, sv = .int .i64 (sn : Int) ∧ iv = .int .i64 (i : Int) ∧ i ≤ n ∧ sn ≤ i * 4608 ∧ Hid (sn = ((L.take i).map k).sum) ∧ Hid (Below wc.heap.size wc wr)) (fun _ iv _ => n - (intOf iv).toNat)
  case atStart => exact ⟨0, 0, rfl, rfl, Nat.zero_le _, by omega, hide rfl, hide (Below.refl _ _)⟩
  case round =>
    obtain ⟨i, sn, rfl, rfl, hi, hsn, HSN, HB⟩ := hrel
    by_cases hlt : i < n
    · skip
      have hlti : (i : Int) < (n : Int) := by omega
      have hi0 : (0 : Int) ≤ (i : Int) := by omega
      have hil : i < L.length := by rw [← unhide HN]; exact hlt
      obtain ⟨m, hm⟩ : ∃ m, m = L[i] := ⟨_, rfl⟩
      have hmi : L[i]? = some m := by rw [hm]; exact List.getElem?_eq_getElem hil
      have hbm := unhide HBM m (List.mem_of_getElem? hmi)
      obtain ⟨S, hS⟩ : ∃ S, S = tx m := ⟨_, rfl⟩
      obtain ⟨qv, hqv⟩ : ∃ qv, qv = q m := ⟨_, rfl⟩
      obtain ⟨Q0, Q1, Q2, Q4, Q5⟩ := qv
      obtain ⟨kk, hkk⟩ : ∃ kk, kk = k m := ⟨_, rfl⟩
      rw [← hS, ← hqv, ← hkk] at hbm
      have HTx := hide hbm.tx
      have HRd := hide hbm.rd
      have HAp := hide hbm.ap
      have HCk := hide hbm.ck
      have HCq := hide hbm.cq
      have hkb := hbm.kb
      dsimp only at HAp HCk HCq
      have hsum : ((L.take (i + 1)).map k).sum = ((L.take i).map k).sum + kk := by
        rw [List.take_add_one, hmi, hkk]
        simp
      obtain ⟨ao, cap, e1, hle, hmx, hcs⟩ := (unhide HLD).below (unhide HB)
      obtain ⟨g, off, eg, hgk, c0, c1, c2⟩ := hcs i m hmi
      simp only [Value.slice.injEq] at e1
      obtain ⟨e1, e2, e3⟩ := e1
      subst eg
      subst e1
      subst e3
      unfold maxLen at hmx
      rw [← unhide HN] at hle
      have hnx : n ≤ 9223372036854775807 := by omega
      have hmfr := (unhide HMFC).step (unhide HB)
      have hszr := hmfr.sz
      have hbwr := hmfr.bw
      have hHS : ∀ u, Below wr.heap.size wr u → (u.cell? ⟨w.heap.size, 0, none⟩ = some v0 ∧ u.cell? ⟨w.heap.size, 1, none⟩ = some v1 ∧ u.cell? ⟨w.heap.size, 2, none⟩ = some v2 ∧ u.cell? ⟨w.heap.size, 3, none⟩ = some v3 ∧ u.cell? ⟨w.heap.size, 4, none⟩ = some v4 ∧ u.cell? ⟨w.heap.size, 5, none⟩ = some v5 ∧ u.cell? ⟨w.heap.size, 6, none⟩ = some v6 ∧ u.cell? ⟨w.heap.size, 7, none⟩ = some v7 ∧ u.cell? ⟨w.heap.size, 8, none⟩ = some v8 ∧ u.cell? ⟨w.heap.size, 9, none⟩ = some v9 ∧ u.cell? ⟨w.heap.size, 10, none⟩ = some v10 ∧ u.cell? ⟨w.heap.size, 11, none⟩ = some v11 ∧ u.cell? ⟨w.heap.size, 12, none⟩ = some v12 ∧ u.cell? ⟨w.heap.size + 1, 0, none⟩ = some (.int .i64 W) ∧ u.cell? ⟨w.heap.size + 1, 1, none⟩ = some (.int .i64 H) ∧ u.cell? ⟨w.heap.size + 1, 2, none⟩ = some (.string C) ∧ u.cell? ⟨w.heap.size + 1, 3, none⟩ = some (.int .i64 T) ∧ u.cell? ⟨w.heap.size + 1, 4, none⟩ = some (.string A) ∧ u.cell? ⟨w.heap.size + 1, 5, none⟩ = some (.string B) ∧ u.cell? ⟨g, off + i * 3, none⟩ = some (.int .i64 m.f) ∧ u.cell? ⟨g, off + i * 3 + 1, none⟩ = some (.int .i64 (m.t : Int)) ∧ u.cell? ⟨g, off + i * 3 + 2, none⟩ = some (.int .u8 (m.c : Int)) ∧ Below wr.heap.size wr u) := fun u hu => by
        obtain ⟨x0, x1, x2, x3, x4, x5, x6, x7, x8, x9, x10, x11, x12⟩ := (hmfr.ru.below hu (by omega)).cells
        obtain ⟨y0, y1, y2, y3, y4, y5⟩ := (hmfr.pb.below hu (by omega)).all
        exact ⟨x0, x1, x2, x3, x4, x5, x6, x7, x8, x9, x10, x11, x12, y0, y1, y2, y3, y4, y5, (hu.cell (p := ⟨g, off + i * 3, none⟩) hgk).trans c0, (hu.cell (p := ⟨g, off + i * 3 + 1, none⟩) hgk).trans c1, (hu.cell (p := ⟨g, off + i * 3 + 2, none⟩) hgk).trans c2, hu⟩
      have HS := hide hHS
      have HBW := hide (fun u (hu : Below wr.heap.size wr u) => hbwr.trans (hu.mono hbwr.size))
      have HSUM := hide hsum
      have HB0 : Hid (Below wr.heap.size wr wr.drew) := hide (Below.refl _ _).drew
      clear hHS hm hmi hbm hS hqv hkk hcs e2 hmfr hil hsum c0 c1 c2 hbwr
      go_upto_region 13 with fail
      go_region_held3 (fun u => u.cell? ⟨w.heap.size, 0, none⟩ = some v0 ∧ u.cell? ⟨w.heap.size, 1, none⟩ = some v1 ∧ u.cell? ⟨w.heap.size, 2, none⟩ = some v2 ∧ u.cell? ⟨w.heap.size, 3, none⟩ = some v3 ∧ u.cell? ⟨w.heap.size, 4, none⟩ = some v4 ∧ u.cell? ⟨w.heap.size, 5, none⟩ = some v5 ∧ u.cell? ⟨w.heap.size, 6, none⟩ = some v6 ∧ u.cell? ⟨w.heap.size, 7, none⟩ = some v7 ∧ u.cell? ⟨w.heap.size, 8, none⟩ = some v8 ∧ u.cell? ⟨w.heap.size, 9, none⟩ = some v9 ∧ u.cell? ⟨w.heap.size, 10, none⟩ = some v10 ∧ u.cell? ⟨w.heap.size, 11, none⟩ = some v11 ∧ u.cell? ⟨w.heap.size, 12, none⟩ = some v12 ∧ u.cell? ⟨w.heap.size + 1, 0, none⟩ = some (.int .i64 W) ∧ u.cell? ⟨w.heap.size + 1, 1, none⟩ = some (.int .i64 H) ∧ u.cell? ⟨w.heap.size + 1, 2, none⟩ = some (.string C) ∧ u.cell? ⟨w.heap.size + 1, 3, none⟩ = some (.int .i64 T) ∧ u.cell? ⟨w.heap.size + 1, 4, none⟩ = some (.string A) ∧ u.cell? ⟨w.heap.size + 1, 5, none⟩ = some (.string B) ∧ u.cell? ⟨g, off + i * 3, none⟩ = some (.int .i64 m.f) ∧ u.cell? ⟨g, off + i * 3 + 1, none⟩ = some (.int .i64 (m.t : Int)) ∧ u.cell? ⟨g, off + i * 3 + 2, none⟩ = some (.int .u8 (m.c : Int)) ∧ Below wr.heap.size wr u)
        (first
          | exact unhide HS _ (unhide HB0)
          | exact unhide HS _ (unhide HX))
        (first
          | (go_at_call 16; (with_reducible refine (unhide HTx _ (unhide HBW _ (unhide HB0))).mono ?_); rintro e wx ⟨rfl, hbx⟩
             have HX : Hid (Below wr.heap.size wr wx) := hide ((unhide HB0).trans (hbx.mono (unhide HB0).size))
             clear hbx))
      obtain ⟨r0, r1, r2, r3, r4, r5, r6, r7, r8, r9, r10, r11, r12, p0, p1, p2, p3, p4, p5, -⟩ := unhide HS _ (unhide HX)
      go_wp2_with fail
      refine (unhide HRd _ (unhide HBW _ (unhide HX))).mono ?_
      rintro e w5 ⟨rfl, hb5⟩
      obtain ⟨w6, hw6⟩ : ∃ w6, w6 = w5.alloc (.cells #[.int .i64 m.f, .int .i64 (m.t : Int), .int .u8 (m.c : Int)] 29 (0, 0)) := ⟨_, rfl⟩
      have hb56 : Below w5.heap.size w5 w6 := by rw [hw6]; exact (Below.refl _ _).alloc (Nat.le_refl _) _
      have hmb6 : isMb w6 w5.heap.size m.f m.t m.c := by rw [hw6]; exact heap_alloc_new w5 _
      have hx5 := (unhide HX).trans (hb5.mono (unhide HX).size)
      have hx6 := hx5.trans (hb56.mono hx5.size)
      have HX06 := hide hx6
      have HX6 := hide hx6
      have HMB6 := hide hmb6
      have HW6 := hide hw6
      have HD6 : Hid (Below w6.heap.size w6 w6.drew) := hide (Below.refl _ _).drew
      have HBA : Hid (∀ o, Below w6.heap.size w6 (w6.alloc o).drew) := hide fun o => ((Below.refl _ _).alloc (Nat.le_refl _) o).drew
      have HBA2 : Hid (∀ o, Below w6.heap.size w6 (w6.drew.alloc o)) := hide fun o => (unhide HD6).alloc (unhide HD6).size o
      have HS6 := hide (fun u (hu : Below w6.heap.size w6 u) => unhide HS u ((unhide HX6).trans (hu.mono (unhide HX6).size)))
      have HBW6 := hide (fun u (hu : Below w6.heap.size w6 u) => unhide HBW u ((unhide HX6).trans (hu.mono (unhide HX6).size)))
      clear r0 r1 r2 r3 r4 r5 r6 r7 r8 r9 r10 r11 r12 p0 p1 p2 p3 p4 p5 hb5 hb56 hmb6 hx5 hx6 hw6 HRd HTx HB0 HX
      go_upto_region 15 with fail
      rw [← unhide HW6]
      clear HW6
      apply cutFor2M (fun b v => isPb v b Q0 Q1 (1 - T) Q2 Q4 Q5 ∧ Below w6.heap.size w6 v ∧ w6.heap.size ≤ b)
      case k =>
        intro key
        go_region_held3 (fun u => u.cell? ⟨w.heap.size, 0, none⟩ = some v0 ∧ u.cell? ⟨w.heap.size, 1, none⟩ = some v1 ∧ u.cell? ⟨w.heap.size, 2, none⟩ = some v2 ∧ u.cell? ⟨w.heap.size, 3, none⟩ = some v3 ∧ u.cell? ⟨w.heap.size, 4, none⟩ = some v4 ∧ u.cell? ⟨w.heap.size, 5, none⟩ = some v5 ∧ u.cell? ⟨w.heap.size, 6, none⟩ = some v6 ∧ u.cell? ⟨w.heap.size, 7, none⟩ = some v7 ∧ u.cell? ⟨w.heap.size, 8, none⟩ = some v8 ∧ u.cell? ⟨w.heap.size, 9, none⟩ = some v9 ∧ u.cell? ⟨w.heap.size, 10, none⟩ = some v10 ∧ u.cell? ⟨w.heap.size, 11, none⟩ = some v11 ∧ u.cell? ⟨w.heap.size, 12, none⟩ = some v12 ∧ u.cell? ⟨w.heap.size + 1, 0, none⟩ = some (.int .i64 W) ∧ u.cell? ⟨w.heap.size + 1, 1, none⟩ = some (.int .i64 H) ∧ u.cell? ⟨w.heap.size + 1, 2, none⟩ = some (.string C) ∧ u.cell? ⟨w.heap.size + 1, 3, none⟩ = some (.int .i64 T) ∧ u.cell? ⟨w.heap.size + 1, 4, none⟩ = some (.string A) ∧ u.cell? ⟨w.heap.size + 1, 5, none⟩ = some (.string B) ∧ u.cell? ⟨g, off + i * 3, none⟩ = some (.int .i64 m.f) ∧ u.cell? ⟨g, off + i * 3 + 1, none⟩ = some (.int .i64 (m.t : Int)) ∧ u.cell? ⟨g, off + i * 3 + 2, none⟩ = some (.int .u8 (m.c : Int)) ∧ Below wr.heap.size wr u)
          (first
            | with_reducible exact unhide HS6 _ (unhide HD6)
            | with_reducible exact unhide HS6 _ (unhide HBA _)
            | with_reducible exact unhide HS6 _ (unhide HBA2 _)
            | with_reducible exact unhide HS6 _ (unhide HBX)
            | with_reducible exact unhide HS6 _ (unhide HBXA _)
            | with_reducible exact unhide HS6 _ (unhide HBXS _ _ _ _ _ _)
            | with_reducible exact unhide HS6 _ (unhide HBXS2 _ _ _ _ _ _ _))
          (first
            | (go_at_call 9; (first | (with_reducible refine (unhide HAp _ (unhide HBW6 _ (unhide HD6))).mono ?_) | (with_reducible refine (unhide HAp _ (unhide HBW6 _ (unhide HBA _))).mono ?_)); rintro e wx ⟨rfl, hb⟩
               have HBX : Hid (Below w6.heap.size w6 wx) := hide (by first | exact (unhide HD6).trans (hb.mono (unhide HD6).size) | exact (unhide HBA _).trans (hb.mono (unhide HBA _).size))
               have HBXA : Hid (∀ o, Below w6.heap.size w6 (wx.alloc o)) := hide (fun o => (unhide HBX).alloc (unhide HBX).size o)
               have HBXS : Hid (∀ x0 x1 x2 x3 x4 x5 : Value, Below w6.heap.size w6 ((((((wx.setCell ⟨w6.heap.size, 0, none⟩ x0).setCell ⟨w6.heap.size, 1, none⟩ x1).setCell ⟨w6.heap.size, 2, none⟩ x2).setCell ⟨w6.heap.size, 3, none⟩ x3).setCell ⟨w6.heap.size, 4, none⟩ x4).setCell ⟨w6.heap.size, 5, none⟩ x5)) := hide (fun x0 x1 x2 x3 x4 x5 => below_set6B (unhide HBX) (Nat.le_refl _) x0 x1 x2 x3 x4 x5)
               have HBXS2 : Hid (∀ o (x0 x1 x2 x3 x4 x5 : Value), Below w6.heap.size w6 (((((((wx.alloc o).setCell ⟨wx.heap.size, 0, none⟩ x0).setCell ⟨wx.heap.size, 1, none⟩ x1).setCell ⟨wx.heap.size, 2, none⟩ x2).setCell ⟨wx.heap.size, 3, none⟩ x3).setCell ⟨wx.heap.size, 4, none⟩ x4).setCell ⟨wx.heap.size, 5, none⟩ x5)) := hide (fun o x0 x1 x2 x3 x4 x5 => below_set6B (unhide HBXA o) (unhide HBX).size x0 x1 x2 x3 x4 x5)
               try (have HXZ : Hid (isPb wx w6.heap.size 0 0 0 ⟨#[]⟩ ⟨#[]⟩ ⟨#[]⟩) := hide ((hb.block w6.heap.size (by simp)).trans (heap_alloc_new w6 _)); obtain ⟨x0, x1, x2, x3, x4, x5⟩ := (unhide HXZ).all; have xf0 := (unhide HXZ).frozen6 0; have xf1 := (unhide HXZ).frozen6 1; have xf2 := (unhide HXZ).frozen6 2; have xf3 := (unhide HXZ).frozen6 3; have xf4 := (unhide HXZ).frozen6 4; have xf5 := (unhide HXZ).frozen6 5)
               clear hb))
        all_goals first
          | (have hfin : isPb (wx.alloc (.cells #[.int .i64 Q0, .int .i64 Q1, .string Q2, .int .i64 (1 - T), .string Q4, .string Q5] 24 (0, 0))) wx.heap.size Q0 Q1 (1 - T) Q2 Q4 Q5 ∧ Below w6.heap.size w6 (wx.alloc (.cells #[.int .i64 Q0, .int .i64 Q1, .string Q2, .int .i64 (1 - T), .string Q4, .string Q5] 24 (0, 0))) ∧ w6.heap.size ≤ wx.heap.size := ⟨heap_alloc_new wx _, unhide HBXA _, (unhide HBX).size⟩
             generalize wx.alloc (.cells #[.int .i64 Q0, .int .i64 Q1, .string Q2, .int .i64 (1 - T), .string Q4, .string Q5] 24 (0, 0)) = v at hfin ⊢
             generalize wx.heap.size = bx at hfin ⊢
             exact unhide key bx v hfin)
          | (have hfin := And.intro ((unhide HXZ).setAll6 Q0 Q1 (1 - T) Q2 Q4 Q5) (And.intro (unhide HBXS (.int .i64 Q0) (.int .i64 Q1) (.string Q2) (.int .i64 (1 - T)) (.string Q4) (.string Q5)) (Nat.le_refl w6.heap.size))
             generalize (((((wx.setCell ⟨w6.heap.size, 0, none⟩ (.int .i64 Q0)).setCell ⟨w6.heap.size, 1, none⟩ (.int .i64 Q1)).setCell ⟨w6.heap.size, 2, none⟩ (.string Q2)).setCell ⟨w6.heap.size, 3, none⟩ (.int .i64 (1 - T))).setCell ⟨w6.heap.size, 4, none⟩ (.string Q4)).setCell ⟨w6.heap.size, 5, none⟩ (.string Q5) = v at hfin ⊢
             obtain ⟨bx, hbxe⟩ : ∃ bx, bx = w6.heap.size := ⟨_, rfl⟩
             rw [← hbxe]
             exact unhide key bx v (by rw [hbxe]; exact hfin))
      rintro bx v ⟨hxb, hbv, hbx⟩
      have hbxl := hxb.lt
      have hmbv := (unhide HMB6).below hbv (unhide HMB6).lt
      have HXB := hide hxb
      have HMBV := hide hmbv
      have hHS2 : ∀ u, Below v.heap.size v u → (u.cell? ⟨w5.heap.size, 0, none⟩ = some (.int .i64 m.f) ∧ u.cell? ⟨w5.heap.size, 1, none⟩ = some (.int .i64 (m.t : Int)) ∧ u.cell? ⟨w5.heap.size, 2, none⟩ = some (.int .u8 (m.c : Int)) ∧ u.cell? ⟨g, off + i * 3, none⟩ = some (.int .i64 m.f) ∧ u.cell? ⟨g, off + i * 3 + 1, none⟩ = some (.int .i64 (m.t : Int)) ∧ u.cell? ⟨g, off + i * 3 + 2, none⟩ = some (.int .u8 (m.c : Int)) ∧ u.cell? ⟨w.heap.size + 1, 3, none⟩ = some (.int .i64 T) ∧ u.cell? ⟨bx, 0, none⟩ = some (.int .i64 Q0) ∧ u.cell? ⟨bx, 1, none⟩ = some (.int .i64 Q1) ∧ u.cell? ⟨bx, 2, none⟩ = some (.string Q2) ∧ u.cell? ⟨bx, 3, none⟩ = some (.int .i64 (1 - T)) ∧ u.cell? ⟨bx, 4, none⟩ = some (.string Q4) ∧ u.cell? ⟨bx, 5, none⟩ = some (.string Q5)) := fun u hu => by
        obtain ⟨a0, a1, a2⟩ := (hmbv.below hu hmbv.lt).all
        obtain ⟨b0, b1, b2, b3, b4, b5⟩ := (hxb.below hu hxb.lt).all
        obtain ⟨-, -, -, -, -, -, -, -, -, -, -, -, -, -, -, -, d3, -, -, d0, d1, d2, -⟩ := unhide HS6 u (hbv.trans (hu.mono hbv.size))
        exact ⟨a0, a1, a2, d0, d1, d2, d3, b0, b1, b2, b3, b4, b5⟩
      have HS2 := hide hHS2
      have HV := hide hbv
      have HDV : Hid (Below v.heap.size v v.drew) := hide (Below.refl _ _).drew
      have heq := fun u => eqMove_self u m.f m.t m.c
      have hw1T : IntKind.i64.wrap (1 - T) = 1 - T := by unfold IntKind.wrap; simp [IntKind.signed, IntKind.bits]; omega
      clear hxb hbv hmbv hHS2 HMB6 HD6 HBA HBA2 HAp
      go_upto_region 16 with fail
      go_region_held3 (fun u => u.cell? ⟨w5.heap.size, 0, none⟩ = some (.int .i64 m.f) ∧ u.cell? ⟨w5.heap.size, 1, none⟩ = some (.int .i64 (m.t : Int)) ∧ u.cell? ⟨w5.heap.size, 2, none⟩ = some (.int .u8 (m.c : Int)) ∧ u.cell? ⟨g, off + i * 3, none⟩ = some (.int .i64 m.f) ∧ u.cell? ⟨g, off + i * 3 + 1, none⟩ = some (.int .i64 (m.t : Int)) ∧ u.cell? ⟨g, off + i * 3 + 2, none⟩ = some (.int .u8 (m.c : Int)) ∧ u.cell? ⟨w.heap.size + 1, 3, none⟩ = some (.int .i64 T) ∧ u.cell? ⟨bx, 0, none⟩ = some (.int .i64 Q0) ∧ u.cell? ⟨bx, 1, none⟩ = some (.int .i64 Q1) ∧ u.cell? ⟨bx, 2, none⟩ = some (.string Q2) ∧ u.cell? ⟨bx, 3, none⟩ = some (.int .i64 (1 - T)) ∧ u.cell? ⟨bx, 4, none⟩ = some (.string Q4) ∧ u.cell? ⟨bx, 5, none⟩ = some (.string Q5))
        (first
          | exact unhide HS2 _ (unhide HDV)
          | exact unhide HS2 _ (unhide HX))
        (first
          | (go_at_call 26; (with_reducible refine (unhide HCk _).mono ?_); rintro e wx ⟨rfl, hbx2⟩
             have HX : Hid (Below v.heap.size v wx) := hide ((unhide HDV).trans (hbx2.mono (unhide HDV).size))
             clear hbx2))
      all_goals
        have hx6 := (unhide HV).trans ((unhide HX).mono (unhide HV).size)
        obtain ⟨r0, r1, r2, r3, r4, r5, r6, r7, r8, r9, r10, r11, r12, -⟩ := unhide HS6 _ hx6
        obtain ⟨-, -, -, -, -, -, -, b0, b1, b2, b3, b4, b5⟩ := unhide HS2 _ (unhide HX)
        have HX6 := hide hx6
        clear hx6
        go_wp2_with fail
        refine (unhide HCq _ (unhide HBW6 _ (unhide HX6))).mono ?_
        rintro e w9 ⟨rfl, hb9⟩
        have hx9 := (unhide HX6).trans (hb9.mono (unhide HX6).size)
        have HX9 := hide hx9
        obtain ⟨s9, hs9⟩ : ∃ s9, s9 = sn + kk := ⟨_, rfl⟩
        have hadd : (sn : Int) + (kk : Int) = (s9 : Int) := by omega
        have hs9b : s9 ≤ (i + 1) * 4608 := by omega
        have hmul9 : (i + 1) * 4608 ≤ 4608 * 4608 := Nat.mul_le_mul (by omega) (Nat.le_refl _)
        have wadd : IntKind.i64.wrap (s9 : Int) = (s9 : Int) := wrapI (by omega)
        have HS9 : Hid (s9 = ((L.take (i + 1)).map k).sum) := hide (by rw [hs9, unhide HSUM, unhide HSN])
        clear hx9 hb9 r0 r1 r2 r3 r4 r5 r6 r7 r8 r9 r10 r11 r12 b0 b1 b2 b3 b4 b5 hs9
        go_wp2
        go_roundw
        case rel => exact ⟨i + 1, s9, rfl, by go_num, by omega, hs9b, HS9, hide ((unhide HB).trans (((unhide HX06).trans ((unhide HX9).mono (unhide HX06).size)).mono (unhide HB).size))⟩
        case measure => simp only [intOf]; omega
    · have hlti : ¬ (i : Int) < (n : Int) := by omega
      have hin : i = n := by omega
      have hs : sn = (L.map k).sum := by
        rw [unhide HSN, List.take_of_length_le (by rw [← unhide HN]; omega)]
      have hmf := (unhide HMFC).step (unhide HB)
      have HCC := hide (unhide HC2 wr hmf.bw)
      rw [← hs] at HCC
      obtain ⟨r0, r1, r2, r3, r4, r5, r6, r7, r8, r9, r10, r11, r12⟩ := hmf.ru.cells
      obtain ⟨p0, p1, p2, p3, p4, p5⟩ := hmf.pb.all
      have HBF := hide hmf.bw
      clear hmf hs HC2
      by_cases hgt : 100000 < sn
      · have hgti : (100000 : Int) < (sn : Int) := by omega
        rw [if_pos hgt] at HCC
        go_wp2_with fail
        refine (unhide HCC).mono ?_
        rintro e w9 ⟨rfl, hb9⟩
        have HB9 := hide ((unhide HBF).trans (hb9.mono (unhide HBF).size))
        clear hb9 r0 r1 r2 r3 r4 r5 r6 r7 r8 r9 r10 r11 r12 p0 p1 p2 p3 p4 p5
        go_wp2
        go_ret
        exact ⟨rfl, unhide HB9⟩
      · have hgti : ¬ (100000 : Int) < (sn : Int) := by omega
        rw [if_neg hgt] at HCC
        go_wp2_with fail
        refine (unhide HCC).mono ?_
        rintro e w9 ⟨rfl, hb9⟩
        have HB9 := hide ((unhide HBF).trans (hb9.mono (unhide HBF).size))
        clear hb9 r0 r1 r2 r3 r4 r5 r6 r7 r8 r9 r10 r11 r12 p0 p1 p2 p3 p4 p5
        go_wp2
        go_ret
        exact ⟨rfl, unhide HB9⟩
end Go.Proofs.YtbglppcbgfkhmabGreatDoor
