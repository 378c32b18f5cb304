/-
  gamelaw.MovesAll, walked: it answers true.
-/
import Derived.Test.YtbnohmnbhnineabGreatDoorJ28
import Derived.Test.YtbnohmnbhnineabGreatDoorV33
import Derived.Test.YtbnohmnbhnineabGreatDoorJ34
import Derived.Test.YtbnohmnbhnineabGreatDoorV16
namespace Go.Proofs.YtbnohmnbhnineabGreatDoor
open Go.RowKit
attribute [local go_sem ↓] Go.wp_at_zero Go.wp_at_succ

set_option maxHeartbeats 8000000 in
set_option maxRecDepth 100000 in
theorem law_no (v0 v1 v2 v3 v4 v5 v6 v7 v8 v9 v10 v11 v12 : Value) (W H T : Int) (C A B : ByteArray) (f t : Int) (c : Nat) (w : World)
    (hMO : ∀ u, Below w.heap.size w u → Calls Tryz.prog 7 #[.agg #[v0, v1, v2, v3, v4, v5, v6, v7, v8, v9, v10, v11, v12], .agg #[.int .i64 W, .int .i64 H, .string C, .int .i64 T, .string A, .string B]] u fun e u' => e = .returned (.tuple #[.slice none 0 0, .int .i64 1]) ∧ Below u.heap.size u u')
    (hOU : ∀ u, Below w.heap.size w u → Calls Tryz.prog 8 #[.agg #[v0, v1, v2, v3, v4, v5, v6, v7, v8, v9, v10, v11, v12], .agg #[.int .i64 W, .int .i64 H, .string C, .int .i64 T, .string A, .string B]] u fun e u' => e = .returned (.tuple #[.int .i64 0, .int .i64 1]) ∧ Below u.heap.size u u')
    (hAP : ∀ u, Below w.heap.size w u → Calls Tryz.prog 9 #[.agg #[v0, v1, v2, v3, v4, v5, v6, v7, v8, v9, v10, v11, v12], .agg #[.int .i64 W, .int .i64 H, .string C, .int .i64 T, .string A, .string B], .agg #[.int .i64 f, .int .i64 t, .int .u8 (c : Int)]] u fun e u' => e = .returned (.tuple #[.agg #[.int .i64 0, .int .i64 0, .string ⟨#[]⟩, .int .i64 0, .string ⟨#[]⟩, .string ⟨#[]⟩], .int .i64 1]) ∧ Below u.heap.size u u')
    (hOF : ∀ u, Below w.heap.size w u → Calls Tryz.prog 10 #[.agg #[v0, v1, v2, v3, v4, v5, v6, v7, v8, v9, v10, v11, v12], .agg #[.int .i64 W, .int .i64 H, .string C, .int .i64 T, .string A, .string B]] u fun e u' => e = .returned (.bool false) ∧ Below u.heap.size u u') :
    Calls Tryz.prog 3 #[.agg #[v0, v1, v2, v3, v4, v5, v6, v7, v8, v9, v10, v11, v12], .agg #[.int .i64 W, .int .i64 H, .string C, .int .i64 T, .string A, .string B], .agg #[.int .i64 f, .int .i64 t, .int .u8 (c : Int)]] w fun e w' => e = .returned (.bool true) ∧ Below w.heap.size w w' := by
  have HMO := hide hMO
  have HOU := hide hOU
  have HAP := hide hAP
  have HOF := hide hOF
  have heq := fun w => (eqPos w 0 0 0 0 0 0 ⟨#[]⟩ ⟨#[]⟩ ⟨#[]⟩ ⟨#[]⟩ ⟨#[]⟩ ⟨#[]⟩)
  simp only [samePos_refl] at heq
  clear hMO hOU hAP hOF
  obtain ⟨w1, hw1⟩ : ∃ w1, w1 = w.alloc (.cells #[v0, v1, v2, v3, v4, v5, v6, v7, v8, v9, v10, v11, v12] 27 (0, 0)) := ⟨_, rfl⟩
  obtain ⟨w2, hw2⟩ : ∃ w2, w2 = w1.alloc (.cells #[.int .i64 W, .int .i64 H, .string C, .int .i64 T, .string A, .string B] 24 (0, 0)) := ⟨_, rfl⟩
  obtain ⟨w3, hw3⟩ : ∃ w3, w3 = w2.alloc (.cells #[.int .i64 f, .int .i64 t, .int .u8 (c : Int)] 29 (0, 0)) := ⟨_, rfl⟩
  have hb1 : Below w.heap.size w w1 := by rw [hw1]; exact (Below.refl _ _).alloc (Nat.le_refl _) _
  have hb2 : Below w1.heap.size w1 w2 := by rw [hw2]; exact (Below.refl _ _).alloc (Nat.le_refl _) _
  have hb3 : Below w2.heap.size w2 w3 := by rw [hw3]; exact (Below.refl _ _).alloc (Nat.le_refl _) _
  have s1 : w1.heap.size = w.heap.size + 1 := by rw [hw1]; simp
  have s2 : w2.heap.size = w.heap.size + 1 + 1 := by rw [hw2]; simp [s1]
  have hb23 : Below w1.heap.size w1 w3 := hb2.trans (hb3.mono (by omega))
  have hru : isRu w3 w.heap.size v0 v1 v2 v3 v4 v5 v6 v7 v8 v9 v10 v11 v12 := isRu.below (show isRu w1 w.heap.size v0 v1 v2 v3 v4 v5 v6 v7 v8 v9 v10 v11 v12 by rw [hw1]; exact heap_alloc_new w _) hb23 (by omega)
  have hpb : isPb w3 (w.heap.size + 1) W H T C A B := (show isPb w2 (w.heap.size + 1) W H T C A B by rw [hw2, ← s1]; exact heap_alloc_new w1 _).below hb3 (by omega)
  have hmb : isMb w3 (w.heap.size + 1 + 1) f t c := by rw [hw3, ← s2]; exact heap_alloc_new w2 _
  have hbw : Below w.heap.size w w3 := hb1.trans (hb23.mono (by omega))
  have HRU := hide hru
  have HPB := hide hpb
  have HMB := hide hmb
  have HBW := hide hbw
  clear hb1 hb2 hb3 s1 s2 hb23 hru hpb hmb hbw
  obtain ⟨r0, r1, r2, r3, r4, r5, r6, r7, r8, r9, r10, r11, r12⟩ := (unhide HRU).cells
  obtain ⟨p0, p1, p2, p3, p4, p5⟩ := (unhide HPB).all
  obtain ⟨m0, m1, m2⟩ := (unhide HMB).all
  go_enter Tryz.func3, Tryz.ntmps3
  go_wp2_with fail
  rw [← hw1, ← hw2, ← hw3]
  clear hw1 hw2 hw3
  refine (unhide HMO _ (unhide HBW)).mono ?_
  rintro e u1 ⟨rfl, hb1⟩
  have hpb := (unhide HPB).below hb1 (unhide HPB).lt
  have hru := (unhide HRU).below hb1 (unhide HRU).lt
  have hmb := (unhide HMB).below hb1 (unhide HMB).lt
  have hbw := (unhide HBW).trans ((hb1).mono (unhide HBW).size)
  clear HPB HRU HMB HBW r0 r1 r2 r3 r4 r5 r6 r7 r8 r9 r10 r11 r12 p0 p1 p2 p3 p4 p5 m0 m1 m2
  have HPB := hide hpb
  have HRU := hide hru
  have HMB := hide hmb
  have HBW := hide hbw
  clear hpb hru hmb hbw
  obtain ⟨r0, r1, r2, r3, r4, r5, r6, r7, r8, r9, r10, r11, r12⟩ := (unhide HRU).cells
  obtain ⟨p0, p1, p2, p3, p4, p5⟩ := (unhide HPB).all
  obtain ⟨m0, m1, m2⟩ := (unhide HMB).all
  clear hb1
  go_wp2_with fail
  refine (unhide HOU _ (unhide HBW)).mono ?_
  rintro e u2 ⟨rfl, hb1⟩
  have hpb := (unhide HPB).below hb1 (unhide HPB).lt
  have hru := (unhide HRU).below hb1 (unhide HRU).lt
  have hmb := (unhide HMB).below hb1 (unhide HMB).lt
  have hbw := (unhide HBW).trans ((hb1).mono (unhide HBW).size)
  clear HPB HRU HMB HBW r0 r1 r2 r3 r4 r5 r6 r7 r8 r9 r10 r11 r12 p0 p1 p2 p3 p4 p5 m0 m1 m2
  have HPB := hide hpb
  have HRU := hide hru
  have HMB := hide hmb
  have HBW := hide hbw
  clear hpb hru hmb hbw
  obtain ⟨r0, r1, r2, r3, r4, r5, r6, r7, r8, r9, r10, r11, r12⟩ := (unhide HRU).cells
  obtain ⟨p0, p1, p2, p3, p4, p5⟩ := (unhide HPB).all
  obtain ⟨m0, m1, m2⟩ := (unhide HMB).all
  clear hb1
  go_wp2_with fail
  refine (unhide HAP _ (unhide HBW)).mono ?_
  rintro e u3 ⟨rfl, hb1⟩
  have hpb := (unhide HPB).below hb1 (unhide HPB).lt
  have hru := (unhide HRU).below hb1 (unhide HRU).lt
  have hmb := (unhide HMB).below hb1 (unhide HMB).lt
  have hbw := (unhide HBW).trans ((hb1).mono (unhide HBW).size)
  clear HPB HRU HMB HBW r0 r1 r2 r3 r4 r5 r6 r7 r8 r9 r10 r11 r12 p0 p1 p2 p3 p4 p5 m0 m1 m2
  have HPB := hide hpb
  have HRU := hide hru
  have HMB := hide hmb
  have HBW := hide hbw
  clear hpb hru hmb hbw
  obtain ⟨r0, r1, r2, r3, r4, r5, r6, r7, r8, r9, r10, r11, r12⟩ := (unhide HRU).cells
  obtain ⟨p0, p1, p2, p3, p4, p5⟩ := (unhide HPB).all
  obtain ⟨m0, m1, m2⟩ := (unhide HMB).all
  clear hb1
  obtain ⟨u4, hu4⟩ : ∃ u4, u4 = u3.alloc (.cells #[.int .i64 0, .int .i64 0, .string ⟨#[]⟩, .int .i64 0, .string ⟨#[]⟩, .string ⟨#[]⟩] 24 (0, 0)) := ⟨_, rfl⟩
  have hb4 : Below u3.heap.size u3 u4 := by rw [hu4]; exact (Below.refl _ _).alloc (Nat.le_refl _) _
  have hq4 : isPb u4 u3.heap.size 0 0 0 ⟨#[]⟩ ⟨#[]⟩ ⟨#[]⟩ := by rw [hu4]; exact heap_alloc_new u3 _
  have HB4 := hide hb4
  have HQ4 := hide hq4
  clear hb4 hq4
  go_upto_region 4 with fail
  rw [← hu4]
  clear hu4
  have hpb := (unhide HPB).below (unhide HB4) (unhide HPB).lt
  have hru := (unhide HRU).below (unhide HB4) (unhide HRU).lt
  have hmb := (unhide HMB).below (unhide HB4) (unhide HMB).lt
  have hbw := (unhide HBW).trans (((unhide HB4)).mono (unhide HBW).size)
  clear HPB HRU HMB HBW r0 r1 r2 r3 r4 r5 r6 r7 r8 r9 r10 r11 r12 p0 p1 p2 p3 p4 p5 m0 m1 m2
  have HPB := hide hpb
  have HRU := hide hru
  have HMB := hide hmb
  have HBW := hide hbw
  clear hpb hru hmb hbw
  obtain ⟨r0, r1, r2, r3, r4, r5, r6, r7, r8, r9, r10, r11, r12⟩ := (unhide HRU).cells
  obtain ⟨p0, p1, p2, p3, p4, p5⟩ := (unhide HPB).all
  obtain ⟨m0, m1, m2⟩ := (unhide HMB).all
  go_wp2_with fail
  refine (unhide HOF _ (unhide HBW)).mono ?_
  rintro e u5 ⟨rfl, hb1⟩
  have HQ5 := hide ((unhide HQ4).below hb1 (unhide HQ4).lt)
  have hpb := (unhide HPB).below hb1 (unhide HPB).lt
  have hru := (unhide HRU).below hb1 (unhide HRU).lt
  have hmb := (unhide HMB).below hb1 (unhide HMB).lt
  have hbw := (unhide HBW).trans ((hb1).mono (unhide HBW).size)
  clear HPB HRU HMB HBW r0 r1 r2 r3 r4 r5 r6 r7 r8 r9 r10 r11 r12 p0 p1 p2 p3 p4 p5 m0 m1 m2
  have HPB := hide hpb
  have HRU := hide hru
  have HMB := hide hmb
  have HBW := hide hbw
  clear hpb hru hmb hbw
  obtain ⟨r0, r1, r2, r3, r4, r5, r6, r7, r8, r9, r10, r11, r12⟩ := (unhide HRU).cells
  obtain ⟨p0, p1, p2, p3, p4, p5⟩ := (unhide HPB).all
  obtain ⟨m0, m1, m2⟩ := (unhide HMB).all
  clear hb1
  obtain ⟨q0, q1, q2, q3, q4, q5⟩ := (unhide HQ5).all
  go_wp2
  go_ret
  exact ⟨rfl, unhide HBW⟩
set_option maxHeartbeats 8000000 in
set_option maxRecDepth 100000 in
theorem law_yes (v0 v1 v2 v3 v4 v5 v6 v7 v8 v9 v10 v11 v12 : Value) (W H T : Int) (C A B : ByteArray) (f t : Int) (c : Nat) (L : List Mv) (O E Q0 Q1 Q3 : Int) (Q2 Q4 Q5 : ByteArray) (w : World)
    (hMO : ∀ u, Below w.heap.size w u → Calls Tryz.prog 7 #[.agg #[v0, v1, v2, v3, v4, v5, v6, v7, v8, v9, v10, v11, v12], .agg #[.int .i64 W, .int .i64 H, .string C, .int .i64 T, .string A, .string B]] u fun e u' => ∃ v, e = .returned (.tuple #[v, .int .i64 0]) ∧ u'.ownsRow u.heap.size 29 3 v L.length (mvals L) ∧ Below u.heap.size u u')
    (hOU : ∀ u, Below w.heap.size w u → Calls Tryz.prog 8 #[.agg #[v0, v1, v2, v3, v4, v5, v6, v7, v8, v9, v10, v11, v12], .agg #[.int .i64 W, .int .i64 H, .string C, .int .i64 T, .string A, .string B]] u fun e u' => e = .returned (.tuple #[.int .i64 O, .int .i64 0]) ∧ Below u.heap.size u u')
    (hAP : ∀ u, Below w.heap.size w u → Calls Tryz.prog 9 #[.agg #[v0, v1, v2, v3, v4, v5, v6, v7, v8, v9, v10, v11, v12], .agg #[.int .i64 W, .int .i64 H, .string C, .int .i64 T, .string A, .string B], .agg #[.int .i64 f, .int .i64 t, .int .u8 (c : Int)]] u fun e u' => e = .returned (.tuple #[.agg #[.int .i64 Q0, .int .i64 Q1, .string Q2, .int .i64 Q3, .string Q4, .string Q5], .int .i64 E]) ∧ Below u.heap.size u u')
    (hOF : ∀ u, Below w.heap.size w u → Calls Tryz.prog 10 #[.agg #[v0, v1, v2, v3, v4, v5, v6, v7, v8, v9, v10, v11, v12], .agg #[.int .i64 W, .int .i64 H, .string C, .int .i64 T, .string A, .string B]] u fun e u' => e = .returned (.bool true) ∧ Below u.heap.size u u')
    (hRM : ∀ u, Below w.heap.size w u → Calls Tryz.prog 11 #[.agg #[v0, v1, v2, v3, v4, v5, v6, v7, v8, v9, v10, v11, v12], .agg #[.int .i64 W, .int .i64 H, .string C, .int .i64 T, .string A, .string B]] u fun e u' => ∃ v, e = .returned v ∧ u'.ownsRow u.heap.size 29 3 v L.length (mvals L) ∧ Below u.heap.size u u')
    (hEN : ∀ u, Below w.heap.size w u → Calls Tryz.prog 12 #[.agg #[v0, v1, v2, v3, v4, v5, v6, v7, v8, v9, v10, v11, v12], .agg #[.int .i64 W, .int .i64 H, .string C, .int .i64 T, .string A, .string B]] u fun e u' => e = .returned (.int .i64 O) ∧ Below u.heap.size u u')
    (hcase : (inM f t c L = false ∧ E = 5 ∧ Q0 = 0 ∧ Q1 = 0 ∧ Q2 = ⟨#[]⟩ ∧ Q3 = 0 ∧ Q4 = ⟨#[]⟩ ∧ Q5 = ⟨#[]⟩) ∨ (inM f t c L = true ∧ E = 0 ∧ ∀ u : World, Calls Tryz.prog 15 #[.agg #[v0, v1, v2, v3, v4, v5, v6, v7, v8, v9, v10, v11, v12], .agg #[.int .i64 W, .int .i64 H, .string C, .int .i64 T, .string A, .string B], .agg #[.int .i64 f, .int .i64 t, .int .u8 (c : Int)]] u fun e u' => e = .returned (.agg #[.int .i64 Q0, .int .i64 Q1, .string Q2, .int .i64 Q3, .string Q4, .string Q5]) ∧ Below u.heap.size u u')) :
    Calls Tryz.prog 3 #[.agg #[v0, v1, v2, v3, v4, v5, v6, v7, v8, v9, v10, v11, v12], .agg #[.int .i64 W, .int .i64 H, .string C, .int .i64 T, .string A, .string B], .agg #[.int .i64 f, .int .i64 t, .int .u8 (c : Int)]] w fun e w' => e = .returned (.bool true) ∧ Below w.heap.size w w' := by
  have HMO := hide hMO
  have HOU := hide hOU
  have HAP := hide hAP
  have HOF := hide hOF
  have HRM := hide hRM
  have HEN := hide hEN
  have HCASE := hide hcase
  have hOO : (O != O) = false := by simp
  have heq := fun w => (eqPos w Q0 Q1 Q3 Q0 Q1 Q3 Q2 Q4 Q5 Q2 Q4 Q5)
  simp only [samePos_refl] at heq
  have HEQ := hide heq
  clear hMO hOU hAP hOF hRM hEN hcase heq
  obtain ⟨w1, hw1⟩ : ∃ w1, w1 = w.alloc (.cells #[v0, v1, v2, v3, v4, v5, v6, v7, v8, v9, v10, v11, v12] 27 (0, 0)) := ⟨_, rfl⟩
  obtain ⟨w2, hw2⟩ : ∃ w2, w2 = w1.alloc (.cells #[.int .i64 W, .int .i64 H, .string C, .int .i64 T, .string A, .string B] 24 (0, 0)) := ⟨_, rfl⟩
  obtain ⟨w3, hw3⟩ : ∃ w3, w3 = w2.alloc (.cells #[.int .i64 f, .int .i64 t, .int .u8 (c : Int)] 29 (0, 0)) := ⟨_, rfl⟩
  have hb1 : Below w.heap.size w w1 := by rw [hw1]; exact (Below.refl _ _).alloc (Nat.le_refl _) _
  have hb2 : Below w1.heap.size w1 w2 := by rw [hw2]; exact (Below.refl _ _).alloc (Nat.le_refl _) _
  have hb3 : Below w2.heap.size w2 w3 := by rw [hw3]; exact (Below.refl _ _).alloc (Nat.le_refl _) _
  have s1 : w1.heap.size = w.heap.size + 1 := by rw [hw1]; simp
  have s2 : w2.heap.size = w.heap.size + 1 + 1 := by rw [hw2]; simp [s1]
  have hb23 : Below w1.heap.size w1 w3 := hb2.trans (hb3.mono (by omega))
  have hru : isRu w3 w.heap.size v0 v1 v2 v3 v4 v5 v6 v7 v8 v9 v10 v11 v12 := isRu.below (show isRu w1 w.heap.size v0 v1 v2 v3 v4 v5 v6 v7 v8 v9 v10 v11 v12 by rw [hw1]; exact heap_alloc_new w _) hb23 (by omega)
  have hpb : isPb w3 (w.heap.size + 1) W H T C A B := (show isPb w2 (w.heap.size + 1) W H T C A B by rw [hw2, ← s1]; exact heap_alloc_new w1 _).below hb3 (by omega)
  have hmb : isMb w3 (w.heap.size + 1 + 1) f t c := by rw [hw3, ← s2]; exact heap_alloc_new w2 _
  have hbw : Below w.heap.size w w3 := hb1.trans (hb23.mono (by omega))
  have HRU := hide hru
  have HPB := hide hpb
  have HMB := hide hmb
  have HBW := hide hbw
  clear hb1 hb2 hb3 s1 s2 hb23 hru hpb hmb hbw
  obtain ⟨r0, r1, r2, r3, r4, r5, r6, r7, r8, r9, r10, r11, r12⟩ := (unhide HRU).cells
  obtain ⟨p0, p1, p2, p3, p4, p5⟩ := (unhide HPB).all
  obtain ⟨m0, m1, m2⟩ := (unhide HMB).all
  go_enter Tryz.func3, Tryz.ntmps3
  go_wp2_with fail
  rw [← hw1, ← hw2, ← hw3]
  clear hw1 hw2 hw3
  refine (unhide HMO _ (unhide HBW)).mono ?_
  rintro e u1 ⟨va, rfl, hown, hb1⟩
  have HMV1 := hide (isMvs.of hown)
  have hpb := (unhide HPB).below hb1 (unhide HPB).lt
  have hru := (unhide HRU).below hb1 (unhide HRU).lt
  have hmb := (unhide HMB).below hb1 (unhide HMB).lt
  have hbw := (unhide HBW).trans ((hb1).mono (unhide HBW).size)
  clear HPB HRU HMB HBW r0 r1 r2 r3 r4 r5 r6 r7 r8 r9 r10 r11 r12 p0 p1 p2 p3 p4 p5 m0 m1 m2
  have HPB := hide hpb
  have HRU := hide hru
  have HMB := hide hmb
  have HBW := hide hbw
  clear hpb hru hmb hbw
  obtain ⟨r0, r1, r2, r3, r4, r5, r6, r7, r8, r9, r10, r11, r12⟩ := (unhide HRU).cells
  obtain ⟨p0, p1, p2, p3, p4, p5⟩ := (unhide HPB).all
  obtain ⟨m0, m1, m2⟩ := (unhide HMB).all
  clear hb1 hown
  go_wp2_with fail
  refine (unhide HOU _ (unhide HBW)).mono ?_
  rintro e u2 ⟨rfl, hb1⟩
  have HMV2 := hide ((unhide HMV1).below hb1)
  have hpb := (unhide HPB).below hb1 (unhide HPB).lt
  have hru := (unhide HRU).below hb1 (unhide HRU).lt
  have hmb := (unhide HMB).below hb1 (unhide HMB).lt
  have hbw := (unhide HBW).trans ((hb1).mono (unhide HBW).size)
  clear HPB HRU HMB HBW r0 r1 r2 r3 r4 r5 r6 r7 r8 r9 r10 r11 r12 p0 p1 p2 p3 p4 p5 m0 m1 m2
  have HPB := hide hpb
  have HRU := hide hru
  have HMB := hide hmb
  have HBW := hide hbw
  clear hpb hru hmb hbw
  obtain ⟨r0, r1, r2, r3, r4, r5, r6, r7, r8, r9, r10, r11, r12⟩ := (unhide HRU).cells
  obtain ⟨p0, p1, p2, p3, p4, p5⟩ := (unhide HPB).all
  obtain ⟨m0, m1, m2⟩ := (unhide HMB).all
  clear hb1 HMV1
  go_wp2_with fail
  refine (unhide HAP _ (unhide HBW)).mono ?_
  rintro e u3 ⟨rfl, hb1⟩
  have HMV3 := hide ((unhide HMV2).below hb1)
  have hpb := (unhide HPB).below hb1 (unhide HPB).lt
  have hru := (unhide HRU).below hb1 (unhide HRU).lt
  have hmb := (unhide HMB).below hb1 (unhide HMB).lt
  have hbw := (unhide HBW).trans ((hb1).mono (unhide HBW).size)
  clear HPB HRU HMB HBW r0 r1 r2 r3 r4 r5 r6 r7 r8 r9 r10 r11 r12 p0 p1 p2 p3 p4 p5 m0 m1 m2
  have HPB := hide hpb
  have HRU := hide hru
  have HMB := hide hmb
  have HBW := hide hbw
  clear hpb hru hmb hbw
  obtain ⟨r0, r1, r2, r3, r4, r5, r6, r7, r8, r9, r10, r11, r12⟩ := (unhide HRU).cells
  obtain ⟨p0, p1, p2, p3, p4, p5⟩ := (unhide HPB).all
  obtain ⟨m0, m1, m2⟩ := (unhide HMB).all
  clear hb1 HMV2
  obtain ⟨u4, hu4⟩ : ∃ u4, u4 = u3.alloc (.cells #[.int .i64 Q0, .int .i64 Q1, .string Q2, .int .i64 Q3, .string Q4, .string Q5] 24 (0, 0)) := ⟨_, rfl⟩
  have hb4 : Below u3.heap.size u3 u4 := by rw [hu4]; exact (Below.refl _ _).alloc (Nat.le_refl _) _
  have hq4 : isPb u4 u3.heap.size Q0 Q1 Q3 Q2 Q4 Q5 := by rw [hu4]; exact heap_alloc_new u3 _
  have HB4 := hide hb4
  have HQ4 := hide hq4
  have HMV4 := hide ((unhide HMV3).below hb4)
  clear hb4 hq4 HMV3
  go_upto_region 4 with fail
  rw [← hu4]
  clear hu4
  have hpb := (unhide HPB).below (unhide HB4) (unhide HPB).lt
  have hru := (unhide HRU).below (unhide HB4) (unhide HRU).lt
  have hmb := (unhide HMB).below (unhide HB4) (unhide HMB).lt
  have hbw := (unhide HBW).trans (((unhide HB4)).mono (unhide HBW).size)
  clear HPB HRU HMB HBW r0 r1 r2 r3 r4 r5 r6 r7 r8 r9 r10 r11 r12 p0 p1 p2 p3 p4 p5 m0 m1 m2
  have HPB := hide hpb
  have HRU := hide hru
  have HMB := hide hmb
  have HBW := hide hbw
  clear hpb hru hmb hbw
  obtain ⟨r0, r1, r2, r3, r4, r5, r6, r7, r8, r9, r10, r11, r12⟩ := (unhide HRU).cells
  obtain ⟨p0, p1, p2, p3, p4, p5⟩ := (unhide HPB).all
  obtain ⟨m0, m1, m2⟩ := (unhide HMB).all
  obtain ⟨qb, hqb⟩ : ∃ qb, qb = u3.heap.size := ⟨_, rfl⟩
  rw [← hqb] at HQ4 ⊢
  clear hqb HB4
  go_wp2_with fail
  refine (unhide HOF _ (unhide HBW)).mono ?_
  rintro e u5 ⟨rfl, hb1⟩
  have HQ5 := hide ((unhide HQ4).below hb1 (unhide HQ4).lt)
  have HMV5 := hide ((unhide HMV4).below hb1)
  have hpb := (unhide HPB).below hb1 (unhide HPB).lt
  have hru := (unhide HRU).below hb1 (unhide HRU).lt
  have hmb := (unhide HMB).below hb1 (unhide HMB).lt
  have hbw := (unhide HBW).trans ((hb1).mono (unhide HBW).size)
  clear HPB HRU HMB HBW r0 r1 r2 r3 r4 r5 r6 r7 r8 r9 r10 r11 r12 p0 p1 p2 p3 p4 p5 m0 m1 m2
  have HPB := hide hpb
  have HRU := hide hru
  have HMB := hide hmb
  have HBW := hide hbw
  clear hpb hru hmb hbw
  obtain ⟨r0, r1, r2, r3, r4, r5, r6, r7, r8, r9, r10, r11, r12⟩ := (unhide HRU).cells
  obtain ⟨p0, p1, p2, p3, p4, p5⟩ := (unhide HPB).all
  obtain ⟨m0, m1, m2⟩ := (unhide HMB).all
  clear hb1 HQ4 HMV4
  go_wp2_with fail
  refine (unhide HRM _ (unhide HBW)).mono ?_
  rintro e u6 ⟨vb, rfl, hown, hb1⟩
  have HMW6 := hide (isMvs.of hown)
  have HQ6 := hide ((unhide HQ5).below hb1 (unhide HQ5).lt)
  have HMV6 := hide ((unhide HMV5).below hb1)
  have hpb := (unhide HPB).below hb1 (unhide HPB).lt
  have hru := (unhide HRU).below hb1 (unhide HRU).lt
  have hmb := (unhide HMB).below hb1 (unhide HMB).lt
  have hbw := (unhide HBW).trans ((hb1).mono (unhide HBW).size)
  clear HPB HRU HMB HBW r0 r1 r2 r3 r4 r5 r6 r7 r8 r9 r10 r11 r12 p0 p1 p2 p3 p4 p5 m0 m1 m2
  have HPB := hide hpb
  have HRU := hide hru
  have HMB := hide hmb
  have HBW := hide hbw
  clear hpb hru hmb hbw
  obtain ⟨r0, r1, r2, r3, r4, r5, r6, r7, r8, r9, r10, r11, r12⟩ := (unhide HRU).cells
  obtain ⟨p0, p1, p2, p3, p4, p5⟩ := (unhide HPB).all
  obtain ⟨m0, m1, m2⟩ := (unhide HMB).all
  clear hb1 hown HQ5 HMV5
  go_wp2_with fail
  refine (unhide HEN _ (unhide HBW)).mono ?_
  rintro e u7 ⟨rfl, hb1⟩
  have HMW7 := hide ((unhide HMW6).below hb1)
  have HQ7 := hide ((unhide HQ6).below hb1 (unhide HQ6).lt)
  have HMV7 := hide ((unhide HMV6).below hb1)
  have hpb := (unhide HPB).below hb1 (unhide HPB).lt
  have hru := (unhide HRU).below hb1 (unhide HRU).lt
  have hmb := (unhide HMB).below hb1 (unhide HMB).lt
  have hbw := (unhide HBW).trans ((hb1).mono (unhide HBW).size)
  clear HPB HRU HMB HBW r0 r1 r2 r3 r4 r5 r6 r7 r8 r9 r10 r11 r12 p0 p1 p2 p3 p4 p5 m0 m1 m2
  have HPB := hide hpb
  have HRU := hide hru
  have HMB := hide hmb
  have HBW := hide hbw
  clear hpb hru hmb hbw
  obtain ⟨r0, r1, r2, r3, r4, r5, r6, r7, r8, r9, r10, r11, r12⟩ := (unhide HRU).cells
  obtain ⟨p0, p1, p2, p3, p4, p5⟩ := (unhide HPB).all
  obtain ⟨m0, m1, m2⟩ := (unhide HMB).all
  clear hb1 HQ6 HMV6 HMW6
  go_wp2_with fail
  refine (SameM_same va vb L _ (unhide HMV7) (unhide HMW7)).mono ?_
  rintro e u8 ⟨rfl, hb1⟩
  have HMW8 := hide ((unhide HMW7).below hb1)
  have HQ8 := hide ((unhide HQ7).below hb1 (unhide HQ7).lt)
  have hpb := (unhide HPB).below hb1 (unhide HPB).lt
  have hru := (unhide HRU).below hb1 (unhide HRU).lt
  have hmb := (unhide HMB).below hb1 (unhide HMB).lt
  have hbw := (unhide HBW).trans ((hb1).mono (unhide HBW).size)
  clear HPB HRU HMB HBW r0 r1 r2 r3 r4 r5 r6 r7 r8 r9 r10 r11 r12 p0 p1 p2 p3 p4 p5 m0 m1 m2
  have HPB := hide hpb
  have HRU := hide hru
  have HMB := hide hmb
  have HBW := hide hbw
  clear hpb hru hmb hbw
  obtain ⟨r0, r1, r2, r3, r4, r5, r6, r7, r8, r9, r10, r11, r12⟩ := (unhide HRU).cells
  obtain ⟨p0, p1, p2, p3, p4, p5⟩ := (unhide HPB).all
  obtain ⟨m0, m1, m2⟩ := (unhide HMB).all
  clear hb1 HQ7 HMV7 HMW7
  go_wp2_with fail
  refine (rIn_any vb L f t c _ (unhide HMW8)).mono ?_
  rintro e u9 ⟨rfl, hb1⟩
  have HQ9 := hide ((unhide HQ8).below hb1 (unhide HQ8).lt)
  have hpb := (unhide HPB).below hb1 (unhide HPB).lt
  have hru := (unhide HRU).below hb1 (unhide HRU).lt
  have hmb := (unhide HMB).below hb1 (unhide HMB).lt
  have hbw := (unhide HBW).trans ((hb1).mono (unhide HBW).size)
  clear HPB HRU HMB HBW r0 r1 r2 r3 r4 r5 r6 r7 r8 r9 r10 r11 r12 p0 p1 p2 p3 p4 p5 m0 m1 m2
  have HPB := hide hpb
  have HRU := hide hru
  have HMB := hide hmb
  have HBW := hide hbw
  clear hpb hru hmb hbw
  obtain ⟨r0, r1, r2, r3, r4, r5, r6, r7, r8, r9, r10, r11, r12⟩ := (unhide HRU).cells
  obtain ⟨p0, p1, p2, p3, p4, p5⟩ := (unhide HPB).all
  obtain ⟨m0, m1, m2⟩ := (unhide HMB).all
  clear hb1 HQ8 HMW8
  rcases unhide HCASE with ⟨hin, hE, h0, h1, h2, h3, h4, h5⟩ | ⟨hin, hE, hMD⟩
  · rw [hin]
    subst hE h0 h1 h2 h3 h4 h5
    have heq := unhide HEQ
    obtain ⟨q0, q1, q2, q3, q4, q5⟩ := (unhide HQ9).all
    clear hin HCASE
    go_wp2
    go_ret
    exact ⟨rfl, unhide HBW⟩
  · rw [hin]
    subst hE
    have HMD := hide hMD
    clear hin hMD HCASE
    obtain ⟨wr, rfl⟩ : ∃ wr, wr = u9 := ⟨_, rfl⟩
    have hHS : ∀ u, Below wr.heap.size wr u → (u.cell? ⟨w.heap.size, 0, none⟩ = some v0 ∧ u.cell? ⟨w.heap.size, 1, none⟩ = some v1 ∧ u.cell? ⟨w.heap.size, 2, none⟩ = some v2 ∧ u.cell? ⟨w.heap.size, 3, none⟩ = some v3 ∧ u.cell? ⟨w.heap.size, 4, none⟩ = some v4 ∧ u.cell? ⟨w.heap.size, 5, none⟩ = some v5 ∧ u.cell? ⟨w.heap.size, 6, none⟩ = some v6 ∧ u.cell? ⟨w.heap.size, 7, none⟩ = some v7 ∧ u.cell? ⟨w.heap.size, 8, none⟩ = some v8 ∧ u.cell? ⟨w.heap.size, 9, none⟩ = some v9 ∧ u.cell? ⟨w.heap.size, 10, none⟩ = some v10 ∧ u.cell? ⟨w.heap.size, 11, none⟩ = some v11 ∧ u.cell? ⟨w.heap.size, 12, none⟩ = some v12 ∧ u.cell? ⟨w.heap.size + 1, 0, none⟩ = some (.int .i64 W) ∧ u.cell? ⟨w.heap.size + 1, 1, none⟩ = some (.int .i64 H) ∧ u.cell? ⟨w.heap.size + 1, 2, none⟩ = some (.string C) ∧ u.cell? ⟨w.heap.size + 1, 3, none⟩ = some (.int .i64 T) ∧ u.cell? ⟨w.heap.size + 1, 4, none⟩ = some (.string A) ∧ u.cell? ⟨w.heap.size + 1, 5, none⟩ = some (.string B) ∧ u.cell? ⟨w.heap.size + 1 + 1, 0, none⟩ = some (.int .i64 f) ∧ u.cell? ⟨w.heap.size + 1 + 1, 1, none⟩ = some (.int .i64 t) ∧ u.cell? ⟨w.heap.size + 1 + 1, 2, none⟩ = some (.int .u8 (c : Int)) ∧ u.cell? ⟨qb, 0, none⟩ = some (.int .i64 Q0) ∧ u.cell? ⟨qb, 1, none⟩ = some (.int .i64 Q1) ∧ u.cell? ⟨qb, 2, none⟩ = some (.string Q2) ∧ u.cell? ⟨qb, 3, none⟩ = some (.int .i64 Q3) ∧ u.cell? ⟨qb, 4, none⟩ = some (.string Q4) ∧ u.cell? ⟨qb, 5, none⟩ = some (.string Q5) ∧ Below wr.heap.size wr u) := fun u hu => by
      have hr := (unhide HRU).below hu (unhide HRU).lt
      have hp := (unhide HPB).below hu (unhide HPB).lt
      have hm := (unhide HMB).below hu (unhide HMB).lt
      have hq := (unhide HQ9).below hu (unhide HQ9).lt
      exact ⟨hr.cells.1, hr.cells.2.1, hr.cells.2.2.1, hr.cells.2.2.2.1, hr.cells.2.2.2.2.1, hr.cells.2.2.2.2.2.1, hr.cells.2.2.2.2.2.2.1, hr.cells.2.2.2.2.2.2.2.1, hr.cells.2.2.2.2.2.2.2.2.1, hr.cells.2.2.2.2.2.2.2.2.2.1, hr.cells.2.2.2.2.2.2.2.2.2.2.1, hr.cells.2.2.2.2.2.2.2.2.2.2.2.1, hr.cells.2.2.2.2.2.2.2.2.2.2.2.2, hp.all.1, hp.all.2.1, hp.all.2.2.1, hp.all.2.2.2.1, hp.all.2.2.2.2.1, hp.all.2.2.2.2.2, hm.all.1, hm.all.2.1, hm.all.2.2, hq.all.1, hq.all.2.1, hq.all.2.2.1, hq.all.2.2.2.1, hq.all.2.2.2.2.1, hq.all.2.2.2.2.2, hu⟩
    have HS := hide hHS
    have HB0 : Hid (Below wr.heap.size wr wr.drew) := hide (Below.refl _ _).drew
    have heq := unhide HEQ
    clear hHS r0 r1 r2 r3 r4 r5 r6 r7 r8 r9 r10 r11 r12 p0 p1 p2 p3 p4 p5 m0 m1 m2
    go_wp2_with fail
    go_region_held3 (fun u => u.cell? ⟨w.heap.size, 0, none⟩ = some v0 ∧ u.cell? ⟨w.heap.size, 1, none⟩ = some v1 ∧ u.cell? ⟨w.heap.size, 2, none⟩ = some v2 ∧ u.cell? ⟨w.heap.size, 3, none⟩ = some v3 ∧ u.cell? ⟨w.heap.size, 4, none⟩ = some v4 ∧ u.cell? ⟨w.heap.size, 5, none⟩ = some v5 ∧ u.cell? ⟨w.heap.size, 6, none⟩ = some v6 ∧ u.cell? ⟨w.heap.size, 7, none⟩ = some v7 ∧ u.cell? ⟨w.heap.size, 8, none⟩ = some v8 ∧ u.cell? ⟨w.heap.size, 9, none⟩ = some v9 ∧ u.cell? ⟨w.heap.size, 10, none⟩ = some v10 ∧ u.cell? ⟨w.heap.size, 11, none⟩ = some v11 ∧ u.cell? ⟨w.heap.size, 12, none⟩ = some v12 ∧ u.cell? ⟨w.heap.size + 1, 0, none⟩ = some (.int .i64 W) ∧ u.cell? ⟨w.heap.size + 1, 1, none⟩ = some (.int .i64 H) ∧ u.cell? ⟨w.heap.size + 1, 2, none⟩ = some (.string C) ∧ u.cell? ⟨w.heap.size + 1, 3, none⟩ = some (.int .i64 T) ∧ u.cell? ⟨w.heap.size + 1, 4, none⟩ = some (.string A) ∧ u.cell? ⟨w.heap.size + 1, 5, none⟩ = some (.string B) ∧ u.cell? ⟨w.heap.size + 1 + 1, 0, none⟩ = some (.int .i64 f) ∧ u.cell? ⟨w.heap.size + 1 + 1, 1, none⟩ = some (.int .i64 t) ∧ u.cell? ⟨w.heap.size + 1 + 1, 2, none⟩ = some (.int .u8 (c : Int)) ∧ u.cell? ⟨qb, 0, none⟩ = some (.int .i64 Q0) ∧ u.cell? ⟨qb, 1, none⟩ = some (.int .i64 Q1) ∧ u.cell? ⟨qb, 2, none⟩ = some (.string Q2) ∧ u.cell? ⟨qb, 3, none⟩ = some (.int .i64 Q3) ∧ u.cell? ⟨qb, 4, none⟩ = some (.string Q4) ∧ u.cell? ⟨qb, 5, none⟩ = some (.string Q5) ∧ Below wr.heap.size wr u)
      (first
        | exact unhide HS _ (unhide HB0)
        | exact unhide HS _ ((unhide HB0).trans (hb.mono (unhide HB0).size)))
      (first
        | (go_at_call 15; (refine (unhide HMD _).mono ?_); rintro e wm ⟨rfl, hb⟩))
    all_goals
      have HB5 := hide ((unhide HBW).trans (((unhide HB0).trans (hb.mono (unhide HB0).size)).mono (unhide HBW).size))
      clear hb
      go_wp2
      go_ret
      exact ⟨rfl, unhide HB5⟩
end Go.Proofs.YtbnohmnbhnineabGreatDoor
