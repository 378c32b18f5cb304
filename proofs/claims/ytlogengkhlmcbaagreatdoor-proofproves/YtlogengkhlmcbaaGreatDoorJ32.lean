/-
  gamelaw.ProofProves, walked over what is known of the functions that it calls.
  gamelaw.ProofProves, walked: where nothing is wrong, and nothing is won.
-/
import Derived.Test.YtlogengkhlmcbaaGreatDoorK29
namespace Go.Proofs.YtlogengkhlmcbaaGreatDoor
open Go.RowKit
attribute [local go_sem ↓] Go.wp_at_zero Go.wp_at_succ

/-- What is known in a world of the law's own. -/
structure LF (w : World) (v0 v1 v2 v3 v4 v5 v6 v7 v8 v9 v10 v11 v12 : Value) (p : Po) (s : Bool) (f t : Int) (c : Nat) (kv : Value) (u : World) : Prop where
  ru : isRu u w.heap.size v0 v1 v2 v3 v4 v5 v6 v7 v8 v9 v10 v11 v12
  pb : isPb u (w.heap.size + 1) p.W p.H p.T p.C p.A p.B
  cb : isCb u (w.heap.size + 2) s f t c kv
  bw : Below w.heap.size w u
  sz : w.heap.size + 3 ≤ u.heap.size
theorem LF.step {w : World} {v0 v1 v2 v3 v4 v5 v6 v7 v8 v9 v10 v11 v12 : Value} {p : Po} {s : Bool} {f t : Int} {c : Nat} {kv : Value} {u u' : World} (H : LF w v0 v1 v2 v3 v4 v5 v6 v7 v8 v9 v10 v11 v12 p s f t c kv u) (hb : Below u.heap.size u u') : LF w v0 v1 v2 v3 v4 v5 v6 v7 v8 v9 v10 v11 v12 p s f t c kv u' :=
  ⟨H.ru.below hb H.ru.lt, H.pb.below hb H.pb.lt, H.cb.below hb H.cb.lt, H.bw.trans (hb.mono H.bw.size), Nat.le_trans H.sz hb.size⟩
set_option maxHeartbeats 4000000 in
set_option maxRecDepth 100000 in
theorem law_err (v0 v1 v2 v3 v4 v5 v6 v7 v8 v9 v10 v11 v12 : Value) (p : Po) (d : Int) (s : Bool) (f t : Int) (c : Nat) (kv : Value) (E : Int) (b : Bool) (w : World) (hE : (b = false ∧ E = 1) ∨ (b = true ∧ E = 4 ∧ (d < 0 ∨ 9 < d)))
    (hP : ∀ u, Below w.heap.size w u → Calls Tryz.prog 4 #[.agg #[v0, v1, v2, v3, v4, v5, v6, v7, v8, v9, v10, v11, v12], .agg #[.int .i64 p.W, .int .i64 p.H, .string p.C, .int .i64 p.T, .string p.A, .string p.B], .int .i64 d] u fun e w' => e = .returned (.tuple #[.agg #[.bool false, .int .i64 0, .int .i64 0, .int .u8 0, .slice none 0 0], .bool false, .int .i64 E]) ∧ Below u.heap.size u w')
    (hK : ∀ u, Below w.heap.size w u → Calls Tryz.prog 5 #[.agg #[v0, v1, v2, v3, v4, v5, v6, v7, v8, v9, v10, v11, v12], .agg #[.int .i64 p.W, .int .i64 p.H, .string p.C, .int .i64 p.T, .string p.A, .string p.B], .int .i64 d, .agg #[.bool s, .int .i64 f, .int .i64 t, .int .u8 (c : Int), kv]] u fun e w' => e = .returned (.tuple #[.bool false, .int .i64 E]) ∧ Below u.heap.size u w')
    (hO : ∀ u, Below w.heap.size w u → Calls Tryz.prog 6 #[.agg #[v0, v1, v2, v3, v4, v5, v6, v7, v8, v9, v10, v11, v12], .agg #[.int .i64 p.W, .int .i64 p.H, .string p.C, .int .i64 p.T, .string p.A, .string p.B]] u fun e w' => e = .returned (.bool b) ∧ Below u.heap.size u w') :
    Calls Tryz.prog 3 #[.agg #[v0, v1, v2, v3, v4, v5, v6, v7, v8, v9, v10, v11, v12], .agg #[.int .i64 p.W, .int .i64 p.H, .string p.C, .int .i64 p.T, .string p.A, .string p.B], .int .i64 d, .agg #[.bool s, .int .i64 f, .int .i64 t, .int .u8 (c : Int), kv]] w fun e w' => e = .returned (.bool true) ∧ Below w.heap.size w w' := by
  have heq : ∀ u, (Op.equalIn 10000 29 (.agg #[.int .i64 0, .int .i64 0, .int .u8 0]) (.agg #[.int .i64 0, .int .i64 0, .int .u8 0])).run Tryz.prog u = .ok true u := fun u => by
    rw [eqMove]
    simp
  obtain ⟨w1, hw1⟩ : ∃ w1, w1 = w.alloc (.cells #[v0, v1, v2, v3, v4, v5, v6, v7, v8, v9, v10, v11, v12] 27 (0, 0)) := ⟨_, rfl⟩
  obtain ⟨w2, hw2⟩ : ∃ w2, w2 = w1.alloc (.cells #[.int .i64 p.W, .int .i64 p.H, .string p.C, .int .i64 p.T, .string p.A, .string p.B] 24 (0, 0)) := ⟨_, rfl⟩
  obtain ⟨w3, hw3⟩ : ∃ w3, w3 = w2.alloc (.cells #[.bool s, .int .i64 f, .int .i64 t, .int .u8 (c : Int), kv] 32 (0, 0)) := ⟨_, rfl⟩
  have hb1 : Below w.heap.size w w1 := by rw [hw1]; exact (Below.refl _ _).alloc (Nat.le_refl _) _
  have hb2 : Below w1.heap.size w1 w2 := by rw [hw2]; exact (Below.refl _ _).alloc (Nat.le_refl _) _
  have hb3 : Below w2.heap.size w2 w3 := by rw [hw3]; exact (Below.refl _ _).alloc (Nat.le_refl _) _
  have s1 : w1.heap.size = w.heap.size + 1 := by rw [hw1]; simp
  have s2 : w2.heap.size = w.heap.size + 2 := by rw [hw2]; simp [s1]
  have s3 : w3.heap.size = w.heap.size + 3 := by rw [hw3]; simp [s2]
  have hlf3 : LF w v0 v1 v2 v3 v4 v5 v6 v7 v8 v9 v10 v11 v12 p s f t c kv w3 :=
    ⟨(isRu.below (isRu.below (show isRu w1 w.heap.size v0 v1 v2 v3 v4 v5 v6 v7 v8 v9 v10 v11 v12 by rw [hw1]; exact heap_alloc_new w _) hb2 (by omega)) hb3 (by omega)), (show isPb w2 (w.heap.size + 1) p.W p.H p.T p.C p.A p.B by rw [hw2, ← s1]; exact heap_alloc_new w1 _).below hb3 (by omega), by rw [hw3, ← s2]; exact heap_alloc_new w2 _, (hb1.trans (hb2.mono (by omega))).trans (hb3.mono (by omega)), by omega⟩
  have HLF := hide hlf3
  have HW1 := hide hw1
  have HW2 := hide hw2
  have HW3 := hide hw3
  clear hw1 hw2 hw3 hb1 hb2 hb3 s1 s2 s3 hlf3
  have HP := hide hP
  have HK := hide hK
  have HO := hide hO
  clear hP hK hO
  rcases hE with ⟨rfl, rfl⟩ | ⟨rfl, rfl, hd⟩
  · by_cases h0 : d < 0
    · go_enter Tryz.func3, Tryz.ntmps3
      go_upto_region 1 with fail
      rw [← unhide HW1, ← unhide HW2, ← unhide HW3]
      obtain ⟨r0, r1, r2, r3, r4, r5, r6, r7, r8, r9, r10, r11, r12⟩ := (unhide HLF).ru.cells
      obtain ⟨p0, p1, p2, p3, p4, p5⟩ := (unhide HLF).pb.all
      obtain ⟨q0, q1, q2, q3, q4⟩ := (unhide HLF).cb.all
      go_wp2_with fail
      refine (unhide HP _ (unhide HLF).bw).mono ?_
      rintro e w4 ⟨rfl, hb4⟩
      obtain ⟨w5, hw5⟩ : ∃ w5, w5 = w4.alloc (.cells #[.bool false, .int .i64 0, .int .i64 0, .int .u8 0, .slice none 0 0] 32 (0, 0)) := ⟨_, rfl⟩
      have hb5 : Below w4.heap.size w4 w5 := by rw [hw5]; exact (Below.refl _ _).alloc (Nat.le_refl _) _
      have hx5 : isCb w5 w4.heap.size false 0 0 0 (.slice none 0 0) := by rw [hw5]; exact heap_alloc_new w4 _
      have hl5 : w4.heap.size < w5.heap.size := by rw [hw5]; simp
      have HL5 := hide (((unhide HLF).step hb4).step hb5)
      have HX5 := hide hx5
      have HW5 := hide hw5
      clear r0 r1 r2 r3 r4 r5 r6 r7 r8 r9 r10 r11 r12 p0 p1 p2 p3 p4 p5 q0 q1 q2 q3 q4
      clear HLF HW1 HW2 HW3 HP hb4 hb5 hx5 hw5
      obtain ⟨r0, r1, r2, r3, r4, r5, r6, r7, r8, r9, r10, r11, r12⟩ := (unhide HL5).ru.cells
      obtain ⟨p0, p1, p2, p3, p4, p5⟩ := (unhide HL5).pb.all
      obtain ⟨q0, q1, q2, q3, q4⟩ := (unhide HL5).cb.all
      go_upto_region 2 with fail
      rw [← unhide HW5]
      go_wp2_with fail
      refine (unhide HK _ (unhide HL5).bw).mono ?_
      rintro e w6 ⟨rfl, hb6⟩
      have HL6 := hide ((unhide HL5).step hb6)
      have HX6 := hide ((unhide HX5).below hb6 hl5)
      have hl6 : w4.heap.size < w6.heap.size := Nat.lt_of_lt_of_le hl5 hb6.size
      clear r0 r1 r2 r3 r4 r5 r6 r7 r8 r9 r10 r11 r12 p0 p1 p2 p3 p4 p5 q0 q1 q2 q3 q4
      clear HL5 HX5 HW5 HK hb6 hl5
      obtain ⟨r0, r1, r2, r3, r4, r5, r6, r7, r8, r9, r10, r11, r12⟩ := (unhide HL6).ru.cells
      obtain ⟨p0, p1, p2, p3, p4, p5⟩ := (unhide HL6).pb.all
      obtain ⟨q0, q1, q2, q3, q4⟩ := (unhide HL6).cb.all
      go_wp2_with fail
      refine (unhide HO _ (unhide HL6).bw).mono ?_
      rintro e w7 ⟨rfl, hb7⟩
      have HL7 := hide ((unhide HL6).step hb7)
      have hx7 := (unhide HX6).below hb7 hl6
      clear r0 r1 r2 r3 r4 r5 r6 r7 r8 r9 r10 r11 r12 p0 p1 p2 p3 p4 p5 q0 q1 q2 q3 q4
      obtain ⟨x0, x1, x2, x3, x4⟩ := hx7.all
      have HB7 := hide (unhide HL7).bw
      clear HL6 HX6 HO hb7 hl6 hx7 HL7
      go_wp2
      go_ret
      exact ⟨rfl, unhide HB7⟩
    · by_cases h9 : 9 < d
      · go_enter Tryz.func3, Tryz.ntmps3
        go_upto_region 1 with fail
        rw [← unhide HW1, ← unhide HW2, ← unhide HW3]
        obtain ⟨r0, r1, r2, r3, r4, r5, r6, r7, r8, r9, r10, r11, r12⟩ := (unhide HLF).ru.cells
        obtain ⟨p0, p1, p2, p3, p4, p5⟩ := (unhide HLF).pb.all
        obtain ⟨q0, q1, q2, q3, q4⟩ := (unhide HLF).cb.all
        go_wp2_with fail
        refine (unhide HP _ (unhide HLF).bw).mono ?_
        rintro e w4 ⟨rfl, hb4⟩
        obtain ⟨w5, hw5⟩ : ∃ w5, w5 = w4.alloc (.cells #[.bool false, .int .i64 0, .int .i64 0, .int .u8 0, .slice none 0 0] 32 (0, 0)) := ⟨_, rfl⟩
        have hb5 : Below w4.heap.size w4 w5 := by rw [hw5]; exact (Below.refl _ _).alloc (Nat.le_refl _) _
        have hx5 : isCb w5 w4.heap.size false 0 0 0 (.slice none 0 0) := by rw [hw5]; exact heap_alloc_new w4 _
        have hl5 : w4.heap.size < w5.heap.size := by rw [hw5]; simp
        have HL5 := hide (((unhide HLF).step hb4).step hb5)
        have HX5 := hide hx5
        have HW5 := hide hw5
        clear r0 r1 r2 r3 r4 r5 r6 r7 r8 r9 r10 r11 r12 p0 p1 p2 p3 p4 p5 q0 q1 q2 q3 q4
        clear HLF HW1 HW2 HW3 HP hb4 hb5 hx5 hw5
        obtain ⟨r0, r1, r2, r3, r4, r5, r6, r7, r8, r9, r10, r11, r12⟩ := (unhide HL5).ru.cells
        obtain ⟨p0, p1, p2, p3, p4, p5⟩ := (unhide HL5).pb.all
        obtain ⟨q0, q1, q2, q3, q4⟩ := (unhide HL5).cb.all
        go_upto_region 2 with fail
        rw [← unhide HW5]
        go_wp2_with fail
        refine (unhide HK _ (unhide HL5).bw).mono ?_
        rintro e w6 ⟨rfl, hb6⟩
        have HL6 := hide ((unhide HL5).step hb6)
        have HX6 := hide ((unhide HX5).below hb6 hl5)
        have hl6 : w4.heap.size < w6.heap.size := Nat.lt_of_lt_of_le hl5 hb6.size
        clear r0 r1 r2 r3 r4 r5 r6 r7 r8 r9 r10 r11 r12 p0 p1 p2 p3 p4 p5 q0 q1 q2 q3 q4
        clear HL5 HX5 HW5 HK hb6 hl5
        obtain ⟨r0, r1, r2, r3, r4, r5, r6, r7, r8, r9, r10, r11, r12⟩ := (unhide HL6).ru.cells
        obtain ⟨p0, p1, p2, p3, p4, p5⟩ := (unhide HL6).pb.all
        obtain ⟨q0, q1, q2, q3, q4⟩ := (unhide HL6).cb.all
        go_wp2_with fail
        refine (unhide HO _ (unhide HL6).bw).mono ?_
        rintro e w7 ⟨rfl, hb7⟩
        have HL7 := hide ((unhide HL6).step hb7)
        have hx7 := (unhide HX6).below hb7 hl6
        clear r0 r1 r2 r3 r4 r5 r6 r7 r8 r9 r10 r11 r12 p0 p1 p2 p3 p4 p5 q0 q1 q2 q3 q4
        obtain ⟨x0, x1, x2, x3, x4⟩ := hx7.all
        have HB7 := hide (unhide HL7).bw
        clear HL6 HX6 HO hb7 hl6 hx7 HL7
        go_wp2
        go_ret
        exact ⟨rfl, unhide HB7⟩
      · go_enter Tryz.func3, Tryz.ntmps3
        go_upto_region 1 with fail
        rw [← unhide HW1, ← unhide HW2, ← unhide HW3]
        obtain ⟨r0, r1, r2, r3, r4, r5, r6, r7, r8, r9, r10, r11, r12⟩ := (unhide HLF).ru.cells
        obtain ⟨p0, p1, p2, p3, p4, p5⟩ := (unhide HLF).pb.all
        obtain ⟨q0, q1, q2, q3, q4⟩ := (unhide HLF).cb.all
        go_wp2_with fail
        refine (unhide HP _ (unhide HLF).bw).mono ?_
        rintro e w4 ⟨rfl, hb4⟩
        obtain ⟨w5, hw5⟩ : ∃ w5, w5 = w4.alloc (.cells #[.bool false, .int .i64 0, .int .i64 0, .int .u8 0, .slice none 0 0] 32 (0, 0)) := ⟨_, rfl⟩
        have hb5 : Below w4.heap.size w4 w5 := by rw [hw5]; exact (Below.refl _ _).alloc (Nat.le_refl _) _
        have hx5 : isCb w5 w4.heap.size false 0 0 0 (.slice none 0 0) := by rw [hw5]; exact heap_alloc_new w4 _
        have hl5 : w4.heap.size < w5.heap.size := by rw [hw5]; simp
        have HL5 := hide (((unhide HLF).step hb4).step hb5)
        have HX5 := hide hx5
        have HW5 := hide hw5
        clear r0 r1 r2 r3 r4 r5 r6 r7 r8 r9 r10 r11 r12 p0 p1 p2 p3 p4 p5 q0 q1 q2 q3 q4
        clear HLF HW1 HW2 HW3 HP hb4 hb5 hx5 hw5
        obtain ⟨r0, r1, r2, r3, r4, r5, r6, r7, r8, r9, r10, r11, r12⟩ := (unhide HL5).ru.cells
        obtain ⟨p0, p1, p2, p3, p4, p5⟩ := (unhide HL5).pb.all
        obtain ⟨q0, q1, q2, q3, q4⟩ := (unhide HL5).cb.all
        go_upto_region 2 with fail
        rw [← unhide HW5]
        go_wp2_with fail
        refine (unhide HK _ (unhide HL5).bw).mono ?_
        rintro e w6 ⟨rfl, hb6⟩
        have HL6 := hide ((unhide HL5).step hb6)
        have HX6 := hide ((unhide HX5).below hb6 hl5)
        have hl6 : w4.heap.size < w6.heap.size := Nat.lt_of_lt_of_le hl5 hb6.size
        clear r0 r1 r2 r3 r4 r5 r6 r7 r8 r9 r10 r11 r12 p0 p1 p2 p3 p4 p5 q0 q1 q2 q3 q4
        clear HL5 HX5 HW5 HK hb6 hl5
        obtain ⟨r0, r1, r2, r3, r4, r5, r6, r7, r8, r9, r10, r11, r12⟩ := (unhide HL6).ru.cells
        obtain ⟨p0, p1, p2, p3, p4, p5⟩ := (unhide HL6).pb.all
        obtain ⟨q0, q1, q2, q3, q4⟩ := (unhide HL6).cb.all
        go_wp2_with fail
        refine (unhide HO _ (unhide HL6).bw).mono ?_
        rintro e w7 ⟨rfl, hb7⟩
        have HL7 := hide ((unhide HL6).step hb7)
        have hx7 := (unhide HX6).below hb7 hl6
        clear r0 r1 r2 r3 r4 r5 r6 r7 r8 r9 r10 r11 r12 p0 p1 p2 p3 p4 p5 q0 q1 q2 q3 q4
        obtain ⟨x0, x1, x2, x3, x4⟩ := hx7.all
        have HB7 := hide (unhide HL7).bw
        clear HL6 HX6 HO hb7 hl6 hx7 HL7
        go_wp2
        go_ret
        exact ⟨rfl, unhide HB7⟩
  · by_cases h0 : d < 0
    · clear hd
      go_enter Tryz.func3, Tryz.ntmps3
      go_upto_region 1 with fail
      rw [← unhide HW1, ← unhide HW2, ← unhide HW3]
      obtain ⟨r0, r1, r2, r3, r4, r5, r6, r7, r8, r9, r10, r11, r12⟩ := (unhide HLF).ru.cells
      obtain ⟨p0, p1, p2, p3, p4, p5⟩ := (unhide HLF).pb.all
      obtain ⟨q0, q1, q2, q3, q4⟩ := (unhide HLF).cb.all
      go_wp2_with fail
      refine (unhide HP _ (unhide HLF).bw).mono ?_
      rintro e w4 ⟨rfl, hb4⟩
      obtain ⟨w5, hw5⟩ : ∃ w5, w5 = w4.alloc (.cells #[.bool false, .int .i64 0, .int .i64 0, .int .u8 0, .slice none 0 0] 32 (0, 0)) := ⟨_, rfl⟩
      have hb5 : Below w4.heap.size w4 w5 := by rw [hw5]; exact (Below.refl _ _).alloc (Nat.le_refl _) _
      have hx5 : isCb w5 w4.heap.size false 0 0 0 (.slice none 0 0) := by rw [hw5]; exact heap_alloc_new w4 _
      have hl5 : w4.heap.size < w5.heap.size := by rw [hw5]; simp
      have HL5 := hide (((unhide HLF).step hb4).step hb5)
      have HX5 := hide hx5
      have HW5 := hide hw5
      clear r0 r1 r2 r3 r4 r5 r6 r7 r8 r9 r10 r11 r12 p0 p1 p2 p3 p4 p5 q0 q1 q2 q3 q4
      clear HLF HW1 HW2 HW3 HP hb4 hb5 hx5 hw5
      obtain ⟨r0, r1, r2, r3, r4, r5, r6, r7, r8, r9, r10, r11, r12⟩ := (unhide HL5).ru.cells
      obtain ⟨p0, p1, p2, p3, p4, p5⟩ := (unhide HL5).pb.all
      obtain ⟨q0, q1, q2, q3, q4⟩ := (unhide HL5).cb.all
      go_upto_region 2 with fail
      rw [← unhide HW5]
      go_wp2_with fail
      refine (unhide HK _ (unhide HL5).bw).mono ?_
      rintro e w6 ⟨rfl, hb6⟩
      have HL6 := hide ((unhide HL5).step hb6)
      have HX6 := hide ((unhide HX5).below hb6 hl5)
      have hl6 : w4.heap.size < w6.heap.size := Nat.lt_of_lt_of_le hl5 hb6.size
      clear r0 r1 r2 r3 r4 r5 r6 r7 r8 r9 r10 r11 r12 p0 p1 p2 p3 p4 p5 q0 q1 q2 q3 q4
      clear HL5 HX5 HW5 HK hb6 hl5
      obtain ⟨r0, r1, r2, r3, r4, r5, r6, r7, r8, r9, r10, r11, r12⟩ := (unhide HL6).ru.cells
      obtain ⟨p0, p1, p2, p3, p4, p5⟩ := (unhide HL6).pb.all
      obtain ⟨q0, q1, q2, q3, q4⟩ := (unhide HL6).cb.all
      go_wp2_with fail
      refine (unhide HO _ (unhide HL6).bw).mono ?_
      rintro e w7 ⟨rfl, hb7⟩
      have HL7 := hide ((unhide HL6).step hb7)
      have hx7 := (unhide HX6).below hb7 hl6
      clear r0 r1 r2 r3 r4 r5 r6 r7 r8 r9 r10 r11 r12 p0 p1 p2 p3 p4 p5 q0 q1 q2 q3 q4
      obtain ⟨x0, x1, x2, x3, x4⟩ := hx7.all
      have HB7 := hide (unhide HL7).bw
      clear HL6 HX6 HO hb7 hl6 hx7 HL7
      go_wp2
      go_ret
      exact ⟨rfl, unhide HB7⟩
    · have h9 : 9 < d := by omega
      clear hd
      go_enter Tryz.func3, Tryz.ntmps3
      go_upto_region 1 with fail
      rw [← unhide HW1, ← unhide HW2, ← unhide HW3]
      obtain ⟨r0, r1, r2, r3, r4, r5, r6, r7, r8, r9, r10, r11, r12⟩ := (unhide HLF).ru.cells
      obtain ⟨p0, p1, p2, p3, p4, p5⟩ := (unhide HLF).pb.all
      obtain ⟨q0, q1, q2, q3, q4⟩ := (unhide HLF).cb.all
      go_wp2_with fail
      refine (unhide HP _ (unhide HLF).bw).mono ?_
      rintro e w4 ⟨rfl, hb4⟩
      obtain ⟨w5, hw5⟩ : ∃ w5, w5 = w4.alloc (.cells #[.bool false, .int .i64 0, .int .i64 0, .int .u8 0, .slice none 0 0] 32 (0, 0)) := ⟨_, rfl⟩
      have hb5 : Below w4.heap.size w4 w5 := by rw [hw5]; exact (Below.refl _ _).alloc (Nat.le_refl _) _
      have hx5 : isCb w5 w4.heap.size false 0 0 0 (.slice none 0 0) := by rw [hw5]; exact heap_alloc_new w4 _
      have hl5 : w4.heap.size < w5.heap.size := by rw [hw5]; simp
      have HL5 := hide (((unhide HLF).step hb4).step hb5)
      have HX5 := hide hx5
      have HW5 := hide hw5
      clear r0 r1 r2 r3 r4 r5 r6 r7 r8 r9 r10 r11 r12 p0 p1 p2 p3 p4 p5 q0 q1 q2 q3 q4
      clear HLF HW1 HW2 HW3 HP hb4 hb5 hx5 hw5
      obtain ⟨r0, r1, r2, r3, r4, r5, r6, r7, r8, r9, r10, r11, r12⟩ := (unhide HL5).ru.cells
      obtain ⟨p0, p1, p2, p3, p4, p5⟩ := (unhide HL5).pb.all
      obtain ⟨q0, q1, q2, q3, q4⟩ := (unhide HL5).cb.all
      go_upto_region 2 with fail
      rw [← unhide HW5]
      go_wp2_with fail
      refine (unhide HK _ (unhide HL5).bw).mono ?_
      rintro e w6 ⟨rfl, hb6⟩
      have HL6 := hide ((unhide HL5).step hb6)
      have HX6 := hide ((unhide HX5).below hb6 hl5)
      have hl6 : w4.heap.size < w6.heap.size := Nat.lt_of_lt_of_le hl5 hb6.size
      clear r0 r1 r2 r3 r4 r5 r6 r7 r8 r9 r10 r11 r12 p0 p1 p2 p3 p4 p5 q0 q1 q2 q3 q4
      clear HL5 HX5 HW5 HK hb6 hl5
      obtain ⟨r0, r1, r2, r3, r4, r5, r6, r7, r8, r9, r10, r11, r12⟩ := (unhide HL6).ru.cells
      obtain ⟨p0, p1, p2, p3, p4, p5⟩ := (unhide HL6).pb.all
      obtain ⟨q0, q1, q2, q3, q4⟩ := (unhide HL6).cb.all
      go_wp2_with fail
      refine (unhide HO _ (unhide HL6).bw).mono ?_
      rintro e w7 ⟨rfl, hb7⟩
      have HL7 := hide ((unhide HL6).step hb7)
      have hx7 := (unhide HX6).below hb7 hl6
      clear r0 r1 r2 r3 r4 r5 r6 r7 r8 r9 r10 r11 r12 p0 p1 p2 p3 p4 p5 q0 q1 q2 q3 q4
      obtain ⟨x0, x1, x2, x3, x4⟩ := hx7.all
      have HB7 := hide (unhide HL7).bw
      clear HL6 HX6 HO hb7 hl6 hx7 HL7
      go_wp2
      go_ret
      exact ⟨rfl, unhide HB7⟩

end Go.Proofs.YtlogengkhlmcbaaGreatDoor

namespace Go.Proofs.YtlogengkhlmcbaaGreatDoor
open Go.RowKit
attribute [local go_sem ↓] Go.wp_at_zero Go.wp_at_succ

set_option maxHeartbeats 8000000 in
set_option maxRecDepth 100000 in
theorem law_okF (v0 v1 v2 v3 v4 v5 v6 v7 v8 v9 v10 v11 v12 : Value) (p : Po) (d : Nat) (s : Bool) (f t : Int) (c : Nat) (kv : Value) (sh : Nat → Ct → Bool) (least : Nat) (R : Bool) (w : World) (hd9 : d ≤ 9)
    (hP : ∀ u, Below w.heap.size w u → Calls Tryz.prog 4 #[.agg #[v0, v1, v2, v3, v4, v5, v6, v7, v8, v9, v10, v11, v12], .agg #[.int .i64 p.W, .int .i64 p.H, .string p.C, .int .i64 p.T, .string p.A, .string p.B], .int .i64 (d : Int)] u (PvP sh least false u))
    (hK : ∀ u, Below w.heap.size w u → Calls Tryz.prog 5 #[.agg #[v0, v1, v2, v3, v4, v5, v6, v7, v8, v9, v10, v11, v12], .agg #[.int .i64 p.W, .int .i64 p.H, .string p.C, .int .i64 p.T, .string p.A, .string p.B], .int .i64 (d : Int), .agg #[.bool s, .int .i64 f, .int .i64 t, .int .u8 (c : Int), kv]] u fun e w' => e = .returned (.tuple #[.bool R, .int .i64 0]) ∧ Below u.heap.size u w')
    (hO : ∀ u, Below w.heap.size w u → Calls Tryz.prog 6 #[.agg #[v0, v1, v2, v3, v4, v5, v6, v7, v8, v9, v10, v11, v12], .agg #[.int .i64 p.W, .int .i64 p.H, .string p.C, .int .i64 p.T, .string p.A, .string p.B]] u fun e w' => e = .returned (.bool true) ∧ Below u.heap.size u w')
    (hS : ∀ u, Below w.heap.size w u → Calls Tryz.prog 7 #[.agg #[v0, v1, v2, v3, v4, v5, v6, v7, v8, v9, v10, v11, v12], .agg #[.int .i64 p.W, .int .i64 p.H, .string p.C, .int .i64 p.T, .string p.A, .string p.B], .int .i64 (d : Int), .int .i64 p.T, .agg #[.bool s, .int .i64 f, .int .i64 t, .int .u8 (c : Int), kv]] u fun e w' => e = .returned (.bool R) ∧ Below u.heap.size u w')
    (hW : ∀ u, Below w.heap.size w u → Calls Tryz.prog 8 #[.agg #[v0, v1, v2, v3, v4, v5, v6, v7, v8, v9, v10, v11, v12], .agg #[.int .i64 p.W, .int .i64 p.H, .string p.C, .int .i64 p.T, .string p.A, .string p.B], .int .i64 (d : Int), .int .i64 p.T] u fun e w' => e = .returned (.bool false) ∧ Below u.heap.size u w')
    (hSX : ∀ (xs : Bool) (xf xt : Int) (xc : Nat) (xks : List Ct) (no : Option Addr) (nc dd : Nat) (w4 : World), Below w.heap.size w w4 → xc < 256 → isCts dd w4 w4.heap.size no nc xks → (∀ n, least ≤ n → sh n (.mk xs xf xt xc xks) = true) → ∀ u, Below w4.heap.size w4 u → Calls Tryz.prog 7 #[.agg #[v0, v1, v2, v3, v4, v5, v6, v7, v8, v9, v10, v11, v12], .agg #[.int .i64 p.W, .int .i64 p.H, .string p.C, .int .i64 p.T, .string p.A, .string p.B], .int .i64 (d : Int), .int .i64 p.T, .agg #[.bool xs, .int .i64 xf, .int .i64 xt, .int .u8 (xc : Int), .slice no xks.length nc]] u fun e w' => e = .returned (.bool true) ∧ Below u.heap.size u w') :
    Calls Tryz.prog 3 #[.agg #[v0, v1, v2, v3, v4, v5, v6, v7, v8, v9, v10, v11, v12], .agg #[.int .i64 p.W, .int .i64 p.H, .string p.C, .int .i64 p.T, .string p.A, .string p.B], .int .i64 (d : Int), .agg #[.bool s, .int .i64 f, .int .i64 t, .int .u8 (c : Int), kv]] w fun e w' => e = .returned (.bool true) ∧ Below w.heap.size w w' := by
  have heq0 : ∀ u, (Op.equalIn 10000 29 (.agg #[.int .i64 0, .int .i64 0, .int .u8 0]) (.agg #[.int .i64 0, .int .i64 0, .int .u8 0])).run Tryz.prog u = .ok true u := fun u => by
    rw [eqMove]
    simp
  have hRR : (R != R) = false := by cases R <;> rfl
  have h0 : ¬ (d : Int) < 0 := by omega
  have h9 : ¬ (9 : Int) < (d : Int) := by omega
  obtain ⟨w1, hw1⟩ : ∃ w1, w1 = w.alloc (.cells #[v0, v1, v2, v3, v4, v5, v6, v7, v8, v9, v10, v11, v12] 27 (0, 0)) := ⟨_, rfl⟩
  obtain ⟨w2, hw2⟩ : ∃ w2, w2 = w1.alloc (.cells #[.int .i64 p.W, .int .i64 p.H, .string p.C, .int .i64 p.T, .string p.A, .string p.B] 24 (0, 0)) := ⟨_, rfl⟩
  obtain ⟨w3, hw3⟩ : ∃ w3, w3 = w2.alloc (.cells #[.bool s, .int .i64 f, .int .i64 t, .int .u8 (c : Int), kv] 32 (0, 0)) := ⟨_, rfl⟩
  have hb1 : Below w.heap.size w w1 := by rw [hw1]; exact (Below.refl _ _).alloc (Nat.le_refl _) _
  have hb2 : Below w1.heap.size w1 w2 := by rw [hw2]; exact (Below.refl _ _).alloc (Nat.le_refl _) _
  have hb3 : Below w2.heap.size w2 w3 := by rw [hw3]; exact (Below.refl _ _).alloc (Nat.le_refl _) _
  have s1 : w1.heap.size = w.heap.size + 1 := by rw [hw1]; simp
  have s2 : w2.heap.size = w.heap.size + 2 := by rw [hw2]; simp [s1]
  have s3 : w3.heap.size = w.heap.size + 3 := by rw [hw3]; simp [s2]
  have hlf3 : LF w v0 v1 v2 v3 v4 v5 v6 v7 v8 v9 v10 v11 v12 p s f t c kv w3 :=
    ⟨(isRu.below (isRu.below (show isRu w1 w.heap.size v0 v1 v2 v3 v4 v5 v6 v7 v8 v9 v10 v11 v12 by rw [hw1]; exact heap_alloc_new w _) hb2 (by omega)) hb3 (by omega)), (show isPb w2 (w.heap.size + 1) p.W p.H p.T p.C p.A p.B by rw [hw2, ← s1]; exact heap_alloc_new w1 _).below hb3 (by omega), by rw [hw3, ← s2]; exact heap_alloc_new w2 _, (hb1.trans (hb2.mono (by omega))).trans (hb3.mono (by omega)), by omega⟩
  have HLF := hide hlf3
  have HW1 := hide hw1
  have HW2 := hide hw2
  have HW3 := hide hw3
  clear hw1 hw2 hw3 hb1 hb2 hb3 s1 s2 s3 hlf3
  have HP := hide hP
  have HK := hide hK
  have HO := hide hO
  have HS := hide hS
  have HW := hide hW
  have HSX := hide hSX
  clear hP hK hO hS hW hSX hd9
  go_enter Tryz.func3, Tryz.ntmps3
  go_upto_region 1 with fail
  rw [← unhide HW1, ← unhide HW2, ← unhide HW3]
  obtain ⟨r0, r1, r2, r3, r4, r5, r6, r7, r8, r9, r10, r11, r12⟩ := (unhide HLF).ru.cells
  obtain ⟨p0, p1, p2, p3, p4, p5⟩ := (unhide HLF).pb.all
  obtain ⟨q0, q1, q2, q3, q4⟩ := (unhide HLF).cb.all
  go_wp2_with fail
  refine (unhide HP _ (unhide HLF).bw).mono ?_
  rintro e w4 ⟨xs, xf, xt, xc, xks, no, nc, dd, rfl, hxc, hxk, hxy, hxn, hb4⟩
  obtain ⟨w5, hw5⟩ : ∃ w5, w5 = w4.alloc (.cells #[.bool xs, .int .i64 xf, .int .i64 xt, .int .u8 (xc : Int), .slice no xks.length nc] 32 (0, 0)) := ⟨_, rfl⟩
  have hb5 : Below w4.heap.size w4 w5 := by rw [hw5]; exact (Below.refl _ _).alloc (Nat.le_refl _) _
  have hx5 : isCb w5 w4.heap.size xs xf xt xc (.slice no xks.length nc) := by rw [hw5]; exact heap_alloc_new w4 _
  have hl5 : w4.heap.size < w5.heap.size := by rw [hw5]; simp
  have HXC := hide hxc
  have HXK := hide hxk
  have HXY := hide hxy
  have HXN := hide hxn
  have HL4 := hide ((unhide HLF).step hb4)
  have HL5 := hide (((unhide HLF).step hb4).step hb5)
  have HB5 := hide hb5
  have HX5 := hide hx5
  have HW5 := hide hw5
  clear r0 r1 r2 r3 r4 r5 r6 r7 r8 r9 r10 r11 r12 p0 p1 p2 p3 p4 p5 q0 q1 q2 q3 q4
  clear HLF HW1 HW2 HW3 HP hb4 hb5 hx5 hw5 hxc hxk hxy hxn
  obtain ⟨r0, r1, r2, r3, r4, r5, r6, r7, r8, r9, r10, r11, r12⟩ := (unhide HL5).ru.cells
  obtain ⟨p0, p1, p2, p3, p4, p5⟩ := (unhide HL5).pb.all
  obtain ⟨q0, q1, q2, q3, q4⟩ := (unhide HL5).cb.all
  go_upto_region 2 with fail
  rw [← unhide HW5]
  go_wp2_with fail
  refine (unhide HK _ (unhide HL5).bw).mono ?_
  rintro e w6 ⟨rfl, hb6⟩
  have HL6 := hide ((unhide HL5).step hb6)
  have HX6 := hide ((unhide HX5).below hb6 hl5)
  have HB6 := hide ((unhide HB5).trans (hb6.mono (unhide HB5).size))
  have hl6 : w4.heap.size < w6.heap.size := Nat.lt_of_lt_of_le hl5 hb6.size
  clear r0 r1 r2 r3 r4 r5 r6 r7 r8 r9 r10 r11 r12 p0 p1 p2 p3 p4 p5 q0 q1 q2 q3 q4
  clear HL5 HX5 HW5 HK hb6 hl5 HB5
  obtain ⟨r0, r1, r2, r3, r4, r5, r6, r7, r8, r9, r10, r11, r12⟩ := (unhide HL6).ru.cells
  obtain ⟨p0, p1, p2, p3, p4, p5⟩ := (unhide HL6).pb.all
  obtain ⟨q0, q1, q2, q3, q4⟩ := (unhide HL6).cb.all
  go_wp2_with fail
  refine (unhide HO _ (unhide HL6).bw).mono ?_
  rintro e w7 ⟨rfl, hb7⟩
  have HL7 := hide ((unhide HL6).step hb7)
  have HX7 := hide ((unhide HX6).below hb7 hl6)
  have HB7 := hide ((unhide HB6).trans (hb7.mono (unhide HB6).size))
  have hl7 : w4.heap.size < w7.heap.size := Nat.lt_of_lt_of_le hl6 hb7.size
  clear r0 r1 r2 r3 r4 r5 r6 r7 r8 r9 r10 r11 r12 p0 p1 p2 p3 p4 p5 q0 q1 q2 q3 q4
  clear HL6 HX6 HO hb7 hl6 HB6
  obtain ⟨r0, r1, r2, r3, r4, r5, r6, r7, r8, r9, r10, r11, r12⟩ := (unhide HL7).ru.cells
  obtain ⟨p0, p1, p2, p3, p4, p5⟩ := (unhide HL7).pb.all
  obtain ⟨q0, q1, q2, q3, q4⟩ := (unhide HL7).cb.all
  obtain ⟨x0, x1, x2, x3, x4⟩ := (unhide HX7).all
  obtain ⟨rfl, rfl, rfl, rfl, rfl, rfl, rfl⟩ := unhide HXN (by first | exact trivial | rfl)
  clear HXN HXY HXC HXK HSX
  go_wp2_with fail
  refine (unhide HS _ (unhide HL7).bw).mono ?_
  rintro e w8 ⟨rfl, hb8⟩
  have HL8 := hide ((unhide HL7).step hb8)
  have HX8 := hide ((unhide HX7).below hb8 hl7)
  have HB8 := hide ((unhide HB7).trans (hb8.mono (unhide HB7).size))
  have hl8 : w4.heap.size < w8.heap.size := Nat.lt_of_lt_of_le hl7 hb8.size
  clear r0 r1 r2 r3 r4 r5 r6 r7 r8 r9 r10 r11 r12 p0 p1 p2 p3 p4 p5 q0 q1 q2 q3 q4
  clear HL7 HX7 HS hb8 hl7 HB7 x0 x1 x2 x3 x4
  obtain ⟨r0, r1, r2, r3, r4, r5, r6, r7, r8, r9, r10, r11, r12⟩ := (unhide HL8).ru.cells
  obtain ⟨p0, p1, p2, p3, p4, p5⟩ := (unhide HL8).pb.all
  obtain ⟨q0, q1, q2, q3, q4⟩ := (unhide HL8).cb.all
  go_wp2_with fail
  refine (unhide HW _ (unhide HL8).bw).mono ?_
  rintro e w9 ⟨rfl, hb9⟩
  have HL9 := hide ((unhide HL8).step hb9)
  have hx9 := (unhide HX8).below hb9 hl8
  have HB9 := hide ((unhide HB8).trans (hb9.mono (unhide HB8).size))
  clear r0 r1 r2 r3 r4 r5 r6 r7 r8 r9 r10 r11 r12 p0 p1 p2 p3 p4 p5 q0 q1 q2 q3 q4
  clear HL8 HX8 HW hb9 hl8 HB8
  obtain ⟨r0, r1, r2, r3, r4, r5, r6, r7, r8, r9, r10, r11, r12⟩ := (unhide HL9).ru.cells
  obtain ⟨p0, p1, p2, p3, p4, p5⟩ := (unhide HL9).pb.all
  obtain ⟨q0, q1, q2, q3, q4⟩ := (unhide HL9).cb.all
  obtain ⟨x0, x1, x2, x3, x4⟩ := hx9.all
  have HB10 := hide (unhide HL9).bw
  clear r0 r1 r2 r3 r4 r5 r6 r7 r8 r9 r10 r11 r12 p0 p1 p2 p3 p4 p5 q0 q1 q2 q3 q4
  clear HL9 hx9 HB9
  go_wp2
  go_ret
  exact ⟨rfl, unhide HB10⟩
end Go.Proofs.YtlogengkhlmcbaaGreatDoor
