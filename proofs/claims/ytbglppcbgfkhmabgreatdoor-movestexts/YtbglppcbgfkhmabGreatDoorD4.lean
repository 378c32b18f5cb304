/-
  MovesMirror, walked, over what is known of the functions that it calls.
-/
import Derived.Test.YtbglppcbgfkhmabGreatDoorJ30
import Derived.Deep.CutRange
import Derived.Deep.RegionWith
namespace Go.Proofs.YtbglppcbgfkhmabGreatDoor
open Go.RowKit
attribute [local go_sem ↓] Go.wp_at_zero Go.wp_at_succ

/-- The two boxes of the law's arguments. -/
structure MF (w : World) (v0 v1 v2 v3 v4 v5 v6 v7 v8 v9 v10 v11 v12 : Value) (W H T : Int) (C A B : ByteArray) (u : World) : Prop where
  ru : isRu u w.heap.size v0 v1 v2 v3 v4 v5 v6 v7 v8 v9 v10 v11 v12
  pb : isPb u (w.heap.size + 1) W H T C A B
  bw : Below w.heap.size w u
  sz : w.heap.size + 2 ≤ u.heap.size
theorem MF.step {w : World} {v0 v1 v2 v3 v4 v5 v6 v7 v8 v9 v10 v11 v12 : Value} {W H T : Int} {C A B : ByteArray} {u u' : World} (h : MF w v0 v1 v2 v3 v4 v5 v6 v7 v8 v9 v10 v11 v12 W H T C A B u) (hb : Below u.heap.size u u') : MF w v0 v1 v2 v3 v4 v5 v6 v7 v8 v9 v10 v11 v12 W H T C A B u' := by
  have h1 := h.sz
  have h2 := hb.size
  exact ⟨h.ru.below hb (by omega), h.pb.below hb (by omega), h.bw.trans (hb.mono h.bw.size), by omega⟩
theorem cutFor2M (R : Nat → World → Prop) {T : Nat → World → Prop} {G : Prop} (k : Hid (∀ b v, R b v → T b v) → G) (p : ∀ b v, R b v → T b v) : G := k (hide p)
theorem isMb.set0 {w : World} {b : Nat} {f t c : Int} (h : isMb w b f t c) (f' : Int) : isMb (w.setCell ⟨b, 0, none⟩ (.int .i64 f')) b f' t c := by
  unfold isMb at h ⊢; simp [World.setCell, Array.getElem?_modify, h]
theorem isMb.set1 {w : World} {b : Nat} {f t c : Int} (h : isMb w b f t c) (t' : Int) : isMb (w.setCell ⟨b, 1, none⟩ (.int .i64 t')) b f t' c := by
  unfold isMb at h ⊢; simp [World.setCell, Array.getElem?_modify, h]
theorem isMb.frozen' {w : World} {b : Nat} {f t c : Int} (h : isMb w b f t c) (k : Nat) : w.frozen? ⟨b, k, none⟩ = false := frozen_of_row w b k _ _ h

set_option maxHeartbeats 8000000 in
set_option maxRecDepth 100000 in
theorem mirror_walk (v0 v1 v2 v3 v4 v5 v6 v7 v8 v9 v10 v11 v12 : Value) (W H : Nat) (T : Int) (C A B C1 C2 : ByteArray) (L L1 L2 : List Mv) (o y : Int) (w : World) (hW : 1 ≤ W ∧ W ≤ 8) (hH : 1 ≤ H ∧ H ≤ 8) (hn1 : L1.length = L.length) (hn2 : L2.length = L.length) (hll : L.length ≤ 4608) (ho : 0 ≤ o ∧ o ≤ 3) (hy : y = if o = 1 ∨ o = 2 then 3 - o else o)
    (hMv : ∀ u, Below w.heap.size w u → Calls Tryz.prog 21 #[] u fun e w' => e = .returned (.bool true) ∧ Below u.heap.size u w')
    (hM0 : ∀ u, Below w.heap.size w u → Calls Tryz.prog 7 #[.agg #[v0, v1, v2, v3, v4, v5, v6, v7, v8, v9, v10, v11, v12], .agg #[.int .i64 (W : Int), .int .i64 (H : Int), .string C, .int .i64 T, .string A, .string B]] u fun e w' => ∃ v, e = .returned (.tuple #[v, .int .i64 0]) ∧ w'.ownsRow u.heap.size 29 3 v L.length (mvals L) ∧ Below u.heap.size u w')
    (hO0 : ∀ u, Below w.heap.size w u → Calls Tryz.prog 8 #[.agg #[v0, v1, v2, v3, v4, v5, v6, v7, v8, v9, v10, v11, v12], .agg #[.int .i64 (W : Int), .int .i64 (H : Int), .string C, .int .i64 T, .string A, .string B]] u fun e w' => e = .returned (.tuple #[.int .i64 o, .int .i64 0]) ∧ Below u.heap.size u w')
    (hTu : ∀ u, Calls Tryz.prog 22 #[.agg #[.int .i64 (W : Int), .int .i64 (H : Int), .string C, .int .i64 T, .string A, .string B], .int .i64 1] u fun e w' => e = .returned (.tuple #[.agg #[.int .i64 (W : Int), .int .i64 (H : Int), .string C1, .int .i64 T, .string A, .string B], .int .i64 0]) ∧ Below u.heap.size u w')
    (hM1 : ∀ u, Below w.heap.size w u → Calls Tryz.prog 7 #[.agg #[v0, v1, v2, v3, v4, v5, v6, v7, v8, v9, v10, v11, v12], .agg #[.int .i64 (W : Int), .int .i64 (H : Int), .string C1, .int .i64 T, .string A, .string B]] u fun e w' => ∃ v, e = .returned (.tuple #[v, .int .i64 0]) ∧ w'.ownsRow u.heap.size 29 3 v L1.length (mvals L1) ∧ Below u.heap.size u w')
    (hO1 : ∀ u, Below w.heap.size w u → Calls Tryz.prog 8 #[.agg #[v0, v1, v2, v3, v4, v5, v6, v7, v8, v9, v10, v11, v12], .agg #[.int .i64 (W : Int), .int .i64 (H : Int), .string C1, .int .i64 T, .string A, .string B]] u fun e w' => e = .returned (.tuple #[.int .i64 o, .int .i64 0]) ∧ Below u.heap.size u w')
    (hSw : ∀ u, Calls Tryz.prog 23 #[.agg #[.int .i64 (W : Int), .int .i64 (H : Int), .string C, .int .i64 T, .string A, .string B]] u fun e w' => e = .returned (.tuple #[.agg #[.int .i64 (W : Int), .int .i64 (H : Int), .string C2, .int .i64 (1 - T), .string B, .string A], .int .i64 0]) ∧ Below u.heap.size u w')
    (hM2 : ∀ u, Below w.heap.size w u → Calls Tryz.prog 7 #[.agg #[v0, v1, v2, v3, v4, v5, v6, v7, v8, v9, v10, v11, v12], .agg #[.int .i64 (W : Int), .int .i64 (H : Int), .string C2, .int .i64 (1 - T), .string B, .string A]] u fun e w' => ∃ v, e = .returned (.tuple #[v, .int .i64 0]) ∧ w'.ownsRow u.heap.size 29 3 v L2.length (mvals L2) ∧ Below u.heap.size u w')
    (hO2 : ∀ u, Below w.heap.size w u → Calls Tryz.prog 8 #[.agg #[v0, v1, v2, v3, v4, v5, v6, v7, v8, v9, v10, v11, v12], .agg #[.int .i64 (W : Int), .int .i64 (H : Int), .string C2, .int .i64 (1 - T), .string B, .string A]] u fun e w' => e = .returned (.tuple #[.int .i64 y, .int .i64 0]) ∧ Below u.heap.size u w')
    (hin : ∀ m ∈ L, m.f < ((W * H : Nat) : Int) ∧ (m.t : Int) < ((W * H : Nat) : Int) ∧ inM (flipI W m.f) (flipI W m.t) m.c L1 = true ∧ inM (upsI W H m.f) (upsI W H m.t) m.c L2 = true) :
    Calls Tryz.prog 5 #[.agg #[v0, v1, v2, v3, v4, v5, v6, v7, v8, v9, v10, v11, v12], .agg #[.int .i64 (W : Int), .int .i64 (H : Int), .string C, .int .i64 T, .string A, .string B]] w fun e w' => e = .returned (.bool true) ∧ Below w.heap.size w w' := by
  obtain ⟨w1, hw1⟩ : ∃ w1, w1 = w.alloc (.cells #[v0, v1, v2, v3, v4, v5, v6, v7, v8, v9, v10, v11, v12] 27 (0, 0)) := ⟨_, rfl⟩
  obtain ⟨w2, hw2⟩ : ∃ w2, w2 = w1.alloc (.cells #[.int .i64 (W : Int), .int .i64 (H : Int), .string C, .int .i64 T, .string A, .string B] 24 (0, 0)) := ⟨_, rfl⟩
  have hb1 : Below w.heap.size w w1 := by rw [hw1]; exact (Below.refl _ _).alloc (Nat.le_refl _) _
  have hb2 : Below w1.heap.size w1 w2 := by rw [hw2]; exact (Below.refl _ _).alloc (Nat.le_refl _) _
  have s1 : w1.heap.size = w.heap.size + 1 := by rw [hw1]; simp
  have s2 : w2.heap.size = w.heap.size + 2 := by rw [hw2]; simp [s1]
  have hmf2 : MF w v0 v1 v2 v3 v4 v5 v6 v7 v8 v9 v10 v11 v12 W H T C A B w2 :=
    ⟨isRu.below (show isRu w1 w.heap.size v0 v1 v2 v3 v4 v5 v6 v7 v8 v9 v10 v11 v12 by rw [hw1]; exact heap_alloc_new w _) hb2 (by omega), by rw [hw2, ← s1]; exact heap_alloc_new w1 _, hb1.trans (hb2.mono (by omega)), by omega⟩
  obtain ⟨n, hn⟩ : ∃ n, n = L.length := ⟨_, rfl⟩
  rw [← hn] at hn1 hn2 hll
  rw [hn1] at hM1
  rw [hn2] at hM2
  rw [← hn] at hM0
  have hn9 : n ≤ 9223372036854775807 := by omega
  have HN := hide hn
  have HN1 := hide hn1
  have HN2 := hide hn2
  have HMF := hide hmf2
  have HW1 := hide hw1
  have HW2 := hide hw2
  have HMV := hide hMv
  have HM0 := hide hM0
  have HO0 := hide hO0
  have HTU := hide hTu
  have HM1 := hide hM1
  have HO1 := hide hO1
  have HSW := hide hSw
  have HM2 := hide hM2
  have HO2 := hide hO2
  have HIN := hide hin
  have HY := hide hy
  clear hw1 hw2 hb1 hb2 s1 s2 hmf2 hMv hM0 hO0 hTu hM1 hO1 hSw hM2 hO2 hin hn hn1 hn2 hy
  go_enter Tryz.func5, Tryz.ntmps5
  go_wp2_with fail
  rw [← unhide HW1, ← unhide HW2]
  refine (unhide HMV _ (unhide HMF).bw).mono ?_
  rintro e w3 ⟨rfl, hb3⟩
  have HMF3 := hide ((unhide HMF).step hb3)
  clear HMF hb3 HW1 HW2 HMV
  obtain ⟨r0, r1, r2, r3, r4, r5, r6, r7, r8, r9, r10, r11, r12⟩ := (unhide HMF3).ru.cells
  obtain ⟨p0, p1, p2, p3, p4, p5⟩ := (unhide HMF3).pb.all
  go_wp2_with fail
  refine (unhide HM0 _ (unhide HMF3).bw).mono ?_
  rintro e w4 ⟨va, rfl, hown, hb4⟩
  obtain ⟨lo1, lc1, rfl⟩ := row_len hown
  have hl4 : isMvs w4 (.slice lo1 n lc1) L := isMvs.of (by rw [← unhide HN]; exact hown)
  have HL4 := hide hl4
  have HMF4 := hide ((unhide HMF3).step hb4)
  clear HMF3 hb4 HM0 hown hl4 r0 r1 r2 r3 r4 r5 r6 r7 r8 r9 r10 r11 r12 p0 p1 p2 p3 p4 p5
  obtain ⟨r0, r1, r2, r3, r4, r5, r6, r7, r8, r9, r10, r11, r12⟩ := (unhide HMF4).ru.cells
  obtain ⟨p0, p1, p2, p3, p4, p5⟩ := (unhide HMF4).pb.all
  go_wp2_with fail
  refine (unhide HO0 _ (unhide HMF4).bw).mono ?_
  rintro e w5 ⟨rfl, hb5⟩
  have HL5 := hide ((unhide HL4).below hb5)
  have HMF5 := hide ((unhide HMF4).step hb5)
  clear HMF4 HL4 hb5 HO0 r0 r1 r2 r3 r4 r5 r6 r7 r8 r9 r10 r11 r12 p0 p1 p2 p3 p4 p5
  obtain ⟨p0, p1, p2, p3, p4, p5⟩ := (unhide HMF5).pb.all
  go_wp2_with fail
  refine (unhide HTU _).mono ?_
  rintro e w6 ⟨rfl, hb6⟩
  have hl6 := (unhide HL5).below hb6
  have hmf6 := (unhide HMF5).step hb6
  obtain ⟨w7, hw7⟩ : ∃ w7, w7 = w6.alloc (.cells #[.int .i64 (W : Int), .int .i64 (H : Int), .string C1, .int .i64 T, .string A, .string B] 24 (0, 0)) := ⟨_, rfl⟩
  have hb7 : Below w6.heap.size w6 w7 := by rw [hw7]; exact (Below.refl _ _).alloc (Nat.le_refl _) _
  have hq7 : isPb w7 w6.heap.size W H T C1 A B := by rw [hw7]; exact heap_alloc_new w6 _
  have HQ7 := hide hq7
  have HL7 := hide (hl6.below hb7)
  have HMF7 := hide (hmf6.step hb7)
  have HW7 := hide hw7
  clear HL5 HMF5 HTU hb6 hl6 hmf6 hw7 hb7 hq7 p0 p1 p2 p3 p4 p5
  obtain ⟨r0, r1, r2, r3, r4, r5, r6, r7, r8, r9, r10, r11, r12⟩ := (unhide HMF7).ru.cells
  obtain ⟨q0, q1, q2, q3, q4, q5⟩ := (unhide HQ7).all
  go_upto_region 8 with fail
  rw [← unhide HW7]
  go_wp2_with fail
  refine (unhide HM1 _ (unhide HMF7).bw).mono ?_
  rintro e w8 ⟨vb, rfl, hown, hb8⟩
  obtain ⟨lo2, lc2, rfl⟩ := row_len hown
  have hl8 : isMvs w8 (.slice lo2 n lc2) L1 := isMvs.of (by rw [unhide HN1]; exact hown)
  have HA8 := hide hl8
  have HL8 := hide ((unhide HL7).below hb8)
  have HQ8 := hide ((unhide HQ7).below hb8 (unhide HQ7).lt)
  have HMF8 := hide ((unhide HMF7).step hb8)
  clear HMF7 HL7 HQ7 HW7 hb8 HM1 hown hl8 r0 r1 r2 r3 r4 r5 r6 r7 r8 r9 r10 r11 r12 q0 q1 q2 q3 q4 q5
  obtain ⟨r0, r1, r2, r3, r4, r5, r6, r7, r8, r9, r10, r11, r12⟩ := (unhide HMF8).ru.cells
  obtain ⟨q0, q1, q2, q3, q4, q5⟩ := (unhide HQ8).all
  go_wp2_with fail
  refine (unhide HO1 _ (unhide HMF8).bw).mono ?_
  rintro e w9 ⟨rfl, hb9⟩
  have HA9 := hide ((unhide HA8).below hb9)
  have HL9 := hide ((unhide HL8).below hb9)
  have HMF9 := hide ((unhide HMF8).step hb9)
  clear HMF8 HL8 HA8 HQ8 hb9 HO1 r0 r1 r2 r3 r4 r5 r6 r7 r8 r9 r10 r11 r12 q0 q1 q2 q3 q4 q5
  obtain ⟨p0, p1, p2, p3, p4, p5⟩ := (unhide HMF9).pb.all
  go_wp2_with fail
  refine (unhide HSW _).mono ?_
  rintro e wa ⟨rfl, hba⟩
  have hla := (unhide HL9).below hba
  have haa := (unhide HA9).below hba
  have hmfa := (unhide HMF9).step hba
  obtain ⟨wb, hwb⟩ : ∃ wb, wb = wa.alloc (.cells #[.int .i64 (W : Int), .int .i64 (H : Int), .string C2, .int .i64 (1 - T), .string B, .string A] 24 (0, 0)) := ⟨_, rfl⟩
  have hbb : Below wa.heap.size wa wb := by rw [hwb]; exact (Below.refl _ _).alloc (Nat.le_refl _) _
  have hqb : isPb wb wa.heap.size W H (1 - T) C2 B A := by rw [hwb]; exact heap_alloc_new wa _
  have HQB := hide hqb
  have HLB := hide (hla.below hbb)
  have HAB := hide (haa.below hbb)
  have HMFB := hide (hmfa.step hbb)
  have HWB := hide hwb
  clear HL9 HA9 HMF9 HSW hba hla haa hmfa hwb hbb hqb p0 p1 p2 p3 p4 p5
  obtain ⟨r0, r1, r2, r3, r4, r5, r6, r7, r8, r9, r10, r11, r12⟩ := (unhide HMFB).ru.cells
  obtain ⟨q0, q1, q2, q3, q4, q5⟩ := (unhide HQB).all
  go_upto_region 13 with fail
  rw [← unhide HWB]
  go_wp2_with fail
  refine (unhide HM2 _ (unhide HMFB).bw).mono ?_
  rintro e wc ⟨vc, rfl, hown, hbc⟩
  obtain ⟨lo3, lc3, rfl⟩ := row_len hown
  have hlc : isMvs wc (.slice lo3 n lc3) L2 := isMvs.of (by rw [unhide HN2]; exact hown)
  have HBC := hide hlc
  have HLC := hide ((unhide HLB).below hbc)
  have HAC := hide ((unhide HAB).below hbc)
  have HQC := hide ((unhide HQB).below hbc (unhide HQB).lt)
  have HMFC := hide ((unhide HMFB).step hbc)
  clear HMFB HLB HAB HQB HWB hbc HM2 hown hlc r0 r1 r2 r3 r4 r5 r6 r7 r8 r9 r10 r11 r12 q0 q1 q2 q3 q4 q5
  obtain ⟨r0, r1, r2, r3, r4, r5, r6, r7, r8, r9, r10, r11, r12⟩ := (unhide HMFC).ru.cells
  obtain ⟨q0, q1, q2, q3, q4, q5⟩ := (unhide HQC).all
  go_wp2_with fail
  refine (unhide HO2 _ (unhide HMFC).bw).mono ?_
  rintro e wd ⟨rfl, hbd⟩
  have HBD := hide ((unhide HBC).below hbd)
  have HLD := hide ((unhide HLC).below hbd)
  have HAD := hide ((unhide HAC).below hbd)
  have HMFD := hide ((unhide HMFC).step hbd)
  clear HMFC HLC HAC HBC HQC hbd HO2 r0 r1 r2 r3 r4 r5 r6 r7 r8 r9 r10 r11 r12 q0 q1 q2 q3 q4 q5
  obtain ⟨D, hD⟩ : ∃ D : Bool, D = decide (o = 1 ∨ o = 2) := ⟨_, rfl⟩
  have HD := hide hD
  clear hD
  go_upto_region 17 with fail
  go_cut [125] from 120 to 124 (fun v wz => v = .bool D ∧ wz = wd)
  case first =>
    by_cases h1 : o = 1
    · have HY1 : Hid (D = true) := hide (by rw [unhide HD]; exact decide_eq_true (.inl h1))
      have hb1 : (o == 1) = true := by simp [h1]
      clear h1
      go_wp2_with fail
      go_meet
      case rel => exact ⟨by rw [unhide HY1], rfl⟩
    · have hb1 : (o == 1) = false := by simp [h1]
      by_cases h2 : o = 2
      · have HY1 : Hid (D = true) := hide (by rw [unhide HD]; exact decide_eq_true (.inr h2))
        have hb2 : (o == 2) = true := by simp [h2]
        clear h1 h2
        go_wp2_with fail
        go_meet
        case rel => exact ⟨by rw [unhide HY1], rfl⟩
      · have HY1 : Hid (D = false) := hide (by rw [unhide HD]; exact decide_eq_false (by omega))
        have hb2 : (o == 2) = false := by simp [h2]
        clear h1 h2
        go_wp2_with fail
        go_meet
        case rel => exact ⟨by rw [unhide HY1], rfl⟩
  case rest =>
    obtain ⟨rfl, rfl⟩ := hcut
    go_upto_if 125 with fail
    go_cut [7] from 126 to 127 (fun v wz => v = .int .i64 y ∧ wz = wc)
    case first =>
      cases D with
      | true =>
        have hoo : o = 1 ∨ o = 2 := of_decide_eq_true (unhide HD).symm
        have hy1 : 3 - o = y := by rw [unhide HY, if_pos hoo]
        have wy1 : IntKind.i64.wrap y = y := wrapI (by omega)
        clear hoo
        go_wp2_with fail
        go_meet
        case rel => exact ⟨rfl, rfl⟩
      | false =>
        have hoo : ¬ (o = 1 ∨ o = 2) := of_decide_eq_false (unhide HD).symm
        have HY1 : Hid (y = o) := hide (by rw [unhide HY, if_neg hoo])
        clear hoo
        go_wp2_with fail
        go_meet
        case rel => exact ⟨by rw [unhide HY1], rfl⟩
    case rest =>
      obtain ⟨rfl, rfl⟩ := hcut
      clear HY HD ho
      go_wp2_with fail
      go_loopw [130] (fun iv wr => ∃ i : Nat, iv = .int .i64 (i : Int) ∧ i ≤ n ∧ Hid (Below wc.heap.size wc wr)) (fun iv _ => n - (intOf iv).toNat)
      case atStart => exact ⟨0, rfl, Nat.zero_le _, hide (Below.refl _ _)⟩
      case round =>
        obtain ⟨i, rfl, hi, HB⟩ := hrel
        by_cases hlt : i < n
        · have hlti : (i : Int) < (n : Int) := by omega
          have hi0 : (0 : Int) ≤ (i : Int) := by omega
          have hil : i < L.length := by rw [← unhide HN]; exact hlt
          obtain ⟨m, hm⟩ : ∃ m, m = L[i] := ⟨_, rfl⟩
          have hmi : L[i]? = some m := by rw [hm]; exact List.getElem?_eq_getElem hil
          obtain ⟨hmf, hmt, hin1, hin2⟩ := unhide HIN m (List.mem_of_getElem? hmi)
          obtain ⟨ao, cap, e1, hle, hmx, hcs⟩ := (unhide HLD).below (unhide HB)
          obtain ⟨g, off, eg, hgk, c0, c1, c2⟩ := hcs i m hmi
          simp only [Value.slice.injEq] at e1
          obtain ⟨e1, e2, e3⟩ := e1
          subst eg
          subst e1
          subst e3
          unfold maxLen at hmx
          rw [← unhide HN] at hle
          have hmfr := (unhide HMFD).step (unhide HB)
          have h64 : W * H ≤ 64 := Nat.mul_le_mul hW.2 hH.2
          obtain ⟨F, hF⟩ : ∃ F, F = flipI W m.f := ⟨_, rfl⟩
          obtain ⟨G, hG⟩ : ∃ G, G = flipI W m.t := ⟨_, rfl⟩
          obtain ⟨F2, hF2⟩ : ∃ F2, F2 = upsI W H m.f := ⟨_, rfl⟩
          obtain ⟨G2, hG2⟩ : ∃ G2, G2 = upsI W H m.t := ⟨_, rfl⟩
          have HMI := hide (fun u => mirrored_any W H T C A B m.f m.t m.c u hW (by omega) (by omega))
          have HUF := hide (fun (gp : Nat) (u : World) (hu : isPb u gp W H T C A B) => ups_any W H T C A B m.f gp u hu hW hH hmf)
          have HUT := hide (fun (gp : Nat) (u : World) (hu : isPb u gp W H T C A B) => ups_any W H T C A B m.t gp u hu hW hH hmt)
          rw [← hF, ← hG] at HMI hin1
          rw [← hF2] at HUF
          rw [← hG2] at HUT
          rw [← hF2, ← hG2] at hin2
          have HIN1 := hide hin1
          have HIN2 := hide hin2
          have HMFR := hide hmfr
          have hszr := hmfr.sz
          have HBR := hide hmfr.bw
          obtain ⟨p0, p1, p2, p3, p4, p5⟩ := hmfr.pb.all
          have hHS : ∀ u, Below wr.heap.size wr u → (u.cell? ⟨w.heap.size + 1, 0, none⟩ = some (.int .i64 (W : Int)) ∧ u.cell? ⟨w.heap.size + 1, 1, none⟩ = some (.int .i64 (H : Int)) ∧ u.cell? ⟨w.heap.size + 1, 2, none⟩ = some (.string C) ∧ u.cell? ⟨w.heap.size + 1, 3, none⟩ = some (.int .i64 T) ∧ u.cell? ⟨w.heap.size + 1, 4, none⟩ = some (.string A) ∧ u.cell? ⟨w.heap.size + 1, 5, none⟩ = some (.string B) ∧ u.cell? ⟨g, off + i * 3, none⟩ = some (.int .i64 m.f) ∧ u.cell? ⟨g, off + i * 3 + 1, none⟩ = some (.int .i64 (m.t : Int)) ∧ u.cell? ⟨g, off + i * 3 + 2, none⟩ = some (.int .u8 (m.c : Int)) ∧ Below wr.heap.size wr u) := fun u hu => by
            obtain ⟨y0, y1, y2, y3, y4, y5⟩ := (hmfr.pb.below hu (by omega)).all
            exact ⟨y0, y1, y2, y3, y4, y5, (hu.cell (p := ⟨g, off + i * 3, none⟩) hgk).trans c0, (hu.cell (p := ⟨g, off + i * 3 + 1, none⟩) hgk).trans c1, (hu.cell (p := ⟨g, off + i * 3 + 2, none⟩) hgk).trans c2, hu⟩
          have HS := hide hHS
          have HB0 : Hid (Below wr.heap.size wr wr.drew) := hide (Below.refl _ _).drew
          have HBA : Hid (∀ o, Below wr.heap.size wr (wr.drew.alloc o)) := hide fun o => (unhide HB0).alloc (unhide HB0).size o
          clear hHS hm hmi hmf hmt hin1 hin2 hcs e2 hmfr hF hG hF2 hG2 hil h64
          go_upto_region 22 with fail
          apply cutFor2M (fun b v => isMb v b F G m.c ∧ Below wr.heap.size wr v ∧ wr.heap.size ≤ b)
          case k =>
            intro key
            go_region_held3 (fun u => u.cell? ⟨w.heap.size + 1, 0, none⟩ = some (.int .i64 (W : Int)) ∧ u.cell? ⟨w.heap.size + 1, 1, none⟩ = some (.int .i64 (H : Int)) ∧ u.cell? ⟨w.heap.size + 1, 2, none⟩ = some (.string C) ∧ u.cell? ⟨w.heap.size + 1, 3, none⟩ = some (.int .i64 T) ∧ u.cell? ⟨w.heap.size + 1, 4, none⟩ = some (.string A) ∧ u.cell? ⟨w.heap.size + 1, 5, none⟩ = some (.string B) ∧ u.cell? ⟨g, off + i * 3, none⟩ = some (.int .i64 m.f) ∧ u.cell? ⟨g, off + i * 3 + 1, none⟩ = some (.int .i64 (m.t : Int)) ∧ u.cell? ⟨g, off + i * 3 + 2, none⟩ = some (.int .u8 (m.c : Int)) ∧ Below wr.heap.size wr u)
              (first
                | exact unhide HS _ (unhide HB0)
                | exact unhide HS _ (unhide HBA _)
                | exact unhide HS _ (unhide HBX)
                | exact unhide HS _ (unhide HBXA _)
                | exact unhide HS _ (unhide HBXS _ _ _)
                | exact unhide HS _ (unhide HBXS2 _ _ _ _))
              (first
                | (go_at_call 24; (with_reducible refine (unhide HMI _).mono ?_); rintro e wx ⟨rfl, hb⟩
                   have HBX : Hid (Below wr.heap.size wr wx) := hide (by first | exact (unhide HB0).trans (hb.mono (unhide HB0).size) | exact (unhide HBA _).trans (hb.mono (unhide HBA _).size))
                   have HBXA : Hid (∀ o, Below wr.heap.size wr (wx.alloc o)) := hide (fun o => (unhide HBX).alloc (unhide HBX).size o)
                   have HBXS : Hid (∀ x y z : Value, Below wr.heap.size wr (((wx.setCell ⟨wr.heap.size, 0, none⟩ x).setCell ⟨wr.heap.size, 1, none⟩ y).setCell ⟨wr.heap.size, 2, none⟩ z)) := hide (fun x y z => (((unhide HBX).setCell (p := ⟨wr.heap.size, 0, none⟩) (Nat.le_refl _) x).setCell (p := ⟨wr.heap.size, 1, none⟩) (Nat.le_refl _) y).setCell (p := ⟨wr.heap.size, 2, none⟩) (Nat.le_refl _) z)
                   have HBXS2 : Hid (∀ o (x y z : Value), Below wr.heap.size wr ((((wx.alloc o).setCell ⟨wx.heap.size, 0, none⟩ x).setCell ⟨wx.heap.size, 1, none⟩ y).setCell ⟨wx.heap.size, 2, none⟩ z)) := hide (fun o x y z => (((unhide HBXA o).setCell (p := ⟨wx.heap.size, 0, none⟩) (unhide HBX).size x).setCell (p := ⟨wx.heap.size, 1, none⟩) (unhide HBX).size y).setCell (p := ⟨wx.heap.size, 2, none⟩) (unhide HBX).size z)
                   try (have HXZ : Hid (isMb wx wr.heap.size 0 0 0) := hide ((hb.block wr.heap.size (by simp)).trans (heap_alloc_new wr.drew _)); obtain ⟨x0, x1, x2⟩ := (unhide HXZ).all; have xf0 := (unhide HXZ).frozen 0; have xf1 := (unhide HXZ).frozen 1; have xf2 := (unhide HXZ).frozen 2)
                   clear hb))
            all_goals first
              | (have hfin : isMb (wx.alloc (.cells #[.int .i64 F, .int .i64 G, .int .u8 (m.c : Int)] 29 (0, 0))) wx.heap.size F G m.c ∧ Below wr.heap.size wr (wx.alloc (.cells #[.int .i64 F, .int .i64 G, .int .u8 (m.c : Int)] 29 (0, 0))) ∧ wr.heap.size ≤ wx.heap.size := ⟨heap_alloc_new wx _, unhide HBXA _, (unhide HBX).size⟩
                 generalize wx.alloc (.cells #[.int .i64 F, .int .i64 G, .int .u8 (m.c : Int)] 29 (0, 0)) = v at hfin ⊢
                 generalize wx.heap.size = bx at hfin ⊢
                 exact unhide key bx v hfin)
              | (have hfin : isMb (((wx.setCell ⟨wr.heap.size, 0, none⟩ (.int .i64 F)).setCell ⟨wr.heap.size, 1, none⟩ (.int .i64 G)).setCell ⟨wr.heap.size, 2, none⟩ (.int .u8 (m.c : Int))) wr.heap.size F G m.c ∧ Below wr.heap.size wr (((wx.setCell ⟨wr.heap.size, 0, none⟩ (.int .i64 F)).setCell ⟨wr.heap.size, 1, none⟩ (.int .i64 G)).setCell ⟨wr.heap.size, 2, none⟩ (.int .u8 (m.c : Int))) ∧ wr.heap.size ≤ wr.heap.size := ⟨(unhide HXZ).setAll F G m.c, unhide HBXS _ _ _, Nat.le_refl _⟩
                 generalize ((wx.setCell ⟨wr.heap.size, 0, none⟩ (.int .i64 F)).setCell ⟨wr.heap.size, 1, none⟩ (.int .i64 G)).setCell ⟨wr.heap.size, 2, none⟩ (.int .u8 (m.c : Int)) = v at hfin ⊢
                 obtain ⟨bx, hbxe⟩ : ∃ bx, bx = wr.heap.size := ⟨_, rfl⟩
                 rw [← hbxe]
                 exact unhide key bx v (by rw [hbxe]; exact hfin))
          rintro bx v ⟨hxb, hbv, hbx⟩
          obtain ⟨-, -, -, -, -, -, d0, d1, d2, -⟩ := unhide HS v hbv
          have hbxl := hxb.lt
          obtain ⟨v2, hv2⟩ : ∃ v2, v2 = v.alloc (.cells #[.int .i64 m.f, .int .i64 (m.t : Int), .int .u8 (m.c : Int)] 29 (0, 0)) := ⟨_, rfl⟩
          have hbv2 : Below v.heap.size v v2 := by rw [hv2]; exact (Below.refl _ _).alloc (Nat.le_refl _) _
          have hnb : isMb v2 v.heap.size m.f m.t m.c := by rw [hv2]; exact heap_alloc_new v _
          have hxb2 : isMb v2 bx F G m.c := hxb.below hbv2 hbxl
          have hbwv2 : Below wr.heap.size wr v2 := hbv.trans (hbv2.mono hbv.size)
          have hpb2 : isPb v2 (w.heap.size + 1) W H T C A B := (unhide HMFR).pb.below hbwv2 (by omega)
          have hsv : wr.heap.size ≤ v.heap.size := hbv.size
          have s2 : v2.heap.size = v.heap.size + 1 := by rw [hv2]; simp
          have HXB2 := hide hxb2
          have HNB := hide hnb
          have HBV2 := hide hbwv2
          have HPB2 := hide hpb2
          have HV2 := hide hv2
          obtain ⟨k0, k1, k2⟩ := hnb.all
          have kf0 := hnb.frozen 0
          have kf1 := hnb.frozen 1
          have HC1 := hide (unhide HUF (w.heap.size + 1) v2.drew hpb2)
          have HD0 : Hid (Below v2.heap.size v2 v2.drew) := hide (Below.refl _ _).drew
          clear hxb hbv hv2 hbv2 hnb hxb2 hbwv2 hpb2 c0 c1 c2 p0 p1 p2 p3 p4 p5 HS HB0 HBA HMI
          go_upto_region 25 with fail
          rw [← unhide HV2]
          clear HV2 d0 d1 d2
          go_region_with (first
            | (go_at_call 25; (with_reducible refine (unhide HC1).mono ?_); rintro e wx ⟨rfl, hbx⟩
               have HX1 : Hid (Below v2.heap.size v2 wx) := hide ((unhide HD0).trans (hbx.mono (unhide HD0).size))
               have hnx := (unhide HNB).below (unhide HX1) (by omega)
               obtain ⟨i0, i1, i2⟩ := hnx.all
               have HC2 := hide (unhide HUT (w.heap.size + 1) wx ((unhide HPB2).below (unhide HX1) (by omega)))
               clear hnx hbx)
            | (go_at_call 25; (with_reducible refine (unhide HC2).mono ?_); rintro e wy ⟨rfl, hby⟩
               have HX2 : Hid (Below v2.heap.size v2 wy) := hide ((unhide HX1).trans (hby.mono (unhide HX1).size))
               have hny := (unhide HNB).below (unhide HX2) (by omega)
               have HNY := hide hny
               obtain ⟨j0, j1, j2⟩ := hny.all
               have jf0 := hny.frozen 0
               have jf1 := hny.frozen 1
               clear hby hny))
          all_goals
            obtain ⟨x, hx⟩ : ∃ x, x = (wy.setCell ⟨v.heap.size, 0, none⟩ (.int .i64 F2)).setCell ⟨v.heap.size, 1, none⟩ (.int .i64 G2) := ⟨_, rfl⟩
            have hbx : Below v.heap.size v2 x := by
              rw [hx]
              exact (((unhide HX2).mono (show v.heap.size ≤ v2.heap.size by omega)).setCell (p := ⟨v.heap.size, 0, none⟩) (Nat.le_refl _) _).setCell (p := ⟨v.heap.size, 1, none⟩) (Nat.le_refl _) _
            have hnx : isMb x v.heap.size F2 G2 m.c := by rw [hx]; exact ((unhide HNY).set0 F2).set1 G2
            have hxx : isMb x bx F G m.c := (unhide HXB2).below hbx hbxl
            have hbwx : Below wr.heap.size wr x := (unhide HBV2).trans (hbx.mono hsv)
            have hax : isMvs x (.slice lo2 n lc2) L1 := ((unhide HAD).below (unhide HB)).below hbwx
            have hbbx : isMvs x (.slice lo3 n lc3) L2 := ((unhide HBD).below (unhide HB)).below hbwx
            rw [← hx]
            have HIA := hide (rIn_any (.slice lo2 n lc2) L1 F G m.c x hax)
            rw [unhide HIN1] at HIA
            have HNX := hide hnx
            have HBX := hide hbwx
            have HBBX := hide hbbx
            obtain ⟨y0, y1, y2⟩ := hxx.all
            clear hx hbx hnx hxx hbwx hax hbbx
            go_wp2_with fail
            refine (unhide HIA).mono ?_
            rintro e z ⟨rfl, hbz⟩
            have hnz := (unhide HNX).below hbz (unhide HNX).lt
            have HIB := hide (rIn_any (.slice lo3 n lc3) L2 F2 G2 m.c z ((unhide HBBX).below hbz))
            rw [unhide HIN2] at HIB
            have HBZ := hide ((unhide HBX).trans (hbz.mono (unhide HBX).size))
            obtain ⟨o0, o1, o2⟩ := hnz.all
            clear hnz hbz y0 y1 y2
            go_wp2_with fail
            refine (unhide HIB).mono ?_
            rintro e z2 ⟨rfl, hbz2⟩
            have HBZ2 := hide ((unhide HBZ).trans (hbz2.mono (unhide HBZ).size))
            clear hbz2 o0 o1 o2
            go_wp2
            go_roundw
            case rel => exact ⟨i + 1, by go_num, by omega, hide ((unhide HB).trans ((unhide HBZ2).mono (unhide HB).size))⟩
            case measure => simp only [intOf]; omega
        · have hlti : ¬ (i : Int) < (n : Int) := by omega
          have hyy : (y == y) = true := by simp
          go_wp2
          go_ret
          exact ⟨by rfl, (unhide HMFD).bw.trans ((unhide HB).mono (unhide HMFD).bw.size)⟩
end Go.Proofs.YtbglppcbgfkhmabGreatDoor
