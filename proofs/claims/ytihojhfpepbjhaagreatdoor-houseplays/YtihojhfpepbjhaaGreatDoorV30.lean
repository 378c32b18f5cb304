/-
  package gameref, walked: goes.
-/
import Derived.Test.YtihojhfpepbjhaaGreatDoorJ14
import Derived.Test.YtihojhfpepbjhaaGreatDoorJ10
import Derived.BigQuiet
import Derived.Deep.Cut
import Derived.Deep.CutRange
namespace Go.Proofs.YtihojhfpepbjhaaGreatDoor
open Go.RowKit
attribute [local go_sem ↓] Go.wp_at_zero Go.wp_at_succ

theorem mid_facts {W H from_ tc : Nat} {X Y x y : Int} {kk i : Nat} (hW : 1 ≤ W ∧ W ≤ 8) (hf : from_ < W * H) (ht : tc < W * H) (hX : X = dxI W from_ tc) (hY : Y = dyI W from_ tc) (hx : 0 ≤ x) (hy : 0 ≤ y) (hX7 : -7 ≤ X ∧ X ≤ 7) (hY7 : -7 ≤ Y ∧ Y ≤ 7) (hh : hitB x y X Y (kk : Nat) = true) (hk : 1 ≤ kk ∧ kk ≤ 7) (hi : i ≤ kk) :
    ∃ d1 d2 : Int, X.tdiv kk = d1 ∧ Y.tdiv kk = d2 ∧ (-7 ≤ d1 ∧ d1 ≤ 7) ∧ (-7 ≤ d2 ∧ d2 ≤ 7) ∧ (-49 ≤ d1 * i ∧ d1 * i ≤ 49) ∧ (-49 ≤ d2 * i ∧ d2 * i ≤ 49) ∧ (-392 ≤ d2 * i * W ∧ d2 * i * W ≤ 392) ∧ (from_ : Int) + d1 * i + d2 * i * W = (midN W from_ X Y kk i : Nat) ∧ midN W from_ X Y kk i < W * H := by
  obtain ⟨d, -, e1, e2⟩ := (step_of hx hy).1 hh
  have hk0 : (kk : Int) ≠ 0 := by omega
  have t1 : X.tdiv kk = d.1 := by rw [e1, Int.mul_tdiv_cancel_left _ hk0]
  have t2 : Y.tdiv kk = d.2 := by rw [e2, Int.mul_tdiv_cancel_left _ hk0]
  have hin := between (i := i) hW.1 hf ht (hX ▸ e1) (hY ▸ e2) hi
  have hmp := mid_pt W from_ X Y d.1 d.2 kk i hk.1 e1 e2
  have hlt : midN W from_ X Y kk i < W * H := by
    rw [hmp]
    obtain ⟨q0, q1, q2, q3⟩ := hin
    exact (cell_no q0 q1 q2 q3).2
  have sq : ∀ a : Int, ∀ Z : Int, -7 ≤ Z → Z ≤ 7 → Z = (kk : Int) * a → (-7 ≤ a ∧ a ≤ 7) ∧ (-49 ≤ a * i ∧ a * i ≤ 49) := by
    intro a Z h1 h2 h3
    have ha : -7 ≤ a ∧ a ≤ 7 := by
      rcases (by omega : kk = 1 ∨ kk = 2 ∨ kk = 3 ∨ kk = 4 ∨ kk = 5 ∨ kk = 6 ∨ kk = 7) with rfl | rfl | rfl | rfl | rfl | rfl | rfl <;> omega
    refine ⟨ha, ?_⟩
    rcases (by omega : i = 0 ∨ i = 1 ∨ i = 2 ∨ i = 3 ∨ i = 4 ∨ i = 5 ∨ i = 6 ∨ i = 7) with rfl | rfl | rfl | rfl | rfl | rfl | rfl | rfl <;> omega
  obtain ⟨a1, a2⟩ := sq d.1 X hX7.1 hX7.2 e1
  obtain ⟨b1, b2⟩ := sq d.2 Y hY7.1 hY7.2 e2
  have b3 : -392 ≤ d.2 * i * W ∧ d.2 * i * W ≤ 392 := by
    generalize d.2 * (i : Int) = q at *
    rcases (by omega : W = 1 ∨ W = 2 ∨ W = 3 ∨ W = 4 ∨ W = 5 ∨ W = 6 ∨ W = 7 ∨ W = 8) with rfl | rfl | rfl | rfl | rfl | rfl | rfl | rfl <;> omega
  refine ⟨d.1, d.2, t1, t2, a1, b1, a2, b2, b3, ?_, hlt⟩
  have e : (from_ : Int) + d.1 * i + d.2 * i * W = (((from_ / W : Nat) : Int) + (i : Int) * d.2) * W + (((from_ % W : Nat) : Int) + (i : Int) * d.1) := by
    have hff : (from_ : Int) = ((from_ / W : Nat) : Int) * W + ((from_ % W : Nat) : Int) := by
      have := Nat.div_add_mod from_ W
      rw [Nat.mul_comm] at this
      rw [← Int.natCast_mul, ← Int.natCast_add, this]
    rw [Int.add_mul, Int.mul_comm (i : Int) d.2, Int.mul_comm (i : Int) d.1]
    omega
  obtain ⟨q0, q1, q2, q3⟩ := hin
  rw [hmp]
  unfold ptN
  rw [e]
  exact (cell_no q0 q1 q2 q3).1
theorem freeB_succ (W : Nat) (C : ByteArray) (from_ : Nat) (X Y : Int) (k i : Nat) (hi : 1 ≤ i) : freeB W C from_ X Y k (i + 1) = (freeB W C from_ X Y k i && decide (cellN C (midN W from_ X Y k i) = 46)) := by
  unfold freeB
  obtain ⟨j, rfl⟩ : ∃ j, i = j + 1 := ⟨i - 1, by omega⟩
  rw [show j + 1 + 1 - 1 = j + 1 by omega, show j + 1 - 1 = j by omega, List.range'_concat, List.all_append]
  simp [Nat.add_comm]
set_option maxHeartbeats 4000000 in
set_option maxRecDepth 100000 in
theorem rGoes_any (W H T from_ tc : Nat) (C A B : ByteArray) (k x y t : Int) (w : World) (hW : 1 ≤ W ∧ W ≤ 8) (hH : 1 ≤ H ∧ H ≤ 8) (hC : C.size = W * H) (hf : from_ < W * H) (ht : tc < W * H) (hx : 0 ≤ x ∧ x ≤ 7) (hy : 0 ≤ y ∧ y ≤ 7) :
    Calls Tryz.prog 148 #[.agg #[.int .i64 (W : Int), .int .i64 (H : Int), .string C, .int .i64 (T : Int), .string A, .string B], .agg #[.int .i64 k, .int .i64 x, .int .i64 y, .int .i64 t], .int .i64 (from_ : Int), .int .i64 (tc : Int)] w fun e w' => e = .returned (.bool (goesB W T C k x y from_ tc)) ∧ Below w.heap.size w w' := by
  obtain ⟨R, hR⟩ : ∃ R, R = goesB W T C k x y from_ tc := ⟨_, rfl⟩
  rw [← hR]
  have hx0 : from_ % W < W := Nat.mod_lt _ (by omega)
  have hy0 : from_ / W < H := Nat.div_lt_of_lt_mul hf
  have hx1 : tc % W < W := Nat.mod_lt _ (by omega)
  have hy1 : tc / W < H := Nat.div_lt_of_lt_mul ht
  have et0 : ((from_ : Int)).tmod (W : Int) = ((from_ % W : Nat) : Int) := by rw [Int.tmod_eq_emod_of_nonneg (by omega)]; rfl
  have eq0 : ((from_ : Int)) / (W : Int) = ((from_ / W : Nat) : Int) := rfl
  have et1 : ((tc : Int)).tmod (W : Int) = ((tc % W : Nat) : Int) := by rw [Int.tmod_eq_emod_of_nonneg (by omega)]; rfl
  have eq1 : ((tc : Int)) / (W : Int) = ((tc / W : Nat) : Int) := rfl
  have hWi : (W : Int) ≠ 0 := by omega
  unfold goesB at hR
  obtain ⟨X, hX⟩ : ∃ X, X = dxI W from_ tc := ⟨_, rfl⟩
  obtain ⟨Y, hY⟩ : ∃ Y, Y = dyI W from_ tc := ⟨_, rfl⟩
  rw [← hX, ← hY] at hR
  have HX := hide hX
  have HY := hide hY
  unfold dxI at hX
  unfold dyI at hY
  generalize from_ % W = xf at *
  generalize from_ / W = yf at *
  generalize tc % W = xt at *
  generalize tc / W = yt at *
  have wyf : IntKind.i64.wrap (yf : Int) = (yf : Int) := by unfold IntKind.wrap; simp [IntKind.signed, IntKind.bits]; omega
  have wyt : IntKind.i64.wrap (yt : Int) = (yt : Int) := by unfold IntKind.wrap; simp [IntKind.signed, IntKind.bits]; omega
  have hX7 : -7 ≤ X ∧ X ≤ 7 := by omega
  have hY7 : -7 ≤ Y ∧ Y ≤ 7 := by omega
  have hXe : (xt : Int) - (xf : Int) = X := hX.symm
  have hYe : (yt : Int) - (yf : Int) = Y := hY.symm
  have HAX := hide (fun u => rAbs_any X u (by omega))
  have HAY := hide (fun u => rAbs_any Y u (by omega))
  clear hX hY
  obtain ⟨w1, hw1⟩ : ∃ w1, w1 = w.alloc (.cells #[.int .i64 (W : Int), .int .i64 (H : Int), .string C, .int .i64 (T : Int), .string A, .string B] 24 (0, 0)) := ⟨_, rfl⟩
  obtain ⟨w2, hw2⟩ : ∃ w2, w2 = w1.alloc (.cells #[.int .i64 k, .int .i64 x, .int .i64 y, .int .i64 t] 68 (0, 0)) := ⟨_, rfl⟩
  have hb1 : Below w.heap.size w w1 := by rw [hw1]; exact (Below.refl _ _).alloc (Nat.le_refl _) _
  have hb2 : Below w1.heap.size w1 w2 := by rw [hw2]; exact (Below.refl _ _).alloc (Nat.le_refl _) _
  have s1 : w1.heap.size = w.heap.size + 1 := by rw [hw1]; simp
  have hpb : isPb w2 w.heap.size W H T C A B := (show isPb w1 w.heap.size W H T C A B by rw [hw1]; exact heap_alloc_new w _).below hb2 (by omega)
  have hwb : isWb w2 (w.heap.size + 1) k x y t := by rw [hw2, ← s1]; exact heap_alloc_new w1 _
  have HBW := hide (hb1.trans (hb2.mono (by omega)))
  have HPB := hide hpb
  have HWB := hide hwb
  obtain ⟨p0, p1, p2, p3, p4, p5⟩ := hpb.all
  obtain ⟨z0, z1, z2, z3⟩ := hwb.all
  clear hb1 hb2 s1 hpb hwb
  have hkb : ∀ nq, isPb (w2.drewN nq) w.heap.size W H T C A B ∧ isWb (w2.drewN nq) (w.heap.size + 1) k x y t ∧ Below w.heap.size w (w2.drewN nq) := fun nq => ⟨unhide HPB, unhide HWB, ⟨(unhide HBW).os, (unhide HBW).tape, (unhide HBW).output, (unhide HBW).size, (unhide HBW).block⟩⟩
  have HKB := hide hkb
  clear hkb HPB HWB HBW
  by_cases h3 : k = 3
  · rw [if_pos h3] at hR
    have HR := hide hR
    have hb3 : (k == 3) = true := by simp [h3]
    clear hR h3
    go_enter Tryz.func148, Tryz.ntmps148
    go_wp2_with fail
    rw [← hw1, ← hw2]
    clear hw1 hw2
    go_quiet (fail)
    obtain ⟨hpb, hwb, hbw⟩ := unhide HKB nq
    generalize w2.drewN nq = wr at *
    clear p0 p1 p2 p3 p4 p5 z0 z1 z2 z3 HKB et0 et1 eq0 eq1 wyf wyt hXe hYe
    have HPB := hide hpb
    have HWB := hide hwb
    have HBW := hide hbw
    obtain ⟨p0, p1, p2, p3, p4, p5⟩ := hpb.all
    obtain ⟨z0, z1, z2, z3⟩ := hwb.all
    clear hpb hwb hbw
    by_cases hT1 : T = 1
    · have hT1i : ((T : Int) == 1) = true := by simp [hT1]
      have HT := hide hT1
      clear hT1
      go_wp2_with fail
      obtain ⟨aX, haX⟩ : ∃ aX : Int, aX = (X.natAbs : Nat) := ⟨_, rfl⟩
      rw [← haX] at HAX
      have hRR := unhide HR
      rw [← haX] at hRR
      by_cases hA : aX = x
      · have hb1 : (aX == x) = true := by simp [hA]
        have HRR : Hid (R = decide ((if T = 1 then -Y else Y) = y)) := hide (by rw [hRR]; simp [hA])
        clear hRR haX hA
        go_quiet (first
          | (go_at_call 178; exact Calls.quiet_of_same (unhide HAX _)))
        go_wp2
        go_ret
        refine ⟨ret_bool ?_, ⟨(unhide HBW).os, (unhide HBW).tape, (unhide HBW).output, (unhide HBW).size, (unhide HBW).block⟩⟩
        rw [unhide HRR, Bool.eq_iff_iff]
        simp [unhide HT]
      · have hb1 : (aX == x) = false := by simp [hA]
        have HRR : Hid (R = false) := hide (by rw [hRR]; simp [hA])
        clear hRR haX hA
        go_quiet (first
          | (go_at_call 178; exact Calls.quiet_of_same (unhide HAX _)))
        go_wp2
        go_ret
        refine ⟨ret_bool ?_, ⟨(unhide HBW).os, (unhide HBW).tape, (unhide HBW).output, (unhide HBW).size, (unhide HBW).block⟩⟩
        rw [unhide HRR]
    · have hT1i : ((T : Int) == 1) = false := by simp; omega
      have HT := hide hT1
      clear hT1
      go_wp2_with fail
      obtain ⟨aX, haX⟩ : ∃ aX : Int, aX = (X.natAbs : Nat) := ⟨_, rfl⟩
      rw [← haX] at HAX
      have hRR := unhide HR
      rw [← haX] at hRR
      by_cases hA : aX = x
      · have hb1 : (aX == x) = true := by simp [hA]
        have HRR : Hid (R = decide ((if T = 1 then -Y else Y) = y)) := hide (by rw [hRR]; simp [hA])
        clear hRR haX hA
        go_quiet (first
          | (go_at_call 178; exact Calls.quiet_of_same (unhide HAX _)))
        go_wp2
        go_ret
        refine ⟨ret_bool ?_, ⟨(unhide HBW).os, (unhide HBW).tape, (unhide HBW).output, (unhide HBW).size, (unhide HBW).block⟩⟩
        rw [unhide HRR, Bool.eq_iff_iff]
        simp [unhide HT]
      · have hb1 : (aX == x) = false := by simp [hA]
        have HRR : Hid (R = false) := hide (by rw [hRR]; simp [hA])
        clear hRR haX hA
        go_quiet (first
          | (go_at_call 178; exact Calls.quiet_of_same (unhide HAX _)))
        go_wp2
        go_ret
        refine ⟨ret_bool ?_, ⟨(unhide HBW).os, (unhide HBW).tape, (unhide HBW).output, (unhide HBW).size, (unhide HBW).block⟩⟩
        rw [unhide HRR]
  · rw [if_neg h3] at hR
    have HR := hide hR
    have hb3 : (k == 3) = false := by simp [h3]
    have HMF := hide (fun kk i (h1 : hitB x y X Y (kk : Nat) = true) (h2 : 1 ≤ kk ∧ kk ≤ 7) (h3 : i ≤ kk) => mid_facts (W := W) (H := H) hW hf ht (unhide HX) (unhide HY) hx.1 hy.1 hX7 hY7 h1 h2 h3)
    clear hR h3
    go_enter Tryz.func148, Tryz.ntmps148
    go_wp2_with fail
    rw [← hw1, ← hw2]
    clear hw1 hw2
    go_quiet (fail)
    obtain ⟨hpb, hwb, hbw⟩ := unhide HKB nq
    generalize w2.drewN nq = wr at *
    clear p0 p1 p2 p3 p4 p5 z0 z1 z2 z3 HKB et0 et1 eq0 eq1 wyf wyt hXe hYe
    have HPB := hide hpb
    have HWB := hide hwb
    have HBW := hide hbw
    obtain ⟨p0, p1, p2, p3, p4, p5⟩ := hpb.all
    obtain ⟨z0, z1, z2, z3⟩ := hwb.all
    clear hpb hwb hbw
    go_wp2
    go_loopw [11] (fun iv wr => ∃ kk : Nat, iv = .int .i64 (kk : Int) ∧ 1 ≤ kk ∧ kk ≤ 8 ∧ Hid (R = goK W C k x y from_ X Y (8 - kk) kk) ∧ isPb wr w.heap.size W H T C A B ∧ isWb wr (w.heap.size + 1) k x y t ∧ Below w.heap.size w wr) (fun iv _ => 8 - (intOf iv).toNat)
    case atStart => exact ⟨1, rfl, by omega, by omega, HR, unhide HPB, unhide HWB, unhide HBW⟩
    case round =>
      obtain ⟨kk, rfl, hk1, hk8, HR, hpb, hwb, hbw⟩ := hrel
      clear HPB HWB HBW p0 p1 p2 p3 p4 p5 z0 z1 z2 z3
      by_cases hk7 : kk ≤ 7
      · have hk7i : (kk : Int) ≤ 7 := by omega
        have hR := unhide HR
        obtain ⟨n, hn⟩ : ∃ n, 8 - kk = n + 1 := ⟨7 - kk, by omega⟩
        have hn' : n = 8 - (kk + 1) := by omega
        rw [hn, goK, hn'] at hR
        have HPB := hide hpb
        have HWB := hide hwb
        have HBW := hide hbw
        obtain ⟨p0, p1, p2, p3, p4, p5⟩ := hpb.all
        obtain ⟨z0, z1, z2, z3⟩ := hwb.all
        clear hpb hwb hbw hn hn' HR
        have HR := hide hR
        obtain ⟨px, hpx⟩ : ∃ px : Int, (kk : Int) * x = px := ⟨_, rfl⟩
        obtain ⟨py, hpy⟩ : ∃ py : Int, (kk : Int) * y = py := ⟨_, rfl⟩
        have bpx : 0 ≤ px ∧ px ≤ 49 := by
          rcases (by omega : kk = 1 ∨ kk = 2 ∨ kk = 3 ∨ kk = 4 ∨ kk = 5 ∨ kk = 6 ∨ kk = 7) with rfl | rfl | rfl | rfl | rfl | rfl | rfl <;> omega
        have bpy : 0 ≤ py ∧ py ≤ 49 := by
          rcases (by omega : kk = 1 ∨ kk = 2 ∨ kk = 3 ∨ kk = 4 ∨ kk = 5 ∨ kk = 6 ∨ kk = 7) with rfl | rfl | rfl | rfl | rfl | rfl | rfl <;> omega
        have HMK := hide (fun i h1 h3 => unhide HMF kk i h1 ⟨hk1, hk7⟩ h3)
        have hhit : hitB x y X Y (kk : Nat) = ((decide (((X.natAbs : Nat) : Int) = px) && decide (((Y.natAbs : Nat) : Int) = py)) || (decide (((X.natAbs : Nat) : Int) = py) && decide (((Y.natAbs : Nat) : Int) = px))) := by unfold hitB; rw [hpx, hpy]
        obtain ⟨aX, haX⟩ : ∃ aX : Int, aX = (X.natAbs : Nat) := ⟨_, rfl⟩
        obtain ⟨aY, haY⟩ : ∃ aY : Int, aY = (Y.natAbs : Nat) := ⟨_, rfl⟩
        rw [← haX] at HAX hhit
        rw [← haY] at HAY hhit
        obtain ⟨one, hone⟩ : ∃ one, one = (decide (aX = px) && decide (aY = py)) := ⟨_, rfl⟩
        obtain ⟨two, htwo⟩ : ∃ two, two = (decide (aX = py) && decide (aY = px)) := ⟨_, rfl⟩
        rw [← hone, ← htwo] at hhit
        obtain ⟨lb, hlb⟩ : ∃ lb, lb = decide (1 < kk ∧ k = 1) := ⟨_, rfl⟩
        have HHIT := hide hhit
        have HONE := hide hone
        have HTWO := hide htwo
        have HLB := hide hlb
        clear hR hhit haX haY HMF hone htwo hlb
        go_upto_region 9 with fail
        go_cut [63] from 57 to 63 (fun v wc => v = .bool lb ∧ wc = wr)
        case first =>
          by_cases hkk : 1 < kk
          · have hl1 : (1 : Int) < (kk : Int) := by omega
            go_wp2
            go_meet
            case rel => exact ⟨congrArg Value.bool (by rw [unhide HLB, Bool.eq_iff_iff]; simp [hkk]), rfl⟩
          · have hl1 : ¬ (1 : Int) < (kk : Int) := by omega
            go_wp2
            go_meet
            case rel => exact ⟨congrArg Value.bool (by rw [unhide HLB]; simp [hkk]), rfl⟩
        case rest =>
          obtain ⟨rfl, rfl⟩ := hcut
          cases lb with
          | true =>
            have hR := unhide HR
            rw [if_pos (of_decide_eq_true (unhide HLB).symm)] at hR
            have HR2 := hide hR
            clear hR HR
            go_wp2
            go_ret
            exact ⟨by rw [unhide HR2]; rfl, unhide HBW⟩
          | false =>
            have hR := unhide HR
            rw [if_neg (of_decide_eq_false (unhide HLB).symm), unhide HHIT] at hR
            have HR2 := hide hR
            clear hR HR
            go_upto_region 10 with fail
            go_cut [12] from 64 to 79 (fun v wz => v = .bool one ∧ ∃ d, wz = wc.drewN d)
            case first =>
              by_cases c1 : aX = px
              · have b1 : (aX == px) = true := by simp [c1]
                have hbe : one = (aY == py) := by rw [unhide HONE, Bool.eq_iff_iff]; simp [c1]
                have HBE := hide hbe
                clear c1 hbe
                go_quiet (first
                  | (go_at_call 178; exact Calls.quiet_of_same (unhide HAX _))
                  | (go_at_call 178; exact Calls.quiet_of_same (unhide HAY _)))
                go_wp2
                go_meet
                case rel => exact ⟨by rw [unhide HBE], _, rfl⟩
              · have b1 : (aX == px) = false := by simp [c1]
                have hbe : one = false := by rw [unhide HONE]; simp [c1]
                have HBE := hide hbe
                clear c1 hbe
                go_quiet (first
                  | (go_at_call 178; exact Calls.quiet_of_same (unhide HAX _))
                  | (go_at_call 178; exact Calls.quiet_of_same (unhide HAY _)))
                go_wp2
                go_meet
                case rel => exact ⟨by rw [unhide HBE], _, rfl⟩
            case rest =>
              obtain ⟨rfl, d, rfl⟩ := hcut
              have hpb : isPb (wc.drewN d) w.heap.size W H T C A B := unhide HPB
              have hwb : isWb (wc.drewN d) (w.heap.size + 1) k x y t := unhide HWB
              have hbw : Below w.heap.size w (wc.drewN d) := ⟨(unhide HBW).os, (unhide HBW).tape, (unhide HBW).output, (unhide HBW).size, (unhide HBW).block⟩
              generalize (wc.drewN d) = wr1 at *
              clear p0 p1 p2 p3 p4 p5 z0 z1 z2 z3 HPB HWB HBW
              have HPB := hide hpb
              have HWB := hide hwb
              have HBW := hide hbw
              obtain ⟨p0, p1, p2, p3, p4, p5⟩ := hpb.all
              obtain ⟨z0, z1, z2, z3⟩ := hwb.all
              clear hpb hwb hbw
              go_upto_region 11 with fail
              go_cut [13] from 80 to 95 (fun v wz => v = .bool two ∧ ∃ d, wz = wr1.drewN d)
              case first =>
                by_cases c1 : aX = py
                · have b1 : (aX == py) = true := by simp [c1]
                  have hbe : two = (aY == px) := by rw [unhide HTWO, Bool.eq_iff_iff]; simp [c1]
                  have HBE := hide hbe
                  clear c1 hbe
                  go_quiet (first
                    | (go_at_call 178; exact Calls.quiet_of_same (unhide HAX _))
                    | (go_at_call 178; exact Calls.quiet_of_same (unhide HAY _)))
                  go_wp2
                  go_meet
                  case rel => exact ⟨by rw [unhide HBE], _, rfl⟩
                · have b1 : (aX == py) = false := by simp [c1]
                  have hbe : two = false := by rw [unhide HTWO]; simp [c1]
                  have HBE := hide hbe
                  clear c1 hbe
                  go_quiet (first
                    | (go_at_call 178; exact Calls.quiet_of_same (unhide HAX _))
                    | (go_at_call 178; exact Calls.quiet_of_same (unhide HAY _)))
                  go_wp2
                  go_meet
                  case rel => exact ⟨by rw [unhide HBE], _, rfl⟩
              case rest =>
                obtain ⟨rfl, d, rfl⟩ := hcut
                have hpb : isPb (wr1.drewN d) w.heap.size W H T C A B := unhide HPB
                have hwb : isWb (wr1.drewN d) (w.heap.size + 1) k x y t := unhide HWB
                have hbw : Below w.heap.size w (wr1.drewN d) := ⟨(unhide HBW).os, (unhide HBW).tape, (unhide HBW).output, (unhide HBW).size, (unhide HBW).block⟩
                generalize (wr1.drewN d) = wr2 at *
                clear p0 p1 p2 p3 p4 p5 z0 z1 z2 z3 HPB HWB HBW
                have HPB := hide hpb
                have HWB := hide hwb
                have HBW := hide hbw
                obtain ⟨p0, p1, p2, p3, p4, p5⟩ := hpb.all
                obtain ⟨z0, z1, z2, z3⟩ := hwb.all
                clear hpb hwb hbw
                go_upto_region 12 with fail
                go_cut [101] from 96 to 101 (fun v wz => v = .bool (!(one || two)) ∧ wz = wr2)
                case first =>
                  cases one with
                  | true =>
                    go_wp2
                    go_meet
                    case rel => exact ⟨rfl, rfl⟩
                  | false =>
                    go_wp2
                    go_meet
                    case rel => exact ⟨rfl, rfl⟩
                case rest =>
                  obtain ⟨rfl, rfl⟩ := hcut
                  obtain ⟨hit, hhe⟩ : ∃ hit, (one || two) = hit := ⟨_, rfl⟩
                  rw [hhe] at HHIT HR2 ⊢
                  clear hhe
                  cases hit with
                  | false =>
                    have hR := unhide HR2
                    rw [if_neg (by simp)] at hR
                    have HR3 := hide hR
                    clear hR HR2
                    go_wp2
                    go_roundw
                    case rel => exact ⟨kk + 1, by go_num, by omega, by omega, HR3, unhide HPB, unhide HWB, unhide HBW⟩
                    case measure => simp only [intOf]; omega
                  | true =>
                    have hR := unhide HR2
                    rw [if_pos rfl] at hR
                    have HR3 := hide hR
                    have HM2 := hide (fun i h3 => unhide HMK i (unhide HHIT) h3)
                    clear hR HR2 HMK HHIT
                    go_wp2
                    go_loopw [14, 15] (fun fv iv wr => ∃ i : Nat, iv = .int .i64 (i : Int) ∧ 1 ≤ i ∧ i ≤ kk ∧ fv = .bool (freeB W C from_ X Y kk i) ∧ isPb wr w.heap.size W H T C A B ∧ Below w.heap.size w wr) (fun _ iv _ => kk - (intOf iv).toNat)
                    case atStart => exact ⟨1, rfl, by omega, by omega, rfl, unhide HPB, unhide HBW⟩
                    case round =>
                      obtain ⟨i, rfl, hi1, hik, rfl, hpb, hbw⟩ := hrel
                      clear HPB HWB HBW p0 p1 p2 p3 p4 p5 z0 z1 z2 z3
                      by_cases hlt : i < kk
                      · have hlti : (i : Int) < (kk : Int) := by omega
                        have hsu := freeB_succ W C from_ X Y kk i hi1
                        obtain ⟨fb, hfb⟩ : ∃ fb, fb = freeB W C from_ X Y kk i := ⟨_, rfl⟩
                        rw [← hfb] at hsu ⊢
                        obtain ⟨d1, d2, t1, t2, q1, q2, q3, q4, q5, q6, q7⟩ := unhide HM2 i hik
                        have HPB := hide hpb
                        have HBW := hide hbw
                        obtain ⟨p0, p1, p2, p3, p4, p5⟩ := hpb.all
                        have HSU := hide hsu
                        clear hfb hpb hbw hsu
                        cases fb with
                        | false =>
                          have hs2 := unhide HSU
                          rw [Bool.false_and] at hs2
                          have HS2 := hide hs2
                          clear hs2 HSU t1 t2 q1 q2 q3 q4 q5 q6 q7
                          go_wp2
                          go_quiet (fail)
                          go_wp2
                          go_roundw
                          case rel => exact ⟨i + 1, by go_num, by omega, by omega, by rw [unhide HS2], unhide HPB, ⟨(unhide HBW).os, (unhide HBW).tape, (unhide HBW).output, (unhide HBW).size, (unhide HBW).block⟩⟩
                          case measure => simp only [intOf]; omega
                        | true =>
                          have hs2 := unhide HSU
                          rw [Bool.true_and] at hs2
                          have hcl : midN W from_ X Y kk i < C.size := by rw [hC]; exact q7
                          obtain ⟨hcn, h256⟩ := cellN_at C _ hcl
                          obtain ⟨M, hM⟩ : ∃ M, M = midN W from_ X Y kk i := ⟨_, rfl⟩
                          have hcl' : M < C.size := by rw [hM]; exact hcl
                          have hcn' : (C[M]'hcl').toNat = cellN C M := by subst hM; exact hcn
                          rw [← hM] at hs2 q6 h256
                          obtain ⟨N, hN⟩ : ∃ N, N = cellN C M := ⟨_, rfl⟩
                          rw [← hN] at hs2 hcn' h256
                          obtain ⟨e1, he1⟩ : ∃ e1, d1 * (i : Int) = e1 := ⟨_, rfl⟩
                          obtain ⟨e2, he2⟩ : ∃ e2, d2 * (i : Int) = e2 := ⟨_, rfl⟩
                          rw [he1] at q3 q6
                          rw [he2] at q4 q5 q6
                          obtain ⟨e3, he3⟩ : ∃ e3, e2 * (W : Int) = e3 := ⟨_, rfl⟩
                          rw [he3] at q5 q6
                          have HS2 := hide hs2
                          have hkk0 : (kk : Int) ≠ 0 := by omega
                          have hf64 : (from_ : Int) < 64 := by have : W * H ≤ 8 * 8 := Nat.mul_le_mul hW.2 hH.2; omega
                          have hcs : (C.size : Int) ≤ 64 := by have : W * H ≤ 8 * 8 := Nat.mul_le_mul hW.2 hH.2; omega
                          have hMi : (0 : Int) ≤ (M : Int) ∧ (M : Int) < (C.size : Int) := by omega
                          clear hs2 HSU hM hcl hcn hN q7 hC hf ht
                          go_wp2
                          go_quiet (fail)
                          go_wp2
                          go_roundw
                          case rel => exact ⟨i + 1, by go_num, by omega, by omega, congrArg Value.bool (by rw [unhide HS2, Bool.eq_iff_iff]; simp; omega), unhide HPB, ⟨(unhide HBW).os, (unhide HBW).tape, (unhide HBW).output, (unhide HBW).size, (unhide HBW).block⟩⟩
                          case measure => simp only [intOf]; omega
                      · have hlti : ¬ (i : Int) < (kk : Int) := by omega
                        have hRe : R = freeB W C from_ X Y kk i := by rw [unhide HR3, show i = kk by omega]
                        have HRE := hide hRe
                        have HBW := hide hbw
                        clear hRe hpb hbw
                        go_wp2
                        go_ret
                        exact ⟨by rw [unhide HRE]; rfl, unhide HBW⟩
      · have hk7i : ¬ (kk : Int) ≤ 7 := by omega
        have hR := unhide HR
        rw [show 8 - kk = 0 by omega, goK] at hR
        have HRE := hide hR
        have HBW := hide hbw
        clear hR hpb hwb hbw
        go_wp2
        go_ret
        exact ⟨by rw [unhide HRE]; rfl, unhide HBW⟩
end Go.Proofs.YtihojhfpepbjhaaGreatDoor
