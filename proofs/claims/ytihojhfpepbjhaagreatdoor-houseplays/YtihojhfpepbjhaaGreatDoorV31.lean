/-
  package gameref, walked: lined.
-/
import Derived.Test.YtihojhfpepbjhaaGreatDoorJ14
import Derived.BigQuiet
import Derived.Deep.Cut
import Derived.Deep.CutRange
namespace Go.Proofs.YtihojhfpepbjhaaGreatDoor
open Go.RowKit
attribute [local go_sem ↓] Go.wp_at_zero Go.wp_at_succ

theorem rowB_succ (W H P : Nat) (C : ByteArray) (x y dx dy : Int) (k : Nat) : rowB W H P C x y dx dy (k + 1) = (rowB W H P C x y dx dy k && (decide (inP W H dx dy x y k) && decide (rownI (cellN C (ptN W dx dy x y k) : Nat) = (P : Int)))) := by
  unfold rowB; rw [List.range_succ, List.all_append]; simp
theorem anyR_succ (f : Nat → Bool) (n : Nat) : (List.range (n + 1)).any f = ((List.range n).any f || f n) := by rw [List.range_succ, List.any_append]; simp
/-- The four ways in which pieces can be in a row. -/
theorem dir_at (d : Nat) (hd : d < 4) : ∃ dx dy : Int, dirs4[d]? = some (dx, dy) ∧ (-1 ≤ dx ∧ dx ≤ 1) ∧ (0 ≤ dy ∧ dy ≤ 1) ∧ ((d = 0 ∧ dx = 1 ∧ dy = 0) ∨ (d = 1 ∧ dx = 0 ∧ dy = 1) ∨ (d = 2 ∧ dx = 1 ∧ dy = 1) ∨ (d = 3 ∧ dx = -1 ∧ dy = 1)) := by
  rcases (by omega : d = 0 ∨ d = 1 ∨ d = 2 ∨ d = 3) with rfl | rfl | rfl | rfl
  · exact ⟨1, 0, rfl, by omega, by omega, by omega⟩
  · exact ⟨0, 1, rfl, by omega, by omega, by omega⟩
  · exact ⟨1, 1, rfl, by omega, by omega, by omega⟩
  · exact ⟨-1, 1, rfl, by omega, by omega, by omega⟩
theorem takeD_succ {f : Int × Int → Bool} {d : Nat} {x : Int × Int} (h : dirs4[d]? = some x) : (dirs4.take (d + 1)).any f = ((dirs4.take d).any f || f x) := by
  have hd : d < dirs4.length := (List.getElem?_eq_some_iff.1 h).1
  have he : dirs4[d] = x := (List.getElem?_eq_some_iff.1 h).2
  rw [List.take_succ_eq_append_getElem hd, List.any_append, he]; simp
theorem quad0 (a b c d : Int) (w : World) : (Instr.index 197 (.agg #[.int .i64 a, .int .i64 b, .int .i64 c, .int .i64 d]) (.int .i64 0)).run Tryz.prog w = .ok (.int .i64 a) w := by kernel_rfl
theorem quad1 (a b c d : Int) (w : World) : (Instr.index 197 (.agg #[.int .i64 a, .int .i64 b, .int .i64 c, .int .i64 d]) (.int .i64 1)).run Tryz.prog w = .ok (.int .i64 b) w := by kernel_rfl
theorem quad2 (a b c d : Int) (w : World) : (Instr.index 197 (.agg #[.int .i64 a, .int .i64 b, .int .i64 c, .int .i64 d]) (.int .i64 2)).run Tryz.prog w = .ok (.int .i64 c) w := by kernel_rfl
theorem quad3 (a b c d : Int) (w : World) : (Instr.index 197 (.agg #[.int .i64 a, .int .i64 b, .int .i64 c, .int .i64 d]) (.int .i64 3)).run Tryz.prog w = .ok (.int .i64 d) w := by kernel_rfl
set_option maxHeartbeats 4000000 in
set_option maxRecDepth 100000 in
theorem rLined_any (W H P n : Nat) (T : Int) (C A B : ByteArray) (w : World) (hW : 1 ≤ W ∧ W ≤ 8) (hH : 1 ≤ H ∧ H ≤ 8) (hC : C.size = W * H) (hn : n ≤ 8) :
    Calls Tryz.prog 112 #[.agg #[.int .i64 (W : Int), .int .i64 (H : Int), .string C, .int .i64 T, .string A, .string B], .int .i64 (P : Int), .int .i64 (n : Int)] w fun e w' => e = .returned (.bool (linedB W H P C n)) ∧ Below w.heap.size w w' := by
  obtain ⟨R, hR⟩ : ∃ R, R = linedB W H P C n := ⟨_, rfl⟩
  rw [← hR]
  have HR := hide hR
  obtain ⟨w1, hw1⟩ : ∃ w1, w1 = w.alloc (.cells #[.int .i64 (W : Int), .int .i64 (H : Int), .string C, .int .i64 T, .string A, .string B] 24 (0, 0)) := ⟨_, rfl⟩
  have hbw : Below w.heap.size w w1 := by rw [hw1]; exact (Below.refl _ _).alloc (Nat.le_refl _) _
  have hpb : isPb w1 w.heap.size W H T C A B := by rw [hw1]; exact heap_alloc_new w _
  have HBW := hide hbw
  have HPB := hide hpb
  obtain ⟨p0, p1, p2, -⟩ := hpb.all
  clear hR hbw hpb
  go_enter Tryz.func112, Tryz.ntmps112
  go_wp2
  rw [← hw1]
  clear hw1
  go_loopw [7] (fun iv wr => ∃ y : Nat, iv = .int .i64 (y : Int) ∧ y ≤ H ∧ (List.range y).any (fun y => (List.range W).any fun x => lineAt W H P C n y x) = false ∧ isPb wr w.heap.size W H T C A B ∧ Below w.heap.size w wr) (fun iv _ => H - (intOf iv).toNat)
  case atStart => exact ⟨0, rfl, Nat.zero_le _, rfl, unhide HPB, unhide HBW⟩
  case round =>
    obtain ⟨y, rfl, hy, hno, hpb, hbw⟩ := hrel
    clear HPB HBW p0 p1 p2
    obtain ⟨p0, p1, p2, -⟩ := hpb.all
    have HPB := hide hpb
    have HBW := hide hbw
    have HNO := hide hno
    clear hpb hbw hno
    by_cases hyl : y < H
    · have hyli : (y : Int) < (H : Int) := by omega
      go_wp2
      go_loopw [8] (fun iv wr => ∃ x : Nat, iv = .int .i64 (x : Int) ∧ x ≤ W ∧ (List.range x).any (fun x => lineAt W H P C n y x) = false ∧ isPb wr w.heap.size W H T C A B ∧ Below w.heap.size w wr) (fun iv _ => W - (intOf iv).toNat)
      case atStart => exact ⟨0, rfl, Nat.zero_le _, rfl, unhide HPB, unhide HBW⟩
      case round =>
        obtain ⟨x, rfl, hx, hno, hpb, hbw⟩ := hrel
        clear HPB HBW p0 p1 p2
        obtain ⟨p0, p1, p2, -⟩ := hpb.all
        have HPB := hide hpb
        have HBW := hide hbw
        have HNX := hide hno
        clear hpb hbw hno
        by_cases hxl : x < W
        · have hxli : (x : Int) < (W : Int) := by omega
          go_wp2
          go_loopw [9] (fun iv wr => ∃ d : Nat, iv = .int .i64 (d : Int) ∧ d ≤ 4 ∧ (dirs4.take d).any (fun d => rowB W H P C x y d.1 d.2 n) = false ∧ isPb wr w.heap.size W H T C A B ∧ Below w.heap.size w wr) (fun iv _ => 4 - (intOf iv).toNat)
          case atStart => exact ⟨0, rfl, Nat.zero_le _, rfl, unhide HPB, unhide HBW⟩
          case round =>
            obtain ⟨d, rfl, hd, hno, hpb, hbw⟩ := hrel
            clear HPB HBW p0 p1 p2
            obtain ⟨p0, p1, p2, -⟩ := hpb.all
            have HPB := hide hpb
            have HBW := hide hbw
            have HND := hide hno
            clear hpb hbw hno
            by_cases hdl : d < 4
            · have hdli : (d : Int) < 4 := by omega
              obtain ⟨dx, dy, hdd, bx, bY, hcs⟩ := dir_at d hdl
              have HDS := hide (fun f => takeD_succ (f := f) hdd)
              have HCS := hide hcs
              clear hdd hcs
              go_upto_region 10 with fail
              go_cut [10, 11] from 32 to 37 (fun v10 v11 wz => v10 = .int .i64 dx ∧ v11 = .int .i64 dy ∧ ∃ q, wz = wr.drewN q)
              case first =>
                rcases unhide HCS with ⟨rfl, rfl, rfl⟩ | ⟨rfl, rfl, rfl⟩ | ⟨rfl, rfl, rfl⟩ | ⟨rfl, rfl, rfl⟩
                all_goals
                  have f0 := quad0
                  have f1 := quad1
                  have f2 := quad2
                  have f3 := quad3
                  go_region_law (fail)
                  all_goals
                    go_wp2
                    go_meet
                    case rel => exact ⟨rfl, rfl, 1, rfl⟩
              case rest =>
                obtain ⟨rfl, rfl, q, rfl⟩ := hcut
                have hpb : isPb (wr.drewN q) w.heap.size W H T C A B := unhide HPB
                have hbw : Below w.heap.size w (wr.drewN q) := ⟨(unhide HBW).os, (unhide HBW).tape, (unhide HBW).output, (unhide HBW).size, (unhide HBW).block⟩
                generalize wr.drewN q = wr1 at *
                clear p0 p1 p2 HPB HBW HCS
                have HPB := hide hpb
                have HBW := hide hbw
                clear hpb hbw
                go_wp2
                go_loopw [12, 13] (fun av iv wr => ∃ k : Nat, iv = .int .i64 (k : Int) ∧ k ≤ n ∧ av = .bool (rowB W H P C x y dx dy k) ∧ isPb wr w.heap.size W H T C A B ∧ Below w.heap.size w wr) (fun _ iv _ => n - (intOf iv).toNat)
                case atStart => exact ⟨0, rfl, Nat.zero_le _, rfl, unhide HPB, unhide HBW⟩
                case round =>
                  obtain ⟨k, rfl, hk, rfl, hpb, hbw⟩ := hrel
                  clear HPB HBW
                  have HPB := hide hpb
                  have HBW := hide hbw
                  obtain ⟨p0, p1, p2, -⟩ := hpb.all
                  clear hpb hbw
                  by_cases hkn : k < n
                  · have hkni : (k : Int) < (n : Int) := by omega
                    have hsu := rowB_succ W H P C x y dx dy k
                    obtain ⟨al, hal⟩ : ∃ al, al = rowB W H P C x y dx dy k := ⟨_, rfl⟩
                    rw [← hal] at hsu ⊢
                    clear hal
                    obtain ⟨kx, hkx⟩ : ∃ kx, (k : Int) * dx = kx := ⟨_, rfl⟩
                    obtain ⟨ky, hky⟩ : ∃ ky, (k : Int) * dy = ky := ⟨_, rfl⟩
                    have bkx : -8 ≤ kx ∧ kx ≤ 8 := by
                      rcases (by omega : dx = -1 ∨ dx = 0 ∨ dx = 1) with rfl | rfl | rfl <;> omega
                    have bky : 0 ≤ ky ∧ ky ≤ 8 := by
                      rcases (by omega : dy = 0 ∨ dy = 1) with rfl | rfl <;> omega
                    have HSU := hide hsu
                    clear hsu
                    cases al with
                    | false =>
                      have hs2 := unhide HSU
                      rw [Bool.false_and] at hs2
                      have HS2 := hide hs2
                      clear hs2 HSU
                      go_wp2
                      go_roundw
                      case rel => exact ⟨k + 1, by go_num, by omega, by rw [unhide HS2], unhide HPB, unhide HBW⟩
                      case measure => simp only [intOf]; omega
                    | true =>
                      have hs2 := unhide HSU
                      rw [Bool.true_and] at hs2
                      clear HSU
                      have HSU := hide hs2
                      clear hs2
                      by_cases i0 : 0 ≤ (x : Int) + kx
                      · by_cases i1 : (x : Int) + kx < (W : Int)
                        · by_cases i2 : 0 ≤ (y : Int) + ky
                          · by_cases i3 : (y : Int) + ky < (H : Int)
                            · obtain ⟨hcn, hcl⟩ := cell_no i0 i1 i2 i3
                              have hin : inP W H dx dy x y k := by unfold inP; rw [hkx, hky]; exact ⟨i0, i1, i2, i3⟩
                              have hpt : ptN W dx dy x y k = (((y : Int) + ky) * W + ((x : Int) + kx)).toNat := by unfold ptN; rw [hkx, hky]
                              have hs2 := unhide HSU
                              rw [show decide (inP W H dx dy x y k) = true from decide_eq_true hin, Bool.true_and, hpt] at hs2
                              obtain ⟨ya, hya⟩ : ∃ ya, (y : Int) + ky = ya := ⟨_, rfl⟩
                              obtain ⟨xa, hxa⟩ : ∃ xa, (x : Int) + kx = xa := ⟨_, rfl⟩
                              rw [hya, hxa] at hcn hcl hs2
                              obtain ⟨M, hM⟩ : ∃ M, M = (ya * (W : Int) + xa).toNat := ⟨_, rfl⟩
                              rw [← hM] at hcn hcl hs2
                              have hMl : M < C.size := by omega
                              obtain ⟨hcc, h256⟩ := cellN_at C M hMl
                              obtain ⟨N, hN⟩ : ∃ N, N = cellN C M := ⟨_, rfl⟩
                              rw [← hN] at hs2 hcc h256
                              obtain ⟨yw, hyw⟩ : ∃ yw, ya * (W : Int) = yw := ⟨_, rfl⟩
                              rw [hyw] at hcn
                              rw [hxa] at i0 i1
                              rw [hya] at i2 i3
                              have h64 : W * H ≤ 8 * 8 := Nat.mul_le_mul hW.2 hH.2
                              have hcs : (C.size : Int) ≤ 64 := by omega
                              have hM0 : (0 : Int) ≤ (M : Int) ∧ (M : Int) < (C.size : Int) := by omega
                              have HS2 := hide hs2
                              have hmn : min (M : Int) ((W : Int) * (H : Int) - 1) = (M : Int) := by
                                have : ((W * H : Nat) : Int) = (W : Int) * (H : Int) := Int.natCast_mul _ _
                                omega
                              clear hs2 HSU hin hpt hM hN hcl
                              go_wp2_with fail
                              refine (rOwner_any (N : Int) _).mono ?_
                              rintro e u ⟨rfl, rfl⟩
                              go_wp2
                              go_roundw
                              case rel => exact ⟨k + 1, by go_num, by omega, congrArg Value.bool (by rw [unhide HS2, Bool.eq_iff_iff]; simp), unhide HPB, unhide HBW⟩
                              case measure => simp only [intOf]; omega
                            · have hs2 := unhide HSU
                              rw [show (decide (inP W H dx dy x y k)) = false by rw [decide_eq_false_iff_not]; unfold inP; rw [hkx, hky]; omega] at hs2
                              rw [Bool.false_and] at hs2
                              have HS2 := hide hs2
                              clear hs2 HSU
                              go_wp2
                              go_roundw
                              case rel => exact ⟨k + 1, by go_num, by omega, by rw [unhide HS2], unhide HPB, unhide HBW⟩
                              case measure => simp only [intOf]; omega
                          · exact absurd (show 0 ≤ (y : Int) + ky by omega) i2
                        · have hs2 := unhide HSU
                          rw [show (decide (inP W H dx dy x y k)) = false by rw [decide_eq_false_iff_not]; unfold inP; rw [hkx, hky]; omega] at hs2
                          rw [Bool.false_and] at hs2
                          have HS2 := hide hs2
                          clear hs2 HSU
                          go_wp2
                          go_roundw
                          case rel => exact ⟨k + 1, by go_num, by omega, by rw [unhide HS2], unhide HPB, unhide HBW⟩
                          case measure => simp only [intOf]; omega
                      · have hs2 := unhide HSU
                        rw [show (decide (inP W H dx dy x y k)) = false by rw [decide_eq_false_iff_not]; unfold inP; rw [hkx, hky]; omega] at hs2
                        rw [Bool.false_and] at hs2
                        have HS2 := hide hs2
                        clear hs2 HSU
                        go_wp2
                        go_roundw
                        case rel => exact ⟨k + 1, by go_num, by omega, by rw [unhide HS2], unhide HPB, unhide HBW⟩
                        case measure => simp only [intOf]; omega
                  · have hkni : ¬ (k : Int) < (n : Int) := by omega
                    obtain rfl : k = n := by omega
                    have hds := unhide HDS (fun d => rowB W H P C x y d.1 d.2 k)
                    rw [unhide HND, Bool.false_or] at hds
                    obtain ⟨al, hal⟩ : ∃ al, al = rowB W H P C x y dx dy k := ⟨_, rfl⟩
                    rw [← hal] at hds ⊢
                    clear hal
                    have HD2 := hide hds
                    clear hds
                    cases al with
                    | true =>
                      have hRe : R = true := by
                        have h1 : lineAt W H P C k y x = true := by
                          unfold lineAt
                          obtain ⟨q, hq, hf⟩ := List.any_eq_true.1 (unhide HD2)
                          exact List.any_eq_true.2 ⟨q, List.mem_of_mem_take hq, hf⟩
                        rw [unhide HR]
                        unfold linedB
                        exact List.any_eq_true.2 ⟨y, List.mem_range.2 hyl, List.any_eq_true.2 ⟨x, List.mem_range.2 hxl, h1⟩⟩
                      have HRE := hide hRe
                      clear hRe HR
                      go_wp2
                      go_ret
                      exact ⟨by rw [unhide HRE]; rfl, unhide HBW⟩
                    | false =>
                      go_wp2
                      go_roundw
                      case rel => exact ⟨d + 1, by go_num, by omega, unhide HD2, unhide HPB, unhide HBW⟩
                      case measure => simp only [intOf]; omega
            · have hdli : ¬ (d : Int) < 4 := by omega
              have hnx : (List.range (x + 1)).any (fun x => lineAt W H P C n y x) = false := by
                rw [anyR_succ, unhide HNX, Bool.false_or]
                have := unhide HND
                rw [List.take_of_length_le (by show 4 ≤ d; omega)] at this
                exact this
              have HNX2 := hide hnx
              clear hnx
              go_wp2
              go_roundw
              case rel => exact ⟨x + 1, by go_num, by omega, unhide HNX2, unhide HPB, unhide HBW⟩
              case measure => simp only [intOf]; omega
        · have hxli : ¬ (x : Int) < (W : Int) := by omega
          have hny : (List.range (y + 1)).any (fun y => (List.range W).any fun x => lineAt W H P C n y x) = false := by
            rw [anyR_succ, unhide HNO, Bool.false_or]
            have := unhide HNX
            rw [show x = W by omega] at this
            exact this
          have HNO2 := hide hny
          clear hny
          go_wp2
          go_roundw
          case rel => exact ⟨y + 1, by go_num, by omega, unhide HNO2, unhide HPB, unhide HBW⟩
          case measure => simp only [intOf]; omega
    · have hyli : ¬ (y : Int) < (H : Int) := by omega
      have hRe : R = false := by
        rw [unhide HR]
        unfold linedB
        have := unhide HNO
        rw [show y = H by omega] at this
        exact this
      have HRE := hide hRe
      clear hRe HR
      go_wp2
      go_ret
      exact ⟨by rw [unhide HRE]; rfl, unhide HBW⟩
end Go.Proofs.YtihojhfpepbjhaaGreatDoor
