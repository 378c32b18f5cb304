/-
  package gamekeep, walked: mirrored, and the closures that turn a place.
  The reference's In.
-/
import Derived.Test.YtbglppcbgfkhmabGreatDoorJ19
import Derived.Deep.RegionHeld3
import Derived.Deep.Cut
namespace Go.Proofs.YtbglppcbgfkhmabGreatDoor
open Go.RowKit
attribute [local go_sem ↓] Go.wp_at_zero Go.wp_at_succ

theorem wrapI {n : Int} (h : -9223372036854775808 ≤ n ∧ n ≤ 9223372036854775807) : IntKind.i64.wrap n = n := by unfold IntKind.wrap; simp [IntKind.signed, IntKind.bits]; omega
/-- A place in the mirror. -/
def flipI (W : Nat) (a : Int) : Int := if a < 0 then a else ((a.toNat / W * W + (W - 1 - a.toNat % W) : Nat) : Int)
/-- A place with the board turned round. -/
def upsI (W H : Nat) (a : Int) : Int := if a < 0 then a else (((H - 1 - a.toNat / W) * W + a.toNat % W : Nat) : Int)

set_option maxHeartbeats 2000000 in
set_option maxRecDepth 100000 in
theorem flip_any (W : Nat) (H T : Int) (C A B : ByteArray) (a : Int) (g : Nat) (w : World) (hpb : isPb w g W H T C A B) (hW : 1 ≤ W ∧ W ≤ 8) (ha : a < 64) :
    Calls Tryz.prog 49 #[.int .i64 a, .pointer (some ⟨g, 0, none⟩)] w fun e w' => e = .returned (.int .i64 (flipI W a)) ∧ Below w.heap.size w w' := by
  unfold flipI
  obtain ⟨p0, p1, p2, p3, p4, p5⟩ := hpb.all
  by_cases hneg : a < 0
  · rw [if_pos hneg]
    go_enter Tryz.func49, Tryz.ntmps49
    go_wp2
    go_ret
    exact ⟨rfl, Below.refl _ _⟩
  rw [if_neg hneg]
  obtain ⟨i, hi⟩ : ∃ i : Nat, a = i := ⟨a.toNat, by omega⟩
  subst hi
  rw [Int.toNat_natCast]
  have hi64 : i < 64 := by omega
  have et : ((i : Int)).tmod (W : Int) = ((i % W : Nat) : Int) := by rw [Int.tmod_eq_emod_of_nonneg (by omega)]; rfl
  have eq : ((i : Int)).tdiv (W : Int) = ((i / W : Nat) : Int) := by rw [Int.tdiv_eq_ediv_of_nonneg (by omega)]; rfl
  have hx : i % W < W := Nat.mod_lt _ (by omega)
  have hy : i / W ≤ 63 := Nat.le_trans (Nat.div_le_self _ _) (by omega)
  have hyw : i / W * W ≤ i := Nat.div_mul_le_self i W
  have hW0 : ¬ (W : Int) = 0 := by omega
  have hWb : ((W : Int) == 0) = false := by simp; omega
  have hW1 : ((W : Int) == -1) = false := by simp
  generalize i % W = x at *
  generalize hyy : i / W = y at *
  obtain ⟨m, hm⟩ : ∃ m, m = y * W := ⟨_, rfl⟩
  rw [← hm] at hyw
  have hmul : (y : Int) * (W : Int) = (m : Int) := by rw [hm, Int.natCast_mul]
  obtain ⟨s, hs⟩ : ∃ s, s = m + W := ⟨_, rfl⟩
  obtain ⟨r, hr⟩ : ∃ r, r = m + (W - 1 - x) := ⟨_, rfl⟩
  obtain ⟨s1, hs1⟩ : ∃ s1, s1 = s - 1 := ⟨_, rfl⟩
  rw [← hm, ← hr]
  have e1 : (m : Int) + (W : Int) = (s : Int) := by omega
  have e2 : (s : Int) - 1 = (s1 : Int) := by omega
  have e3 : (s1 : Int) - (x : Int) = (r : Int) := by omega
  have wm : IntKind.i64.wrap (m : Int) = (m : Int) := wrapI (by omega)
  have wy : IntKind.i64.wrap (y : Int) = (y : Int) := wrapI (by omega)
  have ws : IntKind.i64.wrap (s : Int) = (s : Int) := wrapI (by omega)
  have ws1 : IntKind.i64.wrap (s1 : Int) = (s1 : Int) := wrapI (by omega)
  have wr : IntKind.i64.wrap (r : Int) = (r : Int) := wrapI (by omega)
  clear hm hr hs hs1 hyy hyw hpb
  go_enter Tryz.func49, Tryz.ntmps49
  go_wp2_with fail
  go_quiet (fail)
  go_wp2
  go_ret
  exact ⟨rfl, ⟨rfl, rfl, rfl, Nat.le_refl _, fun _ _ => rfl⟩⟩
set_option maxHeartbeats 2000000 in
set_option maxRecDepth 100000 in
theorem ups_any (W H : Nat) (T : Int) (C A B : ByteArray) (a : Int) (g : Nat) (w : World) (hpb : isPb w g W H T C A B) (hW : 1 ≤ W ∧ W ≤ 8) (hH : 1 ≤ H ∧ H ≤ 8) (haW : a < ((W * H : Nat) : Int)) :
    Calls Tryz.prog 25 #[.int .i64 a, .pointer (some ⟨g, 0, none⟩)] w fun e w' => e = .returned (.int .i64 (upsI W H a)) ∧ Below w.heap.size w w' := by
  have h64 : W * H ≤ 64 := Nat.mul_le_mul hW.2 hH.2
  have ha : a < 64 := by omega
  unfold upsI
  obtain ⟨p0, p1, p2, p3, p4, p5⟩ := hpb.all
  by_cases hneg : a < 0
  · rw [if_pos hneg]
    go_enter Tryz.func25, Tryz.ntmps25
    go_wp2
    go_ret
    exact ⟨rfl, Below.refl _ _⟩
  rw [if_neg hneg]
  obtain ⟨i, hi⟩ : ∃ i : Nat, a = i := ⟨a.toNat, by omega⟩
  subst hi
  rw [Int.toNat_natCast]
  have hi64 : i < 64 := by omega
  have et : ((i : Int)).tmod (W : Int) = ((i % W : Nat) : Int) := by rw [Int.tmod_eq_emod_of_nonneg (by omega)]; rfl
  have eq : ((i : Int)).tdiv (W : Int) = ((i / W : Nat) : Int) := by rw [Int.tdiv_eq_ediv_of_nonneg (by omega)]; rfl
  have hx : i % W < W := Nat.mod_lt _ (by omega)
  have hy : i / W ≤ 63 := Nat.le_trans (Nat.div_le_self _ _) (by omega)
  have hyw : i / W * W ≤ i := Nat.div_mul_le_self i W
  have hW0 : ¬ (W : Int) = 0 := by omega
  have hWb : ((W : Int) == 0) = false := by simp; omega
  have hW1 : ((W : Int) == -1) = false := by simp
  generalize i % W = x at *
  generalize hyy : i / W = y at *
  obtain ⟨m, hm⟩ : ∃ m, m = y * W := ⟨_, rfl⟩
  rw [← hm] at hyw
  have hmul : (y : Int) * (W : Int) = (m : Int) := by rw [hm, Int.natCast_mul]
  have hyH : y < H := by rw [← hyy]; exact Nat.div_lt_of_lt_mul (by omega)
  obtain ⟨h1, hh1⟩ : ∃ h1, h1 = H - 1 := ⟨_, rfl⟩
  obtain ⟨z, hz⟩ : ∃ z, z = h1 - y := ⟨_, rfl⟩
  obtain ⟨m2, hm2⟩ : ∃ m2, m2 = z * W := ⟨_, rfl⟩
  obtain ⟨r, hr⟩ : ∃ r, r = m2 + x := ⟨_, rfl⟩
  have hz7 : z ≤ 7 := by omega
  have hm9 : m2 ≤ 7 * 8 := by rw [hm2]; exact Nat.mul_le_mul hz7 hW.2
  have er : (H - 1 - y) * W + x = r := by rw [hr, hm2, hz, hh1]
  rw [er]
  have e1 : (H : Int) - 1 = (h1 : Int) := by omega
  have e2 : (h1 : Int) - (y : Int) = (z : Int) := by omega
  have e3 : (z : Int) * (W : Int) = (m2 : Int) := by rw [hm2, Int.natCast_mul]
  have e4 : (m2 : Int) + (x : Int) = (r : Int) := by omega
  have wy : IntKind.i64.wrap (y : Int) = (y : Int) := wrapI (by omega)
  have wh : IntKind.i64.wrap (h1 : Int) = (h1 : Int) := wrapI (by omega)
  have wz : IntKind.i64.wrap (z : Int) = (z : Int) := wrapI (by omega)
  have wm : IntKind.i64.wrap (m2 : Int) = (m2 : Int) := wrapI (by omega)
  have wr : IntKind.i64.wrap (r : Int) = (r : Int) := wrapI (by omega)
  clear hm hr hh1 hz hm2 hyy hyw hpb er hmul haW
  go_enter Tryz.func25, Tryz.ntmps25
  go_wp2_with fail
  go_quiet (fail)
  go_wp2
  go_ret
  exact ⟨rfl, ⟨rfl, rfl, rfl, Nat.le_refl _, fun _ _ => rfl⟩⟩
theorem isMb.setAll {w : World} {b : Nat} {f t c : Int} (h : isMb w b f t c) (f' t' c' : Int) : isMb (((w.setCell ⟨b, 0, none⟩ (.int .i64 f')).setCell ⟨b, 1, none⟩ (.int .i64 t')).setCell ⟨b, 2, none⟩ (.int .u8 c')) b f' t' c' := by
  unfold isMb at h ⊢; simp [World.setCell, Array.getElem?_modify, h]
theorem isMb.frozen {w : World} {b : Nat} {f t c : Int} (h : isMb w b f t c) (k : Nat) : w.frozen? ⟨b, k, none⟩ = false := frozen_of_row w b k _ _ h
set_option maxHeartbeats 4000000 in
set_option maxRecDepth 100000 in
theorem mirrored_any (W : Nat) (H T : Int) (C A B : ByteArray) (f t : Int) (c : Nat) (w : World) (hW : 1 ≤ W ∧ W ≤ 8) (hf : f < 64) (ht : t < 64) :
    Calls Tryz.prog 24 #[.agg #[.int .i64 (W : Int), .int .i64 H, .string C, .int .i64 T, .string A, .string B], .agg #[.int .i64 f, .int .i64 t, .int .u8 (c : Int)]] w fun e w' => e = .returned (.agg #[.int .i64 (flipI W f), .int .i64 (flipI W t), .int .u8 (c : Int)]) ∧ Below w.heap.size w w' := by
  obtain ⟨w1, hw1⟩ : ∃ w1, w1 = w.alloc (.cells #[.int .i64 (W : Int), .int .i64 H, .string C, .int .i64 T, .string A, .string B] 24 (0, 0)) := ⟨_, rfl⟩
  obtain ⟨w2, hw2⟩ : ∃ w2, w2 = w1.alloc (.cells #[.int .i64 f, .int .i64 t, .int .u8 (c : Int)] 29 (0, 0)) := ⟨_, rfl⟩
  obtain ⟨w3, hw3⟩ : ∃ w3, w3 = w2.alloc (.cells #[.int .i64 0, .int .i64 0, .int .u8 0] 29 (0, 0)) := ⟨_, rfl⟩
  have hb1 : Below w.heap.size w w1 := by rw [hw1]; exact (Below.refl _ _).alloc (Nat.le_refl _) _
  have hb2 : Below w1.heap.size w1 w2 := by rw [hw2]; exact (Below.refl _ _).alloc (Nat.le_refl _) _
  have hb3 : Below w2.heap.size w2 w3 := by rw [hw3]; exact (Below.refl _ _).alloc (Nat.le_refl _) _
  have s1 : w1.heap.size = w.heap.size + 1 := by rw [hw1]; simp
  have s2 : w2.heap.size = w.heap.size + 1 + 1 := by rw [hw2]; simp [s1]
  have s3 : w3.heap.size = w.heap.size + 1 + 1 + 1 := by rw [hw3]; simp [s2]
  have hpb : isPb w3 w.heap.size W H T C A B := isPb.below (isPb.below (show isPb w1 w.heap.size W H T C A B by rw [hw1]; exact heap_alloc_new w _) hb2 (by omega)) hb3 (by omega)
  have hmb : isMb w3 (w.heap.size + 1) f t c := isMb.below (show isMb w2 (w.heap.size + 1) f t c by rw [hw2, ← s1]; exact heap_alloc_new w1 _) hb3 (by omega)
  have hzb : isMb w3 (w.heap.size + 1 + 1) 0 0 0 := by rw [hw3, ← s2]; exact heap_alloc_new w2 _
  have hbw : Below w.heap.size w w3 := (hb1.trans (hb2.mono (by omega))).trans (hb3.mono (by omega))
  have HFF := hide (fun (u : World) (hu : Below w3.heap.size w3 u) => flip_any W H T C A B f w.heap.size u (hpb.below hu (by omega)) hW hf)
  have HFT := hide (fun (u : World) (hu : Below w3.heap.size w3 u) => flip_any W H T C A B t w.heap.size u (hpb.below hu (by omega)) hW ht)
  have hHS : ∀ u, Below (w.heap.size + 1 + 1) w3 u → (u.cell? ⟨w.heap.size + 1, 0, none⟩ = some (.int .i64 f) ∧ u.cell? ⟨w.heap.size + 1, 1, none⟩ = some (.int .i64 t) ∧ u.cell? ⟨w.heap.size + 1, 2, none⟩ = some (.int .u8 (c : Int))) := fun u hu => (hmb.below hu (by omega)).all
  have HS := hide hHS
  have HZB := hide hzb
  have HBW := hide hbw
  have HW1 := hide hw1
  have HW2 := hide hw2
  have HW3 := hide hw3
  have HS3 := hide s3
  have HD0 : Hid (Below w3.heap.size w3 w3.drew) := hide (Below.refl _ _).drew
  generalize flipI W f = F at *
  generalize flipI W t = G at *
  clear hHS hw1 hw2 hw3 hb1 hb2 hb3 s1 s2 s3 hpb hmb hzb hbw
  go_enter Tryz.func24, Tryz.ntmps24
  go_upto_region 2 with fail
  rw [← unhide HW1, ← unhide HW2, ← unhide HW3]
  clear HW1 HW2 HW3
  go_region_held3 (fun u => u.cell? ⟨w.heap.size + 1, 0, none⟩ = some (.int .i64 f) ∧ u.cell? ⟨w.heap.size + 1, 1, none⟩ = some (.int .i64 t) ∧ u.cell? ⟨w.heap.size + 1, 2, none⟩ = some (.int .u8 (c : Int)))
    (first
      | exact unhide HS _ ((unhide HD0).mono (by have := unhide HS3; omega))
      | exact unhide HS _ ((unhide HX1).mono (by have := unhide HS3; omega))
      | exact unhide HS _ ((unhide HX2).mono (by have := unhide HS3; omega))
      | exact unhide HS _ (unhide HX3 _ _ _))
    (first
      | (go_at_call 49; (with_reducible refine (unhide HFF _ (unhide HD0)).mono ?_); rintro e wx ⟨rfl, hbx⟩
         have HX1 : Hid (Below w3.heap.size w3 wx) := hide ((unhide HD0).trans (hbx.mono (unhide HD0).size))
         clear hbx)
      | (go_at_call 49; (with_reducible refine (unhide HFT _ (unhide HX1)).mono ?_); rintro e wy ⟨rfl, hby⟩
         have HX2 : Hid (Below w3.heap.size w3 wy) := hide ((unhide HX1).trans (hby.mono (unhide HX1).size))
         have hzy := (unhide HZB).below (unhide HX2) (by have := unhide HS3; omega)
         have HZY := hide hzy
         have z0 := hzy.frozen 0
         have z1 := hzy.frozen 1
         have z2 := hzy.frozen 2
         obtain ⟨k0, k1, k2⟩ := hzy.all
         have HX3 : Hid (∀ x y z : Value, Below (w.heap.size + 1 + 1) w3 (((wy.setCell ⟨w.heap.size + 1 + 1, 0, none⟩ x).setCell ⟨w.heap.size + 1 + 1, 1, none⟩ y).setCell ⟨w.heap.size + 1 + 1, 2, none⟩ z)) := hide (fun x y z => ((((unhide HX2).mono (show w.heap.size + 1 + 1 ≤ w3.heap.size by have := unhide HS3; omega)).setCell (p := ⟨w.heap.size + 1 + 1, 0, none⟩) (Nat.le_refl _) x).setCell (p := ⟨w.heap.size + 1 + 1, 1, none⟩) (Nat.le_refl _) y).setCell (p := ⟨w.heap.size + 1 + 1, 2, none⟩) (Nat.le_refl _) z)
         clear hby hzy))
  all_goals
    have hfin := (unhide HZY).setAll F G c
    obtain ⟨f0, f1, f2⟩ := hfin.all
    have hbf := unhide HX3 (.int .i64 F) (.int .i64 G) (.int .u8 (c : Int))
    have HBF := hide ((unhide HBW).trans (hbf.mono (by omega)))
    clear hfin hbf
    go_wp2
    refine bodyPost_ret (v := .agg #[.int .i64 F, .int .i64 G, .int .u8 (c : Int)]) (by simp [results, Tryz.results24, go_sem, f0, f1, f2]) rfl ⟨rfl, unhide HBF⟩
end Go.Proofs.YtbglppcbgfkhmabGreatDoor

namespace Go.Proofs.YtbglppcbgfkhmabGreatDoor
open Go.RowKit
attribute [local go_sem ↓] Go.wp_at_zero Go.wp_at_succ

set_option maxHeartbeats 4000000 in
set_option maxRecDepth 100000 in
theorem rIn_any (v : Value) (L : List Mv) (f t : Int) (c : Nat) (w : World) (h : isMvs w v L) :
    Calls Tryz.prog 14 #[v, .agg #[.int .i64 f, .int .i64 t, .int .u8 (c : Int)]] w fun e w' => e = .returned (.bool (inM f t c L)) ∧ Below w.heap.size w w' := by
  obtain ⟨ao, cap, rfl, hle, hmx, hcs⟩ := h
  obtain ⟨n, hn⟩ : ∃ n, n = L.length := ⟨_, rfl⟩
  rw [← hn] at hle ⊢
  unfold maxLen at hmx
  have hnx : n ≤ 9223372036854775807 := by omega
  have HN := hide hn
  have HCS := hide hcs
  clear hn hcs
  obtain ⟨R, hR⟩ : ∃ R, R = inM f t c L := ⟨_, rfl⟩
  rw [← hR]
  have HR := hide hR
  clear hR
  obtain ⟨wa, hwa⟩ : ∃ wa, wa = w.alloc (.cells #[.int .i64 f, .int .i64 t, .int .u8 (c : Int)] 29 (0, 0)) := ⟨_, rfl⟩
  have hba : Below w.heap.size w wa := by rw [hwa]; exact (Below.refl _ _).alloc (Nat.le_refl _) _
  have hbx : wa.heap[w.heap.size]? = some (.cells #[.int .i64 f, .int .i64 t, .int .u8 (c : Int)] 29 (0, 0)) := by rw [hwa]; exact heap_alloc_new w _
  have HBA := hide hba
  have HBX := hide hbx
  clear hba hbx
  go_enter Tryz.func14, Tryz.ntmps14
  go_wp2
  rw [← hwa]
  clear hwa
  go_loopw [5] (fun iv wr => ∃ k : Nat, iv = .int .i64 (k : Int) ∧ k ≤ n ∧ Hid (inM f t c (L.drop k) = R) ∧ wr.heap[w.heap.size]? = some (.cells #[.int .i64 f, .int .i64 t, .int .u8 (c : Int)] 29 (0, 0)) ∧ Below w.heap.size w wr) (fun iv _ => n - (intOf iv).toNat)
  case atStart => exact ⟨0, rfl, Nat.zero_le _, hide (unhide HR).symm, unhide HBX, unhide HBA⟩
  case round =>
    obtain ⟨k, rfl, hk, HK, hbx, hbw⟩ := hrel
    clear HBX HBA
    by_cases hlt : k < n
    · have hlti : (k : Int) < (n : Int) := by omega
      have hk0 : (0 : Int) ≤ (k : Int) := by omega
      have hkl : k < L.length := by rw [← unhide HN]; exact hlt
      obtain ⟨g, off, eg, hg, c0, c1, c2⟩ := unhide HCS k L[k] (List.getElem?_eq_getElem hkl)
      subst eg
      obtain ⟨m, hm⟩ : ∃ m, m = L[k] := ⟨_, rfl⟩
      rw [← hm] at c0 c1 c2
      have d0 := (hbw.cell (p := ⟨g, off + k * 3, none⟩) hg).trans c0
      have d1 := (hbw.cell (p := ⟨g, off + k * 3 + 1, none⟩) hg).trans c1
      have d2 := (hbw.cell (p := ⟨g, off + k * 3 + 2, none⟩) hg).trans c2
      have x0 : wr.cell? ⟨w.heap.size, 0, none⟩ = some (.int .i64 f) := cell_of_row _ _ _ _ _ _ hbx
      have x1 : wr.cell? ⟨w.heap.size, 1, none⟩ = some (.int .i64 t) := cell_of_row _ _ _ _ _ _ hbx
      have x2 : wr.cell? ⟨w.heap.size, 2, none⟩ = some (.int .u8 (c : Int)) := cell_of_row _ _ _ _ _ _ hbx
      have hst := unhide HK
      rw [List.drop_eq_getElem_cons hkl, ← hm] at hst
      unfold inM at hst
      rw [List.any_cons] at hst
      have he : ∀ u, (Op.equalIn 10000 29 (.agg #[.int .i64 m.f, .int .i64 (m.t : Int), .int .u8 (m.c : Int)]) (.agg #[.int .i64 f, .int .i64 t, .int .u8 (c : Int)])).run Tryz.prog u = .ok (eqM f t c m) u := fun u => by
        rw [eqMove]
        congr 1
        unfold eqM
        rw [Bool.eq_iff_iff]
        simp
        omega
      have HBX := hide hbx
      have HBW := hide hbw
      clear hm c0 c1 c2 hbx hbw
      generalize eqM f t c m = b at hst he
      cases b with
      | true =>
        rw [Bool.true_or] at hst
        have HST := hide hst
        clear hst
        go_wp2_with fail
        go_quiet (fail)
        go_wp2
        go_ret
        exact ⟨by rw [← unhide HST]; rfl, ⟨(unhide HBW).os, (unhide HBW).tape, (unhide HBW).output, (unhide HBW).size, (unhide HBW).block⟩⟩
      | false =>
        rw [Bool.false_or] at hst
        have HST := hide hst
        clear hst
        go_wp2_with fail
        go_quiet (fail)
        go_wp2
        go_roundw
        case rel => exact ⟨k + 1, by go_num, by omega, HST, unhide HBX, ⟨(unhide HBW).os, (unhide HBW).tape, (unhide HBW).output, (unhide HBW).size, (unhide HBW).block⟩⟩
        case measure => simp only [intOf]; omega
    · have hlti : ¬ (k : Int) < (n : Int) := by omega
      have hst := unhide HK
      rw [List.drop_eq_nil_of_le (by rw [← unhide HN]; omega)] at hst
      have HST := hide hst
      have HBW := hide hbw
      clear hst hbx hbw
      go_wp2
      go_ret
      exact ⟨by rw [← unhide HST]; rfl, unhide HBW⟩
end Go.Proofs.YtbglppcbgfkhmabGreatDoor
