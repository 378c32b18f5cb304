/-
  package moves, walked: Apply.
  What package gameref asks of a position, walked: Big, Small, hand, Position: the same as board.Check asks.
  The reference's small functions: abs, owner, mark.
  package gameref, walked: mark of any player.
-/
import Derived.Test.YtbnohmnbhnineabGreatDoorJ18
import Derived.Test.YtbnohmnbhnineabGreatDoorJ2
import Derived.Test.YtbnohmnbhnineabGreatDoorJ19
import Derived.Test.YtbnohmnbhnineabGreatDoorV22
namespace Go.Proofs.YtbnohmnbhnineabGreatDoor
open Go.RowKit
attribute [local go_sem ↓] Go.wp_at_zero Go.wp_at_succ

theorem isPb.frozen' {w : World} {b : Nat} {W H T : Int} {C A B : ByteArray} (h : isPb w b W H T C A B) (k : Nat) : w.frozen? ⟨b, k, none⟩ = false := frozen_of_row w b k _ _ h
set_option maxHeartbeats 4000000 in
set_option maxRecDepth 100000 in
theorem Apply_err (W0 H0 T0 : Int) (C0 A0 B0 : ByteArray) (ao : Option Addr) (cap : Nat) (ps : List Pc) (dr st : Bool) (lo re : Nat) (li pl : Int) (W H T : Int) (C A B : ByteArray) (f t : Int) (c : Nat) (E : Int) (w : World) (hE : (E != 0) = true)
    (hck : ∀ u, Below w.heap.size w u → Calls Tryz.prog 30 #[.agg #[.int .i64 W0, .int .i64 H0, .string C0, .int .i64 T0, .string A0, .string B0, .slice ao ps.length cap, .bool dr, .int .u8 (lo : Int), .int .i64 li, .int .u8 (re : Int), .bool st, .int .i64 pl], .agg #[.int .i64 W, .int .i64 H, .string C, .int .i64 T, .string A, .string B], .agg #[.int .i64 f, .int .i64 t, .int .u8 (c : Int)]] u fun e w' => e = .returned (.int .i64 E) ∧ Below u.heap.size u w') :
    Calls Tryz.prog 9 #[.agg #[.int .i64 W0, .int .i64 H0, .string C0, .int .i64 T0, .string A0, .string B0, .slice ao ps.length cap, .bool dr, .int .u8 (lo : Int), .int .i64 li, .int .u8 (re : Int), .bool st, .int .i64 pl], .agg #[.int .i64 W, .int .i64 H, .string C, .int .i64 T, .string A, .string B], .agg #[.int .i64 f, .int .i64 t, .int .u8 (c : Int)]] w fun e w' => e = .returned (.tuple #[.agg #[.int .i64 0, .int .i64 0, .string ⟨#[]⟩, .int .i64 0, .string ⟨#[]⟩, .string ⟨#[]⟩], .int .i64 E]) ∧ Below w.heap.size w w' := by
  obtain ⟨n, hn⟩ : ∃ n, n = ps.length := ⟨_, rfl⟩
  obtain ⟨w1, hw1⟩ : ∃ w1, w1 = w.alloc (.cells #[.int .i64 W0, .int .i64 H0, .string C0, .int .i64 T0, .string A0, .string B0, .slice ao n cap, .bool dr, .int .u8 (lo : Int), .int .i64 li, .int .u8 (re : Int), .bool st, .int .i64 pl] 27 (0, 0)) := ⟨_, rfl⟩
  obtain ⟨w2, hw2⟩ : ∃ w2, w2 = w1.alloc (.cells #[.int .i64 W, .int .i64 H, .string C, .int .i64 T, .string A, .string B] 24 (0, 0)) := ⟨_, rfl⟩
  obtain ⟨w3, hw3⟩ : ∃ w3, w3 = w2.alloc (.cells #[.int .i64 f, .int .i64 t, .int .u8 (c : Int)] 29 (0, 0)) := ⟨_, rfl⟩
  obtain ⟨wz, hwz⟩ : ∃ wz, wz = w3.alloc (.cells #[.int .i64 0, .int .i64 0, .string ⟨#[]⟩, .int .i64 0, .string ⟨#[]⟩, .string ⟨#[]⟩] 24 (0, 0)) := ⟨_, rfl⟩
  have hbz : Below w3.heap.size w3 wz := by rw [hwz]; exact (Below.refl _ _).alloc (Nat.le_refl _) _
  have hb1 : Below w.heap.size w w1 := by rw [hw1]; exact (Below.refl _ _).alloc (Nat.le_refl _) _
  have hb2 : Below w1.heap.size w1 w2 := by rw [hw2]; exact (Below.refl _ _).alloc (Nat.le_refl _) _
  have hb3 : Below w2.heap.size w2 w3 := by rw [hw3]; exact (Below.refl _ _).alloc (Nat.le_refl _) _
  have s1 : w1.heap.size = w.heap.size + 1 := by rw [hw1]; simp
  have s2 : w2.heap.size = w.heap.size + 1 + 1 := by rw [hw2]; simp [s1]
  have hru : isRu w3 w.heap.size (.int .i64 W0) (.int .i64 H0) (.string C0) (.int .i64 T0) (.string A0) (.string B0) (.slice ao n cap) (.bool dr) (.int .u8 (lo : Int)) (.int .i64 li) (.int .u8 (re : Int)) (.bool st) (.int .i64 pl) := isRu.below (isRu.below (show isRu w1 w.heap.size (.int .i64 W0) (.int .i64 H0) (.string C0) (.int .i64 T0) (.string A0) (.string B0) (.slice ao n cap) (.bool dr) (.int .u8 (lo : Int)) (.int .i64 li) (.int .u8 (re : Int)) (.bool st) (.int .i64 pl) by rw [hw1]; exact heap_alloc_new w _) hb2 (by omega)) hb3 (by omega)
  have hpb : isPb w3 (w.heap.size + 1) W H T C A B := isPb.below (show isPb w2 (w.heap.size + 1) W H T C A B by rw [hw2, ← s1]; exact heap_alloc_new w1 _) hb3 (by omega)
  have hmb : isMb w3 (w.heap.size + 1 + 1) f t c := by rw [hw3, ← s2]; exact heap_alloc_new w2 _
  have hbw := (hb1.trans (hb2.mono (show w.heap.size ≤ w1.heap.size by omega))).trans (hb3.mono (show w.heap.size ≤ w2.heap.size by omega))
  have s3 : w3.heap.size = w.heap.size + 1 + 1 + 1 := by rw [hw3]; simp [s2]
  have hzb : isPb wz (w.heap.size + 1 + 1 + 1) 0 0 0 ⟨#[]⟩ ⟨#[]⟩ ⟨#[]⟩ := by rw [hwz, ← s3]; exact heap_alloc_new w3 _
  have hbwz := hbw.trans (hbz.mono (show w.heap.size ≤ w3.heap.size by omega))
  have HBW := hide hbwz
  have HPB := hide (hpb.below hbz (by omega))
  have HRU := hide (hru.below hbz (by omega))
  have HMB := hide (hmb.below hbz (by omega))
  have HZB := hide hzb
  have HWZ := hide hwz
  have HW1 := hide hw1
  have HW2 := hide hw2
  have HW3 := hide hw3
  have HK := hide (hck wz hbwz)
  rw [← hn] at HK ⊢
  clear hck hw1 hw2 hw3 hwz hb1 hb2 hb3 hbz s1 s2 s3 hru hpb hmb hzb hbw hbwz hn
  go_enter Tryz.func9, Tryz.ntmps9
  go_wp2_with fail
  rw [← unhide HW1, ← unhide HW2, ← unhide HW3, ← unhide HWZ]
  refine (unhide HK).mono ?_
  rintro e u ⟨rfl, hb1⟩
  have hz := (unhide HZB).below hb1 (unhide HZB).lt
  have HB := hide ((unhide HBW).trans (hb1.mono (unhide HBW).size))
  have HZL := hide (unhide HZB).lt
  clear HPB HRU HMB HZB HBW HW1 HW2 HW3 HWZ hb1 HK
  obtain ⟨e0, e1, e2, e3, e4, e5⟩ := hz.all
  have z0 := hz.frozen' 0
  have z1 := hz.frozen' 1
  have z2 := hz.frozen' 2
  have z3 := hz.frozen' 3
  have z4 := hz.frozen' 4
  have z5 := hz.frozen' 5
  clear hz
  go_wp2
  refine bodyPost_ret (v := .tuple #[.agg #[.int .i64 0, .int .i64 0, .string ⟨#[]⟩, .int .i64 0, .string ⟨#[]⟩, .string ⟨#[]⟩], .int .i64 E]) (by simp [results, Tryz.results9, go_sem, e0, e1, e2, e3, e4, e5]) rfl ⟨rfl, ?_⟩
  first | exact below_set6 (by omega) (unhide HB) | exact unhide HB
set_option maxHeartbeats 4000000 in
set_option maxRecDepth 100000 in
theorem Apply_go (W0 H0 T0 : Int) (C0 A0 B0 : ByteArray) (ao : Option Addr) (cap : Nat) (ps : List Pc) (dr st : Bool) (lo re : Nat) (li pl : Int) (W H T : Int) (C A B : ByteArray) (f t : Int) (c : Nat) (Q0 Q1 Q3 : Int) (Q2 Q4 Q5 : ByteArray) (w : World)
    (hck : ∀ u, Below w.heap.size w u → Calls Tryz.prog 30 #[.agg #[.int .i64 W0, .int .i64 H0, .string C0, .int .i64 T0, .string A0, .string B0, .slice ao ps.length cap, .bool dr, .int .u8 (lo : Int), .int .i64 li, .int .u8 (re : Int), .bool st, .int .i64 pl], .agg #[.int .i64 W, .int .i64 H, .string C, .int .i64 T, .string A, .string B], .agg #[.int .i64 f, .int .i64 t, .int .u8 (c : Int)]] u fun e w' => e = .returned (.int .i64 0) ∧ Below u.heap.size u w')
    (hbe : ∀ u, Below w.heap.size w u → Calls Tryz.prog 31 #[.agg #[.int .i64 W0, .int .i64 H0, .string C0, .int .i64 T0, .string A0, .string B0, .slice ao ps.length cap, .bool dr, .int .u8 (lo : Int), .int .i64 li, .int .u8 (re : Int), .bool st, .int .i64 pl], .agg #[.int .i64 W, .int .i64 H, .string C, .int .i64 T, .string A, .string B], .agg #[.int .i64 f, .int .i64 t, .int .u8 (c : Int)]] u fun e w' => e = .returned (.agg #[.int .i64 Q0, .int .i64 Q1, .string Q2, .int .i64 Q3, .string Q4, .string Q5]) ∧ Below u.heap.size u w') :
    Calls Tryz.prog 9 #[.agg #[.int .i64 W0, .int .i64 H0, .string C0, .int .i64 T0, .string A0, .string B0, .slice ao ps.length cap, .bool dr, .int .u8 (lo : Int), .int .i64 li, .int .u8 (re : Int), .bool st, .int .i64 pl], .agg #[.int .i64 W, .int .i64 H, .string C, .int .i64 T, .string A, .string B], .agg #[.int .i64 f, .int .i64 t, .int .u8 (c : Int)]] w fun e w' => e = .returned (.tuple #[.agg #[.int .i64 Q0, .int .i64 Q1, .string Q2, .int .i64 Q3, .string Q4, .string Q5], .int .i64 0]) ∧ Below w.heap.size w w' := by
  obtain ⟨n, hn⟩ : ∃ n, n = ps.length := ⟨_, rfl⟩
  obtain ⟨w1, hw1⟩ : ∃ w1, w1 = w.alloc (.cells #[.int .i64 W0, .int .i64 H0, .string C0, .int .i64 T0, .string A0, .string B0, .slice ao n cap, .bool dr, .int .u8 (lo : Int), .int .i64 li, .int .u8 (re : Int), .bool st, .int .i64 pl] 27 (0, 0)) := ⟨_, rfl⟩
  obtain ⟨w2, hw2⟩ : ∃ w2, w2 = w1.alloc (.cells #[.int .i64 W, .int .i64 H, .string C, .int .i64 T, .string A, .string B] 24 (0, 0)) := ⟨_, rfl⟩
  obtain ⟨w3, hw3⟩ : ∃ w3, w3 = w2.alloc (.cells #[.int .i64 f, .int .i64 t, .int .u8 (c : Int)] 29 (0, 0)) := ⟨_, rfl⟩
  obtain ⟨wz, hwz⟩ : ∃ wz, wz = w3.alloc (.cells #[.int .i64 0, .int .i64 0, .string ⟨#[]⟩, .int .i64 0, .string ⟨#[]⟩, .string ⟨#[]⟩] 24 (0, 0)) := ⟨_, rfl⟩
  have hbz : Below w3.heap.size w3 wz := by rw [hwz]; exact (Below.refl _ _).alloc (Nat.le_refl _) _
  have hb1 : Below w.heap.size w w1 := by rw [hw1]; exact (Below.refl _ _).alloc (Nat.le_refl _) _
  have hb2 : Below w1.heap.size w1 w2 := by rw [hw2]; exact (Below.refl _ _).alloc (Nat.le_refl _) _
  have hb3 : Below w2.heap.size w2 w3 := by rw [hw3]; exact (Below.refl _ _).alloc (Nat.le_refl _) _
  have s1 : w1.heap.size = w.heap.size + 1 := by rw [hw1]; simp
  have s2 : w2.heap.size = w.heap.size + 1 + 1 := by rw [hw2]; simp [s1]
  have hru : isRu w3 w.heap.size (.int .i64 W0) (.int .i64 H0) (.string C0) (.int .i64 T0) (.string A0) (.string B0) (.slice ao n cap) (.bool dr) (.int .u8 (lo : Int)) (.int .i64 li) (.int .u8 (re : Int)) (.bool st) (.int .i64 pl) := isRu.below (isRu.below (show isRu w1 w.heap.size (.int .i64 W0) (.int .i64 H0) (.string C0) (.int .i64 T0) (.string A0) (.string B0) (.slice ao n cap) (.bool dr) (.int .u8 (lo : Int)) (.int .i64 li) (.int .u8 (re : Int)) (.bool st) (.int .i64 pl) by rw [hw1]; exact heap_alloc_new w _) hb2 (by omega)) hb3 (by omega)
  have hpb : isPb w3 (w.heap.size + 1) W H T C A B := isPb.below (show isPb w2 (w.heap.size + 1) W H T C A B by rw [hw2, ← s1]; exact heap_alloc_new w1 _) hb3 (by omega)
  have hmb : isMb w3 (w.heap.size + 1 + 1) f t c := by rw [hw3, ← s2]; exact heap_alloc_new w2 _
  have hbw := (hb1.trans (hb2.mono (show w.heap.size ≤ w1.heap.size by omega))).trans (hb3.mono (show w.heap.size ≤ w2.heap.size by omega))
  have s3 : w3.heap.size = w.heap.size + 1 + 1 + 1 := by rw [hw3]; simp [s2]
  have hzb : isPb wz (w.heap.size + 1 + 1 + 1) 0 0 0 ⟨#[]⟩ ⟨#[]⟩ ⟨#[]⟩ := by rw [hwz, ← s3]; exact heap_alloc_new w3 _
  have hbwz := hbw.trans (hbz.mono (show w.heap.size ≤ w3.heap.size by omega))
  have HBW := hide hbwz
  have HPB := hide (hpb.below hbz (by omega))
  have HRU := hide (hru.below hbz (by omega))
  have HMB := hide (hmb.below hbz (by omega))
  have HZB := hide hzb
  have HWZ := hide hwz
  have HW1 := hide hw1
  have HW2 := hide hw2
  have HW3 := hide hw3
  have HK := hide (hck wz hbwz)
  have HBE := hide hbe
  rw [← hn] at HK HBE ⊢
  clear hck hbe hw1 hw2 hw3 hwz hb1 hb2 hb3 hbz s1 s2 s3 hru hpb hmb hzb hbw hbwz hn
  go_enter Tryz.func9, Tryz.ntmps9
  go_wp2_with fail
  rw [← unhide HW1, ← unhide HW2, ← unhide HW3, ← unhide HWZ]
  refine (unhide HK).mono ?_
  rintro e u ⟨rfl, hb1⟩
  have hPn := (unhide HPB).below hb1 (unhide HPB).lt
  have hRn := (unhide HRU).below hb1 (unhide HRU).lt
  have hMn := (unhide HMB).below hb1 (unhide HMB).lt
  have hZn := (unhide HZB).below hb1 (unhide HZB).lt
  have hBn := (unhide HBW).trans (hb1.mono (unhide HBW).size)
  have HBE1 := hide (unhide HBE u hBn)
  have HZB' := hide hZn
  have HB := hide hBn
  obtain ⟨p0, p1, p2, p3, p4, p5⟩ := hPn.all
  obtain ⟨r0, r1, r2, r3, r4, r5, r6, r7, r8, r9, r10, r11, r12⟩ := hRn.cells
  obtain ⟨m0, m1, m2⟩ := hMn.all
  clear HPB HRU HMB HZB HBW HW1 HW2 HW3 HWZ hb1 HK HBE hPn hRn hMn hZn hBn
  go_wp2_with fail
  refine (unhide HBE1).mono ?_
  rintro e v ⟨rfl, hb1⟩
  have hz := (unhide HZB').below hb1 (unhide HZB').lt
  have HBV := hide ((unhide HB).trans (hb1.mono (unhide HB).size))
  clear HZB' HB hb1 HBE1 p0 p1 p2 p3 p4 p5 r0 r1 r2 r3 r4 r5 r6 r7 r8 r9 r10 r11 r12 m0 m1 m2
  obtain ⟨e0, e1, e2, e3, e4, e5⟩ := hz.all
  have z0 := hz.frozen' 0
  have z1 := hz.frozen' 1
  have z2 := hz.frozen' 2
  have z3 := hz.frozen' 3
  have z4 := hz.frozen' 4
  have z5 := hz.frozen' 5
  clear hz
  go_wp2
  refine bodyPost_ret (v := .tuple #[.agg #[.int .i64 Q0, .int .i64 Q1, .string Q2, .int .i64 Q3, .string Q4, .string Q5], .int .i64 0]) (by simp [results, Tryz.results9, go_sem, e0, e1, e2, e3, e4, e5]) rfl ⟨rfl, ?_⟩
  exact below_set6 (by omega) (unhide HBV)
end Go.Proofs.YtbnohmnbhnineabGreatDoor

namespace Go.Proofs.YtbnohmnbhnineabGreatDoor
open Go.RowKit

def smallB (c : Int) : Bool := decide (97 ≤ c) && decide (c ≤ 122)

set_option maxHeartbeats 400000 in
theorem Big_any (c : Int) (w : World) :
    Calls Tryz.prog 66 #[.int .u8 c] w fun e w' => e = .returned (.bool (capB c)) ∧ w' = w := by
  go_enter Tryz.func66, Tryz.ntmps66
  go_wp2
  all_goals go_ret
  all_goals refine ⟨ret_bool ?_, rfl⟩
  all_goals (unfold capB; simp; try omega)

set_option maxHeartbeats 400000 in
theorem Small_any (c : Int) (w : World) :
    Calls Tryz.prog 40 #[.int .u8 c] w fun e w' => e = .returned (.bool (smallB c)) ∧ w' = w := by
  go_enter Tryz.func40, Tryz.ntmps40
  go_wp2
  all_goals go_ret
  all_goals refine ⟨ret_bool ?_, rfl⟩
  all_goals (unfold smallB; simp; try omega)

/-- The byte ahead of the k-th one, or 'A'. -/
def prevI (s : ByteArray) (k : Nat) : Int := if k = 0 then 65 else ((s.data.toList.getD (k - 1) 0).toNat : Int)
theorem prevI_succ (s : ByteArray) (k : Nat) (h : k < s.size) : prevI s (k + 1) = (s[k].toNat : Int) := by
  unfold prevI
  rw [if_neg (by omega), Nat.add_sub_cancel, List.getD_eq_getElem?_getD, List.getElem?_eq_getElem (by rw [len_data]; exact h)]
  rfl

set_option maxHeartbeats 1000000 in
theorem refHand_any (s : ByteArray) (w : World) (hs : s.size ≤ maxLen) :
    Calls Tryz.prog 68 #[.string s] w fun e w' => e = .returned (.bool (handB s.data.toList)) ∧ ∃ n, w' = w.drewN n := by
  unfold maxLen at hs
  by_cases hn : s.size ≤ 8
  · go_enter Tryz.func68, Tryz.ntmps68
    go_wp2
    go_loopw [3] (fun i wr => ∃ (k : Nat), k ≤ s.size ∧ i = .int .i64 k ∧ handB s.data.toList = capsB (prevI s k) (s.data.toList.drop k) ∧ ∃ n, wr = w.drewN n) (fun i _ => s.size - (intOf i).toNat)
    case atStart => exact ⟨0, Nat.zero_le _, rfl, by simp [handB, hn, prevI], 0, rfl⟩
    case round =>
      obtain ⟨k, hk, rfl, hc, hw⟩ := hrel
      have HW : Hid (∀ m, ∃ n, wr.drewN m = w.drewN n) := by
        obtain ⟨n, hn'⟩ := hw
        exact fun m => ⟨n + m, by rw [hn', World.drewN_drewN]⟩
      have HW0 := hide hw
      have HC := hide hc
      clear hc hw
      by_cases hlt : k < s.size
      · have HS := hide (drop_cons s k hlt)
        have HP := hide (prevI_succ s k hlt)
        have i0 : (0 : Int) ≤ (k : Int) := by omega
        have i1 : (k : Int) < (s.size : Int) := by omega
        cases hcap : capB ↑s[k].toNat with
        | false =>
          go_wp2
          go_quiet ((go_at_call 66; exact Calls.quiet_of_same (Big_any _ _)))
          go_wp2
          go_ret
          exact ⟨ret_bool (by rw [unhide HC, unhide HS]; simp [capsB, hcap]), unhide HW _⟩
        | true =>
          by_cases hk0 : k = 0
          · subst hk0
            have HP0 : Hid (prevI s 0 = 65) := rfl
            go_wp2
            go_quiet ((go_at_call 66; exact Calls.quiet_of_same (Big_any _ _)))
            go_wp2
            go_roundw
            case rel =>
              refine ⟨0 + 1, by omega, by go_num, ?_, unhide HW _⟩
              rw [unhide HC, unhide HS, unhide HP, unhide HP0]
              have h65 : (65 : Int) ≤ ↑s[0].toNat := by simp only [capB, Bool.and_eq_true, decide_eq_true_eq] at hcap; exact hcap.1
              simp [capsB, hcap, h65]
            case measure => simp [intOf]; omega
          · obtain ⟨j, rfl⟩ : ∃ j, k = j + 1 := ⟨k - 1, by omega⟩
            have j0 : (0 : Int) ≤ (j : Int) := by omega
            have j1 : (j : Int) < (s.size : Int) := by omega
            have j2 : j < s.size := by omega
            have j3 : (0 : Int) < (j : Int) + 1 := by omega
            have j4 : (0 : Int) ≤ (j : Int) + 1 := by omega
            have j5 : (j : Int) + 1 < (s.size : Int) := by omega
            have HPj := hide (prevI_succ s j j2)
            go_wp2
            go_quiet ((go_at_call 66; exact Calls.quiet_of_same (Big_any _ _)))
            go_wp2
            · have h1 : s[j + 1].toNat < s[j].toNat := by assumption
              go_ret
              refine ⟨ret_bool ?_, unhide HW _⟩
              rw [unhide HC, unhide HS, unhide HPj]
              have hd : decide ((s[j].toNat : Int) ≤ (s[j + 1].toNat : Int)) = false := by simp; omega
              simp only [capsB, hd, Bool.and_false, Bool.false_and]
            · have h1 : ¬ s[j + 1].toNat < s[j].toNat := by assumption
              go_roundw
              case rel =>
                refine ⟨j + 1 + 1, by omega, by go_num, ?_, unhide HW _⟩
                rw [unhide HC, unhide HS, unhide HPj, unhide HP]
                have hd : decide ((s[j].toNat : Int) ≤ (s[j + 1].toNat : Int)) = true := by simp; omega
                simp only [capsB, hd, hcap, Bool.and_true, Bool.true_and]
              case measure => simp [intOf]; omega
      · go_wp2
        go_ret
        exact ⟨ret_bool (by rw [unhide HC, drop_all s k (by omega)]; rfl), unhide HW0⟩
  · go_enter Tryz.func68, Tryz.ntmps68
    go_wp2
    go_ret
    exact ⟨ret_bool (by simp [handB, hn]), 0, rfl⟩

theorem cellB_alt (c : Int) : cellB c = (decide (c = 46) || capB c || smallB c) := rfl

/-- All of the position but its cells. -/
def headB (W H : Int) (n : Nat) (T : Int) (A B : List UInt8) : Bool :=
  sideB W && sideB H && decide ((n : Int) = W * H) && (decide (T = 0) || decide (T = 1)) && handB A && handB B
theorem posB_alt (W H : Int) (C : List UInt8) (T : Int) (A B : List UInt8) : posB W H C T A B = (headB W H C.length T A B && cellsB C) := by
  unfold posB headB
  cases sideB W <;> cases sideB H <;> cases decide ((C.length : Int) = W * H) <;> cases cellsB C <;> cases (decide (T = 0) || decide (T = 1)) <;> cases handB A <;> cases handB B <;> rfl

set_option maxHeartbeats 2000000 in
theorem refPosition_head (W H T : Int) (C A B : ByteArray) (w : World) (hA : A.size ≤ maxLen) (hB : B.size ≤ maxLen) (h : headB W H C.size T A.data.toList B.data.toList = false) :
    Calls Tryz.prog 33 #[.agg #[.int .i64 W, .int .i64 H, .string C, .int .i64 T, .string A, .string B]] w fun e w' => e = .returned (.bool false) ∧ Below w.heap.size w w' := by
  have HH := hide h
  clear h
  go_enter Tryz.func33, Tryz.ntmps33
  go_wp2_with (go_at_call 68; refine (refHand_any _ _ ?_).mono ?_; assumption; rintro e w' ⟨rfl, n, rfl⟩)
  all_goals first
    | (exfalso; have hw := wrapWH W H; have h := unhide HH; simp_all [headB, sideB]; done)
    | go_ret
  all_goals refine ⟨rfl, ?_⟩
  all_goals first
    | exact (Below.refl _ _).alloc (Nat.le_refl _) _
    | exact below_drewN ((Below.refl _ _).alloc (Nat.le_refl _) _) _
    | exact below_drewN (below_drewN ((Below.refl _ _).alloc (Nat.le_refl _) _) _) _

end Go.Proofs.YtbnohmnbhnineabGreatDoor

namespace Go.Proofs.YtbnohmnbhnineabGreatDoor
open Go.RowKit
attribute [local go_sem ↓] Go.wp_at_zero Go.wp_at_succ

theorem rAbs_any (n : Int) (w : World) (hn : -1000 ≤ n ∧ n ≤ 1000) :
    Calls Tryz.prog 96 #[.int .i64 n] w fun e w' => e = .returned (.int .i64 (n.natAbs : Nat)) ∧ w' = w := by
  by_cases h : n < 0
  · have e : ((n.natAbs : Nat) : Int) = -n := by omega
    rw [e]
    clear e
    go_enter Tryz.func96, Tryz.ntmps96
    go_wp2
    go_ret
    exact ⟨rfl, rfl⟩
  · have e : ((n.natAbs : Nat) : Int) = n := by omega
    rw [e]
    clear e
    go_enter Tryz.func96, Tryz.ntmps96
    go_wp2
    go_ret
    exact ⟨rfl, rfl⟩
/-- Whose is a byte? 2: nobody's. -/
def rownI (c : Int) : Int := if capB c then 0 else if smallB c then 1 else 2
theorem rOwner_any (c : Int) (w : World) :
    Calls Tryz.prog 69 #[.int .u8 c] w fun e w' => e = .returned (.int .i64 (rownI c)) ∧ w' = w := by
  have HB := hide (fun u => Big_any c u)
  have HS := hide (fun u => Small_any c u)
  obtain ⟨R, hR⟩ : ∃ R, R = rownI c := ⟨_, rfl⟩
  rw [← hR]
  unfold rownI at hR
  have HR := hide hR
  clear hR
  generalize capB c = b at *
  generalize smallB c = s at *
  cases b with
  | true =>
    go_enter Tryz.func69, Tryz.ntmps69
    go_wp2_with fail
    refine (unhide HB _).mono ?_
    rintro e w1 ⟨rfl, rfl⟩
    go_wp2
    go_ret
    exact ⟨by rw [unhide HR]; rfl, rfl⟩
  | false =>
    cases s with
    | true =>
      go_enter Tryz.func69, Tryz.ntmps69
      go_wp2_with fail
      refine (unhide HB _).mono ?_
      rintro e w1 ⟨rfl, rfl⟩
      go_wp2_with fail
      refine (unhide HS _).mono ?_
      rintro e w1 ⟨rfl, rfl⟩
      go_wp2
      go_ret
      exact ⟨by rw [unhide HR]; rfl, rfl⟩
    | false =>
      go_enter Tryz.func69, Tryz.ntmps69
      go_wp2_with fail
      refine (unhide HB _).mono ?_
      rintro e w1 ⟨rfl, rfl⟩
      go_wp2_with fail
      refine (unhide HS _).mono ?_
      rintro e w1 ⟨rfl, rfl⟩
      go_wp2
      go_ret
      exact ⟨by rw [unhide HR]; rfl, rfl⟩
/-- The byte of a piece of a player. -/
theorem rMark_0 (c : UInt8) (w : World) :
    Calls Tryz.prog 37 #[.int .u8 (c.toNat : Int), .int .i64 0] w fun e w' => e = .returned (.string ⟨#[c]⟩) ∧ Below w.heap.size w w' := by
  have hcv := conv1r w c
  go_enter Tryz.func37, Tryz.ntmps37
  go_wp2
  go_ret
  exact ⟨rfl, (Below.refl _ w).alloc (Nat.le_refl _) _⟩
theorem rMark_1 (c x : UInt8) (w : World) (hx : c.toNat + 32 = x.toNat) :
    Calls Tryz.prog 37 #[.int .u8 (c.toNat : Int), .int .i64 1] w fun e w' => e = .returned (.string ⟨#[x]⟩) ∧ Below w.heap.size w w' := by
  have hcv := conv1r w x
  have h8 := x.toNat_lt
  have hxi : (c.toNat : Int) + 32 = (x.toNat : Int) := by omega
  go_enter Tryz.func37, Tryz.ntmps37
  go_wp2
  go_ret
  exact ⟨rfl, (Below.refl _ w).alloc (Nat.le_refl _) _⟩
end Go.Proofs.YtbnohmnbhnineabGreatDoor

namespace Go.Proofs.YtbnohmnbhnineabGreatDoor
open Go.RowKit
attribute [local go_sem ↓] Go.wp_at_zero Go.wp_at_succ

theorem let_cap : ∀ c : Nat, c < 256 → capB (c : Int) = true → letN 1 c = c + 32 ∧ letN 0 c = c ∧ c + 32 < 256 := by decide +kernel
theorem rMarkN (P c : Nat) (w : World) (hP : P ≤ 1) (hc : c < 256) (hcap : capB (c : Int) = true) :
    Calls Tryz.prog 37 #[.int .u8 (c : Int), .int .i64 (P : Int)] w fun e w' => e = .returned (.string ⟨#[(letN P c).toUInt8]⟩) ∧ Below w.heap.size w w' := by
  obtain ⟨h1, h0, h32⟩ := let_cap c hc hcap
  have e : c.toUInt8.toNat = c := u8_back hc
  rcases (by omega : P = 0 ∨ P = 1) with rfl | rfl
  · have := rMark_0 c.toUInt8 w
    rw [e] at this
    rw [h0]; exact this
  · have := rMark_1 c.toUInt8 (c + 32).toUInt8 w (by rw [e, u8_back h32])
    rw [e] at this
    rw [h1]; exact this
end Go.Proofs.YtbnohmnbhnineabGreatDoor
