/-
  package gameref, walked: Ends, Moves.
-/
import Derived.Test.YtihojhfpepbjhaaGreatDoorV31
import Derived.Test.YtihojhfpepbjhaaGreatDoorV32b
import Derived.Test.YtihojhfpepbjhaaGreatDoorJ12
import Derived.Test.YtihojhfpepbjhaaGreatDoorV29
namespace Go.Proofs.YtihojhfpepbjhaaGreatDoor
open Go.RowKit
attribute [local go_sem ↓] Go.wp_at_zero Go.wp_at_succ

theorem rEvery_any (W H T : Nat) (C A B : ByteArray) (W0 H0 T0 : Int) (C0 A0 B0 : ByteArray) (ao : Option Addr) (cap : Nat) (ps : List Pc) (dr st : Bool) (lo re : Nat) (li pl : Int) (w : World) (hps : isPcs w ao cap ps) (hok : ∀ p ∈ ps, ∀ z ∈ p.ws, z.ok = true) (hT : T ≤ 1) (hA : A.size ≤ 8) (hB : B.size ≤ 8) (hW : 1 ≤ W ∧ W ≤ 8) (hH : 1 ≤ H ∧ H ≤ 8) (hC : C.size = W * H)
    (hcell : ∀ c, c < W * H → cellB (cellN C c : Nat) = true ∧ cellN C c < 256) (hlet : ∀ c, c < W * H → cellN C c ≠ 46 → 0 ≤ idxF ps (upN (cellN C c)) 0 ∧ lowN (cellN C c) = upN (cellN C c)) :
    Calls Tryz.prog 107 #[.agg #[.int .i64 W0, .int .i64 H0, .string C0, .int .i64 T0, .string A0, .string B0, .slice ao ps.length cap, .bool dr, .int .u8 (lo : Int), .int .i64 li, .int .u8 (re : Int), .bool st, .int .i64 pl], .agg #[.int .i64 (W : Int), .int .i64 (H : Int), .string C, .int .i64 (T : Int), .string A, .string B]] w fun e w' => ∃ v, e = .returned v ∧ w'.ownsRow w.heap.size 61 3 v (possL W H T C A B ps dr).length (mvals (possL W H T C A B ps dr)) ∧ Below w.heap.size w w' := by
  cases dr
  · exact rEvery_0 W H T C A B W0 H0 T0 C0 A0 B0 ao cap ps st lo re li pl w hps hok hT hA hB hW hH hC hcell hlet
  · exact rEvery_1 W H T C A B W0 H0 T0 C0 A0 B0 ao cap ps st lo re li pl w hps hok hT hA hB hW hH hC hcell hlet
/-- The last row of a player, as a text. -/
def rowS (W P : Nat) (C : ByteArray) : ByteArray := if P = 1 then C.extract 0 W else C.extract (C.size - W) C.size
theorem rowS_data (W P : Nat) (C : ByteArray) : (rowS W P C).data.toList = lastR W P C := by
  unfold rowS lastR
  split
  · rw [Lib.extract_data]; simp
  · rw [Lib.extract_data, List.take_of_length_le (by rw [List.length_drop, len_data]; omega)]
/-- The two rows in a box. -/
def isRb (w : World) (b : Nat) (X Y : ByteArray) : Prop := w.heap[b]? = some (.cells #[.string X, .string Y] 22 (0, 0))
theorem isRb.at {w : World} {b : Nat} {W : Nat} {C : ByteArray} (h : isRb w b (rowS W 0 C) (rowS W 1 C)) (P : Nat) (hP : P ≤ 1) : w.cell? ⟨b, P, none⟩ = some (.string (rowS W P C)) := by
  unfold isRb at h
  rcases (by omega : P = 0 ∨ P = 1) with rfl | rfl <;> simp [World.cell?, h]
theorem isRb.below {w w' : World} {b B : Nat} {X Y : ByteArray} (h : isRb w b X Y) (hh : Below B w w') (hb : b < B) : isRb w' b X Y := by
  unfold isRb at h ⊢; rw [hh.block b hb]; exact h
theorem isRb.lt {w : World} {b : Nat} {X Y : ByteArray} (h : isRb w b X Y) : b < w.heap.size := (Array.getElem?_eq_some_iff.1 h).1
set_option maxHeartbeats 8000000 in
set_option maxRecDepth 100000 in
theorem rEnds_any (W H T : Nat) (C A B : ByteArray) (W0 H0 T0 : Int) (C0 A0 B0 : ByteArray) (ao : Option Addr) (cap : Nat) (ps : List Pc) (dr st : Bool) (lo re : Nat) (li pl : Int) (w : World) (hps : isPcs w ao cap ps) (hok : ∀ p ∈ ps, ∀ z ∈ p.ws, z.ok = true) (hT : T ≤ 1) (hA : A.size ≤ 8) (hB : B.size ≤ 8) (hW : 1 ≤ W ∧ W ≤ 8) (hH : 1 ≤ H ∧ H ≤ 8) (hC : C.size = W * H)
    (hcell : ∀ c, c < W * H → cellB (cellN C c : Nat) = true ∧ cellN C c < 256) (hlet : ∀ c, c < W * H → cellN C c ≠ 46 → 0 ≤ idxF ps (upN (cellN C c)) 0 ∧ lowN (cellN C c) = upN (cellN C c))
    (hlo8 : lo < 256) (hre8 : re < 256) (hloc : lo ≠ 0 → capB (lo : Int) = true) (hrec : re ≠ 0 → capB (re : Int) = true) (hli : li = 0 ∨ (2 ≤ li ∧ li ≤ 8)) :
    Calls Tryz.prog 77 #[.agg #[.int .i64 W0, .int .i64 H0, .string C0, .int .i64 T0, .string A0, .string B0, .slice ao ps.length cap, .bool dr, .int .u8 (lo : Int), .int .i64 li, .int .u8 (re : Int), .bool st, .int .i64 pl], .agg #[.int .i64 (W : Int), .int .i64 (H : Int), .string C, .int .i64 (T : Int), .string A, .string B]] w fun e w' => e = .returned (.int .i64 (outO W H T C A B ps dr st lo li re)) ∧ Below w.heap.size w w' := by
  obtain ⟨n, hn⟩ : ∃ n, n = ps.length := ⟨_, rfl⟩
  have h64 : W * H ≤ 64 := Nat.mul_le_mul hW.2 hH.2
  have hWC : W ≤ C.size := by rw [hC]; exact Nat.le_mul_of_pos_right _ (by omega)
  have hEV := fun u (hb : Below w.heap.size w u) => rEvery_any W H T C A B W0 H0 T0 C0 A0 B0 ao cap ps dr st lo re li pl u (hps.below hb (Nat.le_refl _)) hok hT hA hB hW hH hC hcell hlet
  rw [← hn]
  simp only [← hn] at hEV
  obtain ⟨U, hU⟩ : ∃ U : Nat, U = 1 - T := ⟨_, rfl⟩
  have hTi : (1 : Int) - (T : Int) = (U : Int) := by omega
  obtain ⟨R, hR⟩ : ∃ R, R = outO W H T C A B ps dr st lo li re := ⟨_, rfl⟩
  rw [← hR]
  obtain ⟨PL, hPL⟩ : ∃ PL, PL = possL W H T C A B ps dr := ⟨_, rfl⟩
  rw [← hPL] at hEV
  obtain ⟨e1, he1⟩ : ∃ e1, e1 = (decide (lo ≠ 0) && !hasN C.data.toList (letN T lo)) := ⟨_, rfl⟩
  obtain ⟨e2, he2⟩ : ∃ e2, e2 = (decide (lo ≠ 0) && !hasN C.data.toList (letN U lo)) := ⟨_, rfl⟩
  obtain ⟨e3, he3⟩ : ∃ e3, e3 = (decide (li ≠ 0) && hasLineB W H U C li) := ⟨_, rfl⟩
  obtain ⟨e4, he4⟩ : ∃ e4, e4 = (decide (li ≠ 0) && hasLineB W H T C li) := ⟨_, rfl⟩
  obtain ⟨e5, he5⟩ : ∃ e5, e5 = (decide (re ≠ 0) && hasN (lastR W U C) (letN U re)) := ⟨_, rfl⟩
  obtain ⟨e6, he6⟩ : ∃ e6, e6 = (decide (re ≠ 0) && hasN (lastR W T C) (letN T re)) := ⟨_, rfl⟩
  have hRR : R = if e1 then (U : Int) + 1 else if e2 then (T : Int) + 1 else if e3 then (U : Int) + 1 else if e4 then (T : Int) + 1 else if e5 then (U : Int) + 1 else if e6 then (T : Int) + 1 else if PL.length = 0 then (if st then (U : Int) + 1 else 3) else 0 := by
    have w1 : wonI (1 - (T : Int)) = (U : Int) + 1 := by unfold wonI; split <;> omega
    have w2 : wonI (T : Int) = (T : Int) + 1 := by unfold wonI; split <;> omega
    rw [hR, hPL, he1, he2, he3, he4, he5, he6]
    unfold outO decO
    rw [w1, w2, ← hU]
    simp only [Bool.and_eq_true, decide_eq_true_eq, Bool.not_eq_true']
    by_cases q : (lo ≠ 0 ∧ hasN C.data.toList (letN T lo) = false)
    · rw [if_pos q, if_neg (show ¬ (U : Int) + 1 = 0 by omega), if_pos q]
    rw [if_neg q, if_neg q]
    clear q
    by_cases q : (lo ≠ 0 ∧ hasN C.data.toList (letN U lo) = false)
    · rw [if_pos q, if_neg (show ¬ (T : Int) + 1 = 0 by omega), if_pos q]
    rw [if_neg q, if_neg q]
    clear q
    by_cases q : (li ≠ 0 ∧ hasLineB W H U C li = true)
    · rw [if_pos q, if_neg (show ¬ (U : Int) + 1 = 0 by omega), if_pos q]
    rw [if_neg q, if_neg q]
    clear q
    by_cases q : (li ≠ 0 ∧ hasLineB W H T C li = true)
    · rw [if_pos q, if_neg (show ¬ (T : Int) + 1 = 0 by omega), if_pos q]
    rw [if_neg q, if_neg q]
    clear q
    by_cases q : (re ≠ 0 ∧ hasN (lastR W U C) (letN U re) = true)
    · rw [if_pos q, if_neg (show ¬ (U : Int) + 1 = 0 by omega), if_pos q]
    rw [if_neg q, if_neg q]
    clear q
    by_cases q : (re ≠ 0 ∧ hasN (lastR W T C) (letN T re) = true)
    · rw [if_pos q, if_neg (show ¬ (T : Int) + 1 = 0 by omega), if_pos q]
    rw [if_neg q, if_neg q]
    clear q
    rw [if_pos rfl]
  have HRR := hide hRR
  have HE1 := hide he1
  have HE2 := hide he2
  have HE3 := hide he3
  have HE4 := hide he4
  have HE5 := hide he5
  have HE6 := hide he6
  have HEV := hide hEV
  have HLOC := hide hloc
  have HREC := hide hrec
  have HLI := hide hli
  have hLN := fun (P : Nat) (hP : P ≤ 1) (u : World) (hl0 : li ≠ 0) => (show Calls Tryz.prog 112 #[.agg #[.int .i64 (W : Int), .int .i64 (H : Int), .string C, .int .i64 (T : Int), .string A, .string B], .int .i64 (P : Int), .int .i64 li] u fun e w' => e = .returned (.bool (hasLineB W H P C li)) ∧ Below u.heap.size u w' from by
    obtain ⟨l, rfl⟩ : ∃ l : Nat, li = l := ⟨li.toNat, by omega⟩
    rw [lined_eq hP hW.1 (by omega) hcell]
    exact rLined_any W H P l T C A B u hW hH hC (by omega))
  have HLN := hide hLN
  have hU1 : U ≤ 1 := by omega
  have hU2 : (U : Int) < 2 := by omega
  have hT2 : (T : Int) < 2 := by omega
  have hU3 : U < 2 := by omega
  have hT3 : T < 2 := by omega
  have hPLl : PL.length ≤ 4608 := by rw [hPL]; exact possL_len hA hB (by omega)
  clear hU
  clear hR hRR hPL he1 he2 he3 he4 he5 he6 hEV hloc hrec hli hcell hlet hps hok hn hLN
  obtain ⟨w1, hw1⟩ : ∃ w1, w1 = w.alloc (.cells #[.int .i64 W0, .int .i64 H0, .string C0, .int .i64 T0, .string A0, .string B0, .slice ao n cap, .bool dr, .int .u8 (lo : Int), .int .i64 li, .int .u8 (re : Int), .bool st, .int .i64 pl] 27 (0, 0)) := ⟨_, rfl⟩
  obtain ⟨w2, hw2⟩ : ∃ w2, w2 = w1.alloc (.cells #[.int .i64 (W : Int), .int .i64 (H : Int), .string C, .int .i64 (T : Int), .string A, .string B] 24 (0, 0)) := ⟨_, rfl⟩
  have hb1 : Below w.heap.size w w1 := by rw [hw1]; exact (Below.refl _ _).alloc (Nat.le_refl _) _
  have hb2 : Below w1.heap.size w1 w2 := by rw [hw2]; exact (Below.refl _ _).alloc (Nat.le_refl _) _
  have s1 : w1.heap.size = w.heap.size + 1 := by rw [hw1]; simp
  have hru : isRu w2 w.heap.size (.int .i64 W0) (.int .i64 H0) (.string C0) (.int .i64 T0) (.string A0) (.string B0) (.slice ao n cap) (.bool dr) (.int .u8 (lo : Int)) (.int .i64 li) (.int .u8 (re : Int)) (.bool st) (.int .i64 pl) := isRu.below (show isRu w1 w.heap.size (.int .i64 W0) (.int .i64 H0) (.string C0) (.int .i64 T0) (.string A0) (.string B0) (.slice ao n cap) (.bool dr) (.int .u8 (lo : Int)) (.int .i64 li) (.int .u8 (re : Int)) (.bool st) (.int .i64 pl) by rw [hw1]; exact heap_alloc_new w _) hb2 (by omega)
  have hpb : isPb w2 (w.heap.size + 1) W H T C A B := by rw [hw2, ← s1]; exact heap_alloc_new w1 _
  have hbw := hb1.trans (hb2.mono (by omega))
  have hsz2 : w.heap.size + 2 = w2.heap.size := by rw [hw2]; simp [s1]
  obtain ⟨p0, p1, p2, p3, p4, p5⟩ := hpb.all
  have HBW := hide hbw
  have HPB := hide hpb
  have HRU := hide hru
  obtain ⟨D, hD⟩ : ∃ D, D = C.size - W := ⟨_, rfl⟩
  have hDi : (C.size : Int) - (W : Int) = (D : Int) := by omega
  have hDl : D ≤ C.size := by omega
  have hWi : (W : Int) ≤ (C.size : Int) := by omega
  have hDi2 : (D : Int) ≤ (C.size : Int) := by omega
  have hDw : IntKind.i64.wrap (D : Int) = (D : Int) := by unfold IntKind.wrap; simp [IntKind.signed, IntKind.bits]; omega
  have hC64 : (C.size : Int) ≤ 64 := by omega
  have hr0 : rowS W 0 C = C.extract D C.size := by unfold rowS; rw [if_neg (by omega), hD]
  have hr1 : rowS W 1 C = C.extract 0 W := by unfold rowS; rw [if_pos rfl]
  have HR0 := hide hr0
  have HR1 := hide hr1
  clear hb1 hb2 s1 hbw hpb hru hr0 hr1 hD hC
  go_enter Tryz.func77, Tryz.ntmps77
  go_wp2_with fail
  rw [← hw1, ← hw2]
  clear hw1 hw2
  go_quiet (fail)
  go_wp2_with fail
  have hpb : isPb (w2.drewN nq) (w.heap.size + 1) W H T C A B := unhide HPB
  have hru : isRu (w2.drewN nq) w.heap.size (.int .i64 W0) (.int .i64 H0) (.string C0) (.int .i64 T0) (.string A0) (.string B0) (.slice ao n cap) (.bool dr) (.int .u8 (lo : Int)) (.int .i64 li) (.int .u8 (re : Int)) (.bool st) (.int .i64 pl) := unhide HRU
  have hbw : Below w.heap.size w (w2.drewN nq) := ⟨(unhide HBW).os, (unhide HBW).tape, (unhide HBW).output, (unhide HBW).size, (unhide HBW).block⟩
  clear HPB HRU HBW p0 p1 p2 p3 p4 p5 hsz2
  generalize w2.drewN nq = wr at *
  have HPB := hide hpb
  have HRU := hide hru
  have HBW := hide hbw
  have hHS : ∀ u, Below wr.heap.size wr u → (u.cell? ⟨w.heap.size + 1, 0, none⟩ = some (.int .i64 (W : Int)) ∧ u.cell? ⟨w.heap.size + 1, 2, none⟩ = some (.string C) ∧ Below wr.heap.size wr u) := fun u hu =>
    ⟨(hpb.below hu hpb.lt).all.1, (hpb.below hu hpb.lt).all.2.2.1, hu⟩
  have HS := hide hHS
  have HB0 : Hid (Below wr.heap.size wr wr.drew) := hide (Below.refl _ _).drew
  have HBA : Hid (∀ o, Below wr.heap.size wr (wr.drew.alloc o)) := hide fun o => (unhide HB0).alloc (unhide HB0).size o
  clear hHS hpb hru hbw
  go_region_held3 (fun u => u.cell? ⟨w.heap.size + 1, 0, none⟩ = some (.int .i64 (W : Int)) ∧ u.cell? ⟨w.heap.size + 1, 2, none⟩ = some (.string C) ∧ Below wr.heap.size wr u)
    (first
      | exact unhide HS _ (unhide HB0)
      | exact unhide HS _ (unhide HBA _))
    (fail)
  obtain ⟨rb, hrbe⟩ : ∃ rb, rb = wr.heap.size := ⟨_, rfl⟩
  have hrb0 : isRb (wr.alloc (.cells #[.string (C.extract D C.size), .string (C.extract 0 W)] 22 (0, 0))).drew rb (rowS W 0 C) (rowS W 1 C) := by
    rw [unhide HR0, unhide HR1, hrbe]
    exact heap_alloc_new wr _
  have hbx : Below wr.heap.size wr (wr.alloc (.cells #[.string (C.extract D C.size), .string (C.extract 0 W)] 22 (0, 0))).drew := ((Below.refl _ wr).alloc (Nat.le_refl _) _).drew
  have hpb := (unhide HPB).below hbx (unhide HPB).lt
  have hru := (unhide HRU).below hbx (unhide HRU).lt
  have hbw := (unhide HBW).trans (hbx.mono (unhide HBW).size)
  rw [← hrbe]
  clear HPB HRU HBW HS HB0 HBA hbx HR0 HR1 hrbe
  generalize (wr.alloc (.cells #[.string (C.extract D C.size), .string (C.extract 0 W)] 22 (0, 0))).drew = wq at *
  obtain ⟨wr, rfl⟩ : ∃ wr, wr = wq := ⟨_, rfl⟩
  have HPB := hide hpb
  have HRU := hide hru
  have HBW := hide hbw
  have HRB := hide hrb0
  clear hpb hru hbw hrb0
  obtain ⟨r0, r1, r2, r3, r4, r5, r6, r7, r8, r9, r10, r11, r12⟩ := (unhide HRU).cells
  obtain ⟨p0, p1, p2, p3, p4, p5⟩ := (unhide HPB).all
  have rw0 := (unhide HRB).at T hT
  have rw1 := (unhide HRB).at U (by omega)
  have hHS : ∀ u, Below wr.heap.size wr u → (u.cell? ⟨w.heap.size, 8, none⟩ = some (.int .u8 (lo : Int)) ∧ u.cell? ⟨w.heap.size + 1, 2, none⟩ = some (.string C) ∧ u.cell? ⟨rb, T, none⟩ = some (.string (rowS W T C)) ∧ u.cell? ⟨rb, U, none⟩ = some (.string (rowS W U C)) ∧ Below wr.heap.size wr u) := fun u hu =>
    ⟨((unhide HRU).below hu (unhide HRU).lt).cells.2.2.2.2.2.2.2.2.1, ((unhide HPB).below hu (unhide HPB).lt).all.2.2.1, ((unhide HRB).below hu (unhide HRB).lt).at T hT, ((unhide HRB).below hu (unhide HRB).lt).at U (by omega), hu⟩
  have HS := hide hHS
  have HB0 : Hid (Below wr.heap.size wr wr.drew) := hide (Below.refl _ _).drew
  clear hHS
  go_upto_region 3 with fail
  go_cut [28] from 29 to 41 (fun v wz => v = .bool e1 ∧ Below wr.heap.size wr wz)
  case first =>
    by_cases h0 : lo = 0
    · have hb0 : decide ((0 : Int) < (lo : Int)) = false := by simp; omega
      have hb0' : decide (0 < lo) = false := by simp; omega
      have HE : Hid (e1 = false) := hide (by rw [unhide HE1]; simp [h0])
      clear h0
      go_quiet (fail)
      go_wp2
      go_meet
      case rel => exact ⟨by rw [unhide HE], ⟨rfl, rfl, rfl, Nat.le_refl _, fun _ _ => rfl⟩⟩
    · have hb0 : decide ((0 : Int) < (lo : Int)) = true := by simp; omega
      have hb0' : decide (0 < lo) = true := by simp; omega
      have h0i : (0 : Int) < (lo : Int) := by omega
      have HMK := hide (fun u => rMarkN T lo u (by omega) hlo8 ((unhide HLOC) h0))
      have HCT := hide (fun u => Tryz.strings_Contains_one C (letN T lo).toUInt8 u)
      have hcv : decide (0 ≤ Lib.indexByte (C).data.toList (letN T lo).toUInt8) = hasN (C.data.toList) (letN T lo) := by rfl
      rw [hcv] at HCT
      obtain ⟨hs, hhs⟩ : ∃ hs, hs = hasN (C.data.toList) (letN T lo) := ⟨_, rfl⟩
      rw [← hhs] at HCT
      have HE := hide (show e1 = _ from by rw [unhide HE1, ← hhs])
      clear hcv hhs r0 r1 r2 r3 r4 r5 r6 r7 r8 r9 r10 r11 r12 p0 p1 p2 p3 p4 p5 rw0 rw1
      go_region_held3 (fun u => u.cell? ⟨w.heap.size, 8, none⟩ = some (.int .u8 (lo : Int)) ∧ u.cell? ⟨w.heap.size + 1, 2, none⟩ = some (.string C) ∧ u.cell? ⟨rb, T, none⟩ = some (.string (rowS W T C)) ∧ u.cell? ⟨rb, U, none⟩ = some (.string (rowS W U C)) ∧ Below wr.heap.size wr u)
        (first
          | exact unhide HS _ (unhide HB0)
          | exact unhide HS _ ((unhide HB0).trans (hb.mono (unhide HB0).size)))
        (first
          | (go_at_call 110; (refine (unhide HMK _).mono ?_); rintro e wm ⟨rfl, hb⟩)
          | (go_at_call 111; (refine (unhide HCT _).mono ?_); rintro e wn ⟨rfl, rfl⟩))
      all_goals
        go_wp2
        go_meet
        case rel => exact ⟨by rw [unhide HE]; simp [h0], (unhide HB0).trans (hb.mono (unhide HB0).size)⟩
  case' rest =>
    obtain ⟨rfl, hbn⟩ := hcut
    clear r0 r1 r2 r3 r4 r5 r6 r7 r8 r9 r10 r11 r12 p0 p1 p2 p3 p4 p5 rw0 rw1 HS HB0
    have hpb := (unhide HPB).below hbn (unhide HPB).lt
    have hru := (unhide HRU).below hbn (unhide HRU).lt
    have hrb := (unhide HRB).below hbn (unhide HRB).lt
    have hbw := (unhide HBW).trans ((hbn).mono (unhide HBW).size)
    clear HPB HRU HRB HBW
    have HPB := hide hpb
    have HRU := hide hru
    have HRB := hide hrb
    have HBW := hide hbw
    clear hpb hru hrb hbw
    clear hbn
    obtain ⟨wr, rfl⟩ : ∃ wr, wr = wc := ⟨_, rfl⟩
  cases e1 with
  | true =>
    go_wp2
    go_ret
    exact ⟨ret_int (by rw [unhide HRR]; simp), unhide HBW⟩
  | false =>
    obtain ⟨r0, r1, r2, r3, r4, r5, r6, r7, r8, r9, r10, r11, r12⟩ := (unhide HRU).cells
    obtain ⟨p0, p1, p2, p3, p4, p5⟩ := (unhide HPB).all
    have rw0 := (unhide HRB).at T hT
    have rw1 := (unhide HRB).at U (by omega)
    have hHS : ∀ u, Below wr.heap.size wr u → (u.cell? ⟨w.heap.size, 8, none⟩ = some (.int .u8 (lo : Int)) ∧ u.cell? ⟨w.heap.size + 1, 2, none⟩ = some (.string C) ∧ u.cell? ⟨rb, T, none⟩ = some (.string (rowS W T C)) ∧ u.cell? ⟨rb, U, none⟩ = some (.string (rowS W U C)) ∧ Below wr.heap.size wr u) := fun u hu =>
      ⟨((unhide HRU).below hu (unhide HRU).lt).cells.2.2.2.2.2.2.2.2.1, ((unhide HPB).below hu (unhide HPB).lt).all.2.2.1, ((unhide HRB).below hu (unhide HRB).lt).at T hT, ((unhide HRB).below hu (unhide HRB).lt).at U (by omega), hu⟩
    have HS := hide hHS
    have HB0 : Hid (Below wr.heap.size wr wr.drew) := hide (Below.refl _ _).drew
    clear hHS
    go_upto_region 5 with fail
    go_cut [44] from 45 to 57 (fun v wz => v = .bool e2 ∧ Below wr.heap.size wr wz)
    case first =>
      by_cases h0 : lo = 0
      · have hb0 : decide ((0 : Int) < (lo : Int)) = false := by simp; omega
        have hb0' : decide (0 < lo) = false := by simp; omega
        have HE : Hid (e2 = false) := hide (by rw [unhide HE2]; simp [h0])
        clear h0
        go_quiet (fail)
        go_wp2
        go_meet
        case rel => exact ⟨by rw [unhide HE], ⟨rfl, rfl, rfl, Nat.le_refl _, fun _ _ => rfl⟩⟩
      · have hb0 : decide ((0 : Int) < (lo : Int)) = true := by simp; omega
        have hb0' : decide (0 < lo) = true := by simp; omega
        have h0i : (0 : Int) < (lo : Int) := by omega
        have HMK := hide (fun u => rMarkN U lo u (by omega) hlo8 ((unhide HLOC) h0))
        have HCT := hide (fun u => Tryz.strings_Contains_one C (letN U lo).toUInt8 u)
        have hcv : decide (0 ≤ Lib.indexByte (C).data.toList (letN U lo).toUInt8) = hasN (C.data.toList) (letN U lo) := by rfl
        rw [hcv] at HCT
        obtain ⟨hs, hhs⟩ : ∃ hs, hs = hasN (C.data.toList) (letN U lo) := ⟨_, rfl⟩
        rw [← hhs] at HCT
        have HE := hide (show e2 = _ from by rw [unhide HE2, ← hhs])
        clear hcv hhs r0 r1 r2 r3 r4 r5 r6 r7 r8 r9 r10 r11 r12 p0 p1 p2 p3 p4 p5 rw0 rw1
        go_region_held3 (fun u => u.cell? ⟨w.heap.size, 8, none⟩ = some (.int .u8 (lo : Int)) ∧ u.cell? ⟨w.heap.size + 1, 2, none⟩ = some (.string C) ∧ u.cell? ⟨rb, T, none⟩ = some (.string (rowS W T C)) ∧ u.cell? ⟨rb, U, none⟩ = some (.string (rowS W U C)) ∧ Below wr.heap.size wr u)
          (first
            | exact unhide HS _ (unhide HB0)
            | exact unhide HS _ ((unhide HB0).trans (hb.mono (unhide HB0).size)))
          (first
            | (go_at_call 110; (refine (unhide HMK _).mono ?_); rintro e wm ⟨rfl, hb⟩)
            | (go_at_call 111; (refine (unhide HCT _).mono ?_); rintro e wn ⟨rfl, rfl⟩))
        all_goals
          go_wp2
          go_meet
          case rel => exact ⟨by rw [unhide HE]; simp [h0], (unhide HB0).trans (hb.mono (unhide HB0).size)⟩
    case' rest =>
      obtain ⟨rfl, hbn⟩ := hcut
      clear r0 r1 r2 r3 r4 r5 r6 r7 r8 r9 r10 r11 r12 p0 p1 p2 p3 p4 p5 rw0 rw1 HS HB0
      have hpb := (unhide HPB).below hbn (unhide HPB).lt
      have hru := (unhide HRU).below hbn (unhide HRU).lt
      have hrb := (unhide HRB).below hbn (unhide HRB).lt
      have hbw := (unhide HBW).trans ((hbn).mono (unhide HBW).size)
      clear HPB HRU HRB HBW
      have HPB := hide hpb
      have HRU := hide hru
      have HRB := hide hrb
      have HBW := hide hbw
      clear hpb hru hrb hbw
      clear hbn
      obtain ⟨wr, rfl⟩ : ∃ wr, wr = wc := ⟨_, rfl⟩
    cases e2 with
    | true =>
      go_wp2
      go_ret
      exact ⟨ret_int (by rw [unhide HRR]; simp), unhide HBW⟩
    | false =>
      obtain ⟨r0, r1, r2, r3, r4, r5, r6, r7, r8, r9, r10, r11, r12⟩ := (unhide HRU).cells
      obtain ⟨p0, p1, p2, p3, p4, p5⟩ := (unhide HPB).all
      go_upto_region 7 with fail
      go_cut [60] from 61 to 70 (fun v wz => v = .bool e3 ∧ Below wr.heap.size wr wz)
      case first =>
        by_cases h0 : li = 0
        · have hb0 : ¬ (0 : Int) < li := by omega
          have HE : Hid (e3 = false) := hide (by rw [unhide HE3]; simp [h0])
          clear h0
          go_wp2
          go_meet
          case rel => exact ⟨by rw [unhide HE], Below.refl _ _⟩
        · have hb0 : (0 : Int) < li := by have := unhide HLI; omega
          have HLL := hide (fun u => unhide HLN U (by omega) u h0)
          have HE : Hid (e3 = hasLineB W H U C li) := hide (by rw [unhide HE3]; simp [h0])
          clear h0
          go_wp2_with fail
          refine (unhide HLL _).mono ?_
          rintro e wm ⟨rfl, hb⟩
          go_wp2
          go_meet
          case rel => exact ⟨by rw [unhide HE], hb⟩
      case' rest =>
        obtain ⟨rfl, hbn⟩ := hcut
        clear r0 r1 r2 r3 r4 r5 r6 r7 r8 r9 r10 r11 r12 p0 p1 p2 p3 p4 p5
        have hpb := (unhide HPB).below hbn (unhide HPB).lt
        have hru := (unhide HRU).below hbn (unhide HRU).lt
        have hrb := (unhide HRB).below hbn (unhide HRB).lt
        have hbw := (unhide HBW).trans ((hbn).mono (unhide HBW).size)
        clear HPB HRU HRB HBW
        have HPB := hide hpb
        have HRU := hide hru
        have HRB := hide hrb
        have HBW := hide hbw
        clear hpb hru hrb hbw
        clear hbn
        obtain ⟨wr, rfl⟩ : ∃ wr, wr = wc := ⟨_, rfl⟩
      cases e3 with
      | true =>
        go_wp2
        go_ret
        exact ⟨ret_int (by rw [unhide HRR]; simp), unhide HBW⟩
      | false =>
        obtain ⟨r0, r1, r2, r3, r4, r5, r6, r7, r8, r9, r10, r11, r12⟩ := (unhide HRU).cells
        obtain ⟨p0, p1, p2, p3, p4, p5⟩ := (unhide HPB).all
        go_upto_region 9 with fail
        go_cut [73] from 74 to 83 (fun v wz => v = .bool e4 ∧ Below wr.heap.size wr wz)
        case first =>
          by_cases h0 : li = 0
          · have hb0 : ¬ (0 : Int) < li := by omega
            have HE : Hid (e4 = false) := hide (by rw [unhide HE4]; simp [h0])
            clear h0
            go_wp2
            go_meet
            case rel => exact ⟨by rw [unhide HE], Below.refl _ _⟩
          · have hb0 : (0 : Int) < li := by have := unhide HLI; omega
            have HLL := hide (fun u => unhide HLN T hT u h0)
            have HE : Hid (e4 = hasLineB W H T C li) := hide (by rw [unhide HE4]; simp [h0])
            clear h0
            go_wp2_with fail
            refine (unhide HLL _).mono ?_
            rintro e wm ⟨rfl, hb⟩
            go_wp2
            go_meet
            case rel => exact ⟨by rw [unhide HE], hb⟩
        case' rest =>
          obtain ⟨rfl, hbn⟩ := hcut
          clear r0 r1 r2 r3 r4 r5 r6 r7 r8 r9 r10 r11 r12 p0 p1 p2 p3 p4 p5
          have hpb := (unhide HPB).below hbn (unhide HPB).lt
          have hru := (unhide HRU).below hbn (unhide HRU).lt
          have hrb := (unhide HRB).below hbn (unhide HRB).lt
          have hbw := (unhide HBW).trans ((hbn).mono (unhide HBW).size)
          clear HPB HRU HRB HBW
          have HPB := hide hpb
          have HRU := hide hru
          have HRB := hide hrb
          have HBW := hide hbw
          clear hpb hru hrb hbw
          clear hbn
          obtain ⟨wr, rfl⟩ : ∃ wr, wr = wc := ⟨_, rfl⟩
        cases e4 with
        | true =>
          go_wp2
          go_ret
          exact ⟨ret_int (by rw [unhide HRR]; simp), unhide HBW⟩
        | false =>
          obtain ⟨r0, r1, r2, r3, r4, r5, r6, r7, r8, r9, r10, r11, r12⟩ := (unhide HRU).cells
          obtain ⟨p0, p1, p2, p3, p4, p5⟩ := (unhide HPB).all
          have rw0 := (unhide HRB).at T hT
          have rw1 := (unhide HRB).at U (by omega)
          have hHS : ∀ u, Below wr.heap.size wr u → (u.cell? ⟨w.heap.size, 10, none⟩ = some (.int .u8 (re : Int)) ∧ u.cell? ⟨w.heap.size + 1, 2, none⟩ = some (.string C) ∧ u.cell? ⟨rb, T, none⟩ = some (.string (rowS W T C)) ∧ u.cell? ⟨rb, U, none⟩ = some (.string (rowS W U C)) ∧ Below wr.heap.size wr u) := fun u hu =>
            ⟨((unhide HRU).below hu (unhide HRU).lt).cells.2.2.2.2.2.2.2.2.2.2.1, ((unhide HPB).below hu (unhide HPB).lt).all.2.2.1, ((unhide HRB).below hu (unhide HRB).lt).at T hT, ((unhide HRB).below hu (unhide HRB).lt).at U (by omega), hu⟩
          have HS := hide hHS
          have HB0 : Hid (Below wr.heap.size wr wr.drew) := hide (Below.refl _ _).drew
          clear hHS
          go_upto_region 11 with fail
          go_cut [86] from 87 to 99 (fun v wz => v = .bool e5 ∧ Below wr.heap.size wr wz)
          case first =>
            by_cases h0 : re = 0
            · have hb0 : decide ((0 : Int) < (re : Int)) = false := by simp; omega
              have hb0' : decide (0 < re) = false := by simp; omega
              have HE : Hid (e5 = false) := hide (by rw [unhide HE5]; simp [h0])
              clear h0
              go_quiet (fail)
              go_wp2
              go_meet
              case rel => exact ⟨by rw [unhide HE], ⟨rfl, rfl, rfl, Nat.le_refl _, fun _ _ => rfl⟩⟩
            · have hb0 : decide ((0 : Int) < (re : Int)) = true := by simp; omega
              have hb0' : decide (0 < re) = true := by simp; omega
              have h0i : (0 : Int) < (re : Int) := by omega
              have HMK := hide (fun u => rMarkN U re u (by omega) hre8 ((unhide HREC) h0))
              have HCT := hide (fun u => Tryz.strings_Contains_one (rowS W U C) (letN U re).toUInt8 u)
              have hcv : decide (0 ≤ Lib.indexByte ((rowS W U C)).data.toList (letN U re).toUInt8) = hasN (lastR W U C) (letN U re) := by rw [rowS_data]; rfl
              rw [hcv] at HCT
              obtain ⟨hs, hhs⟩ : ∃ hs, hs = hasN (lastR W U C) (letN U re) := ⟨_, rfl⟩
              rw [← hhs] at HCT
              have HE := hide (show e5 = _ from by rw [unhide HE5, ← hhs])
              clear hcv hhs r0 r1 r2 r3 r4 r5 r6 r7 r8 r9 r10 r11 r12 p0 p1 p2 p3 p4 p5 rw0 rw1
              go_region_held3 (fun u => u.cell? ⟨w.heap.size, 10, none⟩ = some (.int .u8 (re : Int)) ∧ u.cell? ⟨w.heap.size + 1, 2, none⟩ = some (.string C) ∧ u.cell? ⟨rb, T, none⟩ = some (.string (rowS W T C)) ∧ u.cell? ⟨rb, U, none⟩ = some (.string (rowS W U C)) ∧ Below wr.heap.size wr u)
                (first
                  | exact unhide HS _ (unhide HB0)
                  | exact unhide HS _ ((unhide HB0).trans (hb.mono (unhide HB0).size)))
                (first
                  | (go_at_call 110; (refine (unhide HMK _).mono ?_); rintro e wm ⟨rfl, hb⟩)
                  | (go_at_call 111; (refine (unhide HCT _).mono ?_); rintro e wn ⟨rfl, rfl⟩))
              all_goals
                go_wp2
                go_meet
                case rel => exact ⟨by rw [unhide HE]; simp [h0], (unhide HB0).trans (hb.mono (unhide HB0).size)⟩
          case' rest =>
            obtain ⟨rfl, hbn⟩ := hcut
            clear r0 r1 r2 r3 r4 r5 r6 r7 r8 r9 r10 r11 r12 p0 p1 p2 p3 p4 p5 rw0 rw1 HS HB0
            have hpb := (unhide HPB).below hbn (unhide HPB).lt
            have hru := (unhide HRU).below hbn (unhide HRU).lt
            have hrb := (unhide HRB).below hbn (unhide HRB).lt
            have hbw := (unhide HBW).trans ((hbn).mono (unhide HBW).size)
            clear HPB HRU HRB HBW
            have HPB := hide hpb
            have HRU := hide hru
            have HRB := hide hrb
            have HBW := hide hbw
            clear hpb hru hrb hbw
            clear hbn
            obtain ⟨wr, rfl⟩ : ∃ wr, wr = wc := ⟨_, rfl⟩
          cases e5 with
          | true =>
            go_wp2
            go_ret
            exact ⟨ret_int (by rw [unhide HRR]; simp), unhide HBW⟩
          | false =>
            obtain ⟨r0, r1, r2, r3, r4, r5, r6, r7, r8, r9, r10, r11, r12⟩ := (unhide HRU).cells
            obtain ⟨p0, p1, p2, p3, p4, p5⟩ := (unhide HPB).all
            have rw0 := (unhide HRB).at T hT
            have rw1 := (unhide HRB).at U (by omega)
            have hHS : ∀ u, Below wr.heap.size wr u → (u.cell? ⟨w.heap.size, 10, none⟩ = some (.int .u8 (re : Int)) ∧ u.cell? ⟨w.heap.size + 1, 2, none⟩ = some (.string C) ∧ u.cell? ⟨rb, T, none⟩ = some (.string (rowS W T C)) ∧ u.cell? ⟨rb, U, none⟩ = some (.string (rowS W U C)) ∧ Below wr.heap.size wr u) := fun u hu =>
              ⟨((unhide HRU).below hu (unhide HRU).lt).cells.2.2.2.2.2.2.2.2.2.2.1, ((unhide HPB).below hu (unhide HPB).lt).all.2.2.1, ((unhide HRB).below hu (unhide HRB).lt).at T hT, ((unhide HRB).below hu (unhide HRB).lt).at U (by omega), hu⟩
            have HS := hide hHS
            have HB0 : Hid (Below wr.heap.size wr wr.drew) := hide (Below.refl _ _).drew
            clear hHS
            go_upto_region 13 with fail
            go_cut [102] from 103 to 115 (fun v wz => v = .bool e6 ∧ Below wr.heap.size wr wz)
            case first =>
              by_cases h0 : re = 0
              · have hb0 : decide ((0 : Int) < (re : Int)) = false := by simp; omega
                have hb0' : decide (0 < re) = false := by simp; omega
                have HE : Hid (e6 = false) := hide (by rw [unhide HE6]; simp [h0])
                clear h0
                go_quiet (fail)
                go_wp2
                go_meet
                case rel => exact ⟨by rw [unhide HE], ⟨rfl, rfl, rfl, Nat.le_refl _, fun _ _ => rfl⟩⟩
              · have hb0 : decide ((0 : Int) < (re : Int)) = true := by simp; omega
                have hb0' : decide (0 < re) = true := by simp; omega
                have h0i : (0 : Int) < (re : Int) := by omega
                have HMK := hide (fun u => rMarkN T re u (by omega) hre8 ((unhide HREC) h0))
                have HCT := hide (fun u => Tryz.strings_Contains_one (rowS W T C) (letN T re).toUInt8 u)
                have hcv : decide (0 ≤ Lib.indexByte ((rowS W T C)).data.toList (letN T re).toUInt8) = hasN (lastR W T C) (letN T re) := by rw [rowS_data]; rfl
                rw [hcv] at HCT
                obtain ⟨hs, hhs⟩ : ∃ hs, hs = hasN (lastR W T C) (letN T re) := ⟨_, rfl⟩
                rw [← hhs] at HCT
                have HE := hide (show e6 = _ from by rw [unhide HE6, ← hhs])
                clear hcv hhs r0 r1 r2 r3 r4 r5 r6 r7 r8 r9 r10 r11 r12 p0 p1 p2 p3 p4 p5 rw0 rw1
                go_region_held3 (fun u => u.cell? ⟨w.heap.size, 10, none⟩ = some (.int .u8 (re : Int)) ∧ u.cell? ⟨w.heap.size + 1, 2, none⟩ = some (.string C) ∧ u.cell? ⟨rb, T, none⟩ = some (.string (rowS W T C)) ∧ u.cell? ⟨rb, U, none⟩ = some (.string (rowS W U C)) ∧ Below wr.heap.size wr u)
                  (first
                    | exact unhide HS _ (unhide HB0)
                    | exact unhide HS _ ((unhide HB0).trans (hb.mono (unhide HB0).size)))
                  (first
                    | (go_at_call 110; (refine (unhide HMK _).mono ?_); rintro e wm ⟨rfl, hb⟩)
                    | (go_at_call 111; (refine (unhide HCT _).mono ?_); rintro e wn ⟨rfl, rfl⟩))
                all_goals
                  go_wp2
                  go_meet
                  case rel => exact ⟨by rw [unhide HE]; simp [h0], (unhide HB0).trans (hb.mono (unhide HB0).size)⟩
            case' rest =>
              obtain ⟨rfl, hbn⟩ := hcut
              clear r0 r1 r2 r3 r4 r5 r6 r7 r8 r9 r10 r11 r12 p0 p1 p2 p3 p4 p5 rw0 rw1 HS HB0
              have hpb := (unhide HPB).below hbn (unhide HPB).lt
              have hru := (unhide HRU).below hbn (unhide HRU).lt
              have hrb := (unhide HRB).below hbn (unhide HRB).lt
              have hbw := (unhide HBW).trans ((hbn).mono (unhide HBW).size)
              clear HPB HRU HRB HBW
              have HPB := hide hpb
              have HRU := hide hru
              have HRB := hide hrb
              have HBW := hide hbw
              clear hpb hru hrb hbw
              clear hbn
              obtain ⟨wr, rfl⟩ : ∃ wr, wr = wc := ⟨_, rfl⟩
            cases e6 with
            | true =>
              go_wp2
              go_ret
              exact ⟨ret_int (by rw [unhide HRR]; simp), unhide HBW⟩
            | false =>
              obtain ⟨r0, r1, r2, r3, r4, r5, r6, r7, r8, r9, r10, r11, r12⟩ := (unhide HRU).cells
              obtain ⟨p0, p1, p2, p3, p4, p5⟩ := (unhide HPB).all
              go_wp2_with fail
              refine (unhide HEV _ (unhide HBW)).mono ?_
              rintro e w3 ⟨v, rfl, hown, hb1⟩
              obtain ⟨uo, uc, rfl⟩ := row_len hown
              clear hown r0 r1 r2 r3 r4 r5 r6 r7 r8 r9 r10 r11 r12 p0 p1 p2 p3 p4 p5
              have hpb := (unhide HPB).below hb1 (unhide HPB).lt
              have hru := (unhide HRU).below hb1 (unhide HRU).lt
              have hrb := (unhide HRB).below hb1 (unhide HRB).lt
              have hbw := (unhide HBW).trans ((hb1).mono (unhide HBW).size)
              clear HPB HRU HRB HBW
              have HPB := hide hpb
              have HRU := hide hru
              have HRB := hide hrb
              have HBW := hide hbw
              clear hpb hru hrb hbw
              clear hb1
              obtain ⟨-, -, -, -, -, -, -, -, -, -, -, r11, -⟩ := (unhide HRU).cells
              generalize PL.length = m at *
              by_cases hm : m = 0
              · have hmi : ¬ (0 : Int) < (m : Int) := by omega
                have hR := unhide HRR
                rw [if_pos hm] at hR
                have HR2 := hide hR
                clear hm hR HRR
                cases st with
                | true =>
                  go_wp2
                  go_ret
                  exact ⟨ret_int (by rw [unhide HR2]; simp), unhide HBW⟩
                | false =>
                  go_wp2
                  go_ret
                  exact ⟨ret_int (by rw [unhide HR2]; simp), unhide HBW⟩
              · have hmi : (0 : Int) < (m : Int) := by omega
                have hR := unhide HRR
                rw [if_neg hm] at hR
                have HR2 := hide hR
                clear hm hR HRR
                go_wp2
                go_ret
                exact ⟨ret_int (by rw [unhide HR2]; simp), unhide HBW⟩
set_option maxHeartbeats 4000000 in
set_option maxRecDepth 100000 in
theorem rMoves_any (W H T : Nat) (C A B : ByteArray) (W0 H0 T0 : Int) (C0 A0 B0 : ByteArray) (ao : Option Addr) (cap : Nat) (ps : List Pc) (dr st : Bool) (lo re : Nat) (li pl : Int) (w : World) (hps : isPcs w ao cap ps) (hok : ∀ p ∈ ps, ∀ z ∈ p.ws, z.ok = true) (hT : T ≤ 1) (hA : A.size ≤ 8) (hB : B.size ≤ 8) (hW : 1 ≤ W ∧ W ≤ 8) (hH : 1 ≤ H ∧ H ≤ 8) (hC : C.size = W * H)
    (hcell : ∀ c, c < W * H → cellB (cellN C c : Nat) = true ∧ cellN C c < 256) (hlet : ∀ c, c < W * H → cellN C c ≠ 46 → 0 ≤ idxF ps (upN (cellN C c)) 0 ∧ lowN (cellN C c) = upN (cellN C c))
    (hlo8 : lo < 256) (hre8 : re < 256) (hloc : lo ≠ 0 → capB (lo : Int) = true) (hrec : re ≠ 0 → capB (re : Int) = true) (hli : li = 0 ∨ (2 ≤ li ∧ li ≤ 8)) :
    Calls Tryz.prog 73 #[.agg #[.int .i64 W0, .int .i64 H0, .string C0, .int .i64 T0, .string A0, .string B0, .slice ao ps.length cap, .bool dr, .int .u8 (lo : Int), .int .i64 li, .int .u8 (re : Int), .bool st, .int .i64 pl], .agg #[.int .i64 (W : Int), .int .i64 (H : Int), .string C, .int .i64 (T : Int), .string A, .string B]] w fun e w' => ∃ v, e = .returned v ∧ w'.ownsRow w.heap.size 61 3 v (movesL W H T C A B ps dr lo li re).length (mvals (movesL W H T C A B ps dr lo li re)) ∧ Below w.heap.size w w' := by
  obtain ⟨n, hn⟩ : ∃ n, n = ps.length := ⟨_, rfl⟩
  have hEV := fun u (hb : Below w.heap.size w u) => rEvery_any W H T C A B W0 H0 T0 C0 A0 B0 ao cap ps dr st lo re li pl u (hps.below hb (Nat.le_refl _)) hok hT hA hB hW hH hC hcell hlet
  have hEN := fun u (hb : Below w.heap.size w u) => rEnds_any W H T C A B W0 H0 T0 C0 A0 B0 ao cap ps dr st lo re li pl u (hps.below hb (Nat.le_refl _)) hok hT hA hB hW hH hC hcell hlet hlo8 hre8 hloc hrec hli
  have hml : movesL W H T C A B ps dr lo li re = if outO W H T C A B ps dr st lo li re = 0 then possL W H T C A B ps dr else [] := by
    unfold movesL outO
    by_cases h : decO W H T C lo li re = 0
    · rw [if_pos h, if_pos h]
      by_cases hl : (possL W H T C A B ps dr).length = 0
      · rw [if_pos hl]
        have hn0 : ¬ (if st = true then wonI (1 - (T : Int)) else 3) = 0 := by
          split
          · unfold wonI; split <;> omega
          · omega
        rw [if_neg hn0]
        exact List.length_eq_zero_iff.1 hl
      · rw [if_neg hl, if_pos rfl]
    · rw [if_neg h, if_neg h, if_neg h]
  rw [← hn]
  simp only [← hn] at hEV hEN
  generalize movesL W H T C A B ps dr lo li re = ML at *
  generalize possL W H T C A B ps dr = PL at *
  generalize outO W H T C A B ps dr st lo li re = O at *
  have HEV := hide hEV
  have HEN := hide hEN
  obtain ⟨w1, hw1⟩ : ∃ w1, w1 = w.alloc (.cells #[.int .i64 W0, .int .i64 H0, .string C0, .int .i64 T0, .string A0, .string B0, .slice ao n cap, .bool dr, .int .u8 (lo : Int), .int .i64 li, .int .u8 (re : Int), .bool st, .int .i64 pl] 27 (0, 0)) := ⟨_, rfl⟩
  obtain ⟨w2, hw2⟩ : ∃ w2, w2 = w1.alloc (.cells #[.int .i64 (W : Int), .int .i64 (H : Int), .string C, .int .i64 (T : Int), .string A, .string B] 24 (0, 0)) := ⟨_, rfl⟩
  have hb1 : Below w.heap.size w w1 := by rw [hw1]; exact (Below.refl _ _).alloc (Nat.le_refl _) _
  have hb2 : Below w1.heap.size w1 w2 := by rw [hw2]; exact (Below.refl _ _).alloc (Nat.le_refl _) _
  have s1 : w1.heap.size = w.heap.size + 1 := by rw [hw1]; simp
  have hru : isRu w2 w.heap.size (.int .i64 W0) (.int .i64 H0) (.string C0) (.int .i64 T0) (.string A0) (.string B0) (.slice ao n cap) (.bool dr) (.int .u8 (lo : Int)) (.int .i64 li) (.int .u8 (re : Int)) (.bool st) (.int .i64 pl) := isRu.below (show isRu w1 w.heap.size (.int .i64 W0) (.int .i64 H0) (.string C0) (.int .i64 T0) (.string A0) (.string B0) (.slice ao n cap) (.bool dr) (.int .u8 (lo : Int)) (.int .i64 li) (.int .u8 (re : Int)) (.bool st) (.int .i64 pl) by rw [hw1]; exact heap_alloc_new w _) hb2 (by omega)
  have hpb : isPb w2 (w.heap.size + 1) W H T C A B := by rw [hw2, ← s1]; exact heap_alloc_new w1 _
  have HBW := hide (hb1.trans (hb2.mono (by omega)))
  have HPB := hide hpb
  have HRU := hide hru
  clear hEV hEN hb1 hb2 s1 hru hpb hcell hlet hps hok hn hC hloc hrec hli
  have HW1 := hide hw1
  have HW2 := hide hw2
  clear hw1 hw2
  by_cases hO : O = 0
  · have hb : (O != 0) = false := by simp [hO]
    rw [if_pos hO] at hml
    subst hml
    clear hO
    go_enter Tryz.func73, Tryz.ntmps73
    go_wp2_with fail
    rw [← unhide HW1, ← unhide HW2]
    refine (unhide HEN _ (unhide HBW)).mono ?_
    rintro e u ⟨rfl, hb1⟩
    have hBn := (unhide HBW).trans (hb1.mono (unhide HBW).size)
    obtain ⟨r0, r1, r2, r3, r4, r5, r6, r7, r8, r9, r10, r11, r12⟩ := ((unhide HRU).below hb1 (unhide HRU).lt).cells
    obtain ⟨p0, p1, p2, p3, p4, p5⟩ := ((unhide HPB).below hb1 (unhide HPB).lt).all
    have HBN := hide hBn
    clear hb1 hBn
    go_wp2_with fail
    refine (unhide HEV _ (unhide HBN)).mono ?_
    rintro e w3 ⟨v, rfl, hown, hb1⟩
    have HO := hide (World.ownsRow.mono hown (unhide HBN).size)
    have HB2 := hide ((unhide HBN).trans (hb1.mono (unhide HBN).size))
    clear hown hb1
    go_wp2
    go_ret
    exact ⟨_, rfl, unhide HO, unhide HB2⟩
  · have hb : (O != 0) = true := by simp [hO]
    rw [if_neg hO] at hml
    subst hml
    clear hO
    go_enter Tryz.func73, Tryz.ntmps73
    go_wp2_with fail
    rw [← unhide HW1, ← unhide HW2]
    refine (unhide HEN _ (unhide HBW)).mono ?_
    rintro e u ⟨rfl, hb1⟩
    have HB2 := hide ((unhide HBW).trans (hb1.mono (unhide HBW).size))
    clear hb1
    go_wp2
    go_ret
    exact ⟨_, rfl, World.ownsRow_nil _ _ _ _, unhide HB2⟩
end Go.Proofs.YtihojhfpepbjhaaGreatDoor
