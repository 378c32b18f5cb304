/-
  package moves, walked: Apply.
  gamekeep.MovesBack, walked for whatever comes in.
  package gameref, walked: mark of any player.
-/
import Derived.Test.YtbglppcbgfkhmabGreatDoorJ19
import Derived.Test.YtbglppcbgfkhmabGreatDoorJ32
import Derived.Test.YtbglppcbgfkhmabGreatDoorE5
import Derived.Test.YtbglppcbgfkhmabGreatDoorF1
import Derived.Test.YtbglppcbgfkhmabGreatDoorJ25
import Derived.Test.YtbglppcbgfkhmabGreatDoorV22
namespace Go.Proofs.YtbglppcbgfkhmabGreatDoor
open Go.RowKit
attribute [local go_sem ↓] Go.wp_at_zero Go.wp_at_succ

theorem isPb.frozen' {w : World} {b : Nat} {W H T : Int} {C A B : ByteArray} (h : isPb w b W H T C A B) (k : Nat) : w.frozen? ⟨b, k, none⟩ = false := frozen_of_row w b k _ _ h
set_option maxHeartbeats 4000000 in
set_option maxRecDepth 100000 in
theorem Apply_err (W0 H0 T0 : Int) (C0 A0 B0 : ByteArray) (ao : Option Addr) (cap : Nat) (ps : List Pc) (dr st : Bool) (lo re : Nat) (li pl : Int) (W H T : Int) (C A B : ByteArray) (f t : Int) (c : Nat) (E : Int) (w : World) (hE : (E != 0) = true)
    (hck : ∀ u, Below w.heap.size w u → Calls Tryz.prog 30 #[.agg #[.int .i64 W0, .int .i64 H0, .string C0, .int .i64 T0, .string A0, .string B0, .slice ao ps.length cap, .bool dr, .int .u8 (lo : Int), .int .i64 li, .int .u8 (re : Int), .bool st, .int .i64 pl], .agg #[.int .i64 W, .int .i64 H, .string C, .int .i64 T, .string A, .string B], .agg #[.int .i64 f, .int .i64 t, .int .u8 (c : Int)]] u fun e w' => e = .returned (.int .i64 E) ∧ Below u.heap.size u w') :
    Calls Tryz.prog 9 #[.agg #[.int .i64 W0, .int .i64 H0, .string C0, .int .i64 T0, .string A0, .string B0, .slice ao ps.length cap, .bool dr, .int .u8 (lo : Int), .int .i64 li, .int .u8 (re : Int), .bool st, .int .i64 pl], .agg #[.int .i64 W, .int .i64 H, .string C, .int .i64 T, .string A, .string B], .agg #[.int .i64 f, .int .i64 t, .int .u8 (c : Int)]] w fun e w' => e = .returned (.tuple #[.agg #[.int .i64 0, .int .i64 0, .string ⟨#[]⟩, .int .i64 0, .string ⟨#[]⟩, .string ⟨#[]⟩], .int .i64 E]) ∧ Below w.heap.size w w' := by
  obtain ⟨n, hn⟩ : ∃ n, n = ps.length := ⟨_, rfl⟩
  obtain ⟨w1, hw1⟩ : ∃ w1, w1 = w.alloc (.cells #[.int .i64 W0, .int .i64 H0, .string C0, .int .i64 T0, .string A0, .string B0, .slice ao n cap, .bool dr, .int .u8 (lo : Int), .int .i64 li, .int .u8 (re : Int), .bool st, .int .i64 pl] 27 (0, 0)) := ⟨_, rfl⟩
  obtain ⟨w2, hw2⟩ : ∃ w2, w2 = w1.alloc (.cells #[.int .i64 W, .int .i64 H, .string C, .int .i64 T, .string A, .string B] 24 (0, 0)) := ⟨_, rfl⟩
  obtain ⟨w3, hw3⟩ : ∃ w3, w3 = w2.alloc (.cells #[.int .i64 f, .int .i64 t, .int .u8 (c : Int)] 29 (0, 0)) := ⟨_, rfl⟩
  obtain ⟨wz, hwz⟩ : ∃ wz, wz = w3.alloc (.cells #[.int .i64 0, .int .i64 0, .string ⟨#[]⟩, .int .i64 0, .string ⟨#[]⟩, .string ⟨#[]⟩] 24 (0, 0)) := ⟨_, rfl⟩
  have hbz : Below w3.heap.size w3 wz := by rw [hwz]; exact (Below.refl _ _).alloc (Nat.le_refl _) _
  have hb1 : Below w.heap.size w w1 := by rw [hw1]; exact (Below.refl _ _).alloc (Nat.le_refl _) _
  have hb2 : Below w1.heap.size w1 w2 := by rw [hw2]; exact (Below.refl _ _).alloc (Nat.le_refl _) _
  have hb3 : Below w2.heap.size w2 w3 := by rw [hw3]; exact (Below.refl _ _).alloc (Nat.le_refl _) _
  have s1 : w1.heap.size = w.heap.size + 1 := by rw [hw1]; simp
  have s2 : w2.heap.size = w.heap.size + 1 + 1 := by rw [hw2]; simp [s1]
  have hru : isRu w3 w.heap.size (.int .i64 W0) (.int .i64 H0) (.string C0) (.int .i64 T0) (.string A0) (.string B0) (.slice ao n cap) (.bool dr) (.int .u8 (lo : Int)) (.int .i64 li) (.int .u8 (re : Int)) (.bool st) (.int .i64 pl) := isRu.below (isRu.below (show isRu w1 w.heap.size (.int .i64 W0) (.int .i64 H0) (.string C0) (.int .i64 T0) (.string A0) (.string B0) (.slice ao n cap) (.bool dr) (.int .u8 (lo : Int)) (.int .i64 li) (.int .u8 (re : Int)) (.bool st) (.int .i64 pl) by rw [hw1]; exact heap_alloc_new w _) hb2 (by omega)) hb3 (by omega)
  have hpb : isPb w3 (w.heap.size + 1) W H T C A B := isPb.below (show isPb w2 (w.heap.size + 1) W H T C A B by rw [hw2, ← s1]; exact heap_alloc_new w1 _) hb3 (by omega)
  have hmb : isMb w3 (w.heap.size + 1 + 1) f t c := by rw [hw3, ← s2]; exact heap_alloc_new w2 _
  have hbw := (hb1.trans (hb2.mono (show w.heap.size ≤ w1.heap.size by omega))).trans (hb3.mono (show w.heap.size ≤ w2.heap.size by omega))
  have s3 : w3.heap.size = w.heap.size + 1 + 1 + 1 := by rw [hw3]; simp [s2]
  have hzb : isPb wz (w.heap.size + 1 + 1 + 1) 0 0 0 ⟨#[]⟩ ⟨#[]⟩ ⟨#[]⟩ := by rw [hwz, ← s3]; exact heap_alloc_new w3 _
  have hbwz := hbw.trans (hbz.mono (show w.heap.size ≤ w3.heap.size by omega))
  have HBW := hide hbwz
  have HPB := hide (hpb.below hbz (by omega))
  have HRU := hide (hru.below hbz (by omega))
  have HMB := hide (hmb.below hbz (by omega))
  have HZB := hide hzb
  have HWZ := hide hwz
  have HW1 := hide hw1
  have HW2 := hide hw2
  have HW3 := hide hw3
  have HK := hide (hck wz hbwz)
  rw [← hn] at HK ⊢
  clear hck hw1 hw2 hw3 hwz hb1 hb2 hb3 hbz s1 s2 s3 hru hpb hmb hzb hbw hbwz hn
  go_enter Tryz.func9, Tryz.ntmps9
  go_wp2_with fail
  rw [← unhide HW1, ← unhide HW2, ← unhide HW3, ← unhide HWZ]
  refine (unhide HK).mono ?_
  rintro e u ⟨rfl, hb1⟩
  have hz := (unhide HZB).below hb1 (unhide HZB).lt
  have HB := hide ((unhide HBW).trans (hb1.mono (unhide HBW).size))
  have HZL := hide (unhide HZB).lt
  clear HPB HRU HMB HZB HBW HW1 HW2 HW3 HWZ hb1 HK
  obtain ⟨e0, e1, e2, e3, e4, e5⟩ := hz.all
  have z0 := hz.frozen' 0
  have z1 := hz.frozen' 1
  have z2 := hz.frozen' 2
  have z3 := hz.frozen' 3
  have z4 := hz.frozen' 4
  have z5 := hz.frozen' 5
  clear hz
  go_wp2
  refine bodyPost_ret (v := .tuple #[.agg #[.int .i64 0, .int .i64 0, .string ⟨#[]⟩, .int .i64 0, .string ⟨#[]⟩, .string ⟨#[]⟩], .int .i64 E]) (by simp [results, Tryz.results9, go_sem, e0, e1, e2, e3, e4, e5]) rfl ⟨rfl, ?_⟩
  first | exact below_set6 (by omega) (unhide HB) | exact unhide HB
set_option maxHeartbeats 4000000 in
set_option maxRecDepth 100000 in
theorem Apply_go (W0 H0 T0 : Int) (C0 A0 B0 : ByteArray) (ao : Option Addr) (cap : Nat) (ps : List Pc) (dr st : Bool) (lo re : Nat) (li pl : Int) (W H T : Int) (C A B : ByteArray) (f t : Int) (c : Nat) (Q0 Q1 Q3 : Int) (Q2 Q4 Q5 : ByteArray) (w : World)
    (hck : ∀ u, Below w.heap.size w u → Calls Tryz.prog 30 #[.agg #[.int .i64 W0, .int .i64 H0, .string C0, .int .i64 T0, .string A0, .string B0, .slice ao ps.length cap, .bool dr, .int .u8 (lo : Int), .int .i64 li, .int .u8 (re : Int), .bool st, .int .i64 pl], .agg #[.int .i64 W, .int .i64 H, .string C, .int .i64 T, .string A, .string B], .agg #[.int .i64 f, .int .i64 t, .int .u8 (c : Int)]] u fun e w' => e = .returned (.int .i64 0) ∧ Below u.heap.size u w')
    (hbe : ∀ u, Below w.heap.size w u → Calls Tryz.prog 31 #[.agg #[.int .i64 W0, .int .i64 H0, .string C0, .int .i64 T0, .string A0, .string B0, .slice ao ps.length cap, .bool dr, .int .u8 (lo : Int), .int .i64 li, .int .u8 (re : Int), .bool st, .int .i64 pl], .agg #[.int .i64 W, .int .i64 H, .string C, .int .i64 T, .string A, .string B], .agg #[.int .i64 f, .int .i64 t, .int .u8 (c : Int)]] u fun e w' => e = .returned (.agg #[.int .i64 Q0, .int .i64 Q1, .string Q2, .int .i64 Q3, .string Q4, .string Q5]) ∧ Below u.heap.size u w') :
    Calls Tryz.prog 9 #[.agg #[.int .i64 W0, .int .i64 H0, .string C0, .int .i64 T0, .string A0, .string B0, .slice ao ps.length cap, .bool dr, .int .u8 (lo : Int), .int .i64 li, .int .u8 (re : Int), .bool st, .int .i64 pl], .agg #[.int .i64 W, .int .i64 H, .string C, .int .i64 T, .string A, .string B], .agg #[.int .i64 f, .int .i64 t, .int .u8 (c : Int)]] w fun e w' => e = .returned (.tuple #[.agg #[.int .i64 Q0, .int .i64 Q1, .string Q2, .int .i64 Q3, .string Q4, .string Q5], .int .i64 0]) ∧ Below w.heap.size w w' := by
  obtain ⟨n, hn⟩ : ∃ n, n = ps.length := ⟨_, rfl⟩
  obtain ⟨w1, hw1⟩ : ∃ w1, w1 = w.alloc (.cells #[.int .i64 W0, .int .i64 H0, .string C0, .int .i64 T0, .string A0, .string B0, .slice ao n cap, .bool dr, .int .u8 (lo : Int), .int .i64 li, .int .u8 (re : Int), .bool st, .int .i64 pl] 27 (0, 0)) := ⟨_, rfl⟩
  obtain ⟨w2, hw2⟩ : ∃ w2, w2 = w1.alloc (.cells #[.int .i64 W, .int .i64 H, .string C, .int .i64 T, .string A, .string B] 24 (0, 0)) := ⟨_, rfl⟩
  obtain ⟨w3, hw3⟩ : ∃ w3, w3 = w2.alloc (.cells #[.int .i64 f, .int .i64 t, .int .u8 (c : Int)] 29 (0, 0)) := ⟨_, rfl⟩
  obtain ⟨wz, hwz⟩ : ∃ wz, wz = w3.alloc (.cells #[.int .i64 0, .int .i64 0, .string ⟨#[]⟩, .int .i64 0, .string ⟨#[]⟩, .string ⟨#[]⟩] 24 (0, 0)) := ⟨_, rfl⟩
  have hbz : Below w3.heap.size w3 wz := by rw [hwz]; exact (Below.refl _ _).alloc (Nat.le_refl _) _
  have hb1 : Below w.heap.size w w1 := by rw [hw1]; exact (Below.refl _ _).alloc (Nat.le_refl _) _
  have hb2 : Below w1.heap.size w1 w2 := by rw [hw2]; exact (Below.refl _ _).alloc (Nat.le_refl _) _
  have hb3 : Below w2.heap.size w2 w3 := by rw [hw3]; exact (Below.refl _ _).alloc (Nat.le_refl _) _
  have s1 : w1.heap.size = w.heap.size + 1 := by rw [hw1]; simp
  have s2 : w2.heap.size = w.heap.size + 1 + 1 := by rw [hw2]; simp [s1]
  have hru : isRu w3 w.heap.size (.int .i64 W0) (.int .i64 H0) (.string C0) (.int .i64 T0) (.string A0) (.string B0) (.slice ao n cap) (.bool dr) (.int .u8 (lo : Int)) (.int .i64 li) (.int .u8 (re : Int)) (.bool st) (.int .i64 pl) := isRu.below (isRu.below (show isRu w1 w.heap.size (.int .i64 W0) (.int .i64 H0) (.string C0) (.int .i64 T0) (.string A0) (.string B0) (.slice ao n cap) (.bool dr) (.int .u8 (lo : Int)) (.int .i64 li) (.int .u8 (re : Int)) (.bool st) (.int .i64 pl) by rw [hw1]; exact heap_alloc_new w _) hb2 (by omega)) hb3 (by omega)
  have hpb : isPb w3 (w.heap.size + 1) W H T C A B := isPb.below (show isPb w2 (w.heap.size + 1) W H T C A B by rw [hw2, ← s1]; exact heap_alloc_new w1 _) hb3 (by omega)
  have hmb : isMb w3 (w.heap.size + 1 + 1) f t c := by rw [hw3, ← s2]; exact heap_alloc_new w2 _
  have hbw := (hb1.trans (hb2.mono (show w.heap.size ≤ w1.heap.size by omega))).trans (hb3.mono (show w.heap.size ≤ w2.heap.size by omega))
  have s3 : w3.heap.size = w.heap.size + 1 + 1 + 1 := by rw [hw3]; simp [s2]
  have hzb : isPb wz (w.heap.size + 1 + 1 + 1) 0 0 0 ⟨#[]⟩ ⟨#[]⟩ ⟨#[]⟩ := by rw [hwz, ← s3]; exact heap_alloc_new w3 _
  have hbwz := hbw.trans (hbz.mono (show w.heap.size ≤ w3.heap.size by omega))
  have HBW := hide hbwz
  have HPB := hide (hpb.below hbz (by omega))
  have HRU := hide (hru.below hbz (by omega))
  have HMB := hide (hmb.below hbz (by omega))
  have HZB := hide hzb
  have HWZ := hide hwz
  have HW1 := hide hw1
  have HW2 := hide hw2
  have HW3 := hide hw3
  have HK := hide (hck wz hbwz)
  have HBE := hide hbe
  rw [← hn] at HK HBE ⊢
  clear hck hbe hw1 hw2 hw3 hwz hb1 hb2 hb3 hbz s1 s2 s3 hru hpb hmb hzb hbw hbwz hn
  go_enter Tryz.func9, Tryz.ntmps9
  go_wp2_with fail
  rw [← unhide HW1, ← unhide HW2, ← unhide HW3, ← unhide HWZ]
  refine (unhide HK).mono ?_
  rintro e u ⟨rfl, hb1⟩
  have hPn := (unhide HPB).below hb1 (unhide HPB).lt
  have hRn := (unhide HRU).below hb1 (unhide HRU).lt
  have hMn := (unhide HMB).below hb1 (unhide HMB).lt
  have hZn := (unhide HZB).below hb1 (unhide HZB).lt
  have hBn := (unhide HBW).trans (hb1.mono (unhide HBW).size)
  have HBE1 := hide (unhide HBE u hBn)
  have HZB' := hide hZn
  have HB := hide hBn
  obtain ⟨p0, p1, p2, p3, p4, p5⟩ := hPn.all
  obtain ⟨r0, r1, r2, r3, r4, r5, r6, r7, r8, r9, r10, r11, r12⟩ := hRn.cells
  obtain ⟨m0, m1, m2⟩ := hMn.all
  clear HPB HRU HMB HZB HBW HW1 HW2 HW3 HWZ hb1 HK HBE hPn hRn hMn hZn hBn
  go_wp2_with fail
  refine (unhide HBE1).mono ?_
  rintro e v ⟨rfl, hb1⟩
  have hz := (unhide HZB').below hb1 (unhide HZB').lt
  have HBV := hide ((unhide HB).trans (hb1.mono (unhide HB).size))
  clear HZB' HB hb1 HBE1 p0 p1 p2 p3 p4 p5 r0 r1 r2 r3 r4 r5 r6 r7 r8 r9 r10 r11 r12 m0 m1 m2
  obtain ⟨e0, e1, e2, e3, e4, e5⟩ := hz.all
  have z0 := hz.frozen' 0
  have z1 := hz.frozen' 1
  have z2 := hz.frozen' 2
  have z3 := hz.frozen' 3
  have z4 := hz.frozen' 4
  have z5 := hz.frozen' 5
  clear hz
  go_wp2
  refine bodyPost_ret (v := .tuple #[.agg #[.int .i64 Q0, .int .i64 Q1, .string Q2, .int .i64 Q3, .string Q4, .string Q5], .int .i64 0]) (by simp [results, Tryz.results9, go_sem, e0, e1, e2, e3, e4, e5]) rfl ⟨rfl, ?_⟩
  exact below_set6 (by omega) (unhide HBV)
end Go.Proofs.YtbglppcbgfkhmabGreatDoor

namespace Go.Proofs.YtbglppcbgfkhmabGreatDoor
open Go.RowKit

theorem len_sum {α β : Type} (f : α → List β) : ∀ l : List α, (l.flatMap f).length = (l.map fun a => (f a).length).sum
  | [] => rfl
  | a :: t => by rw [List.flatMap_cons, List.length_append, len_sum f t, List.map_cons, List.sum_cons]
theorem ends_one (ps : List Pc) (dr : Bool) (lo : Nat) (li : Int) (re : Nat) (p : Po) : (endsP ps dr lo li re 1 p).length = (movP ps dr lo li re p).length := by
  show ((movP ps dr lo li re p).map _ ++ []).length = _
  rw [List.append_nil, List.length_map]
theorem ends_two (ps : List Pc) (dr : Bool) (lo : Nat) (li : Int) (re : Nat) (p : Po) : (endsP ps dr lo li re 2 p).length = ((movP ps dr lo li re p).map fun m => (movP ps dr lo li re (behP dr p m)).length).sum := by
  show (((movP ps dr lo li re p).map (behP dr p) ++ []).flatMap (nextP ps dr lo li re)).length = _
  rw [List.append_nil, len_sum, List.map_map]
  congr 1
  apply List.map_congr_left
  intro m _
  show ((movP ps dr lo li re (behP dr p m)).map _).length = _
  rw [List.length_map]
theorem many_one {ps : List Pc} {dr : Bool} {lo : Nat} {li : Int} {re : Nat} {p : Po} (hp : PoF ps p) : ¬ manyP ps dr lo li re p 1 := by
  rintro ⟨i, hi, h⟩
  rcases (by omega : i = 0 ∨ i = 1) with rfl | rfl
  · simp [endsP] at h
  · rw [ends_one] at h
    have := mov_len (dr := dr) (lo := lo) (li := li) (re := re) hp
    omega
theorem many_two {ps : List Pc} {dr : Bool} {lo : Nat} {li : Int} {re : Nat} {p : Po} (hp : PoF ps p) : manyP ps dr lo li re p 2 ↔ 100000 < ((movP ps dr lo li re p).map fun m => (movP ps dr lo li re (behP dr p m)).length).sum := by
  constructor
  · rintro ⟨i, hi, h⟩
    by_cases h1 : i ≤ 1
    · exact absurd ⟨i, h1, h⟩ (many_one hp)
    · obtain rfl : i = 2 := by omega
      rwa [ends_two] at h
  · intro h
    exact ⟨2, Nat.le_refl _, by rw [ends_two]; exact h⟩
/-- text, at a move of the list. -/
theorem text_M {ps : List Pc} {dr : Bool} {lo : Nat} {li : Int} {re : Nat} {W' H' T' : Nat} {C A B : ByteArray} (hf : AtF ps W' H' T' C A B W' H' T') {m : Mv} (hm : m ∈ movesL W' H' T' C A B ps dr lo li re) (u : World) :
    Calls Tryz.prog 41 #[.agg #[.int .i64 (W' : Int), .int .i64 (H' : Int), .string C, .int .i64 (T' : Int), .string A, .string B], .agg #[.int .i64 m.f, .int .i64 (m.t : Int), .int .u8 (m.c : Int)]] u fun e w' => e = .returned (.string ⟨(txM W' C m).toArray⟩) ∧ Below u.heap.size u w' := by
  obtain ⟨f1, f2, f3⟩ := (mov_is hm).facts
  have h64 : C.size ≤ 64 := by rw [hf.c]; exact Nat.mul_le_mul hf.w1.2 hf.h1.2
  have hcc : m.c.toUInt8.toNat = m.c := u8_back f3
  unfold txM
  rcases f2 with h | ⟨h1, h2⟩
  · have := text_drop W' H' T' C A B m.t m.c.toUInt8 u hf.w1 (by omega)
    rw [hcc] at this
    rw [h]
    exact this
  · obtain ⟨fr, hfr⟩ : ∃ fr : Nat, m.f = fr := ⟨m.f.toNat, by omega⟩
    have := text_go W' H' T' C A B fr m.t m.c.toUInt8 u hf.w1 (by omega) (by omega) f1
    rw [hcc] at this
    rw [hfr]
    exact this

set_option maxHeartbeats 2000000 in
theorem movesBack_any (W0 H0 T0 : Int) (C0 A0 B0 : ByteArray) (ao : Option Addr) (cap : Nat) (ps : List Pc) (dr st : Bool) (lo re : Nat) (li pl : Int) (W H T : Int) (C A B : ByteArray) (mx : Int) (w : World) (hm : w.cell? ⟨0, 0, none⟩ = some (.int .i64 mx)) (hC0 : C0.size ≤ maxLen) (hA0 : A0.size ≤ maxLen) (hB0 : B0.size ≤ maxLen) (hlo : lo < 256) (hre : re < 256) (h : isPcs w ao cap ps) (hC : C.size ≤ maxLen) (hA : A.size ≤ maxLen) (hB : B.size ≤ maxLen) :
    Calls Tryz.prog 6 #[.agg #[.int .i64 W0, .int .i64 H0, .string C0, .int .i64 T0, .string A0, .string B0, .slice ao ps.length cap, .bool dr, .int .u8 (lo : Int), .int .i64 li, .int .u8 (re : Int), .bool st, .int .i64 pl], .agg #[.int .i64 W, .int .i64 H, .string C, .int .i64 T, .string A, .string B]] w fun e w' => e = .returned (.bool true) ∧ Below w.heap.size w w' := by
  have hps : ∀ u, Below w.heap.size w u → isPcs u ao cap ps := fun u hu => h.below hu (Nat.le_refl _)
  have hmu : ∀ u, Below w.heap.size w u → u.cell? ⟨0, 0, none⟩ = some (.int .i64 mx) := fun u hu => (hu.cell (p := ⟨0, 0, none⟩) (World.block_lt_of_cell? w ⟨0, 0, none⟩ hm)).trans hm
  have hMv : ∀ u, Below w.heap.size w u → Calls Tryz.prog 21 #[] u fun e w' => e = .returned (.bool true) ∧ Below u.heap.size u w' := fun u hu => movable_any mx u (hmu u hu)
  cases hat : atB W0 H0 C0.data.toList T0 A0.data.toList B0.data.toList ps lo li re pl W H C.data.toList T A.data.toList B.data.toList with
  | false =>
    exact back_no (.int .i64 W0) (.int .i64 H0) (.string C0) (.int .i64 T0) (.string A0) (.string B0) (.slice ao ps.length cap) (.bool dr) (.int .u8 (lo : Int)) (.int .i64 li) (.int .u8 (re : Int)) (.bool st) (.int .i64 pl) W H T C A B w hMv
      (fun u hu => Moves_no W0 H0 T0 C0 A0 B0 ao cap ps dr st lo re li pl W H T C A B u hC0 hA0 hB0 hlo hre (hps u hu) hC hA hB hat)
  | true =>
    obtain ⟨W', H', T', hf⟩ := at_facts hat
    obtain rfl := hf.w
    obtain rfl := hf.h
    obtain rfl := hf.t
    have hT1 := hf.t1
    have h64 : C.size ≤ 64 := by rw [hf.c]; exact Nat.mul_le_mul hf.w1.2 hf.h1.2
    obtain ⟨p, hp⟩ : ∃ p : Po, p = ⟨W', H', C, T', A, B⟩ := ⟨_, rfl⟩
    have hpF : PoF ps p := by rw [hp]; exact ⟨W', H', T', hf⟩
    have hLe : movesL W' H' T' C A B ps dr lo li re = movP ps dr lo li re p := by rw [hp]; rfl
    have hatp : atB W0 H0 C0.data.toList T0 A0.data.toList B0.data.toList ps lo li re pl p.W p.H p.C.data.toList p.T p.A.data.toList p.B.data.toList = true := by rw [hp]; exact hat
    have hMO := fun u (hu : Below w.heap.size w u) => Moves_ok W0 H0 T0 C0 A0 B0 ao cap ps dr st lo re li pl W' H' T' C A B u hC0 hA0 hB0 hlo hre (hps u hu) hC hA hB hat W' H' T' hf
    have hCO := fun (d : Nat) (hd : d ≤ 6) u (hu : Below w.heap.size w u) => Count_ok W0 H0 T0 C0 A0 B0 ao cap ps dr st lo re li pl W' H' T' C A B d mx u (hmu u hu) hC0 hA0 hB0 hlo hre (hps u hu) hC hA hB hat ⟨W', H', T', hf⟩ hd
    rw [← hp] at hCO
    refine back_walk (.int .i64 W0) (.int .i64 H0) (.string C0) (.int .i64 T0) (.string A0) (.string B0) (.slice ao ps.length cap) (.bool dr) (.int .u8 (lo : Int)) (.int .i64 li) (.int .u8 (re : Int)) (.bool st) (.int .i64 pl) W' H' T' C A B (movP ps dr lo li re p)
      (fun m => ⟨(txM W' C m).toArray⟩) (fun m => ((behP dr p m).W, (behP dr p m).H, (behP dr p m).C, (behP dr p m).A, (behP dr p m).B)) (fun m => (movP ps dr lo li re (behP dr p m)).length) w (by omega) (mov_len hpF) hMv ?_ ?_ ?_ ?_
    · rw [← hLe]; exact hMO
    · intro u hu
      refine (hCO 1 (by omega) u hu).mono fun e w' ⟨h1, h2⟩ => ⟨?_, h1⟩
      rcases h2 with ⟨h2, _⟩ | ⟨_, h3⟩
      · rw [ends_one] at h2; exact h2
      · exact absurd h3 (many_one hpF)
    · intro u hu
      refine (hCO 2 (by omega) u hu).mono fun e w' ⟨h1, h2⟩ => ⟨?_, h1⟩
      rcases h2 with ⟨h2, h3⟩ | ⟨h2, h3⟩
      · rw [if_neg (fun h => h3 ((many_two hpF).2 h)), ← ends_two]; exact h2
      · rw [if_pos ((many_two hpF).1 h3)]; exact h2
    · intro m hmem
      have hmemL : m ∈ movesL W' H' T' C A B ps dr lo li re := by rw [hLe]; exact hmem
      obtain ⟨f1, f2, f3⟩ := (mov_is hmemL).facts
      have hin : inM m.f m.t m.c (movesL W' H' T' C A B ps dr lo li re) = true := by
        unfold inM eqM
        rw [List.any_eq_true]
        exact ⟨m, hmemL, by simp⟩
      have hck : ∀ u, Below w.heap.size w u → Calls Tryz.prog 30 #[.agg #[.int .i64 W0, .int .i64 H0, .string C0, .int .i64 T0, .string A0, .string B0, .slice ao ps.length cap, .bool dr, .int .u8 (lo : Int), .int .i64 li, .int .u8 (re : Int), .bool st, .int .i64 pl], .agg #[.int .i64 (W' : Int), .int .i64 (H' : Int), .string C, .int .i64 (T' : Int), .string A, .string B], .agg #[.int .i64 m.f, .int .i64 (m.t : Int), .int .u8 (m.c : Int)]] u fun e w' => e = .returned (.int .i64 0) ∧ Below u.heap.size u w' := fun u hu => by
        have := check_ok W0 H0 T0 C0 A0 B0 ao cap ps dr st lo re li pl W' H' T' C A B m.f m.t m.c u hC0 hA0 hB0 hlo hre (hps u hu) hC hA hB hat W' H' T' hf
        rw [hin, if_pos rfl] at this
        exact this
      have hat2 := at_beh hatp hmem
      have hq2 : PoF ps (behP dr p m) := hpF.beh hmem
      have hok2 := hq2.ok
      have hpos2 : posB (behP dr p m).W (behP dr p m).H (behP dr p m).C.data.toList (behP dr p m).T (behP dr p m).A.data.toList (behP dr p m).B.data.toList = true := by
        have := hat2
        unfold atB at this
        simp only [Bool.and_eq_true] at this
        exact this.1.1.1.2
      have hT2 : (behP dr p m).T = 1 - (T' : Int) := by rw [hp]; rfl
      refine ⟨fun u hu => ?_, fun u hu => ?_, fun u hu => ?_, fun u => ?_, fun u hu => ?_, mov_len hq2⟩
      · exact Text_go _ _ _ _ _ _ _ _ _ _ _ _ _ _ _ _ C A B m.f m.t m.c _ u (fun v hv => hck v (hu.trans (hv.mono hu.size))) (fun v => text_M hf hmemL v)
      · have := Read_ok (.int .i64 W0) (.int .i64 H0) (.string C0) (.int .i64 T0) (.string A0) (.string B0) (.slice ao ps.length cap) (.bool dr) (.int .u8 (lo : Int)) (.int .i64 li) (.int .u8 (re : Int)) (.bool st) (.int .i64 pl) W' H' T' C A B ⟨(txM W' C m).toArray⟩ (movesL W' H' T' C A B ps dr lo li re) (txM W' C) u
          (fun v hv => by
            have := rCheckPosition_any W0 H0 T0 C0 A0 B0 ao cap ps dr st lo re li pl W' H' T' C A B v hC0 hA0 hB0 hlo hre (hps v (hu.trans (hv.mono hu.size))) hC hA hB
            rw [hat] at this
            exact this)
          (fun v hv => list_any W' H' T' C A B _ _ _ _ _ _ _ _ ao cap ps dr lo re li v (hps v (hu.trans (hv.mono hu.size))) hf.ok hlo hre hf.t1 hf.a hf.b hf.w1 hf.h1 hf.c)
          (fun m2 hm2 v => text_M hf hm2 v)
        rw [readM_mem (fun x hx e => txM_inj hf.w1 h64 (mov_is hx).facts ⟨f1, f2, f3⟩ e) hmemL] at this
        exact this
      · have hbe := fun v (hv : Below u.heap.size u v) => behind_P hpF hmem (.int .i64 W0) (.int .i64 H0) (.string C0) (.int .i64 T0) (.string A0) (.string B0) (.slice ao ps.length cap) (.int .u8 (lo : Int)) (.int .i64 li) (.int .u8 (re : Int)) (.bool st) (.int .i64 pl) mx v (hmu v (hu.trans (hv.mono hu.size)))
        rw [hT2] at hbe
        subst hp
        exact Apply_go W0 H0 T0 C0 A0 B0 ao cap ps dr st lo re li pl W' H' T' C A B m.f m.t m.c _ _ _ _ _ _ u (fun v hv => hck v (hu.trans (hv.mono hu.size))) hbe
      · have := Check_any (behP dr p m).W (behP dr p m).H (behP dr p m).T (behP dr p m).C (behP dr p m).A (behP dr p m).B u hok2.c hok2.a hok2.b
        rw [hpos2, hT2] at this
        exact this
      · have := Count_ok W0 H0 T0 C0 A0 B0 ao cap ps dr st lo re li pl (behP dr p m).W (behP dr p m).H (behP dr p m).T (behP dr p m).C (behP dr p m).A (behP dr p m).B 1 mx u (hmu u hu) hC0 hA0 hB0 hlo hre (hps u hu) hok2.c hok2.a hok2.b hat2 hq2 (by omega)
        rw [hT2] at this
        refine this.mono fun e w' ⟨h1, h2⟩ => ⟨?_, h1⟩
        have e2 : (⟨(behP dr p m).W, (behP dr p m).H, (behP dr p m).C, 1 - (T' : Int), (behP dr p m).A, (behP dr p m).B⟩ : Po) = behP dr p m := by rw [← hT2]
        rw [e2] at h2
        rcases h2 with ⟨h2, _⟩ | ⟨_, h3⟩
        · rw [ends_one] at h2; exact h2
        · exact absurd h3 (many_one hq2)
end Go.Proofs.YtbglppcbgfkhmabGreatDoor

namespace Go.Proofs.YtbglppcbgfkhmabGreatDoor
open Go.RowKit
attribute [local go_sem ↓] Go.wp_at_zero Go.wp_at_succ

theorem let_cap : ∀ c : Nat, c < 256 → capB (c : Int) = true → letN 1 c = c + 32 ∧ letN 0 c = c ∧ c + 32 < 256 := by decide +kernel
theorem rMarkN (P c : Nat) (w : World) (hP : P ≤ 1) (hc : c < 256) (hcap : capB (c : Int) = true) :
    Calls Tryz.prog 37 #[.int .u8 (c : Int), .int .i64 (P : Int)] w fun e w' => e = .returned (.string ⟨#[(letN P c).toUInt8]⟩) ∧ Below w.heap.size w w' := by
  obtain ⟨h1, h0, h32⟩ := let_cap c hc hcap
  have e : c.toUInt8.toNat = c := u8_back hc
  rcases (by omega : P = 0 ∨ P = 1) with rfl | rfl
  · have := rMark_0 c.toUInt8 w
    rw [e] at this
    rw [h0]; exact this
  · have := rMark_1 c.toUInt8 (c + 32).toUInt8 w (by rw [e, u8_back h32])
    rw [e] at this
    rw [h1]; exact this
end Go.Proofs.YtbglppcbgfkhmabGreatDoor
