/-
  package moves, walked: Count.
-/
import Derived.Test.YtbglppcbgfkhmabGreatDoorJ27
import Derived.Test.YtbglppcbgfkhmabGreatDoorC5
namespace Go.Proofs.YtbglppcbgfkhmabGreatDoor
open Go.RowKit
attribute [local go_sem ↓] Go.wp_at_zero Go.wp_at_succ

theorem further_P {ps : List Pc} (dr : Bool) (lo : Nat) (li : Int) (re : Nat) (E : List Po) (b : Nat) (v0 v1 v2 v3 v4 v5 v11 v12 : Value) (ao : Option Addr) (cap : Nat) (mx : Int) (w : World) (hm : w.cell? ⟨0, 0, none⟩ = some (.int .i64 mx)) (hps : isPcs w ao cap ps) (hlo8 : lo < 256) (hre8 : re < 256) (hE : ∀ p ∈ E, PoF ps p) (hlen : E.length ≤ 100000) (hc : countsP w b E) :
    Calls Tryz.prog 42 #[.agg #[v0, v1, v2, v3, v4, v5, .slice ao ps.length cap, .bool dr, .int .u8 (lo : Int), .int .i64 li, .int .u8 (re : Int), v11, v12], .map (some b)] w fun e w' => Below w.heap.size w w' ∧
      ((∃ (E' : List Po) (b' : Nat), e = .returned (.tuple #[.map (some b'), .int .i64 (E'.length : Nat)]) ∧ E'.Perm (E.flatMap (nextP ps dr lo li re)) ∧ E'.length ≤ 100000 ∧ countsP w' b' E' ∧ w.heap.size ≤ b') ∨
        ∃ n : Nat, 100000 < n ∧ e = .returned (.tuple #[.map none, .int .i64 (n : Int)]) ∧ 100000 < (E.flatMap (nextP ps dr lo li re)).length) :=
  further_walk (movP ps dr lo li re) (behP dr) E b v0 v1 v2 v3 v4 v5 (.slice ao ps.length cap) (.bool dr) (.int .u8 (lo : Int)) (.int .i64 li) (.int .u8 (re : Int)) v11 v12 w hlen hc (fun p hp => mov_len (hE p hp))
    (fun p hp u hu => list_P dr lo li re (hE p hp) v0 v1 v2 v3 v4 v5 v11 v12 ao cap u (hps.below hu (Nat.le_refl _)) hlo8 hre8)
    (fun p hp _ hmv => ⟨((hE p hp).beh hmv).ok, fun u hu => behind_P (hE p hp) hmv v0 v1 v2 v3 v4 v5 _ _ _ _ v11 v12 mx u ((hu.cell (p := ⟨0, 0, none⟩) (World.block_lt_of_cell? w ⟨0, 0, none⟩ hm)).trans hm)⟩)

/-- Too many ways, at so many moves or before. -/
def manyP (ps : List Pc) (dr : Bool) (lo : Nat) (li : Int) (re : Nat) (p : Po) (d : Nat) : Prop := ∃ i, i ≤ d ∧ 100000 < (endsP ps dr lo li re i p).length

set_option maxHeartbeats 4000000 in
set_option maxRecDepth 100000 in
theorem Count_no (W0 H0 T0 : Int) (C0 A0 B0 : ByteArray) (ao : Option Addr) (cap : Nat) (ps : List Pc) (dr st : Bool) (lo re : Nat) (li pl : Int) (W H T : Int) (C A B : ByteArray) (d : Int) (w : World) (hC0 : C0.size ≤ maxLen) (hA0 : A0.size ≤ maxLen) (hB0 : B0.size ≤ maxLen) (hlo : lo < 256) (hre : re < 256) (h : isPcs w ao cap ps) (hC : C.size ≤ maxLen) (hA : A.size ≤ maxLen) (hB : B.size ≤ maxLen)
    (hat : atB W0 H0 C0.data.toList T0 A0.data.toList B0.data.toList ps lo li re pl W H C.data.toList T A.data.toList B.data.toList = false) :
    Calls Tryz.prog 18 #[.agg #[.int .i64 W0, .int .i64 H0, .string C0, .int .i64 T0, .string A0, .string B0, .slice ao ps.length cap, .bool dr, .int .u8 (lo : Int), .int .i64 li, .int .u8 (re : Int), .bool st, .int .i64 pl], .agg #[.int .i64 W, .int .i64 H, .string C, .int .i64 T, .string A, .string B], .int .i64 d] w fun e w' => e = .returned (.tuple #[.int .i64 0, .int .i64 1]) ∧ Below w.heap.size w w' := by
  obtain ⟨n, hn⟩ : ∃ n, n = ps.length := ⟨_, rfl⟩
  obtain ⟨w1, hw1⟩ : ∃ w1, w1 = w.alloc (.cells #[.int .i64 W0, .int .i64 H0, .string C0, .int .i64 T0, .string A0, .string B0, .slice ao n cap, .bool dr, .int .u8 (lo : Int), .int .i64 li, .int .u8 (re : Int), .bool st, .int .i64 pl] 27 (0, 0)) := ⟨_, rfl⟩
  obtain ⟨w2, hw2⟩ : ∃ w2, w2 = w1.alloc (.cells #[.int .i64 W, .int .i64 H, .string C, .int .i64 T, .string A, .string B] 24 (0, 0)) := ⟨_, rfl⟩
  have hb1 : Below w.heap.size w w1 := by rw [hw1]; exact (Below.refl _ _).alloc (Nat.le_refl _) _
  have hb2 : Below w1.heap.size w1 w2 := by rw [hw2]; exact (Below.refl _ _).alloc (Nat.le_refl _) _
  have s1 : w1.heap.size = w.heap.size + 1 := by rw [hw1]; simp
  have hru : isRu w2 w.heap.size (.int .i64 W0) (.int .i64 H0) (.string C0) (.int .i64 T0) (.string A0) (.string B0) (.slice ao n cap) (.bool dr) (.int .u8 (lo : Int)) (.int .i64 li) (.int .u8 (re : Int)) (.bool st) (.int .i64 pl) := isRu.below (show isRu w1 w.heap.size (.int .i64 W0) (.int .i64 H0) (.string C0) (.int .i64 T0) (.string A0) (.string B0) (.slice ao n cap) (.bool dr) (.int .u8 (lo : Int)) (.int .i64 li) (.int .u8 (re : Int)) (.bool st) (.int .i64 pl) by rw [hw1]; exact heap_alloc_new w _) hb2 (by omega)
  have hpb : isPb w2 (w.heap.size + 1) W H T C A B := by rw [hw2, ← s1]; exact heap_alloc_new w1 _
  have hbw := hb1.trans (hb2.mono (show w.heap.size ≤ w1.heap.size by omega))
  have HBW := hide hbw
  have HPB := hide hpb
  have HRU := hide hru
  have HW1 := hide hw1
  have HW2 := hide hw2
  have HK := hide (rCheckPosition_any W0 H0 T0 C0 A0 B0 ao cap ps dr st lo re li pl W H T C A B w2 hC0 hA0 hB0 hlo hre (h.below hbw (Nat.le_refl _)) hC hA hB)
  rw [hat] at HK
  rw [show errI false = 1 from rfl] at HK
  rw [← hn] at HK ⊢
  clear hat hw1 hw2 hb1 hb2 s1 hru hpb hbw hn h
  go_enter Tryz.func18, Tryz.ntmps18
  go_wp2_with fail
  rw [← unhide HW1, ← unhide HW2]
  refine (unhide HK).mono ?_
  rintro e u ⟨rfl, hb1⟩
  have hPn := (unhide HPB).below hb1 (unhide HPB).lt
  have hRn := (unhide HRU).below hb1 (unhide HRU).lt
  have hBn := (unhide HBW).trans (hb1.mono (unhide HBW).size)
  have hsz : w.heap.size + 2 ≤ u.heap.size := by have := (unhide HPB).lt; have := hb1.size; omega
  clear HPB HRU HBW HW1 HW2 hb1 HK
  have HPB := hide hPn
  have HRU := hide hRn
  have HBW := hide hBn
  obtain ⟨p0, p1, p2, p3, p4, p5⟩ := hPn.all
  clear hPn hRn hBn
  go_wp2
  go_ret2
  exact ⟨rfl, unhide HBW⟩

set_option maxHeartbeats 4000000 in
set_option maxRecDepth 100000 in
theorem Count_range (W0 H0 T0 : Int) (C0 A0 B0 : ByteArray) (ao : Option Addr) (cap : Nat) (ps : List Pc) (dr st : Bool) (lo re : Nat) (li pl : Int) (W H T : Int) (C A B : ByteArray) (d : Int) (w : World) (hC0 : C0.size ≤ maxLen) (hA0 : A0.size ≤ maxLen) (hB0 : B0.size ≤ maxLen) (hlo : lo < 256) (hre : re < 256) (h : isPcs w ao cap ps) (hC : C.size ≤ maxLen) (hA : A.size ≤ maxLen) (hB : B.size ≤ maxLen)
    (hat : atB W0 H0 C0.data.toList T0 A0.data.toList B0.data.toList ps lo li re pl W H C.data.toList T A.data.toList B.data.toList = true) (hd : d < 0 ∨ 6 < d) :
    Calls Tryz.prog 18 #[.agg #[.int .i64 W0, .int .i64 H0, .string C0, .int .i64 T0, .string A0, .string B0, .slice ao ps.length cap, .bool dr, .int .u8 (lo : Int), .int .i64 li, .int .u8 (re : Int), .bool st, .int .i64 pl], .agg #[.int .i64 W, .int .i64 H, .string C, .int .i64 T, .string A, .string B], .int .i64 d] w fun e w' => e = .returned (.tuple #[.int .i64 0, .int .i64 4]) ∧ Below w.heap.size w w' := by
  obtain ⟨n, hn⟩ : ∃ n, n = ps.length := ⟨_, rfl⟩
  obtain ⟨w1, hw1⟩ : ∃ w1, w1 = w.alloc (.cells #[.int .i64 W0, .int .i64 H0, .string C0, .int .i64 T0, .string A0, .string B0, .slice ao n cap, .bool dr, .int .u8 (lo : Int), .int .i64 li, .int .u8 (re : Int), .bool st, .int .i64 pl] 27 (0, 0)) := ⟨_, rfl⟩
  obtain ⟨w2, hw2⟩ : ∃ w2, w2 = w1.alloc (.cells #[.int .i64 W, .int .i64 H, .string C, .int .i64 T, .string A, .string B] 24 (0, 0)) := ⟨_, rfl⟩
  have hb1 : Below w.heap.size w w1 := by rw [hw1]; exact (Below.refl _ _).alloc (Nat.le_refl _) _
  have hb2 : Below w1.heap.size w1 w2 := by rw [hw2]; exact (Below.refl _ _).alloc (Nat.le_refl _) _
  have s1 : w1.heap.size = w.heap.size + 1 := by rw [hw1]; simp
  have hru : isRu w2 w.heap.size (.int .i64 W0) (.int .i64 H0) (.string C0) (.int .i64 T0) (.string A0) (.string B0) (.slice ao n cap) (.bool dr) (.int .u8 (lo : Int)) (.int .i64 li) (.int .u8 (re : Int)) (.bool st) (.int .i64 pl) := isRu.below (show isRu w1 w.heap.size (.int .i64 W0) (.int .i64 H0) (.string C0) (.int .i64 T0) (.string A0) (.string B0) (.slice ao n cap) (.bool dr) (.int .u8 (lo : Int)) (.int .i64 li) (.int .u8 (re : Int)) (.bool st) (.int .i64 pl) by rw [hw1]; exact heap_alloc_new w _) hb2 (by omega)
  have hpb : isPb w2 (w.heap.size + 1) W H T C A B := by rw [hw2, ← s1]; exact heap_alloc_new w1 _
  have hbw := hb1.trans (hb2.mono (show w.heap.size ≤ w1.heap.size by omega))
  have HBW := hide hbw
  have HPB := hide hpb
  have HRU := hide hru
  have HW1 := hide hw1
  have HW2 := hide hw2
  have HK := hide (rCheckPosition_any W0 H0 T0 C0 A0 B0 ao cap ps dr st lo re li pl W H T C A B w2 hC0 hA0 hB0 hlo hre (h.below hbw (Nat.le_refl _)) hC hA hB)
  rw [hat] at HK
  rw [show errI true = 0 from rfl] at HK
  rw [← hn] at HK ⊢
  clear hat hw1 hw2 hb1 hb2 s1 hru hpb hbw hn h
  go_enter Tryz.func18, Tryz.ntmps18
  go_wp2_with fail
  rw [← unhide HW1, ← unhide HW2]
  refine (unhide HK).mono ?_
  rintro e u ⟨rfl, hb1⟩
  have hPn := (unhide HPB).below hb1 (unhide HPB).lt
  have hRn := (unhide HRU).below hb1 (unhide HRU).lt
  have hBn := (unhide HBW).trans (hb1.mono (unhide HBW).size)
  have hsz : w.heap.size + 2 ≤ u.heap.size := by have := (unhide HPB).lt; have := hb1.size; omega
  clear HPB HRU HBW HW1 HW2 hb1 HK
  have HPB := hide hPn
  have HRU := hide hRn
  have HBW := hide hBn
  obtain ⟨p0, p1, p2, p3, p4, p5⟩ := hPn.all
  clear hPn hRn hBn
  clear p0 p1 p2 p3 p4 p5
  by_cases hd0 : d < 0
  · go_wp2
    go_ret2
    exact ⟨rfl, unhide HBW⟩
  · have hd6 : 6 < d := by omega
    go_wp2
    go_ret2
    exact ⟨rfl, unhide HBW⟩

set_option maxHeartbeats 4000000 in
set_option maxRecDepth 100000 in
theorem Count_ok (W0 H0 T0 : Int) (C0 A0 B0 : ByteArray) (ao : Option Addr) (cap : Nat) (ps : List Pc) (dr st : Bool) (lo re : Nat) (li pl : Int) (W H T : Int) (C A B : ByteArray) (d : Nat) (mx : Int) (w : World) (hm : w.cell? ⟨0, 0, none⟩ = some (.int .i64 mx)) (hC0 : C0.size ≤ maxLen) (hA0 : A0.size ≤ maxLen) (hB0 : B0.size ≤ maxLen) (hlo : lo < 256) (hre : re < 256) (h : isPcs w ao cap ps) (hC : C.size ≤ maxLen) (hA : A.size ≤ maxLen) (hB : B.size ≤ maxLen)
    (hat : atB W0 H0 C0.data.toList T0 A0.data.toList B0.data.toList ps lo li re pl W H C.data.toList T A.data.toList B.data.toList = true) (hp : PoF ps ⟨W, H, C, T, A, B⟩) (hd : d ≤ 6) :
    Calls Tryz.prog 18 #[.agg #[.int .i64 W0, .int .i64 H0, .string C0, .int .i64 T0, .string A0, .string B0, .slice ao ps.length cap, .bool dr, .int .u8 (lo : Int), .int .i64 li, .int .u8 (re : Int), .bool st, .int .i64 pl], .agg #[.int .i64 W, .int .i64 H, .string C, .int .i64 T, .string A, .string B], .int .i64 (d : Int)] w fun e w' => Below w.heap.size w w' ∧
      ((e = .returned (.tuple #[.int .i64 ((endsP ps dr lo li re d ⟨W, H, C, T, A, B⟩).length : Nat), .int .i64 0]) ∧ ¬ manyP ps dr lo li re ⟨W, H, C, T, A, B⟩ d) ∨ (e = .returned (.tuple #[.int .i64 0, .int .i64 2]) ∧ manyP ps dr lo li re ⟨W, H, C, T, A, B⟩ d)) := by
  have hmm := @run_makeMap Tryz.prog
  obtain ⟨n, hn⟩ : ∃ n, n = ps.length := ⟨_, rfl⟩
  obtain ⟨w1, hw1⟩ : ∃ w1, w1 = w.alloc (.cells #[.int .i64 W0, .int .i64 H0, .string C0, .int .i64 T0, .string A0, .string B0, .slice ao n cap, .bool dr, .int .u8 (lo : Int), .int .i64 li, .int .u8 (re : Int), .bool st, .int .i64 pl] 27 (0, 0)) := ⟨_, rfl⟩
  obtain ⟨w2, hw2⟩ : ∃ w2, w2 = w1.alloc (.cells #[.int .i64 W, .int .i64 H, .string C, .int .i64 T, .string A, .string B] 24 (0, 0)) := ⟨_, rfl⟩
  have hb1 : Below w.heap.size w w1 := by rw [hw1]; exact (Below.refl _ _).alloc (Nat.le_refl _) _
  have hb2 : Below w1.heap.size w1 w2 := by rw [hw2]; exact (Below.refl _ _).alloc (Nat.le_refl _) _
  have s1 : w1.heap.size = w.heap.size + 1 := by rw [hw1]; simp
  have hru : isRu w2 w.heap.size (.int .i64 W0) (.int .i64 H0) (.string C0) (.int .i64 T0) (.string A0) (.string B0) (.slice ao n cap) (.bool dr) (.int .u8 (lo : Int)) (.int .i64 li) (.int .u8 (re : Int)) (.bool st) (.int .i64 pl) := isRu.below (show isRu w1 w.heap.size (.int .i64 W0) (.int .i64 H0) (.string C0) (.int .i64 T0) (.string A0) (.string B0) (.slice ao n cap) (.bool dr) (.int .u8 (lo : Int)) (.int .i64 li) (.int .u8 (re : Int)) (.bool st) (.int .i64 pl) by rw [hw1]; exact heap_alloc_new w _) hb2 (by omega)
  have hpb : isPb w2 (w.heap.size + 1) W H T C A B := by rw [hw2, ← s1]; exact heap_alloc_new w1 _
  have hbw := hb1.trans (hb2.mono (show w.heap.size ≤ w1.heap.size by omega))
  have HBW := hide hbw
  have HPB := hide hpb
  have HRU := hide hru
  have HW1 := hide hw1
  have HW2 := hide hw2
  have HK := hide (rCheckPosition_any W0 H0 T0 C0 A0 B0 ao cap ps dr st lo re li pl W H T C A B w2 hC0 hA0 hB0 hlo hre (h.below hbw (Nat.le_refl _)) hC hA hB)
  rw [hat] at HK
  rw [show errI true = 0 from rfl] at HK
  have HFU := hide (fun (E : List Po) (b : Nat) (u : World) (hu : Below w.heap.size w u) (hE : ∀ p ∈ E, PoF ps p) (hlen : E.length ≤ 100000) (hc : countsP u b E) => further_P dr lo li re E b (.int .i64 W0) (.int .i64 H0) (.string C0) (.int .i64 T0) (.string A0) (.string B0) (.bool st) (.int .i64 pl) ao cap mx u ((hu.cell (p := ⟨0, 0, none⟩) (World.block_lt_of_cell? w ⟨0, 0, none⟩ hm)).trans hm) (h.below hu (Nat.le_refl _)) hlo hre hE hlen hc)
  have HPo := hide hp
  rw [← hn] at HK HFU ⊢
  have hd0 : ¬ (d : Int) < 0 := by omega
  have hd6 : ¬ (6 : Int) < (d : Int) := by omega
  clear hat hw1 hw2 hb1 hb2 s1 hru hpb hbw hn h hp hm
  go_enter Tryz.func18, Tryz.ntmps18
  go_wp2_with fail
  rw [← unhide HW1, ← unhide HW2]
  refine (unhide HK).mono ?_
  rintro e u ⟨rfl, hb1⟩
  have hPn := (unhide HPB).below hb1 (unhide HPB).lt
  have hRn := (unhide HRU).below hb1 (unhide HRU).lt
  have hBn := (unhide HBW).trans (hb1.mono (unhide HBW).size)
  have hsz : w.heap.size + 2 ≤ u.heap.size := by have := (unhide HPB).lt; have := hb1.size; omega
  clear HPB HRU HBW HW1 HW2 hb1 HK
  have HPB := hide hPn
  have HRU := hide hRn
  have HBW := hide hBn
  obtain ⟨p0, p1, p2, p3, p4, p5⟩ := hPn.all
  clear hPn hRn hBn
  obtain ⟨w3, hw3⟩ : ∃ w3, w3 = u.alloc (.map #[] 0) := ⟨_, rfl⟩
  have hb3 : Below u.heap.size u w3 := by rw [hw3]; exact (Below.refl _ _).alloc (Nat.le_refl _) _
  have hc3 : countsP w3 u.heap.size [] := by rw [hw3]; exact countsP_made u
  obtain ⟨w4, hins, hc4, hg4⟩ := hc3.insert (unhide HPo).ok
  have hins4 : (Instr.mapUpdate 70 (.map (some u.heap.size)) (.agg #[.int .i64 W, .int .i64 H, .string C, .int .i64 T, .string A, .string B]) (.int .i64 1)).run Tryz.prog w3 = .ok () w4 := hins
  have hbw4 : Below w.heap.size w w4 := ((unhide HBW).trans (hb3.mono (by omega))).grown hg4 (by have := hb3.size; omega) (fun k hk => by cases hk; omega)
  have hru4 := ((unhide HRU).of_block (hb3.block _ (by omega))).of_block (hg4.block _ (by have := hb3.size; omega) (by simp; omega))
  have r3 : ∀ o, (u.alloc o).cell? ⟨w.heap.size + 1, 0, none⟩ = some (.int .i64 W) := fun o => (((Below.refl u.heap.size u).alloc (Nat.le_refl _) o).cell (p := ⟨w.heap.size + 1, 0, none⟩) (by dsimp only; omega)).trans p0
  have r4 : ∀ o, (u.alloc o).cell? ⟨w.heap.size + 1, 1, none⟩ = some (.int .i64 H) := fun o => (((Below.refl u.heap.size u).alloc (Nat.le_refl _) o).cell (p := ⟨w.heap.size + 1, 1, none⟩) (by dsimp only; omega)).trans p1
  have r5 : ∀ o, (u.alloc o).cell? ⟨w.heap.size + 1, 2, none⟩ = some (.string C) := fun o => (((Below.refl u.heap.size u).alloc (Nat.le_refl _) o).cell (p := ⟨w.heap.size + 1, 2, none⟩) (by dsimp only; omega)).trans p2
  have r6 : ∀ o, (u.alloc o).cell? ⟨w.heap.size + 1, 3, none⟩ = some (.int .i64 T) := fun o => (((Below.refl u.heap.size u).alloc (Nat.le_refl _) o).cell (p := ⟨w.heap.size + 1, 3, none⟩) (by dsimp only; omega)).trans p3
  have r7 : ∀ o, (u.alloc o).cell? ⟨w.heap.size + 1, 4, none⟩ = some (.string A) := fun o => (((Below.refl u.heap.size u).alloc (Nat.le_refl _) o).cell (p := ⟨w.heap.size + 1, 4, none⟩) (by dsimp only; omega)).trans p4
  have r8 : ∀ o, (u.alloc o).cell? ⟨w.heap.size + 1, 5, none⟩ = some (.string B) := fun o => (((Below.refl u.heap.size u).alloc (Nat.le_refl _) o).cell (p := ⟨w.heap.size + 1, 5, none⟩) (by dsimp only; omega)).trans p5
  have HC4 := hide hc4
  have HB4 := hide hbw4
  have HR4 := hide hru4
  have HW3 := hide hw3
  rw [hw3] at hins4
  clear hc3 hins hc4 hg4 hb3 hbw4 hru4 p0 p1 p2 p3 p4 p5 hw3 HW3
  go_wp2
  clear r3 r4 r5 r6 r7 r8 hins4
  go_loopw [9, 10, 27] (fun mv av iv wr => ∃ (E : List Po) (b a0 i : Nat), mv = .map (some b) ∧ av = .int .i64 (a0 : Int) ∧ iv = .int .i64 (i : Int) ∧ i ≤ d ∧ a0 ≤ 100000 ∧ Hid (E.length = a0) ∧ Hid (E.Perm (endsP ps dr lo li re i ⟨W, H, C, T, A, B⟩)) ∧ Hid (¬ manyP ps dr lo li re ⟨W, H, C, T, A, B⟩ i) ∧ Hid (countsP wr b E) ∧ Hid (isRu wr w.heap.size (.int .i64 W0) (.int .i64 H0) (.string C0) (.int .i64 T0) (.string A0) (.string B0) (.slice ao n cap) (.bool dr) (.int .u8 (lo : Int)) (.int .i64 li) (.int .u8 (re : Int)) (.bool st) (.int .i64 pl)) ∧ Hid (Below w.heap.size w wr)) (fun _ _ iv _ => d - (intOf iv).toNat)
  case atStart =>
    refine ⟨[⟨W, H, C, T, A, B⟩], _, 1, 0, rfl, rfl, rfl, Nat.zero_le _, by omega, hide rfl, hide (List.Perm.refl _), hide ?_, HC4, HR4, HB4⟩
    rintro ⟨i, hi, h1⟩
    obtain rfl : i = 0 := by omega
    simp [endsP] at h1
  case round =>
    obtain ⟨E, b, a0, i, rfl, rfl, rfl, hi, ha0, HA0, HPE, HNM, HC, HR, HBr⟩ := hrel
    clear HC4 HR4 HB4
    by_cases hlt : i < d
    · have hlti : (i : Int) < (d : Int) := by omega
      have hEf : ∀ p ∈ E, PoF ps p := fun p hp => ends_PoF i (unhide HPo) ((unhide HPE).mem_iff.1 hp)
      have HCA := hide (unhide HFU E b wr (unhide HBr) hEf (by rw [unhide HA0]; exact ha0) (unhide HC))
      obtain ⟨r0, r1, r2, r3, r4, r5, r6, r7, r8, r9, r10, r11, r12⟩ := (unhide HR).cells
      have hrl : w.heap.size < wr.heap.size := (unhide HR).lt
      clear hEf HC
      go_wp2_with fail
      refine (unhide HCA).mono ?_
      rintro e w5 ⟨hb5, hor⟩
      have hbw5 := (unhide HBr).trans (hb5.mono (unhide HBr).size)
      have hru5 := (unhide HR).below hb5 hrl
      have HB5 := hide hbw5
      have HR5 := hide hru5
      clear hb5 hbw5 hru5 r0 r1 r2 r3 r4 r5 r6 r7 r8 r9 r10 r11 r12 HCA HR HBr
      rcases hor with ⟨E', b', rfl, hpe, hl5, hc5, -⟩ | ⟨k, hk, rfl, hmany⟩
      · obtain ⟨a5, ha5⟩ : ∃ a5, a5 = E'.length := ⟨_, rfl⟩
        rw [← ha5] at hl5 ⊢
        have hpe5 : E'.Perm (endsP ps dr lo li re (i + 1) ⟨W, H, C, T, A, B⟩) := hpe.trans ((unhide HPE).flatMap_right _)
        have hnm : ¬ manyP ps dr lo li re ⟨W, H, C, T, A, B⟩ (i + 1) := by
          rintro ⟨k, hk, h1⟩
          by_cases hki : k ≤ i
          · exact unhide HNM ⟨k, hki, h1⟩
          · obtain rfl : k = i + 1 := by omega
            rw [← hpe5.length_eq] at h1
            omega
        have HA5 := hide ha5.symm
        have HPE5 := hide hpe5
        have HNM5 := hide hnm
        have HC5 := hide hc5
        have hle : ¬ (100000 : Int) < (a5 : Int) := by omega
        clear hpe hc5 hpe5 hnm ha5
        go_wp2
        go_roundw
        case rel => exact ⟨E', b', a5, i + 1, rfl, rfl, by go_num, by omega, hl5, HA5, HPE5, HNM5, HC5, HR5, HB5⟩
        case measure => simp only [intOf]; omega
      · have hle : (100000 : Int) < (k : Int) := by omega
        have hmm5 : manyP ps dr lo li re ⟨W, H, C, T, A, B⟩ d := by
          refine ⟨i + 1, by omega, ?_⟩
          have := ((unhide HPE).flatMap_right (nextP ps dr lo li re)).length_eq
          show 100000 < ((endsP ps dr lo li re i ⟨W, H, C, T, A, B⟩).flatMap (nextP ps dr lo li re)).length
          omega
        have HM := hide hmm5
        clear hmany hmm5
        go_wp2
        go_ret2
        exact ⟨unhide HB5, .inr ⟨rfl, unhide HM⟩⟩
    · have hlti : ¬ (i : Int) < (d : Int) := by omega
      have hid : i = d := by omega
      clear HC
      go_wp2
      go_ret2
      refine ⟨unhide HBr, .inl ⟨?_, ?_⟩⟩
      · rw [← hid, ← (unhide HPE).length_eq, unhide HA0]
        rfl
      · rw [← hid]
        exact unhide HNM
end Go.Proofs.YtbglppcbgfkhmabGreatDoor
