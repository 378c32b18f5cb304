/-
  package moves, walked: list, outcome.
  package moves, walked: Moves, Outcome.
-/
import Derived.Test.YtbijadnekoeofaaGreatDoorV15a
namespace Go.Proofs.YtbijadnekoeofaaGreatDoor
open Go.RowKit
attribute [local go_sem ↓] Go.wp_at_zero Go.wp_at_succ

/-- The moves of a position. -/
def movesL (W H T : Nat) (C A B : ByteArray) (ps : List Pc) (dr : Bool) (lo : Nat) (li : Int) (re : Nat) : List Mv :=
  if decO W H T C lo li re = 0 then possL W H T C A B ps dr else []
/-- Its outcome. -/
def outO (W H T : Nat) (C A B : ByteArray) (ps : List Pc) (dr st : Bool) (lo : Nat) (li : Int) (re : Nat) : Int :=
  if decO W H T C lo li re = 0 then (if (possL W H T C A B ps dr).length = 0 then (if st then wonI (1 - (T : Int)) else 3) else 0) else decO W H T C lo li re
theorem possL_len {W H T : Nat} {C A B : ByteArray} {ps : List Pc} {dr : Bool} (hA : A.size ≤ 8) (hB : B.size ≤ 8) (h64 : C.size ≤ 64) : (possL W H T C A B ps dr).length ≤ 4608 := by
  unfold possL
  rw [List.length_append]
  have h1 := goesTo_len W H T C ps C.size
  have h2 : C.size * C.size ≤ 64 * 64 := Nat.mul_le_mul h64 h64
  have h3 : (dropsTo C (cptN (handOf T A B).data.toList (handOf T A B).size) C.size).length ≤ 512 := by
    refine Nat.le_trans (dropsTo_len _ _ _) (show _ ≤ 64 * 8 from Nat.mul_le_mul (by omega) (Nat.le_trans (cptN_le _ _) ?_))
    unfold handOf; split <;> assumption
  cases dr
  · simp; omega
  · simp; omega

set_option maxHeartbeats 2000000 in
set_option maxRecDepth 100000 in
theorem list_any (W H T : Nat) (C A B : ByteArray) (v0 v1 v2 v3 v4 v5 v11 v12 : Value) (ao : Option Addr) (cap : Nat) (ps : List Pc) (dr : Bool) (lo re : Nat) (li : Int) (w : World) (hps : isPcs w ao cap ps) (hok : ∀ p ∈ ps, ∀ z ∈ p.ws, z.ok = true) (hlo8 : lo < 256) (hre8 : re < 256) (hT : T ≤ 1) (hA : A.size ≤ 8) (hB : B.size ≤ 8) (hW : 1 ≤ W ∧ W ≤ 8) (hH : 1 ≤ H ∧ H ≤ 8) (hC : C.size = W * H) :
    Calls Tryz.prog 24 #[.agg #[v0, v1, v2, v3, v4, v5, .slice ao ps.length cap, .bool dr, .int .u8 (lo : Int), .int .i64 li, .int .u8 (re : Int), v11, v12], .agg #[.int .i64 (W : Int), .int .i64 (H : Int), .string C, .int .i64 (T : Int), .string A, .string B]] w fun e w' => ∃ v, e = .returned v ∧ w'.ownsRow w.heap.size 45 3 v (movesL W H T C A B ps dr lo li re).length (mvals (movesL W H T C A B ps dr lo li re)) ∧ Below w.heap.size w w' := by
  have hml : movesL W H T C A B ps dr lo li re = if decO W H T C lo li re = 0 then possL W H T C A B ps dr else [] := rfl
  obtain ⟨n, hn⟩ : ∃ n, n = ps.length := ⟨_, rfl⟩
  obtain ⟨w1, hw1⟩ : ∃ w1, w1 = w.alloc (.cells #[v0, v1, v2, v3, v4, v5, .slice ao n cap, .bool dr, .int .u8 (lo : Int), .int .i64 li, .int .u8 (re : Int), v11, v12] 27 (0, 0)) := ⟨_, rfl⟩
  obtain ⟨w2, hw2⟩ : ∃ w2, w2 = w1.alloc (.cells #[.int .i64 (W : Int), .int .i64 (H : Int), .string C, .int .i64 (T : Int), .string A, .string B] 24 (0, 0)) := ⟨_, rfl⟩
  have hb1 : Below w.heap.size w w1 := by rw [hw1]; exact (Below.refl _ _).alloc (Nat.le_refl _) _
  have hb2 : Below w1.heap.size w1 w2 := by rw [hw2]; exact (Below.refl _ _).alloc (Nat.le_refl _) _
  have s1 : w1.heap.size = w.heap.size + 1 := by rw [hw1]; simp
  have hru : isRu w2 w.heap.size v0 v1 v2 v3 v4 v5 (.slice ao n cap) (.bool dr) (.int .u8 (lo : Int)) (.int .i64 li) (.int .u8 (re : Int)) v11 v12 := isRu.below (show isRu w1 w.heap.size v0 v1 v2 v3 v4 v5 (.slice ao n cap) (.bool dr) (.int .u8 (lo : Int)) (.int .i64 li) (.int .u8 (re : Int)) v11 v12 by rw [hw1]; exact heap_alloc_new w _) hb2 (by omega)
  have hpb : isPb w2 (w.heap.size + 1) W H T C A B := by rw [hw2, ← s1]; exact heap_alloc_new w1 _
  have HBW := hide (hb1.trans (hb2.mono (by omega)))
  have HPB := hide hpb
  have HRU := hide hru
  have HW1 := hide hw1
  have HW2 := hide hw2
  have HD := hide (decided_any W H T C A B v0 v1 v2 v3 v4 v5 (.slice ao ps.length cap) (.bool dr) v11 v12 lo re li w2 hlo8 hre8 hT hW hH hC)
  have HP := hide (fun u (hb : Below w.heap.size w u) => possible_any W H T C A B v0 v1 v2 v3 v4 v5 (.int .u8 (lo : Int)) (.int .i64 li) (.int .u8 (re : Int)) v11 v12 ao cap ps dr u (hps.below hb (Nat.le_refl _)) hok hT hA hB hW hH hC)
  rw [← hn] at HD HP ⊢
  clear hw1 hw2 hb1 hb2 s1 hru hpb hn hps hok hC
  generalize movesL W H T C A B ps dr lo li re = L at *
  generalize possL W H T C A B ps dr = PL at *
  generalize decO W H T C lo li re = o at *
  by_cases ho : o = 0
  · have hb : (o != 0) = false := by simp [ho]
    rw [if_pos ho] at hml
    subst hml
    clear ho
    go_enter Tryz.func24, Tryz.ntmps24
    go_wp2_with fail
    rw [← unhide HW1, ← unhide HW2]
    refine (unhide HD).mono ?_
    rintro e u ⟨rfl, hb1⟩
    have hPn := (unhide HPB).below hb1 (unhide HPB).lt
    have hRn := (unhide HRU).below hb1 (unhide HRU).lt
    have hBn := (unhide HBW).trans (hb1.mono (unhide HBW).size)
    clear HPB HRU HBW HW1 HW2 hb1 HD
    have HPB := hide hPn
    have HRU := hide hRn
    have HBW := hide hBn
    obtain ⟨p0, p1, p2, p3, p4, p5⟩ := hPn.all
    obtain ⟨r0, r1, r2, r3, r4, r5, r6, r7, r8, r9, r10, r11, r12⟩ := hRn.cells
    clear hPn hRn hBn
    go_wp2_with fail
    refine (unhide HP _ (unhide HBW)).mono ?_
    rintro e w3 ⟨v, rfl, hown, hb1⟩
    have HO := hide (World.ownsRow.mono hown (unhide HBW).size)
    have HB2 := hide ((unhide HBW).trans (hb1.mono (unhide HBW).size))
    clear hown hb1 HBW HPB HRU HP
    go_wp2
    go_ret
    exact ⟨_, rfl, unhide HO, unhide HB2⟩
  · have hb : (o != 0) = true := by simp [ho]
    rw [if_neg ho] at hml
    subst hml
    clear ho
    go_enter Tryz.func24, Tryz.ntmps24
    go_wp2_with fail
    rw [← unhide HW1, ← unhide HW2]
    refine (unhide HD).mono ?_
    rintro e u ⟨rfl, hb1⟩
    have hPn := (unhide HPB).below hb1 (unhide HPB).lt
    have hRn := (unhide HRU).below hb1 (unhide HRU).lt
    have hBn := (unhide HBW).trans (hb1.mono (unhide HBW).size)
    clear HPB HRU HBW HW1 HW2 hb1 HD
    have HPB := hide hPn
    have HRU := hide hRn
    have HBW := hide hBn
    obtain ⟨p0, p1, p2, p3, p4, p5⟩ := hPn.all
    obtain ⟨r0, r1, r2, r3, r4, r5, r6, r7, r8, r9, r10, r11, r12⟩ := hRn.cells
    clear hPn hRn hBn
    go_wp2
    go_ret
    exact ⟨_, rfl, World.ownsRow_nil _ _ _ _, unhide HBW⟩

set_option maxHeartbeats 4000000 in
set_option maxRecDepth 100000 in
theorem outcome_any (W H T : Nat) (C A B : ByteArray) (v0 v1 v2 v3 v4 v5 v12 : Value) (ao : Option Addr) (cap : Nat) (ps : List Pc) (dr st : Bool) (lo re : Nat) (li : Int) (w : World) (hps : isPcs w ao cap ps) (hok : ∀ p ∈ ps, ∀ z ∈ p.ws, z.ok = true) (hlo8 : lo < 256) (hre8 : re < 256) (hT : T ≤ 1) (hW : 1 ≤ W ∧ W ≤ 8) (hH : 1 ≤ H ∧ H ≤ 8) (hC : C.size = W * H) :
    Calls Tryz.prog 23 #[.agg #[v0, v1, v2, v3, v4, v5, .slice ao ps.length cap, .bool dr, .int .u8 (lo : Int), .int .i64 li, .int .u8 (re : Int), .bool st, v12], .agg #[.int .i64 (W : Int), .int .i64 (H : Int), .string C, .int .i64 (T : Int), .string A, .string B]] w fun e w' => e = .returned (.int .i64 (outO W H T C A B ps dr st lo li re)) ∧ Below w.heap.size w w' := by
  have hout : outO W H T C A B ps dr st lo li re = if decO W H T C lo li re = 0 then (if (possL W H T C A B ps dr).length = 0 then (if st then wonI (1 - (T : Int)) else 3) else 0) else decO W H T C lo li re := rfl
  obtain ⟨n, hn⟩ : ∃ n, n = ps.length := ⟨_, rfl⟩
  obtain ⟨w1, hw1⟩ : ∃ w1, w1 = w.alloc (.cells #[v0, v1, v2, v3, v4, v5, .slice ao n cap, .bool dr, .int .u8 (lo : Int), .int .i64 li, .int .u8 (re : Int), (.bool st), v12] 27 (0, 0)) := ⟨_, rfl⟩
  obtain ⟨w2, hw2⟩ : ∃ w2, w2 = w1.alloc (.cells #[.int .i64 (W : Int), .int .i64 (H : Int), .string C, .int .i64 (T : Int), .string A, .string B] 24 (0, 0)) := ⟨_, rfl⟩
  have hb1 : Below w.heap.size w w1 := by rw [hw1]; exact (Below.refl _ _).alloc (Nat.le_refl _) _
  have hb2 : Below w1.heap.size w1 w2 := by rw [hw2]; exact (Below.refl _ _).alloc (Nat.le_refl _) _
  have s1 : w1.heap.size = w.heap.size + 1 := by rw [hw1]; simp
  have hru : isRu w2 w.heap.size v0 v1 v2 v3 v4 v5 (.slice ao n cap) (.bool dr) (.int .u8 (lo : Int)) (.int .i64 li) (.int .u8 (re : Int)) (.bool st) v12 := isRu.below (show isRu w1 w.heap.size v0 v1 v2 v3 v4 v5 (.slice ao n cap) (.bool dr) (.int .u8 (lo : Int)) (.int .i64 li) (.int .u8 (re : Int)) (.bool st) v12 by rw [hw1]; exact heap_alloc_new w _) hb2 (by omega)
  have hpb : isPb w2 (w.heap.size + 1) W H T C A B := by rw [hw2, ← s1]; exact heap_alloc_new w1 _
  have HBW := hide (hb1.trans (hb2.mono (by omega)))
  have HPB := hide hpb
  have HRU := hide hru
  have HW1 := hide hw1
  have HW2 := hide hw2
  have HD := hide (decided_any W H T C A B v0 v1 v2 v3 v4 v5 (.slice ao ps.length cap) (.bool dr) (.bool st) v12 lo re li w2 hlo8 hre8 hT hW hH hC)
  have HP := hide (fun u (hb : Below w.heap.size w u) => canMove_any W H T C A B v0 v1 v2 v3 v4 v5 (.int .u8 (lo : Int)) (.int .i64 li) (.int .u8 (re : Int)) (.bool st) v12 ao cap ps dr u (hps.below hb (Nat.le_refl _)) hok hT hW hH hC)
  simp only [can_len W H T C A B ps dr hC] at HP
  rw [← hn] at HD HP ⊢
  clear hw1 hw2 hb1 hb2 s1 hru hpb hn hps hok hC
  generalize outO W H T C A B ps dr st lo li re = R at *
  generalize possL W H T C A B ps dr = PL at *
  generalize decO W H T C lo li re = o at *
  by_cases ho : o = 0
  · have hb : (o != 0) = false := by simp [ho]
    rw [if_pos ho] at hout
    have HOUT := hide hout
    clear ho hout
    go_enter Tryz.func23, Tryz.ntmps23
    go_wp2_with fail
    rw [← unhide HW1, ← unhide HW2]
    refine (unhide HD).mono ?_
    rintro e u ⟨rfl, hb1⟩
    have hPn := (unhide HPB).below hb1 (unhide HPB).lt
    have hRn := (unhide HRU).below hb1 (unhide HRU).lt
    have hBn := (unhide HBW).trans (hb1.mono (unhide HBW).size)
    clear HPB HRU HBW HW1 HW2 hb1 HD
    have HPB := hide hPn
    have HRU := hide hRn
    have HBW := hide hBn
    obtain ⟨p0, p1, p2, p3, p4, p5⟩ := hPn.all
    obtain ⟨r0, r1, r2, r3, r4, r5, r6, r7, r8, r9, r10, r11, r12⟩ := hRn.cells
    clear hPn hRn hBn
    go_wp2_with fail
    refine (unhide HP _ (unhide HBW)).mono ?_
    rintro e w3 ⟨rfl, hb1⟩
    have hPn := (unhide HPB).below hb1 (unhide HPB).lt
    have hRn := (unhide HRU).below hb1 (unhide HRU).lt
    have hBn := (unhide HBW).trans (hb1.mono (unhide HBW).size)
    clear HPB HRU HBW hb1 HP p0 p1 p2 p3 p4 p5 r0 r1 r2 r3 r4 r5 r6 r7 r8 r9 r10 r11 r12
    have HBW := hide hBn
    obtain ⟨-, -, -, p3, -⟩ := hPn.all
    obtain ⟨-, -, -, -, -, -, -, -, -, -, -, r11, -⟩ := hRn.cells
    clear hPn hRn hBn
    generalize PL.length = m at *
    by_cases hm : m = 0
    · have hd : decide (m ≠ 0) = false := by simp [hm]
      rw [hd]
      have ho2 := unhide HOUT
      rw [if_pos hm] at ho2
      have HO2 := hide ho2
      clear hm ho2 HOUT hd
      cases st with
      | true =>
        go_wp2_with fail
        refine (wonBy_any _ _).mono ?_
        rintro e w4 ⟨rfl, rfl⟩
        go_wp2
        go_ret
        exact ⟨by rw [unhide HO2]; rfl, unhide HBW⟩
      | false =>
        go_wp2
        go_ret
        exact ⟨by rw [unhide HO2]; rfl, unhide HBW⟩
    · have hd : decide (m ≠ 0) = true := by simp [hm]
      rw [hd]
      have ho2 := unhide HOUT
      rw [if_neg hm] at ho2
      have HO2 := hide ho2
      clear hm ho2 HOUT hd
      go_wp2
      go_ret
      exact ⟨by rw [unhide HO2]; rfl, unhide HBW⟩
  · have hb : (o != 0) = true := by simp [ho]
    rw [if_neg ho] at hout
    have HOUT := hide hout
    clear ho hout
    go_enter Tryz.func23, Tryz.ntmps23
    go_wp2_with fail
    rw [← unhide HW1, ← unhide HW2]
    refine (unhide HD).mono ?_
    rintro e u ⟨rfl, hb1⟩
    have hPn := (unhide HPB).below hb1 (unhide HPB).lt
    have hRn := (unhide HRU).below hb1 (unhide HRU).lt
    have hBn := (unhide HBW).trans (hb1.mono (unhide HBW).size)
    clear HPB HRU HBW HW1 HW2 hb1 HD
    have HPB := hide hPn
    have HRU := hide hRn
    have HBW := hide hBn
    obtain ⟨p0, p1, p2, p3, p4, p5⟩ := hPn.all
    obtain ⟨r0, r1, r2, r3, r4, r5, r6, r7, r8, r9, r10, r11, r12⟩ := hRn.cells
    clear hPn hRn hBn
    go_wp2
    go_ret
    exact ⟨by rw [unhide HOUT]; rfl, unhide HBW⟩
end Go.Proofs.YtbijadnekoeofaaGreatDoor

namespace Go.Proofs.YtbijadnekoeofaaGreatDoor
open Go.RowKit
attribute [local go_sem ↓] Go.wp_at_zero Go.wp_at_succ

theorem okP_ways : ∀ (ps : List Pc) (S : Nat), okP S ps = true → ∀ p ∈ ps, ∀ z ∈ p.ws, z.ok = true
  | [], _, _, p, hp => by cases hp
  | q :: t, S, h, p, hp => by
    rw [okP, Bool.and_eq_true, Bool.and_eq_true] at h
    rcases List.mem_cons.1 hp with rfl | hp
    · have := h.1.1
      simp only [pcB, Bool.and_eq_true, List.all_eq_true] at this
      exact this.2
    · exact okP_ways t _ h.2 p hp
/-- What a position of rules is. -/
structure AtF (ps : List Pc) (W H T : Int) (C A B : ByteArray) (W' H' T' : Nat) : Prop where
  w : W = W'
  h : H = H'
  t : T = T'
  t1 : T' ≤ 1
  w1 : 1 ≤ W' ∧ W' ≤ 8
  h1 : 1 ≤ H' ∧ H' ≤ 8
  c : C.size = W' * H'
  a : A.size ≤ 8
  b : B.size ≤ 8
  ok : ∀ p ∈ ps, ∀ z ∈ p.ws, z.ok = true
theorem at_facts {W0 H0 T0 : Int} {C0 A0 B0 : List UInt8} {ps : List Pc} {lo re : Nat} {li pl W H T : Int} {C A B : ByteArray} (h : atB W0 H0 C0 T0 A0 B0 ps lo li re pl W H C.data.toList T A.data.toList B.data.toList = true) : ∃ W' H' T' : Nat, AtF ps W H T C A B W' H' T' := by
  unfold atB rulesB posB at h
  simp only [Bool.and_eq_true, Bool.or_eq_true, decide_eq_true_eq, sideB, handB, psB, len_data] at h
  obtain ⟨⟨⟨⟨⟨⟨⟨⟨⟨⟨⟨-, hps⟩, -⟩, -⟩, -⟩, -⟩, -⟩, -⟩, hpos⟩, -⟩, -⟩, -⟩ := h
  obtain ⟨⟨⟨⟨⟨hW, hH⟩, hC, -⟩, hT⟩, hA, -⟩, hB, -⟩ := hpos
  refine ⟨W.toNat, H.toNat, T.toNat, by omega, by omega, by omega, by omega, by omega, by omega, ?_, by omega, by omega, okP_ways _ _ hps⟩
  have e1 : ((W.toNat * H.toNat : Nat) : Int) = W * H := by rw [Int.natCast_mul, Int.toNat_of_nonneg (by omega), Int.toNat_of_nonneg (by omega)]
  omega

set_option maxHeartbeats 4000000 in
set_option maxRecDepth 100000 in
theorem Moves_ok (W0 H0 T0 : Int) (C0 A0 B0 : ByteArray) (ao : Option Addr) (cap : Nat) (ps : List Pc) (dr st : Bool) (lo re : Nat) (li pl : Int) (W H T : Int) (C A B : ByteArray) (w : World) (hC0 : C0.size ≤ maxLen) (hA0 : A0.size ≤ maxLen) (hB0 : B0.size ≤ maxLen) (hlo : lo < 256) (hre : re < 256) (h : isPcs w ao cap ps) (hC : C.size ≤ maxLen) (hA : A.size ≤ maxLen) (hB : B.size ≤ maxLen)
    (hat : atB W0 H0 C0.data.toList T0 A0.data.toList B0.data.toList ps lo li re pl W H C.data.toList T A.data.toList B.data.toList = true) (W' H' T' : Nat) (hf : AtF ps W H T C A B W' H' T') :
    Calls Tryz.prog 9 #[.agg #[.int .i64 W0, .int .i64 H0, .string C0, .int .i64 T0, .string A0, .string B0, .slice ao ps.length cap, .bool dr, .int .u8 (lo : Int), .int .i64 li, .int .u8 (re : Int), .bool st, .int .i64 pl], .agg #[.int .i64 W, .int .i64 H, .string C, .int .i64 T, .string A, .string B]] w fun e w' => ∃ v, e = .returned (.tuple #[v, .int .i64 0]) ∧ w'.ownsRow w.heap.size 45 3 v (movesL W' H' T' C A B ps dr lo li re).length (mvals (movesL W' H' T' C A B ps dr lo li re)) ∧ Below w.heap.size w w' := by
  obtain ⟨n, hn⟩ : ∃ n, n = ps.length := ⟨_, rfl⟩
  obtain ⟨w1, hw1⟩ : ∃ w1, w1 = w.alloc (.cells #[.int .i64 W0, .int .i64 H0, .string C0, .int .i64 T0, .string A0, .string B0, .slice ao n cap, .bool dr, .int .u8 (lo : Int), .int .i64 li, .int .u8 (re : Int), .bool st, .int .i64 pl] 27 (0, 0)) := ⟨_, rfl⟩
  obtain ⟨w2, hw2⟩ : ∃ w2, w2 = w1.alloc (.cells #[.int .i64 W, .int .i64 H, .string C, .int .i64 T, .string A, .string B] 24 (0, 0)) := ⟨_, rfl⟩
  have hb1 : Below w.heap.size w w1 := by rw [hw1]; exact (Below.refl _ _).alloc (Nat.le_refl _) _
  have hb2 : Below w1.heap.size w1 w2 := by rw [hw2]; exact (Below.refl _ _).alloc (Nat.le_refl _) _
  have s1 : w1.heap.size = w.heap.size + 1 := by rw [hw1]; simp
  have hru : isRu w2 w.heap.size (.int .i64 W0) (.int .i64 H0) (.string C0) (.int .i64 T0) (.string A0) (.string B0) (.slice ao n cap) (.bool dr) (.int .u8 (lo : Int)) (.int .i64 li) (.int .u8 (re : Int)) (.bool st) (.int .i64 pl) := isRu.below (show isRu w1 w.heap.size (.int .i64 W0) (.int .i64 H0) (.string C0) (.int .i64 T0) (.string A0) (.string B0) (.slice ao n cap) (.bool dr) (.int .u8 (lo : Int)) (.int .i64 li) (.int .u8 (re : Int)) (.bool st) (.int .i64 pl) by rw [hw1]; exact heap_alloc_new w _) hb2 (by omega)
  have hpb : isPb w2 (w.heap.size + 1) W H T C A B := by rw [hw2, ← s1]; exact heap_alloc_new w1 _
  have hbw := hb1.trans (hb2.mono (show w.heap.size ≤ w1.heap.size by omega))
  have HBW := hide hbw
  have HPB := hide hpb
  have HRU := hide hru
  have HW1 := hide hw1
  have HW2 := hide hw2
  have HK := hide (rCheckPosition_any W0 H0 T0 C0 A0 B0 ao cap ps dr st lo re li pl W H T C A B w2 hC0 hA0 hB0 hlo hre (h.below hbw (Nat.le_refl _)) hC hA hB)
  rw [hat] at HK
  rw [show errI true = 0 from rfl] at HK
  have HL := hide (fun u (hb : Below w.heap.size w u) => list_any W' H' T' C A B (.int .i64 W0) (.int .i64 H0) (.string C0) (.int .i64 T0) (.string A0) (.string B0) (.bool st) (.int .i64 pl) ao cap ps dr lo re li u (h.below hb (Nat.le_refl _)) hf.ok hlo hre hf.t1 hf.a hf.b hf.w1 hf.h1 hf.c)
  rw [← hf.w, ← hf.h, ← hf.t, ← hn] at HL
  rw [← hn] at HK ⊢
  clear hat hw1 hw2 hb1 hb2 s1 hru hpb hbw hn h hf
  generalize movesL W' H' T' C A B ps dr lo li re = L at *
  go_enter Tryz.func9, Tryz.ntmps9
  go_wp2_with fail
  rw [← unhide HW1, ← unhide HW2]
  refine (unhide HK).mono ?_
  rintro e u ⟨rfl, hb1⟩
  have hPn := (unhide HPB).below hb1 (unhide HPB).lt
  have hRn := (unhide HRU).below hb1 (unhide HRU).lt
  have hBn := (unhide HBW).trans (hb1.mono (unhide HBW).size)
  clear HPB HRU HBW HW1 HW2 hb1 HK
  have HPB := hide hPn
  have HRU := hide hRn
  have HBW := hide hBn
  obtain ⟨p0, p1, p2, p3, p4, p5⟩ := hPn.all
  obtain ⟨r0, r1, r2, r3, r4, r5, r6, r7, r8, r9, r10, r11, r12⟩ := hRn.cells
  clear hPn hRn hBn
  go_wp2_with fail
  refine (unhide HL _ (unhide HBW)).mono ?_
  rintro e w3 ⟨v, rfl, hown, hb1⟩
  have HO := hide (World.ownsRow.mono hown (unhide HBW).size)
  have HB2 := hide ((unhide HBW).trans (hb1.mono (unhide HBW).size))
  clear hown hb1 HBW HPB HRU HL
  go_wp2
  go_ret2
  exact ⟨_, rfl, unhide HO, unhide HB2⟩

set_option maxHeartbeats 4000000 in
set_option maxRecDepth 100000 in
theorem Outcome_ok (W0 H0 T0 : Int) (C0 A0 B0 : ByteArray) (ao : Option Addr) (cap : Nat) (ps : List Pc) (dr st : Bool) (lo re : Nat) (li pl : Int) (W H T : Int) (C A B : ByteArray) (w : World) (hC0 : C0.size ≤ maxLen) (hA0 : A0.size ≤ maxLen) (hB0 : B0.size ≤ maxLen) (hlo : lo < 256) (hre : re < 256) (h : isPcs w ao cap ps) (hC : C.size ≤ maxLen) (hA : A.size ≤ maxLen) (hB : B.size ≤ maxLen)
    (hat : atB W0 H0 C0.data.toList T0 A0.data.toList B0.data.toList ps lo li re pl W H C.data.toList T A.data.toList B.data.toList = true) (W' H' T' : Nat) (hf : AtF ps W H T C A B W' H' T') :
    Calls Tryz.prog 8 #[.agg #[.int .i64 W0, .int .i64 H0, .string C0, .int .i64 T0, .string A0, .string B0, .slice ao ps.length cap, .bool dr, .int .u8 (lo : Int), .int .i64 li, .int .u8 (re : Int), .bool st, .int .i64 pl], .agg #[.int .i64 W, .int .i64 H, .string C, .int .i64 T, .string A, .string B]] w fun e w' => e = .returned (.tuple #[.int .i64 (outO W' H' T' C A B ps dr st lo li re), .int .i64 0]) ∧ Below w.heap.size w w' := by
  obtain ⟨n, hn⟩ : ∃ n, n = ps.length := ⟨_, rfl⟩
  obtain ⟨w1, hw1⟩ : ∃ w1, w1 = w.alloc (.cells #[.int .i64 W0, .int .i64 H0, .string C0, .int .i64 T0, .string A0, .string B0, .slice ao n cap, .bool dr, .int .u8 (lo : Int), .int .i64 li, .int .u8 (re : Int), .bool st, .int .i64 pl] 27 (0, 0)) := ⟨_, rfl⟩
  obtain ⟨w2, hw2⟩ : ∃ w2, w2 = w1.alloc (.cells #[.int .i64 W, .int .i64 H, .string C, .int .i64 T, .string A, .string B] 24 (0, 0)) := ⟨_, rfl⟩
  have hb1 : Below w.heap.size w w1 := by rw [hw1]; exact (Below.refl _ _).alloc (Nat.le_refl _) _
  have hb2 : Below w1.heap.size w1 w2 := by rw [hw2]; exact (Below.refl _ _).alloc (Nat.le_refl _) _
  have s1 : w1.heap.size = w.heap.size + 1 := by rw [hw1]; simp
  have hru : isRu w2 w.heap.size (.int .i64 W0) (.int .i64 H0) (.string C0) (.int .i64 T0) (.string A0) (.string B0) (.slice ao n cap) (.bool dr) (.int .u8 (lo : Int)) (.int .i64 li) (.int .u8 (re : Int)) (.bool st) (.int .i64 pl) := isRu.below (show isRu w1 w.heap.size (.int .i64 W0) (.int .i64 H0) (.string C0) (.int .i64 T0) (.string A0) (.string B0) (.slice ao n cap) (.bool dr) (.int .u8 (lo : Int)) (.int .i64 li) (.int .u8 (re : Int)) (.bool st) (.int .i64 pl) by rw [hw1]; exact heap_alloc_new w _) hb2 (by omega)
  have hpb : isPb w2 (w.heap.size + 1) W H T C A B := by rw [hw2, ← s1]; exact heap_alloc_new w1 _
  have hbw := hb1.trans (hb2.mono (show w.heap.size ≤ w1.heap.size by omega))
  have HBW := hide hbw
  have HPB := hide hpb
  have HRU := hide hru
  have HW1 := hide hw1
  have HW2 := hide hw2
  have HK := hide (rCheckPosition_any W0 H0 T0 C0 A0 B0 ao cap ps dr st lo re li pl W H T C A B w2 hC0 hA0 hB0 hlo hre (h.below hbw (Nat.le_refl _)) hC hA hB)
  rw [hat] at HK
  rw [show errI true = 0 from rfl] at HK
  have HL := hide (fun u (hb : Below w.heap.size w u) => outcome_any W' H' T' C A B (.int .i64 W0) (.int .i64 H0) (.string C0) (.int .i64 T0) (.string A0) (.string B0) (.int .i64 pl) ao cap ps dr st lo re li u (h.below hb (Nat.le_refl _)) hf.ok hlo hre hf.t1 hf.w1 hf.h1 hf.c)
  rw [← hf.w, ← hf.h, ← hf.t, ← hn] at HL
  rw [← hn] at HK ⊢
  clear hat hw1 hw2 hb1 hb2 s1 hru hpb hbw hn h hf
  generalize outO W' H' T' C A B ps dr st lo li re = O at *
  go_enter Tryz.func8, Tryz.ntmps8
  go_wp2_with fail
  rw [← unhide HW1, ← unhide HW2]
  refine (unhide HK).mono ?_
  rintro e u ⟨rfl, hb1⟩
  have hPn := (unhide HPB).below hb1 (unhide HPB).lt
  have hRn := (unhide HRU).below hb1 (unhide HRU).lt
  have hBn := (unhide HBW).trans (hb1.mono (unhide HBW).size)
  clear HPB HRU HBW HW1 HW2 hb1 HK
  have HPB := hide hPn
  have HRU := hide hRn
  have HBW := hide hBn
  obtain ⟨p0, p1, p2, p3, p4, p5⟩ := hPn.all
  obtain ⟨r0, r1, r2, r3, r4, r5, r6, r7, r8, r9, r10, r11, r12⟩ := hRn.cells
  clear hPn hRn hBn
  go_wp2_with fail
  refine (unhide HL _ (unhide HBW)).mono ?_
  rintro e w3 ⟨rfl, hb1⟩
  have HB2 := hide ((unhide HBW).trans (hb1.mono (unhide HBW).size))
  clear hb1 HBW HPB HRU HL
  go_wp2
  go_ret2
  exact ⟨rfl, unhide HB2⟩
end Go.Proofs.YtbijadnekoeofaaGreatDoor
