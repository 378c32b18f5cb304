/-
  package moves, walked: list, outcome.
  package moves, walked: Moves, Outcome.
  slices.Index, slices.Contains of moves, walked.
  package moves, walked: check.
-/
import Derived.Test.YtihojhfpepbjhaaGreatDoorV15a
import Derived.Test.YtihojhfpepbjhaaGreatDoorJ3
import Derived.BigQuiet
namespace Go.Proofs.YtihojhfpepbjhaaGreatDoor
open Go.RowKit
attribute [local go_sem ↓] Go.wp_at_zero Go.wp_at_succ

theorem row_len {w : World} {base : Nat} {e : TypeId} {size n : Nat} {v : Value} {xs : List Value} (h : w.ownsRow base e size v n xs) : ∃ uo uc, v = .slice uo n uc := by
  rcases h.2 with ⟨h1, h2⟩ | ⟨gg, cap, cur, h1, -⟩
  · have : n = 0 := by omega
    exact ⟨_, _, by rw [h1, this]⟩
  · exact ⟨_, _, h1⟩
/-- The moves of a position. -/
def movesL (W H T : Nat) (C A B : ByteArray) (ps : List Pc) (dr : Bool) (lo : Nat) (li : Int) (re : Nat) : List Mv :=
  if decO W H T C lo li re = 0 then possL W H T C A B ps dr else []
/-- Its outcome. -/
def outO (W H T : Nat) (C A B : ByteArray) (ps : List Pc) (dr st : Bool) (lo : Nat) (li : Int) (re : Nat) : Int :=
  if decO W H T C lo li re = 0 then (if (possL W H T C A B ps dr).length = 0 then (if st then wonI (1 - (T : Int)) else 3) else 0) else decO W H T C lo li re
set_option maxHeartbeats 2000000 in
set_option maxRecDepth 100000 in
theorem list_any (W H T : Nat) (C A B : ByteArray) (v0 v1 v2 v3 v4 v5 v11 v12 : Value) (ao : Option Addr) (cap : Nat) (ps : List Pc) (dr : Bool) (lo re : Nat) (li : Int) (w : World) (hps : isPcs w ao cap ps) (hok : ∀ p ∈ ps, ∀ z ∈ p.ws, z.ok = true) (hlo8 : lo < 256) (hre8 : re < 256) (hT : T ≤ 1) (hA : A.size ≤ 8) (hB : B.size ≤ 8) (hW : 1 ≤ W ∧ W ≤ 8) (hH : 1 ≤ H ∧ H ≤ 8) (hC : C.size = W * H) :
    Calls Tryz.prog 49 #[.agg #[v0, v1, v2, v3, v4, v5, .slice ao ps.length cap, .bool dr, .int .u8 (lo : Int), .int .i64 li, .int .u8 (re : Int), v11, v12], .agg #[.int .i64 (W : Int), .int .i64 (H : Int), .string C, .int .i64 (T : Int), .string A, .string B]] w fun e w' => ∃ v, e = .returned v ∧ w'.ownsRow w.heap.size 61 3 v (movesL W H T C A B ps dr lo li re).length (mvals (movesL W H T C A B ps dr lo li re)) ∧ Below w.heap.size w w' := by
  have hml : movesL W H T C A B ps dr lo li re = if decO W H T C lo li re = 0 then possL W H T C A B ps dr else [] := rfl
  obtain ⟨n, hn⟩ : ∃ n, n = ps.length := ⟨_, rfl⟩
  obtain ⟨w1, hw1⟩ : ∃ w1, w1 = w.alloc (.cells #[v0, v1, v2, v3, v4, v5, .slice ao n cap, .bool dr, .int .u8 (lo : Int), .int .i64 li, .int .u8 (re : Int), v11, v12] 27 (0, 0)) := ⟨_, rfl⟩
  obtain ⟨w2, hw2⟩ : ∃ w2, w2 = w1.alloc (.cells #[.int .i64 (W : Int), .int .i64 (H : Int), .string C, .int .i64 (T : Int), .string A, .string B] 24 (0, 0)) := ⟨_, rfl⟩
  have hb1 : Below w.heap.size w w1 := by rw [hw1]; exact (Below.refl _ _).alloc (Nat.le_refl _) _
  have hb2 : Below w1.heap.size w1 w2 := by rw [hw2]; exact (Below.refl _ _).alloc (Nat.le_refl _) _
  have s1 : w1.heap.size = w.heap.size + 1 := by rw [hw1]; simp
  have hru : isRu w2 w.heap.size v0 v1 v2 v3 v4 v5 (.slice ao n cap) (.bool dr) (.int .u8 (lo : Int)) (.int .i64 li) (.int .u8 (re : Int)) v11 v12 := isRu.below (show isRu w1 w.heap.size v0 v1 v2 v3 v4 v5 (.slice ao n cap) (.bool dr) (.int .u8 (lo : Int)) (.int .i64 li) (.int .u8 (re : Int)) v11 v12 by rw [hw1]; exact heap_alloc_new w _) hb2 (by omega)
  have hpb : isPb w2 (w.heap.size + 1) W H T C A B := by rw [hw2, ← s1]; exact heap_alloc_new w1 _
  have HBW := hide (hb1.trans (hb2.mono (by omega)))
  have HPB := hide hpb
  have HRU := hide hru
  have HW1 := hide hw1
  have HW2 := hide hw2
  have HD := hide (decided_any W H T C A B v0 v1 v2 v3 v4 v5 (.slice ao ps.length cap) (.bool dr) v11 v12 lo re li w2 hlo8 hre8 hT hW hH hC)
  have HP := hide (fun u (hb : Below w.heap.size w u) => possible_any W H T C A B v0 v1 v2 v3 v4 v5 (.int .u8 (lo : Int)) (.int .i64 li) (.int .u8 (re : Int)) v11 v12 ao cap ps dr u (hps.below hb (Nat.le_refl _)) hok hT hA hB hW hH hC)
  rw [← hn] at HD HP ⊢
  clear hw1 hw2 hb1 hb2 s1 hru hpb hn hps hok hC
  generalize movesL W H T C A B ps dr lo li re = L at *
  generalize possL W H T C A B ps dr = PL at *
  generalize decO W H T C lo li re = o at *
  by_cases ho : o = 0
  · have hb : (o != 0) = false := by simp [ho]
    rw [if_pos ho] at hml
    subst hml
    clear ho
    go_enter Tryz.func49, Tryz.ntmps49
    go_wp2_with fail
    rw [← unhide HW1, ← unhide HW2]
    refine (unhide HD).mono ?_
    rintro e u ⟨rfl, hb1⟩
    have hPn := (unhide HPB).below hb1 (unhide HPB).lt
    have hRn := (unhide HRU).below hb1 (unhide HRU).lt
    have hBn := (unhide HBW).trans (hb1.mono (unhide HBW).size)
    clear HPB HRU HBW HW1 HW2 hb1 HD
    have HPB := hide hPn
    have HRU := hide hRn
    have HBW := hide hBn
    obtain ⟨p0, p1, p2, p3, p4, p5⟩ := hPn.all
    obtain ⟨r0, r1, r2, r3, r4, r5, r6, r7, r8, r9, r10, r11, r12⟩ := hRn.cells
    clear hPn hRn hBn
    go_wp2_with fail
    refine (unhide HP _ (unhide HBW)).mono ?_
    rintro e w3 ⟨v, rfl, hown, hb1⟩
    have HO := hide (World.ownsRow.mono hown (unhide HBW).size)
    have HB2 := hide ((unhide HBW).trans (hb1.mono (unhide HBW).size))
    clear hown hb1 HBW HPB HRU HP
    go_wp2
    go_ret
    exact ⟨_, rfl, unhide HO, unhide HB2⟩
  · have hb : (o != 0) = true := by simp [ho]
    rw [if_neg ho] at hml
    subst hml
    clear ho
    go_enter Tryz.func49, Tryz.ntmps49
    go_wp2_with fail
    rw [← unhide HW1, ← unhide HW2]
    refine (unhide HD).mono ?_
    rintro e u ⟨rfl, hb1⟩
    have hPn := (unhide HPB).below hb1 (unhide HPB).lt
    have hRn := (unhide HRU).below hb1 (unhide HRU).lt
    have hBn := (unhide HBW).trans (hb1.mono (unhide HBW).size)
    clear HPB HRU HBW HW1 HW2 hb1 HD
    have HPB := hide hPn
    have HRU := hide hRn
    have HBW := hide hBn
    obtain ⟨p0, p1, p2, p3, p4, p5⟩ := hPn.all
    obtain ⟨r0, r1, r2, r3, r4, r5, r6, r7, r8, r9, r10, r11, r12⟩ := hRn.cells
    clear hPn hRn hBn
    go_wp2
    go_ret
    exact ⟨_, rfl, World.ownsRow_nil _ _ _ _, unhide HBW⟩

set_option maxHeartbeats 4000000 in
set_option maxRecDepth 100000 in
theorem outcome_any (W H T : Nat) (C A B : ByteArray) (v0 v1 v2 v3 v4 v5 v12 : Value) (ao : Option Addr) (cap : Nat) (ps : List Pc) (dr st : Bool) (lo re : Nat) (li : Int) (w : World) (hps : isPcs w ao cap ps) (hok : ∀ p ∈ ps, ∀ z ∈ p.ws, z.ok = true) (hlo8 : lo < 256) (hre8 : re < 256) (hT : T ≤ 1) (hW : 1 ≤ W ∧ W ≤ 8) (hH : 1 ≤ H ∧ H ≤ 8) (hC : C.size = W * H) :
    Calls Tryz.prog 103 #[.agg #[v0, v1, v2, v3, v4, v5, .slice ao ps.length cap, .bool dr, .int .u8 (lo : Int), .int .i64 li, .int .u8 (re : Int), .bool st, v12], .agg #[.int .i64 (W : Int), .int .i64 (H : Int), .string C, .int .i64 (T : Int), .string A, .string B]] w fun e w' => e = .returned (.int .i64 (outO W H T C A B ps dr st lo li re)) ∧ Below w.heap.size w w' := by
  have hout : outO W H T C A B ps dr st lo li re = if decO W H T C lo li re = 0 then (if (possL W H T C A B ps dr).length = 0 then (if st then wonI (1 - (T : Int)) else 3) else 0) else decO W H T C lo li re := rfl
  obtain ⟨n, hn⟩ : ∃ n, n = ps.length := ⟨_, rfl⟩
  obtain ⟨w1, hw1⟩ : ∃ w1, w1 = w.alloc (.cells #[v0, v1, v2, v3, v4, v5, .slice ao n cap, .bool dr, .int .u8 (lo : Int), .int .i64 li, .int .u8 (re : Int), (.bool st), v12] 27 (0, 0)) := ⟨_, rfl⟩
  obtain ⟨w2, hw2⟩ : ∃ w2, w2 = w1.alloc (.cells #[.int .i64 (W : Int), .int .i64 (H : Int), .string C, .int .i64 (T : Int), .string A, .string B] 24 (0, 0)) := ⟨_, rfl⟩
  have hb1 : Below w.heap.size w w1 := by rw [hw1]; exact (Below.refl _ _).alloc (Nat.le_refl _) _
  have hb2 : Below w1.heap.size w1 w2 := by rw [hw2]; exact (Below.refl _ _).alloc (Nat.le_refl _) _
  have s1 : w1.heap.size = w.heap.size + 1 := by rw [hw1]; simp
  have hru : isRu w2 w.heap.size v0 v1 v2 v3 v4 v5 (.slice ao n cap) (.bool dr) (.int .u8 (lo : Int)) (.int .i64 li) (.int .u8 (re : Int)) (.bool st) v12 := isRu.below (show isRu w1 w.heap.size v0 v1 v2 v3 v4 v5 (.slice ao n cap) (.bool dr) (.int .u8 (lo : Int)) (.int .i64 li) (.int .u8 (re : Int)) (.bool st) v12 by rw [hw1]; exact heap_alloc_new w _) hb2 (by omega)
  have hpb : isPb w2 (w.heap.size + 1) W H T C A B := by rw [hw2, ← s1]; exact heap_alloc_new w1 _
  have HBW := hide (hb1.trans (hb2.mono (by omega)))
  have HPB := hide hpb
  have HRU := hide hru
  have HW1 := hide hw1
  have HW2 := hide hw2
  have HD := hide (decided_any W H T C A B v0 v1 v2 v3 v4 v5 (.slice ao ps.length cap) (.bool dr) (.bool st) v12 lo re li w2 hlo8 hre8 hT hW hH hC)
  have HP := hide (fun u (hb : Below w.heap.size w u) => canMove_any W H T C A B v0 v1 v2 v3 v4 v5 (.int .u8 (lo : Int)) (.int .i64 li) (.int .u8 (re : Int)) (.bool st) v12 ao cap ps dr u (hps.below hb (Nat.le_refl _)) hok hT hW hH hC)
  simp only [can_len W H T C A B ps dr hC] at HP
  rw [← hn] at HD HP ⊢
  clear hw1 hw2 hb1 hb2 s1 hru hpb hn hps hok hC
  generalize outO W H T C A B ps dr st lo li re = R at *
  generalize possL W H T C A B ps dr = PL at *
  generalize decO W H T C lo li re = o at *
  by_cases ho : o = 0
  · have hb : (o != 0) = false := by simp [ho]
    rw [if_pos ho] at hout
    have HOUT := hide hout
    clear ho hout
    go_enter Tryz.func103, Tryz.ntmps103
    go_wp2_with fail
    rw [← unhide HW1, ← unhide HW2]
    refine (unhide HD).mono ?_
    rintro e u ⟨rfl, hb1⟩
    have hPn := (unhide HPB).below hb1 (unhide HPB).lt
    have hRn := (unhide HRU).below hb1 (unhide HRU).lt
    have hBn := (unhide HBW).trans (hb1.mono (unhide HBW).size)
    clear HPB HRU HBW HW1 HW2 hb1 HD
    have HPB := hide hPn
    have HRU := hide hRn
    have HBW := hide hBn
    obtain ⟨p0, p1, p2, p3, p4, p5⟩ := hPn.all
    obtain ⟨r0, r1, r2, r3, r4, r5, r6, r7, r8, r9, r10, r11, r12⟩ := hRn.cells
    clear hPn hRn hBn
    go_wp2_with fail
    refine (unhide HP _ (unhide HBW)).mono ?_
    rintro e w3 ⟨rfl, hb1⟩
    have hPn := (unhide HPB).below hb1 (unhide HPB).lt
    have hRn := (unhide HRU).below hb1 (unhide HRU).lt
    have hBn := (unhide HBW).trans (hb1.mono (unhide HBW).size)
    clear HPB HRU HBW hb1 HP p0 p1 p2 p3 p4 p5 r0 r1 r2 r3 r4 r5 r6 r7 r8 r9 r10 r11 r12
    have HBW := hide hBn
    obtain ⟨-, -, -, p3, -⟩ := hPn.all
    obtain ⟨-, -, -, -, -, -, -, -, -, -, -, r11, -⟩ := hRn.cells
    clear hPn hRn hBn
    generalize PL.length = m at *
    by_cases hm : m = 0
    · have hd : decide (m ≠ 0) = false := by simp [hm]
      rw [hd]
      have ho2 := unhide HOUT
      rw [if_pos hm] at ho2
      have HO2 := hide ho2
      clear hm ho2 HOUT hd
      cases st with
      | true =>
        go_wp2_with fail
        refine (wonBy_any _ _).mono ?_
        rintro e w4 ⟨rfl, rfl⟩
        go_wp2
        go_ret
        exact ⟨by rw [unhide HO2]; rfl, unhide HBW⟩
      | false =>
        go_wp2
        go_ret
        exact ⟨by rw [unhide HO2]; rfl, unhide HBW⟩
    · have hd : decide (m ≠ 0) = true := by simp [hm]
      rw [hd]
      have ho2 := unhide HOUT
      rw [if_neg hm] at ho2
      have HO2 := hide ho2
      clear hm ho2 HOUT hd
      go_wp2
      go_ret
      exact ⟨by rw [unhide HO2]; rfl, unhide HBW⟩
  · have hb : (o != 0) = true := by simp [ho]
    rw [if_neg ho] at hout
    have HOUT := hide hout
    clear ho hout
    go_enter Tryz.func103, Tryz.ntmps103
    go_wp2_with fail
    rw [← unhide HW1, ← unhide HW2]
    refine (unhide HD).mono ?_
    rintro e u ⟨rfl, hb1⟩
    have hPn := (unhide HPB).below hb1 (unhide HPB).lt
    have hRn := (unhide HRU).below hb1 (unhide HRU).lt
    have hBn := (unhide HBW).trans (hb1.mono (unhide HBW).size)
    clear HPB HRU HBW HW1 HW2 hb1 HD
    have HPB := hide hPn
    have HRU := hide hRn
    have HBW := hide hBn
    obtain ⟨p0, p1, p2, p3, p4, p5⟩ := hPn.all
    obtain ⟨r0, r1, r2, r3, r4, r5, r6, r7, r8, r9, r10, r11, r12⟩ := hRn.cells
    clear hPn hRn hBn
    go_wp2
    go_ret
    exact ⟨by rw [unhide HOUT]; rfl, unhide HBW⟩
end Go.Proofs.YtihojhfpepbjhaaGreatDoor

namespace Go.Proofs.YtihojhfpepbjhaaGreatDoor
open Go.RowKit
attribute [local go_sem ↓] Go.wp_at_zero Go.wp_at_succ

theorem okP_ways : ∀ (ps : List Pc) (S : Nat), okP S ps = true → ∀ p ∈ ps, ∀ z ∈ p.ws, z.ok = true
  | [], _, _, p, hp => by cases hp
  | q :: t, S, h, p, hp => by
    rw [okP, Bool.and_eq_true, Bool.and_eq_true] at h
    rcases List.mem_cons.1 hp with rfl | hp
    · have := h.1.1
      simp only [pcB, Bool.and_eq_true, List.all_eq_true] at this
      exact this.2
    · exact okP_ways t _ h.2 p hp
/-- What a position of rules is. -/
structure AtF (ps : List Pc) (W H T : Int) (C A B : ByteArray) (W' H' T' : Nat) : Prop where
  w : W = W'
  h : H = H'
  t : T = T'
  t1 : T' ≤ 1
  w1 : 1 ≤ W' ∧ W' ≤ 8
  h1 : 1 ≤ H' ∧ H' ≤ 8
  c : C.size = W' * H'
  a : A.size ≤ 8
  b : B.size ≤ 8
  ok : ∀ p ∈ ps, ∀ z ∈ p.ws, z.ok = true
theorem at_facts {W0 H0 T0 : Int} {C0 A0 B0 : List UInt8} {ps : List Pc} {lo re : Nat} {li pl W H T : Int} {C A B : ByteArray} (h : atB W0 H0 C0 T0 A0 B0 ps lo li re pl W H C.data.toList T A.data.toList B.data.toList = true) : ∃ W' H' T' : Nat, AtF ps W H T C A B W' H' T' := by
  unfold atB rulesB posB at h
  simp only [Bool.and_eq_true, Bool.or_eq_true, decide_eq_true_eq, sideB, handB, psB, len_data] at h
  obtain ⟨⟨⟨⟨⟨⟨⟨⟨⟨⟨⟨-, hps⟩, -⟩, -⟩, -⟩, -⟩, -⟩, -⟩, hpos⟩, -⟩, -⟩, -⟩ := h
  obtain ⟨⟨⟨⟨⟨hW, hH⟩, hC, -⟩, hT⟩, hA, -⟩, hB, -⟩ := hpos
  refine ⟨W.toNat, H.toNat, T.toNat, by omega, by omega, by omega, by omega, by omega, by omega, ?_, by omega, by omega, okP_ways _ _ hps⟩
  have e1 : ((W.toNat * H.toNat : Nat) : Int) = W * H := by rw [Int.natCast_mul, Int.toNat_of_nonneg (by omega), Int.toNat_of_nonneg (by omega)]
  omega

set_option maxHeartbeats 4000000 in
set_option maxRecDepth 100000 in
theorem Outcome_ok (W0 H0 T0 : Int) (C0 A0 B0 : ByteArray) (ao : Option Addr) (cap : Nat) (ps : List Pc) (dr st : Bool) (lo re : Nat) (li pl : Int) (W H T : Int) (C A B : ByteArray) (w : World) (hC0 : C0.size ≤ maxLen) (hA0 : A0.size ≤ maxLen) (hB0 : B0.size ≤ maxLen) (hlo : lo < 256) (hre : re < 256) (h : isPcs w ao cap ps) (hC : C.size ≤ maxLen) (hA : A.size ≤ maxLen) (hB : B.size ≤ maxLen)
    (hat : atB W0 H0 C0.data.toList T0 A0.data.toList B0.data.toList ps lo li re pl W H C.data.toList T A.data.toList B.data.toList = true) (W' H' T' : Nat) (hf : AtF ps W H T C A B W' H' T') :
    Calls Tryz.prog 60 #[.agg #[.int .i64 W0, .int .i64 H0, .string C0, .int .i64 T0, .string A0, .string B0, .slice ao ps.length cap, .bool dr, .int .u8 (lo : Int), .int .i64 li, .int .u8 (re : Int), .bool st, .int .i64 pl], .agg #[.int .i64 W, .int .i64 H, .string C, .int .i64 T, .string A, .string B]] w fun e w' => e = .returned (.tuple #[.int .i64 (outO W' H' T' C A B ps dr st lo li re), .int .i64 0]) ∧ Below w.heap.size w w' := by
  obtain ⟨n, hn⟩ : ∃ n, n = ps.length := ⟨_, rfl⟩
  obtain ⟨w1, hw1⟩ : ∃ w1, w1 = w.alloc (.cells #[.int .i64 W0, .int .i64 H0, .string C0, .int .i64 T0, .string A0, .string B0, .slice ao n cap, .bool dr, .int .u8 (lo : Int), .int .i64 li, .int .u8 (re : Int), .bool st, .int .i64 pl] 27 (0, 0)) := ⟨_, rfl⟩
  obtain ⟨w2, hw2⟩ : ∃ w2, w2 = w1.alloc (.cells #[.int .i64 W, .int .i64 H, .string C, .int .i64 T, .string A, .string B] 24 (0, 0)) := ⟨_, rfl⟩
  have hb1 : Below w.heap.size w w1 := by rw [hw1]; exact (Below.refl _ _).alloc (Nat.le_refl _) _
  have hb2 : Below w1.heap.size w1 w2 := by rw [hw2]; exact (Below.refl _ _).alloc (Nat.le_refl _) _
  have s1 : w1.heap.size = w.heap.size + 1 := by rw [hw1]; simp
  have hru : isRu w2 w.heap.size (.int .i64 W0) (.int .i64 H0) (.string C0) (.int .i64 T0) (.string A0) (.string B0) (.slice ao n cap) (.bool dr) (.int .u8 (lo : Int)) (.int .i64 li) (.int .u8 (re : Int)) (.bool st) (.int .i64 pl) := isRu.below (show isRu w1 w.heap.size (.int .i64 W0) (.int .i64 H0) (.string C0) (.int .i64 T0) (.string A0) (.string B0) (.slice ao n cap) (.bool dr) (.int .u8 (lo : Int)) (.int .i64 li) (.int .u8 (re : Int)) (.bool st) (.int .i64 pl) by rw [hw1]; exact heap_alloc_new w _) hb2 (by omega)
  have hpb : isPb w2 (w.heap.size + 1) W H T C A B := by rw [hw2, ← s1]; exact heap_alloc_new w1 _
  have hbw := hb1.trans (hb2.mono (show w.heap.size ≤ w1.heap.size by omega))
  have HBW := hide hbw
  have HPB := hide hpb
  have HRU := hide hru
  have HW1 := hide hw1
  have HW2 := hide hw2
  have HK := hide (rCheckPosition_any W0 H0 T0 C0 A0 B0 ao cap ps dr st lo re li pl W H T C A B w2 hC0 hA0 hB0 hlo hre (h.below hbw (Nat.le_refl _)) hC hA hB)
  rw [hat] at HK
  rw [show errI true = 0 from rfl] at HK
  have HL := hide (fun u (hb : Below w.heap.size w u) => outcome_any W' H' T' C A B (.int .i64 W0) (.int .i64 H0) (.string C0) (.int .i64 T0) (.string A0) (.string B0) (.int .i64 pl) ao cap ps dr st lo re li u (h.below hb (Nat.le_refl _)) hf.ok hlo hre hf.t1 hf.w1 hf.h1 hf.c)
  rw [← hf.w, ← hf.h, ← hf.t, ← hn] at HL
  rw [← hn] at HK ⊢
  clear hat hw1 hw2 hb1 hb2 s1 hru hpb hbw hn h hf
  generalize outO W' H' T' C A B ps dr st lo li re = O at *
  go_enter Tryz.func60, Tryz.ntmps60
  go_wp2_with fail
  rw [← unhide HW1, ← unhide HW2]
  refine (unhide HK).mono ?_
  rintro e u ⟨rfl, hb1⟩
  have hPn := (unhide HPB).below hb1 (unhide HPB).lt
  have hRn := (unhide HRU).below hb1 (unhide HRU).lt
  have hBn := (unhide HBW).trans (hb1.mono (unhide HBW).size)
  clear HPB HRU HBW HW1 HW2 hb1 HK
  have HPB := hide hPn
  have HRU := hide hRn
  have HBW := hide hBn
  obtain ⟨p0, p1, p2, p3, p4, p5⟩ := hPn.all
  obtain ⟨r0, r1, r2, r3, r4, r5, r6, r7, r8, r9, r10, r11, r12⟩ := hRn.cells
  clear hPn hRn hBn
  go_wp2_with fail
  refine (unhide HL _ (unhide HBW)).mono ?_
  rintro e w3 ⟨rfl, hb1⟩
  have HB2 := hide ((unhide HBW).trans (hb1.mono (unhide HBW).size))
  clear hb1 HBW HPB HRU HL
  go_wp2
  go_ret2
  exact ⟨rfl, unhide HB2⟩
end Go.Proofs.YtihojhfpepbjhaaGreatDoor

namespace Go.Proofs.YtihojhfpepbjhaaGreatDoor
open Go.RowKit
attribute [local go_sem ↓] Go.wp_at_zero Go.wp_at_succ

theorem mvals_at : ∀ (L : List Mv) (i : Nat) (m : Mv), L[i]? = some m → (mvals L)[i * 3]? = some (.int .i64 m.f) ∧ (mvals L)[i * 3 + 1]? = some (.int .i64 (m.t : Int)) ∧ (mvals L)[i * 3 + 2]? = some (.int .u8 (m.c : Int))
  | [], i, x, h => by simp at h
  | y :: L, 0, x, h => by simp at h; subst h; simp [mvals]
  | y :: L, i + 1, x, h => by
    have := mvals_at L i x (by simpa using h)
    rw [show mvals (y :: L) = [.int .i64 y.f, .int .i64 (y.t : Int), .int .u8 (y.c : Int)] ++ mvals L from rfl]
    rw [show (i + 1) * 3 = 3 + i * 3 by omega, show 3 + i * 3 + 1 = 3 + (i * 3 + 1) by omega, show 3 + i * 3 + 2 = 3 + (i * 3 + 2) by omega]
    rw [List.getElem?_append_right (by simp), List.getElem?_append_right (by simp), List.getElem?_append_right (by simp)]
    simpa using this
/-- A slice of moves in memory. -/
def isMvs (w : World) (v : Value) (L : List Mv) : Prop := ∃ ao cap, v = .slice ao L.length cap ∧ L.length ≤ cap ∧ cap ≤ maxLen ∧ ∀ i m, L[i]? = some m → ∃ g off, ao = some ⟨g, off, none⟩ ∧ g < w.heap.size ∧ w.cell? ⟨g, off + i * 3, none⟩ = some (.int .i64 m.f) ∧ w.cell? ⟨g, off + i * 3 + 1, none⟩ = some (.int .i64 (m.t : Int)) ∧ w.cell? ⟨g, off + i * 3 + 2, none⟩ = some (.int .u8 (m.c : Int))
theorem isMvs.of {w : World} {base : Nat} {v : Value} {L : List Mv} (h : w.ownsRow base 61 3 v L.length (mvals L)) : isMvs w v L := by
  have h0 := h
  rcases h.2 with ⟨h1, h2⟩ | ⟨g, cap, cur, h1, hb, hg, hn, hc, -⟩
  · exact ⟨none, 0, by rw [h1, h2], by omega, by unfold maxLen; omega, fun i m hi => by
      have := (List.getElem?_eq_some_iff.1 hi).1
      omega⟩
  · refine ⟨some ⟨g, 0, none⟩, cap, h1, hn, hc, fun i m hi => ⟨g, 0, rfl, (Array.getElem?_eq_some_iff.1 hg).1, ?_⟩⟩
    have hlt := (List.getElem?_eq_some_iff.1 hi).1
    obtain ⟨a0, a1, a2⟩ := mvals_at L i m hi
    rw [h1] at h0
    rw [Nat.zero_add]
    exact ⟨by rw [h0.cellAt _ (by omega)]; exact a0, by rw [h0.cellAt _ (by omega)]; exact a1, by rw [h0.cellAt _ (by omega)]; exact a2⟩
theorem isMvs.below {w w' : World} {v : Value} {L : List Mv} (h : isMvs w v L) (hb : Below w.heap.size w w') : isMvs w' v L := by
  obtain ⟨ao, cap, h1, h2, h3, h4⟩ := h
  refine ⟨ao, cap, h1, h2, h3, fun i m hi => ?_⟩
  obtain ⟨g, off, e, hg, c0, c1, c2⟩ := h4 i m hi
  have := hb.size
  exact ⟨g, off, e, by omega, (hb.cell (by dsimp only; omega)).trans c0, (hb.cell (by dsimp only; omega)).trans c1, (hb.cell (by dsimp only; omega)).trans c2⟩
/-- Is it that move? -/
def eqM (f t : Int) (c : Nat) (m : Mv) : Bool := decide (f = m.f) && decide (t = (m.t : Int)) && decide (c = m.c)
/-- Where it is first. -/
def idxM (f t : Int) (c : Nat) : Nat → List Mv → Int
  | _, [] => -1
  | k, m :: L => if eqM f t c m then (k : Int) else idxM f t c (k + 1) L

theorem eqMove (w : World) (f t f' t' c c' : Int) :
    (Op.equalIn 10000 61 (.agg #[.int .i64 f, .int .i64 t, .int .u8 c]) (.agg #[.int .i64 f', .int .i64 t', .int .u8 c'])).run Tryz.prog w = .ok (f == f' && t == t' && c == c') w := by
  rw [run_equalIn_agg w 9999 61 _ _ (by kernel_rfl) (by kernel_rfl)]
  unfold Program.fieldsOf
  rw [Tryz.underlying61]
  simp [go_sem]
  by_cases h1 : f = f' <;> by_cases h2 : t = t' <;> by_cases h3 : c = c' <;> simp [h1, h2, h3]

set_option maxHeartbeats 4000000 in
set_option maxRecDepth 100000 in
theorem IndexM_any (v : Value) (L : List Mv) (f t : Int) (c : Nat) (w : World) (h : isMvs w v L) :
    Calls Tryz.prog 191 #[v, .agg #[.int .i64 f, .int .i64 t, .int .u8 (c : Int)]] w fun e w' => e = .returned (.int .i64 (idxM f t c 0 L)) ∧ Below w.heap.size w w' := by
  obtain ⟨ao, cap, rfl, hle, hmx, hcs⟩ := h
  obtain ⟨n, hn⟩ : ∃ n, n = L.length := ⟨_, rfl⟩
  rw [← hn] at hle ⊢
  unfold maxLen at hmx
  have hnx : n ≤ 9223372036854775807 := by omega
  have HN := hide hn
  have HCS := hide hcs
  clear hn hcs
  obtain ⟨R, hR⟩ : ∃ R, R = idxM f t c 0 L := ⟨_, rfl⟩
  rw [← hR]
  have HR := hide hR
  clear hR
  obtain ⟨wa, hwa⟩ : ∃ wa, wa = w.alloc (.cells #[.int .i64 f, .int .i64 t, .int .u8 (c : Int)] 61 (0, 0)) := ⟨_, rfl⟩
  have hba : Below w.heap.size w wa := by rw [hwa]; exact (Below.refl _ _).alloc (Nat.le_refl _) _
  have hbx : wa.heap[w.heap.size]? = some (.cells #[.int .i64 f, .int .i64 t, .int .u8 (c : Int)] 61 (0, 0)) := by rw [hwa]; exact heap_alloc_new w _
  have HBA := hide hba
  have HBX := hide hbx
  clear hba hbx
  go_enter Tryz.func191, Tryz.ntmps191
  go_wp2
  rw [← hwa]
  clear hwa
  go_loopw [8] (fun iv wr => ∃ k : Nat, iv = .int .i64 (k : Int) ∧ k ≤ n ∧ Hid (idxM f t c k (L.drop k) = R) ∧ wr.heap[w.heap.size]? = some (.cells #[.int .i64 f, .int .i64 t, .int .u8 (c : Int)] 61 (0, 0)) ∧ Below w.heap.size w wr) (fun iv _ => n - (intOf iv).toNat)
  case atStart => exact ⟨0, rfl, Nat.zero_le _, hide (unhide HR).symm, unhide HBX, unhide HBA⟩
  case round =>
    obtain ⟨k, rfl, hk, HK, hbx, hbw⟩ := hrel
    clear HBX HBA
    by_cases hlt : k < n
    · have hlti : (k : Int) < (n : Int) := by omega
      have hk0 : (0 : Int) ≤ (k : Int) := by omega
      have hkl : k < L.length := by rw [← unhide HN]; exact hlt
      obtain ⟨g, off, eg, hg, c0, c1, c2⟩ := unhide HCS k L[k] (List.getElem?_eq_getElem hkl)
      subst eg
      obtain ⟨m, hm⟩ : ∃ m, m = L[k] := ⟨_, rfl⟩
      rw [← hm] at c0 c1 c2
      have d0 := (hbw.cell (p := ⟨g, off + k * 3, none⟩) hg).trans c0
      have d1 := (hbw.cell (p := ⟨g, off + k * 3 + 1, none⟩) hg).trans c1
      have d2 := (hbw.cell (p := ⟨g, off + k * 3 + 2, none⟩) hg).trans c2
      have x0 : wr.cell? ⟨w.heap.size, 0, none⟩ = some (.int .i64 f) := cell_of_row _ _ _ _ _ _ hbx
      have x1 : wr.cell? ⟨w.heap.size, 1, none⟩ = some (.int .i64 t) := cell_of_row _ _ _ _ _ _ hbx
      have x2 : wr.cell? ⟨w.heap.size, 2, none⟩ = some (.int .u8 (c : Int)) := cell_of_row _ _ _ _ _ _ hbx
      have hst := unhide HK
      rw [List.drop_eq_getElem_cons hkl, ← hm, idxM] at hst
      have he : ∀ u, (Op.equalIn 10000 61 (.agg #[.int .i64 f, .int .i64 t, .int .u8 (c : Int)]) (.agg #[.int .i64 m.f, .int .i64 (m.t : Int), .int .u8 (m.c : Int)])).run Tryz.prog u = .ok (eqM f t c m) u := fun u => by
        rw [eqMove]
        congr 1
        unfold eqM
        rw [Bool.eq_iff_iff]
        simp
        omega
      have HBX := hide hbx
      have HBW := hide hbw
      clear hm c0 c1 c2 hbx hbw
      generalize eqM f t c m = b at hst he
      cases b with
      | true =>
        simp only [if_true] at hst
        have HST := hide hst
        clear hst
        go_wp2_with fail
        go_quiet (fail)
        go_wp2
        go_ret
        exact ⟨by rw [← unhide HST]; rfl, ⟨(unhide HBW).os, (unhide HBW).tape, (unhide HBW).output, (unhide HBW).size, (unhide HBW).block⟩⟩
      | false =>
        simp only [Bool.false_eq_true, if_false] at hst
        have HST := hide hst
        clear hst
        go_wp2_with fail
        go_quiet (fail)
        go_wp2
        go_roundw
        case rel => exact ⟨k + 1, by go_num, by omega, HST, unhide HBX, ⟨(unhide HBW).os, (unhide HBW).tape, (unhide HBW).output, (unhide HBW).size, (unhide HBW).block⟩⟩
        case measure => simp only [intOf]; omega
    · have hlti : ¬ (k : Int) < (n : Int) := by omega
      have hst := unhide HK
      rw [List.drop_eq_nil_of_le (by rw [← unhide HN]; omega), idxM] at hst
      have HST := hide hst
      have HBW := hide hbw
      clear hst hbx hbw
      go_wp2
      go_ret
      exact ⟨by rw [← unhide HST]; rfl, unhide HBW⟩
/-- Is it one of them? -/
def inM (f t : Int) (c : Nat) (L : List Mv) : Bool := L.any (eqM f t c)
theorem idxM_any (f t : Int) (c : Nat) : ∀ (L : List Mv) (k : Nat), decide (0 ≤ idxM f t c k L) = inM f t c L
  | [], k => by simp [idxM, inM]
  | m :: L, k => by
    rw [idxM]
    unfold inM
    rw [List.any_cons]
    cases h : eqM f t c m with
    | true => simp
    | false =>
      simp only [Bool.false_eq_true, if_false, Bool.false_or]
      exact idxM_any f t c L (k + 1)

set_option maxHeartbeats 1000000 in
theorem ContainsM_any (v : Value) (L : List Mv) (f t : Int) (c : Nat) (w : World) (h : isMvs w v L) :
    Calls Tryz.prog 175 #[v, .agg #[.int .i64 f, .int .i64 t, .int .u8 (c : Int)]] w fun e w' => e = .returned (.bool (inM f t c L)) ∧ Below w.heap.size w w' := by
  rw [← idxM_any f t c L 0]
  obtain ⟨wa, hwa⟩ : ∃ wa, wa = w.alloc (.cells #[.int .i64 f, .int .i64 t, .int .u8 (c : Int)] 61 (0, 0)) := ⟨_, rfl⟩
  have hba : Below w.heap.size w wa := by rw [hwa]; exact (Below.refl _ _).alloc (Nat.le_refl _) _
  have HI := hide (IndexM_any v L f t c wa (h.below hba))
  have HBA := hide hba
  clear h hba
  generalize idxM f t c 0 L = R at *
  go_enter Tryz.func175, Tryz.ntmps175
  go_wp2_with fail
  rw [← hwa]
  clear hwa
  refine (unhide HI).mono ?_
  rintro e w1 ⟨rfl, hb1⟩
  have HB1 := hide ((unhide HBA).trans (hb1.mono (unhide HBA).size))
  clear hb1
  go_wp2
  go_ret
  exact ⟨ret_bool rfl, unhide HB1⟩
end Go.Proofs.YtihojhfpepbjhaaGreatDoor

namespace Go.Proofs.YtihojhfpepbjhaaGreatDoor
open Go.RowKit
attribute [local go_sem ↓] Go.wp_at_zero Go.wp_at_succ

/-- A move in a box. -/
def isMb (w : World) (b : Nat) (f t c : Int) : Prop := w.heap[b]? = some (.cells #[.int .i64 f, .int .i64 t, .int .u8 c] 61 (0, 0))
theorem isMb.all {w : World} {b : Nat} {f t c : Int} (h : isMb w b f t c) : w.cell? ⟨b, 0, none⟩ = some (.int .i64 f) ∧ w.cell? ⟨b, 1, none⟩ = some (.int .i64 t) ∧ w.cell? ⟨b, 2, none⟩ = some (.int .u8 c) := by
  unfold isMb at h; simp [World.cell?, h]
theorem isMb.lt {w : World} {b : Nat} {f t c : Int} (h : isMb w b f t c) : b < w.heap.size := (Array.getElem?_eq_some_iff.1 h).1
theorem isMb.below {w w' : World} {b B0 : Nat} {f t c : Int} (h : isMb w b f t c) (hh : Below B0 w w') (hb : b < B0) : isMb w' b f t c := by
  unfold isMb at h ⊢; rw [hh.block b hb]; exact h

theorem entLi : ∀ args (u : World), (callFunc 49 args).run Tryz.prog u = .ok (.enter 49 args) u := enters_of Tryz.func49 (by kernel_rfl) rfl
theorem entCt : ∀ args (u : World), (callFunc 175 args).run Tryz.prog u = .ok (.enter 175 args) u := enters_of Tryz.func175 (by kernel_rfl) rfl
set_option maxHeartbeats 4000000 in
set_option maxRecDepth 100000 in
theorem check_ok (W0 H0 T0 : Int) (C0 A0 B0 : ByteArray) (ao : Option Addr) (cap : Nat) (ps : List Pc) (dr st : Bool) (lo re : Nat) (li pl : Int) (W H T : Int) (C A B : ByteArray) (f t : Int) (c : Nat) (w : World) (hC0 : C0.size ≤ maxLen) (hA0 : A0.size ≤ maxLen) (hB0 : B0.size ≤ maxLen) (hlo : lo < 256) (hre : re < 256) (h : isPcs w ao cap ps) (hC : C.size ≤ maxLen) (hA : A.size ≤ maxLen) (hB : B.size ≤ maxLen)
    (hat : atB W0 H0 C0.data.toList T0 A0.data.toList B0.data.toList ps lo li re pl W H C.data.toList T A.data.toList B.data.toList = true) (W' H' T' : Nat) (hf : AtF ps W H T C A B W' H' T') :
    Calls Tryz.prog 144 #[.agg #[.int .i64 W0, .int .i64 H0, .string C0, .int .i64 T0, .string A0, .string B0, .slice ao ps.length cap, .bool dr, .int .u8 (lo : Int), .int .i64 li, .int .u8 (re : Int), .bool st, .int .i64 pl], .agg #[.int .i64 W, .int .i64 H, .string C, .int .i64 T, .string A, .string B], .agg #[.int .i64 f, .int .i64 t, .int .u8 (c : Int)]] w fun e w' => e = .returned (.int .i64 (if inM f t c (movesL W' H' T' C A B ps dr lo li re) then 0 else 5)) ∧ Below w.heap.size w w' := by
  obtain ⟨n, hn⟩ : ∃ n, n = ps.length := ⟨_, rfl⟩
  obtain ⟨w1, hw1⟩ : ∃ w1, w1 = w.alloc (.cells #[.int .i64 W0, .int .i64 H0, .string C0, .int .i64 T0, .string A0, .string B0, .slice ao n cap, .bool dr, .int .u8 (lo : Int), .int .i64 li, .int .u8 (re : Int), .bool st, .int .i64 pl] 27 (0, 0)) := ⟨_, rfl⟩
  obtain ⟨w2, hw2⟩ : ∃ w2, w2 = w1.alloc (.cells #[.int .i64 W, .int .i64 H, .string C, .int .i64 T, .string A, .string B] 24 (0, 0)) := ⟨_, rfl⟩
  obtain ⟨w3, hw3⟩ : ∃ w3, w3 = w2.alloc (.cells #[.int .i64 f, .int .i64 t, .int .u8 (c : Int)] 61 (0, 0)) := ⟨_, rfl⟩
  have hb1 : Below w.heap.size w w1 := by rw [hw1]; exact (Below.refl _ _).alloc (Nat.le_refl _) _
  have hb2 : Below w1.heap.size w1 w2 := by rw [hw2]; exact (Below.refl _ _).alloc (Nat.le_refl _) _
  have hb3 : Below w2.heap.size w2 w3 := by rw [hw3]; exact (Below.refl _ _).alloc (Nat.le_refl _) _
  have s1 : w1.heap.size = w.heap.size + 1 := by rw [hw1]; simp
  have s2 : w2.heap.size = w.heap.size + 1 + 1 := by rw [hw2]; simp [s1]
  have hru : isRu w3 w.heap.size (.int .i64 W0) (.int .i64 H0) (.string C0) (.int .i64 T0) (.string A0) (.string B0) (.slice ao n cap) (.bool dr) (.int .u8 (lo : Int)) (.int .i64 li) (.int .u8 (re : Int)) (.bool st) (.int .i64 pl) := isRu.below (isRu.below (show isRu w1 w.heap.size (.int .i64 W0) (.int .i64 H0) (.string C0) (.int .i64 T0) (.string A0) (.string B0) (.slice ao n cap) (.bool dr) (.int .u8 (lo : Int)) (.int .i64 li) (.int .u8 (re : Int)) (.bool st) (.int .i64 pl) by rw [hw1]; exact heap_alloc_new w _) hb2 (by omega)) hb3 (by omega)
  have hpb : isPb w3 (w.heap.size + 1) W H T C A B := isPb.below (show isPb w2 (w.heap.size + 1) W H T C A B by rw [hw2, ← s1]; exact heap_alloc_new w1 _) hb3 (by omega)
  have hmb : isMb w3 (w.heap.size + 1 + 1) f t c := by rw [hw3, ← s2]; exact heap_alloc_new w2 _
  have hbw := (hb1.trans (hb2.mono (show w.heap.size ≤ w1.heap.size by omega))).trans (hb3.mono (show w.heap.size ≤ w2.heap.size by omega))
  have HBW := hide hbw
  have HPB := hide hpb
  have HRU := hide hru
  have HMB := hide hmb
  have HW1 := hide hw1
  have HW2 := hide hw2
  have HW3 := hide hw3
  have HK := hide (rCheckPosition_any W0 H0 T0 C0 A0 B0 ao cap ps dr st lo re li pl W H T C A B w3 hC0 hA0 hB0 hlo hre (h.below hbw (Nat.le_refl _)) hC hA hB)
  rw [hat] at HK
  rw [show errI true = 0 from rfl] at HK
  have HL := hide (fun u (hb : Below w.heap.size w u) => list_any W' H' T' C A B (.int .i64 W0) (.int .i64 H0) (.string C0) (.int .i64 T0) (.string A0) (.string B0) (.bool st) (.int .i64 pl) ao cap ps dr lo re li u (h.below hb (Nat.le_refl _)) hf.ok hlo hre hf.t1 hf.a hf.b hf.w1 hf.h1 hf.c)
  rw [← hf.w, ← hf.h, ← hf.t, ← hn] at HL
  rw [← hn] at HK ⊢
  clear hat hw1 hw2 hw3 hb1 hb2 hb3 s1 s2 hru hpb hmb hbw hn h hf
  generalize movesL W' H' T' C A B ps dr lo li re = L at *
  have HCT := hide (fun v u (h : isMvs u v L) => ContainsM_any v L f t c u h)
  obtain ⟨b, hb⟩ : ∃ b, b = inM f t c L := ⟨_, rfl⟩
  rw [← hb] at HCT ⊢
  clear hb
  go_enter Tryz.func144, Tryz.ntmps144
  go_wp2_with fail
  rw [← unhide HW1, ← unhide HW2, ← unhide HW3]
  refine (unhide HK).mono ?_
  rintro e u ⟨rfl, hb1⟩
  have hPn := (unhide HPB).below hb1 (unhide HPB).lt
  have hRn := (unhide HRU).below hb1 (unhide HRU).lt
  have hMn := (unhide HMB).below hb1 (unhide HMB).lt
  have hBn := (unhide HBW).trans (hb1.mono (unhide HBW).size)
  clear HPB HRU HMB HBW HW1 HW2 HW3 hb1 HK
  have HPB := hide hPn
  have HRU := hide hRn
  have HMB := hide hMn
  have HBW := hide hBn
  obtain ⟨p0, p1, p2, p3, p4, p5⟩ := hPn.all
  obtain ⟨r0, r1, r2, r3, r4, r5, r6, r7, r8, r9, r10, r11, r12⟩ := hRn.cells
  obtain ⟨m0, m1, m2⟩ := hMn.all
  clear hPn hRn hMn hBn
  have hBd : Below w.heap.size w u.drew := (unhide HBW).drew
  have HLd := hide (unhide HL u.drew hBd)
  have HKM : Hid (∀ x, Below u.drew.heap.size u.drew x → isMb x (w.heap.size + 1 + 1) f t c) := hide fun x hx => isMb.below (w := u.drew) (unhide HMB) hx (by show _ < u.heap.size; exact (unhide HMB).lt)
  have HFB : Hid (∀ x y, Below u.drew.heap.size u.drew x → Below x.heap.size x y → Below w.heap.size w y) := hide fun x y hx hy => (hBd.trans (hx.mono hBd.size)).trans (hy.mono (Nat.le_trans hBd.size hx.size))
  clear HL hBd
  cases b with
  | true =>
    go_wp2_with fail
    go_region_law (first
      | (refine step_call rfl 49 #[.tmp 14, .tmp 15] #[27, 24] rfl #[.agg #[.int .i64 W0, .int .i64 H0, .string C0, .int .i64 T0, .string A0, .string B0, .slice ao n cap, .bool dr, .int .u8 (lo : Int), .int .i64 li, .int .u8 (re : Int), .bool st, .int .i64 pl], .agg #[.int .i64 W, .int .i64 H, .string C, .int .i64 T, .string A, .string B]] (by simp [Act.eval]) entLi (unhide HLd) ?_; rintro e1 wx ⟨v, rfl, hown, hbx⟩; refine ⟨_, rfl, ?_⟩; have HMV := hide (isMvs.of hown); clear hown; obtain ⟨q0, q1, q2⟩ := (unhide HKM wx hbx).all)
      | (refine step_call rfl 175 #[.tmp 16, .tmp 17] #[56, 61] rfl #[v, .agg #[.int .i64 f, .int .i64 t, .int .u8 (c : Int)]] (by simp [Act.eval]) entCt (unhide HCT v _ (unhide HMV)) ?_; rintro e2 wy ⟨rfl, hby⟩; refine ⟨_, rfl, ?_⟩; have HFY := hide (unhide HFB wx wy hbx hby); clear hby))
    all_goals
      clear hbx q0 q1 q2 p0 p1 p2 p3 p4 p5 r0 r1 r2 r3 r4 r5 r6 r7 r8 r9 r10 r11 r12 m0 m1 m2
      go_wp2
      go_ret
      exact ⟨rfl, unhide HFY⟩
  | false =>
    go_wp2_with fail
    go_region_law (first
      | (refine step_call rfl 49 #[.tmp 14, .tmp 15] #[27, 24] rfl #[.agg #[.int .i64 W0, .int .i64 H0, .string C0, .int .i64 T0, .string A0, .string B0, .slice ao n cap, .bool dr, .int .u8 (lo : Int), .int .i64 li, .int .u8 (re : Int), .bool st, .int .i64 pl], .agg #[.int .i64 W, .int .i64 H, .string C, .int .i64 T, .string A, .string B]] (by simp [Act.eval]) entLi (unhide HLd) ?_; rintro e1 wx ⟨v, rfl, hown, hbx⟩; refine ⟨_, rfl, ?_⟩; have HMV := hide (isMvs.of hown); clear hown; obtain ⟨q0, q1, q2⟩ := (unhide HKM wx hbx).all)
      | (refine step_call rfl 175 #[.tmp 16, .tmp 17] #[56, 61] rfl #[v, .agg #[.int .i64 f, .int .i64 t, .int .u8 (c : Int)]] (by simp [Act.eval]) entCt (unhide HCT v _ (unhide HMV)) ?_; rintro e2 wy ⟨rfl, hby⟩; refine ⟨_, rfl, ?_⟩; have HFY := hide (unhide HFB wx wy hbx hby); clear hby))
    all_goals
      clear hbx q0 q1 q2 p0 p1 p2 p3 p4 p5 r0 r1 r2 r3 r4 r5 r6 r7 r8 r9 r10 r11 r12 m0 m1 m2
      go_wp2
      go_ret
      exact ⟨rfl, unhide HFY⟩
end Go.Proofs.YtihojhfpepbjhaaGreatDoor
