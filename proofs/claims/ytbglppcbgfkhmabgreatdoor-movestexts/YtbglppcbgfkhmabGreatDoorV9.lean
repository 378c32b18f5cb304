/-
  package moves, walked: decided.
-/
import Derived.Test.YtbglppcbgfkhmabGreatDoorV8
import Derived.Test.YtbglppcbgfkhmabGreatDoorJ4
namespace Go.Proofs.YtbglppcbgfkhmabGreatDoor
open Go.RowKit
attribute [local go_sem ↓] Go.wp_at_zero Go.wp_at_succ

/-- A player's last row. -/
def lastR (W P : Nat) (C : ByteArray) : List UInt8 := if P = 1 then C.data.toList.take W else C.data.toList.drop (C.size - W)
/-- What the pieces on the board say. -/
def decO (W H T : Nat) (C : ByteArray) (lo : Nat) (li : Int) (re : Nat) : Int :=
  if lo ≠ 0 ∧ hasN C.data.toList (letN T lo) = false then wonI (1 - (T : Int))
  else if lo ≠ 0 ∧ hasN C.data.toList (letN (1 - T) lo) = false then wonI T
  else if li ≠ 0 ∧ hasLineB W H (1 - T) C li = true then wonI (1 - (T : Int))
  else if li ≠ 0 ∧ hasLineB W H T C li = true then wonI T
  else if re ≠ 0 ∧ hasN (lastR W (1 - T) C) (letN (1 - T) re) = true then wonI (1 - (T : Int))
  else if re ≠ 0 ∧ hasN (lastR W T C) (letN T re) = true then wonI T
  else 0

set_option maxHeartbeats 4000000 in
set_option maxRecDepth 100000 in
theorem decided_any (W H T : Nat) (C A B : ByteArray) (v0 v1 v2 v3 v4 v5 v6 v7 v11 v12 : Value) (lo re : Nat) (li : Int) (w : World) (hlo8 : lo < 256) (hre8 : re < 256) (hT : T ≤ 1) (hW : 1 ≤ W ∧ W ≤ 8) (hH : 1 ≤ H ∧ H ≤ 8) (hC : C.size = W * H) :
    Calls Tryz.prog 56 #[.agg #[v0, v1, v2, v3, v4, v5, v6, v7, .int .u8 (lo : Int), .int .i64 li, .int .u8 (re : Int), v11, v12], .agg #[.int .i64 (W : Int), .int .i64 (H : Int), .string C, .int .i64 (T : Int), .string A, .string B]] w fun e w' => e = .returned (.int .i64 (decO W H T C lo li re)) ∧ Below w.heap.size w w' := by
  have hTi : (1 : Int) - (T : Int) = ((1 - T : Nat) : Int) := by omega
  have hA1 := fun u => hasPiece_any W H T T lo C A B u hT hlo8
  have hA2 := fun u => hasPiece_any W H T (1 - T) lo C A B u (by omega) hlo8
  have hA3 := fun u => hasLine_any W H (1 - T) T li C A B u (by omega) hW hH hC
  have hA4 := fun u => hasLine_any W H T T li C A B u hT hW hH hC
  have hA5 := fun u => hasReached_any W H T (1 - T) re C A B u (by omega) hre8 hW hH hC
  have hA6 := fun u => hasReached_any W H T T re C A B u hT hre8 hW hH hC
  rw [← hTi] at hA2 hA3 hA5
  obtain ⟨R, hR⟩ : ∃ R, R = decO W H T C lo li re := ⟨_, rfl⟩
  rw [← hR]
  unfold decO at hR
  change ∀ u, Calls Tryz.prog _ _ _ (fun e w' => e = .returned (.bool (hasN (lastR W (1 - T) C) (letN (1 - T) re))) ∧ _) at hA5
  change ∀ u, Calls Tryz.prog _ _ _ (fun e w' => e = .returned (.bool (hasN (lastR W T C) (letN T re))) ∧ _) at hA6
  generalize hasN C.data.toList (letN T lo) = a1 at hA1 hR
  generalize hasN C.data.toList (letN (1 - T) lo) = a2 at hA2 hR
  generalize hasLineB W H (1 - T) C li = a3 at hA3 hR
  generalize hasLineB W H T C li = a4 at hA4 hR
  generalize hasN (lastR W (1 - T) C) (letN (1 - T) re) = a5 at hA5 hR
  generalize hasN (lastR W T C) (letN T re) = a6 at hA6 hR
  have HA1 := hide hA1
  have HA2 := hide hA2
  have HA3 := hide hA3
  have HA4 := hide hA4
  have HA5 := hide hA5
  have HA6 := hide hA6
  have HR := hide hR
  obtain ⟨w1, hw1⟩ : ∃ w1, w1 = w.alloc (.cells #[v0, v1, v2, v3, v4, v5, v6, v7, .int .u8 (lo : Int), .int .i64 li, .int .u8 (re : Int), v11, v12] 27 (0, 0)) := ⟨_, rfl⟩
  obtain ⟨w2, hw2⟩ : ∃ w2, w2 = w1.alloc (.cells #[.int .i64 (W : Int), .int .i64 (H : Int), .string C, .int .i64 (T : Int), .string A, .string B] 24 (0, 0)) := ⟨_, rfl⟩
  have hb1 : Below w.heap.size w w1 := by rw [hw1]; exact (Below.refl _ _).alloc (Nat.le_refl _) _
  have hb2 : Below w1.heap.size w1 w2 := by rw [hw2]; exact (Below.refl _ _).alloc (Nat.le_refl _) _
  have s1 : w1.heap.size = w.heap.size + 1 := by rw [hw1]; simp
  have hru : isRu w2 w.heap.size v0 v1 v2 v3 v4 v5 v6 v7 (.int .u8 (lo : Int)) (.int .i64 li) (.int .u8 (re : Int)) v11 v12 := isRu.below (show isRu w1 w.heap.size v0 v1 v2 v3 v4 v5 v6 v7 (.int .u8 (lo : Int)) (.int .i64 li) (.int .u8 (re : Int)) v11 v12 by rw [hw1]; exact heap_alloc_new w _) hb2 (by omega)
  have hpb : isPb w2 (w.heap.size + 1) W H T C A B := by rw [hw2, ← s1]; exact heap_alloc_new w1 _
  have HBW := hide (hb1.trans (hb2.mono (by omega)))
  have HPB := hide hpb
  have HRU := hide hru
  have HW1 := hide hw1
  have HW2 := hide hw2
  obtain ⟨p0, p1, p2, p3, p4, p5⟩ := (unhide HPB).all
  obtain ⟨-, -, -, -, -, -, -, -, r8, r9, r10, -, -⟩ := (unhide HRU).cells
  clear hA1 hA2 hA3 hA4 hA5 hA6 hR hw1 hw2 hb1 hb2 s1 hru hpb hC hTi
  have hTb : (0 : Int) ≤ (T : Int) ∧ (T : Int) ≤ 1 := by omega
  go_enter Tryz.func56, Tryz.ntmps56
  go_wp2_with fail
  rw [← unhide HW1, ← unhide HW2]
  go_quiet (fail)
  obtain ⟨u, hu⟩ : ∃ u, u = w2.drewN nq := ⟨_, rfl⟩
  have hP2 : isPb u (w.heap.size + 1) W H T C A B := by rw [hu]; exact unhide HPB
  have hR2 : isRu u w.heap.size v0 v1 v2 v3 v4 v5 v6 v7 (.int .u8 (lo : Int)) (.int .i64 li) (.int .u8 (re : Int)) v11 v12 := by rw [hu]; exact unhide HRU
  have hB2 : Below w.heap.size w u := by rw [hu]; exact ⟨(unhide HBW).os, (unhide HBW).tape, (unhide HBW).output, (unhide HBW).size, (unhide HBW).block⟩
  rw [← hu]
  clear hu HPB HRU HBW HW1 HW2 p0 p1 p2 p3 p4 p5 r8 r9 r10
  have HPB := hide hP2
  have HRU := hide hR2
  have HBW := hide hB2
  clear hP2 hR2 hB2
  obtain ⟨p0, p1, p2, p3, p4, p5⟩ := (unhide HPB).all
  obtain ⟨-, -, -, -, -, -, -, -, r8, r9, r10, -, -⟩ := (unhide HRU).cells
  by_cases hlo : lo = 0
  · have hb : ((lo : Int) != 0) = false := by simp; omega
    have HLO := hide hlo
    clear hlo
    by_cases hli : li = 0
    · have hbl : (li != 0) = false := by simp [hli]
      have HLI := hide hli
      clear hli
      by_cases hre : re = 0
      · have hbr : ((re : Int) != 0) = false := by simp; omega
        have HRE := hide hre
        clear hre
        go_wp2
        go_ret
        exact ⟨by rw [unhide HR]; simp [unhide HLO, unhide HLI, unhide HRE], unhide HBW⟩
      · have hbr : ((re : Int) != 0) = true := by simp; omega
        have HRE := hide hre
        clear hre
        go_wp2_with fail
        refine (unhide HA5 _).mono ?_
        rintro e v ⟨rfl, hb1⟩
        have hPn := (unhide HPB).below hb1 (unhide HPB).lt
        have hRn := (unhide HRU).below hb1 (unhide HRU).lt
        have hBn := (unhide HBW).trans (hb1.mono (unhide HBW).size)
        clear HPB HRU HBW p0 p1 p2 p3 p4 p5 r8 r9 r10 hb1
        have HPB := hide hPn
        have HRU := hide hRn
        have HBW := hide hBn
        clear hPn hRn hBn
        obtain ⟨p0, p1, p2, p3, p4, p5⟩ := (unhide HPB).all
        obtain ⟨-, -, -, -, -, -, -, -, r8, r9, r10, -, -⟩ := (unhide HRU).cells
        cases a5 with
        | true =>
          go_wp2_with fail
          refine (wonBy_any _ _).mono ?_
          rintro e v ⟨rfl, rfl⟩
          go_wp2
          go_ret
          exact ⟨by rw [unhide HR]; simp [unhide HLO, unhide HLI, unhide HRE], unhide HBW⟩
        | false =>
          go_wp2_with fail
          refine (unhide HA6 _).mono ?_
          rintro e v ⟨rfl, hb1⟩
          have hPn := (unhide HPB).below hb1 (unhide HPB).lt
          have hRn := (unhide HRU).below hb1 (unhide HRU).lt
          have hBn := (unhide HBW).trans (hb1.mono (unhide HBW).size)
          clear HPB HRU HBW p0 p1 p2 p3 p4 p5 r8 r9 r10 hb1
          have HPB := hide hPn
          have HRU := hide hRn
          have HBW := hide hBn
          clear hPn hRn hBn
          obtain ⟨p0, p1, p2, p3, p4, p5⟩ := (unhide HPB).all
          obtain ⟨-, -, -, -, -, -, -, -, r8, r9, r10, -, -⟩ := (unhide HRU).cells
          cases a6 with
          | true =>
            go_wp2_with fail
            refine (wonBy_any _ _).mono ?_
            rintro e v ⟨rfl, rfl⟩
            go_wp2
            go_ret
            exact ⟨by rw [unhide HR]; simp [unhide HLO, unhide HLI, unhide HRE], unhide HBW⟩
          | false =>
            go_wp2
            go_ret
            exact ⟨by rw [unhide HR]; simp [unhide HLO, unhide HLI, unhide HRE], unhide HBW⟩
    · have hbl : (li != 0) = true := by simp [hli]
      have HLI := hide hli
      clear hli
      go_wp2_with fail
      refine (unhide HA3 _).mono ?_
      rintro e v ⟨rfl, hb1⟩
      have hPn := (unhide HPB).below hb1 (unhide HPB).lt
      have hRn := (unhide HRU).below hb1 (unhide HRU).lt
      have hBn := (unhide HBW).trans (hb1.mono (unhide HBW).size)
      clear HPB HRU HBW p0 p1 p2 p3 p4 p5 r8 r9 r10 hb1
      have HPB := hide hPn
      have HRU := hide hRn
      have HBW := hide hBn
      clear hPn hRn hBn
      obtain ⟨p0, p1, p2, p3, p4, p5⟩ := (unhide HPB).all
      obtain ⟨-, -, -, -, -, -, -, -, r8, r9, r10, -, -⟩ := (unhide HRU).cells
      cases a3 with
      | true =>
        go_wp2_with fail
        refine (wonBy_any _ _).mono ?_
        rintro e v ⟨rfl, rfl⟩
        go_wp2
        go_ret
        exact ⟨by rw [unhide HR]; simp [unhide HLO, unhide HLI], unhide HBW⟩
      | false =>
        go_wp2_with fail
        refine (unhide HA4 _).mono ?_
        rintro e v ⟨rfl, hb1⟩
        have hPn := (unhide HPB).below hb1 (unhide HPB).lt
        have hRn := (unhide HRU).below hb1 (unhide HRU).lt
        have hBn := (unhide HBW).trans (hb1.mono (unhide HBW).size)
        clear HPB HRU HBW p0 p1 p2 p3 p4 p5 r8 r9 r10 hb1
        have HPB := hide hPn
        have HRU := hide hRn
        have HBW := hide hBn
        clear hPn hRn hBn
        obtain ⟨p0, p1, p2, p3, p4, p5⟩ := (unhide HPB).all
        obtain ⟨-, -, -, -, -, -, -, -, r8, r9, r10, -, -⟩ := (unhide HRU).cells
        cases a4 with
        | true =>
          go_wp2_with fail
          refine (wonBy_any _ _).mono ?_
          rintro e v ⟨rfl, rfl⟩
          go_wp2
          go_ret
          exact ⟨by rw [unhide HR]; simp [unhide HLO, unhide HLI], unhide HBW⟩
        | false =>
          by_cases hre : re = 0
          · have hbr : ((re : Int) != 0) = false := by simp; omega
            have HRE := hide hre
            clear hre
            go_wp2
            go_ret
            exact ⟨by rw [unhide HR]; simp [unhide HLO, unhide HLI, unhide HRE], unhide HBW⟩
          · have hbr : ((re : Int) != 0) = true := by simp; omega
            have HRE := hide hre
            clear hre
            go_wp2_with fail
            refine (unhide HA5 _).mono ?_
            rintro e v ⟨rfl, hb1⟩
            have hPn := (unhide HPB).below hb1 (unhide HPB).lt
            have hRn := (unhide HRU).below hb1 (unhide HRU).lt
            have hBn := (unhide HBW).trans (hb1.mono (unhide HBW).size)
            clear HPB HRU HBW p0 p1 p2 p3 p4 p5 r8 r9 r10 hb1
            have HPB := hide hPn
            have HRU := hide hRn
            have HBW := hide hBn
            clear hPn hRn hBn
            obtain ⟨p0, p1, p2, p3, p4, p5⟩ := (unhide HPB).all
            obtain ⟨-, -, -, -, -, -, -, -, r8, r9, r10, -, -⟩ := (unhide HRU).cells
            cases a5 with
            | true =>
              go_wp2_with fail
              refine (wonBy_any _ _).mono ?_
              rintro e v ⟨rfl, rfl⟩
              go_wp2
              go_ret
              exact ⟨by rw [unhide HR]; simp [unhide HLO, unhide HLI, unhide HRE], unhide HBW⟩
            | false =>
              go_wp2_with fail
              refine (unhide HA6 _).mono ?_
              rintro e v ⟨rfl, hb1⟩
              have hPn := (unhide HPB).below hb1 (unhide HPB).lt
              have hRn := (unhide HRU).below hb1 (unhide HRU).lt
              have hBn := (unhide HBW).trans (hb1.mono (unhide HBW).size)
              clear HPB HRU HBW p0 p1 p2 p3 p4 p5 r8 r9 r10 hb1
              have HPB := hide hPn
              have HRU := hide hRn
              have HBW := hide hBn
              clear hPn hRn hBn
              obtain ⟨p0, p1, p2, p3, p4, p5⟩ := (unhide HPB).all
              obtain ⟨-, -, -, -, -, -, -, -, r8, r9, r10, -, -⟩ := (unhide HRU).cells
              cases a6 with
              | true =>
                go_wp2_with fail
                refine (wonBy_any _ _).mono ?_
                rintro e v ⟨rfl, rfl⟩
                go_wp2
                go_ret
                exact ⟨by rw [unhide HR]; simp [unhide HLO, unhide HLI, unhide HRE], unhide HBW⟩
              | false =>
                go_wp2
                go_ret
                exact ⟨by rw [unhide HR]; simp [unhide HLO, unhide HLI, unhide HRE], unhide HBW⟩
  · have hb : ((lo : Int) != 0) = true := by simp; omega
    have HLO := hide hlo
    clear hlo
    go_wp2_with fail
    refine (unhide HA1 _).mono ?_
    rintro e v ⟨rfl, hb1⟩
    have hPn := (unhide HPB).below hb1 (unhide HPB).lt
    have hRn := (unhide HRU).below hb1 (unhide HRU).lt
    have hBn := (unhide HBW).trans (hb1.mono (unhide HBW).size)
    clear HPB HRU HBW p0 p1 p2 p3 p4 p5 r8 r9 r10 hb1
    have HPB := hide hPn
    have HRU := hide hRn
    have HBW := hide hBn
    clear hPn hRn hBn
    obtain ⟨p0, p1, p2, p3, p4, p5⟩ := (unhide HPB).all
    obtain ⟨-, -, -, -, -, -, -, -, r8, r9, r10, -, -⟩ := (unhide HRU).cells
    cases a1 with
    | false =>
      go_wp2_with fail
      refine (wonBy_any _ _).mono ?_
      rintro e v ⟨rfl, rfl⟩
      go_wp2
      go_ret
      exact ⟨by rw [unhide HR]; simp [unhide HLO], unhide HBW⟩
    | true =>
      go_wp2_with fail
      refine (unhide HA2 _).mono ?_
      rintro e v ⟨rfl, hb1⟩
      have hPn := (unhide HPB).below hb1 (unhide HPB).lt
      have hRn := (unhide HRU).below hb1 (unhide HRU).lt
      have hBn := (unhide HBW).trans (hb1.mono (unhide HBW).size)
      clear HPB HRU HBW p0 p1 p2 p3 p4 p5 r8 r9 r10 hb1
      have HPB := hide hPn
      have HRU := hide hRn
      have HBW := hide hBn
      clear hPn hRn hBn
      obtain ⟨p0, p1, p2, p3, p4, p5⟩ := (unhide HPB).all
      obtain ⟨-, -, -, -, -, -, -, -, r8, r9, r10, -, -⟩ := (unhide HRU).cells
      cases a2 with
      | false =>
        go_wp2_with fail
        refine (wonBy_any _ _).mono ?_
        rintro e v ⟨rfl, rfl⟩
        go_wp2
        go_ret
        exact ⟨by rw [unhide HR]; simp [unhide HLO], unhide HBW⟩
      | true =>
        by_cases hli : li = 0
        · have hbl : (li != 0) = false := by simp [hli]
          have HLI := hide hli
          clear hli
          by_cases hre : re = 0
          · have hbr : ((re : Int) != 0) = false := by simp; omega
            have HRE := hide hre
            clear hre
            go_wp2
            go_ret
            exact ⟨by rw [unhide HR]; simp [unhide HLO, unhide HLI, unhide HRE], unhide HBW⟩
          · have hbr : ((re : Int) != 0) = true := by simp; omega
            have HRE := hide hre
            clear hre
            go_wp2_with fail
            refine (unhide HA5 _).mono ?_
            rintro e v ⟨rfl, hb1⟩
            have hPn := (unhide HPB).below hb1 (unhide HPB).lt
            have hRn := (unhide HRU).below hb1 (unhide HRU).lt
            have hBn := (unhide HBW).trans (hb1.mono (unhide HBW).size)
            clear HPB HRU HBW p0 p1 p2 p3 p4 p5 r8 r9 r10 hb1
            have HPB := hide hPn
            have HRU := hide hRn
            have HBW := hide hBn
            clear hPn hRn hBn
            obtain ⟨p0, p1, p2, p3, p4, p5⟩ := (unhide HPB).all
            obtain ⟨-, -, -, -, -, -, -, -, r8, r9, r10, -, -⟩ := (unhide HRU).cells
            cases a5 with
            | true =>
              go_wp2_with fail
              refine (wonBy_any _ _).mono ?_
              rintro e v ⟨rfl, rfl⟩
              go_wp2
              go_ret
              exact ⟨by rw [unhide HR]; simp [unhide HLO, unhide HLI, unhide HRE], unhide HBW⟩
            | false =>
              go_wp2_with fail
              refine (unhide HA6 _).mono ?_
              rintro e v ⟨rfl, hb1⟩
              have hPn := (unhide HPB).below hb1 (unhide HPB).lt
              have hRn := (unhide HRU).below hb1 (unhide HRU).lt
              have hBn := (unhide HBW).trans (hb1.mono (unhide HBW).size)
              clear HPB HRU HBW p0 p1 p2 p3 p4 p5 r8 r9 r10 hb1
              have HPB := hide hPn
              have HRU := hide hRn
              have HBW := hide hBn
              clear hPn hRn hBn
              obtain ⟨p0, p1, p2, p3, p4, p5⟩ := (unhide HPB).all
              obtain ⟨-, -, -, -, -, -, -, -, r8, r9, r10, -, -⟩ := (unhide HRU).cells
              cases a6 with
              | true =>
                go_wp2_with fail
                refine (wonBy_any _ _).mono ?_
                rintro e v ⟨rfl, rfl⟩
                go_wp2
                go_ret
                exact ⟨by rw [unhide HR]; simp [unhide HLO, unhide HLI, unhide HRE], unhide HBW⟩
              | false =>
                go_wp2
                go_ret
                exact ⟨by rw [unhide HR]; simp [unhide HLO, unhide HLI, unhide HRE], unhide HBW⟩
        · have hbl : (li != 0) = true := by simp [hli]
          have HLI := hide hli
          clear hli
          go_wp2_with fail
          refine (unhide HA3 _).mono ?_
          rintro e v ⟨rfl, hb1⟩
          have hPn := (unhide HPB).below hb1 (unhide HPB).lt
          have hRn := (unhide HRU).below hb1 (unhide HRU).lt
          have hBn := (unhide HBW).trans (hb1.mono (unhide HBW).size)
          clear HPB HRU HBW p0 p1 p2 p3 p4 p5 r8 r9 r10 hb1
          have HPB := hide hPn
          have HRU := hide hRn
          have HBW := hide hBn
          clear hPn hRn hBn
          obtain ⟨p0, p1, p2, p3, p4, p5⟩ := (unhide HPB).all
          obtain ⟨-, -, -, -, -, -, -, -, r8, r9, r10, -, -⟩ := (unhide HRU).cells
          cases a3 with
          | true =>
            go_wp2_with fail
            refine (wonBy_any _ _).mono ?_
            rintro e v ⟨rfl, rfl⟩
            go_wp2
            go_ret
            exact ⟨by rw [unhide HR]; simp [unhide HLO, unhide HLI], unhide HBW⟩
          | false =>
            go_wp2_with fail
            refine (unhide HA4 _).mono ?_
            rintro e v ⟨rfl, hb1⟩
            have hPn := (unhide HPB).below hb1 (unhide HPB).lt
            have hRn := (unhide HRU).below hb1 (unhide HRU).lt
            have hBn := (unhide HBW).trans (hb1.mono (unhide HBW).size)
            clear HPB HRU HBW p0 p1 p2 p3 p4 p5 r8 r9 r10 hb1
            have HPB := hide hPn
            have HRU := hide hRn
            have HBW := hide hBn
            clear hPn hRn hBn
            obtain ⟨p0, p1, p2, p3, p4, p5⟩ := (unhide HPB).all
            obtain ⟨-, -, -, -, -, -, -, -, r8, r9, r10, -, -⟩ := (unhide HRU).cells
            cases a4 with
            | true =>
              go_wp2_with fail
              refine (wonBy_any _ _).mono ?_
              rintro e v ⟨rfl, rfl⟩
              go_wp2
              go_ret
              exact ⟨by rw [unhide HR]; simp [unhide HLO, unhide HLI], unhide HBW⟩
            | false =>
              by_cases hre : re = 0
              · have hbr : ((re : Int) != 0) = false := by simp; omega
                have HRE := hide hre
                clear hre
                go_wp2
                go_ret
                exact ⟨by rw [unhide HR]; simp [unhide HLO, unhide HLI, unhide HRE], unhide HBW⟩
              · have hbr : ((re : Int) != 0) = true := by simp; omega
                have HRE := hide hre
                clear hre
                go_wp2_with fail
                refine (unhide HA5 _).mono ?_
                rintro e v ⟨rfl, hb1⟩
                have hPn := (unhide HPB).below hb1 (unhide HPB).lt
                have hRn := (unhide HRU).below hb1 (unhide HRU).lt
                have hBn := (unhide HBW).trans (hb1.mono (unhide HBW).size)
                clear HPB HRU HBW p0 p1 p2 p3 p4 p5 r8 r9 r10 hb1
                have HPB := hide hPn
                have HRU := hide hRn
                have HBW := hide hBn
                clear hPn hRn hBn
                obtain ⟨p0, p1, p2, p3, p4, p5⟩ := (unhide HPB).all
                obtain ⟨-, -, -, -, -, -, -, -, r8, r9, r10, -, -⟩ := (unhide HRU).cells
                cases a5 with
                | true =>
                  go_wp2_with fail
                  refine (wonBy_any _ _).mono ?_
                  rintro e v ⟨rfl, rfl⟩
                  go_wp2
                  go_ret
                  exact ⟨by rw [unhide HR]; simp [unhide HLO, unhide HLI, unhide HRE], unhide HBW⟩
                | false =>
                  go_wp2_with fail
                  refine (unhide HA6 _).mono ?_
                  rintro e v ⟨rfl, hb1⟩
                  have hPn := (unhide HPB).below hb1 (unhide HPB).lt
                  have hRn := (unhide HRU).below hb1 (unhide HRU).lt
                  have hBn := (unhide HBW).trans (hb1.mono (unhide HBW).size)
                  clear HPB HRU HBW p0 p1 p2 p3 p4 p5 r8 r9 r10 hb1
                  have HPB := hide hPn
                  have HRU := hide hRn
                  have HBW := hide hBn
                  clear hPn hRn hBn
                  obtain ⟨p0, p1, p2, p3, p4, p5⟩ := (unhide HPB).all
                  obtain ⟨-, -, -, -, -, -, -, -, r8, r9, r10, -, -⟩ := (unhide HRU).cells
                  cases a6 with
                  | true =>
                    go_wp2_with fail
                    refine (wonBy_any _ _).mono ?_
                    rintro e v ⟨rfl, rfl⟩
                    go_wp2
                    go_ret
                    exact ⟨by rw [unhide HR]; simp [unhide HLO, unhide HLI, unhide HRE], unhide HBW⟩
                  | false =>
                    go_wp2
                    go_ret
                    exact ⟨by rw [unhide HR]; simp [unhide HLO, unhide HLI, unhide HRE], unhide HBW⟩
end Go.Proofs.YtbglppcbgfkhmabGreatDoor
