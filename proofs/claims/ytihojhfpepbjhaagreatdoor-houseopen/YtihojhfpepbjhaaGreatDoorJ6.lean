/-
  package moves, walked: decided.
  package moves, walked: waysOf.
  package moves, walked: cellSet.have; package rules: CheckPosition.
-/
import Derived.Test.YtihojhfpepbjhaaGreatDoorJ5
namespace Go.Proofs.YtihojhfpepbjhaaGreatDoor
open Go.RowKit
attribute [local go_sem ↓] Go.wp_at_zero Go.wp_at_succ

/-- A player's last row. -/
def lastR (W P : Nat) (C : ByteArray) : List UInt8 := if P = 1 then C.data.toList.take W else C.data.toList.drop (C.size - W)
/-- What the pieces on the board say. -/
def decO (W H T : Nat) (C : ByteArray) (lo : Nat) (li : Int) (re : Nat) : Int :=
  if lo ≠ 0 ∧ hasN C.data.toList (letN T lo) = false then wonI (1 - (T : Int))
  else if lo ≠ 0 ∧ hasN C.data.toList (letN (1 - T) lo) = false then wonI T
  else if li ≠ 0 ∧ hasLineB W H (1 - T) C li = true then wonI (1 - (T : Int))
  else if li ≠ 0 ∧ hasLineB W H T C li = true then wonI T
  else if re ≠ 0 ∧ hasN (lastR W (1 - T) C) (letN (1 - T) re) = true then wonI (1 - (T : Int))
  else if re ≠ 0 ∧ hasN (lastR W T C) (letN T re) = true then wonI T
  else 0

set_option maxHeartbeats 4000000 in
set_option maxRecDepth 100000 in
theorem decided_any (W H T : Nat) (C A B : ByteArray) (v0 v1 v2 v3 v4 v5 v6 v7 v11 v12 : Value) (lo re : Nat) (li : Int) (w : World) (hlo8 : lo < 256) (hre8 : re < 256) (hT : T ≤ 1) (hW : 1 ≤ W ∧ W ≤ 8) (hH : 1 ≤ H ∧ H ≤ 8) (hC : C.size = W * H) :
    Calls Tryz.prog 85 #[.agg #[v0, v1, v2, v3, v4, v5, v6, v7, .int .u8 (lo : Int), .int .i64 li, .int .u8 (re : Int), v11, v12], .agg #[.int .i64 (W : Int), .int .i64 (H : Int), .string C, .int .i64 (T : Int), .string A, .string B]] w fun e w' => e = .returned (.int .i64 (decO W H T C lo li re)) ∧ Below w.heap.size w w' := by
  have hTi : (1 : Int) - (T : Int) = ((1 - T : Nat) : Int) := by omega
  have hA1 := fun u => hasPiece_any W H T T lo C A B u hT hlo8
  have hA2 := fun u => hasPiece_any W H T (1 - T) lo C A B u (by omega) hlo8
  have hA3 := fun u => hasLine_any W H (1 - T) T li C A B u (by omega) hW hH hC
  have hA4 := fun u => hasLine_any W H T T li C A B u hT hW hH hC
  have hA5 := fun u => hasReached_any W H T (1 - T) re C A B u (by omega) hre8 hW hH hC
  have hA6 := fun u => hasReached_any W H T T re C A B u hT hre8 hW hH hC
  rw [← hTi] at hA2 hA3 hA5
  obtain ⟨R, hR⟩ : ∃ R, R = decO W H T C lo li re := ⟨_, rfl⟩
  rw [← hR]
  unfold decO at hR
  change ∀ u, Calls Tryz.prog _ _ _ (fun e w' => e = .returned (.bool (hasN (lastR W (1 - T) C) (letN (1 - T) re))) ∧ _) at hA5
  change ∀ u, Calls Tryz.prog _ _ _ (fun e w' => e = .returned (.bool (hasN (lastR W T C) (letN T re))) ∧ _) at hA6
  generalize hasN C.data.toList (letN T lo) = a1 at hA1 hR
  generalize hasN C.data.toList (letN (1 - T) lo) = a2 at hA2 hR
  generalize hasLineB W H (1 - T) C li = a3 at hA3 hR
  generalize hasLineB W H T C li = a4 at hA4 hR
  generalize hasN (lastR W (1 - T) C) (letN (1 - T) re) = a5 at hA5 hR
  generalize hasN (lastR W T C) (letN T re) = a6 at hA6 hR
  have HA1 := hide hA1
  have HA2 := hide hA2
  have HA3 := hide hA3
  have HA4 := hide hA4
  have HA5 := hide hA5
  have HA6 := hide hA6
  have HR := hide hR
  obtain ⟨w1, hw1⟩ : ∃ w1, w1 = w.alloc (.cells #[v0, v1, v2, v3, v4, v5, v6, v7, .int .u8 (lo : Int), .int .i64 li, .int .u8 (re : Int), v11, v12] 27 (0, 0)) := ⟨_, rfl⟩
  obtain ⟨w2, hw2⟩ : ∃ w2, w2 = w1.alloc (.cells #[.int .i64 (W : Int), .int .i64 (H : Int), .string C, .int .i64 (T : Int), .string A, .string B] 24 (0, 0)) := ⟨_, rfl⟩
  have hb1 : Below w.heap.size w w1 := by rw [hw1]; exact (Below.refl _ _).alloc (Nat.le_refl _) _
  have hb2 : Below w1.heap.size w1 w2 := by rw [hw2]; exact (Below.refl _ _).alloc (Nat.le_refl _) _
  have s1 : w1.heap.size = w.heap.size + 1 := by rw [hw1]; simp
  have hru : isRu w2 w.heap.size v0 v1 v2 v3 v4 v5 v6 v7 (.int .u8 (lo : Int)) (.int .i64 li) (.int .u8 (re : Int)) v11 v12 := isRu.below (show isRu w1 w.heap.size v0 v1 v2 v3 v4 v5 v6 v7 (.int .u8 (lo : Int)) (.int .i64 li) (.int .u8 (re : Int)) v11 v12 by rw [hw1]; exact heap_alloc_new w _) hb2 (by omega)
  have hpb : isPb w2 (w.heap.size + 1) W H T C A B := by rw [hw2, ← s1]; exact heap_alloc_new w1 _
  have HBW := hide (hb1.trans (hb2.mono (by omega)))
  have HPB := hide hpb
  have HRU := hide hru
  have HW1 := hide hw1
  have HW2 := hide hw2
  obtain ⟨p0, p1, p2, p3, p4, p5⟩ := (unhide HPB).all
  obtain ⟨-, -, -, -, -, -, -, -, r8, r9, r10, -, -⟩ := (unhide HRU).cells
  clear hA1 hA2 hA3 hA4 hA5 hA6 hR hw1 hw2 hb1 hb2 s1 hru hpb hC hTi
  have hTb : (0 : Int) ≤ (T : Int) ∧ (T : Int) ≤ 1 := by omega
  go_enter Tryz.func85, Tryz.ntmps85
  go_wp2_with fail
  rw [← unhide HW1, ← unhide HW2]
  go_quiet (fail)
  obtain ⟨u, hu⟩ : ∃ u, u = w2.drewN nq := ⟨_, rfl⟩
  have hP2 : isPb u (w.heap.size + 1) W H T C A B := by rw [hu]; exact unhide HPB
  have hR2 : isRu u w.heap.size v0 v1 v2 v3 v4 v5 v6 v7 (.int .u8 (lo : Int)) (.int .i64 li) (.int .u8 (re : Int)) v11 v12 := by rw [hu]; exact unhide HRU
  have hB2 : Below w.heap.size w u := by rw [hu]; exact ⟨(unhide HBW).os, (unhide HBW).tape, (unhide HBW).output, (unhide HBW).size, (unhide HBW).block⟩
  rw [← hu]
  clear hu HPB HRU HBW HW1 HW2 p0 p1 p2 p3 p4 p5 r8 r9 r10
  have HPB := hide hP2
  have HRU := hide hR2
  have HBW := hide hB2
  clear hP2 hR2 hB2
  obtain ⟨p0, p1, p2, p3, p4, p5⟩ := (unhide HPB).all
  obtain ⟨-, -, -, -, -, -, -, -, r8, r9, r10, -, -⟩ := (unhide HRU).cells
  by_cases hlo : lo = 0
  · have hb : ((lo : Int) != 0) = false := by simp; omega
    have HLO := hide hlo
    clear hlo
    by_cases hli : li = 0
    · have hbl : (li != 0) = false := by simp [hli]
      have HLI := hide hli
      clear hli
      by_cases hre : re = 0
      · have hbr : ((re : Int) != 0) = false := by simp; omega
        have HRE := hide hre
        clear hre
        go_wp2
        go_ret
        exact ⟨by rw [unhide HR]; simp [unhide HLO, unhide HLI, unhide HRE], unhide HBW⟩
      · have hbr : ((re : Int) != 0) = true := by simp; omega
        have HRE := hide hre
        clear hre
        go_wp2_with fail
        refine (unhide HA5 _).mono ?_
        rintro e v ⟨rfl, hb1⟩
        have hPn := (unhide HPB).below hb1 (unhide HPB).lt
        have hRn := (unhide HRU).below hb1 (unhide HRU).lt
        have hBn := (unhide HBW).trans (hb1.mono (unhide HBW).size)
        clear HPB HRU HBW p0 p1 p2 p3 p4 p5 r8 r9 r10 hb1
        have HPB := hide hPn
        have HRU := hide hRn
        have HBW := hide hBn
        clear hPn hRn hBn
        obtain ⟨p0, p1, p2, p3, p4, p5⟩ := (unhide HPB).all
        obtain ⟨-, -, -, -, -, -, -, -, r8, r9, r10, -, -⟩ := (unhide HRU).cells
        cases a5 with
        | true =>
          go_wp2_with fail
          refine (wonBy_any _ _).mono ?_
          rintro e v ⟨rfl, rfl⟩
          go_wp2
          go_ret
          exact ⟨by rw [unhide HR]; simp [unhide HLO, unhide HLI, unhide HRE], unhide HBW⟩
        | false =>
          go_wp2_with fail
          refine (unhide HA6 _).mono ?_
          rintro e v ⟨rfl, hb1⟩
          have hPn := (unhide HPB).below hb1 (unhide HPB).lt
          have hRn := (unhide HRU).below hb1 (unhide HRU).lt
          have hBn := (unhide HBW).trans (hb1.mono (unhide HBW).size)
          clear HPB HRU HBW p0 p1 p2 p3 p4 p5 r8 r9 r10 hb1
          have HPB := hide hPn
          have HRU := hide hRn
          have HBW := hide hBn
          clear hPn hRn hBn
          obtain ⟨p0, p1, p2, p3, p4, p5⟩ := (unhide HPB).all
          obtain ⟨-, -, -, -, -, -, -, -, r8, r9, r10, -, -⟩ := (unhide HRU).cells
          cases a6 with
          | true =>
            go_wp2_with fail
            refine (wonBy_any _ _).mono ?_
            rintro e v ⟨rfl, rfl⟩
            go_wp2
            go_ret
            exact ⟨by rw [unhide HR]; simp [unhide HLO, unhide HLI, unhide HRE], unhide HBW⟩
          | false =>
            go_wp2
            go_ret
            exact ⟨by rw [unhide HR]; simp [unhide HLO, unhide HLI, unhide HRE], unhide HBW⟩
    · have hbl : (li != 0) = true := by simp [hli]
      have HLI := hide hli
      clear hli
      go_wp2_with fail
      refine (unhide HA3 _).mono ?_
      rintro e v ⟨rfl, hb1⟩
      have hPn := (unhide HPB).below hb1 (unhide HPB).lt
      have hRn := (unhide HRU).below hb1 (unhide HRU).lt
      have hBn := (unhide HBW).trans (hb1.mono (unhide HBW).size)
      clear HPB HRU HBW p0 p1 p2 p3 p4 p5 r8 r9 r10 hb1
      have HPB := hide hPn
      have HRU := hide hRn
      have HBW := hide hBn
      clear hPn hRn hBn
      obtain ⟨p0, p1, p2, p3, p4, p5⟩ := (unhide HPB).all
      obtain ⟨-, -, -, -, -, -, -, -, r8, r9, r10, -, -⟩ := (unhide HRU).cells
      cases a3 with
      | true =>
        go_wp2_with fail
        refine (wonBy_any _ _).mono ?_
        rintro e v ⟨rfl, rfl⟩
        go_wp2
        go_ret
        exact ⟨by rw [unhide HR]; simp [unhide HLO, unhide HLI], unhide HBW⟩
      | false =>
        go_wp2_with fail
        refine (unhide HA4 _).mono ?_
        rintro e v ⟨rfl, hb1⟩
        have hPn := (unhide HPB).below hb1 (unhide HPB).lt
        have hRn := (unhide HRU).below hb1 (unhide HRU).lt
        have hBn := (unhide HBW).trans (hb1.mono (unhide HBW).size)
        clear HPB HRU HBW p0 p1 p2 p3 p4 p5 r8 r9 r10 hb1
        have HPB := hide hPn
        have HRU := hide hRn
        have HBW := hide hBn
        clear hPn hRn hBn
        obtain ⟨p0, p1, p2, p3, p4, p5⟩ := (unhide HPB).all
        obtain ⟨-, -, -, -, -, -, -, -, r8, r9, r10, -, -⟩ := (unhide HRU).cells
        cases a4 with
        | true =>
          go_wp2_with fail
          refine (wonBy_any _ _).mono ?_
          rintro e v ⟨rfl, rfl⟩
          go_wp2
          go_ret
          exact ⟨by rw [unhide HR]; simp [unhide HLO, unhide HLI], unhide HBW⟩
        | false =>
          by_cases hre : re = 0
          · have hbr : ((re : Int) != 0) = false := by simp; omega
            have HRE := hide hre
            clear hre
            go_wp2
            go_ret
            exact ⟨by rw [unhide HR]; simp [unhide HLO, unhide HLI, unhide HRE], unhide HBW⟩
          · have hbr : ((re : Int) != 0) = true := by simp; omega
            have HRE := hide hre
            clear hre
            go_wp2_with fail
            refine (unhide HA5 _).mono ?_
            rintro e v ⟨rfl, hb1⟩
            have hPn := (unhide HPB).below hb1 (unhide HPB).lt
            have hRn := (unhide HRU).below hb1 (unhide HRU).lt
            have hBn := (unhide HBW).trans (hb1.mono (unhide HBW).size)
            clear HPB HRU HBW p0 p1 p2 p3 p4 p5 r8 r9 r10 hb1
            have HPB := hide hPn
            have HRU := hide hRn
            have HBW := hide hBn
            clear hPn hRn hBn
            obtain ⟨p0, p1, p2, p3, p4, p5⟩ := (unhide HPB).all
            obtain ⟨-, -, -, -, -, -, -, -, r8, r9, r10, -, -⟩ := (unhide HRU).cells
            cases a5 with
            | true =>
              go_wp2_with fail
              refine (wonBy_any _ _).mono ?_
              rintro e v ⟨rfl, rfl⟩
              go_wp2
              go_ret
              exact ⟨by rw [unhide HR]; simp [unhide HLO, unhide HLI, unhide HRE], unhide HBW⟩
            | false =>
              go_wp2_with fail
              refine (unhide HA6 _).mono ?_
              rintro e v ⟨rfl, hb1⟩
              have hPn := (unhide HPB).below hb1 (unhide HPB).lt
              have hRn := (unhide HRU).below hb1 (unhide HRU).lt
              have hBn := (unhide HBW).trans (hb1.mono (unhide HBW).size)
              clear HPB HRU HBW p0 p1 p2 p3 p4 p5 r8 r9 r10 hb1
              have HPB := hide hPn
              have HRU := hide hRn
              have HBW := hide hBn
              clear hPn hRn hBn
              obtain ⟨p0, p1, p2, p3, p4, p5⟩ := (unhide HPB).all
              obtain ⟨-, -, -, -, -, -, -, -, r8, r9, r10, -, -⟩ := (unhide HRU).cells
              cases a6 with
              | true =>
                go_wp2_with fail
                refine (wonBy_any _ _).mono ?_
                rintro e v ⟨rfl, rfl⟩
                go_wp2
                go_ret
                exact ⟨by rw [unhide HR]; simp [unhide HLO, unhide HLI, unhide HRE], unhide HBW⟩
              | false =>
                go_wp2
                go_ret
                exact ⟨by rw [unhide HR]; simp [unhide HLO, unhide HLI, unhide HRE], unhide HBW⟩
  · have hb : ((lo : Int) != 0) = true := by simp; omega
    have HLO := hide hlo
    clear hlo
    go_wp2_with fail
    refine (unhide HA1 _).mono ?_
    rintro e v ⟨rfl, hb1⟩
    have hPn := (unhide HPB).below hb1 (unhide HPB).lt
    have hRn := (unhide HRU).below hb1 (unhide HRU).lt
    have hBn := (unhide HBW).trans (hb1.mono (unhide HBW).size)
    clear HPB HRU HBW p0 p1 p2 p3 p4 p5 r8 r9 r10 hb1
    have HPB := hide hPn
    have HRU := hide hRn
    have HBW := hide hBn
    clear hPn hRn hBn
    obtain ⟨p0, p1, p2, p3, p4, p5⟩ := (unhide HPB).all
    obtain ⟨-, -, -, -, -, -, -, -, r8, r9, r10, -, -⟩ := (unhide HRU).cells
    cases a1 with
    | false =>
      go_wp2_with fail
      refine (wonBy_any _ _).mono ?_
      rintro e v ⟨rfl, rfl⟩
      go_wp2
      go_ret
      exact ⟨by rw [unhide HR]; simp [unhide HLO], unhide HBW⟩
    | true =>
      go_wp2_with fail
      refine (unhide HA2 _).mono ?_
      rintro e v ⟨rfl, hb1⟩
      have hPn := (unhide HPB).below hb1 (unhide HPB).lt
      have hRn := (unhide HRU).below hb1 (unhide HRU).lt
      have hBn := (unhide HBW).trans (hb1.mono (unhide HBW).size)
      clear HPB HRU HBW p0 p1 p2 p3 p4 p5 r8 r9 r10 hb1
      have HPB := hide hPn
      have HRU := hide hRn
      have HBW := hide hBn
      clear hPn hRn hBn
      obtain ⟨p0, p1, p2, p3, p4, p5⟩ := (unhide HPB).all
      obtain ⟨-, -, -, -, -, -, -, -, r8, r9, r10, -, -⟩ := (unhide HRU).cells
      cases a2 with
      | false =>
        go_wp2_with fail
        refine (wonBy_any _ _).mono ?_
        rintro e v ⟨rfl, rfl⟩
        go_wp2
        go_ret
        exact ⟨by rw [unhide HR]; simp [unhide HLO], unhide HBW⟩
      | true =>
        by_cases hli : li = 0
        · have hbl : (li != 0) = false := by simp [hli]
          have HLI := hide hli
          clear hli
          by_cases hre : re = 0
          · have hbr : ((re : Int) != 0) = false := by simp; omega
            have HRE := hide hre
            clear hre
            go_wp2
            go_ret
            exact ⟨by rw [unhide HR]; simp [unhide HLO, unhide HLI, unhide HRE], unhide HBW⟩
          · have hbr : ((re : Int) != 0) = true := by simp; omega
            have HRE := hide hre
            clear hre
            go_wp2_with fail
            refine (unhide HA5 _).mono ?_
            rintro e v ⟨rfl, hb1⟩
            have hPn := (unhide HPB).below hb1 (unhide HPB).lt
            have hRn := (unhide HRU).below hb1 (unhide HRU).lt
            have hBn := (unhide HBW).trans (hb1.mono (unhide HBW).size)
            clear HPB HRU HBW p0 p1 p2 p3 p4 p5 r8 r9 r10 hb1
            have HPB := hide hPn
            have HRU := hide hRn
            have HBW := hide hBn
            clear hPn hRn hBn
            obtain ⟨p0, p1, p2, p3, p4, p5⟩ := (unhide HPB).all
            obtain ⟨-, -, -, -, -, -, -, -, r8, r9, r10, -, -⟩ := (unhide HRU).cells
            cases a5 with
            | true =>
              go_wp2_with fail
              refine (wonBy_any _ _).mono ?_
              rintro e v ⟨rfl, rfl⟩
              go_wp2
              go_ret
              exact ⟨by rw [unhide HR]; simp [unhide HLO, unhide HLI, unhide HRE], unhide HBW⟩
            | false =>
              go_wp2_with fail
              refine (unhide HA6 _).mono ?_
              rintro e v ⟨rfl, hb1⟩
              have hPn := (unhide HPB).below hb1 (unhide HPB).lt
              have hRn := (unhide HRU).below hb1 (unhide HRU).lt
              have hBn := (unhide HBW).trans (hb1.mono (unhide HBW).size)
              clear HPB HRU HBW p0 p1 p2 p3 p4 p5 r8 r9 r10 hb1
              have HPB := hide hPn
              have HRU := hide hRn
              have HBW := hide hBn
              clear hPn hRn hBn
              obtain ⟨p0, p1, p2, p3, p4, p5⟩ := (unhide HPB).all
              obtain ⟨-, -, -, -, -, -, -, -, r8, r9, r10, -, -⟩ := (unhide HRU).cells
              cases a6 with
              | true =>
                go_wp2_with fail
                refine (wonBy_any _ _).mono ?_
                rintro e v ⟨rfl, rfl⟩
                go_wp2
                go_ret
                exact ⟨by rw [unhide HR]; simp [unhide HLO, unhide HLI, unhide HRE], unhide HBW⟩
              | false =>
                go_wp2
                go_ret
                exact ⟨by rw [unhide HR]; simp [unhide HLO, unhide HLI, unhide HRE], unhide HBW⟩
        · have hbl : (li != 0) = true := by simp [hli]
          have HLI := hide hli
          clear hli
          go_wp2_with fail
          refine (unhide HA3 _).mono ?_
          rintro e v ⟨rfl, hb1⟩
          have hPn := (unhide HPB).below hb1 (unhide HPB).lt
          have hRn := (unhide HRU).below hb1 (unhide HRU).lt
          have hBn := (unhide HBW).trans (hb1.mono (unhide HBW).size)
          clear HPB HRU HBW p0 p1 p2 p3 p4 p5 r8 r9 r10 hb1
          have HPB := hide hPn
          have HRU := hide hRn
          have HBW := hide hBn
          clear hPn hRn hBn
          obtain ⟨p0, p1, p2, p3, p4, p5⟩ := (unhide HPB).all
          obtain ⟨-, -, -, -, -, -, -, -, r8, r9, r10, -, -⟩ := (unhide HRU).cells
          cases a3 with
          | true =>
            go_wp2_with fail
            refine (wonBy_any _ _).mono ?_
            rintro e v ⟨rfl, rfl⟩
            go_wp2
            go_ret
            exact ⟨by rw [unhide HR]; simp [unhide HLO, unhide HLI], unhide HBW⟩
          | false =>
            go_wp2_with fail
            refine (unhide HA4 _).mono ?_
            rintro e v ⟨rfl, hb1⟩
            have hPn := (unhide HPB).below hb1 (unhide HPB).lt
            have hRn := (unhide HRU).below hb1 (unhide HRU).lt
            have hBn := (unhide HBW).trans (hb1.mono (unhide HBW).size)
            clear HPB HRU HBW p0 p1 p2 p3 p4 p5 r8 r9 r10 hb1
            have HPB := hide hPn
            have HRU := hide hRn
            have HBW := hide hBn
            clear hPn hRn hBn
            obtain ⟨p0, p1, p2, p3, p4, p5⟩ := (unhide HPB).all
            obtain ⟨-, -, -, -, -, -, -, -, r8, r9, r10, -, -⟩ := (unhide HRU).cells
            cases a4 with
            | true =>
              go_wp2_with fail
              refine (wonBy_any _ _).mono ?_
              rintro e v ⟨rfl, rfl⟩
              go_wp2
              go_ret
              exact ⟨by rw [unhide HR]; simp [unhide HLO, unhide HLI], unhide HBW⟩
            | false =>
              by_cases hre : re = 0
              · have hbr : ((re : Int) != 0) = false := by simp; omega
                have HRE := hide hre
                clear hre
                go_wp2
                go_ret
                exact ⟨by rw [unhide HR]; simp [unhide HLO, unhide HLI, unhide HRE], unhide HBW⟩
              · have hbr : ((re : Int) != 0) = true := by simp; omega
                have HRE := hide hre
                clear hre
                go_wp2_with fail
                refine (unhide HA5 _).mono ?_
                rintro e v ⟨rfl, hb1⟩
                have hPn := (unhide HPB).below hb1 (unhide HPB).lt
                have hRn := (unhide HRU).below hb1 (unhide HRU).lt
                have hBn := (unhide HBW).trans (hb1.mono (unhide HBW).size)
                clear HPB HRU HBW p0 p1 p2 p3 p4 p5 r8 r9 r10 hb1
                have HPB := hide hPn
                have HRU := hide hRn
                have HBW := hide hBn
                clear hPn hRn hBn
                obtain ⟨p0, p1, p2, p3, p4, p5⟩ := (unhide HPB).all
                obtain ⟨-, -, -, -, -, -, -, -, r8, r9, r10, -, -⟩ := (unhide HRU).cells
                cases a5 with
                | true =>
                  go_wp2_with fail
                  refine (wonBy_any _ _).mono ?_
                  rintro e v ⟨rfl, rfl⟩
                  go_wp2
                  go_ret
                  exact ⟨by rw [unhide HR]; simp [unhide HLO, unhide HLI, unhide HRE], unhide HBW⟩
                | false =>
                  go_wp2_with fail
                  refine (unhide HA6 _).mono ?_
                  rintro e v ⟨rfl, hb1⟩
                  have hPn := (unhide HPB).below hb1 (unhide HPB).lt
                  have hRn := (unhide HRU).below hb1 (unhide HRU).lt
                  have hBn := (unhide HBW).trans (hb1.mono (unhide HBW).size)
                  clear HPB HRU HBW p0 p1 p2 p3 p4 p5 r8 r9 r10 hb1
                  have HPB := hide hPn
                  have HRU := hide hRn
                  have HBW := hide hBn
                  clear hPn hRn hBn
                  obtain ⟨p0, p1, p2, p3, p4, p5⟩ := (unhide HPB).all
                  obtain ⟨-, -, -, -, -, -, -, -, r8, r9, r10, -, -⟩ := (unhide HRU).cells
                  cases a6 with
                  | true =>
                    go_wp2_with fail
                    refine (wonBy_any _ _).mono ?_
                    rintro e v ⟨rfl, rfl⟩
                    go_wp2
                    go_ret
                    exact ⟨by rw [unhide HR]; simp [unhide HLO, unhide HLI, unhide HRE], unhide HBW⟩
                  | false =>
                    go_wp2
                    go_ret
                    exact ⟨by rw [unhide HR]; simp [unhide HLO, unhide HLI, unhide HRE], unhide HBW⟩
end Go.Proofs.YtihojhfpepbjhaaGreatDoor

namespace Go.Proofs.YtihojhfpepbjhaaGreatDoor
open Go.RowKit
attribute [local go_sem ↓] Go.wp_at_zero Go.wp_at_succ

/-- The ways of the piece with that letter. -/
def waysP (l : Nat) : List Pc → List Wy
  | [] => []
  | p :: t => if p.l = l then p.ws else waysP l t

set_option maxHeartbeats 2000000 in
set_option maxRecDepth 100000 in
theorem waysOf_any (v0 v1 v2 v3 v4 v5 v7 v8 v9 v10 v11 v12 : Value) (ao : Option Addr) (cap : Nat) (ps : List Pc) (l : Nat) (w : World) (h : isPcs w ao cap ps) :
    Calls Tryz.prog 130 #[.agg #[v0, v1, v2, v3, v4, v5, .slice ao ps.length cap, v7, v8, v9, v10, v11, v12], .int .u8 (l : Int)] w fun e w' => ∃ wo wc, e = .returned (.slice wo (waysP l ps).length wc) ∧ isWys w' wo wc (waysP l ps) ∧ Below w.heap.size w w' := by
  have hle := h.le
  have hmx := h.mx
  unfold maxLen at hmx
  obtain ⟨n, hn⟩ : ∃ n, n = ps.length := ⟨_, rfl⟩
  rw [← hn]
  have HN := hide hn
  have hnx : n ≤ 9223372036854775807 := by omega
  have HP := hide h
  obtain ⟨w1, hw1⟩ : ∃ w1, w1 = w.alloc (.cells #[v0, v1, v2, v3, v4, v5, .slice ao n cap, v7, v8, v9, v10, v11, v12] 27 (0, 0)) := ⟨_, rfl⟩
  have hb1 : Below w.heap.size w w1 := by rw [hw1]; exact (Below.refl _ _).alloc (Nat.le_refl _) _
  have hru : isRu w1 w.heap.size v0 v1 v2 v3 v4 v5 (.slice ao n cap) v7 v8 v9 v10 v11 v12 := by rw [hw1]; exact heap_alloc_new w _
  obtain ⟨-, -, -, -, -, -, r6, -⟩ := hru.cells
  have HB1 := hide hb1
  clear h hn hle hru hb1
  go_enter Tryz.func130, Tryz.ntmps130
  go_wp2
  rw [← hw1]
  clear hw1
  go_loopw [10] (fun iv wr => ∃ k : Nat, k ≤ n ∧ iv = .int .i64 (k : Int) ∧ Hid (waysP l (ps.drop k) = waysP l ps) ∧ Below w.heap.size w wr) (fun iv _ => n - (intOf iv).toNat)
  case atStart => exact ⟨0, Nat.zero_le _, rfl, hide rfl, unhide HB1⟩
  case round =>
    obtain ⟨k, hk, rfl, HK, hbr⟩ := hrel
    clear HB1 r6
    by_cases hkl : k < n
    · have hki : (k : Int) < (n : Int) := by omega
      have hk0 : (0 : Int) ≤ (k : Int) := by omega
      have hkw : k < ps.length := by rw [← unhide HN]; exact hkl
      obtain ⟨p, hp⟩ : ∃ p, ps[k]? = some p := ⟨ps[k], List.getElem?_eq_getElem hkw⟩
      obtain ⟨g, off, eg, hg, hc⟩ := (unhide HP).cells (by rintro rfl; simp at hkw)
      subst eg
      obtain ⟨hl8, wo, wc, c0, c1, c2, c3⟩ := hc k p hp
      have d0 := (hbr.cell (p := ⟨g, off + k * 3, none⟩) hg).trans c0
      have d1 := (hbr.cell (p := ⟨g, off + k * 3 + 1, none⟩) hg).trans c1
      have d2 := (hbr.cell (p := ⟨g, off + k * 3 + 2, none⟩) hg).trans c2
      have hdp := dropP ps k p hp
      have hKK := unhide HK
      rw [hdp, waysP] at hKK
      obtain ⟨wa, hwa⟩ : ∃ wa, wa = wr.alloc (.cells #[.int .u8 (p.l : Int), .int .i64 p.v, .slice wo p.ws.length wc] 71 (0, 0)) := ⟨_, rfl⟩
      have hba : Below w.heap.size w wa := by rw [hwa]; exact hbr.alloc hbr.size _
      have hww : isWys wa wo wc p.ws := c3.below hba (Nat.le_refl _)
      have HBA := hide hba
      have HWW := hide hww
      have HWA := hide hwa
      have HBR := hide hbr
      clear hc c0 c1 c2 c3 hdp hp hba hww hwa hbr
      by_cases he : p.l = l
      · have hb : (((p.l : Int)) == (l : Int)) = true := by simp; omega
        rw [if_pos he] at hKK
        have HKK := hide hKK
        clear he hKK
        go_wp2
        go_ret
        rw [← unhide HWA]
        exact ⟨wo, wc, by rw [← unhide HKK]; rfl, by rw [← unhide HKK]; exact unhide HWW, unhide HBA⟩
      · have hb : (((p.l : Int)) == (l : Int)) = false := by simp; omega
        rw [if_neg he] at hKK
        have HKK := hide hKK
        clear he hKK
        go_wp2
        rw [← unhide HWA]
        go_roundw
        case rel => exact ⟨k + 1, by omega, by go_num, HKK, unhide HBA⟩
        case measure => simp only [intOf]; omega
    · have hki : ¬ (k : Int) < (n : Int) := by omega
      have hwl : waysP l ps = [] := by rw [← unhide HK, List.drop_eq_nil_of_le (by rw [← unhide HN]; omega)]; rfl
      have HWL := hide hwl
      have HBR := hide hbr
      clear hwl hbr
      go_wp2
      go_ret
      exact ⟨none, 0, by rw [unhide HWL]; rfl, by rw [unhide HWL]; exact ⟨Nat.le_refl _, by decide, fun _ => rfl, fun h => absurd rfl h⟩, unhide HBR⟩
end Go.Proofs.YtihojhfpepbjhaaGreatDoor

namespace Go.Proofs.YtihojhfpepbjhaaGreatDoor
open Go.RowKit
attribute [local go_sem ↓] Go.wp_at_zero Go.wp_at_succ

theorem and_u64_nat (a b : Nat) (ha : a < 18446744073709551616) (hb : b < 18446744073709551616) : bits .and .u64 (a : Int) (b : Int) = ((a &&& b : Nat) : Int) := by
  have hx : a &&& b < 2 ^ 64 := Nat.and_lt_two_pow a (by omega)
  have e1 : (BitVec.ofInt 64 (a : Int)).toNat = a := by rw [BitVec.ofInt_natCast, BitVec.toNat_ofNat]; exact Nat.mod_eq_of_lt (by omega)
  have e2 : (BitVec.ofInt 64 (b : Int)).toNat = b := by rw [BitVec.ofInt_natCast, BitVec.toNat_ofNat]; exact Nat.mod_eq_of_lt (by omega)
  show IntKind.u64.wrap ((BitVec.ofInt 64 (a : Int) &&& BitVec.ofInt 64 (b : Int)).toNat : Int) = _
  rw [BitVec.toNat_and, e1, e2]
  unfold IntKind.wrap
  simp [IntKind.signed, IntKind.bits]
  omega

set_option maxHeartbeats 400000 in
theorem setHave_any (S c : Nat) (w : World) (hS : S < 18446744073709551616) (hc : c < 64) :
    Calls Tryz.prog 131 #[.int .u64 (S : Int), .int .i64 (c : Int)] w fun e w' => e = .returned (.bool (S.testBit c)) ∧ w' = w := by
  have h2c : 2 ^ c < 18446744073709551616 := by
    have : (2 : Nat) ^ c < 2 ^ 64 := Nat.pow_lt_pow_right (by omega) hc
    exact this
  have hand := and_u64_nat S (2 ^ c) hS h2c
  have hbit := and_bit S c
  have e2 : ((2 : Int) ^ c) = ((2 ^ c : Nat) : Int) := by rw [Int.natCast_pow]; rfl
  obtain ⟨P, hP⟩ : ∃ P, P = 2 ^ c := ⟨_, rfl⟩
  rw [← hP] at hand hbit h2c e2
  have hm : (P : Int) % 18446744073709551616 = (P : Int) := by omega
  obtain ⟨X, hX⟩ : ∃ X, X = S &&& P := ⟨_, rfl⟩
  rw [← hX] at hand hbit
  have hc0 : (0 : Int) ≤ (c : Int) := by omega
  have hci : (c : Int) < 64 := by omega
  rw [← hbit]
  clear hbit hX hP
  cases hx : (X != 0) with
  | false =>
    have hb : ((X : Int) != 0) = false := by simp at hx; simp; omega
    clear hx
    go_enter Tryz.func131, Tryz.ntmps131
    go_wp2
    go_ret
    exact ⟨rfl, rfl⟩
  | true =>
    have hb : ((X : Int) != 0) = true := by simp at hx; simp; omega
    clear hx
    go_enter Tryz.func131, Tryz.ntmps131
    go_wp2
    go_ret
    exact ⟨rfl, rfl⟩

/-- Is it a position of the rules? -/
def atB (W0 H0 : Int) (C0 : List UInt8) (T0 : Int) (A0 B0 : List UInt8) (ps : List Pc) (lo : Nat) (li : Int) (re : Nat) (pl W H : Int) (C : List UInt8) (T : Int) (A B : List UInt8) : Bool :=
  rulesB W0 H0 C0 T0 A0 B0 ps lo li re pl && posB W H C T A B && decide (W = W0) && decide (H = H0) && allL (lettersS ps) C A B

set_option maxHeartbeats 4000000 in
set_option maxRecDepth 100000 in
theorem rCheckPosition_any (W0 H0 T0 : Int) (C0 A0 B0 : ByteArray) (ao : Option Addr) (cap : Nat) (ps : List Pc) (dr st : Bool) (lo re : Nat) (li pl : Int) (W H T : Int) (C A B : ByteArray) (w : World) (hC0 : C0.size ≤ maxLen) (hA0 : A0.size ≤ maxLen) (hB0 : B0.size ≤ maxLen) (hlo : lo < 256) (hre : re < 256) (h : isPcs w ao cap ps) (hC : C.size ≤ maxLen) (hA : A.size ≤ maxLen) (hB : B.size ≤ maxLen) :
    Calls Tryz.prog 48 #[.agg #[.int .i64 W0, .int .i64 H0, .string C0, .int .i64 T0, .string A0, .string B0, .slice ao ps.length cap, .bool dr, .int .u8 (lo : Int), .int .i64 li, .int .u8 (re : Int), .bool st, .int .i64 pl], .agg #[.int .i64 W, .int .i64 H, .string C, .int .i64 T, .string A, .string B]] w fun e w' => e = .returned (.int .i64 (errI (atB W0 H0 C0.data.toList T0 A0.data.toList B0.data.toList ps lo li re pl W H C.data.toList T A.data.toList B.data.toList))) ∧ Below w.heap.size w w' := by
  have hS26 := lettersS26 ps
  have hA1 := fun u (hb : Below w.heap.size w u) => rCheck_any W0 H0 T0 C0 A0 B0 ao cap ps dr st lo re li pl u hC0 hA0 hB0 hlo hre (h.below hb (Nat.le_refl _))
  have hA2 := fun u => Check_any W H T C A B u hC hA hB
  have hA3 := fun u (hb : Below w.heap.size w u) => lettersOf_any ao cap ps u (h.below hb (Nat.le_refl _))
  have hA4 := fun u => haveAllOf_any (lettersS ps) W H T C A B u hS26 hC hA hB
  obtain ⟨R, hR⟩ : ∃ R, R = errI (atB W0 H0 C0.data.toList T0 A0.data.toList B0.data.toList ps lo li re pl W H C.data.toList T A.data.toList B.data.toList) := ⟨_, rfl⟩
  rw [← hR]
  unfold atB at hR
  generalize rulesB W0 H0 C0.data.toList T0 A0.data.toList B0.data.toList ps lo li re pl = a1 at hA1 hR
  generalize posB W H C.data.toList T A.data.toList B.data.toList = a2 at hA2 hR
  generalize lettersS ps = S at hA3 hA4 hR
  generalize allL S C.data.toList A.data.toList B.data.toList = a4 at hA4 hR
  generalize psB ps = a3 at hA3
  have HA1 := hide hA1
  have HA2 := hide hA2
  have HA3 := hide hA3
  have HA4 := hide hA4
  have HR := hide hR
  obtain ⟨n, hn⟩ : ∃ n, n = ps.length := ⟨_, rfl⟩
  rw [← hn] at HA1 HA3 ⊢
  obtain ⟨w1, hw1⟩ : ∃ w1, w1 = w.alloc (.cells #[.int .i64 W0, .int .i64 H0, .string C0, .int .i64 T0, .string A0, .string B0, .slice ao n cap, .bool dr, .int .u8 (lo : Int), .int .i64 li, .int .u8 (re : Int), .bool st, .int .i64 pl] 27 (0, 0)) := ⟨_, rfl⟩
  obtain ⟨w2, hw2⟩ : ∃ w2, w2 = w1.alloc (.cells #[.int .i64 W, .int .i64 H, .string C, .int .i64 T, .string A, .string B] 24 (0, 0)) := ⟨_, rfl⟩
  have hb1 : Below w.heap.size w w1 := by rw [hw1]; exact (Below.refl _ _).alloc (Nat.le_refl _) _
  have hb2 : Below w1.heap.size w1 w2 := by rw [hw2]; exact (Below.refl _ _).alloc (Nat.le_refl _) _
  have s1 : w1.heap.size = w.heap.size + 1 := by rw [hw1]; simp
  have hru : isRu w2 w.heap.size (.int .i64 W0) (.int .i64 H0) (.string C0) (.int .i64 T0) (.string A0) (.string B0) (.slice ao n cap) (.bool dr) (.int .u8 (lo : Int)) (.int .i64 li) (.int .u8 (re : Int)) (.bool st) (.int .i64 pl) := isRu.below (show isRu w1 w.heap.size (.int .i64 W0) (.int .i64 H0) (.string C0) (.int .i64 T0) (.string A0) (.string B0) (.slice ao n cap) (.bool dr) (.int .u8 (lo : Int)) (.int .i64 li) (.int .u8 (re : Int)) (.bool st) (.int .i64 pl) by rw [hw1]; exact heap_alloc_new w _) hb2 (by omega)
  have hpb : isPb w2 (w.heap.size + 1) W H T C A B := by rw [hw2, ← s1]; exact heap_alloc_new w1 _
  have HBW := hide (hb1.trans (hb2.mono (by omega)))
  have HPB := hide hpb
  have HRU := hide hru
  have HW1 := hide hw1
  have HW2 := hide hw2
  obtain ⟨p0, p1, p2, p3, p4, p5⟩ := (unhide HPB).all
  obtain ⟨r0, r1, r2, r3, r4, r5, r6, r7, r8, r9, r10, r11, r12⟩ := (unhide HRU).cells
  clear hA1 hA2 hA3 hA4 hR hw1 hw2 hb1 hb2 s1 hru hpb hn h
  go_enter Tryz.func48, Tryz.ntmps48
  go_wp2_with fail
  rw [← unhide HW1, ← unhide HW2]
  refine (unhide HA1 _ (unhide HBW)).mono ?_
  rintro e v ⟨rfl, hb1⟩
  have hPn := (unhide HPB).below hb1 (unhide HPB).lt
  have hRn := (unhide HRU).below hb1 (unhide HRU).lt
  have hBn := (unhide HBW).trans (hb1.mono (unhide HBW).size)
  clear HPB HRU HBW HW1 HW2 p0 p1 p2 p3 p4 p5 r0 r1 r2 r3 r4 r5 r6 r7 r8 r9 r10 r11 r12 hb1
  have HPB := hide hPn
  have HRU := hide hRn
  have HBW := hide hBn
  clear hPn hRn hBn
  obtain ⟨p0, p1, p2, p3, p4, p5⟩ := (unhide HPB).all
  obtain ⟨r0, r1, r2, r3, r4, r5, r6, r7, r8, r9, r10, r11, r12⟩ := (unhide HRU).cells
  cases a1 with
  | false =>
    rw [show errI false = 1 from rfl]
    go_wp2
    go_ret
    exact ⟨by rw [unhide HR]; simp [errI], unhide HBW⟩
  | true =>
  rw [show errI true = 0 from rfl]
  go_wp2_with fail
  refine (unhide HA2 _).mono ?_
  rintro e v ⟨rfl, hb1⟩
  have hPn := (unhide HPB).below hb1 (unhide HPB).lt
  have hRn := (unhide HRU).below hb1 (unhide HRU).lt
  have hBn := (unhide HBW).trans (hb1.mono (unhide HBW).size)
  clear HPB HRU HBW p0 p1 p2 p3 p4 p5 r0 r1 r2 r3 r4 r5 r6 r7 r8 r9 r10 r11 r12 hb1
  have HPB := hide hPn
  have HRU := hide hRn
  have HBW := hide hBn
  clear hPn hRn hBn
  obtain ⟨p0, p1, p2, p3, p4, p5⟩ := (unhide HPB).all
  obtain ⟨r0, r1, r2, r3, r4, r5, r6, r7, r8, r9, r10, r11, r12⟩ := (unhide HRU).cells
  cases a2 with
  | false =>
    rw [show errI false = 1 from rfl]
    go_wp2
    go_ret
    exact ⟨by rw [unhide HR]; simp [errI], unhide HBW⟩
  | true =>
  rw [show errI true = 0 from rfl]
  go_wp2_with fail
  refine (unhide HA3 _ (unhide HBW)).mono ?_
  rintro e v ⟨rfl, hb1⟩
  have hPn := (unhide HPB).below hb1 (unhide HPB).lt
  have hRn := (unhide HRU).below hb1 (unhide HRU).lt
  have hBn := (unhide HBW).trans (hb1.mono (unhide HBW).size)
  clear HPB HRU HBW p0 p1 p2 p3 p4 p5 r0 r1 r2 r3 r4 r5 r6 r7 r8 r9 r10 r11 r12 hb1
  have HPB := hide hPn
  have HRU := hide hRn
  have HBW := hide hBn
  clear hPn hRn hBn
  obtain ⟨p0, p1, p2, p3, p4, p5⟩ := (unhide HPB).all
  obtain ⟨r0, r1, r2, r3, r4, r5, r6, r7, r8, r9, r10, r11, r12⟩ := (unhide HRU).cells
  by_cases hww : W = W0
  · have hbw : (W != W0) = false := by simp [hww]
    by_cases hhh : H = H0
    · have hbh : (H != H0) = false := by simp [hhh]
      have HWW := hide hww
      have HHH := hide hhh
      clear hww hhh
      go_wp2_with fail
      refine (unhide HA4 _).mono ?_
      rintro e v ⟨rfl, hb1⟩
      have hPn := (unhide HPB).below hb1 (unhide HPB).lt
      have hRn := (unhide HRU).below hb1 (unhide HRU).lt
      have hBn := (unhide HBW).trans (hb1.mono (unhide HBW).size)
      clear HPB HRU HBW p0 p1 p2 p3 p4 p5 r0 r1 r2 r3 r4 r5 r6 r7 r8 r9 r10 r11 r12 hb1
      have HPB := hide hPn
      have HRU := hide hRn
      have HBW := hide hBn
      clear hPn hRn hBn
      obtain ⟨p0, p1, p2, p3, p4, p5⟩ := (unhide HPB).all
      obtain ⟨r0, r1, r2, r3, r4, r5, r6, r7, r8, r9, r10, r11, r12⟩ := (unhide HRU).cells
      cases a4 with
      | false =>
        go_wp2
        go_ret
        exact ⟨by rw [unhide HR]; simp [errI], unhide HBW⟩
      | true =>
        go_wp2
        go_ret
        exact ⟨by rw [unhide HR]; simp [errI, unhide HWW, unhide HHH], unhide HBW⟩
    · have hbh : (H != H0) = true := by simp [hhh]
      have HHH := hide hhh
      clear hww hhh
      go_wp2
      go_ret
      exact ⟨by rw [unhide HR]; simp [errI, unhide HHH], unhide HBW⟩
  · have hbw : (W != W0) = true := by simp [hww]
    have HWW := hide hww
    clear hww
    go_wp2
    go_ret
    exact ⟨by rw [unhide HR]; simp [errI, unhide HWW], unhide HBW⟩
end Go.Proofs.YtihojhfpepbjhaaGreatDoor
