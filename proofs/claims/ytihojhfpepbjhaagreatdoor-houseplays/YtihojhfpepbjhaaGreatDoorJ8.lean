/-
  package rules, walked: Check.
  package moves, walked: decided.
-/
import Derived.Test.YtihojhfpepbjhaaGreatDoorJ4
import Derived.Test.YtihojhfpepbjhaaGreatDoorJ7
namespace Go.Proofs.YtihojhfpepbjhaaGreatDoor
open Go.RowKit
attribute [local go_sem ↓] Go.wp_at_zero Go.wp_at_succ

/-- In block g lie rules. -/
def isRu (w : World) (g : Nat) (v0 v1 v2 v3 v4 v5 v6 v7 v8 v9 v10 v11 v12 : Value) : Prop := w.heap[g]? = some (.cells #[v0, v1, v2, v3, v4, v5, v6, v7, v8, v9, v10, v11, v12] 27 (0, 0))
theorem isRu.cells {w : World} {g : Nat} {v0 v1 v2 v3 v4 v5 v6 v7 v8 v9 v10 v11 v12 : Value} (h : isRu w g v0 v1 v2 v3 v4 v5 v6 v7 v8 v9 v10 v11 v12) :
    w.cell? ⟨g, 0, none⟩ = some v0 ∧ w.cell? ⟨g, 1, none⟩ = some v1 ∧ w.cell? ⟨g, 2, none⟩ = some v2 ∧ w.cell? ⟨g, 3, none⟩ = some v3 ∧ w.cell? ⟨g, 4, none⟩ = some v4 ∧ w.cell? ⟨g, 5, none⟩ = some v5 ∧ w.cell? ⟨g, 6, none⟩ = some v6 ∧ w.cell? ⟨g, 7, none⟩ = some v7 ∧ w.cell? ⟨g, 8, none⟩ = some v8 ∧ w.cell? ⟨g, 9, none⟩ = some v9 ∧ w.cell? ⟨g, 10, none⟩ = some v10 ∧ w.cell? ⟨g, 11, none⟩ = some v11 ∧ w.cell? ⟨g, 12, none⟩ = some v12 := by
  refine ⟨?_, ?_, ?_, ?_, ?_, ?_, ?_, ?_, ?_, ?_, ?_, ?_, ?_⟩ <;> exact cell_of_row _ _ _ _ _ _ h
theorem isRu.lt {w : World} {g : Nat} {v0 v1 v2 v3 v4 v5 v6 v7 v8 v9 v10 v11 v12 : Value} (h : isRu w g v0 v1 v2 v3 v4 v5 v6 v7 v8 v9 v10 v11 v12) : g < w.heap.size := by
  rcases Nat.lt_or_ge g w.heap.size with hlt | hge
  · exact hlt
  · unfold isRu at h; rw [Array.getElem?_eq_none hge] at h; cases h
theorem isRu.below {w w1 : World} {g : Nat} {v0 v1 v2 v3 v4 v5 v6 v7 v8 v9 v10 v11 v12 : Value} (h : isRu w g v0 v1 v2 v3 v4 v5 v6 v7 v8 v9 v10 v11 v12) {B : Nat} (hb : Below B w w1) (hB : g < B) : isRu w1 g v0 v1 v2 v3 v4 v5 v6 v7 v8 v9 v10 v11 v12 := by
  unfold isRu; rw [hb.block g hB]; exact h
theorem isRu.fresh {w w1 : World} {v0 v1 v2 v3 v4 v5 v6 v7 v8 v9 v10 v11 v12 : Value} (hb : Below (w.alloc (.cells #[v0, v1, v2, v3, v4, v5, v6, v7, v8, v9, v10, v11, v12] 27)).heap.size (w.alloc (.cells #[v0, v1, v2, v3, v4, v5, v6, v7, v8, v9, v10, v11, v12] 27)) w1) : isRu w1 w.heap.size v0 v1 v2 v3 v4 v5 v6 v7 v8 v9 v10 v11 v12 :=
  isRu.below (show isRu (w.alloc (.cells #[v0, v1, v2, v3, v4, v5, v6, v7, v8, v9, v10, v11, v12] 27)) w.heap.size v0 v1 v2 v3 v4 v5 v6 v7 v8 v9 v10 v11 v12 from heap_alloc_new w _) hb (by simp)
theorem bel_on {B : Nat} {w0 w w1 : World} {o : Obj} (h : Below B w0 w) (hB : B ≤ w.heap.size) (hb : Below (w.alloc o).heap.size (w.alloc o) w1) : Below B w0 w1 :=
  (h.alloc hB o).trans (hb.mono (by simp; omega))

/-- P6: are they rules? -/
def rulesB (W H : Int) (C : List UInt8) (T : Int) (A B : List UInt8) (ps : List Pc) (lo : Nat) (li : Int) (re : Nat) (pl : Int) : Bool :=
  psB ps && posB W H C T A B && allL (lettersS ps) C A B && hasZ (lettersS ps) lo && hasZ (lettersS ps) re && (decide (li = 0) || inB li 2 8) && inB pl 1 1000

theorem bitsP26 : ∀ (ps : List Pc) (S : Nat), S < 67108864 → okP S ps = true → bitsP S ps < 67108864
  | [], S, h, _ => h
  | p :: t, S, h, ho => by
    rw [okP, Bool.and_eq_true, Bool.and_eq_true] at ho
    have hc : capB (p.l : Int) = true := by
      have := ho.1.1
      simp only [pcB, Bool.and_eq_true] at this
      exact this.1.1.1
    simp only [capB, Bool.and_eq_true, decide_eq_true_eq] at hc
    exact bitsP26 t _ (or26 S (p.l - 65) h (by omega)) ho.2
theorem lettersS26 (ps : List Pc) : lettersS ps < 67108864 := by
  unfold lettersS
  split
  · rename_i h
    exact bitsP26 ps 0 (by omega) (by simp only [psB, Bool.and_eq_true] at h; exact h.2)
  · omega

set_option maxHeartbeats 2000000 in
set_option maxRecDepth 100000 in
theorem rCheck_any (W H T : Int) (C A B : ByteArray) (ao : Option Addr) (cap : Nat) (ps : List Pc) (dr st : Bool) (lo re : Nat) (li pl : Int) (w : World) (hC : C.size ≤ maxLen) (hA : A.size ≤ maxLen) (hB : B.size ≤ maxLen) (hlo : lo < 256) (hre : re < 256) (h : isPcs w ao cap ps) :
    Calls Tryz.prog 25 #[.agg #[.int .i64 W, .int .i64 H, .string C, .int .i64 T, .string A, .string B, .slice ao ps.length cap, .bool dr, .int .u8 (lo : Int), .int .i64 li, .int .u8 (re : Int), .bool st, .int .i64 pl]] w fun e w' => e = .returned (.int .i64 (errI (rulesB W H C.data.toList T A.data.toList B.data.toList ps lo li re pl))) ∧ Below w.heap.size w w' := by
  obtain ⟨r, hr⟩ : ∃ r, r = rulesB W H C.data.toList T A.data.toList B.data.toList ps lo li re pl := ⟨_, rfl⟩
  rw [← hr]
  have hba : Below w.heap.size w (w.alloc (.cells #[.int .i64 W, .int .i64 H, .string C, .int .i64 T, .string A, .string B, .slice ao ps.length cap, .bool dr, .int .u8 (lo : Int), .int .i64 li, .int .u8 (re : Int), .bool st, .int .i64 pl] 27 (0, 0))) := (Below.refl _ w).alloc (Nat.le_refl _) _
  have HLET := hide (lettersOf_any ao cap ps _ (h.below hba (Nat.le_refl _)))
  have hS26 := lettersS26 ps
  obtain ⟨S, hS⟩ : ∃ S, S = lettersS ps := ⟨_, rfl⟩
  rw [← hS] at HLET hS26
  unfold rulesB at hr
  rw [← hS] at hr
  have HR := hide hr
  clear hr hS h hba
  go_enter Tryz.func25, Tryz.ntmps25
  go_wp2_with fail
  refine (unhide HLET).mono ?_
  rintro e w1 ⟨rfl, hb1⟩
  have bp1 := isRu.fresh hb1
  have hw1 : Below w.heap.size w w1 := bel_on (Below.refl _ _) (Nat.le_refl _) hb1
  clear hb1 HLET
  obtain ⟨d0, d1, d2, d3, d4, d5, d6, d7, d8, d9, d10, d11, d12⟩ := bp1.cells
  cases hps : psB ps with
  | false =>
    have hf : r = false := by rw [unhide HR, hps]; rfl
    subst hf
    go_wp2
    go_ret
    exact ⟨rfl, hw1⟩
  | true =>
  have hR1 := unhide HR
  rw [hps, Bool.true_and] at hR1
  have HR1 := hide hR1
  clear hR1 HR
  go_wp2_with fail
  refine (Check_any _ _ _ _ _ _ _ hC hA hB).mono ?_
  rintro e w2 ⟨rfl, hb2⟩
  have bp2 := bp1.below hb2 bp1.lt
  have hw2 := hw1.trans (hb2.mono hw1.size)
  clear hb2 bp1 hw1 d0 d1 d2 d3 d4 d5 d6 d7 d8 d9 d10 d11 d12
  obtain ⟨d0, d1, d2, d3, d4, d5, d6, d7, d8, d9, d10, d11, d12⟩ := bp2.cells
  cases hpos : posB W H C.data.toList T A.data.toList B.data.toList with
  | false =>
    have hf : r = false := by rw [unhide HR1, hpos]; rfl
    subst hf
    rw [show errI false = 1 from rfl]
    go_wp2
    go_ret
    exact ⟨rfl, hw2⟩
  | true =>
  have hR2 := unhide HR1
  rw [hpos, Bool.true_and] at hR2
  have HR2 := hide hR2
  rw [show errI true = 0 from rfl]
  clear hR2 HR1 hpos
  go_wp2_with fail
  refine (haveAllOf_any S _ _ _ _ _ _ _ hS26 hC hA hB).mono ?_
  rintro e w3 ⟨rfl, hb3⟩
  have bp3 := bp2.below hb3 bp2.lt
  have hw3 := hw2.trans (hb3.mono hw2.size)
  clear hb3 bp2 hw2 d0 d1 d2 d3 d4 d5 d6 d7 d8 d9 d10 d11 d12
  obtain ⟨d0, d1, d2, d3, d4, d5, d6, d7, d8, d9, d10, d11, d12⟩ := bp3.cells
  cases hal : allL S C.data.toList A.data.toList B.data.toList with
  | false =>
    have hf : r = false := by rw [unhide HR2, hal]; rfl
    subst hf
    go_wp2
    go_ret
    exact ⟨rfl, hw3⟩
  | true =>
  have hR3 := unhide HR2
  rw [hal, Bool.true_and] at hR3
  have HR3 := hide hR3
  clear hR3 HR2 hal
  go_wp2_with fail
  refine (haveIfAny_any S lo _ (by omega) hlo).mono ?_
  rintro e w4 ⟨rfl, rfl⟩
  cases hzl : hasZ S (lo : Int) with
  | false =>
    have hf : r = false := by rw [unhide HR3, hzl]; rfl
    subst hf
    go_wp2
    go_ret
    exact ⟨rfl, hw3⟩
  | true =>
  have hR4 := unhide HR3
  rw [hzl, Bool.true_and] at hR4
  have HR4 := hide hR4
  clear hR4 HR3 hzl
  go_wp2_with fail
  refine (haveIfAny_any S re _ (by omega) hre).mono ?_
  rintro e w5 ⟨rfl, rfl⟩
  cases hzr : hasZ S (re : Int) with
  | false =>
    have hf : r = false := by rw [unhide HR4, hzr]; rfl
    subst hf
    go_wp2
    go_ret
    exact ⟨rfl, hw3⟩
  | true =>
  have hR5 := unhide HR4
  rw [hzr, Bool.true_and] at hR5
  have HR5 := hide hR5
  clear hR5 HR4 hzr
  by_cases hl0 : li = 0
  · subst hl0
    have hR6 : r = inB pl 1 1000 := by rw [unhide HR5]; simp
    have HR6 := hide hR6
    clear hR6 HR5
    go_wp2_with fail
    refine (isWithin_any _ _ _ _).mono ?_
    rintro e w6 ⟨rfl, rfl⟩
    rw [← unhide HR6]
    cases r with
    | false =>
      go_wp2
      go_ret
      exact ⟨rfl, hw3⟩
    | true =>
      go_wp2
      go_ret
      exact ⟨rfl, hw3⟩
  · have hlb : (li != 0) = true := by simp [hl0]
    cases hil : inB li 2 8 with
    | false =>
      have hf : r = false := by rw [unhide HR5, hil]; simp [hl0]
      subst hf
      have HIL := hide hil
      clear hil
      go_wp2_with fail
      refine (isWithin_any _ _ _ _).mono ?_
      rintro e w6 ⟨rfl, rfl⟩
      rw [unhide HIL]
      go_wp2
      go_ret
      exact ⟨rfl, hw3⟩
    | true =>
      have hR6 : r = inB pl 1 1000 := by rw [unhide HR5, hil]; simp
      have HR6 := hide hR6
      have HIL := hide hil
      clear hR6 HR5 hil
      go_wp2_with fail
      refine (isWithin_any _ _ _ _).mono ?_
      rintro e w6 ⟨rfl, rfl⟩
      rw [unhide HIL]
      go_wp2_with fail
      refine (isWithin_any _ _ _ _).mono ?_
      rintro e w7 ⟨rfl, rfl⟩
      rw [← unhide HR6]
      cases r with
      | false =>
        go_wp2
        go_ret
        exact ⟨rfl, hw3⟩
      | true =>
        go_wp2
        go_ret
        exact ⟨rfl, hw3⟩
end Go.Proofs.YtihojhfpepbjhaaGreatDoor

namespace Go.Proofs.YtihojhfpepbjhaaGreatDoor
open Go.RowKit
attribute [local go_sem ↓] Go.wp_at_zero Go.wp_at_succ

/-- A player's last row. -/
def lastR (W P : Nat) (C : ByteArray) : List UInt8 := if P = 1 then C.data.toList.take W else C.data.toList.drop (C.size - W)
/-- What the pieces on the board say. -/
def decO (W H T : Nat) (C : ByteArray) (lo : Nat) (li : Int) (re : Nat) : Int :=
  if lo ≠ 0 ∧ hasN C.data.toList (letN T lo) = false then wonI (1 - (T : Int))
  else if lo ≠ 0 ∧ hasN C.data.toList (letN (1 - T) lo) = false then wonI T
  else if li ≠ 0 ∧ hasLineB W H (1 - T) C li = true then wonI (1 - (T : Int))
  else if li ≠ 0 ∧ hasLineB W H T C li = true then wonI T
  else if re ≠ 0 ∧ hasN (lastR W (1 - T) C) (letN (1 - T) re) = true then wonI (1 - (T : Int))
  else if re ≠ 0 ∧ hasN (lastR W T C) (letN T re) = true then wonI T
  else 0

set_option maxHeartbeats 4000000 in
set_option maxRecDepth 100000 in
theorem decided_any (W H T : Nat) (C A B : ByteArray) (v0 v1 v2 v3 v4 v5 v6 v7 v11 v12 : Value) (lo re : Nat) (li : Int) (w : World) (hlo8 : lo < 256) (hre8 : re < 256) (hT : T ≤ 1) (hW : 1 ≤ W ∧ W ≤ 8) (hH : 1 ≤ H ∧ H ≤ 8) (hC : C.size = W * H) :
    Calls Tryz.prog 85 #[.agg #[v0, v1, v2, v3, v4, v5, v6, v7, .int .u8 (lo : Int), .int .i64 li, .int .u8 (re : Int), v11, v12], .agg #[.int .i64 (W : Int), .int .i64 (H : Int), .string C, .int .i64 (T : Int), .string A, .string B]] w fun e w' => e = .returned (.int .i64 (decO W H T C lo li re)) ∧ Below w.heap.size w w' := by
  have hTi : (1 : Int) - (T : Int) = ((1 - T : Nat) : Int) := by omega
  have hA1 := fun u => hasPiece_any W H T T lo C A B u hT hlo8
  have hA2 := fun u => hasPiece_any W H T (1 - T) lo C A B u (by omega) hlo8
  have hA3 := fun u => hasLine_any W H (1 - T) T li C A B u (by omega) hW hH hC
  have hA4 := fun u => hasLine_any W H T T li C A B u hT hW hH hC
  have hA5 := fun u => hasReached_any W H T (1 - T) re C A B u (by omega) hre8 hW hH hC
  have hA6 := fun u => hasReached_any W H T T re C A B u hT hre8 hW hH hC
  rw [← hTi] at hA2 hA3 hA5
  obtain ⟨R, hR⟩ : ∃ R, R = decO W H T C lo li re := ⟨_, rfl⟩
  rw [← hR]
  unfold decO at hR
  change ∀ u, Calls Tryz.prog _ _ _ (fun e w' => e = .returned (.bool (hasN (lastR W (1 - T) C) (letN (1 - T) re))) ∧ _) at hA5
  change ∀ u, Calls Tryz.prog _ _ _ (fun e w' => e = .returned (.bool (hasN (lastR W T C) (letN T re))) ∧ _) at hA6
  generalize hasN C.data.toList (letN T lo) = a1 at hA1 hR
  generalize hasN C.data.toList (letN (1 - T) lo) = a2 at hA2 hR
  generalize hasLineB W H (1 - T) C li = a3 at hA3 hR
  generalize hasLineB W H T C li = a4 at hA4 hR
  generalize hasN (lastR W (1 - T) C) (letN (1 - T) re) = a5 at hA5 hR
  generalize hasN (lastR W T C) (letN T re) = a6 at hA6 hR
  have HA1 := hide hA1
  have HA2 := hide hA2
  have HA3 := hide hA3
  have HA4 := hide hA4
  have HA5 := hide hA5
  have HA6 := hide hA6
  have HR := hide hR
  obtain ⟨w1, hw1⟩ : ∃ w1, w1 = w.alloc (.cells #[v0, v1, v2, v3, v4, v5, v6, v7, .int .u8 (lo : Int), .int .i64 li, .int .u8 (re : Int), v11, v12] 27 (0, 0)) := ⟨_, rfl⟩
  obtain ⟨w2, hw2⟩ : ∃ w2, w2 = w1.alloc (.cells #[.int .i64 (W : Int), .int .i64 (H : Int), .string C, .int .i64 (T : Int), .string A, .string B] 24 (0, 0)) := ⟨_, rfl⟩
  have hb1 : Below w.heap.size w w1 := by rw [hw1]; exact (Below.refl _ _).alloc (Nat.le_refl _) _
  have hb2 : Below w1.heap.size w1 w2 := by rw [hw2]; exact (Below.refl _ _).alloc (Nat.le_refl _) _
  have s1 : w1.heap.size = w.heap.size + 1 := by rw [hw1]; simp
  have hru : isRu w2 w.heap.size v0 v1 v2 v3 v4 v5 v6 v7 (.int .u8 (lo : Int)) (.int .i64 li) (.int .u8 (re : Int)) v11 v12 := isRu.below (show isRu w1 w.heap.size v0 v1 v2 v3 v4 v5 v6 v7 (.int .u8 (lo : Int)) (.int .i64 li) (.int .u8 (re : Int)) v11 v12 by rw [hw1]; exact heap_alloc_new w _) hb2 (by omega)
  have hpb : isPb w2 (w.heap.size + 1) W H T C A B := by rw [hw2, ← s1]; exact heap_alloc_new w1 _
  have HBW := hide (hb1.trans (hb2.mono (by omega)))
  have HPB := hide hpb
  have HRU := hide hru
  have HW1 := hide hw1
  have HW2 := hide hw2
  obtain ⟨p0, p1, p2, p3, p4, p5⟩ := (unhide HPB).all
  obtain ⟨-, -, -, -, -, -, -, -, r8, r9, r10, -, -⟩ := (unhide HRU).cells
  clear hA1 hA2 hA3 hA4 hA5 hA6 hR hw1 hw2 hb1 hb2 s1 hru hpb hC hTi
  have hTb : (0 : Int) ≤ (T : Int) ∧ (T : Int) ≤ 1 := by omega
  go_enter Tryz.func85, Tryz.ntmps85
  go_wp2_with fail
  rw [← unhide HW1, ← unhide HW2]
  go_quiet (fail)
  obtain ⟨u, hu⟩ : ∃ u, u = w2.drewN nq := ⟨_, rfl⟩
  have hP2 : isPb u (w.heap.size + 1) W H T C A B := by rw [hu]; exact unhide HPB
  have hR2 : isRu u w.heap.size v0 v1 v2 v3 v4 v5 v6 v7 (.int .u8 (lo : Int)) (.int .i64 li) (.int .u8 (re : Int)) v11 v12 := by rw [hu]; exact unhide HRU
  have hB2 : Below w.heap.size w u := by rw [hu]; exact ⟨(unhide HBW).os, (unhide HBW).tape, (unhide HBW).output, (unhide HBW).size, (unhide HBW).block⟩
  rw [← hu]
  clear hu HPB HRU HBW HW1 HW2 p0 p1 p2 p3 p4 p5 r8 r9 r10
  have HPB := hide hP2
  have HRU := hide hR2
  have HBW := hide hB2
  clear hP2 hR2 hB2
  obtain ⟨p0, p1, p2, p3, p4, p5⟩ := (unhide HPB).all
  obtain ⟨-, -, -, -, -, -, -, -, r8, r9, r10, -, -⟩ := (unhide HRU).cells
  by_cases hlo : lo = 0
  · have hb : ((lo : Int) != 0) = false := by simp; omega
    have HLO := hide hlo
    clear hlo
    by_cases hli : li = 0
    · have hbl : (li != 0) = false := by simp [hli]
      have HLI := hide hli
      clear hli
      by_cases hre : re = 0
      · have hbr : ((re : Int) != 0) = false := by simp; omega
        have HRE := hide hre
        clear hre
        go_wp2
        go_ret
        exact ⟨by rw [unhide HR]; simp [unhide HLO, unhide HLI, unhide HRE], unhide HBW⟩
      · have hbr : ((re : Int) != 0) = true := by simp; omega
        have HRE := hide hre
        clear hre
        go_wp2_with fail
        refine (unhide HA5 _).mono ?_
        rintro e v ⟨rfl, hb1⟩
        have hPn := (unhide HPB).below hb1 (unhide HPB).lt
        have hRn := (unhide HRU).below hb1 (unhide HRU).lt
        have hBn := (unhide HBW).trans (hb1.mono (unhide HBW).size)
        clear HPB HRU HBW p0 p1 p2 p3 p4 p5 r8 r9 r10 hb1
        have HPB := hide hPn
        have HRU := hide hRn
        have HBW := hide hBn
        clear hPn hRn hBn
        obtain ⟨p0, p1, p2, p3, p4, p5⟩ := (unhide HPB).all
        obtain ⟨-, -, -, -, -, -, -, -, r8, r9, r10, -, -⟩ := (unhide HRU).cells
        cases a5 with
        | true =>
          go_wp2_with fail
          refine (wonBy_any _ _).mono ?_
          rintro e v ⟨rfl, rfl⟩
          go_wp2
          go_ret
          exact ⟨by rw [unhide HR]; simp [unhide HLO, unhide HLI, unhide HRE], unhide HBW⟩
        | false =>
          go_wp2_with fail
          refine (unhide HA6 _).mono ?_
          rintro e v ⟨rfl, hb1⟩
          have hPn := (unhide HPB).below hb1 (unhide HPB).lt
          have hRn := (unhide HRU).below hb1 (unhide HRU).lt
          have hBn := (unhide HBW).trans (hb1.mono (unhide HBW).size)
          clear HPB HRU HBW p0 p1 p2 p3 p4 p5 r8 r9 r10 hb1
          have HPB := hide hPn
          have HRU := hide hRn
          have HBW := hide hBn
          clear hPn hRn hBn
          obtain ⟨p0, p1, p2, p3, p4, p5⟩ := (unhide HPB).all
          obtain ⟨-, -, -, -, -, -, -, -, r8, r9, r10, -, -⟩ := (unhide HRU).cells
          cases a6 with
          | true =>
            go_wp2_with fail
            refine (wonBy_any _ _).mono ?_
            rintro e v ⟨rfl, rfl⟩
            go_wp2
            go_ret
            exact ⟨by rw [unhide HR]; simp [unhide HLO, unhide HLI, unhide HRE], unhide HBW⟩
          | false =>
            go_wp2
            go_ret
            exact ⟨by rw [unhide HR]; simp [unhide HLO, unhide HLI, unhide HRE], unhide HBW⟩
    · have hbl : (li != 0) = true := by simp [hli]
      have HLI := hide hli
      clear hli
      go_wp2_with fail
      refine (unhide HA3 _).mono ?_
      rintro e v ⟨rfl, hb1⟩
      have hPn := (unhide HPB).below hb1 (unhide HPB).lt
      have hRn := (unhide HRU).below hb1 (unhide HRU).lt
      have hBn := (unhide HBW).trans (hb1.mono (unhide HBW).size)
      clear HPB HRU HBW p0 p1 p2 p3 p4 p5 r8 r9 r10 hb1
      have HPB := hide hPn
      have HRU := hide hRn
      have HBW := hide hBn
      clear hPn hRn hBn
      obtain ⟨p0, p1, p2, p3, p4, p5⟩ := (unhide HPB).all
      obtain ⟨-, -, -, -, -, -, -, -, r8, r9, r10, -, -⟩ := (unhide HRU).cells
      cases a3 with
      | true =>
        go_wp2_with fail
        refine (wonBy_any _ _).mono ?_
        rintro e v ⟨rfl, rfl⟩
        go_wp2
        go_ret
        exact ⟨by rw [unhide HR]; simp [unhide HLO, unhide HLI], unhide HBW⟩
      | false =>
        go_wp2_with fail
        refine (unhide HA4 _).mono ?_
        rintro e v ⟨rfl, hb1⟩
        have hPn := (unhide HPB).below hb1 (unhide HPB).lt
        have hRn := (unhide HRU).below hb1 (unhide HRU).lt
        have hBn := (unhide HBW).trans (hb1.mono (unhide HBW).size)
        clear HPB HRU HBW p0 p1 p2 p3 p4 p5 r8 r9 r10 hb1
        have HPB := hide hPn
        have HRU := hide hRn
        have HBW := hide hBn
        clear hPn hRn hBn
        obtain ⟨p0, p1, p2, p3, p4, p5⟩ := (unhide HPB).all
        obtain ⟨-, -, -, -, -, -, -, -, r8, r9, r10, -, -⟩ := (unhide HRU).cells
        cases a4 with
        | true =>
          go_wp2_with fail
          refine (wonBy_any _ _).mono ?_
          rintro e v ⟨rfl, rfl⟩
          go_wp2
          go_ret
          exact ⟨by rw [unhide HR]; simp [unhide HLO, unhide HLI], unhide HBW⟩
        | false =>
          by_cases hre : re = 0
          · have hbr : ((re : Int) != 0) = false := by simp; omega
            have HRE := hide hre
            clear hre
            go_wp2
            go_ret
            exact ⟨by rw [unhide HR]; simp [unhide HLO, unhide HLI, unhide HRE], unhide HBW⟩
          · have hbr : ((re : Int) != 0) = true := by simp; omega
            have HRE := hide hre
            clear hre
            go_wp2_with fail
            refine (unhide HA5 _).mono ?_
            rintro e v ⟨rfl, hb1⟩
            have hPn := (unhide HPB).below hb1 (unhide HPB).lt
            have hRn := (unhide HRU).below hb1 (unhide HRU).lt
            have hBn := (unhide HBW).trans (hb1.mono (unhide HBW).size)
            clear HPB HRU HBW p0 p1 p2 p3 p4 p5 r8 r9 r10 hb1
            have HPB := hide hPn
            have HRU := hide hRn
            have HBW := hide hBn
            clear hPn hRn hBn
            obtain ⟨p0, p1, p2, p3, p4, p5⟩ := (unhide HPB).all
            obtain ⟨-, -, -, -, -, -, -, -, r8, r9, r10, -, -⟩ := (unhide HRU).cells
            cases a5 with
            | true =>
              go_wp2_with fail
              refine (wonBy_any _ _).mono ?_
              rintro e v ⟨rfl, rfl⟩
              go_wp2
              go_ret
              exact ⟨by rw [unhide HR]; simp [unhide HLO, unhide HLI, unhide HRE], unhide HBW⟩
            | false =>
              go_wp2_with fail
              refine (unhide HA6 _).mono ?_
              rintro e v ⟨rfl, hb1⟩
              have hPn := (unhide HPB).below hb1 (unhide HPB).lt
              have hRn := (unhide HRU).below hb1 (unhide HRU).lt
              have hBn := (unhide HBW).trans (hb1.mono (unhide HBW).size)
              clear HPB HRU HBW p0 p1 p2 p3 p4 p5 r8 r9 r10 hb1
              have HPB := hide hPn
              have HRU := hide hRn
              have HBW := hide hBn
              clear hPn hRn hBn
              obtain ⟨p0, p1, p2, p3, p4, p5⟩ := (unhide HPB).all
              obtain ⟨-, -, -, -, -, -, -, -, r8, r9, r10, -, -⟩ := (unhide HRU).cells
              cases a6 with
              | true =>
                go_wp2_with fail
                refine (wonBy_any _ _).mono ?_
                rintro e v ⟨rfl, rfl⟩
                go_wp2
                go_ret
                exact ⟨by rw [unhide HR]; simp [unhide HLO, unhide HLI, unhide HRE], unhide HBW⟩
              | false =>
                go_wp2
                go_ret
                exact ⟨by rw [unhide HR]; simp [unhide HLO, unhide HLI, unhide HRE], unhide HBW⟩
  · have hb : ((lo : Int) != 0) = true := by simp; omega
    have HLO := hide hlo
    clear hlo
    go_wp2_with fail
    refine (unhide HA1 _).mono ?_
    rintro e v ⟨rfl, hb1⟩
    have hPn := (unhide HPB).below hb1 (unhide HPB).lt
    have hRn := (unhide HRU).below hb1 (unhide HRU).lt
    have hBn := (unhide HBW).trans (hb1.mono (unhide HBW).size)
    clear HPB HRU HBW p0 p1 p2 p3 p4 p5 r8 r9 r10 hb1
    have HPB := hide hPn
    have HRU := hide hRn
    have HBW := hide hBn
    clear hPn hRn hBn
    obtain ⟨p0, p1, p2, p3, p4, p5⟩ := (unhide HPB).all
    obtain ⟨-, -, -, -, -, -, -, -, r8, r9, r10, -, -⟩ := (unhide HRU).cells
    cases a1 with
    | false =>
      go_wp2_with fail
      refine (wonBy_any _ _).mono ?_
      rintro e v ⟨rfl, rfl⟩
      go_wp2
      go_ret
      exact ⟨by rw [unhide HR]; simp [unhide HLO], unhide HBW⟩
    | true =>
      go_wp2_with fail
      refine (unhide HA2 _).mono ?_
      rintro e v ⟨rfl, hb1⟩
      have hPn := (unhide HPB).below hb1 (unhide HPB).lt
      have hRn := (unhide HRU).below hb1 (unhide HRU).lt
      have hBn := (unhide HBW).trans (hb1.mono (unhide HBW).size)
      clear HPB HRU HBW p0 p1 p2 p3 p4 p5 r8 r9 r10 hb1
      have HPB := hide hPn
      have HRU := hide hRn
      have HBW := hide hBn
      clear hPn hRn hBn
      obtain ⟨p0, p1, p2, p3, p4, p5⟩ := (unhide HPB).all
      obtain ⟨-, -, -, -, -, -, -, -, r8, r9, r10, -, -⟩ := (unhide HRU).cells
      cases a2 with
      | false =>
        go_wp2_with fail
        refine (wonBy_any _ _).mono ?_
        rintro e v ⟨rfl, rfl⟩
        go_wp2
        go_ret
        exact ⟨by rw [unhide HR]; simp [unhide HLO], unhide HBW⟩
      | true =>
        by_cases hli : li = 0
        · have hbl : (li != 0) = false := by simp [hli]
          have HLI := hide hli
          clear hli
          by_cases hre : re = 0
          · have hbr : ((re : Int) != 0) = false := by simp; omega
            have HRE := hide hre
            clear hre
            go_wp2
            go_ret
            exact ⟨by rw [unhide HR]; simp [unhide HLO, unhide HLI, unhide HRE], unhide HBW⟩
          · have hbr : ((re : Int) != 0) = true := by simp; omega
            have HRE := hide hre
            clear hre
            go_wp2_with fail
            refine (unhide HA5 _).mono ?_
            rintro e v ⟨rfl, hb1⟩
            have hPn := (unhide HPB).below hb1 (unhide HPB).lt
            have hRn := (unhide HRU).below hb1 (unhide HRU).lt
            have hBn := (unhide HBW).trans (hb1.mono (unhide HBW).size)
            clear HPB HRU HBW p0 p1 p2 p3 p4 p5 r8 r9 r10 hb1
            have HPB := hide hPn
            have HRU := hide hRn
            have HBW := hide hBn
            clear hPn hRn hBn
            obtain ⟨p0, p1, p2, p3, p4, p5⟩ := (unhide HPB).all
            obtain ⟨-, -, -, -, -, -, -, -, r8, r9, r10, -, -⟩ := (unhide HRU).cells
            cases a5 with
            | true =>
              go_wp2_with fail
              refine (wonBy_any _ _).mono ?_
              rintro e v ⟨rfl, rfl⟩
              go_wp2
              go_ret
              exact ⟨by rw [unhide HR]; simp [unhide HLO, unhide HLI, unhide HRE], unhide HBW⟩
            | false =>
              go_wp2_with fail
              refine (unhide HA6 _).mono ?_
              rintro e v ⟨rfl, hb1⟩
              have hPn := (unhide HPB).below hb1 (unhide HPB).lt
              have hRn := (unhide HRU).below hb1 (unhide HRU).lt
              have hBn := (unhide HBW).trans (hb1.mono (unhide HBW).size)
              clear HPB HRU HBW p0 p1 p2 p3 p4 p5 r8 r9 r10 hb1
              have HPB := hide hPn
              have HRU := hide hRn
              have HBW := hide hBn
              clear hPn hRn hBn
              obtain ⟨p0, p1, p2, p3, p4, p5⟩ := (unhide HPB).all
              obtain ⟨-, -, -, -, -, -, -, -, r8, r9, r10, -, -⟩ := (unhide HRU).cells
              cases a6 with
              | true =>
                go_wp2_with fail
                refine (wonBy_any _ _).mono ?_
                rintro e v ⟨rfl, rfl⟩
                go_wp2
                go_ret
                exact ⟨by rw [unhide HR]; simp [unhide HLO, unhide HLI, unhide HRE], unhide HBW⟩
              | false =>
                go_wp2
                go_ret
                exact ⟨by rw [unhide HR]; simp [unhide HLO, unhide HLI, unhide HRE], unhide HBW⟩
        · have hbl : (li != 0) = true := by simp [hli]
          have HLI := hide hli
          clear hli
          go_wp2_with fail
          refine (unhide HA3 _).mono ?_
          rintro e v ⟨rfl, hb1⟩
          have hPn := (unhide HPB).below hb1 (unhide HPB).lt
          have hRn := (unhide HRU).below hb1 (unhide HRU).lt
          have hBn := (unhide HBW).trans (hb1.mono (unhide HBW).size)
          clear HPB HRU HBW p0 p1 p2 p3 p4 p5 r8 r9 r10 hb1
          have HPB := hide hPn
          have HRU := hide hRn
          have HBW := hide hBn
          clear hPn hRn hBn
          obtain ⟨p0, p1, p2, p3, p4, p5⟩ := (unhide HPB).all
          obtain ⟨-, -, -, -, -, -, -, -, r8, r9, r10, -, -⟩ := (unhide HRU).cells
          cases a3 with
          | true =>
            go_wp2_with fail
            refine (wonBy_any _ _).mono ?_
            rintro e v ⟨rfl, rfl⟩
            go_wp2
            go_ret
            exact ⟨by rw [unhide HR]; simp [unhide HLO, unhide HLI], unhide HBW⟩
          | false =>
            go_wp2_with fail
            refine (unhide HA4 _).mono ?_
            rintro e v ⟨rfl, hb1⟩
            have hPn := (unhide HPB).below hb1 (unhide HPB).lt
            have hRn := (unhide HRU).below hb1 (unhide HRU).lt
            have hBn := (unhide HBW).trans (hb1.mono (unhide HBW).size)
            clear HPB HRU HBW p0 p1 p2 p3 p4 p5 r8 r9 r10 hb1
            have HPB := hide hPn
            have HRU := hide hRn
            have HBW := hide hBn
            clear hPn hRn hBn
            obtain ⟨p0, p1, p2, p3, p4, p5⟩ := (unhide HPB).all
            obtain ⟨-, -, -, -, -, -, -, -, r8, r9, r10, -, -⟩ := (unhide HRU).cells
            cases a4 with
            | true =>
              go_wp2_with fail
              refine (wonBy_any _ _).mono ?_
              rintro e v ⟨rfl, rfl⟩
              go_wp2
              go_ret
              exact ⟨by rw [unhide HR]; simp [unhide HLO, unhide HLI], unhide HBW⟩
            | false =>
              by_cases hre : re = 0
              · have hbr : ((re : Int) != 0) = false := by simp; omega
                have HRE := hide hre
                clear hre
                go_wp2
                go_ret
                exact ⟨by rw [unhide HR]; simp [unhide HLO, unhide HLI, unhide HRE], unhide HBW⟩
              · have hbr : ((re : Int) != 0) = true := by simp; omega
                have HRE := hide hre
                clear hre
                go_wp2_with fail
                refine (unhide HA5 _).mono ?_
                rintro e v ⟨rfl, hb1⟩
                have hPn := (unhide HPB).below hb1 (unhide HPB).lt
                have hRn := (unhide HRU).below hb1 (unhide HRU).lt
                have hBn := (unhide HBW).trans (hb1.mono (unhide HBW).size)
                clear HPB HRU HBW p0 p1 p2 p3 p4 p5 r8 r9 r10 hb1
                have HPB := hide hPn
                have HRU := hide hRn
                have HBW := hide hBn
                clear hPn hRn hBn
                obtain ⟨p0, p1, p2, p3, p4, p5⟩ := (unhide HPB).all
                obtain ⟨-, -, -, -, -, -, -, -, r8, r9, r10, -, -⟩ := (unhide HRU).cells
                cases a5 with
                | true =>
                  go_wp2_with fail
                  refine (wonBy_any _ _).mono ?_
                  rintro e v ⟨rfl, rfl⟩
                  go_wp2
                  go_ret
                  exact ⟨by rw [unhide HR]; simp [unhide HLO, unhide HLI, unhide HRE], unhide HBW⟩
                | false =>
                  go_wp2_with fail
                  refine (unhide HA6 _).mono ?_
                  rintro e v ⟨rfl, hb1⟩
                  have hPn := (unhide HPB).below hb1 (unhide HPB).lt
                  have hRn := (unhide HRU).below hb1 (unhide HRU).lt
                  have hBn := (unhide HBW).trans (hb1.mono (unhide HBW).size)
                  clear HPB HRU HBW p0 p1 p2 p3 p4 p5 r8 r9 r10 hb1
                  have HPB := hide hPn
                  have HRU := hide hRn
                  have HBW := hide hBn
                  clear hPn hRn hBn
                  obtain ⟨p0, p1, p2, p3, p4, p5⟩ := (unhide HPB).all
                  obtain ⟨-, -, -, -, -, -, -, -, r8, r9, r10, -, -⟩ := (unhide HRU).cells
                  cases a6 with
                  | true =>
                    go_wp2_with fail
                    refine (wonBy_any _ _).mono ?_
                    rintro e v ⟨rfl, rfl⟩
                    go_wp2
                    go_ret
                    exact ⟨by rw [unhide HR]; simp [unhide HLO, unhide HLI, unhide HRE], unhide HBW⟩
                  | false =>
                    go_wp2
                    go_ret
                    exact ⟨by rw [unhide HR]; simp [unhide HLO, unhide HLI, unhide HRE], unhide HBW⟩
end Go.Proofs.YtihojhfpepbjhaaGreatDoor
