/-
  package moves, walked: waysOf.
  package moves, walked: cellSet.have; package rules: CheckPosition.
  board.otherCase, walked: each letter's other case, for every text of at most 64 bytes; of what was there nothing has turned.
  slices.Compact of bytes, walked.
-/
import Derived.Test.YtihojhfpepbjhaaGreatDoorJ8
import Derived.Test.YtihojhfpepbjhaaGreatDoorJ3
import Derived.Lib.SliceRun
namespace Go.Proofs.YtihojhfpepbjhaaGreatDoor
open Go.RowKit
attribute [local go_sem ↓] Go.wp_at_zero Go.wp_at_succ

/-- The ways of the piece with that letter. -/
def waysP (l : Nat) : List Pc → List Wy
  | [] => []
  | p :: t => if p.l = l then p.ws else waysP l t

set_option maxHeartbeats 2000000 in
set_option maxRecDepth 100000 in
theorem waysOf_any (v0 v1 v2 v3 v4 v5 v7 v8 v9 v10 v11 v12 : Value) (ao : Option Addr) (cap : Nat) (ps : List Pc) (l : Nat) (w : World) (h : isPcs w ao cap ps) :
    Calls Tryz.prog 130 #[.agg #[v0, v1, v2, v3, v4, v5, .slice ao ps.length cap, v7, v8, v9, v10, v11, v12], .int .u8 (l : Int)] w fun e w' => ∃ wo wc, e = .returned (.slice wo (waysP l ps).length wc) ∧ isWys w' wo wc (waysP l ps) ∧ Below w.heap.size w w' := by
  have hle := h.le
  have hmx := h.mx
  unfold maxLen at hmx
  obtain ⟨n, hn⟩ : ∃ n, n = ps.length := ⟨_, rfl⟩
  rw [← hn]
  have HN := hide hn
  have hnx : n ≤ 9223372036854775807 := by omega
  have HP := hide h
  obtain ⟨w1, hw1⟩ : ∃ w1, w1 = w.alloc (.cells #[v0, v1, v2, v3, v4, v5, .slice ao n cap, v7, v8, v9, v10, v11, v12] 27 (0, 0)) := ⟨_, rfl⟩
  have hb1 : Below w.heap.size w w1 := by rw [hw1]; exact (Below.refl _ _).alloc (Nat.le_refl _) _
  have hru : isRu w1 w.heap.size v0 v1 v2 v3 v4 v5 (.slice ao n cap) v7 v8 v9 v10 v11 v12 := by rw [hw1]; exact heap_alloc_new w _
  obtain ⟨-, -, -, -, -, -, r6, -⟩ := hru.cells
  have HB1 := hide hb1
  clear h hn hle hru hb1
  go_enter Tryz.func130, Tryz.ntmps130
  go_wp2
  rw [← hw1]
  clear hw1
  go_loopw [10] (fun iv wr => ∃ k : Nat, k ≤ n ∧ iv = .int .i64 (k : Int) ∧ Hid (waysP l (ps.drop k) = waysP l ps) ∧ Below w.heap.size w wr) (fun iv _ => n - (intOf iv).toNat)
  case atStart => exact ⟨0, Nat.zero_le _, rfl, hide rfl, unhide HB1⟩
  case round =>
    obtain ⟨k, hk, rfl, HK, hbr⟩ := hrel
    clear HB1 r6
    by_cases hkl : k < n
    · have hki : (k : Int) < (n : Int) := by omega
      have hk0 : (0 : Int) ≤ (k : Int) := by omega
      have hkw : k < ps.length := by rw [← unhide HN]; exact hkl
      obtain ⟨p, hp⟩ : ∃ p, ps[k]? = some p := ⟨ps[k], List.getElem?_eq_getElem hkw⟩
      obtain ⟨g, off, eg, hg, hc⟩ := (unhide HP).cells (by rintro rfl; simp at hkw)
      subst eg
      obtain ⟨hl8, wo, wc, c0, c1, c2, c3⟩ := hc k p hp
      have d0 := (hbr.cell (p := ⟨g, off + k * 3, none⟩) hg).trans c0
      have d1 := (hbr.cell (p := ⟨g, off + k * 3 + 1, none⟩) hg).trans c1
      have d2 := (hbr.cell (p := ⟨g, off + k * 3 + 2, none⟩) hg).trans c2
      have hdp := dropP ps k p hp
      have hKK := unhide HK
      rw [hdp, waysP] at hKK
      obtain ⟨wa, hwa⟩ : ∃ wa, wa = wr.alloc (.cells #[.int .u8 (p.l : Int), .int .i64 p.v, .slice wo p.ws.length wc] 71 (0, 0)) := ⟨_, rfl⟩
      have hba : Below w.heap.size w wa := by rw [hwa]; exact hbr.alloc hbr.size _
      have hww : isWys wa wo wc p.ws := c3.below hba (Nat.le_refl _)
      have HBA := hide hba
      have HWW := hide hww
      have HWA := hide hwa
      have HBR := hide hbr
      clear hc c0 c1 c2 c3 hdp hp hba hww hwa hbr
      by_cases he : p.l = l
      · have hb : (((p.l : Int)) == (l : Int)) = true := by simp; omega
        rw [if_pos he] at hKK
        have HKK := hide hKK
        clear he hKK
        go_wp2
        go_ret
        rw [← unhide HWA]
        exact ⟨wo, wc, by rw [← unhide HKK]; rfl, by rw [← unhide HKK]; exact unhide HWW, unhide HBA⟩
      · have hb : (((p.l : Int)) == (l : Int)) = false := by simp; omega
        rw [if_neg he] at hKK
        have HKK := hide hKK
        clear he hKK
        go_wp2
        rw [← unhide HWA]
        go_roundw
        case rel => exact ⟨k + 1, by omega, by go_num, HKK, unhide HBA⟩
        case measure => simp only [intOf]; omega
    · have hki : ¬ (k : Int) < (n : Int) := by omega
      have hwl : waysP l ps = [] := by rw [← unhide HK, List.drop_eq_nil_of_le (by rw [← unhide HN]; omega)]; rfl
      have HWL := hide hwl
      have HBR := hide hbr
      clear hwl hbr
      go_wp2
      go_ret
      exact ⟨none, 0, by rw [unhide HWL]; rfl, by rw [unhide HWL]; exact ⟨Nat.le_refl _, by decide, fun _ => rfl, fun h => absurd rfl h⟩, unhide HBR⟩
end Go.Proofs.YtihojhfpepbjhaaGreatDoor

namespace Go.Proofs.YtihojhfpepbjhaaGreatDoor
open Go.RowKit
attribute [local go_sem ↓] Go.wp_at_zero Go.wp_at_succ

theorem and_u64_nat (a b : Nat) (ha : a < 18446744073709551616) (hb : b < 18446744073709551616) : bits .and .u64 (a : Int) (b : Int) = ((a &&& b : Nat) : Int) := by
  have hx : a &&& b < 2 ^ 64 := Nat.and_lt_two_pow a (by omega)
  have e1 : (BitVec.ofInt 64 (a : Int)).toNat = a := by rw [BitVec.ofInt_natCast, BitVec.toNat_ofNat]; exact Nat.mod_eq_of_lt (by omega)
  have e2 : (BitVec.ofInt 64 (b : Int)).toNat = b := by rw [BitVec.ofInt_natCast, BitVec.toNat_ofNat]; exact Nat.mod_eq_of_lt (by omega)
  show IntKind.u64.wrap ((BitVec.ofInt 64 (a : Int) &&& BitVec.ofInt 64 (b : Int)).toNat : Int) = _
  rw [BitVec.toNat_and, e1, e2]
  unfold IntKind.wrap
  simp [IntKind.signed, IntKind.bits]
  omega

set_option maxHeartbeats 400000 in
theorem setHave_any (S c : Nat) (w : World) (hS : S < 18446744073709551616) (hc : c < 64) :
    Calls Tryz.prog 131 #[.int .u64 (S : Int), .int .i64 (c : Int)] w fun e w' => e = .returned (.bool (S.testBit c)) ∧ w' = w := by
  have h2c : 2 ^ c < 18446744073709551616 := by
    have : (2 : Nat) ^ c < 2 ^ 64 := Nat.pow_lt_pow_right (by omega) hc
    exact this
  have hand := and_u64_nat S (2 ^ c) hS h2c
  have hbit := and_bit S c
  have e2 : ((2 : Int) ^ c) = ((2 ^ c : Nat) : Int) := by rw [Int.natCast_pow]; rfl
  obtain ⟨P, hP⟩ : ∃ P, P = 2 ^ c := ⟨_, rfl⟩
  rw [← hP] at hand hbit h2c e2
  have hm : (P : Int) % 18446744073709551616 = (P : Int) := by omega
  obtain ⟨X, hX⟩ : ∃ X, X = S &&& P := ⟨_, rfl⟩
  rw [← hX] at hand hbit
  have hc0 : (0 : Int) ≤ (c : Int) := by omega
  have hci : (c : Int) < 64 := by omega
  rw [← hbit]
  clear hbit hX hP
  cases hx : (X != 0) with
  | false =>
    have hb : ((X : Int) != 0) = false := by simp at hx; simp; omega
    clear hx
    go_enter Tryz.func131, Tryz.ntmps131
    go_wp2
    go_ret
    exact ⟨rfl, rfl⟩
  | true =>
    have hb : ((X : Int) != 0) = true := by simp at hx; simp; omega
    clear hx
    go_enter Tryz.func131, Tryz.ntmps131
    go_wp2
    go_ret
    exact ⟨rfl, rfl⟩

/-- Is it a position of the rules? -/
def atB (W0 H0 : Int) (C0 : List UInt8) (T0 : Int) (A0 B0 : List UInt8) (ps : List Pc) (lo : Nat) (li : Int) (re : Nat) (pl W H : Int) (C : List UInt8) (T : Int) (A B : List UInt8) : Bool :=
  rulesB W0 H0 C0 T0 A0 B0 ps lo li re pl && posB W H C T A B && decide (W = W0) && decide (H = H0) && allL (lettersS ps) C A B

set_option maxHeartbeats 4000000 in
set_option maxRecDepth 100000 in
theorem rCheckPosition_any (W0 H0 T0 : Int) (C0 A0 B0 : ByteArray) (ao : Option Addr) (cap : Nat) (ps : List Pc) (dr st : Bool) (lo re : Nat) (li pl : Int) (W H T : Int) (C A B : ByteArray) (w : World) (hC0 : C0.size ≤ maxLen) (hA0 : A0.size ≤ maxLen) (hB0 : B0.size ≤ maxLen) (hlo : lo < 256) (hre : re < 256) (h : isPcs w ao cap ps) (hC : C.size ≤ maxLen) (hA : A.size ≤ maxLen) (hB : B.size ≤ maxLen) :
    Calls Tryz.prog 48 #[.agg #[.int .i64 W0, .int .i64 H0, .string C0, .int .i64 T0, .string A0, .string B0, .slice ao ps.length cap, .bool dr, .int .u8 (lo : Int), .int .i64 li, .int .u8 (re : Int), .bool st, .int .i64 pl], .agg #[.int .i64 W, .int .i64 H, .string C, .int .i64 T, .string A, .string B]] w fun e w' => e = .returned (.int .i64 (errI (atB W0 H0 C0.data.toList T0 A0.data.toList B0.data.toList ps lo li re pl W H C.data.toList T A.data.toList B.data.toList))) ∧ Below w.heap.size w w' := by
  have hS26 := lettersS26 ps
  have hA1 := fun u (hb : Below w.heap.size w u) => rCheck_any W0 H0 T0 C0 A0 B0 ao cap ps dr st lo re li pl u hC0 hA0 hB0 hlo hre (h.below hb (Nat.le_refl _))
  have hA2 := fun u => Check_any W H T C A B u hC hA hB
  have hA3 := fun u (hb : Below w.heap.size w u) => lettersOf_any ao cap ps u (h.below hb (Nat.le_refl _))
  have hA4 := fun u => haveAllOf_any (lettersS ps) W H T C A B u hS26 hC hA hB
  obtain ⟨R, hR⟩ : ∃ R, R = errI (atB W0 H0 C0.data.toList T0 A0.data.toList B0.data.toList ps lo li re pl W H C.data.toList T A.data.toList B.data.toList) := ⟨_, rfl⟩
  rw [← hR]
  unfold atB at hR
  generalize rulesB W0 H0 C0.data.toList T0 A0.data.toList B0.data.toList ps lo li re pl = a1 at hA1 hR
  generalize posB W H C.data.toList T A.data.toList B.data.toList = a2 at hA2 hR
  generalize lettersS ps = S at hA3 hA4 hR
  generalize allL S C.data.toList A.data.toList B.data.toList = a4 at hA4 hR
  generalize psB ps = a3 at hA3
  have HA1 := hide hA1
  have HA2 := hide hA2
  have HA3 := hide hA3
  have HA4 := hide hA4
  have HR := hide hR
  obtain ⟨n, hn⟩ : ∃ n, n = ps.length := ⟨_, rfl⟩
  rw [← hn] at HA1 HA3 ⊢
  obtain ⟨w1, hw1⟩ : ∃ w1, w1 = w.alloc (.cells #[.int .i64 W0, .int .i64 H0, .string C0, .int .i64 T0, .string A0, .string B0, .slice ao n cap, .bool dr, .int .u8 (lo : Int), .int .i64 li, .int .u8 (re : Int), .bool st, .int .i64 pl] 27 (0, 0)) := ⟨_, rfl⟩
  obtain ⟨w2, hw2⟩ : ∃ w2, w2 = w1.alloc (.cells #[.int .i64 W, .int .i64 H, .string C, .int .i64 T, .string A, .string B] 24 (0, 0)) := ⟨_, rfl⟩
  have hb1 : Below w.heap.size w w1 := by rw [hw1]; exact (Below.refl _ _).alloc (Nat.le_refl _) _
  have hb2 : Below w1.heap.size w1 w2 := by rw [hw2]; exact (Below.refl _ _).alloc (Nat.le_refl _) _
  have s1 : w1.heap.size = w.heap.size + 1 := by rw [hw1]; simp
  have hru : isRu w2 w.heap.size (.int .i64 W0) (.int .i64 H0) (.string C0) (.int .i64 T0) (.string A0) (.string B0) (.slice ao n cap) (.bool dr) (.int .u8 (lo : Int)) (.int .i64 li) (.int .u8 (re : Int)) (.bool st) (.int .i64 pl) := isRu.below (show isRu w1 w.heap.size (.int .i64 W0) (.int .i64 H0) (.string C0) (.int .i64 T0) (.string A0) (.string B0) (.slice ao n cap) (.bool dr) (.int .u8 (lo : Int)) (.int .i64 li) (.int .u8 (re : Int)) (.bool st) (.int .i64 pl) by rw [hw1]; exact heap_alloc_new w _) hb2 (by omega)
  have hpb : isPb w2 (w.heap.size + 1) W H T C A B := by rw [hw2, ← s1]; exact heap_alloc_new w1 _
  have HBW := hide (hb1.trans (hb2.mono (by omega)))
  have HPB := hide hpb
  have HRU := hide hru
  have HW1 := hide hw1
  have HW2 := hide hw2
  obtain ⟨p0, p1, p2, p3, p4, p5⟩ := (unhide HPB).all
  obtain ⟨r0, r1, r2, r3, r4, r5, r6, r7, r8, r9, r10, r11, r12⟩ := (unhide HRU).cells
  clear hA1 hA2 hA3 hA4 hR hw1 hw2 hb1 hb2 s1 hru hpb hn h
  go_enter Tryz.func48, Tryz.ntmps48
  go_wp2_with fail
  rw [← unhide HW1, ← unhide HW2]
  refine (unhide HA1 _ (unhide HBW)).mono ?_
  rintro e v ⟨rfl, hb1⟩
  have hPn := (unhide HPB).below hb1 (unhide HPB).lt
  have hRn := (unhide HRU).below hb1 (unhide HRU).lt
  have hBn := (unhide HBW).trans (hb1.mono (unhide HBW).size)
  clear HPB HRU HBW HW1 HW2 p0 p1 p2 p3 p4 p5 r0 r1 r2 r3 r4 r5 r6 r7 r8 r9 r10 r11 r12 hb1
  have HPB := hide hPn
  have HRU := hide hRn
  have HBW := hide hBn
  clear hPn hRn hBn
  obtain ⟨p0, p1, p2, p3, p4, p5⟩ := (unhide HPB).all
  obtain ⟨r0, r1, r2, r3, r4, r5, r6, r7, r8, r9, r10, r11, r12⟩ := (unhide HRU).cells
  cases a1 with
  | false =>
    rw [show errI false = 1 from rfl]
    go_wp2
    go_ret
    exact ⟨by rw [unhide HR]; simp [errI], unhide HBW⟩
  | true =>
  rw [show errI true = 0 from rfl]
  go_wp2_with fail
  refine (unhide HA2 _).mono ?_
  rintro e v ⟨rfl, hb1⟩
  have hPn := (unhide HPB).below hb1 (unhide HPB).lt
  have hRn := (unhide HRU).below hb1 (unhide HRU).lt
  have hBn := (unhide HBW).trans (hb1.mono (unhide HBW).size)
  clear HPB HRU HBW p0 p1 p2 p3 p4 p5 r0 r1 r2 r3 r4 r5 r6 r7 r8 r9 r10 r11 r12 hb1
  have HPB := hide hPn
  have HRU := hide hRn
  have HBW := hide hBn
  clear hPn hRn hBn
  obtain ⟨p0, p1, p2, p3, p4, p5⟩ := (unhide HPB).all
  obtain ⟨r0, r1, r2, r3, r4, r5, r6, r7, r8, r9, r10, r11, r12⟩ := (unhide HRU).cells
  cases a2 with
  | false =>
    rw [show errI false = 1 from rfl]
    go_wp2
    go_ret
    exact ⟨by rw [unhide HR]; simp [errI], unhide HBW⟩
  | true =>
  rw [show errI true = 0 from rfl]
  go_wp2_with fail
  refine (unhide HA3 _ (unhide HBW)).mono ?_
  rintro e v ⟨rfl, hb1⟩
  have hPn := (unhide HPB).below hb1 (unhide HPB).lt
  have hRn := (unhide HRU).below hb1 (unhide HRU).lt
  have hBn := (unhide HBW).trans (hb1.mono (unhide HBW).size)
  clear HPB HRU HBW p0 p1 p2 p3 p4 p5 r0 r1 r2 r3 r4 r5 r6 r7 r8 r9 r10 r11 r12 hb1
  have HPB := hide hPn
  have HRU := hide hRn
  have HBW := hide hBn
  clear hPn hRn hBn
  obtain ⟨p0, p1, p2, p3, p4, p5⟩ := (unhide HPB).all
  obtain ⟨r0, r1, r2, r3, r4, r5, r6, r7, r8, r9, r10, r11, r12⟩ := (unhide HRU).cells
  by_cases hww : W = W0
  · have hbw : (W != W0) = false := by simp [hww]
    by_cases hhh : H = H0
    · have hbh : (H != H0) = false := by simp [hhh]
      have HWW := hide hww
      have HHH := hide hhh
      clear hww hhh
      go_wp2_with fail
      refine (unhide HA4 _).mono ?_
      rintro e v ⟨rfl, hb1⟩
      have hPn := (unhide HPB).below hb1 (unhide HPB).lt
      have hRn := (unhide HRU).below hb1 (unhide HRU).lt
      have hBn := (unhide HBW).trans (hb1.mono (unhide HBW).size)
      clear HPB HRU HBW p0 p1 p2 p3 p4 p5 r0 r1 r2 r3 r4 r5 r6 r7 r8 r9 r10 r11 r12 hb1
      have HPB := hide hPn
      have HRU := hide hRn
      have HBW := hide hBn
      clear hPn hRn hBn
      obtain ⟨p0, p1, p2, p3, p4, p5⟩ := (unhide HPB).all
      obtain ⟨r0, r1, r2, r3, r4, r5, r6, r7, r8, r9, r10, r11, r12⟩ := (unhide HRU).cells
      cases a4 with
      | false =>
        go_wp2
        go_ret
        exact ⟨by rw [unhide HR]; simp [errI], unhide HBW⟩
      | true =>
        go_wp2
        go_ret
        exact ⟨by rw [unhide HR]; simp [errI, unhide HWW, unhide HHH], unhide HBW⟩
    · have hbh : (H != H0) = true := by simp [hhh]
      have HHH := hide hhh
      clear hww hhh
      go_wp2
      go_ret
      exact ⟨by rw [unhide HR]; simp [errI, unhide HHH], unhide HBW⟩
  · have hbw : (W != W0) = true := by simp [hww]
    have HWW := hide hww
    clear hww
    go_wp2
    go_ret
    exact ⟨by rw [unhide HR]; simp [errI, unhide HWW], unhide HBW⟩
end Go.Proofs.YtihojhfpepbjhaaGreatDoor

namespace Go.Proofs.YtihojhfpepbjhaaGreatDoor
open Go.RowKit

/-- A row of bytes as '[]byte(s)' lays it: one place behind it bears a mark. -/
def RowM (w : World) (g : Nat) (l : List UInt8) : Prop := ∃ (cur : Array Value) (m : Nat), w.heap[g]? = some (.cells cur 5 (m, m + 1)) ∧ cur.size = m ∧ cur.toList.take l.length = bvals l
theorem RowM.le {l : List UInt8} {cur : Array Value} (h : cur.toList.take l.length = bvals l) : l.length ≤ cur.size := by
  have := congrArg List.length h
  simp [bvals] at this
  omega
theorem RowM.cell {w : World} {g : Nat} {l : List UInt8} (h : RowM w g l) (j : Nat) (hj : j < l.length) : w.cell? ⟨g, j, none⟩ = some (.int .u8 (l[j].toNat : Int)) := by
  obtain ⟨cur, m, h1, h2, h3⟩ := h
  rw [cell_of_row w g j cur _ _ h1]
  have : (cur.toList.take l.length)[j]? = (bvals l)[j]? := by rw [h3]
  rw [List.getElem?_take, if_pos hj] at this
  simpa [bvals, hj] using this
theorem RowM.frozen {w : World} {g : Nat} {l : List UInt8} (h : RowM w g l) (j : Nat) (hj : j < l.length) : w.frozen? ⟨g, j, none⟩ = false := by
  obtain ⟨cur, m, h1, h2, h3⟩ := h
  have := RowM.le h3
  simp [World.frozen?, h1]
  omega
theorem RowM.set {w : World} {g : Nat} {l : List UInt8} (h : RowM w g l) (j : Nat) (c : UInt8) : RowM (w.setCell ⟨g, j, none⟩ (.int .u8 (c.toNat : Int))) g (l.set j c) := by
  obtain ⟨cur, m, h1, h2, h3⟩ := h
  refine ⟨cur.setIfInBounds j (.int .u8 (c.toNat : Int)), m, ?_, by simpa using h2, ?_⟩
  · rw [setCell_eq_setRow w g j cur _ _ _ h1]
    exact setRow_heap w g cur _ _ _ h1
  · rw [Array.toList_setIfInBounds, List.length_set, List.take_set, h3]
    simp [bvals, List.map_set]
theorem RowM.conv {w : World} {g cap n : Nat} {l : List UInt8} (h : RowM w g l) (hn : Hid (l.length = n)) :
    (convert 127 9 (.slice (some ⟨g, 0, none⟩) n cap)).run Tryz.prog w = .ok (.string ⟨l.toArray⟩) w := by
  have hn' := unhide hn
  subst hn'
  refine run_convert_bytes_back w 127 9 5 ⟨g, 0, none⟩ cap l Tryz.underlying127 Tryz.underlying5 Tryz.underlying9 fun j hj => ?_
  have e : (⟨g, 0, none⟩ : Addr).add j = ⟨g, 0 + j, none⟩ := by unfold Addr.add; split <;> simp_all
  rw [Nat.zero_add] at e
  rw [e, h.cell j hj]

/-- The other case; '.' stays. -/
def flipB (c : UInt8) : UInt8 := if c = 46 then 46 else c ^^^ 32
/-- The text when k of its bytes have been changed. -/
def flipTo (l : List UInt8) (k : Nat) : List UInt8 := (l.take k).map flipB ++ l.drop k
theorem rowM_new (w : World) (s : ByteArray) (cap : Nat) : RowM (w.alloc (.cells (bytesRow s cap) 5 ((bytesRow s cap).size, (bytesRow s cap).size + 1))) w.heap.size (flipTo s.data.toList 0) := by
  refine ⟨_, _, heap_alloc_new w _, rfl, ?_⟩
  have : flipTo s.data.toList 0 = s.data.toList := by simp [flipTo]
  rw [this]
  unfold bytesRow bvals
  rw [Array.toList_append, List.take_append_of_le_length (by simp), List.take_of_length_le (by simp)]
  simp

end Go.Proofs.YtihojhfpepbjhaaGreatDoor

namespace Go.Proofs.YtihojhfpepbjhaaGreatDoor
open Go.RowKit
attribute [local go_sem ↓] Go.wp_at_zero Go.wp_at_succ

/-- Is a byte another one than that before it? -/
def newB (d : List UInt8) (i : Nat) : Bool := decide (i = 0) || decide (d[i]! ≠ d[i - 1]!)
/-- The bytes of the first m that are. -/
def cptN (d : List UInt8) (m : Nat) : List UInt8 := ((List.range m).filter (newB d)).map fun i => d[i]!
theorem cptN_yes {d : List UInt8} {m : Nat} (h : newB d m = true) : cptN d (m + 1) = cptN d m ++ [d[m]!] := by
  unfold cptN; rw [List.range_succ, List.filter_append, List.map_append]; simp [h]
theorem cptN_no {d : List UInt8} {m : Nat} (h : newB d m = false) : cptN d (m + 1) = cptN d m := by
  unfold cptN; rw [List.range_succ, List.filter_append, List.map_append]; simp [h]
theorem cptN_le (d : List UInt8) (m : Nat) : (cptN d m).length ≤ m := by
  unfold cptN; rw [List.length_map]; have := List.length_filter_le (newB d) (List.range m); simpa using this
theorem cptN_all {d : List UInt8} : ∀ (m : Nat), m ≤ d.length → (∀ j, j < m → newB d j = true) → cptN d m = d.take m
  | 0, _, _ => by simp [cptN]
  | m + 1, hm, h => by
    rw [cptN_yes (h m (Nat.lt_succ_self _)), cptN_all m (by omega) fun j hj => h j (by omega), List.take_succ_eq_append_getElem (by omega), getElem!_pos d m (by omega)]
theorem RowM.keep {w : World} {g : Nat} {l : List UInt8} (h : RowM w g l) (j : Nat) (v : Value) (hj : l.length ≤ j) : RowM (w.setCell ⟨g, j, none⟩ v) g l := by
  obtain ⟨cur, m, h1, h2, h3⟩ := h
  refine ⟨cur.setIfInBounds j v, m, ?_, by simpa using h2, ?_⟩
  · rw [setCell_eq_setRow w g j cur _ _ _ h1]
    exact setRow_heap w g cur _ _ _ h1
  · rw [Array.toList_setIfInBounds, List.take_set_of_le hj, h3]
theorem RowM.keeps {g : Nat} {l : List UInt8} : ∀ (vs : List Value) (j : Nat) (w : World), RowM w g l → l.length ≤ j → RowM (w.setCells g j vs) g l
  | [], _, _, h, _ => h
  | v :: vs, j, _, h, hj => RowM.keeps vs (j + 1) _ (h.keep j v hj) (by omega)
theorem Bt.puts {g : Nat} {w : World} : ∀ (vs : List Value) (j : Nat) (w' : World), Bt g w w' → Bt g w (w'.setCells g j vs)
  | [], _, _, h => h
  | v :: vs, j, _, h => Bt.puts vs (j + 1) _ (h.put j v)
theorem RowM.take {w : World} {g : Nat} {l : List UInt8} (h : RowM w g l) (m : Nat) : RowM w g (l.take m) := by
  obtain ⟨cur, k, h1, h2, h3⟩ := h
  refine ⟨cur, k, h1, h2, ?_⟩
  have e : bvals (l.take m) = (bvals l).take m := by unfold bvals; rw [List.map_take]
  rw [e, ← h3, List.take_take, List.length_take]
theorem RowM.drew {w : World} {g : Nat} {l : List UInt8} (q : Nat) (h : RowM w g l) : RowM (w.drewN q) g l := h
theorem Bt.drew {g : Nat} {w w' : World} (q : Nat) (h : Bt g w w') : Bt g w (w'.drewN q) := ⟨h.os, h.tape, h.output, h.size, h.block⟩

set_option maxHeartbeats 4000000 in
set_option maxRecDepth 100000 in
theorem Compact_any (g n cap : Nat) (d : List UInt8) (w : World) (hrow : RowM w g d) (hn : d.length = n) (h64 : n ≤ 64) (hcap : n ≤ cap) (_hmx : cap ≤ maxLen) :
    Calls Tryz.prog 160 #[.slice (some ⟨g, 0, none⟩) n cap] w fun e w' => e = .returned (.slice (some ⟨g, 0, none⟩) (cptN d n).length cap) ∧ RowM w' g (cptN d n) ∧ Bt g w w' := by
  have HROW := hide hrow
  have HN := hide hn
  have same : (∀ j, j < n → newB d j = true) → cptN d n = d := fun h => by rw [cptN_all n (by omega) h]; exact List.take_of_length_le (by omega)
  have HSM := hide same
  clear hrow hn same
  by_cases h2 : n < 2
  · have h2i : (n : Int) < 2 := by omega
    go_enter Tryz.func160, Tryz.ntmps160
    go_wp2
    go_ret
    have e := unhide HSM fun j hj => by
      unfold newB
      simp [show j = 0 by omega]
    exact ⟨by rw [e, unhide HN]; rfl, by rw [e]; exact unhide HROW, Bt.refl _ _⟩
  · have h2i : ¬ (n : Int) < 2 := by omega
    go_enter Tryz.func160, Tryz.ntmps160
    go_wp2
    go_loopw [3] (fun iv wr => ∃ k : Nat, 1 ≤ k ∧ k ≤ n ∧ iv = .int .i64 (k : Int) ∧ Hid (∀ j, j < k → newB d j = true) ∧ RowM wr g d ∧ Bt g w wr) (fun iv _ => n - (intOf iv).toNat)
    case atStart => exact ⟨1, Nat.le_refl _, by omega, rfl, hide fun j hj => by unfold newB; simp [show j = 0 by omega], unhide HROW, Bt.refl _ _⟩
    case round =>
      obtain ⟨k, hk1, hk, rfl, HAL, hrow, hbt⟩ := hrel
      clear HROW
      by_cases hlt : k < n
      · have hlti : (k : Int) < (n : Int) := by omega
        have c1 := hrow.cell k (by rw [unhide HN]; exact hlt)
        have c0 := hrow.cell (k - 1) (by rw [unhide HN]; omega)
        obtain ⟨x, hx⟩ : ∃ x : Nat, x = (d[k]'(by rw [unhide HN]; exact hlt)).toNat := ⟨_, rfl⟩
        obtain ⟨y, hy⟩ : ∃ y : Nat, y = (d[k - 1]'(by rw [unhide HN]; omega)).toNat := ⟨_, rfl⟩
        rw [← hx] at c1
        rw [← hy] at c0
        have hnew : newB d k = decide (x ≠ y) := by
          unfold newB
          rw [getElem!_pos d k (by rw [unhide HN]; exact hlt), getElem!_pos d (k - 1) (by rw [unhide HN]; omega), decide_eq_false (show ¬ k = 0 by omega), Bool.false_or, hx, hy]
          exact decide_eq_decide.2 (not_congr UInt8.toNat_inj.symm)
        have HNEW := hide hnew
        have HROW := hide hrow
        have HBT := hide hbt
        clear hrow hbt hx hy hnew
        have hkm : ((k - 1 : Nat) : Int) = (k : Int) - 1 := by omega
        by_cases hxy : x = y
        · have hb : ((x : Int) == (y : Int)) = true := by simp; omega
          have HOLD : Hid (newB d k = false) := hide (by rw [unhide HNEW, hxy]; simp)
          clear hxy
          go_wp2_with fail
          go_quiet (fail)
          have hrow1 := (unhide HROW).drew nq
          have hbt1 := (unhide HBT).drew nq
          have HROW1 := hide hrow1
          have HBT1 := hide hbt1
          clear HROW HBT hrow1 hbt1 c0 c1
          go_wp2
          go_loopw [3, 5] (fun kv jv wr => ∃ (kk k2 : Nat) (l : List UInt8), kv = .int .i64 (kk : Int) ∧ jv = .int .i64 (k2 : Int) ∧ 1 ≤ k2 ∧ k + k2 ≤ n ∧ 1 ≤ kk ∧ kk < k + k2 ∧ RowM wr g l ∧ Bt g w wr ∧ Hid (l.length = n ∧ (cptN d (k + k2)).length = kk ∧ l.take kk = cptN d (k + k2) ∧ ∀ j, k + k2 ≤ j + 1 → l[j]? = d[j]?)) (fun _ jv _ => n - k - (intOf jv).toNat)
          case atStart =>
            have e1 := cptN_all (d := d) k (by rw [unhide HN]; exact hk) (unhide HAL)
            have e2 := cptN_no (unhide HOLD)
            refine ⟨k, 1, d, rfl, rfl, Nat.le_refl _, by omega, hk1, by omega, unhide HROW1, unhide HBT1, hide ⟨unhide HN, ?_, ?_, fun _ _ => rfl⟩⟩
            · rw [e2, e1, List.length_take, unhide HN]; omega
            · rw [e2, e1]
          case round =>
            obtain ⟨kk, k2, l, rfl, rfl, h1, hle, hkk1, hkk, hrow, hbt, HL⟩ := hrel
            obtain ⟨l1, l2, l3, l4⟩ := unhide HL
            clear HROW1 HBT1
            by_cases hlt2 : k + k2 < n
            · have hlt2i : (k2 : Int) < (n : Int) - (k : Int) := by omega
              have hlt2n : k2 < n - k := by omega
              have c1 := hrow.cell (k + k2) (by omega)
              have c0 := hrow.cell (k + k2 - 1) (by omega)
              have ck := hrow.cell kk (by omega)
              have fk := hrow.frozen kk (by omega)
              obtain ⟨z, hz⟩ : ∃ z, z = l[kk]'(by omega) := ⟨_, rfl⟩
              rw [← hz] at ck
              have hdl : d.length = n := unhide HN
              obtain ⟨X, hX⟩ : ∃ X, X = d[k + k2]! := ⟨_, rfl⟩
              obtain ⟨Y, hY⟩ : ∃ Y, Y = d[k + k2 - 1]! := ⟨_, rfl⟩
              have ex : l[k + k2]'(by omega) = X := by
                have := l4 (k + k2) (by omega)
                rw [List.getElem?_eq_getElem (by omega), List.getElem?_eq_getElem (by omega)] at this
                rw [hX, getElem!_pos d _ (by omega)]; exact Option.some.inj this
              have ey : l[k + k2 - 1]'(by omega) = Y := by
                have := l4 (k + k2 - 1) (by omega)
                rw [List.getElem?_eq_getElem (by omega), List.getElem?_eq_getElem (by omega)] at this
                rw [hY, getElem!_pos d _ (by omega)]; exact Option.some.inj this
              rw [ex] at c1
              rw [ey] at c0
              have hnew : newB d (k + k2) = decide (X ≠ Y) := by
                unfold newB
                rw [decide_eq_false (show ¬ k + k2 = 0 by omega), Bool.false_or, hX, hY]
              rw [show k + k2 - 1 = k + (k2 - 1) by omega] at c0
              have HNEW2 := hide hnew
              have HX := hide hX
              have hkm2 : ((k2 - 1 : Nat) : Int) = (k2 : Int) - 1 := by omega
              have HROW := hide hrow
              have HBT := hide hbt
              clear hrow hbt hnew hX hY ex ey hz l1 l2 l3 l4 hdl
              by_cases hxy : X = Y
              · have hb2 : ((X.toNat : Int) != (Y.toNat : Int)) = false := by simp [hxy]
                have HO2 : Hid (newB d (k + k2) = false) := hide (by rw [unhide HNEW2, hxy]; simp)
                clear hxy
                go_wp2_with fail
                go_quiet (fail)
                have HROW2 := hide ((unhide HROW).drew nq)
                have HBT2 := hide ((unhide HBT).drew nq)
                clear HROW HBT
                go_wp2
                go_roundw
                case rel =>
                  obtain ⟨l1, l2, l3, l4⟩ := unhide HL
                  have e2 := cptN_no (unhide HO2)
                  rw [show k + k2 + 1 = k + (k2 + 1) by omega] at e2
                  exact ⟨kk, k2 + 1, l, rfl, by go_num, by omega, by omega, hkk1, by omega, unhide HROW2, unhide HBT2, hide ⟨l1, by rw [e2]; exact l2, by rw [e2]; exact l3, fun j hj => l4 j (by omega)⟩⟩
                case measure => simp only [intOf]; omega
              · have hb2 : ((X.toNat : Int) != (Y.toNat : Int)) = true := by
                  simp only [bne_iff_ne, ne_eq]; intro e; exact hxy (UInt8.toNat_inj.1 (by omega))
                have HO2 : Hid (newB d (k + k2) = true) := hide (by rw [unhide HNEW2]; simp [hxy])
                clear hxy
                go_wp2_with fail
                go_quiet (fail)
                have HROW2 := hide (((unhide HROW).drew nq).set kk X)
                have HBT2 := hide (((unhide HBT).drew nq).put kk (.int .u8 (X.toNat : Int)))
                clear HROW HBT
                go_wp2
                go_roundw
                case rel =>
                  obtain ⟨l1, l2, l3, l4⟩ := unhide HL
                  have e2 := cptN_yes (unhide HO2)
                  rw [show k + k2 + 1 = k + (k2 + 1) by omega, ← unhide HX] at e2
                  refine ⟨kk + 1, k2 + 1, l.set kk X, by go_num, by go_num, by omega, by omega, by omega, by omega, unhide HROW2, unhide HBT2, hide ⟨by rw [List.length_set]; exact l1, by rw [e2, List.length_append, l2]; rfl, ?_, fun j hj => by rw [List.getElem?_set_ne (by omega)]; exact l4 j (by omega)⟩⟩
                  rw [e2, List.take_succ_eq_append_getElem (by rw [List.length_set]; omega), List.take_set_of_le (Nat.le_refl _), l3, List.getElem_set_self]
                case measure => simp only [intOf]; omega
            · have hlt2i : ¬ (k2 : Int) < (n : Int) - (k : Int) := by omega
              have hend : k + k2 = n := by omega
              have hkn : kk < n := by omega
              have hcl : ∀ ty, (Builtin.clear_ #[127] ty #[.slice (some ⟨g, 0 + kk, none⟩) (n - kk) (cap - kk)]).run Tryz.prog wr = .ok (.tuple #[]) (wr.setCells g (0 + kk) (List.replicate (n - kk) (.int .u8 0))) :=
                fun ty => Lib.run_clear_slice wr _ _ ty _ Tryz.underlying127 (fun _ => rfl) rfl rfl g (0 + kk) _ _ (by omega) (fun j hj => by rw [show 0 + kk + j = kk + j by omega, hrow.cell (kk + j) (by omega)]; rfl) (fun j hj => by rw [show 0 + kk + j = kk + j by omega]; exact hrow.frozen (kk + j) (by omega))
              simp only [Nat.zero_add] at hcl
              have hR : RowM (wr.setCells g kk (List.replicate (n - kk) (.int .u8 0))) g (cptN d n) := by
                rw [← hend, ← l3]
                exact RowM.keeps _ _ _ (hrow.take kk) (by rw [List.length_take]; omega)
              have HR := hide hR
              have HB := hide (hbt.puts (List.replicate (n - kk) (.int .u8 0)) kk)
              have HKL : Hid ((cptN d n).length = kk) := hide (by rw [← hend]; exact l2)
              have hk2i : (kk : Int) ≤ (n : Int) := by omega
              have hkc : (kk : Int) ≤ (cap : Int) := by omega
              clear hrow hbt hR l1 l2 l3 l4
              go_wp2
              go_ret
              exact ⟨by rw [unhide HKL]; rfl, unhide HR, unhide HB⟩
        · have hb : ((x : Int) == (y : Int)) = false := by simp; omega
          have HON : Hid (∀ j, j < k + 1 → newB d j = true) := hide (fun j hj => by
            rcases Nat.lt_succ_iff_lt_or_eq.1 hj with h | rfl
            · exact unhide HAL j h
            · rw [unhide HNEW]; exact decide_eq_true hxy)
          clear hxy
          go_wp2_with fail
          go_quiet (fail)
          have HROW1 := hide ((unhide HROW).drew nq)
          have HBT1 := hide ((unhide HBT).drew nq)
          clear HROW HBT
          go_wp2
          go_roundw
          case rel => exact ⟨k + 1, by omega, by omega, by go_num, HON, unhide HROW1, unhide HBT1⟩
          case measure => simp only [intOf]; omega
      · have hlti : ¬ (k : Int) < (n : Int) := by omega
        have HROW := hide hrow
        have HBT := hide hbt
        clear hrow hbt
        go_wp2
        go_ret
        have e := unhide HSM fun j hj => unhide HAL j (by omega)
        exact ⟨by rw [e, unhide HN]; rfl, by rw [e]; exact unhide HROW, unhide HBT⟩
end Go.Proofs.YtihojhfpepbjhaaGreatDoor
