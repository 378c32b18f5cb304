/-
  gamekeep.RulesBack, walked: it answers true.
-/
import Derived.Test.YtbcedjjocpjkjabDoorR23
import Derived.Test.YtbcedjjocpjkjabDoorR24
namespace Go.Proofs.YtbcedjjocpjkjabDoor
open Go.RowKit
attribute [local go_sem ↓] Go.wp_at_zero Go.wp_at_succ

theorem bel2 {B : Nat} {w0 w1 w3 : World} {o o' : Obj} (h : Below B w0 w1) (hB : B ≤ w1.heap.size) (hb : Below ((w1.alloc o).alloc o').heap.size ((w1.alloc o).alloc o') w3) : Below B w0 w3 :=
  ((h.alloc hB o).alloc (by simp; omega) o').trans (hb.mono (by simp; omega))
theorem bel2' {B : Nat} {w0 w1 : World} (o o' : Obj) (h : Below B w0 w1) (hB : B ≤ w1.heap.size) : Below B w0 ((w1.alloc o).alloc o') :=
  (h.alloc hB o).alloc (by simp; omega) o'
theorem tab_below {B : Nat} {w w' : World} (h : isTab w) (hb : Below B w w') (hB : w.heap.size ≤ B) : isTab w' := h.below (hb.mono hB)


set_option maxHeartbeats 4000000 in
set_option maxRecDepth 100000 in
theorem back_no (W H T : Int) (C A B : ByteArray) (ao : Option Addr) (cap : Nat) (ps : List Pc) (dr st : Bool) (lo re : UInt8) (li pl : Int) (s : ByteArray) (m : Int) (w : World) (hC : C.size ≤ maxLen) (hA : A.size ≤ maxLen) (hB : B.size ≤ maxLen) (hp : isPcs w ao cap ps) (hf : rulesB W H C.data.toList T A.data.toList B.data.toList ps lo.toNat li re.toNat pl = false) (hs : s.size < 2000000) (hm : w.cell? ⟨0, 0, none⟩ = some (.int .i64 m)) (h0 : 0 < w.heap.size) (ht : isTab w) :
    Calls Tryd.prog 3 #[.agg #[.int .i64 W, .int .i64 H, .string C, .int .i64 T, .string A, .string B, .slice ao ps.length cap, .bool dr, .int .u8 (lo.toNat : Int), .int .i64 li, .int .u8 (re.toNat : Int), .bool st, .int .i64 pl], .string s] w fun e w' => e = .returned (.bool true) ∧ Below w.heap.size w w' := by
  have hr0 : isRu (w.alloc (.cells #[.int .i64 W, .int .i64 H, .string C, .int .i64 T, .string A, .string B, .slice ao ps.length cap, .bool dr, .int .u8 (lo.toNat : Int), .int .i64 li, .int .u8 (re.toNat : Int), .bool st, .int .i64 pl] 27 (0, 0))) w.heap.size (.int .i64 W) (.int .i64 H) (.string C) (.int .i64 T) (.string A) (.string B) (.slice ao ps.length cap) (.bool dr) (.int .u8 (lo.toNat : Int)) (.int .i64 li) (.int .u8 (re.toNat : Int)) (.bool st) (.int .i64 pl) := heap_alloc_new w _
  have hb0 : Below w.heap.size w (w.alloc (.cells #[.int .i64 W, .int .i64 H, .string C, .int .i64 T, .string A, .string B, .slice ao ps.length cap, .bool dr, .int .u8 (lo.toNat : Int), .int .i64 li, .int .u8 (re.toNat : Int), .bool st, .int .i64 pl] 27 (0, 0))) := (Below.refl _ w).alloc (Nat.le_refl _) _
  have hz0 : (w.alloc (.cells #[.int .i64 W, .int .i64 H, .string C, .int .i64 T, .string A, .string B, .slice ao ps.length cap, .bool dr, .int .u8 (lo.toNat : Int), .int .i64 li, .int .u8 (re.toNat : Int), .bool st, .int .i64 pl] 27 (0, 0))).heap.size = w.heap.size + 1 := by simp
  have hm0 : (w.alloc (.cells #[.int .i64 W, .int .i64 H, .string C, .int .i64 T, .string A, .string B, .slice ao ps.length cap, .bool dr, .int .u8 (lo.toNat : Int), .int .i64 li, .int .u8 (re.toNat : Int), .bool st, .int .i64 pl] 27 (0, 0))).cell? ⟨0, 0, none⟩ = some (.int .i64 m) := by rw [hb0.cell (p := ⟨0, 0, none⟩) h0]; exact hm
  have HK := hide (rRead_any kText m _ (by decide) hm0 (by rw [hz0]; omega))
  have HM := hide hm
  have HT := hide ht
  clear hm0 hm ht
  go_enter Tryd.func3, Tryd.ntmps3
  go_wp2_with fail
  refine (unhide HK).mono ?_
  rintro e w1 ⟨hx, hl1⟩
  have hr1 := hr0.below hl1 (by rw [hz0]; omega)
  have hb1 : Below w.heap.size w w1 := hb0.trans (hl1.mono (by rw [hz0]; omega))
  have hg1 : w.heap.size < w1.heap.size := hr1.lt
  clear HK hr0 hb0 hl1 hz0
  rw [kRead] at hx
  obtain ⟨x0, ao0, cap0, hR0, -, -, -, -, rfl⟩ | ⟨c0, n0, -, hR0, -⟩ := hx
  case inr => cases hR0
  have hlen0 : x0.ps.length = 1 := by
    simp only [Prod.mk.injEq, Option.some.injEq, and_true] at hR0
    rw [← hR0]; rfl
  rw [hlen0]
  clear hR0 hlen0
  unfold Rl.val faultV
  generalize (⟨x0.C.toArray⟩ : ByteArray) = CB0
  generalize (⟨x0.A.toArray⟩ : ByteArray) = AB0
  generalize (⟨x0.B.toArray⟩ : ByteArray) = BB0
  have hza : Below w1.heap.size w1 w1 := Below.refl _ _
  obtain ⟨d0, d1, d2, d3, d4, d5, d6, d7, d8, d9, d10, d11, d12⟩ := hr1.cells
  have e0 := fun o o' => ((bel2' o o' hza (Nat.le_refl _)).cell (p := ⟨w.heap.size, 0, none⟩) hg1).trans d0
  have e1 := fun o o' => ((bel2' o o' hza (Nat.le_refl _)).cell (p := ⟨w.heap.size, 1, none⟩) hg1).trans d1
  have e2 := fun o o' => ((bel2' o o' hza (Nat.le_refl _)).cell (p := ⟨w.heap.size, 2, none⟩) hg1).trans d2
  have e3 := fun o o' => ((bel2' o o' hza (Nat.le_refl _)).cell (p := ⟨w.heap.size, 3, none⟩) hg1).trans d3
  have e4 := fun o o' => ((bel2' o o' hza (Nat.le_refl _)).cell (p := ⟨w.heap.size, 4, none⟩) hg1).trans d4
  have e5 := fun o o' => ((bel2' o o' hza (Nat.le_refl _)).cell (p := ⟨w.heap.size, 5, none⟩) hg1).trans d5
  have e6 := fun o o' => ((bel2' o o' hza (Nat.le_refl _)).cell (p := ⟨w.heap.size, 6, none⟩) hg1).trans d6
  have e7 := fun o o' => ((bel2' o o' hza (Nat.le_refl _)).cell (p := ⟨w.heap.size, 7, none⟩) hg1).trans d7
  have e8 := fun o o' => ((bel2' o o' hza (Nat.le_refl _)).cell (p := ⟨w.heap.size, 8, none⟩) hg1).trans d8
  have e9 := fun o o' => ((bel2' o o' hza (Nat.le_refl _)).cell (p := ⟨w.heap.size, 9, none⟩) hg1).trans d9
  have e10 := fun o o' => ((bel2' o o' hza (Nat.le_refl _)).cell (p := ⟨w.heap.size, 10, none⟩) hg1).trans d10
  have e11 := fun o o' => ((bel2' o o' hza (Nat.le_refl _)).cell (p := ⟨w.heap.size, 11, none⟩) hg1).trans d11
  have e12 := fun o o' => ((bel2' o o' hza (Nat.le_refl _)).cell (p := ⟨w.heap.size, 12, none⟩) hg1).trans d12
  clear d0 d1 d2 d3 d4 d5 d6 d7 d8 d9 d10 d11 d12 hza
  have HG1 := hide hg1
  clear hg1
  go_wp2_with fail
  clear e0 e1 e2 e3 e4 e5 e6 e7 e8 e9 e10 e11 e12
  refine (rWrite_no W H T C A B ao cap ps dr st lo re li pl _ hC hA hB (hp.below (bel2' _ _ hb1 hb1.size) (Nat.le_refl _)) hf).mono ?_
  rintro e wt ⟨rfl, hl2⟩
  have hbt : Below w.heap.size w wt := bel2 hb1 hb1.size hl2
  clear hl2 hr1 hb1 HG1
  have hmt : wt.cell? ⟨0, 0, none⟩ = some (.int .i64 m) := by rw [hbt.cell (p := ⟨0, 0, none⟩) h0]; exact unhide HM
  have htt : isTab wt := (unhide HT).below hbt
  have hszt := hbt.size
  have HTT := hide htt
  have HSZT := hide hszt
  clear htt hszt
  go_wp2_with fail
  refine (rRead_any s m wt hs hmt (by have := unhide HSZT; omega)).mono ?_
  rintro e w6 ⟨hx, hl6⟩
  have hb6 : Below w.heap.size w w6 := hbt.trans (hl6.mono (unhide HSZT))
  have ht6 : isTab w6 := (unhide HTT).below hl6
  have HL6 : Hid (w.heap.size ≤ w6.heap.size) := hide hb6.size
  clear hl6 HTT HSZT hmt
  rcases hx with ⟨x9, ao9, cap9, hR9, hpc9, -, -, -, rfl⟩ | ⟨c9, n9, hc9, hR9, rfl⟩
  · obtain ⟨hR1, -, hR3⟩ := readR_back _ _ _ hR9
    have hs9 : (⟨x9.txt.toArray⟩ : ByteArray) = s := bytes_eq hR1
    have HW9 := hide (fun (o o' : Obj) => rWrite_of x9 hR3 ao9 cap9 ((w6.alloc o).alloc o') (hpc9.below (bel2' o o' (Below.refl w6.heap.size w6) (Nat.le_refl _)) (Nat.le_refl _)) (ht6.below (bel2' o o' (Below.refl w6.heap.size w6) (Nat.le_refl _))))
    rw [hs9] at HW9
    unfold Rl.val at HW9
    unfold Rl.val faultV
    generalize (⟨x9.C.toArray⟩ : ByteArray) = CB9 at HW9 ⊢
    generalize (⟨x9.A.toArray⟩ : ByteArray) = AB9 at HW9 ⊢
    generalize (⟨x9.B.toArray⟩ : ByteArray) = BB9 at HW9 ⊢
    clear hR9 hR1 hR3 hs9 hpc9 ht6
    go_wp2_with fail
    refine (unhide HW9 _ _).mono ?_
    rintro e w7 ⟨rfl, hl7⟩
    have hb7 : Below w.heap.size w w7 := bel2 hb6 (unhide HL6) hl7
    clear hl7 HW9
    go_wp2
    go_ret
    exact ⟨rfl, hb7⟩
  · have hb7 : ∀ o o', Below w.heap.size w ((w6.alloc o).alloc o') := fun o o' => bel2' o o' hb6 (unhide HL6)
    unfold zeroRules faultV
    have hc9b : (c9 == 0) = false := by simpa using hc9
    clear hR9 ht6
    go_wp2
    go_ret
    exact ⟨rfl, hb7 _ _⟩

set_option maxHeartbeats 4000000 in
set_option maxRecDepth 100000 in
theorem back_ok (x : Rl) (hx : x.whole = true) (ao : Option Addr) (cap : Nat) (s : ByteArray) (m : Int) (w : World) (hp : isPcs w ao cap x.ps) (hs : s.size < 2000000) (hm : w.cell? ⟨0, 0, none⟩ = some (.int .i64 m)) (h0 : 0 < w.heap.size) (ht : isTab w) :
    Calls Tryd.prog 3 #[x.val (.slice ao x.ps.length cap), .string s] w fun e w' => e = .returned (.bool true) ∧ Below w.heap.size w w' := by
  have hW := fun w' h1 h2 => rWrite_of x hx ao cap w' h1 h2
  unfold Rl.val at hW ⊢
  obtain ⟨CB, hCB⟩ : ∃ CB : ByteArray, CB = ⟨x.C.toArray⟩ := ⟨_, rfl⟩
  obtain ⟨AB, hAB⟩ : ∃ AB : ByteArray, AB = ⟨x.A.toArray⟩ := ⟨_, rfl⟩
  obtain ⟨BB, hBB⟩ : ∃ BB : ByteArray, BB = ⟨x.B.toArray⟩ := ⟨_, rfl⟩
  obtain ⟨TX, hTX⟩ : ∃ TX : ByteArray, TX = ⟨x.txt.toArray⟩ := ⟨_, rfl⟩
  rw [← hCB, ← hAB, ← hBB, ← hTX] at hW
  rw [← hCB, ← hAB, ← hBB]
  have hTd : TX.data.toList = x.txt := by rw [hTX]
  have hTs : TX.size < 2000000 := by rw [← len_data, hTd]; have := txt_len x hx; omega
  have hTR : readR TX.data.toList = (some x, 0, 0) := by rw [hTd]; exact readR_there x hx
  have HW := hide hW
  have HTR := hide hTR
  have HCB := hide hCB
  have HAB := hide hAB
  have HBB := hide hBB
  clear hW hCB hAB hBB hTX hTd hTR hx
  have hr0 : isRu (w.alloc (.cells #[.int .i64 (x.W : Int), .int .i64 (x.H : Int), .string CB, .int .i64 x.T, .string AB, .string BB, .slice ao x.ps.length cap, .bool x.dr, .int .u8 (x.lo.toNat : Int), .int .i64 (x.li : Int), .int .u8 (x.re.toNat : Int), .bool x.st, .int .i64 (x.pl : Int)] 27 (0, 0))) w.heap.size (.int .i64 (x.W : Int)) (.int .i64 (x.H : Int)) (.string CB) (.int .i64 x.T) (.string AB) (.string BB) (.slice ao x.ps.length cap) (.bool x.dr) (.int .u8 (x.lo.toNat : Int)) (.int .i64 (x.li : Int)) (.int .u8 (x.re.toNat : Int)) (.bool x.st) (.int .i64 (x.pl : Int)) := heap_alloc_new w _
  have hb0 : Below w.heap.size w (w.alloc (.cells #[.int .i64 (x.W : Int), .int .i64 (x.H : Int), .string CB, .int .i64 x.T, .string AB, .string BB, .slice ao x.ps.length cap, .bool x.dr, .int .u8 (x.lo.toNat : Int), .int .i64 (x.li : Int), .int .u8 (x.re.toNat : Int), .bool x.st, .int .i64 (x.pl : Int)] 27 (0, 0))) := (Below.refl _ w).alloc (Nat.le_refl _) _
  have hz0 : (w.alloc (.cells #[.int .i64 (x.W : Int), .int .i64 (x.H : Int), .string CB, .int .i64 x.T, .string AB, .string BB, .slice ao x.ps.length cap, .bool x.dr, .int .u8 (x.lo.toNat : Int), .int .i64 (x.li : Int), .int .u8 (x.re.toNat : Int), .bool x.st, .int .i64 (x.pl : Int)] 27 (0, 0))).heap.size = w.heap.size + 1 := by simp
  have hm0 : (w.alloc (.cells #[.int .i64 (x.W : Int), .int .i64 (x.H : Int), .string CB, .int .i64 x.T, .string AB, .string BB, .slice ao x.ps.length cap, .bool x.dr, .int .u8 (x.lo.toNat : Int), .int .i64 (x.li : Int), .int .u8 (x.re.toNat : Int), .bool x.st, .int .i64 (x.pl : Int)] 27 (0, 0))).cell? ⟨0, 0, none⟩ = some (.int .i64 m) := by rw [hb0.cell (p := ⟨0, 0, none⟩) h0]; exact hm
  have HK := hide (rRead_any kText m _ (by decide) hm0 (by rw [hz0]; omega))
  have HM := hide hm
  have HT := hide ht
  clear hm0 hm ht
  go_enter Tryd.func3, Tryd.ntmps3
  go_wp2_with fail
  refine (unhide HK).mono ?_
  rintro e w1 ⟨hx, hl1⟩
  have hr1 := hr0.below hl1 (by rw [hz0]; omega)
  have hb1 : Below w.heap.size w w1 := hb0.trans (hl1.mono (by rw [hz0]; omega))
  have hg1 : w.heap.size < w1.heap.size := hr1.lt
  clear HK hr0 hb0 hl1 hz0
  rw [kRead] at hx
  obtain ⟨x0, ao0, cap0, hR0, -, -, -, -, rfl⟩ | ⟨c0, n0, -, hR0, -⟩ := hx
  case inr => cases hR0
  have hlen0 : x0.ps.length = 1 := by
    simp only [Prod.mk.injEq, Option.some.injEq, and_true] at hR0
    rw [← hR0]; rfl
  rw [hlen0]
  clear hR0 hlen0
  unfold Rl.val faultV
  generalize (⟨x0.C.toArray⟩ : ByteArray) = CB0
  generalize (⟨x0.A.toArray⟩ : ByteArray) = AB0
  generalize (⟨x0.B.toArray⟩ : ByteArray) = BB0
  have hza : Below w1.heap.size w1 w1 := Below.refl _ _
  obtain ⟨d0, d1, d2, d3, d4, d5, d6, d7, d8, d9, d10, d11, d12⟩ := hr1.cells
  have e0 := fun o o' => ((bel2' o o' hza (Nat.le_refl _)).cell (p := ⟨w.heap.size, 0, none⟩) hg1).trans d0
  have e1 := fun o o' => ((bel2' o o' hza (Nat.le_refl _)).cell (p := ⟨w.heap.size, 1, none⟩) hg1).trans d1
  have e2 := fun o o' => ((bel2' o o' hza (Nat.le_refl _)).cell (p := ⟨w.heap.size, 2, none⟩) hg1).trans d2
  have e3 := fun o o' => ((bel2' o o' hza (Nat.le_refl _)).cell (p := ⟨w.heap.size, 3, none⟩) hg1).trans d3
  have e4 := fun o o' => ((bel2' o o' hza (Nat.le_refl _)).cell (p := ⟨w.heap.size, 4, none⟩) hg1).trans d4
  have e5 := fun o o' => ((bel2' o o' hza (Nat.le_refl _)).cell (p := ⟨w.heap.size, 5, none⟩) hg1).trans d5
  have e6 := fun o o' => ((bel2' o o' hza (Nat.le_refl _)).cell (p := ⟨w.heap.size, 6, none⟩) hg1).trans d6
  have e7 := fun o o' => ((bel2' o o' hza (Nat.le_refl _)).cell (p := ⟨w.heap.size, 7, none⟩) hg1).trans d7
  have e8 := fun o o' => ((bel2' o o' hza (Nat.le_refl _)).cell (p := ⟨w.heap.size, 8, none⟩) hg1).trans d8
  have e9 := fun o o' => ((bel2' o o' hza (Nat.le_refl _)).cell (p := ⟨w.heap.size, 9, none⟩) hg1).trans d9
  have e10 := fun o o' => ((bel2' o o' hza (Nat.le_refl _)).cell (p := ⟨w.heap.size, 10, none⟩) hg1).trans d10
  have e11 := fun o o' => ((bel2' o o' hza (Nat.le_refl _)).cell (p := ⟨w.heap.size, 11, none⟩) hg1).trans d11
  have e12 := fun o o' => ((bel2' o o' hza (Nat.le_refl _)).cell (p := ⟨w.heap.size, 12, none⟩) hg1).trans d12
  clear d0 d1 d2 d3 d4 d5 d6 d7 d8 d9 d10 d11 d12 hza
  have HG1 := hide hg1
  clear hg1
  go_wp2_with fail
  clear e0 e1 e2 e3 e4 e5 e6 e7 e8 e9 e10 e11 e12
  refine (unhide HW _ (hp.below (bel2' _ _ hb1 hb1.size) (Nat.le_refl _)) ((unhide HT).below (bel2' _ _ hb1 hb1.size))).mono ?_
  rintro e w3 ⟨rfl, hl3⟩
  have hb3 : Below w.heap.size w w3 := bel2 hb1 hb1.size hl3
  have hb13 : Below w1.heap.size w1 w3 := bel2 (Below.refl _ _) (Nat.le_refl _) hl3
  have hr3 := hr1.below hb13 (unhide HG1)
  have hm3 : w3.cell? ⟨0, 0, none⟩ = some (.int .i64 m) := by rw [hb3.cell (p := ⟨0, 0, none⟩) h0]; exact unhide HM
  have HK3 := hide (rRead_any TX m w3 hTs hm3 (by have := hr3.lt; omega))
  clear hl3 hb13 hr1 hb1 HG1 hm3 HW
  go_wp2_with fail
  refine (unhide HK3).mono ?_
  rintro e w4 ⟨hx, hl4⟩
  rw [unhide HTR] at hx
  have hr4 := hr3.below hl4 hr3.lt
  have hb4 : Below w.heap.size w w4 := hb3.trans (hl4.mono hb3.size)
  have hg4 : w.heap.size < w4.heap.size := hr4.lt
  clear HK3 hr3 hb3 hl4
  obtain ⟨x4, ao4, cap4, hR4, hpc4, -, -, -, rfl⟩ | ⟨c4, n4, -, hR4, -⟩ := hx
  case inr => cases hR4
  obtain rfl : x = x4 := by
    simp only [Prod.mk.injEq, Option.some.injEq, and_true] at hR4
    exact hR4
  clear hR4
  unfold Rl.val faultV
  rw [← unhide HCB, ← unhide HAB, ← unhide HBB]
  have hSR := fun o o' => SameRules_same (x.W : Int) (x.H : Int) x.T CB AB BB ao4 ao cap4 cap x.ps x.dr x.st x.lo.toNat x.re.toNat (x.li : Int) (x.pl : Int) ((w4.alloc o).alloc o') (hpc4.below (bel2' o o' (Below.refl w4.heap.size w4) (Nat.le_refl _)) (Nat.le_refl _)) (hp.below (bel2' o o' hb4 hb4.size) (Nat.le_refl _))
  have HSR := hide hSR
  have hza : Below w4.heap.size w4 w4 := Below.refl _ _
  obtain ⟨d0, d1, d2, d3, d4, d5, d6, d7, d8, d9, d10, d11, d12⟩ := hr4.cells
  have e0 := fun o o' => ((bel2' o o' hza (Nat.le_refl _)).cell (p := ⟨w.heap.size, 0, none⟩) hg4).trans d0
  have e1 := fun o o' => ((bel2' o o' hza (Nat.le_refl _)).cell (p := ⟨w.heap.size, 1, none⟩) hg4).trans d1
  have e2 := fun o o' => ((bel2' o o' hza (Nat.le_refl _)).cell (p := ⟨w.heap.size, 2, none⟩) hg4).trans d2
  have e3 := fun o o' => ((bel2' o o' hza (Nat.le_refl _)).cell (p := ⟨w.heap.size, 3, none⟩) hg4).trans d3
  have e4 := fun o o' => ((bel2' o o' hza (Nat.le_refl _)).cell (p := ⟨w.heap.size, 4, none⟩) hg4).trans d4
  have e5 := fun o o' => ((bel2' o o' hza (Nat.le_refl _)).cell (p := ⟨w.heap.size, 5, none⟩) hg4).trans d5
  have e6 := fun o o' => ((bel2' o o' hza (Nat.le_refl _)).cell (p := ⟨w.heap.size, 6, none⟩) hg4).trans d6
  have e7 := fun o o' => ((bel2' o o' hza (Nat.le_refl _)).cell (p := ⟨w.heap.size, 7, none⟩) hg4).trans d7
  have e8 := fun o o' => ((bel2' o o' hza (Nat.le_refl _)).cell (p := ⟨w.heap.size, 8, none⟩) hg4).trans d8
  have e9 := fun o o' => ((bel2' o o' hza (Nat.le_refl _)).cell (p := ⟨w.heap.size, 9, none⟩) hg4).trans d9
  have e10 := fun o o' => ((bel2' o o' hza (Nat.le_refl _)).cell (p := ⟨w.heap.size, 10, none⟩) hg4).trans d10
  have e11 := fun o o' => ((bel2' o o' hza (Nat.le_refl _)).cell (p := ⟨w.heap.size, 11, none⟩) hg4).trans d11
  have e12 := fun o o' => ((bel2' o o' hza (Nat.le_refl _)).cell (p := ⟨w.heap.size, 12, none⟩) hg4).trans d12
  clear d0 d1 d2 d3 d4 d5 d6 d7 d8 d9 d10 d11 d12 hza hSR hpc4
  have HG4 := hide hg4
  clear hg4
  go_wp2_with fail
  clear e0 e1 e2 e3 e4 e5 e6 e7 e8 e9 e10 e11 e12
  refine (unhide HSR _ _).mono ?_
  rintro e wt ⟨rfl, hl5⟩
  have hbt : Below w.heap.size w wt := bel2 hb4 hb4.size hl5
  clear hl5 hr4 hb4 HG4 HSR
  have hmt : wt.cell? ⟨0, 0, none⟩ = some (.int .i64 m) := by rw [hbt.cell (p := ⟨0, 0, none⟩) h0]; exact unhide HM
  have htt : isTab wt := (unhide HT).below hbt
  have hszt := hbt.size
  have HTT := hide htt
  have HSZT := hide hszt
  clear htt hszt
  go_wp2_with fail
  refine (rRead_any s m wt hs hmt (by have := unhide HSZT; omega)).mono ?_
  rintro e w6 ⟨hx, hl6⟩
  have hb6 : Below w.heap.size w w6 := hbt.trans (hl6.mono (unhide HSZT))
  have ht6 : isTab w6 := (unhide HTT).below hl6
  have HL6 : Hid (w.heap.size ≤ w6.heap.size) := hide hb6.size
  clear hl6 HTT HSZT hmt
  rcases hx with ⟨x9, ao9, cap9, hR9, hpc9, -, -, -, rfl⟩ | ⟨c9, n9, hc9, hR9, rfl⟩
  · obtain ⟨hR1, -, hR3⟩ := readR_back _ _ _ hR9
    have hs9 : (⟨x9.txt.toArray⟩ : ByteArray) = s := bytes_eq hR1
    have HW9 := hide (fun (o o' : Obj) => rWrite_of x9 hR3 ao9 cap9 ((w6.alloc o).alloc o') (hpc9.below (bel2' o o' (Below.refl w6.heap.size w6) (Nat.le_refl _)) (Nat.le_refl _)) (ht6.below (bel2' o o' (Below.refl w6.heap.size w6) (Nat.le_refl _))))
    rw [hs9] at HW9
    unfold Rl.val at HW9
    unfold Rl.val faultV
    generalize (⟨x9.C.toArray⟩ : ByteArray) = CB9 at HW9 ⊢
    generalize (⟨x9.A.toArray⟩ : ByteArray) = AB9 at HW9 ⊢
    generalize (⟨x9.B.toArray⟩ : ByteArray) = BB9 at HW9 ⊢
    clear hR9 hR1 hR3 hs9 hpc9 ht6
    go_wp2_with fail
    refine (unhide HW9 _ _).mono ?_
    rintro e w7 ⟨rfl, hl7⟩
    have hb7 : Below w.heap.size w w7 := bel2 hb6 (unhide HL6) hl7
    clear hl7 HW9
    go_wp2
    go_ret
    exact ⟨rfl, hb7⟩
  · have hb7 : ∀ o o', Below w.heap.size w ((w6.alloc o).alloc o') := fun o o' => bel2' o o' hb6 (unhide HL6)
    unfold zeroRules faultV
    have hc9b : (c9 == 0) = false := by simpa using hc9
    clear hR9 ht6
    go_wp2
    go_ret
    exact ⟨rfl, hb7 _ _⟩
end Go.Proofs.YtbcedjjocpjkjabDoor
