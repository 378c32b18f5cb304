/-
  package moves, walked: text.
  package moves, walked: Text, Read, over what is known of check, list and text.
  package moves, walked: Read at a position of the rules, over what is known of list and text.
  Texts of moves are unlike.
-/
import Derived.Test.YtihojhfpepbjhaaGreatDoorJ19
namespace Go.Proofs.YtihojhfpepbjhaaGreatDoor
open Go.RowKit
attribute [local go_sem ↓] Go.wp_at_zero Go.wp_at_succ

/-- A move's text. -/
def txtL (W : Nat) (C : ByteArray) (f : Int) (t : Nat) (c : UInt8) : List UInt8 :=
  if f = -1 then [c, 64] ++ cellT W t else ([c] ++ cellT W f.toNat ++ [if cellN C t = 46 then 45 else 120]) ++ cellT W t
theorem own_one {w : World} (base : Nat) (c : UInt8) (hb : base ≤ w.heap.size) : (w.alloc (.cells #[.int .u8 (c.toNat : Int)] 5 (0, 0))).ownsRow base 5 1 (.slice (some ⟨w.heap.size, 0, none⟩) 1 1) 1 (bvals [c]) := by
  refine ⟨rfl, .inr ⟨w.heap.size, 1, #[.int .u8 (c.toNat : Int)], rfl, hb, heap_alloc_new w _, Nat.le_refl _, by unfold maxLen; omega, rfl, rfl⟩⟩
theorem one_new (w : World) (c : UInt8) : ∀ (j : Nat) (u : Value), [Value.int .u8 (c.toNat : Int)][j]? = some u → (w.alloc (.cells #[.int .u8 (c.toNat : Int)] 5 (0, 0))).cell? ((⟨w.heap.size, 0, none⟩ : Addr).add j) = some u := fun j u hj => by
  have hx := heap_alloc_new w (.cells #[.int .u8 (c.toNat : Int)] 5 (0, 0))
  match j, hj with
  | 0, hj => simp only [List.getElem?_cons_zero, Option.some.injEq] at hj; subst hj; exact cell_of_row _ _ _ _ _ _ hx

set_option maxHeartbeats 2000000 in
set_option maxRecDepth 100000 in
theorem text_drop (W : Nat) (H T : Int) (C A B : ByteArray) (t : Nat) (c : UInt8) (w : World) (hW : 1 ≤ W ∧ W ≤ 8) (ht : t < 64) :
    Calls Tryz.prog 143 #[.agg #[.int .i64 (W : Int), .int .i64 H, .string C, .int .i64 T, .string A, .string B], .agg #[.int .i64 (-1), .int .i64 (t : Int), .int .u8 (c.toNat : Int)]] w fun e w' => e = .returned (.string ⟨(txtL W C (-1) t c).toArray⟩) ∧ Below w.heap.size w w' := by
  obtain ⟨f, hf⟩ : ∃ f : Int, f = -1 := ⟨_, rfl⟩
  unfold txtL
  rw [if_pos rfl, ← hf]
  obtain ⟨w1, hw1⟩ : ∃ w1, w1 = w.alloc (.cells #[.int .i64 (W : Int), .int .i64 H, .string C, .int .i64 T, .string A, .string B] 24 (0, 0)) := ⟨_, rfl⟩
  obtain ⟨w2, hw2⟩ : ∃ w2, w2 = w1.alloc (.cells #[.int .i64 f, .int .i64 (t : Int), .int .u8 (c.toNat : Int)] 61 (0, 0)) := ⟨_, rfl⟩
  obtain ⟨w3, hw3⟩ : ∃ w3, w3 = w2.alloc (.cells #[.int .u8 (c.toNat : Int)] 5 (0, 0)) := ⟨_, rfl⟩
  have hb1 : Below w.heap.size w w1 := by rw [hw1]; exact (Below.refl _ _).alloc (Nat.le_refl _) _
  have hb2 : Below w1.heap.size w1 w2 := by rw [hw2]; exact (Below.refl _ _).alloc (Nat.le_refl _) _
  have hb3 : Below w2.heap.size w2 w3 := by rw [hw3]; exact (Below.refl _ _).alloc (Nat.le_refl _) _
  have s1 : w1.heap.size = w.heap.size + 1 := by rw [hw1]; simp
  have s2 : w2.heap.size = w.heap.size + 1 + 1 := by rw [hw2]; simp [s1]
  have s3 : w3.heap.size = w.heap.size + 1 + 1 + 1 := by rw [hw3]; simp [s2]
  have hpb : isPb w3 w.heap.size W H T C A B := isPb.below (isPb.below (show isPb w1 w.heap.size W H T C A B by rw [hw1]; exact heap_alloc_new w _) hb2 (by omega)) hb3 (by omega)
  have hmb : isMb w3 (w.heap.size + 1) f t (c.toNat : Int) := isMb.below (show isMb w2 (w.heap.size + 1) f t (c.toNat : Int) by rw [hw2, ← s1]; exact heap_alloc_new w1 _) hb3 (by omega)
  have hown : w3.ownsRow (w.heap.size + 1 + 1) 5 1 (.slice (some ⟨w2.heap.size, 0, none⟩) 1 1) 1 (bvals [c]) := by rw [hw3]; exact own_one _ c (by omega)
  rw [s2] at hown
  have hbw : Below w.heap.size w w3 := (hb1.trans (hb2.mono (by omega))).trans (hb3.mono (by omega))
  obtain ⟨i0, hi, hz0, hz1, hz2⟩ := info_parts infoU8
  have HPB := hide hpb
  have HMB := hide hmb
  have HOWN := hide hown
  have HBW := hide hbw
  have HW1 := hide hw1
  have HW2 := hide hw2
  have HW3 := hide hw3
  have HS3 := hide s3
  have hfb : (f == -1) = true := by simp [hf]
  obtain ⟨p0, p1, p2, p3, p4, p5⟩ := hpb.all
  obtain ⟨m0, m1, m2⟩ := hmb.all
  have HF := hide hf
  clear hw1 hw2 hw3 hb1 hb2 hb3 s1 s2 s3 hpb hmb hown hbw hf
  go_enter Tryz.func143, Tryz.ntmps143
  go_upto_region 2 with fail
  rw [← unhide HW1, ← unhide HW2, ← unhide HW3]
  clear HW1 HW2 HW3
  go_wp2_with
    (at_builtin; refine wpList_append_own _ rfl _ _ 127 rfl (w.heap.size + 1 + 1) 5 i0 _ 1 1 Tryz.underlying127 hi hz0 hz1 hz2 rfl (by decide) _ 1 (bvals [c]) rfl ((unhide HOWN).alloc _) ⟨w3.heap.size, 0, none⟩ 1 1 [.int .u8 64] rfl rfl (one_new w3 64) (fun u hu => by simp only [List.mem_singleton] at hu; subst hu; rfl) (by unfold maxLen; omega) (by omega) (by simp; have := unhide HS3; omega) ?_; intro v4 w4 hown4 hgrow4 _
     have hb4 : Below (w.heap.size + 1 + 1) w3 w4 := ((Below.refl _ _).alloc (by have := unhide HS3; omega) _).grown hgrow4 (by simp; have := unhide HS3; omega) (own_low8 (unhide HOWN))
     obtain ⟨uo, uc, rfl⟩ := row_slice8 hown4
     have hp4 := (unhide HPB).below hb4 (by omega)
     have hm4 := (unhide HMB).below hb4 (by omega)
     obtain ⟨x0, x1, x2, x3, x4, x5⟩ := hp4.all
     obtain ⟨y0, y1, y2⟩ := hm4.all
     have HP4 := hide hp4
     have HM4 := hide hm4
     have HB4 := hide ((unhide HBW).trans (hb4.mono (by omega)))
     have HS4 := hide (show w.heap.size + 1 + 1 ≤ w4.heap.size by have := hb4.size; have := unhide HS3; omega)
     have HO4 := hide hown4
     clear hown4 hgrow4 hb4 hp4 hm4)
  have hown4 : w4.ownsRow (w.heap.size + 1 + 1) 5 1 (.slice uo (1 + 1) uc) (1 + 1) (bvals [c, 64]) := unhide HO4
  have HAC := hide (appendCell_any uo (1 + 1) uc (w.heap.size + 1 + 1) [c, 64] W H T C A B t w4 hown4 (by omega) (unhide HS4) hW ht)
  refine (unhide HAC).mono ?_
  rintro e w5 ⟨vo, vc, rfl, hown5, hb5⟩
  have hcv := own_conv hown5 (by simp [cellT]) (by omega)
  have HB5 := hide ((unhide HB4).trans (hb5.mono (by omega)))
  clear hown4 hown5 hb5 HAC x0 x1 x2 x3 x4 x5 y0 y1 y2
  go_wp2
  go_ret
  exact ⟨rfl, unhide HB5⟩
set_option maxHeartbeats 2000000 in
set_option maxRecDepth 100000 in
theorem text_go (W : Nat) (H T : Int) (C A B : ByteArray) (fr t : Nat) (c : UInt8) (w : World) (hW : 1 ≤ W ∧ W ≤ 8) (hfr : fr < 64) (ht : t < 64) (htC : t < C.size) :
    Calls Tryz.prog 143 #[.agg #[.int .i64 (W : Int), .int .i64 H, .string C, .int .i64 T, .string A, .string B], .agg #[.int .i64 (fr : Int), .int .i64 (t : Int), .int .u8 (c.toNat : Int)]] w fun e w' => e = .returned (.string ⟨(txtL W C fr t c).toArray⟩) ∧ Below w.heap.size w w' := by
  unfold txtL
  rw [if_neg (by omega), Int.toNat_natCast]
  obtain ⟨f, hf⟩ : ∃ f : Int, f = fr := ⟨_, rfl⟩
  rw [← hf]
  obtain ⟨w1, hw1⟩ : ∃ w1, w1 = w.alloc (.cells #[.int .i64 (W : Int), .int .i64 H, .string C, .int .i64 T, .string A, .string B] 24 (0, 0)) := ⟨_, rfl⟩
  obtain ⟨w2, hw2⟩ : ∃ w2, w2 = w1.alloc (.cells #[.int .i64 f, .int .i64 (t : Int), .int .u8 (c.toNat : Int)] 61 (0, 0)) := ⟨_, rfl⟩
  obtain ⟨w3, hw3⟩ : ∃ w3, w3 = w2.alloc (.cells #[.int .u8 (c.toNat : Int)] 5 (0, 0)) := ⟨_, rfl⟩
  have hb1 : Below w.heap.size w w1 := by rw [hw1]; exact (Below.refl _ _).alloc (Nat.le_refl _) _
  have hb2 : Below w1.heap.size w1 w2 := by rw [hw2]; exact (Below.refl _ _).alloc (Nat.le_refl _) _
  have hb3 : Below w2.heap.size w2 w3 := by rw [hw3]; exact (Below.refl _ _).alloc (Nat.le_refl _) _
  have s1 : w1.heap.size = w.heap.size + 1 := by rw [hw1]; simp
  have s2 : w2.heap.size = w.heap.size + 1 + 1 := by rw [hw2]; simp [s1]
  have s3 : w3.heap.size = w.heap.size + 1 + 1 + 1 := by rw [hw3]; simp [s2]
  have hpb : isPb w3 w.heap.size W H T C A B := isPb.below (isPb.below (show isPb w1 w.heap.size W H T C A B by rw [hw1]; exact heap_alloc_new w _) hb2 (by omega)) hb3 (by omega)
  have hmb : isMb w3 (w.heap.size + 1) f t (c.toNat : Int) := isMb.below (show isMb w2 (w.heap.size + 1) f t (c.toNat : Int) by rw [hw2, ← s1]; exact heap_alloc_new w1 _) hb3 (by omega)
  have hown : w3.ownsRow (w.heap.size + 1 + 1) 5 1 (.slice (some ⟨w2.heap.size, 0, none⟩) 1 1) 1 (bvals [c]) := by rw [hw3]; exact own_one _ c (by omega)
  rw [s2] at hown
  have hbw : Below w.heap.size w w3 := (hb1.trans (hb2.mono (by omega))).trans (hb3.mono (by omega))
  obtain ⟨i0, hi, hz0, hz1, hz2⟩ := info_parts infoU8
  have HPB := hide hpb
  have HMB := hide hmb
  have HOWN := hide hown
  have HBW := hide hbw
  have HW1 := hide hw1
  have HW2 := hide hw2
  have HW3 := hide hw3
  have HS3 := hide s3
  have hfb : (f == -1) = false := by simp; omega
  obtain ⟨p0, p1, p2, p3, p4, p5⟩ := hpb.all
  obtain ⟨m0, m1, m2⟩ := hmb.all
  have HF := hide hf
  have HAC1 := hide (appendCell_any (some ⟨w.heap.size + 1 + 1, 0, none⟩) 1 1 (w.heap.size + 1 + 1) [c] W H T C A B fr w3 hown (by omega) (by omega) hW hfr)
  rw [← hf] at HAC1
  obtain ⟨hcn, h256⟩ := cellN_at C t htC
  obtain ⟨N, hN⟩ : ∃ N, N = cellN C t := ⟨_, rfl⟩
  rw [← hN] at hcn h256 ⊢
  have htl : (t : Int) < (C.size : Int) := by omega
  have ht0 : (0 : Int) ≤ (t : Int) := by omega
  have hC64 : C.size ≤ 9223372036854775807 ∨ True := .inr trivial
  clear hw1 hw2 hw3 hb1 hb2 hb3 s1 s2 s3 hpb hmb hown hbw hf hN hC64
  by_cases h46 : N = 46
  · have hb46 : ((N : Int) == 46) = true := by simp [h46]
    rw [if_pos h46]
    clear h46
    go_enter Tryz.func143, Tryz.ntmps143
    go_upto_region 2 with fail
    rw [← unhide HW1, ← unhide HW2, ← unhide HW3]
    clear HW1 HW2 HW3
    go_wp2_with fail
    refine (unhide HAC1).mono ?_
    rintro e w5 ⟨ao, ac, rfl, hown5, hb5⟩
    have hp5 := (unhide HPB).below hb5 (by omega)
    have hm5 := (unhide HMB).below hb5 (by omega)
    have HO5 := hide hown5
    have HS5 := hide (show w.heap.size + 1 + 1 ≤ w5.heap.size by have := hb5.size; have := unhide HS3; omega)
    have HB5 := hide ((unhide HBW).trans (hb5.mono (by omega)))
    clear HPB HMB HBW HOWN HS3 HAC1 hown5 hb5 p0 p1 p2 p3 p4 p5 m0 m1 m2
    obtain ⟨p0, p1, p2, p3, p4, p5⟩ := hp5.all
    obtain ⟨m0, m1, m2⟩ := hm5.all
    have HPB := hide hp5
    have HMB := hide hm5
    have HBW := HB5
    clear hp5 hm5 HB5
    go_wp2_with
      (at_builtin; refine wpList_append_own _ rfl _ _ 127 rfl (w.heap.size + 1 + 1) 5 i0 _ 1 1 Tryz.underlying127 hi hz0 hz1 hz2 rfl (by decide) _ (1 + 2) (bvals ([c] ++ cellT W fr)) rfl ((unhide HO5).alloc _) ⟨w5.heap.size, 0, none⟩ 1 1 [.int .u8 45] rfl rfl (one_new w5 45) (fun u hu => by simp only [List.mem_singleton] at hu; subst hu; rfl) (by unfold maxLen; omega) (by omega) (by simp; have := unhide HS5; omega) ?_; intro v4 w4 hown4 hgrow4 _
       have hb4 : Below (w.heap.size + 1 + 1) w5 w4 := ((Below.refl _ _).alloc (by have := unhide HS5; omega) _).grown hgrow4 (by simp; have := unhide HS5; omega) (own_low8 (unhide HO5))
       obtain ⟨uo, uc, rfl⟩ := row_slice8 hown4
       have hp4 := (unhide HPB).below hb4 (by omega)
       have hm4 := (unhide HMB).below hb4 (by omega)
       obtain ⟨x0, x1, x2, x3, x4, x5⟩ := hp4.all
       obtain ⟨y0, y1, y2⟩ := hm4.all
       have HP4 := hide hp4
       have HM4 := hide hm4
       have HB4 := hide ((unhide HBW).trans (hb4.mono (by omega)))
       have HS4 := hide (show w.heap.size + 1 + 1 ≤ w4.heap.size by have := hb4.size; have := unhide HS5; omega)
       have HO4 := hide hown4
       clear hown4 hgrow4 hb4 hp4 hm4)
    have hown4 : w4.ownsRow (w.heap.size + 1 + 1) 5 1 (.slice uo (1 + 2 + 1) uc) (1 + 2 + 1) (bvals ([c] ++ cellT W fr ++ [45])) := by
      have := unhide HO4
      rw [bvals_snoc]
      exact this
    have HAC := hide (appendCell_any uo (1 + 2 + 1) uc (w.heap.size + 1 + 1) ([c] ++ cellT W fr ++ [45]) W H T C A B t w4 hown4 (by omega) (unhide HS4) hW ht)
    refine (unhide HAC).mono ?_
    rintro e w6 ⟨vo, vc, rfl, hown6, hb6⟩
    have hcv := own_conv hown6 (by simp [cellT]) (by omega)
    have HB6 := hide ((unhide HB4).trans (hb6.mono (by omega)))
    clear hown4 hown6 hb6 HAC x0 x1 x2 x3 x4 x5 y0 y1 y2
    go_wp2
    go_ret
    exact ⟨rfl, unhide HB6⟩
  · have hb46 : ((N : Int) == 46) = false := by simp; omega
    rw [if_neg h46]
    clear h46
    go_enter Tryz.func143, Tryz.ntmps143
    go_upto_region 2 with fail
    rw [← unhide HW1, ← unhide HW2, ← unhide HW3]
    clear HW1 HW2 HW3
    go_wp2_with fail
    refine (unhide HAC1).mono ?_
    rintro e w5 ⟨ao, ac, rfl, hown5, hb5⟩
    have hp5 := (unhide HPB).below hb5 (by omega)
    have hm5 := (unhide HMB).below hb5 (by omega)
    have HO5 := hide hown5
    have HS5 := hide (show w.heap.size + 1 + 1 ≤ w5.heap.size by have := hb5.size; have := unhide HS3; omega)
    have HB5 := hide ((unhide HBW).trans (hb5.mono (by omega)))
    clear HPB HMB HBW HOWN HS3 HAC1 hown5 hb5 p0 p1 p2 p3 p4 p5 m0 m1 m2
    obtain ⟨p0, p1, p2, p3, p4, p5⟩ := hp5.all
    obtain ⟨m0, m1, m2⟩ := hm5.all
    have HPB := hide hp5
    have HMB := hide hm5
    have HBW := HB5
    clear hp5 hm5 HB5
    go_wp2_with
      (at_builtin; refine wpList_append_own _ rfl _ _ 127 rfl (w.heap.size + 1 + 1) 5 i0 _ 1 1 Tryz.underlying127 hi hz0 hz1 hz2 rfl (by decide) _ (1 + 2) (bvals ([c] ++ cellT W fr)) rfl ((unhide HO5).alloc _) ⟨w5.heap.size, 0, none⟩ 1 1 [.int .u8 120] rfl rfl (one_new w5 120) (fun u hu => by simp only [List.mem_singleton] at hu; subst hu; rfl) (by unfold maxLen; omega) (by omega) (by simp; have := unhide HS5; omega) ?_; intro v4 w4 hown4 hgrow4 _
       have hb4 : Below (w.heap.size + 1 + 1) w5 w4 := ((Below.refl _ _).alloc (by have := unhide HS5; omega) _).grown hgrow4 (by simp; have := unhide HS5; omega) (own_low8 (unhide HO5))
       obtain ⟨uo, uc, rfl⟩ := row_slice8 hown4
       have hp4 := (unhide HPB).below hb4 (by omega)
       have hm4 := (unhide HMB).below hb4 (by omega)
       obtain ⟨x0, x1, x2, x3, x4, x5⟩ := hp4.all
       obtain ⟨y0, y1, y2⟩ := hm4.all
       have HP4 := hide hp4
       have HM4 := hide hm4
       have HB4 := hide ((unhide HBW).trans (hb4.mono (by omega)))
       have HS4 := hide (show w.heap.size + 1 + 1 ≤ w4.heap.size by have := hb4.size; have := unhide HS5; omega)
       have HO4 := hide hown4
       clear hown4 hgrow4 hb4 hp4 hm4)
    have hown4 : w4.ownsRow (w.heap.size + 1 + 1) 5 1 (.slice uo (1 + 2 + 1) uc) (1 + 2 + 1) (bvals ([c] ++ cellT W fr ++ [120])) := by
      have := unhide HO4
      rw [bvals_snoc]
      exact this
    have HAC := hide (appendCell_any uo (1 + 2 + 1) uc (w.heap.size + 1 + 1) ([c] ++ cellT W fr ++ [120]) W H T C A B t w4 hown4 (by omega) (unhide HS4) hW ht)
    refine (unhide HAC).mono ?_
    rintro e w6 ⟨vo, vc, rfl, hown6, hb6⟩
    have hcv := own_conv hown6 (by simp [cellT]) (by omega)
    have HB6 := hide ((unhide HB4).trans (hb6.mono (by omega)))
    clear hown4 hown6 hb6 HAC x0 x1 x2 x3 x4 x5 y0 y1 y2
    go_wp2
    go_ret
    exact ⟨rfl, unhide HB6⟩
end Go.Proofs.YtihojhfpepbjhaaGreatDoor

namespace Go.Proofs.YtihojhfpepbjhaaGreatDoor
open Go.RowKit
attribute [local go_sem ↓] Go.wp_at_zero Go.wp_at_succ

theorem isMb.frozen8 {w : World} {b : Nat} {f t c : Int} (h : isMb w b f t c) (k : Nat) : w.frozen? ⟨b, k, none⟩ = false := frozen_of_row w b k _ _ h
theorem isMb.setAll8 {w : World} {b : Nat} {f t c : Int} (h : isMb w b f t c) (f' t' c' : Int) : isMb (((w.setCell ⟨b, 0, none⟩ (.int .i64 f')).setCell ⟨b, 1, none⟩ (.int .i64 t')).setCell ⟨b, 2, none⟩ (.int .u8 c')) b f' t' c' := by
  unfold isMb at h ⊢; simp [World.setCell, Array.getElem?_modify, h]
/-- What is read: the first move of the list with that text. -/
def readM (tx : Mv → List UInt8) (s : ByteArray) : List Mv → Mv × Int
  | [] => (⟨0, 0, 0⟩, 5)
  | m :: L => if tx m = s.data.toList then (m, 0) else readM tx s L
theorem readM_drop {tx : Mv → List UInt8} {s : ByteArray} {L : List Mv} {i : Nat} {m : Mv} (h : L[i]? = some m) : readM tx s (L.drop i) = if tx m = s.data.toList then (m, 0) else readM tx s (L.drop (i + 1)) := by
  obtain ⟨hi, rfl⟩ := List.getElem?_eq_some_iff.1 h
  rw [List.drop_eq_getElem_cons hi, readM]

end Go.Proofs.YtihojhfpepbjhaaGreatDoor

namespace Go.Proofs.YtihojhfpepbjhaaGreatDoor
open Go.RowKit
attribute [local go_sem ↓] Go.wp_at_zero Go.wp_at_succ

theorem below_set3 {B : Nat} {w u : World} {b : Nat} (h : Below B w u) (hb : B ≤ b) (x y z : Value) : Below B w (((u.setCell ⟨b, 0, none⟩ x).setCell ⟨b, 1, none⟩ y).setCell ⟨b, 2, none⟩ z) := ((h.setCell (p := ⟨b, 0, none⟩) hb x).setCell (p := ⟨b, 1, none⟩) hb y).setCell (p := ⟨b, 2, none⟩) hb z

set_option maxHeartbeats 4000000 in
set_option maxRecDepth 100000 in
theorem Read_ok (v0 v1 v2 v3 v4 v5 v6 v7 v8 v9 v10 v11 v12 : Value) (W H T : Int) (C A B s : ByteArray) (L : List Mv) (tx : Mv → List UInt8) (w : World)
    (hck : ∀ u, Below w.heap.size w u → Calls Tryz.prog 48 #[.agg #[v0, v1, v2, v3, v4, v5, v6, v7, v8, v9, v10, v11, v12], .agg #[.int .i64 W, .int .i64 H, .string C, .int .i64 T, .string A, .string B]] u fun e w' => e = .returned (.int .i64 0) ∧ Below u.heap.size u w')
    (hL : ∀ u, Below w.heap.size w u → Calls Tryz.prog 49 #[.agg #[v0, v1, v2, v3, v4, v5, v6, v7, v8, v9, v10, v11, v12], .agg #[.int .i64 W, .int .i64 H, .string C, .int .i64 T, .string A, .string B]] u fun e w' => ∃ v, e = .returned v ∧ w'.ownsRow u.heap.size 61 3 v L.length (mvals L) ∧ Below u.heap.size u w')
    (htx : ∀ m ∈ L, ∀ u, Calls Tryz.prog 143 #[.agg #[.int .i64 W, .int .i64 H, .string C, .int .i64 T, .string A, .string B], .agg #[.int .i64 m.f, .int .i64 (m.t : Int), .int .u8 (m.c : Int)]] u fun e w' => e = .returned (.string ⟨(tx m).toArray⟩) ∧ Below u.heap.size u w') :
    Calls Tryz.prog 104 #[.agg #[v0, v1, v2, v3, v4, v5, v6, v7, v8, v9, v10, v11, v12], .agg #[.int .i64 W, .int .i64 H, .string C, .int .i64 T, .string A, .string B], .string s] w fun e w' => e = .returned (.tuple #[.agg #[.int .i64 (readM tx s L).1.f, .int .i64 ((readM tx s L).1.t : Int), .int .u8 ((readM tx s L).1.c : Int)], .int .i64 (readM tx s L).2]) ∧ Below w.heap.size w w' := by
  obtain ⟨R, hR⟩ : ∃ R, R = readM tx s L := ⟨_, rfl⟩
  rw [← hR]
  obtain ⟨w1, hw1⟩ : ∃ w1, w1 = w.alloc (.cells #[v0, v1, v2, v3, v4, v5, v6, v7, v8, v9, v10, v11, v12] 27 (0, 0)) := ⟨_, rfl⟩
  obtain ⟨w2, hw2⟩ : ∃ w2, w2 = w1.alloc (.cells #[.int .i64 W, .int .i64 H, .string C, .int .i64 T, .string A, .string B] 24 (0, 0)) := ⟨_, rfl⟩
  obtain ⟨w3, hw3⟩ : ∃ w3, w3 = w2.alloc (.cells #[.int .i64 0, .int .i64 0, .int .u8 0] 61 (0, 0)) := ⟨_, rfl⟩
  have hb1 : Below w.heap.size w w1 := by rw [hw1]; exact (Below.refl _ _).alloc (Nat.le_refl _) _
  have hb2 : Below w1.heap.size w1 w2 := by rw [hw2]; exact (Below.refl _ _).alloc (Nat.le_refl _) _
  have hb3 : Below w2.heap.size w2 w3 := by rw [hw3]; exact (Below.refl _ _).alloc (Nat.le_refl _) _
  have s1 : w1.heap.size = w.heap.size + 1 := by rw [hw1]; simp
  have s2 : w2.heap.size = w.heap.size + 1 + 1 := by rw [hw2]; simp [s1]
  have hru : isRu w3 w.heap.size v0 v1 v2 v3 v4 v5 v6 v7 v8 v9 v10 v11 v12 := isRu.below (isRu.below (show isRu w1 w.heap.size v0 v1 v2 v3 v4 v5 v6 v7 v8 v9 v10 v11 v12 by rw [hw1]; exact heap_alloc_new w _) hb2 (by omega)) hb3 (by omega)
  have hpb : isPb w3 (w.heap.size + 1) W H T C A B := isPb.below (show isPb w2 (w.heap.size + 1) W H T C A B by rw [hw2, ← s1]; exact heap_alloc_new w1 _) hb3 (by omega)
  have hmb : isMb w3 (w.heap.size + 1 + 1) 0 0 0 := by rw [hw3, ← s2]; exact heap_alloc_new w2 _
  have hbw : Below w.heap.size w w3 := (hb1.trans (hb2.mono (by omega))).trans (hb3.mono (by omega))
  have HRU := hide hru
  have HPB := hide hpb
  have HMB := hide hmb
  have HBW := hide hbw
  have HW1 := hide hw1
  have HW2 := hide hw2
  have HW3 := hide hw3
  have HK := hide (hck w3 hbw)
  have HL := hide hL
  have HT := hide htx
  have HR := hide hR
  clear hck hL htx hw1 hw2 hw3 hb1 hb2 hb3 s1 s2 hru hpb hmb hbw hR
  go_enter Tryz.func104, Tryz.ntmps104
  go_wp2_with fail
  rw [← unhide HW1, ← unhide HW2, ← unhide HW3]
  refine (unhide HK).mono ?_
  rintro e u ⟨rfl, hb⟩
  have hr := (unhide HRU).below hb (unhide HRU).lt
  have hp := (unhide HPB).below hb (unhide HPB).lt
  have hm := (unhide HMB).below hb (unhide HMB).lt
  have HB := hide ((unhide HBW).trans (hb.mono (unhide HBW).size))
  clear HRU HPB HMB HBW HW1 HW2 HW3 HK hb
  have HPB := hide hp
  have HMB := hide hm
  obtain ⟨r0, r1, r2, r3, r4, r5, r6, r7, r8, r9, r10, r11, r12⟩ := hr.cells
  obtain ⟨p0, p1, p2, p3, p4, p5⟩ := hp.all
  clear hr hp hm
  go_wp2_with fail
  refine (unhide HL _ (unhide HB)).mono ?_
  rintro e wc ⟨v, rfl, hown, hbc⟩
  obtain ⟨lo1, lc1, rfl⟩ := row_len hown
  obtain ⟨n, hn⟩ : ∃ n, n = L.length := ⟨_, rfl⟩
  have hl4 : isMvs wc (.slice lo1 n lc1) L := isMvs.of (by rw [hn]; exact hown)
  rw [← hn]
  have HN := hide hn
  have HLD := hide hl4
  have hp2 := (unhide HPB).below hbc (unhide HPB).lt
  have hm2 := (unhide HMB).below hbc (unhide HMB).lt
  have HBC := hide ((unhide HB).trans (hbc.mono (unhide HB).size))
  clear HPB HMB HB hbc hown hn hl4 r0 r1 r2 r3 r4 r5 r6 r7 r8 r9 r10 r11 r12 p0 p1 p2 p3 p4 p5 HL
  have HPB := hide hp2
  have HMB := hide hm2
  have hszc : w.heap.size + 1 + 1 < wc.heap.size := hm2.lt
  clear hp2 hm2
  go_wp2_with fail
  go_loopw [22] (fun iv wr => ∃ i : Nat, iv = .int .i64 (i : Int) ∧ i ≤ n ∧ Hid (readM tx s (L.drop i) = R) ∧ Hid (Below wc.heap.size wc wr)) (fun iv _ => n - (intOf iv).toNat)
  case atStart => exact ⟨0, rfl, Nat.zero_le _, hide (unhide HR).symm, hide (Below.refl _ _)⟩
  case round =>
    obtain ⟨i, rfl, hi, HRI, HBR⟩ := hrel
    have hbr := (unhide HBC).trans ((unhide HBR).mono (unhide HBC).size)
    have hpr := (unhide HPB).below (unhide HBR) (by omega)
    have hmr := (unhide HMB).below (unhide HBR) (by omega)
    have hsr := (unhide HBR).size
    by_cases hlt : i < n
    · have hlti : (i : Int) < (n : Int) := by omega
      have hi0 : (0 : Int) ≤ (i : Int) := by omega
      have hil : i < L.length := by rw [← unhide HN]; exact hlt
      obtain ⟨m, hm⟩ : ∃ m, m = L[i] := ⟨_, rfl⟩
      have hmi : L[i]? = some m := by rw [hm]; exact List.getElem?_eq_getElem hil
      have hstep := unhide HRI
      rw [readM_drop hmi] at hstep
      obtain ⟨ao, cap, e1, hle, hmx, hcs⟩ := (unhide HLD).below (unhide HBR)
      obtain ⟨g, off, eg, hgk, c0, c1, c2⟩ := hcs i m hmi
      simp only [Value.slice.injEq] at e1
      obtain ⟨e1, e2, e3⟩ := e1
      subst eg
      subst e1
      subst e3
      unfold maxLen at hmx
      rw [← unhide HN] at hle
      have hnx : n ≤ 9223372036854775807 := by omega
      obtain ⟨wi, hwi⟩ : ∃ wi, wi = wr.alloc (.cells #[.int .i64 m.f, .int .i64 (m.t : Int), .int .u8 (m.c : Int)] 61 (0, 0)) := ⟨_, rfl⟩
      have hbi : Below wr.heap.size wr wi := by rw [hwi]; exact (Below.refl _ _).alloc (Nat.le_refl _) _
      have hmbi : isMb wi wr.heap.size m.f m.t m.c := by rw [hwi]; exact heap_alloc_new wr _
      have hpi := hpr.below hbi (by omega)
      have hmi2 := hmr.below hbi (by omega)
      have HTX := hide (unhide HT m (List.mem_of_getElem? hmi) wi)
      obtain ⟨X, hX⟩ : ∃ X : ByteArray, X = ⟨(tx m).toArray⟩ := ⟨_, rfl⟩
      rw [← hX] at HTX
      have hXs : (X = s) ↔ tx m = s.data.toList := by
        rw [hX]
        constructor
        · intro h; rw [← h]
        · intro h; rw [h]
      obtain ⟨p0, p1, p2, p3, p4, p5⟩ := hpi.all
      obtain ⟨m0, m1, m2⟩ := hmbi.all
      have HMBI := hide hmbi
      have HMI2 := hide hmi2
      have HBI := hide (hbr.trans (hbi.mono hbr.size))
      have HBCI := hide ((unhide HBR).trans (hbi.mono hsr))
      have HWI := hide hwi
      have HST := hide hstep
      have HXS := hide hXs
      clear hm hmi hstep hcs e2 hgk hwi hbi hmbi hpi hmi2 hX hXs hbr hpr hmr
      go_upto_region 7 with fail
      rw [← unhide HWI]
      clear HWI c0 c1 c2
      go_wp2_with fail
      refine (unhide HTX).mono ?_
      rintro e wt ⟨rfl, hbt⟩
      have hmt := (unhide HMBI).below hbt (unhide HMBI).lt
      have hmt2 := (unhide HMI2).below hbt (unhide HMI2).lt
      have HBT := hide ((unhide HBI).trans (hbt.mono (unhide HBI).size))
      have HBCT := hide ((unhide HBCI).trans (hbt.mono (unhide HBCI).size))
      have HMT2 := hide hmt2
      clear m0 m1 m2 p0 p1 p2 p3 p4 p5 HMBI HMI2 HBI HBCI HTX hbt
      obtain ⟨m0, m1, m2⟩ := hmt.all
      obtain ⟨k0, k1, k2⟩ := hmt2.all
      have z0 := isMb.frozen8 hmt2 0
      have z1 := isMb.frozen8 hmt2 1
      have z2 := isMb.frozen8 hmt2 2
      have hfin := isMb.setAll8 hmt2 m.f m.t m.c
      obtain ⟨f0, f1, f2⟩ := hfin.all
      have HBF := hide (below_set3 (b := w.heap.size + 1 + 1) (unhide HBT) (by omega) (.int .i64 m.f) (.int .i64 (m.t : Int)) (.int .u8 (m.c : Int)))
      clear hmt hmt2 hfin
      by_cases hxs : X = s
      · have hR2 : (m, (0 : Int)) = R := by
          have := unhide HST
          rwa [if_pos ((unhide HXS).1 hxs)] at this
        have HR2 := hide hR2
        have hq1 : (X.toList == s.toList) = true := by rw [hxs]; simp
        clear hR2 hxs
        go_wp2
        refine bodyPost_ret (v := .tuple #[.agg #[.int .i64 m.f, .int .i64 (m.t : Int), .int .u8 (m.c : Int)], .int .i64 0]) (by simp [results, Tryz.results104, go_sem, f0, f1, f2]) rfl ⟨by rw [← unhide HR2], unhide HBF⟩
      · have hR2 : readM tx s (L.drop (i + 1)) = R := by
          have := unhide HST
          rwa [if_neg (fun h => hxs ((unhide HXS).2 h))] at this
        have HR2 := hide hR2
        have hq1 : (X.toList == s.toList) = false := by
          rw [beq_eq_false_iff_ne]
          intro h
          rw [Lib.toList_data, Lib.toList_data] at h
          exact hxs (ByteArray.ext (Array.ext' h))
        clear hR2
        go_wp2
        go_roundw
        case rel => exact ⟨i + 1, by go_num, by omega, HR2, HBCT⟩
        case measure => simp only [intOf]; omega
    · have hlti : ¬ (i : Int) < (n : Int) := by omega
      have hR2 : ((⟨0, 0, 0⟩ : Mv), (5 : Int)) = R := by
        have := unhide HRI
        rwa [List.drop_eq_nil_of_le (by rw [← unhide HN]; omega)] at this
      have HR2 := hide hR2
      obtain ⟨k0, k1, k2⟩ := hmr.all
      have z0 := isMb.frozen8 hmr 0
      have z1 := isMb.frozen8 hmr 1
      have z2 := isMb.frozen8 hmr 2
      have hfin := isMb.setAll8 hmr 0 0 0
      obtain ⟨f0, f1, f2⟩ := hfin.all
      have HBF := hide (below_set3 (b := w.heap.size + 1 + 1) hbr (by omega) (.int .i64 0) (.int .i64 0) (.int .u8 0))
      clear hR2 hfin hbr hpr hmr
      go_wp2
      refine bodyPost_ret (v := .tuple #[.agg #[.int .i64 0, .int .i64 0, .int .u8 0], .int .i64 5]) (by simp [results, Tryz.results104, go_sem, f0, f1, f2]) rfl ⟨by rw [← unhide HR2]; rfl, unhide HBF⟩
end Go.Proofs.YtihojhfpepbjhaaGreatDoor

namespace Go.Proofs.YtihojhfpepbjhaaGreatDoor
open Go.RowKit

/-! Texts. -/
def txM (W : Nat) (C : ByteArray) (m : Mv) : List UInt8 := txtL W C m.f m.t m.c.toUInt8
end Go.Proofs.YtihojhfpepbjhaaGreatDoor
