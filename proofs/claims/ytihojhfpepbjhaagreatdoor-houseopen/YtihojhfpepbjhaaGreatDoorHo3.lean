/-
  package house, walked: the small functions.
-/
import Derived.Test.YtihojhfpepbjhaaGreatDoorJ25
import Derived.Test.YtihojhfpepbjhaaGreatDoorJ22
namespace Go.Proofs.YtihojhfpepbjhaaGreatDoor
open Go.RowKit
attribute [local go_sem ↓] Go.wp_at_zero Go.wp_at_succ

set_option maxHeartbeats 2000000 in
set_option maxRecDepth 100000 in
theorem hWon_any (p : Int) (w : World) : Calls Tryz.prog 67 #[.int .i64 p] w fun e w' => e = .returned (.int .i64 (if p = 0 then 1 else 2)) ∧ w' = w := by
  go_enter Tryz.func67, Tryz.ntmps67
  by_cases h : p = 0
  · rw [if_pos h]
    have hb : (p == 0) = true := by simp [h]
    go_wp2
    go_ret
    exact ⟨rfl, rfl⟩
  · rw [if_neg h]
    have hb : (p == 0) = false := by simp [h]
    go_wp2
    go_ret
    exact ⟨rfl, rfl⟩
set_option maxHeartbeats 2000000 in
set_option maxRecDepth 100000 in
theorem hFrom_any (a n b : Int) (w : World) : Calls Tryz.prog 26 #[.int .i64 a, .int .i64 n, .int .i64 b] w fun e w' => e = .returned (.bool (decide (a ≤ n) && decide (n ≤ b))) ∧ w' = w := by
  go_enter Tryz.func26, Tryz.ntmps26
  by_cases h : a ≤ n
  · go_wp2
    go_ret
    exact ⟨by simp [h], rfl⟩
  · go_wp2
    go_ret
    rw [show decide (a ≤ n) = false from decide_eq_false (by omega)]
    exact ⟨rfl, rfl⟩
set_option maxHeartbeats 2000000 in
set_option maxRecDepth 100000 in
theorem isOver_any (b : Nat) (v0 v1 v2 v3 v4 v5 v6 v7 v8 v9 v10 v11 v12 : Value) (x : Ho) (o : Int) (w : World) (h : isHo w b v0 v1 v2 v3 v4 v5 v6 v7 v8 v9 v10 v11 v12 x o) :
    Calls Tryz.prog 64 #[.pointer (some ⟨b, 0, none⟩)] w fun e w' => e = .returned (.bool (!(o == 0))) ∧ w' = w := by
  obtain ⟨⟨l0, l1, l2⟩, ⟨r0, r1, r2, r3, r4, r5, r6, r7, r8, r9, r10, r11, r12⟩, ⟨p0, p1, p2, p3, p4, p5⟩, hy, ho, ht⟩ := isH.cells h
  go_enter Tryz.func64, Tryz.ntmps64
  go_wp2
  go_ret
  exact ⟨rfl, rfl⟩
set_option maxHeartbeats 2000000 in
set_option maxRecDepth 100000 in
theorem hasGame_any (b : Nat) (v0 v1 v2 v3 v4 v5 v6 v7 v8 v9 v10 v11 : Value) (pl : Int) (x : Ho) (o : Int) (w : World) (h : isHo w b v0 v1 v2 v3 v4 v5 v6 v7 v8 v9 v10 v11 (.int .i64 pl) x o) (hpl : 0 < pl) :
    Calls Tryz.prog 34 #[.pointer (some ⟨b, 0, none⟩)] w fun e w' => e = .returned (.bool true) ∧ w' = w := by
  obtain ⟨⟨l0, l1, l2⟩, ⟨r0, r1, r2, r3, r4, r5, r6, r7, r8, r9, r10, r11, r12⟩, ⟨p0, p1, p2, p3, p4, p5⟩, hy, ho, ht⟩ := isH.cells h
  go_enter Tryz.func34, Tryz.ntmps34
  go_wp2
  go_ret
  exact ⟨rfl, rfl⟩
set_option maxHeartbeats 2000000 in
set_option maxRecDepth 100000 in
theorem ranOut_any (b : Nat) (v0 v1 v2 v3 v4 v5 v6 v7 v8 v9 v10 v11 v12 : Value) (x : Ho) (o : Int) (w : World) (h : isHo w b v0 v1 v2 v3 v4 v5 v6 v7 v8 v9 v10 v11 v12 x o) (hT : x.p.T = 0 ∨ x.p.T = 1) :
    Calls Tryz.prog 66 #[.pointer (some ⟨b, 0, none⟩), .int .i64 x.p.T] w fun e w' => e = .returned (.bool (decide (x.left < 0))) ∧ w' = w := by
  obtain ⟨⟨l0, l1, l2⟩, ⟨r0, r1, r2, r3, r4, r5, r6, r7, r8, r9, r10, r11, r12⟩, ⟨p0, p1, p2, p3, p4, p5⟩, hy, ho, ht⟩ := isH.cells h
  go_enter Tryz.func66, Tryz.ntmps66
  unfold Ho.left
  rcases hT with hT | hT
  · rw [hT, if_pos rfl]
    go_wp2
    go_ret
    exact ⟨rfl, rfl⟩
  · rw [hT, if_neg (by omega)]
    go_wp2
    go_ret
    exact ⟨rfl, rfl⟩
set_option maxHeartbeats 4000000 in
set_option maxRecDepth 100000 in
theorem goOn_any (b : Nat) (v0 v1 v2 v3 v4 v5 v6 v7 v8 v9 v10 v11 v12 : Value) (x : Ho) (o a : Int) (w : World) (h : isHo w b v0 v1 v2 v3 v4 v5 v6 v7 v8 v9 v10 v11 v12 x o) (hT : x.p.T = 0 ∨ x.p.T = 1) (hn : 0 ≤ x.now ∧ x.now < 9223372036854775808) (ha : a < 9223372036854775808) (h0 : 0 ≤ x.l0 ∧ x.l0 ≤ 1000000) (h1 : 0 ≤ x.l1 ∧ x.l1 ≤ 1000000) :
    Calls Tryz.prog 65 #[.pointer (some ⟨b, 0, none⟩), .int .i64 x.p.T, .int .i64 a] w fun e w' => e = .returned (.tuple #[]) ∧ isHo w' b v0 v1 v2 v3 v4 v5 v6 v7 v8 v9 v10 v11 v12 (x.go a) o ∧ Ex b w.heap.size w w' := by
  have z0 := isH.frozen h 0
  have z1 := isH.frozen h 1
  have z2 := isH.frozen h 2
  have H := hide h
  obtain ⟨⟨l0, l1, l2⟩, ⟨r0, r1, r2, r3, r4, r5, r6, r7, r8, r9, r10, r11, r12⟩, ⟨p0, p1, p2, p3, p4, p5⟩, hy, ho, ht⟩ := isH.cells h
  clear h
  obtain ⟨X, hX⟩ : ∃ X, X = x.go a := ⟨_, rfl⟩
  rw [← hX]
  have HX := hide hX
  clear hX
  go_enter Tryz.func65, Tryz.ntmps65
  by_cases hg : x.now < a
  · rcases hT with hT | hT
    · have hXe : X = { x with l0 := x.l0 - (a - x.now), now := a } := by rw [unhide HX]; unfold Ho.go; rw [if_pos hg, if_pos hT]
      have HXE := hide hXe
      clear hXe HX
      rw [hT]
      have w1 : IntKind.i64.wrap (a - x.now) = a - x.now := IntWalk.i64_in _ (by omega)
      have w2 : IntKind.i64.wrap (x.l0 - (a - x.now)) = x.l0 - (a - x.now) := IntWalk.i64_in _ (by omega)
      go_wp2_with fail
      go_region
      go_wp2
      go_end0
      rw [unhide HXE]
      exact ⟨rfl, isH.set2 (isH.set0 (unhide H) _) _, (((Ex.refl _ _ _).set 0 _).drew.set 2 _)⟩
    · have hne : ¬ x.p.T = 0 := by omega
      have hXe : X = { x with l1 := x.l1 - (a - x.now), now := a } := by rw [unhide HX]; unfold Ho.go; rw [if_pos hg, if_neg hne]
      have HXE := hide hXe
      clear hXe HX hne
      rw [hT]
      have w1 : IntKind.i64.wrap (a - x.now) = a - x.now := IntWalk.i64_in _ (by omega)
      have w2 : IntKind.i64.wrap (x.l1 - (a - x.now)) = x.l1 - (a - x.now) := IntWalk.i64_in _ (by omega)
      go_wp2_with fail
      go_region
      go_wp2
      go_end0
      rw [unhide HXE]
      exact ⟨rfl, isH.set2 (isH.set1 (unhide H) _) _, (((Ex.refl _ _ _).set 1 _).drew.set 2 _)⟩
  · have hXe : X = x := by rw [unhide HX]; unfold Ho.go; rw [if_neg hg]
    rw [hXe]
    clear hXe HX
    go_wp2
    go_end0
    exact ⟨rfl, unhide H, Ex.refl _ _ _⟩
theorem itoaB_any (n : Int) (w : World) (h : 0 ≤ n ∧ n < 9223372036854775808) (ht : isTab w) :
    Calls Tryz.prog 75 #[.int .i64 n] w fun e w' => e = .returned (.string (itoaB n)) ∧ Below w.heap.size w w' := by
  refine (Tryz.strconv_Itoa n (by omega) (by omega) w ht).mono ?_
  rintro e w' ⟨rfl, k, os, rfl⟩
  exact ⟨rfl, grow_below w k os⟩
set_option maxHeartbeats 4000000 in
set_option maxRecDepth 100000 in
theorem lineOf_any (y n : Int) (mv : ByteArray) (w : World) (hy : 0 ≤ y ∧ y < 9223372036854775808) (hn : 0 ≤ n ∧ n < 9223372036854775808) (hm : mv.size ≤ 10) (ht : isTab w) :
    Calls Tryz.prog 80 #[.int .i64 y, .int .i64 n, .string mv] w fun e w' => e = .returned (.string (lineX y n mv)) ∧ Below w.heap.size w w' := by
  have hl := lineX_len hy hn hm
  unfold lineX at hl ⊢
  have s1 := itoa_len y hy
  have s2 := itoa_len n hn
  have hT := hide ht
  obtain ⟨Y, hY⟩ : ∃ Y, Y = itoaB y := ⟨_, rfl⟩
  obtain ⟨N, hN⟩ : ∃ N, N = itoaB n := ⟨_, rfl⟩
  have K1 := fun u (hu : isTab u) => itoaB_any y u hy hu
  have K2 := fun u (hu : isTab u) => itoaB_any n u hn hu
  rw [← hY] at K1 s1 hl ⊢
  rw [← hN] at K2 s2 hl ⊢
  have e1 : (⟨#[32]⟩ : ByteArray).size = 1 := rfl
  have e2 : (⟨#[10]⟩ : ByteArray).size = 1 := rfl
  have HK1 := hide K1
  have HK2 := hide K2
  clear K1 K2 hY hN ht
  go_enter Tryz.func80, Tryz.ntmps80
  go_wp2_with fail
  refine (unhide HK1 _ (unhide hT)).mono ?_
  rintro e w1 ⟨rfl, hb1⟩
  have hT1 := hide ((unhide hT).below hb1)
  go_wp2_with fail
  refine (unhide HK2 _ (unhide hT1)).mono ?_
  rintro e w2 ⟨rfl, hb2⟩
  have HB := hide (hb1.trans (hb2.mono hb1.size))
  clear hb1 hb2
  simp only [ByteArray.size_append] at hl
  go_wp2
  go_ret
  exact ⟨rfl, unhide HB⟩
end Go.Proofs.YtihojhfpepbjhaaGreatDoor
