/-
  gamelaw.BoardRanks, walked: for every position and number it returns true; of what was there nothing has turned.
-/
import Derived.Test.YtbcedjjocpjkjaaW93
namespace Go.Proofs.Ytbcedjjocpjkjaa
open Go.RowKit
attribute [local go_sem ↓] Go.wp_at_zero Go.wp_at_succ


theorem eqHands' (w : World) (A B A' B' : ByteArray) :
    (Op.equalIn 10000 22 (.agg #[.string A, .string B]) (.agg #[.string A', .string B'])).run Try.prog w = .ok (A.toList == A'.toList && B.toList == B'.toList) w := by
  obtain ⟨i, hi⟩ : ∃ i, Try.prog.info? 9 = some i := by
    have h : (Try.prog.info? 9).isSome = true := by kernel_rfl
    exact Option.isSome_iff_exists.1 h
  have hc : Try.prog.cellsOf 9 = 1 := by kernel_rfl
  rw [run_equalIn_array w 9999 _ _ Try.underlying22 hi, hc]
  have hr : List.range 2 = [0, 1] := rfl
  rw [hr]
  simp [go_sem, Op.eqItems]
  by_cases h1 : A.toList = A'.toList <;> by_cases h2 : B.toList = B'.toList <;> simp [h1, h2]

set_option maxHeartbeats 4000000 in
set_option maxRecDepth 100000 in
theorem ranks_ok {W H : Nat} {T : Int} {C A B : ByteArray} (n q r : Nat) (w : World) (p : IsPos W H C T A B) (hcb : countB C.data.toList = true) (hnq : n = 2 * q + r) (hr1 : r < 2) (hqn : q < arrL C.data.toList) :
    Calls Try.prog 3 #[.agg #[.int .i64 W, .int .i64 H, .string C, .int .i64 T, .string A, .string B], .int .i64 n] w fun e w' => e = .returned (.bool true) ∧ Below w.heap.size w w' := by
  have heqH := fun w => (eqHands' w A B A B)
  simp only [beq_self_eq_true, Bool.and_self] at heqH
  have h64 := p.c64
  have HC1 := hide (fun w => Count_pos w p)
  have e1 : cntV C.data.toList = arrL C.data.toList := by simp [cntV, hcb]
  have e2 : cntE C.data.toList = 0 := by simp [cntE, hcb]
  rw [e1, e2] at HC1
  have HC2 := hide (fun w => Kinds_ok w p hcb)
  have HC3 := hide (fun w => Rank_ok w p hcb)
  have HC4 := hide (fun w => Ranked_ok w p hcb)
  have HC5 := hide (fun w => Unrank_ok n q r w p hcb hnq hr1 hqn)
  obtain ⟨pu, hcnt, hrk, harr⟩ := ustr_facts p q r hr1 hqn
  have hcu : countB (ustr C q).data.toList = true := by rw [countB_iff, harr, ← countB_iff]; exact hcb
  have HC6 := hide (fun w => Ranked_ok w pu hcu)
  have hnr : 2 * ((q : Nat) : Int) + (r : Int) = (n : Int) := by omega
  rw [hrk, hnr] at HC6
  have HC7 := hide (fun w => Kinds_ok w pu hcu)
  rw [harr] at HC7
  have p1 : IsPos 1 1 ⟨#[46]⟩ 0 A B := ⟨by omega, by omega, by omega, by omega, rfl, rfl, .inl rfl, p.a, p.b⟩
  obtain ⟨TX, HTX⟩ : ∃ TX : ByteArray, Hid (∀ w, Calls Try.prog 12 #[.agg #[.int .i64 1, .int .i64 1, .string ⟨#[46]⟩, .int .i64 0, .string A, .string B]] w fun e w' => e = .returned (.string TX) ∧ Below w.heap.size w w') := ⟨_, fun w => Text_ok w p1⟩
  have HS1 := hide (fun w => sorted_any (ustr C q) w pu.c64)
  have HS2 := hide (fun w => sorted_any C w h64)
  rw [hcnt] at HS1
  obtain ⟨SX, hSX⟩ : ∃ SX : ByteArray, SX = ⟨(sortP (cntF C.data.toList) 256).toArray⟩ := ⟨_, rfl⟩
  rw [← hSX] at HS1 HS2
  have hbig := countB_le hcb
  unfold big60 at hbig
  obtain ⟨U, hU⟩ : ∃ U, U = ustr C q := ⟨_, rfl⟩
  rw [← hU] at HC5 HC6 HC7 HS1
  obtain ⟨N, hN⟩ : ∃ N, N = arrL C.data.toList := ⟨_, rfl⟩
  rw [← hN] at HC1 HC2 HC7 hbig hqn
  obtain ⟨K, hK⟩ : ∃ K, K = 2 * ((rkL C.data.toList : Nat) : Int) + T := ⟨_, rfl⟩
  rw [← hK] at HC3 HC4
  obtain ⟨N2, hN2⟩ : ∃ N2 : Nat, 2 * (N : Int) = (N2 : Int) := ⟨2 * N, by omega⟩
  have hN2b : N2 ≤ 2305843009213693952 := by omega
  have hn0 : ¬ (n : Int) < 0 := by omega
  have hn1 : ¬ (N2 : Int) ≤ (n : Int) := by omega
  clear hcb p e1 e2 pu hcnt hrk harr hcu hnr p1 hSX hU hN hK hnq hr1 hqn h64
  go_enter Try.func3, Try.ntmps3
  go_wp2_with fail
  refine (unhide HC1 _).mono ?_
  rintro e w1 ⟨rfl, hb1⟩
  have bp1 := isBox.fresh hb1
  have hw1 : Below w.heap.size w w1 := below_on (Below.refl _ _) (Nat.le_refl _) hb1
  clear hb1
  obtain ⟨d0, d1, d2, d3, d4, d5⟩ := bp1.cells
  go_wp2_with fail
  refine (unhide HC2 _).mono ?_
  rintro e w2 ⟨rfl, hb2⟩
  have bp2 := bp1.below hb2 bp1.lt
  have hw2 := hw1.trans (hb2.mono hw1.size)
  clear hb2 bp1 d0 d1 d2 d3 d4 d5
  obtain ⟨d0, d1, d2, d3, d4, d5⟩ := bp2.cells
  go_wp2_with fail
  refine (unhide HC3 _).mono ?_
  rintro e w3 ⟨rfl, hb3⟩
  have bp3 := bp2.below hb3 bp2.lt
  have hw3 := hw2.trans (hb3.mono hw2.size)
  clear hb3 bp2 d0 d1 d2 d3 d4 d5
  obtain ⟨d0, d1, d2, d3, d4, d5⟩ := bp3.cells
  go_wp2_with fail
  refine (unhide HC4 _).mono ?_
  rintro e w4 ⟨rfl, hb4⟩
  have bp4 := bp3.below hb4 bp3.lt
  have hw4 := hw3.trans (hb4.mono hw3.size)
  clear hb4 bp3 d0 d1 d2 d3 d4 d5
  obtain ⟨d0, d1, d2, d3, d4, d5⟩ := bp4.cells
  go_wp2_with fail
  refine (unhide HC5 _).mono ?_
  rintro e w5 ⟨rfl, hb5⟩
  have bp5 := bp4.below hb5 bp4.lt
  have hw5 := hw4.trans (hb5.mono hw4.size)
  clear hb5 bp4 d0 d1 d2 d3 d4 d5 hw1 hw2 hw3 hw4
  go_wp2_with fail
  refine (unhide HC6 _).mono ?_
  rintro e w6 ⟨rfl, hb6⟩
  have bp6 := bp5.on hb6
  have bq6 := isBox.fresh hb6
  have hw6 := below_on hw5 hw5.size hb6
  clear hb6 bp5 hw5
  obtain ⟨d0, d1, d2, d3, d4, d5⟩ := bq6.cells
  go_wp2_with fail
  refine (unhide HC7 _).mono ?_
  rintro e w7 ⟨rfl, hb7⟩
  have bp7 := bp6.below hb7 bp6.lt
  have bq7 := bq6.below hb7 bq6.lt
  have hw7 := hw6.trans (hb7.mono hw6.size)
  clear hb7 bp6 bq6 hw6 d0 d1 d2 d3 d4 d5
  obtain ⟨d0, d1, d2, d3, d4, d5⟩ := bp7.cells
  obtain ⟨e0, e1, e2, e3, e4, e5⟩ := bq7.cells
  have gp := bp7.lt
  have gq := bq7.lt
  have hb0 : Below w7.heap.size w7 w7.drew := (Below.refl _ _).drew
  go_wp2
  go_region_held3 (fun v => v.cell? ⟨w.heap.size, 0, none⟩ = some (.int .i64 W) ∧ v.cell? ⟨w.heap.size, 1, none⟩ = some (.int .i64 H) ∧ v.cell? ⟨w.heap.size, 2, none⟩ = some (.string C) ∧ v.cell? ⟨w.heap.size, 4, none⟩ = some (.string A) ∧ v.cell? ⟨w.heap.size, 5, none⟩ = some (.string B) ∧ v.cell? ⟨w5.heap.size, 0, none⟩ = some (.int .i64 W) ∧ v.cell? ⟨w5.heap.size, 1, none⟩ = some (.int .i64 H) ∧ v.cell? ⟨w5.heap.size, 2, none⟩ = some (.string U) ∧ v.cell? ⟨w5.heap.size, 4, none⟩ = some (.string A) ∧ v.cell? ⟨w5.heap.size, 5, none⟩ = some (.string B) ∧ Below w7.heap.size w7 v ∧ w7.heap.size ≤ v.heap.size)
    (first
      | (go_keep; done)
      | ((try go_split_ands); (try dsimp only); (repeat' apply And.intro) <;> first
           | (go_keep; done)
           | exact hb0
           | exact Nat.le_refl _
           | (rw [hb.cell (by first | (dsimp only; omega) | (dsimp only [World.drew]; omega))]; assumption)
           | exact Below.trans (by assumption) (hb.mono (by first | omega | (dsimp only [World.drew]; omega)))
           | exact Below.trans hb0 (hb.mono (by first | omega | (dsimp only [World.drew]; omega)))
           | exact Nat.le_trans (by assumption) hb.size
           | exact hb.size))
    (first
      | (go_at_call 12; (with_reducible refine (unhide HTX _).mono ?_); rintro e wt ⟨rfl, hb⟩)
      | (go_at_call 13; (with_reducible refine (unhide HS1 _).mono ?_); rintro e wt ⟨rfl, hb⟩)
      | (go_at_call 13; (with_reducible refine (unhide HS2 _).mono ?_); rintro e wt ⟨rfl, hb⟩))
  rename_i hH
  have hw8 : Below w.heap.size w wt := hw7.trans (hH.2.2.2.2.2.2.2.2.2.2.1.mono hw7.size)
  have HW8 := hide hw8
  clear hH hb hw8 d0 d1 d2 d3 d4 d5 e0 e1 e2 e3 e4 e5
  go_wp2
  go_ret
  exact ⟨rfl, unhide HW8⟩

theorem ranks_any (W H T n : Int) (C A B : ByteArray) (w : World) (hC : C.size ≤ maxLen) (hA : A.size ≤ maxLen) (hB : B.size ≤ maxLen) :
    Calls Try.prog 3 #[.agg #[.int .i64 W, .int .i64 H, .string C, .int .i64 T, .string A, .string B], .int .i64 n] w fun e w' => e = .returned (.bool true) ∧ Below w.heap.size w w' := by
  cases hpos : posB W H C.data.toList T A.data.toList B.data.toList with
  | false => exact ranks_no W H T n C A B w hC hA hB hpos
  | true =>
    obtain ⟨W, H, rfl, rfl, p⟩ := isPos_of hpos
    cases hcb : countB C.data.toList with
    | false => exact ranks_large n w p hcb
    | true =>
      by_cases hn : n < 0 ∨ 2 * ((arrL C.data.toList : Nat) : Int) ≤ n
      · exact ranks_range n w p hcb hn
      · obtain ⟨m, hm⟩ : ∃ m : Nat, n = (m : Int) := ⟨n.toNat, by omega⟩
        subst hm
        exact ranks_ok m (m / 2) (m % 2) w p hcb (by omega) (by omega) (by omega)
end Go.Proofs.Ytbcedjjocpjkjaa
