/-
  gamelaw.BoardRanks, walked: what has no number; a number out of range.
-/
import Derived.Test.YtbcedjjocpjkjaaJ25
import Derived.Test.YtbcedjjocpjkjaaJ26
import Derived.Test.YtbcedjjocpjkjaaW61
import Derived.Test.YtbcedjjocpjkjaaJ18
namespace Go.Proofs.Ytbcedjjocpjkjaa
open Go.RowKit
attribute [local go_sem ↓] Go.wp_at_zero Go.wp_at_succ

theorem rkL_unF : ∀ (k : Nat) (f : Nat → Nat) (n : Nat), sumTo f K256 = k → (∀ c, K256 ≤ c → f c = 0) → n < arrF k f → rkL (unF k f n) = n := by
  intro k
  induction k with
  | zero =>
    intro f n hs hh hn
    have : n = 0 := by simp [arrF] at hn; exact hn
    rw [unF, rkL, this]
  | succ k ih =>
    intro f n hs hh hn
    have hcnt := unF_cnt (k + 1) f n hs hh hn
    rw [arrF_sum] at hn
    obtain ⟨c, hc, h1, h2⟩ := find_ex _ n K256 hn
    have hf : findC (subF k f) n K256 0 = c := findC_eq _ _ _ h1 h2 K256 0 (by omega) (by omega)
    have hg : 0 < subF k f c := by rw [sumTo] at h2; omega
    have h0 : 0 < f c := by
      unfold subF at hg
      by_cases h0 : 0 < f c
      · exact h0
      · rw [if_neg h0] at hg; omega
    have hsub : subF k f c = arrF k (decF f c) := by rw [subF, if_pos h0]
    have hcb : (UInt8.ofNat c).toNat = c := by
      rw [UInt8.toNat_ofNat']
      exact Nat.mod_eq_of_lt hc
    have hsd := sumTo_dec f c h0 K256
    rw [if_pos hc] at hsd
    have hih := ih (decF f c) (n - sumTo (subF k f) c) (by omega) (fun d hd => by rw [decF, if_neg (by omega)]; exact hh d hd) (by rw [sumTo, hsub] at h2; omega)
    rw [unF, hf] at hcnt ⊢
    rw [rkL, hcnt, hih, unF_length, hcb]
    omega

/-- What Unrank gives is a position of the same kind, and the one of that number. -/
theorem ustr_facts {W H : Nat} {T : Int} {C A B : ByteArray} (p : IsPos W H C T A B) (q r : Nat) (hr : r < 2) (hq : q < arrL C.data.toList) :
    IsPos W H (ustr C q) (r : Int) A B ∧ cntF (ustr C q).data.toList = cntF C.data.toList ∧ rkL (ustr C q).data.toList = q ∧ arrL (ustr C q).data.toList = arrL C.data.toList := by
  have hd : (ustr C q).data.toList = unF C.size (cntF C.data.toList) q := by rw [ustr, bytes_data]
  have hs : sumTo (cntF C.data.toList) K256 = C.size := by rw [cntF_sum, len_data]
  have hq' : q < arrF C.size (cntF C.data.toList) := by rw [← len_data]; exact hq
  have hcnt := unF_cnt C.size _ q hs (cntF_high _) hq'
  have hrk := rkL_unF C.size _ q hs (cntF_high _) hq'
  have hsz : (ustr C q).size = C.size := by rw [← len_data, hd, unF_length]
  rw [hd]
  refine ⟨⟨p.w0, p.w1, p.h0, p.h1, by rw [hsz]; exact p.c, ?_, by omega, p.a, p.b⟩, hcnt, hrk, ?_⟩
  · have hall := p.cs
    simp only [cellsB, List.all_eq_true] at hall ⊢
    intro x hx
    rw [hd] at hx
    have h1 := cntF_mem hx
    rw [hcnt] at h1
    obtain ⟨y, hy, he⟩ := mem_of_cntF h1
    have : y = x := UInt8.toNat_inj.1 he
    rw [← this]
    exact hall y hy
  · unfold arrL
    rw [unF_length, hcnt, len_data]


set_option maxHeartbeats 1000000 in
set_option maxRecDepth 100000 in
theorem ranks_no (W H T n : Int) (C A B : ByteArray) (w : World) (hC : C.size ≤ maxLen) (hA : A.size ≤ maxLen) (hB : B.size ≤ maxLen) (h : posB W H C.data.toList T A.data.toList B.data.toList = false) :
    Calls Try.prog 3 #[.agg #[.int .i64 W, .int .i64 H, .string C, .int .i64 T, .string A, .string B], .int .i64 n] w fun e w' => e = .returned (.bool true) ∧ Below w.heap.size w w' := by
  have heq0 := fun w => (eqPos w 0 0 0 0 0 0 ⟨#[]⟩ ⟨#[]⟩ ⟨#[]⟩ ⟨#[]⟩ ⟨#[]⟩ ⟨#[]⟩)
  simp only [samePos_refl] at heq0
  have HC1 := hide (fun w => Count_no W H T C A B w hC hA hB h)
  have HC2 := hide (fun w => Kinds_no W H T C A B w hA hB h)
  have HC3 := hide (fun w => Rank_no W H T C A B w hC hA hB h)
  have HC4 := hide (fun w => Ranked_no W H T C A B w hA hB h)
  have HC5 := hide (fun w => Unrank_no W H T n C A B w hC hA hB h)
  unfold zeroPos at HC5
  clear h
  go_enter Try.func3, Try.ntmps3
  go_wp2_with fail
  refine (unhide HC1 _).mono ?_
  rintro e w1 ⟨rfl, hb1⟩
  have bp1 := isBox.fresh hb1
  have hw1 : Below w.heap.size w w1 := below_on (Below.refl _ _) (Nat.le_refl _) hb1
  clear hb1
  obtain ⟨d0, d1, d2, d3, d4, d5⟩ := bp1.cells
  go_wp2_with fail
  refine (unhide HC2 _).mono ?_
  rintro e w2 ⟨rfl, hb2⟩
  have bp2 := bp1.below hb2 bp1.lt
  have hw2 := hw1.trans (hb2.mono hw1.size)
  clear hb2 bp1 d0 d1 d2 d3 d4 d5
  obtain ⟨d0, d1, d2, d3, d4, d5⟩ := bp2.cells
  go_wp2_with fail
  refine (unhide HC3 _).mono ?_
  rintro e w3 ⟨rfl, hb3⟩
  have bp3 := bp2.below hb3 bp2.lt
  have hw3 := hw2.trans (hb3.mono hw2.size)
  clear hb3 bp2 d0 d1 d2 d3 d4 d5
  obtain ⟨d0, d1, d2, d3, d4, d5⟩ := bp3.cells
  go_wp2_with fail
  refine (unhide HC4 _).mono ?_
  rintro e w4 ⟨rfl, hb4⟩
  have bp4 := bp3.below hb4 bp3.lt
  have hw4 := hw3.trans (hb4.mono hw3.size)
  clear hb4 bp3 d0 d1 d2 d3 d4 d5
  obtain ⟨d0, d1, d2, d3, d4, d5⟩ := bp4.cells
  go_wp2_with fail
  refine (unhide HC5 _).mono ?_
  rintro e w5 ⟨rfl, hb5⟩
  have bp5 := bp4.below hb5 bp4.lt
  have hw5 := hw4.trans (hb5.mono hw4.size)
  clear hb5 bp4 d0 d1 d2 d3 d4 d5 hw1 hw2 hw3 hw4
  go_wp2
  go_ret
  exact ⟨ret_bool (by simp), hw5.alloc hw5.size _⟩

set_option maxHeartbeats 1000000 in
set_option maxRecDepth 100000 in
theorem ranks_large {W H : Nat} {T : Int} {C A B : ByteArray} (n : Int) (w : World) (p : IsPos W H C T A B) (hcb : countB C.data.toList = false) :
    Calls Try.prog 3 #[.agg #[.int .i64 W, .int .i64 H, .string C, .int .i64 T, .string A, .string B], .int .i64 n] w fun e w' => e = .returned (.bool true) ∧ Below w.heap.size w w' := by
  have heq0 := fun w => (eqPos w 0 0 0 0 0 0 ⟨#[]⟩ ⟨#[]⟩ ⟨#[]⟩ ⟨#[]⟩ ⟨#[]⟩ ⟨#[]⟩)
  simp only [samePos_refl] at heq0
  have HC1 := hide (fun w => Count_pos w p)
  have e1 : cntV C.data.toList = 0 := by simp [cntV, hcb]
  have e2 : cntE C.data.toList = 2 := by simp [cntE, hcb]
  rw [e1, e2] at HC1
  have HC2 := hide (fun w => Kinds_large w p hcb)
  have HC3 := hide (fun w => Rank_large w p hcb)
  have HC4 := hide (fun w => Ranked_large w p hcb)
  have HC5 := hide (fun w => Unrank_large (n := n) w p hcb)
  unfold zeroPos at HC5
  clear hcb p e1 e2
  go_enter Try.func3, Try.ntmps3
  go_wp2_with fail
  refine (unhide HC1 _).mono ?_
  rintro e w1 ⟨rfl, hb1⟩
  have bp1 := isBox.fresh hb1
  have hw1 : Below w.heap.size w w1 := below_on (Below.refl _ _) (Nat.le_refl _) hb1
  clear hb1
  obtain ⟨d0, d1, d2, d3, d4, d5⟩ := bp1.cells
  go_wp2_with fail
  refine (unhide HC2 _).mono ?_
  rintro e w2 ⟨rfl, hb2⟩
  have bp2 := bp1.below hb2 bp1.lt
  have hw2 := hw1.trans (hb2.mono hw1.size)
  clear hb2 bp1 d0 d1 d2 d3 d4 d5
  obtain ⟨d0, d1, d2, d3, d4, d5⟩ := bp2.cells
  go_wp2_with fail
  refine (unhide HC3 _).mono ?_
  rintro e w3 ⟨rfl, hb3⟩
  have bp3 := bp2.below hb3 bp2.lt
  have hw3 := hw2.trans (hb3.mono hw2.size)
  clear hb3 bp2 d0 d1 d2 d3 d4 d5
  obtain ⟨d0, d1, d2, d3, d4, d5⟩ := bp3.cells
  go_wp2_with fail
  refine (unhide HC4 _).mono ?_
  rintro e w4 ⟨rfl, hb4⟩
  have bp4 := bp3.below hb4 bp3.lt
  have hw4 := hw3.trans (hb4.mono hw3.size)
  clear hb4 bp3 d0 d1 d2 d3 d4 d5
  obtain ⟨d0, d1, d2, d3, d4, d5⟩ := bp4.cells
  go_wp2_with fail
  refine (unhide HC5 _).mono ?_
  rintro e w5 ⟨rfl, hb5⟩
  have bp5 := bp4.below hb5 bp4.lt
  have hw5 := hw4.trans (hb5.mono hw4.size)
  clear hb5 bp4 d0 d1 d2 d3 d4 d5 hw1 hw2 hw3 hw4
  go_wp2
  go_ret
  exact ⟨ret_bool (by simp), hw5.alloc hw5.size _⟩

set_option maxHeartbeats 1000000 in
set_option maxRecDepth 100000 in
theorem ranks_range {W H : Nat} {T : Int} {C A B : ByteArray} (n : Int) (w : World) (p : IsPos W H C T A B) (hcb : countB C.data.toList = true) (hn : n < 0 ∨ 2 * ((arrL C.data.toList : Nat) : Int) ≤ n) :
    Calls Try.prog 3 #[.agg #[.int .i64 W, .int .i64 H, .string C, .int .i64 T, .string A, .string B], .int .i64 n] w fun e w' => e = .returned (.bool true) ∧ Below w.heap.size w w' := by
  have heq0 := fun w => (eqPos w 0 0 0 0 0 0 ⟨#[]⟩ ⟨#[]⟩ ⟨#[]⟩ ⟨#[]⟩ ⟨#[]⟩ ⟨#[]⟩)
  simp only [samePos_refl] at heq0
  have HC1 := hide (fun w => Count_pos w p)
  have e1 : cntV C.data.toList = arrL C.data.toList := by simp [cntV, hcb]
  have e2 : cntE C.data.toList = 0 := by simp [cntE, hcb]
  rw [e1, e2] at HC1
  have HC2 := hide (fun w => Kinds_ok w p hcb)
  have HC3 := hide (fun w => Rank_ok w p hcb)
  have HC4 := hide (fun w => Ranked_ok w p hcb)
  have HC5 := hide (fun w => Unrank_range (n := n) w p hcb hn)
  unfold zeroPos at HC5
  have hbig := countB_le hcb
  unfold big60 at hbig
  clear hcb p e1 e2
  obtain ⟨N, hN⟩ : ∃ N, N = arrL C.data.toList := ⟨_, rfl⟩
  rw [← hN] at HC1 HC2 hbig hn
  obtain ⟨K, hK⟩ : ∃ K, K = 2 * ((rkL C.data.toList : Nat) : Int) + T := ⟨_, rfl⟩
  rw [← hK] at HC3 HC4
  clear hN hK
  obtain ⟨N2, hN2⟩ : ∃ N2 : Nat, 2 * (N : Int) = (N2 : Int) := ⟨2 * N, by omega⟩
  rw [hN2] at hn
  have hN2b : N2 ≤ 2305843009213693952 := by omega
  rcases Int.lt_or_le n 0 with hn0 | hn0
  · clear hn
    go_enter Try.func3, Try.ntmps3
    go_wp2_with fail
    refine (unhide HC1 _).mono ?_
    rintro e w1 ⟨rfl, hb1⟩
    have bp1 := isBox.fresh hb1
    have hw1 : Below w.heap.size w w1 := below_on (Below.refl _ _) (Nat.le_refl _) hb1
    clear hb1
    obtain ⟨d0, d1, d2, d3, d4, d5⟩ := bp1.cells
    go_wp2_with fail
    refine (unhide HC2 _).mono ?_
    rintro e w2 ⟨rfl, hb2⟩
    have bp2 := bp1.below hb2 bp1.lt
    have hw2 := hw1.trans (hb2.mono hw1.size)
    clear hb2 bp1 d0 d1 d2 d3 d4 d5
    obtain ⟨d0, d1, d2, d3, d4, d5⟩ := bp2.cells
    go_wp2_with fail
    refine (unhide HC3 _).mono ?_
    rintro e w3 ⟨rfl, hb3⟩
    have bp3 := bp2.below hb3 bp2.lt
    have hw3 := hw2.trans (hb3.mono hw2.size)
    clear hb3 bp2 d0 d1 d2 d3 d4 d5
    obtain ⟨d0, d1, d2, d3, d4, d5⟩ := bp3.cells
    go_wp2_with fail
    refine (unhide HC4 _).mono ?_
    rintro e w4 ⟨rfl, hb4⟩
    have bp4 := bp3.below hb4 bp3.lt
    have hw4 := hw3.trans (hb4.mono hw3.size)
    clear hb4 bp3 d0 d1 d2 d3 d4 d5
    obtain ⟨d0, d1, d2, d3, d4, d5⟩ := bp4.cells
    go_wp2_with fail
    refine (unhide HC5 _).mono ?_
    rintro e w5 ⟨rfl, hb5⟩
    have bp5 := bp4.below hb5 bp4.lt
    have hw5 := hw4.trans (hb5.mono hw4.size)
    clear hb5 bp4 d0 d1 d2 d3 d4 d5 hw1 hw2 hw3 hw4
    go_wp2
    go_ret
    exact ⟨ret_bool (by simp), hw5.alloc hw5.size _⟩
  · have hn1 : (N2 : Int) ≤ n := by omega
    have hn2 : ¬ n < 0 := by omega
    clear hn
    go_enter Try.func3, Try.ntmps3
    go_wp2_with fail
    refine (unhide HC1 _).mono ?_
    rintro e w1 ⟨rfl, hb1⟩
    have bp1 := isBox.fresh hb1
    have hw1 : Below w.heap.size w w1 := below_on (Below.refl _ _) (Nat.le_refl _) hb1
    clear hb1
    obtain ⟨d0, d1, d2, d3, d4, d5⟩ := bp1.cells
    go_wp2_with fail
    refine (unhide HC2 _).mono ?_
    rintro e w2 ⟨rfl, hb2⟩
    have bp2 := bp1.below hb2 bp1.lt
    have hw2 := hw1.trans (hb2.mono hw1.size)
    clear hb2 bp1 d0 d1 d2 d3 d4 d5
    obtain ⟨d0, d1, d2, d3, d4, d5⟩ := bp2.cells
    go_wp2_with fail
    refine (unhide HC3 _).mono ?_
    rintro e w3 ⟨rfl, hb3⟩
    have bp3 := bp2.below hb3 bp2.lt
    have hw3 := hw2.trans (hb3.mono hw2.size)
    clear hb3 bp2 d0 d1 d2 d3 d4 d5
    obtain ⟨d0, d1, d2, d3, d4, d5⟩ := bp3.cells
    go_wp2_with fail
    refine (unhide HC4 _).mono ?_
    rintro e w4 ⟨rfl, hb4⟩
    have bp4 := bp3.below hb4 bp3.lt
    have hw4 := hw3.trans (hb4.mono hw3.size)
    clear hb4 bp3 d0 d1 d2 d3 d4 d5
    obtain ⟨d0, d1, d2, d3, d4, d5⟩ := bp4.cells
    go_wp2_with fail
    refine (unhide HC5 _).mono ?_
    rintro e w5 ⟨rfl, hb5⟩
    have bp5 := bp4.below hb5 bp4.lt
    have hw5 := hw4.trans (hb5.mono hw4.size)
    clear hb5 bp4 d0 d1 d2 d3 d4 d5 hw1 hw2 hw3 hw4
    go_wp2
    go_ret
    exact ⟨ret_bool (by simp), hw5.alloc hw5.size _⟩
end Go.Proofs.Ytbcedjjocpjkjaa
