/-
  gamekeep.BoardBack, walked: it answers true.
-/
import Derived.Test.YtbcedjjocpjkjaaW51
import Derived.Test.YtbcedjjocpjkjaaW34
import Derived.Test.YtbcedjjocpjkjaaW12
import Derived.Deep.Cut
namespace Go.Proofs.Ytbcedjjocpjkjaa
open Go.RowKit
attribute [local go_sem ↓] Go.wp_at_zero Go.wp_at_succ

theorem isBx_new (w : World) (x0 x1 x2 x3 x4 x5 : Value) : isBx (w.alloc (.cells #[x0, x1, x2, x3, x4, x5] 24 (0, 0))) w.heap.size x0 x1 x2 x3 x4 x5 := heap_alloc_new w _

theorem isBx.drew {w : World} {p : Nat} {x0 x1 x2 x3 x4 x5 : Value} (h : isBx w p x0 x1 x2 x3 x4 x5) : isBx w.drew p x0 x1 x2 x3 x4 x5 := h
theorem isBx.put {w : World} {p : Nat} {x0 x1 x2 x3 x4 x5 : Value} (h : isBx w p x0 x1 x2 x3 x4 x5) {q i : Nat} (hn : p ≠ q) (u : Value) : isBx (w.setCell ⟨q, i, none⟩ u) p x0 x1 x2 x3 x4 x5 := by
  unfold isBx at h ⊢; rw [Below.heap_setCell _ _ _ _ hn, h]
theorem isBx.set0145 {w : World} {p : Nat} {x0 x1 x2 x3 x4 x5 : Value} (h : isBx w p x0 x1 x2 x3 x4 x5) (y0 y1 y4 y5 : Value) : isBx ((((w.setCell ⟨p, 0, none⟩ y0).setCell ⟨p, 1, none⟩ y1).setCell ⟨p, 4, none⟩ y4).setCell ⟨p, 5, none⟩ y5) p y0 y1 x2 x3 y4 y5 := by
  unfold isBx at h ⊢; simp [World.setCell, Array.getElem?_modify, h]

/-- board.Rank, in one word. -/
theorem Rank_v (W H : Nat) (T : Int) (C A B : ByteArray) (w : World) (hC : C.size ≤ maxLen) (hA : A.size ≤ maxLen) (hB : B.size ≤ maxLen) :
    Calls Try.prog 9 #[.agg #[.int .i64 W, .int .i64 H, .string C, .int .i64 T, .string A, .string B]] w fun e w' => ∃ m c : Int, e = .returned (.tuple #[.int .i64 m, .int .i64 c]) ∧
      ((c = 0 ∧ IsPos W H C T A B ∧ countB C.data.toList = true ∧ m = 2 * ((rkL C.data.toList : Nat) : Int) + T) ∨ (m = 0 ∧ ¬ c = 0)) ∧ Below w.heap.size w w' := by
  cases h : posB W H C.data.toList T A.data.toList B.data.toList with
  | false =>
    refine (Rank_no _ _ _ _ _ _ w hC hA hB h).mono ?_
    rintro e w' ⟨rfl, hb⟩
    exact ⟨_, _, rfl, Or.inr ⟨rfl, by decide⟩, hb⟩
  | true =>
    obtain ⟨W', H', e1, e2, p⟩ := isPos_of h
    obtain rfl : W = W' := by omega
    obtain rfl : H = H' := by omega
    cases hcb : countB C.data.toList with
    | false =>
      refine (Rank_large w p hcb).mono ?_
      rintro e w' ⟨rfl, hb⟩
      exact ⟨_, _, rfl, Or.inr ⟨rfl, by decide⟩, hb⟩
    | true =>
      refine (Rank_ok w p hcb).mono ?_
      rintro e w' ⟨rfl, hb⟩
      exact ⟨_, _, rfl, Or.inl ⟨rfl, p, rfl, rfl⟩, hb⟩

/-- Ranks are in order. -/
theorem order_cells {a b : ByteArray} {k k2 r r2 N M : Nat} (hc : cntF b.data.toList = cntF a.data.toList) (hk : k = rkL a.data.toList) (hk2 : k2 = rkL b.data.toList) (hr : r < 2) (hr2 : r2 < 2) (hN : N = 2 * k + r) (hM : M = 2 * k2 + r2) (hne : ¬ a = b) :
    (decide (N < M) == Op.bytesLess a.toList b.toList) = true := by
  rw [Lib.toList_data, Lib.toList_data, rkL_mono _ _ hc.symm, ← hk, ← hk2, beq_iff_eq]
  have hkk : k ≠ k2 := by
    intro e
    apply hne
    apply bytes_eq
    rw [← unF_rkL a.data.toList, ← unF_rkL b.data.toList, ← hk, ← hk2, e, cntF_length hc, hc]
  congr 1
  simp only [eq_iff_iff]
  omega
theorem order_turns {k k2 r r2 N M : Nat} (hk : k = k2) (hN : N = 2 * k + r) (hM : M = 2 * k2 + r2) : (decide (N < M) == decide (r < r2)) = true := by
  rw [beq_iff_eq]
  congr 1
  simp only [eq_iff_iff]
  omega

set_option maxHeartbeats 2000000 in
set_option maxRecDepth 100000 in
theorem back_any (W H T W2 H2 T2 : Int) (C A B C2 A2 B2 s : ByteArray) (w : World) (hC : C.size ≤ maxLen) (hA : A.size ≤ maxLen) (hB : B.size ≤ maxLen) (hC2 : C2.size ≤ maxLen) (hs : s.size ≤ maxLen) :
    Calls Try.prog 5 #[.agg #[.int .i64 W, .int .i64 H, .string C, .int .i64 T, .string A, .string B], .agg #[.int .i64 W2, .int .i64 H2, .string C2, .int .i64 T2, .string A2, .string B2], .string s] w fun e w' => e = .returned (.bool true) ∧ Below w.heap.size w w' := by
  have hp0 : isBx ((w.alloc (.cells #[.int .i64 W, .int .i64 H, .string C, .int .i64 T, .string A, .string B] 24 (0, 0))).alloc (.cells #[.int .i64 W2, .int .i64 H2, .string C2, .int .i64 T2, .string A2, .string B2] 24 (0, 0))) w.heap.size (.int .i64 W) (.int .i64 H) (.string C) (.int .i64 T) (.string A) (.string B) := (isBx_new w _ _ _ _ _ _).alloc _
  have hq0 : isBx ((w.alloc (.cells #[.int .i64 W, .int .i64 H, .string C, .int .i64 T, .string A, .string B] 24 (0, 0))).alloc (.cells #[.int .i64 W2, .int .i64 H2, .string C2, .int .i64 T2, .string A2, .string B2] 24 (0, 0))) (w.heap.size + 1) (.int .i64 W2) (.int .i64 H2) (.string C2) (.int .i64 T2) (.string A2) (.string B2) := by
    have := isBx_new (w.alloc (.cells #[.int .i64 W, .int .i64 H, .string C, .int .i64 T, .string A, .string B] 24 (0, 0))) (.int .i64 W2) (.int .i64 H2) (.string C2) (.int .i64 T2) (.string A2) (.string B2)
    simpa using this
  have hb0 : Below w.heap.size w ((w.alloc (.cells #[.int .i64 W, .int .i64 H, .string C, .int .i64 T, .string A, .string B] 24 (0, 0))).alloc (.cells #[.int .i64 W2, .int .i64 H2, .string C2, .int .i64 T2, .string A2, .string B2] 24 (0, 0))) := ((Below.refl _ w).alloc (Nat.le_refl _) _).alloc (by simp) _
  go_enter Try.func5, Try.ntmps5
  go_wp2_with fail
  refine (Read_K _).mono ?_
  rintro e w1 ⟨rfl, hb1⟩
  unfold sixV faultV
  have hp1 := hp0.below hb1 hp0.lt
  have hq1 := hq0.below hb1 hq0.lt
  have hw1 : Below w.heap.size w w1 := hb0.trans (hb1.mono (by have := hp0.lt; omega))
  clear hb1 hp0 hq0 hb0
  have hp2 := fun o o' => ((hp1.alloc o).alloc o').all
  have c0 := fun o o' => (hp2 o o').1.1
  have c1 := fun o o' => (hp2 o o').1.2.1
  have c2 := fun o o' => (hp2 o o').1.2.2.1
  have c3 := fun o o' => (hp2 o o').1.2.2.2.1
  have c4 := fun o o' => (hp2 o o').1.2.2.2.2.1
  have c5 := fun o o' => (hp2 o o').1.2.2.2.2.2
  clear hp2
  go_wp2_with fail
  refine (Write_v W H T C A B _ hC hA hB).mono ?_
  rintro e w2 ⟨X, c, rfl, hX, hb2⟩
  have hp2 := isBx.below ((hp1.alloc _).alloc _) hb2 (by have := hp1.lt; simp; omega)
  have hq2 := isBx.below ((hq1.alloc _).alloc _) hb2 (by have := hq1.lt; simp; omega)
  have hw2 : Below w.heap.size w w2 := ((hw1.alloc (by have := hp1.lt; omega) _).alloc (by have := hp1.lt; simp; omega) _).trans (hb2.mono (by have := hp1.lt; simp; omega))
  clear hb2 hp1 hq1 hw1 c0 c1 c2 c3 c4 c5
  go_upto_if 42 with fail
  go_cut [11, 12] from 43 (fun _ _ wc => isBx wc w.heap.size (.int .i64 W) (.int .i64 H) (.string C) (.int .i64 T) (.string A) (.string B) ∧ isBx wc (w.heap.size + 1) (.int .i64 W2) (.int .i64 H2) (.string C2) (.int .i64 T2) (.string A2) (.string B2) ∧ Below w.heap.size w wc)
  case first =>
    rcases hX with ⟨rfl, W', H', rfl, rfl, p, rfl⟩ | rfl
    · have heq := fun w => (eqPos w W' H' T W' H' T C A B C A B)
      simp only [samePos_refl] at heq
      go_wp2_with fail
      refine (Read_ok _ p).mono ?_
      rintro e w3 ⟨rfl, hb3⟩
      unfold sixV faultV
      have hp3 := hp2.below hb3 hp2.lt
      have hq3 := hq2.below hb3 hq2.lt
      have hw3 := hw2.trans (hb3.mono (by have := hp2.lt; omega))
      have hp4 := fun o o' => ((hp3.alloc o).alloc o').all
      have c0 := fun o o' => (hp4 o o').1.1
      have c1 := fun o o' => (hp4 o o').1.2.1
      have c2 := fun o o' => (hp4 o o').1.2.2.1
      have c3 := fun o o' => (hp4 o o').1.2.2.2.1
      have c4 := fun o o' => (hp4 o o').1.2.2.2.2.1
      have c5 := fun o o' => (hp4 o o').1.2.2.2.2.2
      clear hp4 hb3 hp2 hq2 hw2
      go_wp2_with fail
      go_meet
      case rel => exact ⟨(hp3.alloc _).alloc _, (hq3.alloc _).alloc _, (hw3.alloc (by have := hp3.lt; omega) _).alloc (by have := hp3.lt; simp; omega) _⟩
    · go_wp2_with fail
      go_meet
      case rel => exact ⟨hp2, hq2, hw2⟩
  case rest =>
    obtain ⟨hp3, hq3, hw3⟩ := hcut
    clear hp2 hq2 hw2 hX
    go_wp2_with fail
    refine (Read_v s _ hs).mono ?_
    rintro e w3 ⟨W3, H3, C3, T3, A3, B3, c3, n3, rfl, hX, hb3⟩
    unfold sixV faultV
    have hp4 := hp3.below hb3 hp3.lt
    have hq4 := hq3.below hb3 hq3.lt
    have hw4 := hw3.trans (hb3.mono (by have := hp3.lt; omega))
    clear hb3 hp3 hq3 hw3
    go_upto_if 63 with fail
    go_cut [15, 16] from 64 (fun _ _ wc => isBx wc w.heap.size (.int .i64 W) (.int .i64 H) (.string C) (.int .i64 T) (.string A) (.string B) ∧ isBx wc (w.heap.size + 1) (.int .i64 W2) (.int .i64 H2) (.string C2) (.int .i64 T2) (.string A2) (.string B2) ∧ Below w.heap.size w wc)
    case first =>
      rcases hX with ⟨rfl, W', H', rfl, rfl, p, hx⟩ | rfl
      · have HX := hide hx
        clear hx
        go_wp2_with fail
        refine (Write_ok _ p).mono ?_
        rintro e w5 ⟨rfl, hb5⟩
        rw [unhide HX]
        have hp5 := ((hp4.alloc _).alloc _).below hb5 (by have := hp4.lt; simp; omega)
        have hq5 := ((hq4.alloc _).alloc _).below hb5 (by have := hq4.lt; simp; omega)
        have hw5 := ((hw4.alloc (by have := hp4.lt; omega) _).alloc (by have := hp4.lt; simp; omega) _).trans (hb5.mono (by have := hp4.lt; simp; omega))
        go_wp2_with fail
        go_meet
        case rel => exact ⟨hp5, hq5, hw5⟩
      · go_wp2_with fail
        go_meet
        case rel => exact ⟨(hp4.alloc _).alloc _, (hq4.alloc _).alloc _, (hw4.alloc (by have := hp4.lt; omega) _).alloc (by have := hp4.lt; simp; omega) _⟩
    case rest =>
      obtain ⟨hp5, hq5, hw5⟩ := hcut
      clear hp4 hq4 hw4 hX
      obtain ⟨⟨c0, c1, c2, c3', c4, c5⟩, _⟩ := hp5.all
      cases hpos : posB W H C.data.toList T A.data.toList B.data.toList with
      | false =>
        have HP := hide hpos
        clear hpos
        go_wp2_with fail
        refine (Rank_no _ _ _ _ _ _ _ hC hA hB (unhide HP)).mono ?_
        rintro e w6 ⟨rfl, hb6⟩
        have hw6 := hw5.trans (hb6.mono (by have := hp5.lt; omega))
        go_wp2
        go_ret
        exact ⟨rfl, hw6⟩
      | true =>
        obtain ⟨W, H, rfl, rfl, p⟩ := isPos_of hpos
        clear hpos
        have HPP := hide p
        clear p
        cases hcb : countB C.data.toList with
        | false =>
          have HCB := hide hcb
          clear hcb
          go_wp2_with fail
          refine (Rank_large _ (unhide HPP) (unhide HCB)).mono ?_
          rintro e w6 ⟨rfl, hb6⟩
          have hw6 := hw5.trans (hb6.mono (by have := hp5.lt; omega))
          go_wp2
          go_ret
          exact ⟨rfl, hw6⟩
        | true =>
          obtain ⟨r, hr, hr1⟩ : ∃ r : Nat, T = r ∧ r < 2 := by
            rcases (unhide HPP).t with h | h
            · exact ⟨0, by omega, by omega⟩
            · exact ⟨1, by omega, by omega⟩
          subst hr
          obtain ⟨k, hk⟩ : ∃ k, k = rkL C.data.toList := ⟨_, rfl⟩
          have hkl : k < arrL C.data.toList := by rw [hk]; exact rkL_lt _
          have hbig := countB_le hcb
          unfold big60 at hbig
          have hu : ustr C k = C := by
            apply bytes_eq
            rw [ustr, hk, bytes_data, ← len_data]
            exact unF_rkL _
          have HCB := hide hcb
          have HK := hide hk
          have HU := hide hu
          obtain ⟨N, hN⟩ : ∃ N, N = 2 * k + r := ⟨_, rfl⟩
          have hNi : 2 * (k : Int) + (r : Int) = (N : Int) := by omega
          have HN := hide hN
          have heq := fun w => (eqPos w W H r W H r C A B C A B)
          simp only [samePos_refl] at heq
          have hRk : ∀ w : World, Calls Try.prog 9 #[.agg #[.int .i64 W, .int .i64 H, .string C, .int .i64 (r : Int), .string A, .string B]] w fun e w' => e = .returned (.tuple #[.int .i64 (N : Int), .int .i64 0]) ∧ Below w.heap.size w w' := by
            intro w
            have h1 := Rank_ok w (unhide HPP) hcb
            rw [← hk, hNi] at h1
            exact h1
          have HRK := hide hRk
          have hUn : ∀ w : World, Calls Try.prog 11 #[.agg #[.int .i64 W, .int .i64 H, .string C, .int .i64 (r : Int), .string A, .string B], .int .i64 (N : Int)] w fun e w' => e = .returned (.tuple #[.agg #[.int .i64 W, .int .i64 H, .string C, .int .i64 (r : Int), .string A, .string B], .int .i64 0]) ∧ Below w.heap.size w w' := by
            intro w
            have h1 := Unrank_ok N k r w (unhide HPP) hcb hN hr1 hkl
            rw [hu] at h1
            exact h1
          have HUN := hide hUn
          have HKL := hide hkl
          have HBIG := hide hbig
          have HR1 := hide hr1
          clear hUn hRk hNi hN hu hk hcb hkl hbig hr1
          go_wp2_with fail
          refine (unhide HRK _).mono ?_
          rintro e w6 ⟨rfl, hb6⟩
          have hp6 := hp5.below hb6 hp5.lt
          have hq6 := hq5.below hb6 hq5.lt
          have hw6 := hw5.trans (hb6.mono (by have := hp5.lt; omega))
          clear hp5 hq5 hw5 hb6 c0 c1 c2 c3' c4 c5
          obtain ⟨⟨c0, c1, c2, c3', c4, c5⟩, _⟩ := hp6.all
          go_wp2_with fail
          refine (unhide HUN _).mono ?_
          rintro e w7 ⟨rfl, hb7⟩
          have hp7 := hp6.below hb7 hp6.lt
          have hq7 := hq6.below hb7 hq6.lt
          have hw7 := hw6.trans (hb7.mono (by have := hp6.lt; omega))
          clear hp6 hq6 hw6 hb7 c0 c1 c2 c3' c4 c5
          have hpo := fun o => (hp7.alloc o).all
          have hqo := fun o => (hq7.alloc o).all
          have c0 := fun o => (hpo o).1.1
          have c1 := fun o => (hpo o).1.2.1
          have c2 := fun o => (hpo o).1.2.2.1
          have c3' := fun o => (hpo o).1.2.2.2.1
          have c4 := fun o => (hpo o).1.2.2.2.2.1
          have c5 := fun o => (hpo o).1.2.2.2.2.2
          have d0 := fun o => (hqo o).1.1
          have d1 := fun o => (hqo o).1.2.1
          have d2 := fun o => (hqo o).1.2.2.1
          have d3 := fun o => (hqo o).1.2.2.2.1
          have d4 := fun o => (hqo o).1.2.2.2.2.1
          have d5 := fun o => (hqo o).1.2.2.2.2.2
          have z0 := fun o => (hqo o).2.1
          have z1 := fun o => (hqo o).2.2.1
          have z4 := fun o => (hqo o).2.2.2.2.2.1
          have z5 := fun o => (hqo o).2.2.2.2.2.2
          clear hpo hqo
          go_wp2_with fail
          go_region
          have hqV := fun o => (hq7.alloc o).set0145 (.int .i64 (W : Int)) (.int .i64 (H : Int)) (.string A) (.string B)
          have hpV := fun o => ((((hp7.alloc o).put (i := 0) (show w.heap.size ≠ w.heap.size + 1 by omega) (.int .i64 (W : Int))).put (i := 1) (show w.heap.size ≠ w.heap.size + 1 by omega) (.int .i64 (H : Int))).put (i := 4) (show w.heap.size ≠ w.heap.size + 1 by omega) (.string A)).put (i := 5) (show w.heap.size ≠ w.heap.size + 1 by omega) (.string B)
          have hwV := fun o => ((((hw7.alloc (by have := hp7.lt; omega) o).setCell (p := ⟨w.heap.size + 1, 0, none⟩) (by dsimp only; omega) (.int .i64 (W : Int))).setCell (p := ⟨w.heap.size + 1, 1, none⟩) (by dsimp only; omega) (.int .i64 (H : Int))).setCell (p := ⟨w.heap.size + 1, 4, none⟩) (by dsimp only; omega) (.string A)).setCell (p := ⟨w.heap.size + 1, 5, none⟩) (by dsimp only; omega) (.string B)
          have HQV := hide hqV
          have HPV := hide hpV
          have HWV := hide hwV
          clear hqV hpV hwV
          go_wp2_with fail
          refine (Rank_v W H T2 C2 A B _ hC2 hA hB).mono ?_
          rintro e w8 ⟨m, c', rfl, hm, hb8⟩
          have hp8 := ((unhide HPV _).drew).below hb8 ((unhide HPV _).drew).lt
          have hq8 := ((unhide HQV _).drew).below hb8 ((unhide HQV _).drew).lt
          have hw8 := ((unhide HWV _).drew).trans (hb8.mono (Nat.le_of_lt ((unhide HPV _).drew).lt))
          clear HPV HQV HWV hb8 hp7 hq7 hw7 c0 c1 c2 c3' c4 c5 d0 d1 d2 d3 d4 d5 z0 z1 z4 z5
          obtain ⟨⟨c0, c1, c2, c3', c4, c5⟩, _⟩ := hp8.all
          rcases hm with ⟨rfl, p2, hcb2, rfl⟩ | ⟨rfl, hc'⟩
          · obtain ⟨r2, hr2, hr21⟩ : ∃ r : Nat, T2 = r ∧ r < 2 := by
              rcases p2.t with h | h
              · exact ⟨0, by omega, by omega⟩
              · exact ⟨1, by omega, by omega⟩
            subst hr2
            obtain ⟨k2, hk2⟩ : ∃ k, k = rkL C2.data.toList := ⟨_, rfl⟩
            rw [← hk2]
            have HK2 := hide hk2
            obtain ⟨M, hM⟩ : ∃ M, M = 2 * k2 + r2 := ⟨_, rfl⟩
            have hMi : 2 * (k2 : Int) + (r2 : Int) = (M : Int) := by omega
            rw [hMi]
            have HM := hide hM
            clear hMi hk2 hcb2 p2
            by_cases hlt : k2 < arrL C.data.toList
            · have hU0 := Unrank_ok M k2 r2 w8 (unhide HPP) (unhide HCB) hM hr21 hlt
              have HU0 := hide hU0
              have hmath : ustr C k2 = C2 → cntF C2.data.toList = cntF C.data.toList := by
                intro e
                rw [← e, ustr, bytes_data]
                refine unF_cnt _ _ _ ?_ (cntF_high _) ?_
                · rw [cntF_sum, len_data]
                · rw [← len_data]; exact hlt
              have HMA := hide hmath
              clear hU0 hM hmath
              go_wp2_with fail
              refine (unhide HU0).mono ?_
              rintro e w9 ⟨rfl, hb9⟩
              have hp9 := hp8.below hb9 hp8.lt
              have hq9 := hq8.below hb9 hq8.lt
              have hw9 := hw8.trans (hb9.mono (by have := hp8.lt; omega))
              have hpo := fun o => (hp9.alloc o).all
              have hqo := fun o => (hq9.alloc o).all
              clear c0 c1 c2 c3' c4 c5
              have c0 := fun o => (hpo o).1.1
              have c1 := fun o => (hpo o).1.2.1
              have c2 := fun o => (hpo o).1.2.2.1
              have c3' := fun o => (hpo o).1.2.2.2.1
              have d0 := fun o => (hqo o).1.1
              have d1 := fun o => (hqo o).1.2.1
              have d2 := fun o => (hqo o).1.2.2.1
              have d3 := fun o => (hqo o).1.2.2.2.1
              have d4 := fun o => (hqo o).1.2.2.2.2.1
              have d5 := fun o => (hqo o).1.2.2.2.2.2
              clear hpo hqo hb9 hp8 hq8 hw8 heq
              generalize ustr C k2 = U at HMA ⊢
              have heq := fun w => (eqPos w W H r2 W H r2 U A B C2 A B)
              by_cases hUC : U = C2
              · have HMB := hide (unhide HMA hUC)
                subst hUC
                simp only [samePos_refl] at heq
                by_cases hCU : C = U
                · have HO : Hid ((decide (N < M) == decide (r < r2)) = true) := order_turns (by rw [unhide HK, unhide HK2, hCU]) (unhide HN) (unhide HM)
                  subst hCU
                  go_wp2_with fail
                  go_ret
                  exact ⟨ret_bool (unhide HO), hw9.alloc (by have := hp9.lt; omega) _⟩
                · have HO : Hid ((decide (N < M) == Op.bytesLess C.toList U.toList) = true) := order_cells (unhide HMB) (unhide HK) (unhide HK2) (unhide HR1) hr21 (unhide HN) (unhide HM) hCU
                  have hne : (C.toList == U.toList) = false := by
                    rw [beq_eq_false_iff_ne, Lib.toList_data, Lib.toList_data]
                    exact fun e => hCU (bytes_eq e)
                  have hne2 : ¬ C.toList = U.toList := by simpa using hne
                  go_wp2_with fail
                  go_ret
                  exact ⟨ret_bool (unhide HO), hw9.alloc (by have := hp9.lt; omega) _⟩
              · have hsf : samePos W H U r2 A B W H C2 r2 A B = false := by
                  simp only [samePos, beq_self_eq_true, Bool.true_and, Bool.and_true, Lib.toList_data]
                  rw [beq_eq_false_iff_ne]
                  exact fun e => hUC (bytes_eq e)
                simp only [hsf] at heq
                go_wp2
                go_ret
                exact ⟨rfl, hw9.alloc (by have := hp9.lt; omega) _⟩
            · have hU0 := Unrank_range (n := (M : Int)) w8 (unhide HPP) (unhide HCB) (Or.inr (by omega))
              have HU0 := hide hU0
              clear hU0 hM
              go_wp2_with fail
              refine (unhide HU0).mono ?_
              rintro e w9 ⟨rfl, hb9⟩
              have hw9 := hw8.trans (hb9.mono (by have := hp8.lt; omega))
              unfold zeroPos
              go_wp2
              go_ret
              exact ⟨rfl, hw9.alloc (by have := hp8.lt; have := hb9.size; omega) _⟩
          · have hU0 := Unrank_ok 0 0 0 w8 (unhide HPP) (unhide HCB) rfl (by omega) (by have := unhide HKL; omega)
            have HU0 := hide hU0
            clear hU0
            go_wp2_with fail
            refine (unhide HU0).mono ?_
            rintro e w9 ⟨rfl, hb9⟩
            have hw9 := hw8.trans (hb9.mono (by have := hp8.lt; omega))
            go_wp2
            go_ret
            exact ⟨rfl, hw9.alloc (by have := hp8.lt; have := hb9.size; omega) _⟩
end Go.Proofs.Ytbcedjjocpjkjaa
