/-
  board.turned, walked: the turned position, for every position and turn; of what was there nothing has turned.
  board.Check, board.turned and board.Turned, as their callers want them: for every position and every turn.
  package rules, walked: small functions; ways.
-/
import Derived.Test.YtihojhfpepbjhaaGreatDoorJ0
import Derived.Deep.AppendLies
import Derived.OwnWalk
import Derived.Deep.DeepMust
namespace Go.Proofs.YtihojhfpepbjhaaGreatDoor
open Go.RowKit
attribute [local go_sem ↓] Go.wp_at_zero Go.wp_at_succ

theorem own_below {w w1 : World} {base e size : Nat} {v : Value} {n : Nat} {xs : List Value} (h : w.ownsRow base e size v n xs) (hb : Below w.heap.size w w1) : w1.ownsRow base e size v n xs := by
  refine ⟨h.1, ?_⟩
  rcases h.2 with h0 | ⟨g, cap, cur, h1, h2, h3, h4⟩
  · exact .inl h0
  · refine .inr ⟨g, cap, cur, h1, h2, ?_, h4⟩
    rw [hb.block g ?_]
    · exact h3
    · rcases Nat.lt_or_ge g w.heap.size with hlt | hge
      · exact hlt
      · rw [Array.getElem?_eq_none hge] at h3; cases h3
theorem own_ne {w : World} {base e size : Nat} {v : Value} {n : Nat} {xs : List Value} (h : w.ownsRow base e size v n xs) {a : Nat} (ha : a < base) : some a ≠ v.ownBlock := by
  rcases h.2 with ⟨rfl, _⟩ | ⟨g, cap, cur, rfl, h2, _⟩
  · simp [Value.ownBlock]
  · simp [Value.ownBlock]; omega

theorem own_ge {w : World} {base e size : Nat} {v : Value} {n : Nat} {xs : List Value} (h : w.ownsRow base e size v n xs) : ∀ k, v.ownBlock = some k → base ≤ k := by
  intro k hk
  rcases Nat.lt_or_ge k base with h1 | h1
  · exact absurd hk.symm (own_ne h h1)
  · exact h1

theorem own_set6 {w : World} {base e size : Nat} {v : Value} {n : Nat} {xs : List Value} {b : Nat} {u0 u1 u2 u3 u4 u5 : Value} (hb : b < base) (h : w.ownsRow base e size v n xs) :
    ((((((w.setCell ⟨b, 0, none⟩ u0).setCell ⟨b, 1, none⟩ u1).setCell ⟨b, 2, none⟩ u2).setCell ⟨b, 3, none⟩ u3).setCell ⟨b, 4, none⟩ u4).setCell ⟨b, 5, none⟩ u5).ownsRow base e size v n xs :=
  ownsRow_setCell_below (ownsRow_setCell_below (ownsRow_setCell_below (ownsRow_setCell_below (ownsRow_setCell_below (ownsRow_setCell_below h hb _) hb _) hb _) hb _) hb _) hb _
theorem below_set6 {B : Nat} {a w : World} {b : Nat} {u0 u1 u2 u3 u4 u5 : Value} (hb : B ≤ b) (h : Below B a w) :
    Below B a ((((((w.setCell ⟨b, 0, none⟩ u0).setCell ⟨b, 1, none⟩ u1).setCell ⟨b, 2, none⟩ u2).setCell ⟨b, 3, none⟩ u3).setCell ⟨b, 4, none⟩ u4).setCell ⟨b, 5, none⟩ u5) :=
  (((((h.setCell (p := ⟨b, 0, none⟩) hb _).setCell (p := ⟨b, 1, none⟩) hb _).setCell (p := ⟨b, 2, none⟩) hb _).setCell (p := ⟨b, 3, none⟩) hb _).setCell (p := ⟨b, 4, none⟩) hb _).setCell (p := ⟨b, 5, none⟩) hb _

/-- 'string(b)' of a row of the call's own. -/
theorem conv_own {w : World} {base n g cap : Nat} {l : List UInt8} (h : w.ownsRow base 5 1 (.slice (some ⟨g, 0, none⟩) n cap) n (bvals l)) (hn : Hid (l.length = n)) :
    (convert 127 9 (.slice (some ⟨g, 0, none⟩) n cap)).run Tryz.prog w = .ok (.string ⟨l.toArray⟩) w := by
  have hn' := unhide hn
  subst hn'
  refine run_convert_bytes_back w 127 9 5 ⟨g, 0, none⟩ cap l Tryz.underlying127 Tryz.underlying5 Tryz.underlying9 fun j hj => ?_
  have := h.cellAt j (by omega)
  have e : (⟨g, 0, none⟩ : Addr).add j = ⟨g, 0 + j, none⟩ := by unfold Addr.add; split <;> simp_all
  rw [Nat.zero_add] at e
  rw [e, this]
  simp [bvals, hj]

theorem origin_n (W H k x y n : Nat) (T : Int) (C A B : ByteArray) (w : World) (hk : k < 8) (hW0 : 1 ≤ W) (hW1 : W ≤ 8) (hH0 : 1 ≤ H) (hH1 : H ≤ 8) (hx : x ≤ 8) (hy : y ≤ 8) (hn : Hid (srcY H k x y * W + srcX W k x y = (n : Int))) :
    Calls Tryz.prog 140 #[.agg #[.int .i64 W, .int .i64 H, .string C, .int .i64 T, .string A, .string B], .int .i64 k, .int .i64 x, .int .i64 y] w fun e w' => e = .returned (.int .i64 (n : Int)) ∧ Below w.heap.size w w' := by
  have h := origin_any W H T C A B k x y w hk (by omega) (by omega) (by omega) (by omega) (by omega) (by omega) (by omega) (by omega)
  rw [unhide hn] at h
  exact h

set_option maxHeartbeats 2000000 in
set_option maxRecDepth 100000 in
theorem turned_lo (W H k : Nat) (T : Int) (C A B : ByteArray) (w : World) (hk : k < 8) (h4 : (bits .and .i64 (k : Int) 4 != 0) = false) (hk4 : ¬ k / 4 % 2 = 1) (hW0 : 1 ≤ W) (hW1 : W ≤ 8) (hH0 : 1 ≤ H) (hH1 : H ≤ 8) (hC : C.size = W * H) (hA : A.size ≤ 8) (hB : B.size ≤ 8) :
    Calls Tryz.prog 102 #[.agg #[.int .i64 W, .int .i64 H, .string C, .int .i64 T, .string A, .string B], .int .i64 k] w fun e w' =>
      e = .returned (.agg #[.int .i64 W, .int .i64 H, .string ⟨(tcells C.data.toList W H k W (H * W)).toArray⟩, .int .i64 T, .string A, .string B]) ∧ Below w.heap.size w w' := by
  obtain ⟨i0, hi, hz0, hz1, hz2⟩ := info_parts Tryz.info5
  have HC := hide hC
  clear hC
  have hm : W * H ≤ 64 := Nat.mul_le_mul hW1 hH1
  go_enter Tryz.func102, Tryz.ntmps102
  go_wp2
  go_quiet (fail)
  go_wp2_with (at_make; go_must (refine wpList_make_own _ rfl _ _ 127 rfl (w.heap.size + 2) 5 i0 (.int .u8 0) 1 Tryz.underlying127 hi hz0 hz1 .i64 .i64 _ (W * H) rfl rfl (Int.natCast_mul W H).symm (by rw [hz2]; omega) (by unfold maxLen; omega) (by simp) ?_; intro wm hown hgrow))
  have hbm : Below (w.heap.size + 2) _ wm := (Below.refl _ _).grown hgrow (by simp) (by simp)
  have c0 : wm.cell? ⟨w.heap.size, 0, none⟩ = some (.int .i64 W) := (hbm.cell (by simp)).trans (by simp)
  have c1 : wm.cell? ⟨w.heap.size, 1, none⟩ = some (.int .i64 H) := (hbm.cell (by simp)).trans (by simp)
  have c2 : wm.cell? ⟨w.heap.size, 2, none⟩ = some (.string C) := (hbm.cell (by simp)).trans (by simp)
  have c3 : wm.cell? ⟨w.heap.size, 3, none⟩ = some (.int .i64 T) := (hbm.cell (by simp)).trans (by simp)
  have c4 : wm.cell? ⟨w.heap.size, 4, none⟩ = some (.string A) := (hbm.cell (by simp)).trans (by simp)
  have c5 : wm.cell? ⟨w.heap.size, 5, none⟩ = some (.string B) := (hbm.cell (by simp)).trans (by simp)
  have hsm : w.heap.size + 2 ≤ wm.heap.size := Nat.le_trans (by simp) hbm.size
  have hbw : Below w.heap.size w wm := Below.trans (below_drewN (((Below.refl _ _).alloc (Nat.le_refl _) _).alloc (by simp) _) _) (hbm.mono (by omega))
  have HR : Hid (∀ j, j < 6 → (∃ u, wm.cell? ⟨w.heap.size + 1, j, none⟩ = some u) ∧ wm.frozen? ⟨w.heap.size + 1, j, none⟩ = false) := by
    intro j hj
    obtain rfl | rfl | rfl | rfl | rfl | rfl : j = 0 ∨ j = 1 ∨ j = 2 ∨ j = 3 ∨ j = 4 ∨ j = 5 := by omega
    all_goals exact ⟨⟨_, (hbm.cell (by simp)).trans (by simp; rfl)⟩, (hbm.frozen (by simp)).trans (by simp)⟩
  clear hbm hgrow
  go_wp2
  go_loopw [7, 24] (fun v i wr => ∃ y : Nat, y ≤ H ∧ i = .int .i64 y ∧ wr.ownsRow (w.heap.size + 2) 5 1 v (y * W) (bvals (tcells C.data.toList W H k W (y * W))) ∧ Below (w.heap.size + 2) wm wr) (fun _ i _ => H - (intOf i).toNat)
  case atStart => exact ⟨0, Nat.zero_le _, rfl, by simpa [tcells, bvals] using hown, Below.refl _ _⟩
  case round =>
    obtain ⟨y, hy, rfl, hownr, hbr⟩ := hrel
    clear hown
    by_cases hlt : y < H
    · go_wp2
      go_loopw [7, 28] (fun v i wr => ∃ x : Nat, x ≤ W ∧ i = .int .i64 x ∧ wr.ownsRow (w.heap.size + 2) 5 1 v (y * W + x) (bvals (tcells C.data.toList W H k W (y * W + x))) ∧ Below (w.heap.size + 2) wm wr) (fun _ i _ => W - (intOf i).toNat)
      case atStart => exact ⟨0, Nat.zero_le _, rfl, hownr, hbr⟩
      case round =>
        clear hownr hbr
        obtain ⟨x, hx, rfl, hownr, hbr⟩ := hrel
        by_cases hltx : x < W
        · obtain ⟨n, hn, hsrc, htc⟩ := turned_idx C W H k W H x y (unhide HC) (by simp [hk4]) hltx hlt
          have Hsrc := hide hsrc
          have Htc := hide htc
          clear hsrc htc
          have d0 := (hbr.cell (p := ⟨w.heap.size, 0, none⟩) (by simp)).trans c0
          have d1 := (hbr.cell (p := ⟨w.heap.size, 1, none⟩) (by simp)).trans c1
          have d2 := (hbr.cell (p := ⟨w.heap.size, 2, none⟩) (by simp)).trans c2
          have d3 := (hbr.cell (p := ⟨w.heap.size, 3, none⟩) (by simp)).trans c3
          have d4 := (hbr.cell (p := ⟨w.heap.size, 4, none⟩) (by simp)).trans c4
          have d5 := (hbr.cell (p := ⟨w.heap.size, 5, none⟩) (by simp)).trans c5
          have hsz : w.heap.size + 2 ≤ wr.heap.size := Nat.le_trans hsm hbr.size
          have e0 : (0 : Int) ≤ (n : Int) := by omega
          have e1 : (n : Int) < (C.size : Int) := by omega
          have hne := own_ne hownr (show w.heap.size < w.heap.size + 2 by omega)
          have hyx : y * W + x + 1 ≤ 64 := by
            have : y * W ≤ 7 * 8 := Nat.mul_le_mul (by omega) hW1
            omega
          go_wp2
          go_region_held3 (fun w' => w'.cell? ⟨w.heap.size, 0, none⟩ = some (.int .i64 W) ∧ w'.cell? ⟨w.heap.size, 1, none⟩ = some (.int .i64 H) ∧ w'.cell? ⟨w.heap.size, 2, none⟩ = some (.string C) ∧
              w'.cell? ⟨w.heap.size, 3, none⟩ = some (.int .i64 T) ∧ w'.cell? ⟨w.heap.size, 4, none⟩ = some (.string A) ∧ w'.cell? ⟨w.heap.size, 5, none⟩ = some (.string B))
            (first
              | (go_keep; done)
              | ((try go_split_ands); (try dsimp only); (repeat' apply And.intro) <;> first
                   | (go_keep; done)
                   | (rw [hb1.cell (by dsimp only [World.drew]; omega)]; assumption)
                   | (rw [hgrow.cell_far _ (by dsimp only; simp; omega) hne]; assumption)))
            (first
              | (go_at_call 140; refine (origin_n W H k x y n T C A B _ hk hW0 hW1 hH0 hH1 (by omega) (by omega) Hsrc).mono ?_; rintro e w1 ⟨rfl, hb1⟩; have hs1 : wr.heap.size ≤ w1.heap.size := hb1.size)
              | (refine step_append_lies _ (by rfl) _ _ _ (by rfl) (w.heap.size + 2) 5 i0 (.int .u8 0) 1 1 Tryz.underlying127 hi hz0 hz1 hz2 rfl (by omega) _ (y * W + x) (bvals (tcells C.data.toList W H k W (y * W + x))) (by rfl) ((own_below (hownr.drew) hb1).alloc _)
                  ⟨w1.heap.size, 0, none⟩ 1 1 [.int .u8 (C[n].toNat : Int)] (by rfl) (by rfl) (World.news_of_block (cs := #[.int .u8 (C[n].toNat : Int)]) (t := 5) (fr := (0, 0)) (heap_alloc_new w1 _)) (by simp [Value.oneCell'])
                  (by omega) (by unfold maxLen; omega) (by omega) (by have := hb1.size; simp at this ⊢; omega) (w1.heap.size + 1) (by simp) ?_; intro g cap w2 hown2 hgrow hat hlt2))
          have R1 : w2.ownsRow (w.heap.size + 2) 5 1 (.slice (some ⟨g, 0, none⟩) (y * W + x + 1) cap) (y * W + x + 1) (bvals (tcells C.data.toList W H k W (y * W + x + 1))) := by
            rw [tcells_succ, bvals_snoc, unhide Htc]; exact hown2
          have R2 : Below (w.heap.size + 2) wm w2 := ((hbr.drew.trans (hb1.mono (by dsimp only [World.drew]; omega))).alloc (by omega) _).grown hgrow (by simp; omega) (own_ge hownr)
          clear hown2 hgrow hb1 d0 d1 d2 d3 d4 d5 c0 c1 c2 c3 c4 c5 hownr hbr
          go_wp2
          go_roundw
          case rel => exact ⟨x + 1, by omega, by go_num, R1, R2⟩
          case measure => simp [intOf]; omega
        · have R1 : wr.ownsRow (w.heap.size + 2) 5 1 u7 ((y + 1) * W) (bvals (tcells C.data.toList W H k W ((y + 1) * W))) := by
            have e : x = W := by omega
            rw [Nat.succ_mul]; rw [e] at hownr; exact hownr
          clear hownr
          go_wp2
          go_roundw
          case rel => exact ⟨y + 1, by omega, by go_num, R1, hbr⟩
          case measure => simp [intOf]; omega
    · obtain rfl : y = H := by omega
      have hpos : 0 < y * W := Nat.mul_pos (by omega) (by omega)
      have hle : y * W ≤ 64 := by rw [Nat.mul_comm]; exact hm
      obtain ⟨g, cap, hv, hg1, hg2⟩ := hownr.form hpos
      subst hv
      obtain ⟨L, hL⟩ : ∃ L, L = tcells C.data.toList W y k W (y * W) := ⟨_, rfl⟩
      have hLl : L.length = y * W := by rw [hL, tcells_length]
      rw [← hL] at hownr
      have HL := hide hL
      have HLl := hide hLl
      clear hL hLl
      have d3 := (hbr.cell (p := ⟨w.heap.size, 3, none⟩) (by simp)).trans c3
      have d4 := (hbr.cell (p := ⟨w.heap.size, 4, none⟩) (by simp)).trans c4
      have d5 := (hbr.cell (p := ⟨w.heap.size, 5, none⟩) (by simp)).trans c5
      have hsz : w.heap.size + 2 ≤ wr.heap.size := Nat.le_trans hsm hbr.size
      have hbw2 := hbw.trans (hbr.mono (by omega))
      obtain ⟨⟨u_0, r0⟩, f0⟩ := unhide HR 0 (by omega)
      have r0' := (hbr.cell (p := ⟨w.heap.size + 1, 0, none⟩) (by simp)).trans r0
      have f0' := (hbr.frozen (p := ⟨w.heap.size + 1, 0, none⟩) (by simp)).trans f0
      obtain ⟨⟨u_1, r1⟩, f1⟩ := unhide HR 1 (by omega)
      have r1' := (hbr.cell (p := ⟨w.heap.size + 1, 1, none⟩) (by simp)).trans r1
      have f1' := (hbr.frozen (p := ⟨w.heap.size + 1, 1, none⟩) (by simp)).trans f1
      obtain ⟨⟨u_2, r2⟩, f2⟩ := unhide HR 2 (by omega)
      have r2' := (hbr.cell (p := ⟨w.heap.size + 1, 2, none⟩) (by simp)).trans r2
      have f2' := (hbr.frozen (p := ⟨w.heap.size + 1, 2, none⟩) (by simp)).trans f2
      obtain ⟨⟨u_3, r3⟩, f3⟩ := unhide HR 3 (by omega)
      have r3' := (hbr.cell (p := ⟨w.heap.size + 1, 3, none⟩) (by simp)).trans r3
      have f3' := (hbr.frozen (p := ⟨w.heap.size + 1, 3, none⟩) (by simp)).trans f3
      obtain ⟨⟨u_4, r4⟩, f4⟩ := unhide HR 4 (by omega)
      have r4' := (hbr.cell (p := ⟨w.heap.size + 1, 4, none⟩) (by simp)).trans r4
      have f4' := (hbr.frozen (p := ⟨w.heap.size + 1, 4, none⟩) (by simp)).trans f4
      obtain ⟨⟨u_5, r5⟩, f5⟩ := unhide HR 5 (by omega)
      have r5' := (hbr.cell (p := ⟨w.heap.size + 1, 5, none⟩) (by simp)).trans r5
      have f5' := (hbr.frozen (p := ⟨w.heap.size + 1, 5, none⟩) (by simp)).trans f5
      clear c0 c1 c2 c3 c4 c5 hbw r0 r1 r2 r3 r4 r5 f0 f1 f2 f3 f4 f5
      go_wp2
      go_region_held3 (fun w' => w'.cell? ⟨w.heap.size, 3, none⟩ = some (.int .i64 T) ∧ w'.cell? ⟨w.heap.size, 4, none⟩ = some (.string A) ∧ w'.cell? ⟨w.heap.size, 5, none⟩ = some (.string B) ∧
          (convert 127 9 (.slice (some ⟨g, 0, none⟩) (y * W) cap)).run Tryz.prog w' = .ok (.string ⟨L.toArray⟩) w')
        ((try go_split_ands
          try dsimp only
          refine ⟨?_, ?_, ?_, ?_⟩
          · (first | (go_keep; done) | (rw [hb1.cell (by dsimp only [World.drew]; omega)]; assumption))
          · (first | (go_keep; done) | (rw [hb1.cell (by dsimp only [World.drew]; omega)]; assumption))
          · (first | (go_keep; done) | (rw [hb1.cell (by dsimp only [World.drew]; omega)]; assumption))
          · (refine conv_own (base := w.heap.size + 2) ?_ HLl; first | with_reducible exact hownr.drew | with_reducible exact own_below hownr.drew hb1 | with_reducible exact own_set6 (by omega) (own_below hownr.drew hb1))))
        (first
          | (go_at_call 141; refine (copied_any A B _ hA hB).mono ?_; rintro e w1 ⟨rfl, hb1⟩; have hs1 : wr.heap.size ≤ w1.heap.size := hb1.size; have q0 := (hb1.cell (p := ⟨w.heap.size + 1, 0, none⟩) (by dsimp only [World.drew]; omega)).trans r0'; have z0 := (hb1.frozen (p := ⟨w.heap.size + 1, 0, none⟩) (by dsimp only [World.drew]; omega)).trans f0'; have q1 := (hb1.cell (p := ⟨w.heap.size + 1, 1, none⟩) (by dsimp only [World.drew]; omega)).trans r1'; have z1 := (hb1.frozen (p := ⟨w.heap.size + 1, 1, none⟩) (by dsimp only [World.drew]; omega)).trans f1'; have q2 := (hb1.cell (p := ⟨w.heap.size + 1, 2, none⟩) (by dsimp only [World.drew]; omega)).trans r2'; have z2 := (hb1.frozen (p := ⟨w.heap.size + 1, 2, none⟩) (by dsimp only [World.drew]; omega)).trans f2'; have q3 := (hb1.cell (p := ⟨w.heap.size + 1, 3, none⟩) (by dsimp only [World.drew]; omega)).trans r3'; have z3 := (hb1.frozen (p := ⟨w.heap.size + 1, 3, none⟩) (by dsimp only [World.drew]; omega)).trans f3'; have q4 := (hb1.cell (p := ⟨w.heap.size + 1, 4, none⟩) (by dsimp only [World.drew]; omega)).trans r4'; have z4 := (hb1.frozen (p := ⟨w.heap.size + 1, 4, none⟩) (by dsimp only [World.drew]; omega)).trans f4'; have q5 := (hb1.cell (p := ⟨w.heap.size + 1, 5, none⟩) (by dsimp only [World.drew]; omega)).trans r5'; have z5 := (hb1.frozen (p := ⟨w.heap.size + 1, 5, none⟩) (by dsimp only [World.drew]; omega)).trans f5'))
      go_wp2
      refine bodyPost_ret (v := .agg #[.int .i64 W, .int .i64 y, .string ⟨L.toArray⟩, .int .i64 T, .string A, .string B]) (by simp [results, Tryz.results102, go_sem, q0, q1, q2, q3, q4, q5]) rfl ⟨by rw [unhide HL], ?_⟩
      exact below_set6 (by omega) (hbw2.drew.trans (hb1.mono (by dsimp only [World.drew]; omega)))
set_option maxHeartbeats 2000000 in
set_option maxRecDepth 100000 in
theorem turned_hi (W H k : Nat) (T : Int) (C A B : ByteArray) (w : World) (hk : k < 8) (h4 : (bits .and .i64 (k : Int) 4 != 0) = true) (hk4 : k / 4 % 2 = 1) (hW0 : 1 ≤ W) (hW1 : W ≤ 8) (hH0 : 1 ≤ H) (hH1 : H ≤ 8) (hC : C.size = W * H) (hA : A.size ≤ 8) (hB : B.size ≤ 8) :
    Calls Tryz.prog 102 #[.agg #[.int .i64 W, .int .i64 H, .string C, .int .i64 T, .string A, .string B], .int .i64 k] w fun e w' =>
      e = .returned (.agg #[.int .i64 H, .int .i64 W, .string ⟨(tcells C.data.toList W H k H (W * H)).toArray⟩, .int .i64 T, .string A, .string B]) ∧ Below w.heap.size w w' := by
  obtain ⟨i0, hi, hz0, hz1, hz2⟩ := info_parts Tryz.info5
  have HC := hide hC
  clear hC
  have hm : H * W ≤ 64 := Nat.mul_le_mul hH1 hW1
  go_enter Tryz.func102, Tryz.ntmps102
  go_wp2
  go_quiet (fail)
  go_wp2_with (at_make; go_must (refine wpList_make_own _ rfl _ _ 127 rfl (w.heap.size + 2) 5 i0 (.int .u8 0) 1 Tryz.underlying127 hi hz0 hz1 .i64 .i64 _ (H * W) rfl rfl (Int.natCast_mul H W).symm (by rw [hz2]; omega) (by unfold maxLen; omega) (by simp) ?_; intro wm hown hgrow))
  have hbm : Below (w.heap.size + 2) _ wm := (Below.refl _ _).grown hgrow (by simp) (by simp)
  have c0 : wm.cell? ⟨w.heap.size, 0, none⟩ = some (.int .i64 W) := (hbm.cell (by simp)).trans (by simp)
  have c1 : wm.cell? ⟨w.heap.size, 1, none⟩ = some (.int .i64 H) := (hbm.cell (by simp)).trans (by simp)
  have c2 : wm.cell? ⟨w.heap.size, 2, none⟩ = some (.string C) := (hbm.cell (by simp)).trans (by simp)
  have c3 : wm.cell? ⟨w.heap.size, 3, none⟩ = some (.int .i64 T) := (hbm.cell (by simp)).trans (by simp)
  have c4 : wm.cell? ⟨w.heap.size, 4, none⟩ = some (.string A) := (hbm.cell (by simp)).trans (by simp)
  have c5 : wm.cell? ⟨w.heap.size, 5, none⟩ = some (.string B) := (hbm.cell (by simp)).trans (by simp)
  have hsm : w.heap.size + 2 ≤ wm.heap.size := Nat.le_trans (by simp) hbm.size
  have hbw : Below w.heap.size w wm := Below.trans (below_drewN (((Below.refl _ _).alloc (Nat.le_refl _) _).alloc (by simp) _) _) (hbm.mono (by omega))
  have HR : Hid (∀ j, j < 6 → (∃ u, wm.cell? ⟨w.heap.size + 1, j, none⟩ = some u) ∧ wm.frozen? ⟨w.heap.size + 1, j, none⟩ = false) := by
    intro j hj
    obtain rfl | rfl | rfl | rfl | rfl | rfl : j = 0 ∨ j = 1 ∨ j = 2 ∨ j = 3 ∨ j = 4 ∨ j = 5 := by omega
    all_goals exact ⟨⟨_, (hbm.cell (by simp)).trans (by simp; rfl)⟩, (hbm.frozen (by simp)).trans (by simp)⟩
  clear hbm hgrow
  go_wp2
  go_loopw [7, 24] (fun v i wr => ∃ y : Nat, y ≤ W ∧ i = .int .i64 y ∧ wr.ownsRow (w.heap.size + 2) 5 1 v (y * H) (bvals (tcells C.data.toList W H k H (y * H))) ∧ Below (w.heap.size + 2) wm wr) (fun _ i _ => W - (intOf i).toNat)
  case atStart => exact ⟨0, Nat.zero_le _, rfl, by simpa [tcells, bvals] using hown, Below.refl _ _⟩
  case round =>
    obtain ⟨y, hy, rfl, hownr, hbr⟩ := hrel
    clear hown
    by_cases hlt : y < W
    · go_wp2
      go_loopw [7, 28] (fun v i wr => ∃ x : Nat, x ≤ H ∧ i = .int .i64 x ∧ wr.ownsRow (w.heap.size + 2) 5 1 v (y * H + x) (bvals (tcells C.data.toList W H k H (y * H + x))) ∧ Below (w.heap.size + 2) wm wr) (fun _ i _ => H - (intOf i).toNat)
      case atStart => exact ⟨0, Nat.zero_le _, rfl, hownr, hbr⟩
      case round =>
        clear hownr hbr
        obtain ⟨x, hx, rfl, hownr, hbr⟩ := hrel
        by_cases hltx : x < H
        · obtain ⟨n, hn, hsrc, htc⟩ := turned_idx C W H k H W x y (unhide HC) (by simp [hk4]) hltx hlt
          have Hsrc := hide hsrc
          have Htc := hide htc
          clear hsrc htc
          have d0 := (hbr.cell (p := ⟨w.heap.size, 0, none⟩) (by simp)).trans c0
          have d1 := (hbr.cell (p := ⟨w.heap.size, 1, none⟩) (by simp)).trans c1
          have d2 := (hbr.cell (p := ⟨w.heap.size, 2, none⟩) (by simp)).trans c2
          have d3 := (hbr.cell (p := ⟨w.heap.size, 3, none⟩) (by simp)).trans c3
          have d4 := (hbr.cell (p := ⟨w.heap.size, 4, none⟩) (by simp)).trans c4
          have d5 := (hbr.cell (p := ⟨w.heap.size, 5, none⟩) (by simp)).trans c5
          have hsz : w.heap.size + 2 ≤ wr.heap.size := Nat.le_trans hsm hbr.size
          have e0 : (0 : Int) ≤ (n : Int) := by omega
          have e1 : (n : Int) < (C.size : Int) := by omega
          have hne := own_ne hownr (show w.heap.size < w.heap.size + 2 by omega)
          have hyx : y * H + x + 1 ≤ 64 := by
            have : y * H ≤ 7 * 8 := Nat.mul_le_mul (by omega) hH1
            omega
          go_wp2
          go_region_held3 (fun w' => w'.cell? ⟨w.heap.size, 0, none⟩ = some (.int .i64 W) ∧ w'.cell? ⟨w.heap.size, 1, none⟩ = some (.int .i64 H) ∧ w'.cell? ⟨w.heap.size, 2, none⟩ = some (.string C) ∧
              w'.cell? ⟨w.heap.size, 3, none⟩ = some (.int .i64 T) ∧ w'.cell? ⟨w.heap.size, 4, none⟩ = some (.string A) ∧ w'.cell? ⟨w.heap.size, 5, none⟩ = some (.string B))
            (first
              | (go_keep; done)
              | ((try go_split_ands); (try dsimp only); (repeat' apply And.intro) <;> first
                   | (go_keep; done)
                   | (rw [hb1.cell (by dsimp only [World.drew]; omega)]; assumption)
                   | (rw [hgrow.cell_far _ (by dsimp only; simp; omega) hne]; assumption)))
            (first
              | (go_at_call 140; refine (origin_n W H k x y n T C A B _ hk hW0 hW1 hH0 hH1 (by omega) (by omega) Hsrc).mono ?_; rintro e w1 ⟨rfl, hb1⟩; have hs1 : wr.heap.size ≤ w1.heap.size := hb1.size)
              | (refine step_append_lies _ (by rfl) _ _ _ (by rfl) (w.heap.size + 2) 5 i0 (.int .u8 0) 1 1 Tryz.underlying127 hi hz0 hz1 hz2 rfl (by omega) _ (y * H + x) (bvals (tcells C.data.toList W H k H (y * H + x))) (by rfl) ((own_below (hownr.drew) hb1).alloc _)
                  ⟨w1.heap.size, 0, none⟩ 1 1 [.int .u8 (C[n].toNat : Int)] (by rfl) (by rfl) (World.news_of_block (cs := #[.int .u8 (C[n].toNat : Int)]) (t := 5) (fr := (0, 0)) (heap_alloc_new w1 _)) (by simp [Value.oneCell'])
                  (by omega) (by unfold maxLen; omega) (by omega) (by have := hb1.size; simp at this ⊢; omega) (w1.heap.size + 1) (by simp) ?_; intro g cap w2 hown2 hgrow hat hlt2))
          have R1 : w2.ownsRow (w.heap.size + 2) 5 1 (.slice (some ⟨g, 0, none⟩) (y * H + x + 1) cap) (y * H + x + 1) (bvals (tcells C.data.toList W H k H (y * H + x + 1))) := by
            rw [tcells_succ, bvals_snoc, unhide Htc]; exact hown2
          have R2 : Below (w.heap.size + 2) wm w2 := ((hbr.drew.trans (hb1.mono (by dsimp only [World.drew]; omega))).alloc (by omega) _).grown hgrow (by simp; omega) (own_ge hownr)
          clear hown2 hgrow hb1 d0 d1 d2 d3 d4 d5 c0 c1 c2 c3 c4 c5 hownr hbr
          go_wp2
          go_roundw
          case rel => exact ⟨x + 1, by omega, by go_num, R1, R2⟩
          case measure => simp [intOf]; omega
        · have R1 : wr.ownsRow (w.heap.size + 2) 5 1 u7 ((y + 1) * H) (bvals (tcells C.data.toList W H k H ((y + 1) * H))) := by
            have e : x = H := by omega
            rw [Nat.succ_mul]; rw [e] at hownr; exact hownr
          clear hownr
          go_wp2
          go_roundw
          case rel => exact ⟨y + 1, by omega, by go_num, R1, hbr⟩
          case measure => simp [intOf]; omega
    · obtain rfl : y = W := by omega
      have hpos : 0 < y * H := Nat.mul_pos (by omega) (by omega)
      have hle : y * H ≤ 64 := by rw [Nat.mul_comm]; exact hm
      obtain ⟨g, cap, hv, hg1, hg2⟩ := hownr.form hpos
      subst hv
      obtain ⟨L, hL⟩ : ∃ L, L = tcells C.data.toList y H k H (y * H) := ⟨_, rfl⟩
      have hLl : L.length = y * H := by rw [hL, tcells_length]
      rw [← hL] at hownr
      have HL := hide hL
      have HLl := hide hLl
      clear hL hLl
      have d3 := (hbr.cell (p := ⟨w.heap.size, 3, none⟩) (by simp)).trans c3
      have d4 := (hbr.cell (p := ⟨w.heap.size, 4, none⟩) (by simp)).trans c4
      have d5 := (hbr.cell (p := ⟨w.heap.size, 5, none⟩) (by simp)).trans c5
      have hsz : w.heap.size + 2 ≤ wr.heap.size := Nat.le_trans hsm hbr.size
      have hbw2 := hbw.trans (hbr.mono (by omega))
      obtain ⟨⟨u_0, r0⟩, f0⟩ := unhide HR 0 (by omega)
      have r0' := (hbr.cell (p := ⟨w.heap.size + 1, 0, none⟩) (by simp)).trans r0
      have f0' := (hbr.frozen (p := ⟨w.heap.size + 1, 0, none⟩) (by simp)).trans f0
      obtain ⟨⟨u_1, r1⟩, f1⟩ := unhide HR 1 (by omega)
      have r1' := (hbr.cell (p := ⟨w.heap.size + 1, 1, none⟩) (by simp)).trans r1
      have f1' := (hbr.frozen (p := ⟨w.heap.size + 1, 1, none⟩) (by simp)).trans f1
      obtain ⟨⟨u_2, r2⟩, f2⟩ := unhide HR 2 (by omega)
      have r2' := (hbr.cell (p := ⟨w.heap.size + 1, 2, none⟩) (by simp)).trans r2
      have f2' := (hbr.frozen (p := ⟨w.heap.size + 1, 2, none⟩) (by simp)).trans f2
      obtain ⟨⟨u_3, r3⟩, f3⟩ := unhide HR 3 (by omega)
      have r3' := (hbr.cell (p := ⟨w.heap.size + 1, 3, none⟩) (by simp)).trans r3
      have f3' := (hbr.frozen (p := ⟨w.heap.size + 1, 3, none⟩) (by simp)).trans f3
      obtain ⟨⟨u_4, r4⟩, f4⟩ := unhide HR 4 (by omega)
      have r4' := (hbr.cell (p := ⟨w.heap.size + 1, 4, none⟩) (by simp)).trans r4
      have f4' := (hbr.frozen (p := ⟨w.heap.size + 1, 4, none⟩) (by simp)).trans f4
      obtain ⟨⟨u_5, r5⟩, f5⟩ := unhide HR 5 (by omega)
      have r5' := (hbr.cell (p := ⟨w.heap.size + 1, 5, none⟩) (by simp)).trans r5
      have f5' := (hbr.frozen (p := ⟨w.heap.size + 1, 5, none⟩) (by simp)).trans f5
      clear c0 c1 c2 c3 c4 c5 hbw r0 r1 r2 r3 r4 r5 f0 f1 f2 f3 f4 f5
      go_wp2
      go_region_held3 (fun w' => w'.cell? ⟨w.heap.size, 3, none⟩ = some (.int .i64 T) ∧ w'.cell? ⟨w.heap.size, 4, none⟩ = some (.string A) ∧ w'.cell? ⟨w.heap.size, 5, none⟩ = some (.string B) ∧
          (convert 127 9 (.slice (some ⟨g, 0, none⟩) (y * H) cap)).run Tryz.prog w' = .ok (.string ⟨L.toArray⟩) w')
        ((try go_split_ands
          try dsimp only
          refine ⟨?_, ?_, ?_, ?_⟩
          · (first | (go_keep; done) | (rw [hb1.cell (by dsimp only [World.drew]; omega)]; assumption))
          · (first | (go_keep; done) | (rw [hb1.cell (by dsimp only [World.drew]; omega)]; assumption))
          · (first | (go_keep; done) | (rw [hb1.cell (by dsimp only [World.drew]; omega)]; assumption))
          · (refine conv_own (base := w.heap.size + 2) ?_ HLl; first | with_reducible exact hownr.drew | with_reducible exact own_below hownr.drew hb1 | with_reducible exact own_set6 (by omega) (own_below hownr.drew hb1))))
        (first
          | (go_at_call 141; refine (copied_any A B _ hA hB).mono ?_; rintro e w1 ⟨rfl, hb1⟩; have hs1 : wr.heap.size ≤ w1.heap.size := hb1.size; have q0 := (hb1.cell (p := ⟨w.heap.size + 1, 0, none⟩) (by dsimp only [World.drew]; omega)).trans r0'; have z0 := (hb1.frozen (p := ⟨w.heap.size + 1, 0, none⟩) (by dsimp only [World.drew]; omega)).trans f0'; have q1 := (hb1.cell (p := ⟨w.heap.size + 1, 1, none⟩) (by dsimp only [World.drew]; omega)).trans r1'; have z1 := (hb1.frozen (p := ⟨w.heap.size + 1, 1, none⟩) (by dsimp only [World.drew]; omega)).trans f1'; have q2 := (hb1.cell (p := ⟨w.heap.size + 1, 2, none⟩) (by dsimp only [World.drew]; omega)).trans r2'; have z2 := (hb1.frozen (p := ⟨w.heap.size + 1, 2, none⟩) (by dsimp only [World.drew]; omega)).trans f2'; have q3 := (hb1.cell (p := ⟨w.heap.size + 1, 3, none⟩) (by dsimp only [World.drew]; omega)).trans r3'; have z3 := (hb1.frozen (p := ⟨w.heap.size + 1, 3, none⟩) (by dsimp only [World.drew]; omega)).trans f3'; have q4 := (hb1.cell (p := ⟨w.heap.size + 1, 4, none⟩) (by dsimp only [World.drew]; omega)).trans r4'; have z4 := (hb1.frozen (p := ⟨w.heap.size + 1, 4, none⟩) (by dsimp only [World.drew]; omega)).trans f4'; have q5 := (hb1.cell (p := ⟨w.heap.size + 1, 5, none⟩) (by dsimp only [World.drew]; omega)).trans r5'; have z5 := (hb1.frozen (p := ⟨w.heap.size + 1, 5, none⟩) (by dsimp only [World.drew]; omega)).trans f5'))
      go_wp2
      refine bodyPost_ret (v := .agg #[.int .i64 H, .int .i64 y, .string ⟨L.toArray⟩, .int .i64 T, .string A, .string B]) (by simp [results, Tryz.results102, go_sem, q0, q1, q2, q3, q4, q5]) rfl ⟨by rw [unhide HL], ?_⟩
      exact below_set6 (by omega) (hbw2.drew.trans (hb1.mono (by dsimp only [World.drew]; omega)))
end Go.Proofs.YtihojhfpepbjhaaGreatDoor

namespace Go.Proofs.YtihojhfpepbjhaaGreatDoor
open Go.RowKit

theorem Check_ok (W H T : Int) (C A B : ByteArray) (w : World) (hC : C.size ≤ maxLen) (hA : A.size ≤ maxLen) (hB : B.size ≤ maxLen) (h : posB W H C.data.toList T A.data.toList B.data.toList = true) :
    Calls Tryz.prog 53 #[.agg #[.int .i64 W, .int .i64 H, .string C, .int .i64 T, .string A, .string B]] w fun e w' => e = .returned (.int .i64 0) ∧ Below w.heap.size w w' := by
  have := Check_any W H T C A B w hC hA hB
  rw [h] at this
  exact this
/-- A position's facts, in numbers. -/
structure IsPos (W H : Nat) (C : ByteArray) (T : Int) (A B : ByteArray) : Prop where
  w0 : 1 ≤ W
  w1 : W ≤ 8
  h0 : 1 ≤ H
  h1 : H ≤ 8
  c : C.size = W * H
  cs : cellsB C.data.toList = true
  t : T = 0 ∨ T = 1
  a : handB A.data.toList = true
  b : handB B.data.toList = true
theorem handB_size {A : ByteArray} (h : handB A.data.toList = true) : A.size ≤ 8 := by
  simp only [handB, Bool.and_eq_true, decide_eq_true_eq, len_data] at h
  exact h.1
theorem IsPos.as {W H : Nat} {C : ByteArray} {T : Int} {A B : ByteArray} (p : IsPos W H C T A B) : A.size ≤ 8 := handB_size p.a
theorem IsPos.bs {W H : Nat} {C : ByteArray} {T : Int} {A B : ByteArray} (p : IsPos W H C T A B) : B.size ≤ 8 := handB_size p.b
theorem IsPos.c64 {W H : Nat} {C : ByteArray} {T : Int} {A B : ByteArray} (p : IsPos W H C T A B) : C.size ≤ 64 := by
  rw [p.c]; exact Nat.mul_le_mul p.w1 p.h1
theorem IsPos.posB {W H : Nat} {C : ByteArray} {T : Int} {A B : ByteArray} (p : IsPos W H C T A B) : posB W H C.data.toList T A.data.toList B.data.toList = true := by
  have hc : (C.size : Int) = (W : Int) * H := by rw [p.c]; simp
  have := p.w0; have := p.w1; have := p.h0; have := p.h1
  simp only [YtihojhfpepbjhaaGreatDoor.posB, sideB, len_data, p.cs, p.a, p.b, hc, Bool.and_eq_true, Bool.or_eq_true, decide_eq_true_eq, and_true]
  refine ⟨⟨⟨?_, ?_⟩, ?_⟩, ?_⟩
  all_goals first | exact p.t | omega
def twd (W H k : Nat) : Nat := if k / 4 % 2 = 1 then H else W
def thd (W H k : Nat) : Nat := if k / 4 % 2 = 1 then W else H
def tstr (C : ByteArray) (W H k : Nat) : ByteArray := ⟨(tcells C.data.toList W H k (twd W H k) (W * H)).toArray⟩

theorem and4 : ∀ k : Nat, k < 8 → (bits .and .i64 (k : Int) 4 != 0) = decide (k / 4 % 2 = 1) := by decide +kernel

theorem turned_any {W H k : Nat} {T : Int} {C A B : ByteArray} (w : World) (hk : k < 8) (p : IsPos W H C T A B) :
    Calls Tryz.prog 102 #[.agg #[.int .i64 W, .int .i64 H, .string C, .int .i64 T, .string A, .string B], .int .i64 k] w fun e w' =>
      e = .returned (.agg #[.int .i64 (twd W H k : Nat), .int .i64 (thd W H k : Nat), .string (tstr C W H k), .int .i64 T, .string A, .string B]) ∧ Below w.heap.size w w' := by
  by_cases h : k / 4 % 2 = 1
  · have := turned_hi W H k T C A B w hk (by rw [and4 k hk]; simpa using h) h p.w0 p.w1 p.h0 p.h1 p.c p.as p.bs
    simpa [twd, thd, tstr, h] using this
  · have := turned_lo W H k T C A B w hk (by rw [and4 k hk]; simpa using h) h p.w0 p.w1 p.h0 p.h1 p.c p.as p.bs
    rw [Nat.mul_comm H W] at this
    simpa [twd, thd, tstr, h] using this

theorem bcell {W w1 : World} (hb : Below W.heap.size W w1) : (∀ b o, b < W.heap.size → w1.cell? ⟨b, o, none⟩ = W.cell? ⟨b, o, none⟩) ∧ (∀ b o, b < W.heap.size → w1.frozen? ⟨b, o, none⟩ = W.frozen? ⟨b, o, none⟩) :=
  ⟨fun b o h => hb.cell (p := ⟨b, o, none⟩) h, fun b o h => hb.frozen (p := ⟨b, o, none⟩) h⟩

set_option maxHeartbeats 1000000 in
theorem Turned_ok {W H k : Nat} {T : Int} {C A B : ByteArray} (w : World) (hk : k < 8) (p : IsPos W H C T A B) :
    Calls Tryz.prog 57 #[.agg #[.int .i64 W, .int .i64 H, .string C, .int .i64 T, .string A, .string B], .int .i64 k] w fun e w' =>
      e = .returned (.tuple #[.agg #[.int .i64 (twd W H k : Nat), .int .i64 (thd W H k : Nat), .string (tstr C W H k), .int .i64 T, .string A, .string B], .int .i64 0]) ∧ Below w.heap.size w w' := by
  have mC : C.size ≤ maxLen := by have := p.c64; unfold maxLen; omega
  have mA : A.size ≤ maxLen := by have := p.as; unfold maxLen; omega
  have mB : B.size ≤ maxLen := by have := p.bs; unfold maxLen; omega
  have hP := p.posB
  have HP := hide hP
  have htb : turnB (k : Int) = true := by unfold turnB; simp; omega
  clear hP
  go_enter Tryz.func57, Tryz.ntmps57
  go_wp2_with fail
  refine (Check_ok _ _ _ _ _ _ _ mC mA mB (unhide HP)).mono ?_
  rintro e w1 ⟨rfl, hb1⟩
  have hz : w.heap.size + 1 < w1.heap.size := by have := hb1.size; simp at this; omega
  obtain ⟨hc1, hf1⟩ := bcell hb1
  go_wp2_with (go_at_call 101; refine (isTurn_any _ _).mono ?_; rintro e w' ⟨rfl, rfl⟩)
  refine (turned_any _ hk p).mono ?_
  rintro e w2 ⟨rfl, hb2⟩
  obtain ⟨hc2, hf2⟩ := bcell hb2
  go_wp2
  refine bodyPost_ret (v := .tuple #[.agg #[.int .i64 (twd W H k : Nat), .int .i64 (thd W H k : Nat), .string (tstr C W H k), .int .i64 T, .string A, .string B], .int .i64 0]) (by simp [results, Tryz.results57, go_sem, hc2, hz, hc1]) rfl ⟨rfl, ?_⟩
  exact below_set6 (by omega) (Below.trans (Below.trans (((Below.refl _ _).alloc (Nat.le_refl _) _).alloc (by simp) _) (hb1.mono (by simp; omega))) (hb2.mono (by omega)))

end Go.Proofs.YtihojhfpepbjhaaGreatDoor

namespace Go.Proofs.YtihojhfpepbjhaaGreatDoor
open Go.RowKit
attribute [local go_sem ↓] Go.wp_at_zero Go.wp_at_succ

/-- A way. -/
structure Wy where
  k : Int
  x : Int
  y : Int
  t : Int
def Wy.v (z : Wy) : Value := .agg #[.int .i64 z.k, .int .i64 z.x, .int .i64 z.y, .int .i64 z.t]
def inB (n a b : Int) : Bool := decide (a ≤ n) && decide (n ≤ b)
/-- P6: is it one? -/
def Wy.ok (z : Wy) : Bool := inB z.x 0 7 && inB z.y 0 7 && !(decide (z.x = 0) && decide (z.y = 0)) && (decide (z.t = 0) || decide (z.t = 1) || decide (z.t = 2)) && (((decide (z.k = 1) || decide (z.k = 2)) && decide (z.x ≤ z.y)) || decide (z.k = 3))

set_option maxHeartbeats 400000 in
theorem isWithin_any (n a b : Int) (w : World) :
    Calls Tryz.prog 56 #[.int .i64 n, .int .i64 a, .int .i64 b] w fun e w' => e = .returned (.bool (inB n a b)) ∧ w' = w := by
  go_enter Tryz.func56, Tryz.ntmps56
  go_wp2
  all_goals go_ret
  all_goals refine ⟨ret_bool ?_, rfl⟩
  all_goals (unfold inB; simp; try omega)

set_option maxHeartbeats 400000 in
theorem rCapital_any (c : Int) (w : World) :
    Calls Tryz.prog 136 #[.int .u8 c] w fun e w' => e = .returned (.bool (capB c)) ∧ w' = w := by
  go_enter Tryz.func136, Tryz.ntmps136
  go_wp2
  all_goals go_ret
  all_goals refine ⟨ret_bool ?_, rfl⟩
  all_goals (unfold capB; simp; try omega)

set_option maxHeartbeats 1000000 in
theorem isWay_any (z : Wy) (w : World) :
    Calls Tryz.prog 137 #[z.v] w fun e w' => e = .returned (.bool z.ok) ∧ Below w.heap.size w w' := by
  obtain ⟨k, x, y, t⟩ := z
  unfold Wy.v
  dsimp only
  go_enter Tryz.func137, Tryz.ntmps137
  go_wp2_with (go_at_call 56; refine (isWithin_any _ _ _ _).mono ?_; rintro e w' ⟨rfl, rfl⟩)
  all_goals go_ret
  all_goals refine ⟨ret_bool ?_, (Below.refl _ w).alloc (Nat.le_refl _) _⟩
  all_goals (rw [Bool.eq_iff_iff]; simp_all [Wy.ok, inB]; try omega)
end Go.Proofs.YtihojhfpepbjhaaGreatDoor
