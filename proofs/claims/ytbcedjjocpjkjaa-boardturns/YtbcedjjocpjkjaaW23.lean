/-
  gameref.Round, walked: the turned position, the same as board.turned gives: columns and rows changed; all eight turns.
-/
import Derived.Test.YtbcedjjocpjkjaaW22
namespace Go.Proofs.Ytbcedjjocpjkjaa
open Go.RowKit
attribute [local go_sem ↓] Go.wp_at_zero Go.wp_at_succ

set_option maxHeartbeats 1000000 in
set_option maxRecDepth 100000 in
theorem round_4 {W H : Nat} {T : Int} {C A B : ByteArray} (w : World) (p : IsPos W H C T A B) :
    Calls Try.prog 19 #[.agg #[.int .i64 W, .int .i64 H, .string C, .int .i64 T, .string A, .string B], .int .i64 4] w fun e w' =>
      e = .returned (.agg #[.int .i64 H, .int .i64 W, .string (tstr C W H 4), .int .i64 T, .string A, .string B]) ∧ Below w.heap.size w w' := by
  obtain ⟨i0, hi, hz0, hz1, hz2⟩ := info_parts Try.info5
  have h64 := p.c64
  have hW0 := p.w0
  have hW1 := p.w1
  have hH0 := p.h0
  have hH1 := p.h1
  have HCs := hide p.c
  go_enter Try.func19, Try.ntmps19
  go_wp2
  go_region
  go_wp2_with (at_make; go_must (refine wpList_make_own _ rfl _ _ 66 rfl (w.heap.size + 3) 5 i0 (.int .u8 0) 1 Try.underlying66 hi hz0 hz1 .i64 .i64 _ C.size rfl rfl rfl (by rw [hz2]; omega) (by unfold maxLen; omega) (by simp) ?_; intro wm hown hgrow))
  have hbm : Below (w.heap.size + 3) _ wm := undrew ((Below.refl _ _).grown hgrow (by simp) (by simp))
  have bp : isBox wm w.heap.size (.int .i64 W) (.int .i64 H) (.string C) (.int .i64 T) (.string A) (.string B) := isBox.below (w := _) (box3a w _ _) hbm (by omega)
  have br : isBox wm (w.heap.size + 1) (.int .i64 0) (.int .i64 0) (.string ⟨#[]⟩) (.int .i64 0) (.string ⟨#[]⟩) (.string ⟨#[]⟩) := isBox.below (w := _) (box3b w _ _) hbm (by omega)
  have bq : isBox wm (w.heap.size + 1 + 1) (.int .i64 H) (.int .i64 W) (.string C) (.int .i64 T) (.string A) (.string B) := isBox.below (w := _) (box3c w _ _) hbm (by omega)
  have hbw : Below w.heap.size w wm := Below.trans ((((Below.refl _ _).alloc (Nat.le_refl _) _).alloc (by simp) _).alloc (by simp; omega) _) (hbm.mono (by omega))
  have hsm : w.heap.size + 3 ≤ wm.heap.size := Nat.le_trans (by simp) hbm.size
  clear hbm hgrow
  go_loopw [6, 7] (fun v i wr => ∃ n : Nat, n ≤ C.size ∧ i = .int .i64 n ∧ wr.ownsRow (w.heap.size + 3) 5 1 v n (bvals (tcells C.data.toList W H 4 H n)) ∧ Below (w.heap.size + 3) wm wr) (fun _ i _ => C.size - (intOf i).toNat)
  case atStart => exact ⟨0, Nat.zero_le _, rfl, by simpa [tcells, bvals] using hown, Below.refl _ _⟩
  case round =>
    obtain ⟨n, hn, rfl, hownr, hbr⟩ := hrel
    clear hown
    have bpr := bp.below hbr (by omega)
    have bqr := bq.below hbr (by omega)
    have hsz : w.heap.size + 3 ≤ wr.heap.size := Nat.le_trans hsm hbr.size
    by_cases hlt : n < C.size
    · obtain ⟨d0, d1, d2, d3, d4, d5⟩ := bpr.cells
      obtain ⟨q0, q1, q2, q3, q4, q5⟩ := bqr.cells
      obtain ⟨hxl, hyl⟩ := split_idx (i := n) (dw := H) (dh := W) (by have := unhide HCs; first | omega | (rw [Nat.mul_comm]; omega))
      obtain ⟨m, hm, hsrc, htc⟩ := turned_idx C W H 4 H W (n % H) (n / H) (unhide HCs) (by simp) hxl hyl
      have e : n / H * H + n % H = n := by rw [Nat.mul_comm]; exact Nat.div_add_mod _ _
      rw [e] at htc
      obtain ⟨x, hx⟩ : ∃ x, x = n % H := ⟨_, rfl⟩
      obtain ⟨y, hy⟩ : ∃ y, y = n / H := ⟨_, rfl⟩
      rw [← hx] at hsrc hxl
      rw [← hy] at hsrc hyl
      have hx' : (n : Int) % (H : Int) = (x : Int) := by rw [hx]; simp
      have hy' : (n : Int) / (H : Int) = (y : Int) := by rw [hy]; simp
      have hsrc' : (x : Int) * (W : Int) + (y : Int) = (m : Int) := hsrc
      have hms := mul_small (u := (x : Int)) (W := (W : Int)) (by omega) (by omega) (by omega) (by omega)
      have b0 := hms.1
      have b1 := hms.2
      clear hms
      have Htc := hide htc
      have w02 : ((H : Int) == 0) = false := by simp; omega
      have w00 : (0 : Int) < (H : Int) := by omega
      have m0 : (0 : Int) ≤ (m : Int) := by omega
      have m1 : (m : Int) < (C.size : Int) := by omega
      clear hx hy hsrc htc e
      go_wp2
      go_quiet (fail)
      go_wp2_with (at_builtin; go_must (refine wpList_append_lies _ rfl _ _ 66 rfl (w.heap.size + 3) 5 i0 (.int .u8 0) 1 1 Try.underlying66 hi hz0 hz1 hz2 rfl (by omega) _ n (bvals (tcells C.data.toList W H 4 H n)) rfl ((own_drewN hownr _).alloc _) ⟨wr.heap.size, 0, none⟩ 1 1 [.int .u8 (C[m].toNat : Int)] rfl rfl (World.news_of_block (cs := #[.int .u8 (C[m].toNat : Int)]) (t := 5) (fr := (0, 0)) (heap_alloc_new _ _)) (by simp [Value.oneCell']) (by omega) (by unfold maxLen; omega) (by omega) (by simp; omega) (wr.heap.size + 1) (by simp) ?_; intro g cap w2 hown2 hgrow hat hlt2))
      have R1 : w2.ownsRow (w.heap.size + 3) 5 1 (.slice (some ⟨g, 0, none⟩) (n + 1) cap) (n + 1) (bvals (tcells C.data.toList W H 4 H (n + 1))) := by
        rw [tcells_succ, bvals_snoc, unhide Htc]; exact hown2
      have R2 : Below (w.heap.size + 3) wm w2 := ((below_drewN hbr _).alloc (by exact hsz) _).grown hgrow (by simp; omega) (own_ge hownr)
      clear hown2 hgrow d0 d1 d2 d3 d4 d5 q0 q1 q2 q3 q4 q5 hownr hbr
      go_wp2
      go_roundw
      case rel => exact ⟨n + 1, by omega, by go_num, R1, R2⟩
      case measure => simp [intOf]; omega
    · obtain rfl : n = C.size := by omega
      have brr := br.below hbr (by omega)
      have hpos : 0 < C.size := by have := unhide HCs; have := Nat.mul_pos (show 0 < W by omega) (show 0 < H by omega); omega
      obtain ⟨g, cap, hv, hg1, hg2⟩ := hownr.form hpos
      subst hv
      have hLl : Hid ((tcells C.data.toList W H 4 H C.size).length = C.size) := by rw [Hid, tcells_length]
      have hcv := conv_own hownr hLl
      have hts : (⟨(tcells C.data.toList W H 4 H C.size).toArray⟩ : ByteArray) = tstr C W H 4 := by rw [tstr, unhide HCs]; rfl
      rw [hts] at hcv
      obtain ⟨d0, d1, d2, d3, d4, d5⟩ := bpr.cells
      obtain ⟨q0, q1, q2, q3, q4, q5⟩ := bqr.cells
      obtain ⟨r0, r1, r2, r3, r4, r5⟩ := brr.cells
      have zq2 := bqr.frozen 2
      have z0 := brr.frozen 0
      have z1 := brr.frozen 1
      have z2 := brr.frozen 2
      have z3 := brr.frozen 3
      have z4 := brr.frozen 4
      have z5 := brr.frozen 5
      clear hts
      go_wp2
      refine bodyPost_ret (v := .agg #[.int .i64 H, .int .i64 W, .string (tstr C W H 4), .int .i64 T, .string A, .string B]) (by simp [results, Try.results19, go_sem, r0, r1, r2, r3, r4, r5]) rfl ⟨rfl, ?_⟩
      exact below_set6 (by omega) ((hbw.trans (hbr.mono (by omega))).setCell (by dsimp only; omega) _)

set_option maxHeartbeats 1000000 in
set_option maxRecDepth 100000 in
theorem round_5 {W H : Nat} {T : Int} {C A B : ByteArray} (w : World) (p : IsPos W H C T A B) :
    Calls Try.prog 19 #[.agg #[.int .i64 W, .int .i64 H, .string C, .int .i64 T, .string A, .string B], .int .i64 5] w fun e w' =>
      e = .returned (.agg #[.int .i64 H, .int .i64 W, .string (tstr C W H 5), .int .i64 T, .string A, .string B]) ∧ Below w.heap.size w w' := by
  obtain ⟨i0, hi, hz0, hz1, hz2⟩ := info_parts Try.info5
  have h64 := p.c64
  have hW0 := p.w0
  have hW1 := p.w1
  have hH0 := p.h0
  have hH1 := p.h1
  have HCs := hide p.c
  go_enter Try.func19, Try.ntmps19
  go_wp2
  go_region
  go_wp2_with (at_make; go_must (refine wpList_make_own _ rfl _ _ 66 rfl (w.heap.size + 3) 5 i0 (.int .u8 0) 1 Try.underlying66 hi hz0 hz1 .i64 .i64 _ C.size rfl rfl rfl (by rw [hz2]; omega) (by unfold maxLen; omega) (by simp) ?_; intro wm hown hgrow))
  have hbm : Below (w.heap.size + 3) _ wm := undrew ((Below.refl _ _).grown hgrow (by simp) (by simp))
  have bp : isBox wm w.heap.size (.int .i64 W) (.int .i64 H) (.string C) (.int .i64 T) (.string A) (.string B) := isBox.below (w := _) (box3a w _ _) hbm (by omega)
  have br : isBox wm (w.heap.size + 1) (.int .i64 0) (.int .i64 0) (.string ⟨#[]⟩) (.int .i64 0) (.string ⟨#[]⟩) (.string ⟨#[]⟩) := isBox.below (w := _) (box3b w _ _) hbm (by omega)
  have bq : isBox wm (w.heap.size + 1 + 1) (.int .i64 H) (.int .i64 W) (.string C) (.int .i64 T) (.string A) (.string B) := isBox.below (w := _) (box3c w _ _) hbm (by omega)
  have hbw : Below w.heap.size w wm := Below.trans ((((Below.refl _ _).alloc (Nat.le_refl _) _).alloc (by simp) _).alloc (by simp; omega) _) (hbm.mono (by omega))
  have hsm : w.heap.size + 3 ≤ wm.heap.size := Nat.le_trans (by simp) hbm.size
  clear hbm hgrow
  go_loopw [6, 7] (fun v i wr => ∃ n : Nat, n ≤ C.size ∧ i = .int .i64 n ∧ wr.ownsRow (w.heap.size + 3) 5 1 v n (bvals (tcells C.data.toList W H 5 H n)) ∧ Below (w.heap.size + 3) wm wr) (fun _ i _ => C.size - (intOf i).toNat)
  case atStart => exact ⟨0, Nat.zero_le _, rfl, by simpa [tcells, bvals] using hown, Below.refl _ _⟩
  case round =>
    obtain ⟨n, hn, rfl, hownr, hbr⟩ := hrel
    clear hown
    have bpr := bp.below hbr (by omega)
    have bqr := bq.below hbr (by omega)
    have hsz : w.heap.size + 3 ≤ wr.heap.size := Nat.le_trans hsm hbr.size
    by_cases hlt : n < C.size
    · obtain ⟨d0, d1, d2, d3, d4, d5⟩ := bpr.cells
      obtain ⟨q0, q1, q2, q3, q4, q5⟩ := bqr.cells
      obtain ⟨hxl, hyl⟩ := split_idx (i := n) (dw := H) (dh := W) (by have := unhide HCs; first | omega | (rw [Nat.mul_comm]; omega))
      obtain ⟨m, hm, hsrc, htc⟩ := turned_idx C W H 5 H W (n % H) (n / H) (unhide HCs) (by simp) hxl hyl
      have e : n / H * H + n % H = n := by rw [Nat.mul_comm]; exact Nat.div_add_mod _ _
      rw [e] at htc
      obtain ⟨x, hx⟩ : ∃ x, x = n % H := ⟨_, rfl⟩
      obtain ⟨y, hy⟩ : ∃ y, y = n / H := ⟨_, rfl⟩
      rw [← hx] at hsrc hxl
      rw [← hy] at hsrc hyl
      have hx' : (n : Int) % (H : Int) = (x : Int) := by rw [hx]; simp
      have hy' : (n : Int) / (H : Int) = (y : Int) := by rw [hy]; simp
      have hsrc' : ((H : Int) - 1 - (x : Int)) * (W : Int) + (y : Int) = (m : Int) := hsrc
      have hms := mul_small (u := ((H : Int) - 1 - (x : Int))) (W := (W : Int)) (by omega) (by omega) (by omega) (by omega)
      have b0 := hms.1
      have b1 := hms.2
      clear hms
      have Htc := hide htc
      have w02 : ((H : Int) == 0) = false := by simp; omega
      have w00 : (0 : Int) < (H : Int) := by omega
      have m0 : (0 : Int) ≤ (m : Int) := by omega
      have m1 : (m : Int) < (C.size : Int) := by omega
      clear hx hy hsrc htc e
      go_wp2
      go_quiet (fail)
      go_wp2_with (at_builtin; go_must (refine wpList_append_lies _ rfl _ _ 66 rfl (w.heap.size + 3) 5 i0 (.int .u8 0) 1 1 Try.underlying66 hi hz0 hz1 hz2 rfl (by omega) _ n (bvals (tcells C.data.toList W H 5 H n)) rfl ((own_drewN hownr _).alloc _) ⟨wr.heap.size, 0, none⟩ 1 1 [.int .u8 (C[m].toNat : Int)] rfl rfl (World.news_of_block (cs := #[.int .u8 (C[m].toNat : Int)]) (t := 5) (fr := (0, 0)) (heap_alloc_new _ _)) (by simp [Value.oneCell']) (by omega) (by unfold maxLen; omega) (by omega) (by simp; omega) (wr.heap.size + 1) (by simp) ?_; intro g cap w2 hown2 hgrow hat hlt2))
      have R1 : w2.ownsRow (w.heap.size + 3) 5 1 (.slice (some ⟨g, 0, none⟩) (n + 1) cap) (n + 1) (bvals (tcells C.data.toList W H 5 H (n + 1))) := by
        rw [tcells_succ, bvals_snoc, unhide Htc]; exact hown2
      have R2 : Below (w.heap.size + 3) wm w2 := ((below_drewN hbr _).alloc (by exact hsz) _).grown hgrow (by simp; omega) (own_ge hownr)
      clear hown2 hgrow d0 d1 d2 d3 d4 d5 q0 q1 q2 q3 q4 q5 hownr hbr
      go_wp2
      go_roundw
      case rel => exact ⟨n + 1, by omega, by go_num, R1, R2⟩
      case measure => simp [intOf]; omega
    · obtain rfl : n = C.size := by omega
      have brr := br.below hbr (by omega)
      have hpos : 0 < C.size := by have := unhide HCs; have := Nat.mul_pos (show 0 < W by omega) (show 0 < H by omega); omega
      obtain ⟨g, cap, hv, hg1, hg2⟩ := hownr.form hpos
      subst hv
      have hLl : Hid ((tcells C.data.toList W H 5 H C.size).length = C.size) := by rw [Hid, tcells_length]
      have hcv := conv_own hownr hLl
      have hts : (⟨(tcells C.data.toList W H 5 H C.size).toArray⟩ : ByteArray) = tstr C W H 5 := by rw [tstr, unhide HCs]; rfl
      rw [hts] at hcv
      obtain ⟨d0, d1, d2, d3, d4, d5⟩ := bpr.cells
      obtain ⟨q0, q1, q2, q3, q4, q5⟩ := bqr.cells
      obtain ⟨r0, r1, r2, r3, r4, r5⟩ := brr.cells
      have zq2 := bqr.frozen 2
      have z0 := brr.frozen 0
      have z1 := brr.frozen 1
      have z2 := brr.frozen 2
      have z3 := brr.frozen 3
      have z4 := brr.frozen 4
      have z5 := brr.frozen 5
      clear hts
      go_wp2
      refine bodyPost_ret (v := .agg #[.int .i64 H, .int .i64 W, .string (tstr C W H 5), .int .i64 T, .string A, .string B]) (by simp [results, Try.results19, go_sem, r0, r1, r2, r3, r4, r5]) rfl ⟨rfl, ?_⟩
      exact below_set6 (by omega) ((hbw.trans (hbr.mono (by omega))).setCell (by dsimp only; omega) _)

set_option maxHeartbeats 1000000 in
set_option maxRecDepth 100000 in
theorem round_6 {W H : Nat} {T : Int} {C A B : ByteArray} (w : World) (p : IsPos W H C T A B) :
    Calls Try.prog 19 #[.agg #[.int .i64 W, .int .i64 H, .string C, .int .i64 T, .string A, .string B], .int .i64 6] w fun e w' =>
      e = .returned (.agg #[.int .i64 H, .int .i64 W, .string (tstr C W H 6), .int .i64 T, .string A, .string B]) ∧ Below w.heap.size w w' := by
  obtain ⟨i0, hi, hz0, hz1, hz2⟩ := info_parts Try.info5
  have h64 := p.c64
  have hW0 := p.w0
  have hW1 := p.w1
  have hH0 := p.h0
  have hH1 := p.h1
  have HCs := hide p.c
  go_enter Try.func19, Try.ntmps19
  go_wp2
  go_region
  go_wp2_with (at_make; go_must (refine wpList_make_own _ rfl _ _ 66 rfl (w.heap.size + 3) 5 i0 (.int .u8 0) 1 Try.underlying66 hi hz0 hz1 .i64 .i64 _ C.size rfl rfl rfl (by rw [hz2]; omega) (by unfold maxLen; omega) (by simp) ?_; intro wm hown hgrow))
  have hbm : Below (w.heap.size + 3) _ wm := undrew ((Below.refl _ _).grown hgrow (by simp) (by simp))
  have bp : isBox wm w.heap.size (.int .i64 W) (.int .i64 H) (.string C) (.int .i64 T) (.string A) (.string B) := isBox.below (w := _) (box3a w _ _) hbm (by omega)
  have br : isBox wm (w.heap.size + 1) (.int .i64 0) (.int .i64 0) (.string ⟨#[]⟩) (.int .i64 0) (.string ⟨#[]⟩) (.string ⟨#[]⟩) := isBox.below (w := _) (box3b w _ _) hbm (by omega)
  have bq : isBox wm (w.heap.size + 1 + 1) (.int .i64 H) (.int .i64 W) (.string C) (.int .i64 T) (.string A) (.string B) := isBox.below (w := _) (box3c w _ _) hbm (by omega)
  have hbw : Below w.heap.size w wm := Below.trans ((((Below.refl _ _).alloc (Nat.le_refl _) _).alloc (by simp) _).alloc (by simp; omega) _) (hbm.mono (by omega))
  have hsm : w.heap.size + 3 ≤ wm.heap.size := Nat.le_trans (by simp) hbm.size
  clear hbm hgrow
  go_loopw [6, 7] (fun v i wr => ∃ n : Nat, n ≤ C.size ∧ i = .int .i64 n ∧ wr.ownsRow (w.heap.size + 3) 5 1 v n (bvals (tcells C.data.toList W H 6 H n)) ∧ Below (w.heap.size + 3) wm wr) (fun _ i _ => C.size - (intOf i).toNat)
  case atStart => exact ⟨0, Nat.zero_le _, rfl, by simpa [tcells, bvals] using hown, Below.refl _ _⟩
  case round =>
    obtain ⟨n, hn, rfl, hownr, hbr⟩ := hrel
    clear hown
    have bpr := bp.below hbr (by omega)
    have bqr := bq.below hbr (by omega)
    have hsz : w.heap.size + 3 ≤ wr.heap.size := Nat.le_trans hsm hbr.size
    by_cases hlt : n < C.size
    · obtain ⟨d0, d1, d2, d3, d4, d5⟩ := bpr.cells
      obtain ⟨q0, q1, q2, q3, q4, q5⟩ := bqr.cells
      obtain ⟨hxl, hyl⟩ := split_idx (i := n) (dw := H) (dh := W) (by have := unhide HCs; first | omega | (rw [Nat.mul_comm]; omega))
      obtain ⟨m, hm, hsrc, htc⟩ := turned_idx C W H 6 H W (n % H) (n / H) (unhide HCs) (by simp) hxl hyl
      have e : n / H * H + n % H = n := by rw [Nat.mul_comm]; exact Nat.div_add_mod _ _
      rw [e] at htc
      obtain ⟨x, hx⟩ : ∃ x, x = n % H := ⟨_, rfl⟩
      obtain ⟨y, hy⟩ : ∃ y, y = n / H := ⟨_, rfl⟩
      rw [← hx] at hsrc hxl
      rw [← hy] at hsrc hyl
      have hx' : (n : Int) % (H : Int) = (x : Int) := by rw [hx]; simp
      have hy' : (n : Int) / (H : Int) = (y : Int) := by rw [hy]; simp
      have hsrc' : (x : Int) * (W : Int) + ((W : Int) - 1 - (y : Int)) = (m : Int) := hsrc
      have hms := mul_small (u := (x : Int)) (W := (W : Int)) (by omega) (by omega) (by omega) (by omega)
      have b0 := hms.1
      have b1 := hms.2
      clear hms
      have Htc := hide htc
      have w02 : ((H : Int) == 0) = false := by simp; omega
      have w00 : (0 : Int) < (H : Int) := by omega
      have m0 : (0 : Int) ≤ (m : Int) := by omega
      have m1 : (m : Int) < (C.size : Int) := by omega
      clear hx hy hsrc htc e
      go_wp2
      go_quiet (fail)
      go_wp2_with (at_builtin; go_must (refine wpList_append_lies _ rfl _ _ 66 rfl (w.heap.size + 3) 5 i0 (.int .u8 0) 1 1 Try.underlying66 hi hz0 hz1 hz2 rfl (by omega) _ n (bvals (tcells C.data.toList W H 6 H n)) rfl ((own_drewN hownr _).alloc _) ⟨wr.heap.size, 0, none⟩ 1 1 [.int .u8 (C[m].toNat : Int)] rfl rfl (World.news_of_block (cs := #[.int .u8 (C[m].toNat : Int)]) (t := 5) (fr := (0, 0)) (heap_alloc_new _ _)) (by simp [Value.oneCell']) (by omega) (by unfold maxLen; omega) (by omega) (by simp; omega) (wr.heap.size + 1) (by simp) ?_; intro g cap w2 hown2 hgrow hat hlt2))
      have R1 : w2.ownsRow (w.heap.size + 3) 5 1 (.slice (some ⟨g, 0, none⟩) (n + 1) cap) (n + 1) (bvals (tcells C.data.toList W H 6 H (n + 1))) := by
        rw [tcells_succ, bvals_snoc, unhide Htc]; exact hown2
      have R2 : Below (w.heap.size + 3) wm w2 := ((below_drewN hbr _).alloc (by exact hsz) _).grown hgrow (by simp; omega) (own_ge hownr)
      clear hown2 hgrow d0 d1 d2 d3 d4 d5 q0 q1 q2 q3 q4 q5 hownr hbr
      go_wp2
      go_roundw
      case rel => exact ⟨n + 1, by omega, by go_num, R1, R2⟩
      case measure => simp [intOf]; omega
    · obtain rfl : n = C.size := by omega
      have brr := br.below hbr (by omega)
      have hpos : 0 < C.size := by have := unhide HCs; have := Nat.mul_pos (show 0 < W by omega) (show 0 < H by omega); omega
      obtain ⟨g, cap, hv, hg1, hg2⟩ := hownr.form hpos
      subst hv
      have hLl : Hid ((tcells C.data.toList W H 6 H C.size).length = C.size) := by rw [Hid, tcells_length]
      have hcv := conv_own hownr hLl
      have hts : (⟨(tcells C.data.toList W H 6 H C.size).toArray⟩ : ByteArray) = tstr C W H 6 := by rw [tstr, unhide HCs]; rfl
      rw [hts] at hcv
      obtain ⟨d0, d1, d2, d3, d4, d5⟩ := bpr.cells
      obtain ⟨q0, q1, q2, q3, q4, q5⟩ := bqr.cells
      obtain ⟨r0, r1, r2, r3, r4, r5⟩ := brr.cells
      have zq2 := bqr.frozen 2
      have z0 := brr.frozen 0
      have z1 := brr.frozen 1
      have z2 := brr.frozen 2
      have z3 := brr.frozen 3
      have z4 := brr.frozen 4
      have z5 := brr.frozen 5
      clear hts
      go_wp2
      refine bodyPost_ret (v := .agg #[.int .i64 H, .int .i64 W, .string (tstr C W H 6), .int .i64 T, .string A, .string B]) (by simp [results, Try.results19, go_sem, r0, r1, r2, r3, r4, r5]) rfl ⟨rfl, ?_⟩
      exact below_set6 (by omega) ((hbw.trans (hbr.mono (by omega))).setCell (by dsimp only; omega) _)

set_option maxHeartbeats 1000000 in
set_option maxRecDepth 100000 in
theorem round_7 {W H : Nat} {T : Int} {C A B : ByteArray} (w : World) (p : IsPos W H C T A B) :
    Calls Try.prog 19 #[.agg #[.int .i64 W, .int .i64 H, .string C, .int .i64 T, .string A, .string B], .int .i64 7] w fun e w' =>
      e = .returned (.agg #[.int .i64 H, .int .i64 W, .string (tstr C W H 7), .int .i64 T, .string A, .string B]) ∧ Below w.heap.size w w' := by
  obtain ⟨i0, hi, hz0, hz1, hz2⟩ := info_parts Try.info5
  have h64 := p.c64
  have hW0 := p.w0
  have hW1 := p.w1
  have hH0 := p.h0
  have hH1 := p.h1
  have HCs := hide p.c
  go_enter Try.func19, Try.ntmps19
  go_wp2
  go_region
  go_wp2_with (at_make; go_must (refine wpList_make_own _ rfl _ _ 66 rfl (w.heap.size + 3) 5 i0 (.int .u8 0) 1 Try.underlying66 hi hz0 hz1 .i64 .i64 _ C.size rfl rfl rfl (by rw [hz2]; omega) (by unfold maxLen; omega) (by simp) ?_; intro wm hown hgrow))
  have hbm : Below (w.heap.size + 3) _ wm := undrew ((Below.refl _ _).grown hgrow (by simp) (by simp))
  have bp : isBox wm w.heap.size (.int .i64 W) (.int .i64 H) (.string C) (.int .i64 T) (.string A) (.string B) := isBox.below (w := _) (box3a w _ _) hbm (by omega)
  have br : isBox wm (w.heap.size + 1) (.int .i64 0) (.int .i64 0) (.string ⟨#[]⟩) (.int .i64 0) (.string ⟨#[]⟩) (.string ⟨#[]⟩) := isBox.below (w := _) (box3b w _ _) hbm (by omega)
  have bq : isBox wm (w.heap.size + 1 + 1) (.int .i64 H) (.int .i64 W) (.string C) (.int .i64 T) (.string A) (.string B) := isBox.below (w := _) (box3c w _ _) hbm (by omega)
  have hbw : Below w.heap.size w wm := Below.trans ((((Below.refl _ _).alloc (Nat.le_refl _) _).alloc (by simp) _).alloc (by simp; omega) _) (hbm.mono (by omega))
  have hsm : w.heap.size + 3 ≤ wm.heap.size := Nat.le_trans (by simp) hbm.size
  clear hbm hgrow
  go_loopw [6, 7] (fun v i wr => ∃ n : Nat, n ≤ C.size ∧ i = .int .i64 n ∧ wr.ownsRow (w.heap.size + 3) 5 1 v n (bvals (tcells C.data.toList W H 7 H n)) ∧ Below (w.heap.size + 3) wm wr) (fun _ i _ => C.size - (intOf i).toNat)
  case atStart => exact ⟨0, Nat.zero_le _, rfl, by simpa [tcells, bvals] using hown, Below.refl _ _⟩
  case round =>
    obtain ⟨n, hn, rfl, hownr, hbr⟩ := hrel
    clear hown
    have bpr := bp.below hbr (by omega)
    have bqr := bq.below hbr (by omega)
    have hsz : w.heap.size + 3 ≤ wr.heap.size := Nat.le_trans hsm hbr.size
    by_cases hlt : n < C.size
    · obtain ⟨d0, d1, d2, d3, d4, d5⟩ := bpr.cells
      obtain ⟨q0, q1, q2, q3, q4, q5⟩ := bqr.cells
      obtain ⟨hxl, hyl⟩ := split_idx (i := n) (dw := H) (dh := W) (by have := unhide HCs; first | omega | (rw [Nat.mul_comm]; omega))
      obtain ⟨m, hm, hsrc, htc⟩ := turned_idx C W H 7 H W (n % H) (n / H) (unhide HCs) (by simp) hxl hyl
      have e : n / H * H + n % H = n := by rw [Nat.mul_comm]; exact Nat.div_add_mod _ _
      rw [e] at htc
      obtain ⟨x, hx⟩ : ∃ x, x = n % H := ⟨_, rfl⟩
      obtain ⟨y, hy⟩ : ∃ y, y = n / H := ⟨_, rfl⟩
      rw [← hx] at hsrc hxl
      rw [← hy] at hsrc hyl
      have hx' : (n : Int) % (H : Int) = (x : Int) := by rw [hx]; simp
      have hy' : (n : Int) / (H : Int) = (y : Int) := by rw [hy]; simp
      have hsrc' : ((H : Int) - 1 - (x : Int)) * (W : Int) + ((W : Int) - 1 - (y : Int)) = (m : Int) := hsrc
      have hms := mul_small (u := ((H : Int) - 1 - (x : Int))) (W := (W : Int)) (by omega) (by omega) (by omega) (by omega)
      have b0 := hms.1
      have b1 := hms.2
      clear hms
      have Htc := hide htc
      have w02 : ((H : Int) == 0) = false := by simp; omega
      have w00 : (0 : Int) < (H : Int) := by omega
      have m0 : (0 : Int) ≤ (m : Int) := by omega
      have m1 : (m : Int) < (C.size : Int) := by omega
      clear hx hy hsrc htc e
      go_wp2
      go_quiet (fail)
      go_wp2_with (at_builtin; go_must (refine wpList_append_lies _ rfl _ _ 66 rfl (w.heap.size + 3) 5 i0 (.int .u8 0) 1 1 Try.underlying66 hi hz0 hz1 hz2 rfl (by omega) _ n (bvals (tcells C.data.toList W H 7 H n)) rfl ((own_drewN hownr _).alloc _) ⟨wr.heap.size, 0, none⟩ 1 1 [.int .u8 (C[m].toNat : Int)] rfl rfl (World.news_of_block (cs := #[.int .u8 (C[m].toNat : Int)]) (t := 5) (fr := (0, 0)) (heap_alloc_new _ _)) (by simp [Value.oneCell']) (by omega) (by unfold maxLen; omega) (by omega) (by simp; omega) (wr.heap.size + 1) (by simp) ?_; intro g cap w2 hown2 hgrow hat hlt2))
      have R1 : w2.ownsRow (w.heap.size + 3) 5 1 (.slice (some ⟨g, 0, none⟩) (n + 1) cap) (n + 1) (bvals (tcells C.data.toList W H 7 H (n + 1))) := by
        rw [tcells_succ, bvals_snoc, unhide Htc]; exact hown2
      have R2 : Below (w.heap.size + 3) wm w2 := ((below_drewN hbr _).alloc (by exact hsz) _).grown hgrow (by simp; omega) (own_ge hownr)
      clear hown2 hgrow d0 d1 d2 d3 d4 d5 q0 q1 q2 q3 q4 q5 hownr hbr
      go_wp2
      go_roundw
      case rel => exact ⟨n + 1, by omega, by go_num, R1, R2⟩
      case measure => simp [intOf]; omega
    · obtain rfl : n = C.size := by omega
      have brr := br.below hbr (by omega)
      have hpos : 0 < C.size := by have := unhide HCs; have := Nat.mul_pos (show 0 < W by omega) (show 0 < H by omega); omega
      obtain ⟨g, cap, hv, hg1, hg2⟩ := hownr.form hpos
      subst hv
      have hLl : Hid ((tcells C.data.toList W H 7 H C.size).length = C.size) := by rw [Hid, tcells_length]
      have hcv := conv_own hownr hLl
      have hts : (⟨(tcells C.data.toList W H 7 H C.size).toArray⟩ : ByteArray) = tstr C W H 7 := by rw [tstr, unhide HCs]; rfl
      rw [hts] at hcv
      obtain ⟨d0, d1, d2, d3, d4, d5⟩ := bpr.cells
      obtain ⟨q0, q1, q2, q3, q4, q5⟩ := bqr.cells
      obtain ⟨r0, r1, r2, r3, r4, r5⟩ := brr.cells
      have zq2 := bqr.frozen 2
      have z0 := brr.frozen 0
      have z1 := brr.frozen 1
      have z2 := brr.frozen 2
      have z3 := brr.frozen 3
      have z4 := brr.frozen 4
      have z5 := brr.frozen 5
      clear hts
      go_wp2
      refine bodyPost_ret (v := .agg #[.int .i64 H, .int .i64 W, .string (tstr C W H 7), .int .i64 T, .string A, .string B]) (by simp [results, Try.results19, go_sem, r0, r1, r2, r3, r4, r5]) rfl ⟨rfl, ?_⟩
      exact below_set6 (by omega) ((hbw.trans (hbr.mono (by omega))).setCell (by dsimp only; omega) _)

theorem round_any {W H : Nat} {T : Int} {C A B : ByteArray} (k : Nat) (w : World) (p : IsPos W H C T A B) (hk : k < 8) :
    Calls Try.prog 19 #[.agg #[.int .i64 W, .int .i64 H, .string C, .int .i64 T, .string A, .string B], .int .i64 k] w fun e w' =>
      e = .returned (.agg #[.int .i64 (twd W H k : Nat), .int .i64 (thd W H k : Nat), .string (tstr C W H k), .int .i64 T, .string A, .string B]) ∧ Below w.heap.size w w' := by
  obtain rfl | rfl | rfl | rfl | rfl | rfl | rfl | rfl : k = 0 ∨ k = 1 ∨ k = 2 ∨ k = 3 ∨ k = 4 ∨ k = 5 ∨ k = 6 ∨ k = 7 := by omega
  · exact round_0 w p
  · exact round_1 w p
  · exact round_2 w p
  · exact round_3 w p
  · exact round_4 w p
  · exact round_5 w p
  · exact round_6 w p
  · exact round_7 w p
end Go.Proofs.Ytbcedjjocpjkjaa
