/-
  gamelaw.BoardTurns, walked: a position, a turn k, a list of turns.
-/
import Derived.Test.YtbcedjjocpjkjaaW25
namespace Go.Proofs.Ytbcedjjocpjkjaa
open Go.RowKit
attribute [local go_sem ↓] Go.wp_at_zero Go.wp_at_succ

theorem below_call {w0 x w' : World} (h : Below w0.heap.size w0 x) (hb : Below x.heap.size x w') : Below w0.heap.size w0 w' := h.trans (hb.mono h.size)
theorem isBox.cellsD {w : World} {g : Nat} {v0 v1 v2 v3 v4 v5 : Value} (h : isBox w g v0 v1 v2 v3 v4 v5) :
    w.cell? ⟨g, 0, none⟩ = some v0 ∧ w.cell? ⟨g, 1, none⟩ = some v1 ∧ w.cell? ⟨g, 2, none⟩ = some v2 ∧ w.cell? ⟨g, 3, none⟩ = some v3 ∧ w.cell? ⟨g, 4, none⟩ = some v4 ∧ w.cell? ⟨g, 5, none⟩ = some v5 := h.cells

theorem turn7 {z : Int} (h : (0 : Int) ≤ z) : decide (z ≤ 7) = (true && turnB z) := by
  unfold turnB
  rw [Bool.true_and, decide_eq_true h, Bool.true_and]
  by_cases h7 : z ≤ 7
  · rw [decide_eq_true h7, decide_eq_true (by omega)]
  · rw [decide_eq_false h7, decide_eq_false (by omega)]
theorem turnNeg {z : Int} (h : ¬ (0 : Int) ≤ z) : false = (true && turnB z) := by
  unfold turnB
  rw [decide_eq_false h]
  rfl

set_option maxHeartbeats 1000000 in
set_option maxRecDepth 100000 in
theorem turns_a {W H : Nat} {T : Int} {C A B : ByteArray} (k : Nat) (g off cap : Nat) (ns : List Nat) (w : World) (p : IsPos W H C T A B) (hk : k < 8) (hn : ns.length ≤ maxLen) (h0 : 0 < ns.length) (hall : ∀ n ∈ ns, n < 8) (hg : g < w.heap.size)
    (hc : ∀ j (h : j < ns.length), w.cell? ⟨g, off + j, none⟩ = some (.int .i64 (ns[j] : Int))) :
    Calls Try.prog 4 #[.agg #[.int .i64 W, .int .i64 H, .string C, .int .i64 T, .string A, .string B], .int .i64 k, .slice (some ⟨g, off, none⟩) ns.length cap] w fun e w' => e = .returned (.bool true) ∧ Below w.heap.size w w' := by
  have mA : A.size ≤ maxLen := by have := p.as; unfold maxLen; omega
  have mB : B.size ≤ maxLen := by have := p.bs; unfold maxLen; omega
  have HP := hide p.posB
  have hn' : ns.length ≤ 9223372036854775807 := by unfold maxLen at hn; exact hn
  have HC := hide hc
  have HA := hide hall
  clear hc hall
  have heqS := fun w => (eqPos w W H (1 - T) W H (1 - T) (sstr C W H) B A (sstr C W H) B A)
  have k0 : (0 : Int) ≤ (k : Int) := by omega
  have k7 : (k : Int) ≤ 7 := by omega
  have heqK := fun w => (eqPos w (twd W H k : Nat) (thd W H k : Nat) T (twd W H k : Nat) (thd W H k : Nat) T (tstr C W H k) A B (tstr C W H k) A B)
  simp only [samePos_refl] at heqS heqK
  go_enter Try.func4, Try.ntmps4
  go_wp2_with fail
  refine (Turned_ok _ hk p).mono ?_
  rintro e w1 ⟨rfl, hb1⟩
  have bp1 := isBox.fresh hb1
  have hw1 : Below w.heap.size w w1 := below_on (Below.refl _ _) (Nat.le_refl _) hb1
  clear hb1
  obtain ⟨d0, d1, d2, d3, d4, d5⟩ := bp1.cells'
  go_wp2_with fail
  refine (Swapped_ok _ p).mono ?_
  rintro e w2 ⟨rfl, hb2⟩
  have bp2 := bp1.on hb2
  have ba2 := isBox.fresh hb2
  have hw2 := below_on hw1 hw1.size hb2
  clear hb2 bp1 d0 d1 d2 d3 d4 d5
  obtain ⟨d0, d1, d2, d3, d4, d5⟩ := bp2.cells'
  go_wp2_with fail
  refine (Least_ok g off cap ns _ p hn h0 (unhide HA) (by have := hw2.size; simp; omega) (fun j h => ((hw2.alloc hw2.size _).cell (show g < w.heap.size from hg)).trans (unhide HC j h))).mono ?_
  rintro e w3 ⟨rfl, hb3⟩
  have bp3 := bp2.on hb3
  have ba3 := ba2.on hb3
  have bb3 := isBox.fresh hb3
  have hw3 := below_on hw2 hw2.size hb3
  clear hb3 bp2 ba2 d0 d1 d2 d3 d4 d5
  obtain ⟨d0, d1, d2, d3, d4, d5⟩ := bp3.cells'
  go_wp2_with fail
  refine (refPosition_any _ _ _ _ _ _ _ mA mB).mono ?_
  rintro e w4 ⟨rfl, hb4⟩
  rw [unhide HP]
  have bp4 := bp3.on hb4
  have ba4 := ba3.on hb4
  have bb4 := bb3.on hb4
  have bc4 := isBox.fresh hb4
  have hw4 := below_on hw3 hw3.size hb4
  clear hb4 bp3 ba3 bb3 d0 d1 d2 d3 d4 d5
  obtain ⟨d0, d1, d2, d3, d4, d5⟩ := bp4.cells
  obtain ⟨e0, e1, e2, e3, e4, e5⟩ := bb4.cells
  have gp := bp4.lt
  have gb := bb4.lt
  go_wp2
  go_region_held3 (fun w' => w'.cell? ⟨w.heap.size, 0, none⟩ = some (.int .i64 W) ∧ w'.cell? ⟨w.heap.size, 1, none⟩ = some (.int .i64 H) ∧ w'.cell? ⟨w.heap.size, 2, none⟩ = some (.string C) ∧ w'.cell? ⟨w.heap.size, 3, none⟩ = some (.int .i64 T) ∧ w'.cell? ⟨w.heap.size, 4, none⟩ = some (.string A) ∧ w'.cell? ⟨w.heap.size, 5, none⟩ = some (.string B) ∧ w'.cell? ⟨w2.heap.size, 0, none⟩ = some (.int .i64 W) ∧ w'.cell? ⟨w2.heap.size, 1, none⟩ = some (.int .i64 H) ∧ w'.cell? ⟨w2.heap.size, 2, none⟩ = some (.string (sstr C W H)) ∧ w'.cell? ⟨w2.heap.size, 3, none⟩ = some (.int .i64 (1 - T)) ∧ w'.cell? ⟨w2.heap.size, 4, none⟩ = some (.string B) ∧ w'.cell? ⟨w2.heap.size, 5, none⟩ = some (.string A))
    (go_keep)
    (first
      | (go_at_call 18; refine (exchanged_any _ p).mono ?_; rintro e w5 ⟨rfl, hb5'⟩; have hb5 : Below w4.heap.size w4 w5 := undrew hb5'; have c0 := (hb5.cell (p := ⟨w.heap.size, 0, none⟩) gp).trans d0; have f0 := (hb5.cell (p := ⟨w2.heap.size, 0, none⟩) gb).trans e0; have c1 := (hb5.cell (p := ⟨w.heap.size, 1, none⟩) gp).trans d1; have f1 := (hb5.cell (p := ⟨w2.heap.size, 1, none⟩) gb).trans e1; have c2 := (hb5.cell (p := ⟨w.heap.size, 2, none⟩) gp).trans d2; have f2 := (hb5.cell (p := ⟨w2.heap.size, 2, none⟩) gb).trans e2; have c3 := (hb5.cell (p := ⟨w.heap.size, 3, none⟩) gp).trans d3; have f3 := (hb5.cell (p := ⟨w2.heap.size, 3, none⟩) gb).trans e3; have c4 := (hb5.cell (p := ⟨w.heap.size, 4, none⟩) gp).trans d4; have f4 := (hb5.cell (p := ⟨w2.heap.size, 4, none⟩) gb).trans e4; have c5 := (hb5.cell (p := ⟨w.heap.size, 5, none⟩) gp).trans d5; have f5 := (hb5.cell (p := ⟨w2.heap.size, 5, none⟩) gb).trans e5))
  have bp5 := bp4.below hb5 gp
  have ba5 := ba4.below hb5 ba4.lt
  have bc5 := bc4.below hb5 bc4.lt
  have hw5 := hw4.trans (hb5.mono hw4.size)
  clear hb5 hb5' bp4 ba4 bb4 bc4 c0 c1 c2 c3 c4 c5 f0 f1 f2 f3 f4 f5 d0 d1 d2 d3 d4 d5 e0 e1 e2 e3 e4 e5 gp gb heqS
  obtain ⟨d0, d1, d2, d3, d4, d5⟩ := bp5.cells
  obtain ⟨e0, e1, e2, e3, e4, e5⟩ := ba5.cells
  have gp := bp5.lt
  have ga := ba5.lt
  go_wp2
  go_region_held3 (fun w' => w'.cell? ⟨w.heap.size, 0, none⟩ = some (.int .i64 W) ∧ w'.cell? ⟨w.heap.size, 1, none⟩ = some (.int .i64 H) ∧ w'.cell? ⟨w.heap.size, 2, none⟩ = some (.string C) ∧ w'.cell? ⟨w.heap.size, 3, none⟩ = some (.int .i64 T) ∧ w'.cell? ⟨w.heap.size, 4, none⟩ = some (.string A) ∧ w'.cell? ⟨w.heap.size, 5, none⟩ = some (.string B) ∧ w'.cell? ⟨w1.heap.size, 0, none⟩ = some (.int .i64 (twd W H k : Nat)) ∧ w'.cell? ⟨w1.heap.size, 1, none⟩ = some (.int .i64 (thd W H k : Nat)) ∧ w'.cell? ⟨w1.heap.size, 2, none⟩ = some (.string (tstr C W H k)) ∧ w'.cell? ⟨w1.heap.size, 3, none⟩ = some (.int .i64 T) ∧ w'.cell? ⟨w1.heap.size, 4, none⟩ = some (.string A) ∧ w'.cell? ⟨w1.heap.size, 5, none⟩ = some (.string B))
    (go_keep)
    (first
      | (go_at_call 19; refine (round_any k _ p hk).mono ?_; rintro e w6 ⟨rfl, hb6'⟩; have hb6 : Below w5.heap.size w5 w6 := undrew hb6'; have c0 := (hb6.cell (p := ⟨w.heap.size, 0, none⟩) gp).trans d0; have f0 := (hb6.cell (p := ⟨w1.heap.size, 0, none⟩) ga).trans e0; have c1 := (hb6.cell (p := ⟨w.heap.size, 1, none⟩) gp).trans d1; have f1 := (hb6.cell (p := ⟨w1.heap.size, 1, none⟩) ga).trans e1; have c2 := (hb6.cell (p := ⟨w.heap.size, 2, none⟩) gp).trans d2; have f2 := (hb6.cell (p := ⟨w1.heap.size, 2, none⟩) ga).trans e2; have c3 := (hb6.cell (p := ⟨w.heap.size, 3, none⟩) gp).trans d3; have f3 := (hb6.cell (p := ⟨w1.heap.size, 3, none⟩) ga).trans e3; have c4 := (hb6.cell (p := ⟨w.heap.size, 4, none⟩) gp).trans d4; have f4 := (hb6.cell (p := ⟨w1.heap.size, 4, none⟩) ga).trans e4; have c5 := (hb6.cell (p := ⟨w.heap.size, 5, none⟩) gp).trans d5; have f5 := (hb6.cell (p := ⟨w1.heap.size, 5, none⟩) ga).trans e5))
  have bp6 := bp5.below hb6 gp
  have bc6 := bc5.below hb6 bc5.lt
  have hw6 := hw5.trans (hb6.mono hw5.size)
  clear hb6 hb6' bp5 ba5 bc5 c0 c1 c2 c3 c4 c5 f0 f1 f2 f3 f4 f5 d0 d1 d2 d3 d4 d5 e0 e1 e2 e3 e4 e5 gp ga heqK
  have HC6 : Hid (∀ j (h : j < ns.length), w6.cell? ⟨g, off + j, none⟩ = some (.int .i64 (ns[j] : Int))) := fun j h => (hw6.cell hg).trans (unhide HC j h)
  have hl0 : decide ((0 : Int) < (ns.length : Int)) = true := by simp; omega
  go_wp2
  go_loop [14, 106] (fun ok i => ∃ j : Nat, j ≤ ns.length ∧ i = .int .i64 j ∧ ok = .bool true) (fun _ i => ns.length - (intOf i).toNat)
  case atStart => exact ⟨0, Nat.zero_le _, rfl, rfl⟩
  case round =>
    obtain ⟨j, hj, rfl, rfl⟩ := hrel
    by_cases hlt : j < ns.length
    · have dz := unhide HC6 j hlt
      have z8 : ns[j] < 8 := unhide HA _ (List.getElem_mem _)
      obtain ⟨z, hz⟩ : ∃ z, z = ns[j] := ⟨_, rfl⟩
      rw [← hz] at dz z8
      clear hz
      have z0 : decide ((0 : Int) ≤ (z : Int)) = true := by simp
      have z7 : decide ((z : Int) ≤ 7) = true := by simp; omega
      go_wp2
      go_round
      case rel => exact ⟨j + 1, by omega, by go_num, rfl⟩
      case measure => simp [intOf]; omega
    · go_wp2
      go_loopw [16, 140] (fun a i wr => ∃ (m : Nat) (at' : Nat) (h : at' < ns.length), m ≤ ns.length ∧ i = .int .i64 m ∧ a = .int .i64 at' ∧ ns[at'] = bestK C W H ns[0] (ns.take m) ∧ Below w6.heap.size w6 wr) (fun _ i _ => ns.length - (intOf i).toNat)
      case atStart => exact ⟨0, 0, h0, Nat.zero_le _, rfl, rfl, rfl, Below.refl _ _⟩
      case round =>
        obtain ⟨m, a, ha, hm, rfl, rfl, hbest, hbr⟩ := hrel
        have HB := hide hbest
        clear hbest
        have bpr := bp6.below hbr bp6.lt
        have bcr := bc6.below hbr bc6.lt
        have hga : g < wr.heap.size := by have := hw6.size; have := hbr.size; omega
        have HCr : Hid (∀ j (h : j < ns.length), wr.cell? ⟨g, off + j, none⟩ = some (.int .i64 (ns[j] : Int))) := fun j h => (hbr.cell (show g < w6.heap.size by have := hw6.size; omega)).trans (unhide HC6 j h)
        have da := unhide HCr a ha
        have za : ns[a] < 8 := unhide HA _ (List.getElem_mem _)
        obtain ⟨d0, d1, d2, d3, d4, d5⟩ := bpr.cells
        have gpr := bpr.lt
        have a0 : (0 : Int) ≤ (a : Int) := by omega
        have a1 : (a : Int) < (ns.length : Int) := by omega
        obtain ⟨y, hy⟩ : ∃ y, y = ns[a] := ⟨_, rfl⟩
        rw [← hy] at da za
        have HY := hide hy
        clear hy
        by_cases hltm : m < ns.length
        · have dm := unhide HCr m hltm
          have zm : ns[m] < 8 := unhide HA _ (List.getElem_mem _)
          obtain ⟨x, hx⟩ : ∃ x, x = ns[m] := ⟨_, rfl⟩
          rw [← hx] at dm zm
          have HX := hide hx
          clear hx
          have m0 : (0 : Int) ≤ (m : Int) := by omega
          have m1 : (m : Int) < (ns.length : Int) := by omega
          go_wp2
          go_region_held3 (fun w' => w'.cell? ⟨w.heap.size, 0, none⟩ = some (.int .i64 W) ∧ w'.cell? ⟨w.heap.size, 1, none⟩ = some (.int .i64 H) ∧ w'.cell? ⟨w.heap.size, 2, none⟩ = some (.string C) ∧ w'.cell? ⟨w.heap.size, 3, none⟩ = some (.int .i64 T) ∧ w'.cell? ⟨w.heap.size, 4, none⟩ = some (.string A) ∧ w'.cell? ⟨w.heap.size, 5, none⟩ = some (.string B) ∧ w'.cell? ⟨g, off + m, none⟩ = some (.int .i64 (x : Int)) ∧ w'.cell? ⟨g, off + a, none⟩ = some (.int .i64 (y : Int)) ∧ Below w6.heap.size w6 w' ∧ w.heap.size < w'.heap.size ∧ g < w'.heap.size)
            (first
              | (go_keep; done)
              | ((try go_split_ands); (try dsimp only); (repeat' apply And.intro) <;> first
                  | (go_keep; done)
                  | (rw [hb.cell (by dsimp only; assumption)]; assumption)
                  | exact below_call (by assumption) hb
                  | exact Nat.lt_of_lt_of_le (by assumption) hb.size
                  | exact hbr.drew))
            (first
              | (go_at_call 19; refine (round_any _ _ p ?_).mono ?_; assumption; rintro e w7 ⟨rfl, hb⟩)
              | (go_at_call 20; refine (less_any _ _ _ _ _ _ _ _ _ _ _ _ _).mono ?_; rintro e w7 ⟨rfl, hb⟩))
          rename_i hH
          have hbn : Below w6.heap.size w6 w7 := hH.2.2.2.2.2.2.2.2.1
          clear hH hb hbr
          have hstep : bestK C W H ns[0] (ns.take (m + 1)) = stepK C W H y x := by
            rw [List.take_succ_eq_append_getElem hltm, bestK, List.foldl_append, List.foldl_cons, List.foldl_nil]
            show stepK C W H (bestK C W H ns[0] (ns.take m)) ns[m] = _
            rw [← unhide HB, ← unhide HY, ← unhide HX]
          by_cases hkey : keyK C W H x y < 0
          · have hkey' : kcmp (twd W H x : Nat) (thd W H x : Nat) (tstr C W H x).data.toList (twd W H y : Nat) (thd W H y : Nat) (tstr C W H y).data.toList < 0 := hkey
            have R : ns[m] = bestK C W H ns[0] (ns.take (m + 1)) := by rw [hstep, stepK, if_pos hkey]; exact (unhide HX).symm
            clear hstep hkey
            go_wp2
            go_roundw
            case rel => exact ⟨m + 1, m, hltm, by omega, by go_num, rfl, R, hbn⟩
            case measure => simp [intOf]; omega
          · have hkey' : ¬ kcmp (twd W H x : Nat) (thd W H x : Nat) (tstr C W H x).data.toList (twd W H y : Nat) (thd W H y : Nat) (tstr C W H y).data.toList < 0 := hkey
            have R : ns[a] = bestK C W H ns[0] (ns.take (m + 1)) := by rw [hstep, stepK, if_neg hkey]; exact (unhide HY).symm
            clear hstep hkey
            go_wp2
            go_roundw
            case rel => exact ⟨m + 1, a, ha, by omega, by go_num, rfl, R, hbn⟩
            case measure => simp [intOf]; omega
        · have hbe : bestK C W H ns[0] ns = y := by
            rw [unhide HY, unhide HB, List.take_of_length_le (by omega)]
          rw [hbe] at bcr ⊢
          clear hbe
          obtain ⟨e0, e1, e2, e3, e4, e5⟩ := bcr.cells
          have gcr := bcr.lt
          have heqY := fun w => (eqPos w (twd W H y : Nat) (thd W H y : Nat) T (twd W H y : Nat) (thd W H y : Nat) T (tstr C W H y) A B (tstr C W H y) A B)
          simp only [samePos_refl] at heqY
          go_wp2
          go_region_held3 (fun w' => w'.cell? ⟨w.heap.size, 0, none⟩ = some (.int .i64 W) ∧ w'.cell? ⟨w.heap.size, 1, none⟩ = some (.int .i64 H) ∧ w'.cell? ⟨w.heap.size, 2, none⟩ = some (.string C) ∧ w'.cell? ⟨w.heap.size, 3, none⟩ = some (.int .i64 T) ∧ w'.cell? ⟨w.heap.size, 4, none⟩ = some (.string A) ∧ w'.cell? ⟨w.heap.size, 5, none⟩ = some (.string B) ∧ w'.cell? ⟨w3.heap.size, 0, none⟩ = some (.int .i64 (twd W H y : Nat)) ∧ w'.cell? ⟨w3.heap.size, 1, none⟩ = some (.int .i64 (thd W H y : Nat)) ∧ w'.cell? ⟨w3.heap.size, 2, none⟩ = some (.string (tstr C W H y)) ∧ w'.cell? ⟨w3.heap.size, 3, none⟩ = some (.int .i64 T) ∧ w'.cell? ⟨w3.heap.size, 4, none⟩ = some (.string A) ∧ w'.cell? ⟨w3.heap.size, 5, none⟩ = some (.string B) ∧ w'.cell? ⟨g, off + a, none⟩ = some (.int .i64 (y : Int)) ∧ Below w6.heap.size w6 w' ∧ w.heap.size < w'.heap.size ∧ g < w'.heap.size ∧ w3.heap.size < w'.heap.size)
            (first
              | (go_keep; done)
              | ((try go_split_ands); (try dsimp only); (repeat' apply And.intro) <;> first
                  | (go_keep; done)
                  | (rw [hb.cell (by dsimp only; assumption)]; assumption)
                  | exact below_call (by assumption) hb
                  | exact Nat.lt_of_lt_of_le (by assumption) hb.size
                  | exact hbr.drew))
            (first
              | (go_at_call 19; refine (round_any _ _ p ?_).mono ?_; assumption; rintro e w7 ⟨rfl, hb⟩))
          rename_i hH
          have hbn : Below w6.heap.size w6 w7 := hH.2.2.2.2.2.2.2.2.2.2.2.2.2.1
          clear hH hb hbr
          go_wp2
          go_ret
          exact ⟨ret_bool (by simp), hw6.trans (hbn.mono hw6.size)⟩

end Go.Proofs.Ytbcedjjocpjkjaa
