/-
  gamelaw.BoardTurns, walked: a position, a turn k, a list of turns.
-/
import Derived.Test.YtbcedjjocpjkjaaW26A
namespace Go.Proofs.Ytbcedjjocpjkjaa
open Go.RowKit
attribute [local go_sem ↓] Go.wp_at_zero Go.wp_at_succ

set_option maxHeartbeats 1000000 in
set_option maxRecDepth 100000 in
theorem turns_b {W H : Nat} {T : Int} {C A B : ByteArray} (k : Nat) (g off cap : Nat) (zs : List Int) (w : World) (p : IsPos W H C T A B) (hk : k < 8) (hn : zs.length ≤ maxLen) (h0 : 0 < zs.length) (hall : zs.all turnB = false) (hg : g < w.heap.size)
    (hc : ∀ j (h : j < zs.length), w.cell? ⟨g, off + j, none⟩ = some (.int .i64 zs[j])) :
    Calls Try.prog 4 #[.agg #[.int .i64 W, .int .i64 H, .string C, .int .i64 T, .string A, .string B], .int .i64 k, .slice (some ⟨g, off, none⟩) zs.length cap] w fun e w' => e = .returned (.bool true) ∧ Below w.heap.size w w' := by
  have mA : A.size ≤ maxLen := by have := p.as; unfold maxLen; omega
  have mB : B.size ≤ maxLen := by have := p.bs; unfold maxLen; omega
  have HP := hide p.posB
  have hn' : zs.length ≤ 9223372036854775807 := by unfold maxLen at hn; exact hn
  have HC := hide hc
  have HA := hide hall
  clear hc hall
  have heqS := fun w => (eqPos w W H (1 - T) W H (1 - T) (sstr C W H) B A (sstr C W H) B A)
  have k0 : (0 : Int) ≤ (k : Int) := by omega
  have k7 : (k : Int) ≤ 7 := by omega
  have heqK := fun w => (eqPos w (twd W H k : Nat) (thd W H k : Nat) T (twd W H k : Nat) (thd W H k : Nat) T (tstr C W H k) A B (tstr C W H k) A B)
  have heq0 := fun w => (eqPos w 0 0 0 0 0 0 ⟨#[]⟩ ⟨#[]⟩ ⟨#[]⟩ ⟨#[]⟩ ⟨#[]⟩ ⟨#[]⟩)
  simp only [samePos_refl] at heqS heqK heq0
  go_enter Try.func4, Try.ntmps4
  go_wp2_with fail
  refine (Turned_ok _ hk p).mono ?_
  rintro e w1 ⟨rfl, hb1⟩
  have bp1 := isBox.fresh hb1
  have hw1 : Below w.heap.size w w1 := below_on (Below.refl _ _) (Nat.le_refl _) hb1
  clear hb1
  obtain ⟨d0, d1, d2, d3, d4, d5⟩ := bp1.cells'
  go_wp2_with fail
  refine (Swapped_ok _ p).mono ?_
  rintro e w2 ⟨rfl, hb2⟩
  have bp2 := bp1.on hb2
  have ba2 := isBox.fresh hb2
  have hw2 := below_on hw1 hw1.size hb2
  clear hb2 bp1 d0 d1 d2 d3 d4 d5
  obtain ⟨d0, d1, d2, d3, d4, d5⟩ := bp2.cells'
  go_wp2_with fail
  refine (Least_nok _ _ p (fun wx hx => (areTurns_any g off cap zs wx hn h0 (fun j h => (((hw2.alloc hw2.size _).trans (hx.mono (by have := hw2.size; simp; omega))).cell (show g < w.heap.size from hg)).trans (unhide HC j h))).mono (fun e w' ⟨x, y⟩ => ⟨by rw [x, unhide HA], y.symm⟩))).mono ?_
  rintro e w3 ⟨rfl, hb3⟩
  have bp3 := bp2.on hb3
  have ba3 := ba2.on hb3
  have bb3 := isBox.fresh hb3
  have hw3 := below_on hw2 hw2.size hb3
  clear hb3 bp2 ba2 d0 d1 d2 d3 d4 d5
  obtain ⟨d0, d1, d2, d3, d4, d5⟩ := bp3.cells'
  go_wp2_with fail
  refine (refPosition_any _ _ _ _ _ _ _ mA mB).mono ?_
  rintro e w4 ⟨rfl, hb4⟩
  rw [unhide HP]
  have bp4 := bp3.on hb4
  have ba4 := ba3.on hb4
  have bb4 := bb3.on hb4
  have bc4 := isBox.fresh hb4
  have hw4 := below_on hw3 hw3.size hb4
  clear hb4 bp3 ba3 bb3 d0 d1 d2 d3 d4 d5
  obtain ⟨d0, d1, d2, d3, d4, d5⟩ := bp4.cells
  obtain ⟨e0, e1, e2, e3, e4, e5⟩ := bb4.cells
  have gp := bp4.lt
  have gb := bb4.lt
  go_wp2
  go_region_held3 (fun w' => w'.cell? ⟨w.heap.size, 0, none⟩ = some (.int .i64 W) ∧ w'.cell? ⟨w.heap.size, 1, none⟩ = some (.int .i64 H) ∧ w'.cell? ⟨w.heap.size, 2, none⟩ = some (.string C) ∧ w'.cell? ⟨w.heap.size, 3, none⟩ = some (.int .i64 T) ∧ w'.cell? ⟨w.heap.size, 4, none⟩ = some (.string A) ∧ w'.cell? ⟨w.heap.size, 5, none⟩ = some (.string B) ∧ w'.cell? ⟨w2.heap.size, 0, none⟩ = some (.int .i64 W) ∧ w'.cell? ⟨w2.heap.size, 1, none⟩ = some (.int .i64 H) ∧ w'.cell? ⟨w2.heap.size, 2, none⟩ = some (.string (sstr C W H)) ∧ w'.cell? ⟨w2.heap.size, 3, none⟩ = some (.int .i64 (1 - T)) ∧ w'.cell? ⟨w2.heap.size, 4, none⟩ = some (.string B) ∧ w'.cell? ⟨w2.heap.size, 5, none⟩ = some (.string A))
    (go_keep)
    (first
      | (go_at_call 18; refine (exchanged_any _ p).mono ?_; rintro e w5 ⟨rfl, hb5'⟩; have hb5 : Below w4.heap.size w4 w5 := undrew hb5'; have c0 := (hb5.cell (p := ⟨w.heap.size, 0, none⟩) gp).trans d0; have f0 := (hb5.cell (p := ⟨w2.heap.size, 0, none⟩) gb).trans e0; have c1 := (hb5.cell (p := ⟨w.heap.size, 1, none⟩) gp).trans d1; have f1 := (hb5.cell (p := ⟨w2.heap.size, 1, none⟩) gb).trans e1; have c2 := (hb5.cell (p := ⟨w.heap.size, 2, none⟩) gp).trans d2; have f2 := (hb5.cell (p := ⟨w2.heap.size, 2, none⟩) gb).trans e2; have c3 := (hb5.cell (p := ⟨w.heap.size, 3, none⟩) gp).trans d3; have f3 := (hb5.cell (p := ⟨w2.heap.size, 3, none⟩) gb).trans e3; have c4 := (hb5.cell (p := ⟨w.heap.size, 4, none⟩) gp).trans d4; have f4 := (hb5.cell (p := ⟨w2.heap.size, 4, none⟩) gb).trans e4; have c5 := (hb5.cell (p := ⟨w.heap.size, 5, none⟩) gp).trans d5; have f5 := (hb5.cell (p := ⟨w2.heap.size, 5, none⟩) gb).trans e5))
  have bp5 := bp4.below hb5 gp
  have ba5 := ba4.below hb5 ba4.lt
  have bc5 := bc4.below hb5 bc4.lt
  have hw5 := hw4.trans (hb5.mono hw4.size)
  clear hb5 hb5' bp4 ba4 bb4 bc4 c0 c1 c2 c3 c4 c5 f0 f1 f2 f3 f4 f5 d0 d1 d2 d3 d4 d5 e0 e1 e2 e3 e4 e5 gp gb heqS
  obtain ⟨d0, d1, d2, d3, d4, d5⟩ := bp5.cells
  obtain ⟨e0, e1, e2, e3, e4, e5⟩ := ba5.cells
  have gp := bp5.lt
  have ga := ba5.lt
  go_wp2
  go_region_held3 (fun w' => w'.cell? ⟨w.heap.size, 0, none⟩ = some (.int .i64 W) ∧ w'.cell? ⟨w.heap.size, 1, none⟩ = some (.int .i64 H) ∧ w'.cell? ⟨w.heap.size, 2, none⟩ = some (.string C) ∧ w'.cell? ⟨w.heap.size, 3, none⟩ = some (.int .i64 T) ∧ w'.cell? ⟨w.heap.size, 4, none⟩ = some (.string A) ∧ w'.cell? ⟨w.heap.size, 5, none⟩ = some (.string B) ∧ w'.cell? ⟨w1.heap.size, 0, none⟩ = some (.int .i64 (twd W H k : Nat)) ∧ w'.cell? ⟨w1.heap.size, 1, none⟩ = some (.int .i64 (thd W H k : Nat)) ∧ w'.cell? ⟨w1.heap.size, 2, none⟩ = some (.string (tstr C W H k)) ∧ w'.cell? ⟨w1.heap.size, 3, none⟩ = some (.int .i64 T) ∧ w'.cell? ⟨w1.heap.size, 4, none⟩ = some (.string A) ∧ w'.cell? ⟨w1.heap.size, 5, none⟩ = some (.string B))
    (go_keep)
    (first
      | (go_at_call 19; refine (round_any k _ p hk).mono ?_; rintro e w6 ⟨rfl, hb6'⟩; have hb6 : Below w5.heap.size w5 w6 := undrew hb6'; have c0 := (hb6.cell (p := ⟨w.heap.size, 0, none⟩) gp).trans d0; have f0 := (hb6.cell (p := ⟨w1.heap.size, 0, none⟩) ga).trans e0; have c1 := (hb6.cell (p := ⟨w.heap.size, 1, none⟩) gp).trans d1; have f1 := (hb6.cell (p := ⟨w1.heap.size, 1, none⟩) ga).trans e1; have c2 := (hb6.cell (p := ⟨w.heap.size, 2, none⟩) gp).trans d2; have f2 := (hb6.cell (p := ⟨w1.heap.size, 2, none⟩) ga).trans e2; have c3 := (hb6.cell (p := ⟨w.heap.size, 3, none⟩) gp).trans d3; have f3 := (hb6.cell (p := ⟨w1.heap.size, 3, none⟩) ga).trans e3; have c4 := (hb6.cell (p := ⟨w.heap.size, 4, none⟩) gp).trans d4; have f4 := (hb6.cell (p := ⟨w1.heap.size, 4, none⟩) ga).trans e4; have c5 := (hb6.cell (p := ⟨w.heap.size, 5, none⟩) gp).trans d5; have f5 := (hb6.cell (p := ⟨w1.heap.size, 5, none⟩) ga).trans e5))
  have bp6 := bp5.below hb6 gp
  have bc6 := bc5.below hb6 bc5.lt
  have hw6 := hw5.trans (hb6.mono hw5.size)
  clear hb6 hb6' bp5 ba5 bc5 c0 c1 c2 c3 c4 c5 f0 f1 f2 f3 f4 f5 d0 d1 d2 d3 d4 d5 e0 e1 e2 e3 e4 e5 gp ga heqK
  have HC6 : Hid (∀ j (h : j < zs.length), w6.cell? ⟨g, off + j, none⟩ = some (.int .i64 zs[j])) := fun j h => (hw6.cell hg).trans (unhide HC j h)
  have hl0 : decide ((0 : Int) < (zs.length : Int)) = true := by simp; omega
  obtain ⟨f0, f1, f2, f3, f4, f5⟩ := bc6.cells
  go_wp2
  go_loop [14, 106] (fun ok i => ∃ j : Nat, j ≤ zs.length ∧ i = .int .i64 j ∧ ok = .bool ((zs.take j).all turnB)) (fun _ i => zs.length - (intOf i).toNat)
  case atStart => exact ⟨0, Nat.zero_le _, rfl, rfl⟩
  case round =>
    obtain ⟨j, hj, rfl, rfl⟩ := hrel
    by_cases hlt : j < zs.length
    · have dz := unhide HC6 j hlt
      have hsn : (zs.take (j + 1)).all turnB = ((zs.take j).all turnB && turnB zs[j]) := by
        rw [List.take_succ_eq_append_getElem hlt, List.all_append]; simp
      obtain ⟨z, hz⟩ : ∃ z, z = zs[j] := ⟨_, rfl⟩
      rw [← hz] at dz hsn
      clear hz
      have HSN := hide hsn
      clear hsn
      cases hok : (zs.take j).all turnB with
      | false =>
        go_wp2
        go_round
        case rel => exact ⟨j + 1, by omega, by go_num, by rw [unhide HSN, hok]; rfl⟩
        case measure => simp [intOf]; omega
      | true =>
        by_cases hz0 : (0 : Int) ≤ z
        · have hd : decide ((0 : Int) ≤ z) = true := by simpa using hz0
          go_wp2
          go_round
          case rel => exact ⟨j + 1, by omega, by go_num, by rw [unhide HSN, hok]; exact congrArg Value.bool (turn7 hz0)⟩
          case measure => simp [intOf]; omega
        · have hd : decide ((0 : Int) ≤ z) = false := by simpa using hz0
          go_wp2
          go_round
          case rel => exact ⟨j + 1, by omega, by go_num, by rw [unhide HSN, hok]; exact congrArg Value.bool (turnNeg hz0)⟩
          case measure => simp [intOf]; omega
    · have hf : (zs.take j).all turnB = false := by rw [List.take_of_length_le (by omega)]; exact unhide HA
      go_wp2
      go_ret
      exact ⟨ret_bool (by simp), hw6⟩

set_option maxHeartbeats 1000000 in
set_option maxRecDepth 100000 in
theorem turns_c {W H : Nat} {T : Int} {C A B : ByteArray} (k : Nat) (ao : Option Addr) (cap : Nat) (w : World) (p : IsPos W H C T A B) (hk : k < 8) :
    Calls Try.prog 4 #[.agg #[.int .i64 W, .int .i64 H, .string C, .int .i64 T, .string A, .string B], .int .i64 k, .slice ao 0 cap] w fun e w' => e = .returned (.bool true) ∧ Below w.heap.size w w' := by
  have mA : A.size ≤ maxLen := by have := p.as; unfold maxLen; omega
  have mB : B.size ≤ maxLen := by have := p.bs; unfold maxLen; omega
  have HP := hide p.posB
  have heqS := fun w => (eqPos w W H (1 - T) W H (1 - T) (sstr C W H) B A (sstr C W H) B A)
  have k0 : (0 : Int) ≤ (k : Int) := by omega
  have k7 : (k : Int) ≤ 7 := by omega
  have heqK := fun w => (eqPos w (twd W H k : Nat) (thd W H k : Nat) T (twd W H k : Nat) (thd W H k : Nat) T (tstr C W H k) A B (tstr C W H k) A B)
  have heq0 := fun w => (eqPos w 0 0 0 0 0 0 ⟨#[]⟩ ⟨#[]⟩ ⟨#[]⟩ ⟨#[]⟩ ⟨#[]⟩ ⟨#[]⟩)
  simp only [samePos_refl] at heqS heqK heq0
  go_enter Try.func4, Try.ntmps4
  go_wp2_with fail
  refine (Turned_ok _ hk p).mono ?_
  rintro e w1 ⟨rfl, hb1⟩
  have bp1 := isBox.fresh hb1
  have hw1 : Below w.heap.size w w1 := below_on (Below.refl _ _) (Nat.le_refl _) hb1
  clear hb1
  obtain ⟨d0, d1, d2, d3, d4, d5⟩ := bp1.cells'
  go_wp2_with fail
  refine (Swapped_ok _ p).mono ?_
  rintro e w2 ⟨rfl, hb2⟩
  have bp2 := bp1.on hb2
  have ba2 := isBox.fresh hb2
  have hw2 := below_on hw1 hw1.size hb2
  clear hb2 bp1 d0 d1 d2 d3 d4 d5
  obtain ⟨d0, d1, d2, d3, d4, d5⟩ := bp2.cells'
  go_wp2_with fail
  refine (Least_nok _ _ p (fun wx _ => areTurns_empty ao cap wx)).mono ?_
  rintro e w3 ⟨rfl, hb3⟩
  have bp3 := bp2.on hb3
  have ba3 := ba2.on hb3
  have bb3 := isBox.fresh hb3
  have hw3 := below_on hw2 hw2.size hb3
  clear hb3 bp2 ba2 d0 d1 d2 d3 d4 d5
  obtain ⟨d0, d1, d2, d3, d4, d5⟩ := bp3.cells'
  go_wp2_with fail
  refine (refPosition_any _ _ _ _ _ _ _ mA mB).mono ?_
  rintro e w4 ⟨rfl, hb4⟩
  rw [unhide HP]
  have bp4 := bp3.on hb4
  have ba4 := ba3.on hb4
  have bb4 := bb3.on hb4
  have bc4 := isBox.fresh hb4
  have hw4 := below_on hw3 hw3.size hb4
  clear hb4 bp3 ba3 bb3 d0 d1 d2 d3 d4 d5
  obtain ⟨d0, d1, d2, d3, d4, d5⟩ := bp4.cells
  obtain ⟨e0, e1, e2, e3, e4, e5⟩ := bb4.cells
  have gp := bp4.lt
  have gb := bb4.lt
  go_wp2
  go_region_held3 (fun w' => w'.cell? ⟨w.heap.size, 0, none⟩ = some (.int .i64 W) ∧ w'.cell? ⟨w.heap.size, 1, none⟩ = some (.int .i64 H) ∧ w'.cell? ⟨w.heap.size, 2, none⟩ = some (.string C) ∧ w'.cell? ⟨w.heap.size, 3, none⟩ = some (.int .i64 T) ∧ w'.cell? ⟨w.heap.size, 4, none⟩ = some (.string A) ∧ w'.cell? ⟨w.heap.size, 5, none⟩ = some (.string B) ∧ w'.cell? ⟨w2.heap.size, 0, none⟩ = some (.int .i64 W) ∧ w'.cell? ⟨w2.heap.size, 1, none⟩ = some (.int .i64 H) ∧ w'.cell? ⟨w2.heap.size, 2, none⟩ = some (.string (sstr C W H)) ∧ w'.cell? ⟨w2.heap.size, 3, none⟩ = some (.int .i64 (1 - T)) ∧ w'.cell? ⟨w2.heap.size, 4, none⟩ = some (.string B) ∧ w'.cell? ⟨w2.heap.size, 5, none⟩ = some (.string A))
    (go_keep)
    (first
      | (go_at_call 18; refine (exchanged_any _ p).mono ?_; rintro e w5 ⟨rfl, hb5'⟩; have hb5 : Below w4.heap.size w4 w5 := undrew hb5'; have c0 := (hb5.cell (p := ⟨w.heap.size, 0, none⟩) gp).trans d0; have f0 := (hb5.cell (p := ⟨w2.heap.size, 0, none⟩) gb).trans e0; have c1 := (hb5.cell (p := ⟨w.heap.size, 1, none⟩) gp).trans d1; have f1 := (hb5.cell (p := ⟨w2.heap.size, 1, none⟩) gb).trans e1; have c2 := (hb5.cell (p := ⟨w.heap.size, 2, none⟩) gp).trans d2; have f2 := (hb5.cell (p := ⟨w2.heap.size, 2, none⟩) gb).trans e2; have c3 := (hb5.cell (p := ⟨w.heap.size, 3, none⟩) gp).trans d3; have f3 := (hb5.cell (p := ⟨w2.heap.size, 3, none⟩) gb).trans e3; have c4 := (hb5.cell (p := ⟨w.heap.size, 4, none⟩) gp).trans d4; have f4 := (hb5.cell (p := ⟨w2.heap.size, 4, none⟩) gb).trans e4; have c5 := (hb5.cell (p := ⟨w.heap.size, 5, none⟩) gp).trans d5; have f5 := (hb5.cell (p := ⟨w2.heap.size, 5, none⟩) gb).trans e5))
  have bp5 := bp4.below hb5 gp
  have ba5 := ba4.below hb5 ba4.lt
  have bc5 := bc4.below hb5 bc4.lt
  have hw5 := hw4.trans (hb5.mono hw4.size)
  clear hb5 hb5' bp4 ba4 bb4 bc4 c0 c1 c2 c3 c4 c5 f0 f1 f2 f3 f4 f5 d0 d1 d2 d3 d4 d5 e0 e1 e2 e3 e4 e5 gp gb heqS
  obtain ⟨d0, d1, d2, d3, d4, d5⟩ := bp5.cells
  obtain ⟨e0, e1, e2, e3, e4, e5⟩ := ba5.cells
  have gp := bp5.lt
  have ga := ba5.lt
  go_wp2
  go_region_held3 (fun w' => w'.cell? ⟨w.heap.size, 0, none⟩ = some (.int .i64 W) ∧ w'.cell? ⟨w.heap.size, 1, none⟩ = some (.int .i64 H) ∧ w'.cell? ⟨w.heap.size, 2, none⟩ = some (.string C) ∧ w'.cell? ⟨w.heap.size, 3, none⟩ = some (.int .i64 T) ∧ w'.cell? ⟨w.heap.size, 4, none⟩ = some (.string A) ∧ w'.cell? ⟨w.heap.size, 5, none⟩ = some (.string B) ∧ w'.cell? ⟨w1.heap.size, 0, none⟩ = some (.int .i64 (twd W H k : Nat)) ∧ w'.cell? ⟨w1.heap.size, 1, none⟩ = some (.int .i64 (thd W H k : Nat)) ∧ w'.cell? ⟨w1.heap.size, 2, none⟩ = some (.string (tstr C W H k)) ∧ w'.cell? ⟨w1.heap.size, 3, none⟩ = some (.int .i64 T) ∧ w'.cell? ⟨w1.heap.size, 4, none⟩ = some (.string A) ∧ w'.cell? ⟨w1.heap.size, 5, none⟩ = some (.string B))
    (go_keep)
    (first
      | (go_at_call 19; refine (round_any k _ p hk).mono ?_; rintro e w6 ⟨rfl, hb6'⟩; have hb6 : Below w5.heap.size w5 w6 := undrew hb6'; have c0 := (hb6.cell (p := ⟨w.heap.size, 0, none⟩) gp).trans d0; have f0 := (hb6.cell (p := ⟨w1.heap.size, 0, none⟩) ga).trans e0; have c1 := (hb6.cell (p := ⟨w.heap.size, 1, none⟩) gp).trans d1; have f1 := (hb6.cell (p := ⟨w1.heap.size, 1, none⟩) ga).trans e1; have c2 := (hb6.cell (p := ⟨w.heap.size, 2, none⟩) gp).trans d2; have f2 := (hb6.cell (p := ⟨w1.heap.size, 2, none⟩) ga).trans e2; have c3 := (hb6.cell (p := ⟨w.heap.size, 3, none⟩) gp).trans d3; have f3 := (hb6.cell (p := ⟨w1.heap.size, 3, none⟩) ga).trans e3; have c4 := (hb6.cell (p := ⟨w.heap.size, 4, none⟩) gp).trans d4; have f4 := (hb6.cell (p := ⟨w1.heap.size, 4, none⟩) ga).trans e4; have c5 := (hb6.cell (p := ⟨w.heap.size, 5, none⟩) gp).trans d5; have f5 := (hb6.cell (p := ⟨w1.heap.size, 5, none⟩) ga).trans e5))
  have bp6 := bp5.below hb6 gp
  have bc6 := bc5.below hb6 bc5.lt
  have hw6 := hw5.trans (hb6.mono hw5.size)
  clear hb6 hb6' bp5 ba5 bc5 c0 c1 c2 c3 c4 c5 f0 f1 f2 f3 f4 f5 d0 d1 d2 d3 d4 d5 e0 e1 e2 e3 e4 e5 gp ga heqK
  obtain ⟨f0, f1, f2, f3, f4, f5⟩ := bc6.cells
  go_wp2
  refine wp_loop_rounds 1 ?_
  rw [rounds_succ]
  go_wp2
  go_ret
  exact ⟨ret_bool (by simp), hw6⟩

end Go.Proofs.Ytbcedjjocpjkjaa
