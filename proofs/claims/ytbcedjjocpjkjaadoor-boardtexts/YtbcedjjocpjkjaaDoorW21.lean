/-
  gameref.Position, walked: is it a position?
-/
import Derived.Test.YtbcedjjocpjkjaaDoorW20
namespace Go.Proofs.YtbcedjjocpjkjaaDoor
open Go.RowKit

theorem cell1 {c : Int} (h : c = 46) : cellB c = true := by simp [cellB, h]
theorem cell2 {c : Int} (h : capB c = true) : cellB c = true := by simp [cellB, h]
theorem cell3 {c : Int} (h : (c != 46) = false ∨ (!smallB c) = false) : cellB c = true := by
  rw [cellB_alt]
  rcases h with h | h
  · simp only [bne_eq_false_iff_eq] at h; simp [h]
  · simp only [Bool.not_eq_false'] at h; simp [h]
theorem cell4 {c : Int} (h : ¬ capB c = true) (h' : (c != 46) = true ∧ (!smallB c) = true) : cellB c = false := by
  rw [cellB_alt]
  simp only [bne_iff_ne, ne_eq, Bool.not_eq_true', Bool.not_eq_true] at h h'
  simp [h, h'.1, h'.2]

set_option maxHeartbeats 2000000 in
theorem refPosition_rest {W H : Nat} {T : Int} {C A B : ByteArray} (w : World) (hA : A.size ≤ maxLen) (hB : B.size ≤ maxLen) (h : headB W H C.size T A.data.toList B.data.toList = true) :
    Calls Tryd.prog 7 #[.agg #[.int .i64 W, .int .i64 H, .string C, .int .i64 T, .string A, .string B]] w fun e w' => e = .returned (.bool (cellsB C.data.toList)) ∧ Below w.heap.size w w' := by
  simp only [headB, sideB, Bool.and_eq_true, Bool.or_eq_true, decide_eq_true_eq] at h
  obtain ⟨⟨⟨⟨⟨⟨w0, w1⟩, h0, h1⟩, hc⟩, ht⟩, ha⟩, hb⟩ := h
  have w1' : W ≤ 8 := by omega
  have h1' : H ≤ 8 := by omega
  have hm : W * H ≤ 64 := Nat.mul_le_mul w1' h1'
  have hcs : ((C.size : Int) != (W : Int) * (H : Int)) = false := by simpa using hc
  have h64 : C.size ≤ 64 := by have : ((W * H : Nat) : Int) = (W : Int) * H := by simp
                               omega
  clear hc
  have hd1 : decide ((W : Int) < 1) = false := by simp; omega
  have hd2 : decide ((8 : Int) < (W : Int)) = false := by simp; omega
  have hd3 : decide ((H : Int) < 1) = false := by simp; omega
  have hd4 : decide ((8 : Int) < (H : Int)) = false := by simp; omega
  clear w0 w1 h0 h1 w1' h1'
  rcases ht with rfl | rfl
  all_goals
    go_enter Tryd.func7, Tryd.ntmps7
    go_wp2_with (go_at_call 17; refine (refHand_any _ _ ?_).mono ?_; assumption; rintro e w' ⟨rfl, n, rfl⟩)
    go_loop [3] (fun i => ∃ k : Nat, k ≤ C.size ∧ i = .int .i64 k ∧ cellsB (C.data.toList.take k) = true) (fun i => C.size - (intOf i).toNat)
    case atStart => exact ⟨0, Nat.zero_le _, rfl, rfl⟩
    case round =>
      obtain ⟨k, hk, rfl, hcl⟩ := hrel
      have HC := hide hcl
      clear hcl
      by_cases hlt : k < C.size
      · have HS := hide (take_snoc C k hlt)
        go_wp2_with (first | (go_at_call 18; refine (Big_any _ _).mono ?_; rintro e w' ⟨rfl, rfl⟩) | (go_at_call 19; refine (Small_any _ _).mono ?_; rintro e w' ⟨rfl, rfl⟩))
        all_goals first
          | (have hx : cellB ↑C[k].toNat = true := (by first | exact cell1 (by assumption) | exact cell2 (by assumption) | exact cell3 (by assumption))
             refine ⟨⟨k + 1, by omega, by go_num, ?_⟩, by simp [intOf]; omega⟩
             rw [unhide HS, cellsB_snoc, unhide HC, hx]; rfl)
          | (have hx : cellB ↑C[k].toNat = false := cell4 (by assumption) (by assumption)
             go_ret
             refine ⟨ret_bool (cellsB_take (k + 1) (by rw [unhide HS, cellsB_snoc, hx, Bool.and_false])).symm, ?_⟩
             first
               | exact (Below.refl _ _).alloc (Nat.le_refl _) _
               | exact below_drewN ((Below.refl _ _).alloc (Nat.le_refl _) _) _
               | exact below_drewN (below_drewN ((Below.refl _ _).alloc (Nat.le_refl _) _) _) _)
      · go_wp2
        go_ret
        have h1 := unhide HC
        rw [take_all C k (by omega)] at h1
        refine ⟨ret_bool h1.symm, ?_⟩
        first
          | exact (Below.refl _ _).alloc (Nat.le_refl _) _
          | exact below_drewN ((Below.refl _ _).alloc (Nat.le_refl _) _) _
          | exact below_drewN (below_drewN ((Below.refl _ _).alloc (Nat.le_refl _) _) _) _

theorem refPosition_any (W H T : Int) (C A B : ByteArray) (w : World) (hA : A.size ≤ maxLen) (hB : B.size ≤ maxLen) :
    Calls Tryd.prog 7 #[.agg #[.int .i64 W, .int .i64 H, .string C, .int .i64 T, .string A, .string B]] w fun e w' => e = .returned (.bool (posB W H C.data.toList T A.data.toList B.data.toList)) ∧ Below w.heap.size w w' := by
  rw [posB_alt, len_data]
  cases h : headB W H C.size T A.data.toList B.data.toList with
  | false => exact refPosition_head W H T C A B w hA hB h
  | true =>
    have h' := h
    simp only [headB, sideB, Bool.and_eq_true, decide_eq_true_eq] at h
    obtain ⟨W', rfl⟩ := Int.eq_ofNat_of_zero_le (show 0 ≤ W by omega)
    obtain ⟨H', rfl⟩ := Int.eq_ofNat_of_zero_le (show 0 ≤ H by omega)
    exact refPosition_rest w hA hB h'
end Go.Proofs.YtbcedjjocpjkjaaDoor
