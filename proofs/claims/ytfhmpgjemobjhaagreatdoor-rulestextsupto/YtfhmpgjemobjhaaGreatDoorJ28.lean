/-
  What package gameref asks of a position, walked: Big, Small, hand, Position: the same as board.Check asks.
  gameref.Position, walked: is it a position?
-/
import Derived.Test.YtfhmpgjemobjhaaGreatDoorJ1
namespace Go.Proofs.YtfhmpgjemobjhaaGreatDoor
open Go.RowKit

def smallB (c : Int) : Bool := decide (97 ≤ c) && decide (c ≤ 122)

set_option maxHeartbeats 400000 in
theorem Big_any (c : Int) (w : World) :
    Calls Tryz.prog 22 #[.int .u8 c] w fun e w' => e = .returned (.bool (capB c)) ∧ w' = w := by
  go_enter Tryz.func22, Tryz.ntmps22
  go_wp2
  all_goals go_ret
  all_goals refine ⟨ret_bool ?_, rfl⟩
  all_goals (unfold capB; simp; try omega)

set_option maxHeartbeats 400000 in
theorem Small_any (c : Int) (w : World) :
    Calls Tryz.prog 53 #[.int .u8 c] w fun e w' => e = .returned (.bool (smallB c)) ∧ w' = w := by
  go_enter Tryz.func53, Tryz.ntmps53
  go_wp2
  all_goals go_ret
  all_goals refine ⟨ret_bool ?_, rfl⟩
  all_goals (unfold smallB; simp; try omega)

/-- The byte ahead of the k-th one, or 'A'. -/
def prevI (s : ByteArray) (k : Nat) : Int := if k = 0 then 65 else ((s.data.toList.getD (k - 1) 0).toNat : Int)
theorem prevI_succ (s : ByteArray) (k : Nat) (h : k < s.size) : prevI s (k + 1) = (s[k].toNat : Int) := by
  unfold prevI
  rw [if_neg (by omega), Nat.add_sub_cancel, List.getD_eq_getElem?_getD, List.getElem?_eq_getElem (by rw [len_data]; exact h)]
  rfl

set_option maxHeartbeats 1000000 in
theorem refHand_any (s : ByteArray) (w : World) (hs : s.size ≤ maxLen) :
    Calls Tryz.prog 52 #[.string s] w fun e w' => e = .returned (.bool (handB s.data.toList)) ∧ ∃ n, w' = w.drewN n := by
  unfold maxLen at hs
  by_cases hn : s.size ≤ 8
  · go_enter Tryz.func52, Tryz.ntmps52
    go_wp2
    go_loopw [3] (fun i wr => ∃ (k : Nat), k ≤ s.size ∧ i = .int .i64 k ∧ handB s.data.toList = capsB (prevI s k) (s.data.toList.drop k) ∧ ∃ n, wr = w.drewN n) (fun i _ => s.size - (intOf i).toNat)
    case atStart => exact ⟨0, Nat.zero_le _, rfl, by simp [handB, hn, prevI], 0, rfl⟩
    case round =>
      obtain ⟨k, hk, rfl, hc, hw⟩ := hrel
      have HW : Hid (∀ m, ∃ n, wr.drewN m = w.drewN n) := by
        obtain ⟨n, hn'⟩ := hw
        exact fun m => ⟨n + m, by rw [hn', World.drewN_drewN]⟩
      have HW0 := hide hw
      have HC := hide hc
      clear hc hw
      by_cases hlt : k < s.size
      · have HS := hide (drop_cons s k hlt)
        have HP := hide (prevI_succ s k hlt)
        have i0 : (0 : Int) ≤ (k : Int) := by omega
        have i1 : (k : Int) < (s.size : Int) := by omega
        cases hcap : capB ↑s[k].toNat with
        | false =>
          go_wp2
          go_quiet ((go_at_call 22; exact Calls.quiet_of_same (Big_any _ _)))
          go_wp2
          go_ret
          exact ⟨ret_bool (by rw [unhide HC, unhide HS]; simp [capsB, hcap]), unhide HW _⟩
        | true =>
          by_cases hk0 : k = 0
          · subst hk0
            have HP0 : Hid (prevI s 0 = 65) := rfl
            go_wp2
            go_quiet ((go_at_call 22; exact Calls.quiet_of_same (Big_any _ _)))
            go_wp2
            go_roundw
            case rel =>
              refine ⟨0 + 1, by omega, by go_num, ?_, unhide HW _⟩
              rw [unhide HC, unhide HS, unhide HP, unhide HP0]
              have h65 : (65 : Int) ≤ ↑s[0].toNat := by simp only [capB, Bool.and_eq_true, decide_eq_true_eq] at hcap; exact hcap.1
              simp [capsB, hcap, h65]
            case measure => simp [intOf]; omega
          · obtain ⟨j, rfl⟩ : ∃ j, k = j + 1 := ⟨k - 1, by omega⟩
            have j0 : (0 : Int) ≤ (j : Int) := by omega
            have j1 : (j : Int) < (s.size : Int) := by omega
            have j2 : j < s.size := by omega
            have j3 : (0 : Int) < (j : Int) + 1 := by omega
            have j4 : (0 : Int) ≤ (j : Int) + 1 := by omega
            have j5 : (j : Int) + 1 < (s.size : Int) := by omega
            have HPj := hide (prevI_succ s j j2)
            go_wp2
            go_quiet ((go_at_call 22; exact Calls.quiet_of_same (Big_any _ _)))
            go_wp2
            · have h1 : s[j + 1].toNat < s[j].toNat := by assumption
              go_ret
              refine ⟨ret_bool ?_, unhide HW _⟩
              rw [unhide HC, unhide HS, unhide HPj]
              have hd : decide ((s[j].toNat : Int) ≤ (s[j + 1].toNat : Int)) = false := by simp; omega
              simp only [capsB, hd, Bool.and_false, Bool.false_and]
            · have h1 : ¬ s[j + 1].toNat < s[j].toNat := by assumption
              go_roundw
              case rel =>
                refine ⟨j + 1 + 1, by omega, by go_num, ?_, unhide HW _⟩
                rw [unhide HC, unhide HS, unhide HPj, unhide HP]
                have hd : decide ((s[j].toNat : Int) ≤ (s[j + 1].toNat : Int)) = true := by simp; omega
                simp only [capsB, hd, hcap, Bool.and_true, Bool.true_and]
              case measure => simp [intOf]; omega
      · go_wp2
        go_ret
        exact ⟨ret_bool (by rw [unhide HC, drop_all s k (by omega)]; rfl), unhide HW0⟩
  · go_enter Tryz.func52, Tryz.ntmps52
    go_wp2
    go_ret
    exact ⟨ret_bool (by simp [handB, hn]), 0, rfl⟩

theorem cellB_alt (c : Int) : cellB c = (decide (c = 46) || capB c || smallB c) := rfl

/-- All of the position but its cells. -/
def headB (W H : Int) (n : Nat) (T : Int) (A B : List UInt8) : Bool :=
  sideB W && sideB H && decide ((n : Int) = W * H) && (decide (T = 0) || decide (T = 1)) && handB A && handB B
theorem posB_alt (W H : Int) (C : List UInt8) (T : Int) (A B : List UInt8) : posB W H C T A B = (headB W H C.length T A B && cellsB C) := by
  unfold posB headB
  cases sideB W <;> cases sideB H <;> cases decide ((C.length : Int) = W * H) <;> cases cellsB C <;> cases (decide (T = 0) || decide (T = 1)) <;> cases handB A <;> cases handB B <;> rfl

set_option maxHeartbeats 2000000 in
theorem refPosition_head (W H T : Int) (C A B : ByteArray) (w : World) (hA : A.size ≤ maxLen) (hB : B.size ≤ maxLen) (h : headB W H C.size T A.data.toList B.data.toList = false) :
    Calls Tryz.prog 21 #[.agg #[.int .i64 W, .int .i64 H, .string C, .int .i64 T, .string A, .string B]] w fun e w' => e = .returned (.bool false) ∧ Below w.heap.size w w' := by
  have HH := hide h
  clear h
  go_enter Tryz.func21, Tryz.ntmps21
  go_wp2_with (go_at_call 52; refine (refHand_any _ _ ?_).mono ?_; assumption; rintro e w' ⟨rfl, n, rfl⟩)
  all_goals first
    | (exfalso; have hw := wrapWH W H; have h := unhide HH; simp_all [headB, sideB]; done)
    | go_ret
  all_goals refine ⟨rfl, ?_⟩
  all_goals first
    | exact (Below.refl _ _).alloc (Nat.le_refl _) _
    | exact below_drewN ((Below.refl _ _).alloc (Nat.le_refl _) _) _
    | exact below_drewN (below_drewN ((Below.refl _ _).alloc (Nat.le_refl _) _) _) _

end Go.Proofs.YtfhmpgjemobjhaaGreatDoor

namespace Go.Proofs.YtfhmpgjemobjhaaGreatDoor
open Go.RowKit

theorem cell1 {c : Int} (h : c = 46) : cellB c = true := by simp [cellB, h]
theorem cell2 {c : Int} (h : capB c = true) : cellB c = true := by simp [cellB, h]
theorem cell3 {c : Int} (h : (c != 46) = false ∨ (!smallB c) = false) : cellB c = true := by
  rw [cellB_alt]
  rcases h with h | h
  · simp only [bne_eq_false_iff_eq] at h; simp [h]
  · simp only [Bool.not_eq_false'] at h; simp [h]
theorem cell4 {c : Int} (h : ¬ capB c = true) (h' : (c != 46) = true ∧ (!smallB c) = true) : cellB c = false := by
  rw [cellB_alt]
  simp only [bne_iff_ne, ne_eq, Bool.not_eq_true', Bool.not_eq_true] at h h'
  simp [h, h'.1, h'.2]

set_option maxHeartbeats 2000000 in
theorem refPosition_rest {W H : Nat} {T : Int} {C A B : ByteArray} (w : World) (hA : A.size ≤ maxLen) (hB : B.size ≤ maxLen) (h : headB W H C.size T A.data.toList B.data.toList = true) :
    Calls Tryz.prog 21 #[.agg #[.int .i64 W, .int .i64 H, .string C, .int .i64 T, .string A, .string B]] w fun e w' => e = .returned (.bool (cellsB C.data.toList)) ∧ Below w.heap.size w w' := by
  simp only [headB, sideB, Bool.and_eq_true, Bool.or_eq_true, decide_eq_true_eq] at h
  obtain ⟨⟨⟨⟨⟨⟨w0, w1⟩, h0, h1⟩, hc⟩, ht⟩, ha⟩, hb⟩ := h
  have w1' : W ≤ 8 := by omega
  have h1' : H ≤ 8 := by omega
  have hm : W * H ≤ 64 := Nat.mul_le_mul w1' h1'
  have hcs : ((C.size : Int) != (W : Int) * (H : Int)) = false := by simpa using hc
  have h64 : C.size ≤ 64 := by have : ((W * H : Nat) : Int) = (W : Int) * H := by simp
                               omega
  clear hc
  have hd1 : decide ((W : Int) < 1) = false := by simp; omega
  have hd2 : decide ((8 : Int) < (W : Int)) = false := by simp; omega
  have hd3 : decide ((H : Int) < 1) = false := by simp; omega
  have hd4 : decide ((8 : Int) < (H : Int)) = false := by simp; omega
  clear w0 w1 h0 h1 w1' h1'
  rcases ht with rfl | rfl
  all_goals
    go_enter Tryz.func21, Tryz.ntmps21
    go_wp2_with (go_at_call 52; refine (refHand_any _ _ ?_).mono ?_; assumption; rintro e w' ⟨rfl, n, rfl⟩)
    go_loop [3] (fun i => ∃ k : Nat, k ≤ C.size ∧ i = .int .i64 k ∧ cellsB (C.data.toList.take k) = true) (fun i => C.size - (intOf i).toNat)
    case atStart => exact ⟨0, Nat.zero_le _, rfl, rfl⟩
    case round =>
      obtain ⟨k, hk, rfl, hcl⟩ := hrel
      have HC := hide hcl
      clear hcl
      by_cases hlt : k < C.size
      · have HS := hide (take_snoc C k hlt)
        go_wp2_with (first | (go_at_call 22; refine (Big_any _ _).mono ?_; rintro e w' ⟨rfl, rfl⟩) | (go_at_call 53; refine (Small_any _ _).mono ?_; rintro e w' ⟨rfl, rfl⟩))
        all_goals first
          | (have hx : cellB ↑C[k].toNat = true := (by first | exact cell1 (by assumption) | exact cell2 (by assumption) | exact cell3 (by assumption))
             refine ⟨⟨k + 1, by omega, by go_num, ?_⟩, by simp [intOf]; omega⟩
             rw [unhide HS, cellsB_snoc, unhide HC, hx]; rfl)
          | (have hx : cellB ↑C[k].toNat = false := cell4 (by assumption) (by assumption)
             go_ret
             refine ⟨ret_bool (cellsB_take (k + 1) (by rw [unhide HS, cellsB_snoc, hx, Bool.and_false])).symm, ?_⟩
             first
               | exact (Below.refl _ _).alloc (Nat.le_refl _) _
               | exact below_drewN ((Below.refl _ _).alloc (Nat.le_refl _) _) _
               | exact below_drewN (below_drewN ((Below.refl _ _).alloc (Nat.le_refl _) _) _) _)
      · go_wp2
        go_ret
        have h1 := unhide HC
        rw [take_all C k (by omega)] at h1
        refine ⟨ret_bool h1.symm, ?_⟩
        first
          | exact (Below.refl _ _).alloc (Nat.le_refl _) _
          | exact below_drewN ((Below.refl _ _).alloc (Nat.le_refl _) _) _
          | exact below_drewN (below_drewN ((Below.refl _ _).alloc (Nat.le_refl _) _) _) _

theorem refPosition_any (W H T : Int) (C A B : ByteArray) (w : World) (hA : A.size ≤ maxLen) (hB : B.size ≤ maxLen) :
    Calls Tryz.prog 21 #[.agg #[.int .i64 W, .int .i64 H, .string C, .int .i64 T, .string A, .string B]] w fun e w' => e = .returned (.bool (posB W H C.data.toList T A.data.toList B.data.toList)) ∧ Below w.heap.size w w' := by
  rw [posB_alt, len_data]
  cases h : headB W H C.size T A.data.toList B.data.toList with
  | false => exact refPosition_head W H T C A B w hA hB h
  | true =>
    have h' := h
    simp only [headB, sideB, Bool.and_eq_true, decide_eq_true_eq] at h
    obtain ⟨W', rfl⟩ := Int.eq_ofNat_of_zero_le (show 0 ≤ W by omega)
    obtain ⟨H', rfl⟩ := Int.eq_ofNat_of_zero_le (show 0 ≤ H by omega)
    exact refPosition_rest w hA hB h'
end Go.Proofs.YtfhmpgjemobjhaaGreatDoor
