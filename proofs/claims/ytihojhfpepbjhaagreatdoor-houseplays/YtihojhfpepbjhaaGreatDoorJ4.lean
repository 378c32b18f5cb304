/-
  package rules, walked: haveAllOf.
  package board, package moves, walked: letters of players, small functions.
  '==' between two positions: field by field.
-/
import Derived.Test.YtihojhfpepbjhaaGreatDoorJ3
import Derived.ChangeKeysEq
namespace Go.Proofs.YtihojhfpepbjhaaGreatDoor
open Go.RowKit
attribute [local go_sem ↓] Go.wp_at_zero Go.wp_at_succ

/-- A letter, as a capital one. -/
def upN (c : Nat) : Nat := c &&& 223
theorem up_andNot : ∀ c : Nat, c < 256 → bits .andNot .u8 (c : Int) 32 = ((upN c : Nat) : Int) ∧ upN c < 256 := by decide +kernel
def cellL (S : Nat) (c : UInt8) : Bool := decide (c.toNat = 46) || hasL S (upN c.toNat : Nat)
def handL (S : Nat) (c : UInt8) : Bool := hasL S (c.toNat : Nat)
def allL (S : Nat) (C A B : List UInt8) : Bool := C.all (cellL S) && A.all (handL S) && B.all (handL S)

theorem all_snoc (f : UInt8 → Bool) (s : ByteArray) (k : Nat) (h : k < s.size) : (s.data.toList.take (k + 1)).all f = ((s.data.toList.take k).all f && f s[k]) := by rw [take_snoc s k h]; simp
theorem all_no (f : UInt8 → Bool) (s : ByteArray) (k : Nat) (h : k < s.size) (hf : f s[k] = false) : s.data.toList.all f = false := by
  rw [List.all_eq_false]
  refine ⟨s[k], ?_, by simp [hf]⟩
  have : s.data.toList[k]'(by rw [len_data]; exact h) = s[k] := rfl
  rw [← this]; exact List.getElem_mem _

theorem hands0 (A B : ByteArray) (w : World) : (Instr.index 22 (.agg #[.string A, .string B]) (.int .i64 0)).run Tryz.prog w = .ok (.string A) w := by kernel_rfl
theorem hands1 (A B : ByteArray) (w : World) : (Instr.index 22 (.agg #[.string A, .string B]) (.int .i64 1)).run Tryz.prog w = .ok (.string B) w := by kernel_rfl


set_option maxHeartbeats 2000000 in
set_option maxRecDepth 100000 in
theorem haveAllOf_any (S : Nat) (W H T : Int) (C A B : ByteArray) (w : World) (hS : S < 67108864) (hC : C.size ≤ maxLen) (hA : A.size ≤ maxLen) (hB : B.size ≤ maxLen) :
    Calls Tryz.prog 54 #[.int .u32 (S : Int), .agg #[.int .i64 W, .int .i64 H, .string C, .int .i64 T, .string A, .string B]] w fun e w' => e = .returned (.bool (allL S C.data.toList A.data.toList B.data.toList)) ∧ Below w.heap.size w w' := by
  unfold maxLen at hC hA hB
  have i0 := hands0 A B
  have i1 := hands1 A B
  obtain ⟨r, hr⟩ : ∃ r, r = allL S C.data.toList A.data.toList B.data.toList := ⟨_, rfl⟩
  rw [← hr]
  have hb0 : Below w.heap.size w (w.alloc (.cells #[.int .i64 W, .int .i64 H, .string C, .int .i64 T, .string A, .string B] 24 (0, 0))) := (Below.refl _ w).alloc (Nat.le_refl _) _
  have hx0 : (w.alloc (.cells #[.int .i64 W, .int .i64 H, .string C, .int .i64 T, .string A, .string B] 24 (0, 0))).cell? ⟨w.heap.size, 2, none⟩ = some (.string C) := cell_of_row _ _ _ _ _ _ (heap_alloc_new w _)
  have hx4 : (w.alloc (.cells #[.int .i64 W, .int .i64 H, .string C, .int .i64 T, .string A, .string B] 24 (0, 0))).cell? ⟨w.heap.size, 4, none⟩ = some (.string A) := cell_of_row _ _ _ _ _ _ (heap_alloc_new w _)
  have hx5 : (w.alloc (.cells #[.int .i64 W, .int .i64 H, .string C, .int .i64 T, .string A, .string B] 24 (0, 0))).cell? ⟨w.heap.size, 5, none⟩ = some (.string B) := cell_of_row _ _ _ _ _ _ (heap_alloc_new w _)
  obtain ⟨wa, hwa⟩ : ∃ wa, wa = w.alloc (.cells #[.int .i64 W, .int .i64 H, .string C, .int .i64 T, .string A, .string B] 24 (0, 0)) := ⟨_, rfl⟩
  rw [← hwa] at hb0 hx0 hx4 hx5
  have HR := hide hr
  have HWA := hide hwa
  clear hr hwa
  go_enter Tryz.func54, Tryz.ntmps54
  go_wp2
  rw [← unhide HWA]
  go_loopw [13] (fun iv wr => ∃ k : Nat, k ≤ C.size ∧ iv = .int .i64 (k : Int) ∧ Hid ((C.data.toList.take k).all (cellL S) = true) ∧ wr = wa) (fun iv _ => C.size - (intOf iv).toNat)
  case atStart => exact ⟨0, Nat.zero_le _, rfl, by show _ = _; simp, rfl⟩
  case round =>
    obtain ⟨k, hk, rfl, HK, rfl⟩ := hrel
    by_cases hkl : k < C.size
    · have hki : (k : Int) < (C.size : Int) := by omega
      have hk0 : (0 : Int) ≤ (k : Int) := by omega
      have h256 : C[k].toNat < 256 := C[k].toNat_lt
      obtain ⟨hup, hu256⟩ := up_andNot C[k].toNat h256
      obtain ⟨u, hu⟩ : ∃ u, u = upN C[k].toNat := ⟨_, rfl⟩
      rw [← hu] at hup hu256
      have hcl : cellL S C[k] = (decide (C[k].toNat = 46) || hasL S (u : Nat)) := by rw [hu]; rfl
      have HSN := hide (all_snoc (cellL S) C k hkl)
      have HNO := hide (all_no (cellL S) C k hkl)
      have HCL := hide hcl
      clear hcl hu
      by_cases h46 : C[k].toNat = 46
      · have hok : cellL S C[k] = true := by rw [unhide HCL, decide_eq_true h46]; rfl
        have hnew : (C.data.toList.take (k + 1)).all (cellL S) = true := by rw [unhide HSN, unhide HK, hok]; rfl
        have HNEW := hide hnew
        have h46i : (C[k].toNat : Int) = 46 := by omega
        clear hok hnew hup
        go_wp2
        go_roundw
        case rel => exact ⟨k + 1, by omega, by go_num, HNEW, trivial⟩
        case measure => simp [intOf]; omega
      · have h46i : ¬ (C[k].toNat : Int) = 46 := by omega
        have h46b : ((C[k].toNat : Int) != 46) = true := by simp; omega
        cases hha : hasL S (u : Nat) with
        | false =>
          have hok : cellL S C[k] = false := by rw [unhide HCL, hha]; simp [h46]
          have hff : r = false := by rw [unhide HR, allL, unhide HNO hok]; rfl
          have HFF := hide hff
          have HHA := hide hha
          clear hok hff hha
          go_wp2_with fail
          refine (Capital_any C[k].toNat _).mono ?_
          rintro e w1 ⟨rfl, hw1⟩
          subst hw1
          rw [hup]
          go_wp2_with fail
          refine (have_any S u _ (by omega) hu256).mono ?_
          rintro e w2 ⟨rfl, rfl⟩
          rw [unhide HHA]
          go_wp2
          go_ret
          exact ⟨ret_bool (unhide HFF).symm, hb0⟩
        | true =>
          have hok : cellL S C[k] = true := by rw [unhide HCL, hha]; simp
          have hnew : (C.data.toList.take (k + 1)).all (cellL S) = true := by rw [unhide HSN, unhide HK, hok]; rfl
          have HNEW := hide hnew
          have HHA := hide hha
          clear hok hnew hha
          go_wp2_with fail
          refine (Capital_any C[k].toNat _).mono ?_
          rintro e w1 ⟨rfl, hw1⟩
          subst hw1
          rw [hup]
          go_wp2_with fail
          refine (have_any S u _ (by omega) hu256).mono ?_
          rintro e w2 ⟨rfl, hw2⟩
          rw [unhide HHA]
          subst hw2
          go_wp2
          go_roundw
          case rel => exact ⟨k + 1, by omega, by go_num, HNEW, trivial⟩
          case measure => simp [intOf]; omega
    · obtain rfl : k = C.size := by omega
      have hki : ¬ (C.size : Int) < (C.size : Int) := by omega
      have hall : C.data.toList.all (cellL S) = true := by
        have := unhide HK
        rw [take_all C C.size (Nat.le_refl _)] at this
        exact this
      have hrab : r = (A.data.toList.all (handL S) && B.data.toList.all (handL S)) := by rw [unhide HR, allL, hall]; rfl
      have HRAB := hide hrab
      have HB0 := hide hb0
      clear hall hrab hb0
      go_wp2
      go_loopw [32] (fun iv wr => ∃ k : Nat, k ≤ 2 ∧ iv = .int .i64 (k : Int) ∧ (0 < k → Hid (A.data.toList.all (handL S) = true)) ∧ (1 < k → Hid (B.data.toList.all (handL S) = true)) ∧ Below w.heap.size w wr) (fun iv _ => 2 - (intOf iv).toNat)
      case atStart => exact ⟨0, by omega, rfl, by omega, by omega, unhide HB0⟩
      case round =>
        obtain ⟨k, hk, rfl, HKA, HKB, hbr⟩ := hrel
        match k, hk, HKA, HKB with
        | 0, _, HKA, HKB =>
          clear HKA HKB
          have hfalse : A.data.toList.all (handL S) = false → r = false := fun e => by rw [unhide HRAB, e]; rfl
          have HFALSE := hide hfalse
          clear hfalse
          rw [show ((0 : Nat) : Int) = 0 from rfl]
          obtain ⟨D, hD⟩ : ∃ D, D = A := ⟨_, rfl⟩
          subst hD
          have hrel2 : ∀ wx, Hid (D.data.toList.all (handL S) = true) → Below w.heap.size w wx → ∃ k : Nat, k ≤ 2 ∧ Value.int .i64 1 = .int .i64 (k : Int) ∧ (0 < k → Hid (D.data.toList.all (handL S) = true)) ∧ (1 < k → Hid (B.data.toList.all (handL S) = true)) ∧ Below w.heap.size w wx := fun wx h1 h2 => ⟨1, by omega, rfl, fun _ => h1, by omega, h2⟩
          have HREL := hide hrel2
          clear hrel2
          go_wp2
          go_loopw [37] (fun iv wx => ∃ j : Nat, j ≤ D.size ∧ iv = .int .i64 (j : Int) ∧ Hid ((D.data.toList.take j).all (handL S) = true) ∧ Below w.heap.size w wx) (fun iv _ => D.size - (intOf iv).toNat)
          case atStart => exact ⟨0, Nat.zero_le _, rfl, by show _ = _; simp, hbr⟩
          case round =>
            obtain ⟨j, hj, rfl, HJ, hbx⟩ := hrel
            by_cases hjl : j < D.size
            · have hji : (j : Int) < (D.size : Int) := by omega
              have hj0 : (0 : Int) ≤ (j : Int) := by omega
              have h256 : D[j].toNat < 256 := D[j].toNat_lt
              have hsn := all_snoc (handL S) D j hjl
              have HSN := hide hsn
              have HNO := hide (all_no (handL S) D j hjl)
              clear hsn
              cases hok : handL S D[j] with
              | false =>
                have hff := unhide HFALSE (unhide HNO hok)
                have HFF := hide hff
                have HOK := hide (show hasL S (D[j].toNat : Nat) = false from hok)
                clear hok hff
                go_wp2_with fail
                refine (have_any S D[j].toNat _ (by omega) h256).mono ?_
                rintro e w2 ⟨rfl, rfl⟩
                rw [unhide HOK]
                go_wp2
                go_ret
                exact ⟨ret_bool (unhide HFF).symm, hbx⟩
              | true =>
                have hnew : (D.data.toList.take (j + 1)).all (handL S) = true := by rw [unhide HSN, unhide HJ, hok]; rfl
                have HNEW := hide hnew
                have HOK := hide (show hasL S (D[j].toNat : Nat) = true from hok)
                clear hok hnew
                go_wp2_with fail
                refine (have_any S D[j].toNat _ (by omega) h256).mono ?_
                rintro e w2 ⟨rfl, rfl⟩
                rw [unhide HOK]
                go_wp2
                go_roundw
                case rel => exact ⟨j + 1, by omega, by go_num, HNEW, hbx⟩
                case measure => simp [intOf]; omega
            · obtain rfl : j = D.size := by omega
              have hji : ¬ (D.size : Int) < (D.size : Int) := by omega
              have hall : D.data.toList.all (handL S) = true := by
                have := unhide HJ
                rw [take_all D D.size (Nat.le_refl _)] at this
                exact this
              have HALLD := hide hall
              clear hall
              go_wp2
              go_roundw
              case rel => exact unhide HREL _ HALLD hbx
              case measure => simp [intOf]
        | 1, _, HKA, HKB =>
          have HA1 := HKA (by omega)
          clear HKA HKB
          have hfalse : B.data.toList.all (handL S) = false → r = false := fun e => by rw [unhide HRAB, e]; simp
          have HFALSE := hide hfalse
          clear hfalse
          rw [show ((1 : Nat) : Int) = 1 from rfl]
          obtain ⟨D, hD⟩ : ∃ D, D = B := ⟨_, rfl⟩
          subst hD
          have hrel2 : ∀ wx, Hid (D.data.toList.all (handL S) = true) → Below w.heap.size w wx → ∃ k : Nat, k ≤ 2 ∧ Value.int .i64 2 = .int .i64 (k : Int) ∧ (0 < k → Hid (A.data.toList.all (handL S) = true)) ∧ (1 < k → Hid (D.data.toList.all (handL S) = true)) ∧ Below w.heap.size w wx := fun wx h1 h2 => ⟨2, by omega, rfl, fun _ => HA1, fun _ => h1, h2⟩
          have HREL := hide hrel2
          clear hrel2
          go_wp2
          go_loopw [37] (fun iv wx => ∃ j : Nat, j ≤ D.size ∧ iv = .int .i64 (j : Int) ∧ Hid ((D.data.toList.take j).all (handL S) = true) ∧ Below w.heap.size w wx) (fun iv _ => D.size - (intOf iv).toNat)
          case atStart => exact ⟨0, Nat.zero_le _, rfl, by show _ = _; simp, hbr⟩
          case round =>
            obtain ⟨j, hj, rfl, HJ, hbx⟩ := hrel
            by_cases hjl : j < D.size
            · have hji : (j : Int) < (D.size : Int) := by omega
              have hj0 : (0 : Int) ≤ (j : Int) := by omega
              have h256 : D[j].toNat < 256 := D[j].toNat_lt
              have hsn := all_snoc (handL S) D j hjl
              have HSN := hide hsn
              have HNO := hide (all_no (handL S) D j hjl)
              clear hsn
              cases hok : handL S D[j] with
              | false =>
                have hff := unhide HFALSE (unhide HNO hok)
                have HFF := hide hff
                have HOK := hide (show hasL S (D[j].toNat : Nat) = false from hok)
                clear hok hff
                go_wp2_with fail
                refine (have_any S D[j].toNat _ (by omega) h256).mono ?_
                rintro e w2 ⟨rfl, rfl⟩
                rw [unhide HOK]
                go_wp2
                go_ret
                exact ⟨ret_bool (unhide HFF).symm, hbx⟩
              | true =>
                have hnew : (D.data.toList.take (j + 1)).all (handL S) = true := by rw [unhide HSN, unhide HJ, hok]; rfl
                have HNEW := hide hnew
                have HOK := hide (show hasL S (D[j].toNat : Nat) = true from hok)
                clear hok hnew
                go_wp2_with fail
                refine (have_any S D[j].toNat _ (by omega) h256).mono ?_
                rintro e w2 ⟨rfl, rfl⟩
                rw [unhide HOK]
                go_wp2
                go_roundw
                case rel => exact ⟨j + 1, by omega, by go_num, HNEW, hbx⟩
                case measure => simp [intOf]; omega
            · obtain rfl : j = D.size := by omega
              have hji : ¬ (D.size : Int) < (D.size : Int) := by omega
              have hall : D.data.toList.all (handL S) = true := by
                have := unhide HJ
                rw [take_all D D.size (Nat.le_refl _)] at this
                exact this
              have HALLD := hide hall
              clear hall
              go_wp2
              go_roundw
              case rel => exact unhide HREL _ HALLD hbx
              case measure => simp [intOf]
        | 2, _, HKA, HKB =>
          have hr : r = true := by rw [unhide HRAB, unhide (HKA (by omega)), unhide (HKB (by omega))]; rfl
          have HRT := hide hr
          clear hr HKA HKB
          go_wp2
          go_ret
          exact ⟨ret_bool (unhide HRT).symm, hbr⟩
end Go.Proofs.YtihojhfpepbjhaaGreatDoor

namespace Go.Proofs.YtihojhfpepbjhaaGreatDoor
open Go.RowKit
attribute [local go_sem ↓] Go.wp_at_zero Go.wp_at_succ

/-- What stands in a cell for a player's piece. -/
def letN (T c : Nat) : Nat := if T = 0 then c else c ||| 32
/-- Is the byte of a cell a piece of that player? -/
def ownB (T c : Nat) : Bool := !decide (c = 46) && decide (letN T (upN c) = c)
theorem or32 : ∀ c : Nat, c < 256 → bits .or .u8 (c : Int) 32 = ((c ||| 32 : Nat) : Int) ∧ c ||| 32 < 256 := by decide +kernel
theorem or0 : ∀ c : Nat, c < 256 → bits .or .u8 (c : Int) 0 = (c : Int) := by decide +kernel
theorem letN_lt {T c : Nat} (h : c < 256) : letN T c < 256 := by unfold letN; split; exact h; exact (or32 c h).2

set_option maxHeartbeats 1000000 in
theorem LetterOf_any (T c : Nat) (w : World) (hT : T ≤ 1) (hc : c < 256) :
    Calls Tryz.prog 158 #[.int .i64 (T : Int), .int .u8 (c : Int)] w fun e w' => e = .returned (.int .u8 (letN T c : Nat)) ∧ w' = w := by
  rcases (by omega : T = 0 ∨ T = 1) with rfl | rfl
  · have h0 := or0 c hc
    go_enter Tryz.func158, Tryz.ntmps158
    go_wp2
    go_ret
    exact ⟨rfl, rfl⟩
  · have h1 := (or32 c hc).1
    go_enter Tryz.func158, Tryz.ntmps158
    go_wp2
    go_ret
    exact ⟨rfl, rfl⟩

set_option maxHeartbeats 1000000 in
theorem IsOf_any (T c : Nat) (w : World) (hT : T ≤ 1) (hc : c < 256) :
    Calls Tryz.prog 128 #[.int .i64 (T : Int), .int .u8 (c : Int)] w fun e w' => e = .returned (.bool (ownB T c)) ∧ w' = w := by
  obtain ⟨R, hR⟩ : ∃ R, R = ownB T c := ⟨_, rfl⟩
  rw [← hR]
  unfold ownB at hR
  by_cases h46 : c = 46
  · have hRe : R = false := by rw [hR]; simp [h46]
    have hb : ((c : Int) != 46) = false := by simp; omega
    have HRE := hide hRe
    clear hR hRe h46
    go_enter Tryz.func128, Tryz.ntmps128
    go_wp2
    go_ret
    exact ⟨by rw [unhide HRE]; rfl, rfl⟩
  · have hRe : R = decide (letN T (upN c) = c) := by rw [hR]; simp [h46]
    have hb : ((c : Int) != 46) = true := by simp; omega
    have hup := up_andNot c hc
    have HC := hide (Capital_any c w)
    rw [hup.1] at HC
    have HL := hide (LetterOf_any T (upN c) w hT hup.2)
    have HRE := hide hRe
    clear hR hRe h46 hup
    go_enter Tryz.func128, Tryz.ntmps128
    go_wp2_with fail
    refine (unhide HC).mono ?_
    rintro e w1 ⟨rfl, rfl⟩
    go_wp2_with fail
    refine (unhide HL).mono ?_
    rintro e w2 ⟨rfl, rfl⟩
    go_wp2
    go_ret
    refine ⟨ret_bool ?_, rfl⟩
    rw [unhide HRE]
    rw [Bool.eq_iff_iff]
    simp
    omega
/-- The first player's way up, the second one's down. -/
def fwdI (T : Nat) : Int := 1 - 2 * (T : Int)
theorem forward_any (T : Nat) (w : World) (hT : T ≤ 1) :
    Calls Tryz.prog 188 #[.int .i64 (T : Int)] w fun e w' => e = .returned (.int .i64 (fwdI T)) ∧ w' = w := by
  go_enter Tryz.func188, Tryz.ntmps188
  go_wp2
  go_ret
  exact ⟨rfl, rfl⟩
/-- Who has won. -/
def wonI (T : Int) : Int := if T = 0 then 1 else 2
theorem wonBy_any (T : Int) (w : World) :
    Calls Tryz.prog 124 #[.int .i64 T] w fun e w' => e = .returned (.int .i64 (wonI T)) ∧ w' = w := by
  by_cases h : T = 0
  · have hb : (T == 0) = true := by simp [h]
    have hv : wonI T = 1 := by unfold wonI; rw [if_pos h]
    rw [hv]
    clear h hv
    go_enter Tryz.func124, Tryz.ntmps124
    go_wp2
    go_ret
    exact ⟨rfl, rfl⟩
  · have hb : (T == 0) = false := by simpa using h
    have hv : wonI T = 2 := by unfold wonI; rw [if_neg h]
    rw [hv]
    clear h hv
    go_enter Tryz.func124, Tryz.ntmps124
    go_wp2
    go_ret
    exact ⟨rfl, rfl⟩
/-- May a piece of the player's enter a cell by a way that takes so? -/
def entB (take : Int) (T c : Nat) : Bool := if c = 46 then decide (take ≠ 1) else decide (take ≠ 2) && ownB (1 - T) c

set_option maxHeartbeats 1000000 in
theorem mayEnter_any (k x y t : Int) (T c : Nat) (w : World) (hT : T ≤ 1) (hc : c < 256) :
    Calls Tryz.prog 165 #[.agg #[.int .i64 k, .int .i64 x, .int .i64 y, .int .i64 t], .int .i64 (T : Int), .int .u8 (c : Int)] w fun e w' => e = .returned (.bool (entB t T c)) ∧ Below w.heap.size w w' := by
  obtain ⟨R, hR⟩ : ∃ R, R = entB t T c := ⟨_, rfl⟩
  rw [← hR]
  unfold entB at hR
  have hTi : (1 : Int) - (T : Int) = ((1 - T : Nat) : Int) := by omega
  have HO := hide (fun u => IsOf_any (1 - T) c u (by omega) hc)
  rw [← hTi] at HO
  by_cases h46 : c = 46
  · have hRe : R = decide (t ≠ 1) := by rw [hR, if_pos h46]
    have hb : ((c : Int) == 46) = true := by simp; omega
    have HRE := hide hRe
    clear hR hRe h46 hTi
    go_enter Tryz.func165, Tryz.ntmps165
    go_wp2
    go_ret
    refine ⟨ret_bool ?_, (Below.refl _ w).alloc (Nat.le_refl _) _⟩
    rw [unhide HRE, Bool.eq_iff_iff]
    simp
  · have hb : ((c : Int) == 46) = false := by simp; omega
    by_cases h1 : t = 2
    · have hRe : R = false := by rw [hR, if_neg h46]; simp [h1]
      have hb1 : (t != 2) = false := by simp [h1]
      have HRE := hide hRe
      clear hR hRe h46 h1 hTi
      go_enter Tryz.func165, Tryz.ntmps165
      go_wp2
      go_ret
      exact ⟨by rw [unhide HRE]; rfl, (Below.refl _ w).alloc (Nat.le_refl _) _⟩
    · have hRe : R = ownB (1 - T) c := by rw [hR, if_neg h46]; simp [h1]
      have hb1 : (t != 2) = true := by simp [h1]
      have HRE := hide hRe
      clear hR hRe h46 h1 hTi
      go_enter Tryz.func165, Tryz.ntmps165
      go_wp2_with fail
      refine (unhide HO _).mono ?_
      rintro e w1 ⟨rfl, rfl⟩
      go_wp2
      go_ret
      exact ⟨by rw [unhide HRE]; rfl, (Below.refl _ w).alloc (Nat.le_refl _) _⟩
end Go.Proofs.YtihojhfpepbjhaaGreatDoor

namespace Go.Proofs.YtihojhfpepbjhaaGreatDoor
open Go.RowKit

end Go.Proofs.YtihojhfpepbjhaaGreatDoor
