/-
  The document's answer: gameref.Code, gameref.Takings.
-/
import Derived.Test.YtphnjedoghopcaaQ28
namespace Go.Proofs.Ytphnjedoghopcaa
open Go.RowKit
attribute [local go_sem ↓] Go.wp_at_zero Go.wp_at_succ

theorem dig_list (s : ByteArray) : (dig s).data.toList = s.data.toList.drop 2 := by
  unfold dig
  rw [ByteArray.data_extract, Array.toList_extract]
  unfold List.extract
  rw [List.take_of_length_le (by rw [List.length_drop, Array.length_toList]; exact Nat.le_refl _)]

set_option maxHeartbeats 2000000 in
set_option maxRecDepth 100000 in
theorem rCode_any (s : ByteArray) (w : World) (hs : s.size ≤ maxLen) :
    Calls Try.prog 9 #[.string s] w fun e w' => e = .returned (.bool (codeB s)) ∧ w' = w := by
  unfold maxLen at hs
  obtain ⟨R, hR⟩ : ∃ R, R = codeB s := ⟨_, rfl⟩
  rw [← hR]
  unfold codeB preB at hR
  rw [dig_list] at hR
  have hsl : s.data.toList.length = s.size := Array.length_toList
  by_cases h3 : s.size < 3
  · have h3i : (s.size : Int) < 3 := by omega
    have hre : R = false := by rw [hR, decide_eq_false (p := 3 ≤ s.size) (by omega)]; simp
    subst hre
    clear hR h3
    go_enter Try.func9, Try.ntmps9
    go_wp2
    go_ret
    exact ⟨rfl, rfl⟩
  · have h3i : ¬ (s.size : Int) < 3 := by omega
    by_cases h8 : 8 < s.size
    · have h8i : (8 : Int) < (s.size : Int) := by omega
      have hre : R = false := by rw [hR, decide_eq_false (p := s.size ≤ 8) (by omega)]; simp
      subst hre
      clear hR h3 h8
      go_enter Try.func9, Try.ntmps9
      go_wp2
      go_ret
      exact ⟨rfl, rfl⟩
    · have h8i : ¬ (8 : Int) < (s.size : Int) := by omega
      have h2i : (2 : Int) ≤ (s.size : Int) := by omega
      rw [decide_eq_true (p := 2 ≤ s.size) (by omega), decide_eq_true (p := 3 ≤ s.size) (by omega), decide_eq_true (p := s.size ≤ 8) (by omega), Bool.true_and, Bool.true_and, Bool.true_and] at hR
      obtain ⟨b, hb⟩ : ∃ b, ((s.extract 0 2).toList == [48, 46]) = b := ⟨_, rfl⟩
      rw [hb] at hR
      have hbn : ((s.extract 0 2).toList != [48, 46]) = !b := by rw [← hb]; rfl
      have HR := hide hR
      clear hR
      cases b with
      | false =>
        have hre : R = false := by rw [unhide HR]; rfl
        subst hre
        go_enter Try.func9, Try.ntmps9
        go_wp2
        go_ret
        exact ⟨rfl, rfl⟩
      | true =>
        go_enter Try.func9, Try.ntmps9
        go_wp2
        go_loop [3] (fun iv => ∃ k : Nat, k ≤ s.size ∧ 2 ≤ k ∧ iv = .int .i64 (k : Int) ∧ Hid (R = (s.data.toList.drop k).all digB)) (fun iv => s.size - (intOf iv).toNat)
        case atStart => exact ⟨2, by omega, Nat.le_refl _, rfl, hide (by rw [unhide HR, Bool.true_and])⟩
        case round =>
          obtain ⟨k, hk, hk2, rfl, HK⟩ := hrel
          by_cases hlt : k < s.size
          · have hlti : (k : Int) < (s.size : Int) := by omega
            have hk0 : (0 : Int) ≤ (k : Int) := by omega
            have hst := unhide HK
            rw [List.drop_eq_getElem_cons (by omega), List.all_cons, show s.data.toList[k]'(by omega) = s[k] from rfl] at hst
            have HST := hide hst
            clear hst
            by_cases ha : (s[k].toNat : Int) < 48
            · have hre : R = false := by rw [unhide HST]; unfold digB; rw [decide_eq_false (by omega)]; rfl
              have HRE := hide hre
              clear hre
              go_wp2
              go_ret
              exact ⟨ret_bool (unhide HRE).symm, rfl⟩
            · by_cases hb' : 55 < (s[k].toNat : Int)
              · have hre : R = false := by rw [unhide HST]; unfold digB; rw [decide_eq_false (p := (s[k].toNat : Int) ≤ 55) (by omega), Bool.and_false]; rfl
                have HRE := hide hre
                clear hre
                go_wp2
                go_ret
                exact ⟨ret_bool (unhide HRE).symm, rfl⟩
              · have HS2 : Hid (R = (s.data.toList.drop (k + 1)).all digB) := hide (by
                  rw [unhide HST]
                  rw [show digB s[k] = true by unfold digB; rw [decide_eq_true (by omega), decide_eq_true (by omega)]; rfl, Bool.true_and])
                go_wp2
                go_round
                case rel => exact ⟨k + 1, by omega, by omega, by go_num, HS2⟩
                case measure => simp only [intOf]; omega
          · have hlti : ¬ (k : Int) < (s.size : Int) := by omega
            have hre : R = true := by rw [unhide HK, List.drop_eq_nil_of_le (by omega)]; rfl
            have HRE := hide hre
            clear hre
            go_wp2
            go_ret
            exact ⟨ret_bool (unhide HRE).symm, rfl⟩
end Go.Proofs.Ytphnjedoghopcaa
