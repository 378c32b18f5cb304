/-
  package nim, walked: check.
-/
import Derived.Test.YtphnjedoghopcaaQ1
namespace Go.Proofs.Ytphnjedoghopcaa
open Go.RowKit
attribute [local go_sem ↓] Go.wp_at_zero Go.wp_at_succ

/-- Is one of these none of so many? -/
def outB (n : Nat) (r : List Int) : Bool := r.any fun x => decide (x < 0) || decide ((n : Int) ≤ x)
/-- What check answers. -/
def chkI (G : List (List Int)) : Int := if 1000 < G.length ∨ 1000 < mostN G then 2 else if G.any (outB G.length) then 4 else 0

set_option maxHeartbeats 2000000 in
set_option maxRecDepth 100000 in
theorem check_any (B : Nat) (ao : Option Addr) (cap : Nat) (G : List (List Int)) (w : World) (h : isG w B ao cap G) :
    Calls Try.prog 23 #[.slice ao G.length cap] w fun e w' => e = .returned (.int .i64 (chkI G)) ∧ w' = w := by
  have hle := h.1
  have hmx := h.2.1
  unfold maxLen at hmx
  have HM := hide (most_any B ao cap G w h)
  have HG := hide h
  clear h
  obtain ⟨R, hR⟩ : ∃ R, R = chkI G := ⟨_, rfl⟩
  rw [← hR]
  unfold chkI at hR
  by_cases hL : 1000 < G.length
  · rw [if_pos (.inl hL)] at hR
    have hLi : (1000 : Int) < (G.length : Int) := by omega
    subst hR
    go_enter Try.func23, Try.ntmps23
    go_wp2_with fail
    go_ret
    exact ⟨rfl, rfl⟩
  · have hLi : ¬ (1000 : Int) < (G.length : Int) := by omega
    obtain ⟨M, hM⟩ : ∃ M, M = mostN G := ⟨_, rfl⟩
    rw [← hM] at HM hR
    clear hM
    by_cases hM1 : 1000 < M
    · rw [if_pos (.inr hM1)] at hR
      have hMi : (1000 : Int) < (M : Int) := by omega
      subst hR
      go_enter Try.func23, Try.ntmps23
      go_wp2_with fail
      refine (unhide HM).mono ?_
      rintro e w1 ⟨rfl, rfl⟩
      go_wp2
      go_ret
      exact ⟨rfl, rfl⟩
    · have hMi : ¬ (1000 : Int) < (M : Int) := by omega
      rw [if_neg (by omega)] at hR
      have HR := hide hR
      clear hR hM1
      go_enter Try.func23, Try.ntmps23
      go_wp2_with fail
      refine (unhide HM).mono ?_
      rintro e w1 ⟨rfl, rfl⟩
      go_wp2
      go_loop [17] (fun i => ∃ k : Nat, k ≤ G.length ∧ i = .int .i64 (k : Int) ∧ Hid (G.any (outB G.length) = (G.drop k).any (outB G.length))) (fun i => G.length - (intOf i).toNat)
      case atStart => exact ⟨0, Nat.zero_le _, rfl, hide rfl⟩
      case round =>
        obtain ⟨k, hk, rfl, HK⟩ := hrel
        by_cases hlt : k < G.length
        · have hlti : (k : Int) < (G.length : Int) := by omega
          have hk0 : (0 : Int) ≤ (k : Int) := by omega
          have hr := List.getElem?_eq_getElem hlt
          obtain ⟨g, off, ro, rc, e, hg, c0, hI⟩ := (unhide HG).at_ hr
          subst e
          have hst := unhide HK
          rw [List.drop_eq_getElem_cons hlt, List.any_cons] at hst
          clear hr
          generalize G[k] = r at *
          have hrl := hI.1
          have hrm := hI.2.1
          unfold maxLen at hrm
          have HI := hide hI
          have HST := hide hst
          clear hI hst
          go_wp2
          go_loop [23] (fun j => ∃ m : Nat, m ≤ r.length ∧ j = .int .i64 (m : Int) ∧ Hid (outB G.length r = outB G.length (r.drop m))) (fun j => r.length - (intOf j).toNat)
          case atStart => exact ⟨0, Nat.zero_le _, rfl, hide rfl⟩
          case round =>
            obtain ⟨m, hm, rfl, HMM⟩ := hrel
            by_cases hlt2 : m < r.length
            · have hlti2 : (m : Int) < (r.length : Int) := by omega
              have hm0 : (0 : Int) ≤ (m : Int) := by omega
              have hx := List.getElem?_eq_getElem hlt2
              obtain ⟨g2, off2, e, hg2, c1⟩ := (unhide HI).at_ hx
              subst e
              have hst := unhide HMM
              rw [List.drop_eq_getElem_cons hlt2] at hst
              unfold outB at hst
              rw [List.any_cons] at hst
              clear hx
              generalize r[m] = x at *
              by_cases hx1 : x < 0
              · have hre : R = 4 := by
                  rw [unhide HR, unhide HST]
                  unfold outB
                  rw [hst, decide_eq_true hx1]
                  simp
                have HRE := hide hre
                clear hst hre
                go_wp2
                go_ret
                exact ⟨ret_int (unhide HRE).symm, rfl⟩
              · by_cases hx2 : (G.length : Int) ≤ x
                · have hre : R = 4 := by
                    rw [unhide HR, unhide HST]
                    unfold outB
                    rw [hst, decide_eq_true hx2]
                    simp
                  have HRE := hide hre
                  clear hst hre
                  go_wp2
                  go_ret
                  exact ⟨ret_int (unhide HRE).symm, rfl⟩
                · have hne : outB G.length r = outB G.length (r.drop (m + 1)) := by
                    unfold outB
                    rw [hst, decide_eq_false hx1, decide_eq_false hx2]
                    simp
                  have HNE := hide hne
                  clear hst hne
                  go_wp2
                  go_round
                  case rel => exact ⟨m + 1, by omega, by go_num, HNE⟩
                  case measure => simp only [intOf]; omega
            · have hlti2 : ¬ (m : Int) < (r.length : Int) := by omega
              have hno : outB G.length r = false := by
                rw [unhide HMM, List.drop_eq_nil_of_le (by omega)]
                rfl
              have hne : G.any (outB G.length) = (G.drop (k + 1)).any (outB G.length) := by rw [unhide HST, hno, Bool.false_or]
              have HNE := hide hne
              clear hno hne
              go_wp2
              go_round
              case rel => exact ⟨k + 1, by omega, by go_num, HNE⟩
              case measure => simp only [intOf]; omega
        · have hlti : ¬ (k : Int) < (G.length : Int) := by omega
          have hre : R = 0 := by
            rw [unhide HR, unhide HK, List.drop_eq_nil_of_le (by omega)]
            rfl
          have HRE := hide hre
          clear hre
          go_wp2
          go_ret
          exact ⟨ret_int (unhide HRE).symm, rfl⟩
end Go.Proofs.Ytphnjedoghopcaa
