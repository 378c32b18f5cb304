/-
  The document's answer: gameref.Graph; gamelaw.Same of numbers.
-/
import Derived.Test.YtphnjedoghopcaaQ10
namespace Go.Proofs.Ytphnjedoghopcaa
open Go.RowKit
attribute [local go_sem ↓] Go.wp_at_zero Go.wp_at_succ

def longB (r : List Int) : Bool := decide (1000 < r.length)
theorem chk_alt (G : List (List Int)) : chkI G = if (decide (1000 < G.length) || G.any longB) = true then 2 else if G.any (outB G.length) = true then 4 else 0 := by
  unfold chkI
  have h : (1000 < G.length ∨ 1000 < mostN G) ↔ (decide (1000 < G.length) || G.any longB) = true := by
    rw [Bool.or_eq_true, decide_eq_true_eq, List.any_eq_true]
    refine or_congr Iff.rfl ?_
    have := mostN_le G 1000 0 (by omega)
    constructor
    · intro h1
      rcases Classical.em (∃ x, x ∈ G ∧ longB x = true) with h2 | h2
      · exact h2
      · exfalso
        have h3 := this.2 (fun r hr => by
          rcases Nat.lt_or_ge 1000 r.length with h4 | h4
          · exact absurd ⟨r, hr, by unfold longB; exact decide_eq_true h4⟩ h2
          · exact h4)
        unfold mostN at h1
        omega
    · rintro ⟨r, hr, h2⟩
      unfold longB at h2
      have h3 := of_decide_eq_true h2
      have h4 := mostN_ge G 0 r hr
      unfold mostN
      omega
  by_cases hc : (1000 < G.length ∨ 1000 < mostN G)
  · rw [if_pos hc, if_pos (h.1 hc)]
  · rw [if_neg hc, if_neg (fun x => hc (h.2 x))]

set_option maxHeartbeats 4000000 in
set_option maxRecDepth 100000 in
theorem rGraph_any (B : Nat) (ao : Option Addr) (cap : Nat) (G : List (List Int)) (w : World) (h : isG w B ao cap G) :
    Calls Try.prog 16 #[.slice ao G.length cap] w fun e w' => e = .returned (.int .i64 (chkI G)) ∧ w' = w := by
  have hle := h.1
  have hmx := h.2.1
  unfold maxLen at hmx
  obtain ⟨R, hR⟩ : ∃ R, R = chkI G := ⟨_, rfl⟩
  rw [← hR]
  rw [chk_alt] at hR
  have HG := hide h
  have HR := hide hR
  clear h hR
  obtain ⟨L0, hL0⟩ : ∃ L0, decide (1000 < G.length) = L0 := ⟨_, rfl⟩
  have hL0i : decide ((1000 : Int) < (G.length : Int)) = L0 := by rw [← hL0]; exact decide_eq_decide.2 (by omega)
  rw [hL0] at HR
  have HL0 := hide hL0
  clear hL0
  go_enter Try.func16, Try.ntmps16
  go_wp2
  go_loop [3, 4, 5] (fun lv ov iv => ∃ (k : Nat) (lb ob : Bool), k ≤ G.length ∧ iv = .int .i64 (k : Int) ∧ lv = .bool lb ∧ ov = .bool ob ∧ Hid (lb = (L0 || (G.take k).any longB)) ∧ Hid (ob = (G.take k).any (outB G.length))) (fun _ _ iv => G.length - (intOf iv).toNat)
  case atStart => exact ⟨0, L0, false, Nat.zero_le _, rfl, by first | rfl | (rw [← hL0i]), rfl, hide (by simp), hide (by simp)⟩
  case round =>
    obtain ⟨k, lb, ob, hk, rfl, rfl, rfl, HLB, HOB⟩ := hrel
    by_cases hlt : k < G.length
    · have hlti : (k : Int) < (G.length : Int) := by omega
      have hk0 : (0 : Int) ≤ (k : Int) := by omega
      have hr := List.getElem?_eq_getElem hlt
      obtain ⟨g, off, ro, rc, e, hg, c0, hI⟩ := (unhide HG).at_ hr
      subst e
      have htk : G.take (k + 1) = G.take k ++ [G[k]] := List.take_succ_eq_append_getElem hlt
      generalize G[k] = r at *
      have hrl := hI.1
      have hrm := hI.2.1
      unfold maxLen at hrm
      have HI := hide hI
      obtain ⟨lr, hlr⟩ : ∃ lr, decide ((1000 : Int) < (r.length : Int)) = lr := ⟨_, rfl⟩
      have hlr' : longB r = lr := by rw [← hlr]; unfold longB; exact decide_eq_decide.2 (by omega)
      have HLB2 : Hid ((lb || lr) = (L0 || (G.take (k + 1)).any longB)) := hide (by rw [unhide HLB, htk, List.any_append, List.any_cons, List.any_nil, hlr']; simp [Bool.or_assoc])
      have HOB2 : Hid (∀ q, q = outB G.length r → (ob || q) = (G.take (k + 1)).any (outB G.length)) := hide (fun q hq => by rw [unhide HOB, htk, List.any_append, List.any_cons, List.any_nil, hq]; simp)
      clear hr hI htk hlr' HLB HOB
      go_upto_region 6 with fail
      go_cut [3] (fun lv wz => lv = .bool (lb || lr) ∧ wz = w)
      case first =>
        cases lb with
        | true =>
          go_wp2
          go_meet
          case rel => exact ⟨rfl, rfl⟩
        | false =>
          go_wp2
          go_meet
          case rel => exact ⟨by rw [← hlr]; rfl, rfl⟩
      case rest =>
        obtain ⟨rfl, rfl⟩ := hcut
        generalize (lb || lr) = lb2 at *
        clear hlr
        go_wp2
        go_loop [4, 6] (fun ov jv => ∃ (m : Nat) (q : Bool), m ≤ r.length ∧ jv = .int .i64 (m : Int) ∧ ov = .bool (ob || q) ∧ Hid (q = outB G.length (r.take m))) (fun _ jv => r.length - (intOf jv).toNat)
        case atStart => exact ⟨0, false, Nat.zero_le _, rfl, by simp, hide rfl⟩
        case round =>
          obtain ⟨m, q, hm, rfl, rfl, HQ⟩ := hrel
          by_cases hlt2 : m < r.length
          · have hlti2 : (m : Int) < (r.length : Int) := by omega
            have hm0 : (0 : Int) ≤ (m : Int) := by omega
            have hx := List.getElem?_eq_getElem hlt2
            obtain ⟨g2, off2, e, hg2, c1⟩ := (unhide HI).at_ hx
            subst e
            have htm : r.take (m + 1) = r.take m ++ [r[m]] := List.take_succ_eq_append_getElem hlt2
            generalize r[m] = x at *
            obtain ⟨b1, hb1⟩ : ∃ b1, decide (x < 0) = b1 := ⟨_, rfl⟩
            obtain ⟨b2, hb2⟩ : ∃ b2, decide ((G.length : Int) ≤ x) = b2 := ⟨_, rfl⟩
            have HQ2 : Hid ((q || (b1 || b2)) = outB G.length (r.take (m + 1))) := hide (by rw [unhide HQ, htm]; unfold outB; rw [List.any_append, List.any_cons, List.any_nil, hb1, hb2]; simp)
            clear hx htm
            obtain ⟨p, hp⟩ : ∃ p, p = (ob || q) := ⟨_, rfl⟩
            rw [← hp]
            have HPQ : Hid ((p || b1 || b2) = (ob || (q || (b1 || b2)))) := hide (by rw [hp]; simp [Bool.or_assoc])
            clear hp
            cases p with
            | true =>
              go_wp2
              go_round
              case rel => exact ⟨m + 1, _, by omega, by go_num, congrArg Value.bool (unhide HPQ), HQ2⟩
              case measure => simp only [intOf]; omega
            | false =>
              cases b1 with
              | true =>
                have hx0 : x < 0 := of_decide_eq_true hb1
                go_wp2
                go_round
                case rel => exact ⟨m + 1, _, by omega, by go_num, congrArg Value.bool (unhide HPQ), HQ2⟩
                case measure => simp only [intOf]; omega
              | false =>
                have hx0 : ¬ x < 0 := of_decide_eq_false hb1
                cases b2 with
                | true =>
                  have hx1 : (G.length : Int) ≤ x := of_decide_eq_true hb2
                  go_wp2
                  go_round
                  case rel => exact ⟨m + 1, _, by omega, by go_num, congrArg Value.bool (unhide HPQ), HQ2⟩
                  case measure => simp only [intOf]; omega
                | false =>
                  have hx1 : ¬ (G.length : Int) ≤ x := of_decide_eq_false hb2
                  go_wp2
                  go_round
                  case rel => exact ⟨m + 1, _, by omega, by go_num, congrArg Value.bool (unhide HPQ), HQ2⟩
                  case measure => simp only [intOf]; omega
          · have hlti2 : ¬ (m : Int) < (r.length : Int) := by omega
            have HQ3 := hide (unhide HOB2 q (by rw [unhide HQ, List.take_of_length_le (by omega)]))
            go_wp2
            go_round
            case rel => exact ⟨k + 1, lb2, _, by omega, by go_num, rfl, rfl, HLB2, HQ3⟩
            case measure => simp only [intOf]; omega
    · have hlti : ¬ (k : Int) < (G.length : Int) := by omega
      have h1 := unhide HLB
      have h2 := unhide HOB
      rw [List.take_of_length_le (by omega)] at h1 h2
      have hRR : R = if lb = true then 2 else if ob = true then 4 else 0 := by rw [unhide HR, h1, h2]
      have HRR := hide hRR
      clear h1 h2 hRR HLB HOB
      cases lb with
      | true =>
        go_wp2
        go_ret
        exact ⟨ret_int (by rw [unhide HRR]; rfl), rfl⟩
      | false =>
        cases ob with
        | true =>
          go_wp2
          go_ret
          exact ⟨ret_int (by rw [unhide HRR]; rfl), rfl⟩
        | false =>
          go_wp2
          go_ret
          exact ⟨ret_int (by rw [unhide HRR]; rfl), rfl⟩
/-- Same of the same. -/
theorem same_any (B : Nat) (aa ca : Option Addr) (ka kc : Nat) (r : List Int) (w : World) (h1 : isIs w B aa ka r) (h2 : isIs w B ca kc r) :
    Calls Try.prog 10 #[.slice aa r.length ka, .slice ca r.length kc] w fun e w' => e = .returned (.bool true) ∧ Below w.heap.size w w' := by
  have hla := h1.1
  have hlc := h2.1
  have hma := h1.2.1
  have hmc := h2.2.1
  unfold maxLen at hma hmc
  have H1 := hide h1
  have H2 := hide h2
  clear h1 h2
  go_enter Try.func10, Try.ntmps10
  go_wp2
  go_loopw [13] (fun iv wr => ∃ k : Nat, k ≤ r.length ∧ iv = .int .i64 (k : Int) ∧ Hid (∀ p, wr.cell? p = w.cell? p) ∧ Below w.heap.size w wr) (fun iv _ => r.length - (intOf iv).toNat)
  case atStart => exact ⟨0, Nat.zero_le _, rfl, hide (fun _ => rfl), Below.refl _ _⟩
  case round =>
    obtain ⟨k, hk, rfl, HQ, hb⟩ := hrel
    have HB := hide hb
    clear hb
    by_cases hlt : k < r.length
    · have hlti : (k : Int) < (r.length : Int) := by omega
      have hk0 : (0 : Int) ≤ (k : Int) := by omega
      have hx := List.getElem?_eq_getElem hlt
      obtain ⟨g1, o1, e1, hg1, c1⟩ := (unhide H1).at_ hx
      obtain ⟨g2, o2, e2, hg2, c2⟩ := (unhide H2).at_ hx
      subst e1 e2
      have d1 := (unhide HQ ⟨g1, o1 + k, none⟩).trans c1
      have d2 := (unhide HQ ⟨g2, o2 + k, none⟩).trans c2
      clear hx c1 c2
      generalize r[k] = x at *
      have hne : (x != x) = false := by simp
      go_wp2_with fail
      go_quiet (fail)
      go_wp2
      go_roundw
      case rel => exact ⟨k + 1, by omega, by go_num, HQ, ⟨(unhide HB).os, (unhide HB).tape, (unhide HB).output, (unhide HB).size, (unhide HB).block⟩⟩
      case measure => simp only [intOf]; omega
    · have hlti : ¬ (k : Int) < (r.length : Int) := by omega
      go_wp2
      go_ret
      exact ⟨rfl, unhide HB⟩
end Go.Proofs.Ytphnjedoghopcaa
