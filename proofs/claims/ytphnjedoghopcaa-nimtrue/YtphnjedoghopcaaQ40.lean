/-
  gamelaw.Same of any two lists of numbers.
-/
import Derived.Test.YtphnjedoghopcaaQ33
namespace Go.Proofs.Ytphnjedoghopcaa
open Go.RowKit
attribute [local go_sem ↓] Go.wp_at_zero Go.wp_at_succ

set_option maxHeartbeats 2000000 in
set_option maxRecDepth 100000 in
theorem same_full (B : Nat) (aa ca : Option Addr) (ka kc : Nat) (r q : List Int) (w : World) (h1 : isIs w B aa ka r) (h2 : isIs w B ca kc q) :
    Calls Try.prog 10 #[.slice aa r.length ka, .slice ca q.length kc] w fun e w' => e = .returned (.bool (decide (r = q))) ∧ Below w.heap.size w w' := by
  have hla := h1.1
  have hlc := h2.1
  have hma := h1.2.1
  have hmc := h2.2.1
  unfold maxLen at hma hmc
  by_cases hll : r.length = q.length
  · have HLL := hide hll
    have H1 := hide h1
    have H2 := hide h2
    obtain ⟨R, hR⟩ : ∃ R, R = decide (r = q) := ⟨_, rfl⟩
    rw [← hR]
    have HR := hide hR
    have hne0 : ((r.length : Int) != (q.length : Int)) = false := by rw [hll]; simp
    clear h1 h2 hR hll
    go_enter Try.func10, Try.ntmps10
    go_wp2
    go_loopw [13] (fun iv wr => ∃ k : Nat, k ≤ r.length ∧ iv = .int .i64 (k : Int) ∧ Hid (∀ p, wr.cell? p = w.cell? p) ∧ Hid (r.take k = q.take k) ∧ Below w.heap.size w wr) (fun iv _ => r.length - (intOf iv).toNat)
    case atStart => exact ⟨0, Nat.zero_le _, rfl, hide (fun _ => rfl), hide rfl, Below.refl _ _⟩
    case round =>
      obtain ⟨k, hk, rfl, HQ, HT, hb⟩ := hrel
      have HB := hide hb
      clear hb
      by_cases hlt : k < r.length
      · have hlti : (k : Int) < (r.length : Int) := by omega
        have hk0 : (0 : Int) ≤ (k : Int) := by omega
        have hltq : k < q.length := by have := unhide HLL; omega
        have hltqi : (k : Int) < (q.length : Int) := by omega
        obtain ⟨g1, o1, e1, hg1, c1⟩ := (unhide H1).at_ (List.getElem?_eq_getElem hlt)
        obtain ⟨g2, o2, e2, hg2, c2⟩ := (unhide H2).at_ (List.getElem?_eq_getElem hltq)
        subst e1 e2
        have d1 := (unhide HQ ⟨g1, o1 + k, none⟩).trans c1
        have d2 := (unhide HQ ⟨g2, o2 + k, none⟩).trans c2
        have t1 : r.take (k + 1) = r.take k ++ [r[k]] := List.take_succ_eq_append_getElem hlt
        have t2 : q.take (k + 1) = q.take k ++ [q[k]] := List.take_succ_eq_append_getElem hltq
        have hdiff : r[k] ≠ q[k] → R = false := fun h => by
          rw [unhide HR]
          refine decide_eq_false fun e => ?_
          subst e
          exact h rfl
        clear c1 c2
        generalize r[k] = x at *
        generalize q[k] = y at *
        by_cases hxy : x = y
        · have hne : (x != y) = false := by simp [hxy]
          have HT2 : Hid (r.take (k + 1) = q.take (k + 1)) := hide (by rw [t1, t2, unhide HT, hxy])
          clear t1 t2 hxy hdiff
          go_wp2_with fail
          go_quiet (fail)
          go_wp2
          go_roundw
          case rel => exact ⟨k + 1, by omega, by go_num, HQ, HT2, ⟨(unhide HB).os, (unhide HB).tape, (unhide HB).output, (unhide HB).size, (unhide HB).block⟩⟩
          case measure => simp only [intOf]; omega
        · have hne : (x != y) = true := by simp [hxy]
          have HD := hide (hdiff hxy)
          clear t1 t2 hxy hdiff
          go_wp2_with fail
          go_quiet (fail)
          go_wp2
          go_ret
          exact ⟨ret_bool (unhide HD).symm, ⟨(unhide HB).os, (unhide HB).tape, (unhide HB).output, (unhide HB).size, (unhide HB).block⟩⟩
      · have hlti : ¬ (k : Int) < (r.length : Int) := by omega
        have hre : R = true := by
          rw [unhide HR]
          refine decide_eq_true ?_
          have := unhide HT
          rwa [List.take_of_length_le (by omega), List.take_of_length_le (by have := unhide HLL; omega)] at this
        have HRE := hide hre
        clear hre
        go_wp2
        go_ret
        exact ⟨ret_bool (unhide HRE).symm, unhide HB⟩
  · have hne0 : ((r.length : Int) != (q.length : Int)) = true := by rw [bne_iff_ne]; omega
    rw [decide_eq_false (fun e => hll (by rw [e]))]
    clear hll h1 h2
    go_enter Try.func10, Try.ntmps10
    go_wp2
    go_ret
    exact ⟨rfl, Below.refl _ _⟩
end Go.Proofs.Ytphnjedoghopcaa
