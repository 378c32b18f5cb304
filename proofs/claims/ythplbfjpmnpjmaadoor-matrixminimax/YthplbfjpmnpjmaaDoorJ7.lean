/-
  parlourbig.div, walked: two words at most.
  parlourbig.div: rows of words of its own; the divisor moved to the top.
-/
import Derived.Test.YthplbfjpmnpjmaaDoorJ6
import Derived.IntWalk
import Derived.Laws.CopyOwn
namespace Go.Proofs.YthplbfjpmnpjmaaDoor
open Go.RowKit
attribute [local go_sem ↓] Go.wp_at_zero Go.wp_at_succ

set_option maxHeartbeats 1000000 in
set_option maxRecDepth 100000 in
theorem div_two (ao bo : Option Addr) (ca cb : Nat) (a b : List Nat) (w : World) (ha : isWs w ao ca a) (hb : isWs w bo cb b) (ta : trimL a = a) (tb : trimL b = b) (hle : val 4294967296 b ≤ val 4294967296 a) (hb0 : b ≠ []) (hla : a.length ≤ 2) :
    Calls Tryd.prog 77 #[.slice ao a.length ca, .slice bo b.length cb] w (Divd (val 4294967296 a) (val 4294967296 b) w) := by
  have hbp := List.length_pos_iff.2 hb0
  have hbl : ¬ (b.length : Int) = 0 := by omega
  have hbpos : 0 < val 4294967296 b := by
    have := trim_low b tb 0 hbp
    simp at this; omega
  have hbl2 : b.length ≤ 2 := by
    rcases Nat.lt_or_ge a.length b.length with h | h
    · have := cmp_len tb ha.small h; omega
    · omega
  have hc := cmp_less ao bo ca cb a b w ha hb ta tb
  have hA : val 4294967296 a < 18446744073709551616 := by
    have h1 := val_lt 4294967296 a ha.small
    have h2 : 4294967296 ^ a.length ≤ 4294967296 ^ 2 := Nat.pow_le_pow_right (by omega) hla
    have h3 : 4294967296 ^ 2 = 18446744073709551616 := by decide
    omega
  have hpa := fun n => plain_any ao ca a (w.drewN n) (ha.drewN n) hla
  have hpb := fun n => plain_any bo cb b (w.drewN n) (hb.drewN n) hbl2
  have hcm : ¬ cmpN (val 4294967296 a) (val 4294967296 b) < 0 := by unfold cmpN; rw [if_neg (by omega)]; split <;> omega
  obtain ⟨X, hX⟩ : ∃ X, X = val 4294967296 a := ⟨_, rfl⟩
  obtain ⟨Y, hY⟩ : ∃ Y, Y = val 4294967296 b := ⟨_, rfl⟩
  obtain ⟨C, hC⟩ : ∃ C, C = cmpN (val 4294967296 a) (val 4294967296 b) := ⟨_, rfl⟩
  rw [← hC] at hc hcm
  rw [← hX] at hpa hA hle ⊢
  rw [← hY] at hpb hle hbpos ⊢
  obtain ⟨q, hq⟩ : ∃ q, q = X / Y := ⟨_, rfl⟩
  obtain ⟨r, hr⟩ : ∃ r, r = X % Y := ⟨_, rfl⟩
  have hqi : (X : Int) / (Y : Int) = (q : Int) := by rw [hq]; simp
  have hri : (X : Int) % (Y : Int) = (r : Int) := by rw [hr]; simp
  have hqs : q < 18446744073709551616 := by rw [hq]; exact Nat.lt_of_le_of_lt (Nat.div_le_self _ _) hA
  have hrs : r < 18446744073709551616 := by rw [hr]; exact Nat.lt_of_le_of_lt (Nat.mod_le _ _) hA
  have hwq : IntKind.u64.wrap (q : Int) = (q : Int) := IntWalk.u64_in _ (by omega)
  have hwr : IntKind.u64.wrap (r : Int) = (r : Int) := IntWalk.u64_in _ (by omega)
  have htm : (X : Int).tmod (Y : Int) = (r : Int) := by rw [IntWalk.rem_in _ _ (by omega), hri]
  have hY0 : ¬ (Y : Int) = 0 := by omega
  have hY1 : ((Y : Int) == 0) = false := by simp; omega
  have hY2 : ¬ Y = 0 := by omega
  have hal : (a.length : Int) ≤ 2 := by omega
  have HC := hide hc
  have HPA := hide hpa
  have HPB := hide hpb
  have HQ := hide hq
  have HR := hide hr
  clear hc hpa hpb hq hr hX hY hC ha hb ta tb hb0 hla hbl2 hbp
  go_enter Tryd.func77, Tryd.ntmps77
  go_wp2_with fail
  refine (unhide HC).mono ?_
  rintro e w1 ⟨rfl, n, rfl⟩
  go_wp2_with fail
  refine (unhide HPA n).mono ?_
  rintro e w2 ⟨rfl, rfl⟩
  go_wp2_with fail
  refine (unhide HPB n).mono ?_
  rintro e w2 ⟨rfl, rfl⟩
  go_wp2
  go_region_held3 (fun _ => True) (trivial)
    (first
      | (go_at_call 65; with_reducible refine (words_val q _ hqs).mono ?_; rintro e wq ⟨qo, qc, ql, rfl, hq1, hq2, hq3⟩)
      | (go_at_call 65; with_reducible refine (words_val r _ hrs).mono ?_; rintro e wr ⟨ro, rc, rl, rfl, hr1, hr2, hr3⟩))
  all_goals (
    go_wp2
    go_ret2
    first
      | (refine ⟨qo, qc, ql, ro, rc, rl, rfl, hq1, hr1.below hq3 (Nat.le_refl _), by rw [hq2]; exact unhide HQ, by rw [hr2]; exact unhide HR, ?_⟩
         have h2 : Below w.heap.size wr wq := hq3.mono hr3.size
         exact ⟨h2.os.trans hr3.os, h2.tape.trans hr3.tape, h2.output.trans hr3.output, Nat.le_trans hr3.size h2.size, fun k hk => (h2.block k hk).trans (hr3.block k hk)⟩)
      | (refine ⟨qo, qc, ql, ro, rc, rl, rfl, hq1.below hr3 (Nat.le_refl _), hr1, by rw [hq2]; exact unhide HQ, by rw [hr2]; exact unhide HR, ?_⟩
         have h2 : Below w.heap.size wq wr := hr3.mono hq3.size
         exact ⟨h2.os.trans hq3.os, h2.tape.trans hq3.tape, h2.output.trans hq3.output, Nat.le_trans hq3.size h2.size, fun k hk => (h2.block k hk).trans (hq3.block k hk)⟩))

end Go.Proofs.YthplbfjpmnpjmaaDoor

namespace Go.Proofs.YthplbfjpmnpjmaaDoor
open Go.RowKit

theorem ownU.keep {w w' : World} {base g : Nat} {l : List Nat} (h : ownU w base g l) (e : w'.heap[g]? = w.heap[g]?) : ownU w' base g l := by
  obtain ⟨h1, h⟩ := h
  refine ⟨h1, ?_⟩
  rcases h with h | ⟨g', cap, cur, e1, hb, hg, r⟩
  · exact .inl h
  · refine .inr ⟨g', cap, cur, e1, hb, ?_, r⟩
    cases e1
    rw [e]; exact hg
theorem ownU.below {w w' : World} {base g S : Nat} {l : List Nat} (h : ownU w base g l) (hb : Below S w w') (hS : g < S) : ownU w' base g l := h.keep (hb.block g hS)
theorem ownU.other {w : World} {base g g' k : Nat} {l : List Nat} {u : Value} (h : ownU w base g l) (hn : g ≠ g') : ownU (w.setCell ⟨g', k, none⟩ u) base g l := h.keep (Below.heap_setCell _ _ _ _ hn)
theorem ownU.block {w : World} {base g : Nat} {l : List Nat} (h : ownU w base g l) : w.heap[g]? = some (.cells (uvals l).toArray 106 (0, 0)) := by
  obtain ⟨_, h⟩ := h
  rcases h with ⟨e, _⟩ | ⟨g', cap, cur, e, hb, hg, hn, hm, hc, ht⟩
  · cases e
  · cases e
    have : cur.toList = uvals l := by
      rw [← ht, List.take_of_length_le (by rw [Array.length_toList, hc]; omega)]
    rw [hg, ← this]
theorem ownU_of {w : World} {base g : Nat} {l : List Nat} (hb : base ≤ g) (hg : w.heap[g]? = some (.cells (uvals l).toArray 106 (0, 0))) (hl : l.length ≤ 100000) : ownU w base g l := by
  refine ⟨by simp [uvals], .inr ⟨g, l.length, _, rfl, hb, hg, Nat.le_refl _, by unfold maxLen; omega, by simp [uvals], ?_⟩⟩
  rw [List.take_of_length_le (by simp [uvals])]

theorem norm_top (b : List Nat) (x n : Nat) (l : List Nat) (sb : ∀ y ∈ b ++ [x], y < 4294967296) (h1 : 1 ≤ n) (h2 : n ≤ 32) (hx1 : 2 ^ (n - 1) ≤ x) (hx2 : x < 2 ^ n) (hl : val 4294967296 l = val 4294967296 (b ++ [x]) * 2 ^ (32 - n)) (sl : ∀ y ∈ trimL l, y < 4294967296) :
    (trimL l).length = b.length + 1 ∧ ∃ top, (trimL l)[b.length]? = some top ∧ 2147483648 ≤ top := by
  have hv := trimL_val 4294967296 l
  have ht := trimL_idem l
  generalize hL : trimL l = L at hv ht sl
  clear hL
  have e1 : (2 : Nat) ^ (n - 1) * 2 ^ (32 - n) = 2147483648 := by
    rw [← Nat.pow_add]
    have : n - 1 + (32 - n) = 31 := by omega
    rw [this]
  have e2 : (2 : Nat) ^ n * 2 ^ (32 - n) = 4294967296 := by
    rw [← Nat.pow_add]
    have : n + (32 - n) = 32 := by omega
    rw [this]
  have hval : val 4294967296 (b ++ [x]) = val 4294967296 b + 4294967296 ^ b.length * x := by rw [val_app]; simp [val]
  have hbl := val_lt 4294967296 b (fun y hy => sb y (by simp [hy]))
  have hlow : 2147483648 * 4294967296 ^ b.length ≤ val 4294967296 L := by
    rw [hv, hl, hval, ← e1, Nat.mul_comm (2 ^ (n - 1)), Nat.mul_assoc, Nat.mul_comm _ (2 ^ (32 - n))]
    refine Nat.mul_le_mul_left _ ?_
    rw [Nat.mul_comm]
    have := Nat.mul_le_mul_left (4294967296 ^ b.length) hx1
    omega
  have hhi : val 4294967296 L < 4294967296 ^ (b.length + 1) := by
    rw [hv, hl, hval, Nat.pow_succ]
    have k1 : val 4294967296 b + 4294967296 ^ b.length * x < 4294967296 ^ b.length * 2 ^ n := by
      have := Nat.mul_le_mul_left (4294967296 ^ b.length) (show x + 1 ≤ 2 ^ n from hx2)
      rw [Nat.mul_add, Nat.mul_one] at this
      omega
    have k2 := Nat.mul_lt_mul_of_pos_right k1 (Nat.two_pow_pos (32 - n))
    rw [Nat.mul_assoc _ (2 ^ n), e2] at k2
    exact k2
  have hlen : L.length = b.length + 1 := by
    have h3 := trim_len (by omega) L (b.length + 1) ht hhi
    rcases Nat.lt_or_ge b.length L.length with h4 | h4
    · omega
    · have h5 := val_lt 4294967296 L sl
      have h6 : 4294967296 ^ L.length ≤ 4294967296 ^ b.length := Nat.pow_le_pow_right (by omega) h4
      have h7 : 1 * 4294967296 ^ b.length ≤ 2147483648 * 4294967296 ^ b.length := Nat.mul_le_mul_right _ (by omega)
      omega
  refine ⟨hlen, L[b.length]'(by omega), List.getElem?_eq_getElem _, ?_⟩
  have h8 := val_take_succ 4294967296 L b.length _ (List.getElem?_eq_getElem (by omega))
  rw [List.take_of_length_le (by omega)] at h8
  have h9 := val_lt 4294967296 (L.take b.length) (fun y hy => sl y (List.mem_of_mem_take hy))
  rw [List.length_take, Nat.min_eq_left (by omega)] at h9
  generalize L[b.length]'(by omega) = top at h8
  rcases Nat.lt_or_ge top 2147483648 with h10 | h10
  · have h11 : (top + 1) * 4294967296 ^ b.length ≤ 2147483648 * 4294967296 ^ b.length := Nat.mul_le_mul_right _ (by omega)
    rw [Nat.add_mul, Nat.one_mul] at h11
    omega
  · exact h10

/-- What is divided, moved, with noughts above. -/
theorem val_app_zeros (B : Nat) (l : List Nat) (k : Nat) : val B (l ++ List.replicate k 0) = val B l := by rw [val_app, val_zeros]; simp
theorem uvals_app (a b : List Nat) : uvals (a ++ b) = uvals a ++ uvals b := by simp [uvals]
theorem uvals_rep (k : Nat) : uvals (List.replicate k 0) = List.replicate k (.int .u32 0) := by simp [uvals]

/-- The quotient's and the rest's words, at the end. -/
theorem div_end (U Q V D A s : Nat) (h : U + Q * V = A * 2 ^ s) (hV : V = D * 2 ^ s) (hU : U < V) : Q = A / D ∧ U / 2 ^ s = A % D := by
  have hp : 0 < 2 ^ s := Nat.two_pow_pos s
  have hD : 0 < D := by
    rcases Nat.eq_zero_or_pos D with h0 | h0
    · rw [h0] at hV; omega
    · exact h0
  have e1 : Q * D * 2 ^ s ≤ A * 2 ^ s := by rw [Nat.mul_assoc, ← hV]; omega
  have e2 : Q * D ≤ A := Nat.le_of_mul_le_mul_right e1 hp
  have e3 : U = (A - Q * D) * 2 ^ s := by rw [Nat.sub_mul, Nat.mul_assoc, ← hV]; omega
  have e4 : A - Q * D < D := by
    rw [e3, hV] at hU
    exact Nat.lt_of_mul_lt_mul_right hU
  have e5 : A = D * Q + (A - Q * D) := by rw [Nat.mul_comm D Q]; omega
  have hq : A / D = Q := by
    rw [e5, Nat.mul_add_div hD, Nat.div_eq_of_lt e4, Nat.add_zero]
  have hr : A % D = A - Q * D := by
    have := Nat.mul_add_mod D Q (A - Q * D)
    rw [← e5, Nat.mod_eq_of_lt e4] at this
    exact this
  exact ⟨hq.symm, by rw [hr, e3, Nat.mul_div_cancel _ hp]⟩
/-- At the beginning what is left is below the divisor moved up by all words. -/
theorem div_begin (A s n m na V : Nat) (hA : A < 4294967296 ^ na) (hs : s < 32) (hV : 2147483648 * 4294967296 ^ n ≤ V) (hm : na + 1 = m + n + 1) : A * 2 ^ s < V * 4294967296 ^ (m + 1) := by
  have h1 : (2 : Nat) ^ s ≤ 2 ^ 31 := Nat.pow_le_pow_right (by omega) (by omega)
  have h2 : (2 : Nat) ^ 31 = 2147483648 := by decide
  have h3 : A * 2 ^ s < 4294967296 ^ na * 2147483648 := by
    have := Nat.mul_lt_mul_of_pos_right hA (Nat.two_pow_pos s)
    have h4 : 4294967296 ^ na * 2 ^ s ≤ 4294967296 ^ na * 2147483648 := Nat.mul_le_mul_left _ (by omega)
    omega
  have h5 : 2147483648 * 4294967296 ^ n * 4294967296 ^ (m + 1) ≤ V * 4294967296 ^ (m + 1) := Nat.mul_le_mul_right _ hV
  rw [Nat.mul_assoc, ← Nat.pow_add] at h5
  have h6 : 4294967296 ^ na ≤ 4294967296 ^ (n + (m + 1)) := Nat.pow_le_pow_right (by omega) (by omega)
  have h7 : 4294967296 ^ na * 2147483648 ≤ 2147483648 * 4294967296 ^ (n + (m + 1)) := by rw [Nat.mul_comm]; exact Nat.mul_le_mul_left _ h6
  omega
end Go.Proofs.YthplbfjpmnpjmaaDoor
