/-
  package matrix, walked: isFrom, areNumbers; a matrix in memory.
-/
import Derived.Test.YthplbfjpmnpjmaaDoorL1
namespace Go.Proofs.YthplbfjpmnpjmaaDoor
open Go.RowKit
attribute [local go_sem ↓] Go.wp_at_zero Go.wp_at_succ

def nbB (x : Int) : Bool := decide (-100 ≤ x) && decide (x ≤ 100)
/-- Rows of numbers in memory, in blocks below B. -/
structure isMx (w : World) (B : Nat) (ao : Option Addr) (cap : Nat) (G : List (List Int)) : Prop where
  le : G.length ≤ cap
  most : cap ≤ maxLen
  nil : ao = none → cap = 0
  cells : G ≠ [] → ∃ g off, ao = some ⟨g, off, none⟩ ∧ g < B ∧ ∀ (i : Nat) (r : List Int), G[i]? = some r → ∃ ro rc, w.cell? ⟨g, off + i, none⟩ = some (.slice ro r.length rc) ∧ isWl w B ro rc r
theorem isMx.below {w w' : World} {B B' : Nat} {ao : Option Addr} {cap : Nat} {G : List (List Int)} (h : isMx w B ao cap G) (hb : Below B' w w') (hB : B ≤ B') : isMx w' B ao cap G := by
  refine ⟨h.le, h.most, h.nil, fun hl => ?_⟩
  obtain ⟨g, off, e, hg, hc⟩ := h.cells hl
  refine ⟨g, off, e, hg, fun i r hr => ?_⟩
  obtain ⟨ro, rc, h1, h2⟩ := hc i r hr
  exact ⟨ro, rc, (hb.cell (p := ⟨g, off + i, none⟩) (Nat.lt_of_lt_of_le hg hB)).trans h1, h2.below hb hB⟩
/-- Is it a matrix? -/
def mxB (G : List (List Int)) : Bool := decide (1 ≤ G.length) && decide (G.length ≤ 6) && (decide (1 ≤ (G.getD 0 []).length) && decide ((G.getD 0 []).length ≤ 6)) && G.all fun r => decide (r.length = (G.getD 0 []).length) && r.all nbB

set_option maxHeartbeats 1000000 in
theorem mFrom_any (a n b : Int) (w : World) :
    Calls Tryd.prog 37 #[.int .i64 a, .int .i64 n, .int .i64 b] w fun e w' => e = .returned (.bool (decide (a ≤ n) && decide (n ≤ b))) ∧ w' = w := by
  go_enter Tryd.func37, Tryd.ntmps37
  go_wp2
  all_goals go_ret
  all_goals refine ⟨ret_bool ?_, rfl⟩
  all_goals first | (simp_all; done) | (simp_all; omega)

set_option maxHeartbeats 1000000 in
theorem mNumbers_any (B : Nat) (ao : Option Addr) (cap : Nat) (l : List Int) (w : World) (h : isWl w B ao cap l) :
    Calls Tryd.prog 38 #[.slice ao l.length cap] w fun e w' => e = .returned (.bool (l.all nbB)) ∧ w' = w := by
  have hle := h.le
  have hmo := h.most
  unfold maxLen at hmo
  obtain ⟨n, hn⟩ : ∃ n, n = l.length := ⟨_, rfl⟩
  rw [← hn]
  rw [← hn] at hle
  obtain ⟨R, hR⟩ : ∃ R, R = l.all nbB := ⟨_, rfl⟩
  rw [← hR]
  have HN := hide hn
  have HR := hide hR
  have HH := hide h
  clear hn hR h
  go_enter Tryd.func38, Tryd.ntmps38
  go_wp2
  go_loopw [7] (fun iv wr => ∃ i : Nat, i ≤ n ∧ iv = .int .i64 (i : Int) ∧ (l.take i).all nbB = true ∧ wr = w) (fun iv _ => n - (intOf iv).toNat)
  case atStart => exact ⟨0, Nat.zero_le _, rfl, by simp, rfl⟩
  case round =>
    obtain ⟨i, hi, rfl, hall, hwe⟩ := hrel
    replace hwe := hwe.symm
    subst hwe
    by_cases hil : i < n
    · have hii : (i : Int) < (n : Int) := by omega
      have hiw : i < l.length := by rw [← unhide HN]; exact hil
      obtain ⟨x, hx⟩ : ∃ x, l[i]? = some x := ⟨l[i], List.getElem?_eq_getElem hiw⟩
      have hxe : l[i] = x := by rw [List.getElem?_eq_getElem hiw] at hx; exact Option.some.inj hx
      obtain ⟨g, off, eg, hg, hc⟩ := (unhide HH).cells (fun e => by rw [e] at hiw; simp at hiw)
      subst eg
      have cx := hc i x hx
      have hst : (l.take (i + 1)).all nbB = nbB x := by
        rw [List.take_succ_eq_append_getElem hiw, List.all_append, hxe, hall]
        simp
      have HST := hide hst
      have HXM := hide (List.mem_of_getElem? hx)
      have hF := mFrom_any (-100) x 100 w
      have hwx : (decide (-100 ≤ x) && decide (x ≤ 100)) = nbB x := rfl
      rw [hwx] at hF
      obtain ⟨O, hO⟩ : ∃ O, O = nbB x := ⟨_, rfl⟩
      rw [← hO] at hF
      have HF := hide hF
      have HO := hide hO
      have hi64 : (i : Int) + 1 ≤ 9223372036854775807 := by omega
      clear hst hF hO hwx hc hx hxe hiw hall
      cases O with
      | true =>
        go_wp2_with fail
        refine (unhide HF).mono ?_
        rintro e w1 ⟨rfl, rfl⟩
        go_wp2
        go_roundw
        case rel => exact ⟨i + 1, by omega, by go_num, by rw [unhide HST, ← unhide HO], trivial⟩
        case measure => simp [intOf]; omega
      | false =>
        have hR0 : R = false := by
          rw [unhide HR]
          simp only [List.all_eq_false]
          exact ⟨x, unhide HXM, by rw [← unhide HO]; simp⟩
        subst hR0
        go_wp2_with fail
        refine (unhide HF).mono ?_
        rintro e w1 ⟨rfl, rfl⟩
        go_wp2
        go_ret
        exact ⟨rfl, rfl⟩
    · obtain rfl : i = n := by omega
      have hii : ¬ (i : Int) < (i : Int) := by omega
      have hR1 : R = true := by
        rw [unhide HR, ← hall, List.take_of_length_le (by rw [← unhide HN]; exact Nat.le_refl _)]
      subst hR1
      clear hall
      go_wp2
      go_ret
      exact ⟨rfl, rfl⟩

end Go.Proofs.YthplbfjpmnpjmaaDoor
