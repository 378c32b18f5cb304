/-
  package matrix, walked: isSaddle.
-/
import Derived.Test.YthplbfjpmnpjmaaDoorA3
namespace Go.Proofs.YthplbfjpmnpjmaaDoor
open Go.RowKit
attribute [local go_sem ↓] Go.wp_at_zero Go.wp_at_succ

/-- The number at a place. -/
def atG (G : List (List Int)) (i j : Nat) : Int := (G.getD i []).getD j 0
/-- The least of its row, the greatest of its column. -/
def saB (G : List (List Int)) (i j : Nat) : Bool := decide (atG G i j = minL (G.getD i [])) && G.all fun r => decide (r.getD j 0 ≤ atG G i j)

set_option maxHeartbeats 2000000 in
set_option maxRecDepth 100000 in
theorem isSaddle_any (B : Nat) (ao : Option Addr) (cap m i j : Nat) (G : List (List Int)) (w : World) (h : isMx w B ao cap G) (hm : ∀ r ∈ G, r.length = m) (hi : i < G.length) (hj : j < m) (hm6 : m ≤ 6) :
    Calls Tryd.prog 16 #[.slice ao G.length cap, .int .i64 (i : Int), .int .i64 (j : Int)] w fun e w' => e = .returned (.bool (saB G i j)) ∧ w' = w := by
  have hle := h.le
  have hmo := h.most
  unfold maxLen at hmo
  obtain ⟨n, hn⟩ : ∃ n, n = G.length := ⟨_, rfl⟩
  rw [← hn] at hle hi ⊢
  have hiG : i < G.length := by rw [← hn]; exact hi
  have hGne : G ≠ [] := fun e => by rw [e] at hiG; simp at hiG
  obtain ⟨g, off, eg, hg, hc⟩ := h.cells hGne
  subst eg
  obtain ⟨r, hr⟩ : ∃ r, G[i]? = some r := ⟨G[i], List.getElem?_eq_getElem hiG⟩
  obtain ⟨ro, rc, cr, hwr⟩ := hc i r hr
  have hrm := hm r (List.mem_of_getElem? hr)
  rw [hrm] at cr
  have hjr : j < r.length := by rw [hrm]; exact hj
  have hrne : r ≠ [] := fun e => by rw [e] at hjr; simp at hjr
  obtain ⟨rg, roff, erg, hrg, hrc⟩ := hwr.cells hrne
  subst erg
  obtain ⟨x, hx⟩ : ∃ x, r[j]? = some x := ⟨r[j], List.getElem?_eq_getElem hjr⟩
  have cx := hrc j x hx
  have hMin := Min_any B _ rc r w hwr (by omega)
  rw [hrm] at hMin
  have eG : G.getD i [] = r := by rw [List.getD_eq_getElem?_getD, hr]; rfl
  have eat : atG G i j = x := by unfold atG; rw [eG, List.getD_eq_getElem?_getD, hx]; rfl
  obtain ⟨R, hR⟩ : ∃ R, R = saB G i j := ⟨_, rfl⟩
  rw [← hR]
  have hR2 : R = (decide (x = minL r) && G.all fun r => decide (r.getD j 0 ≤ x)) := by rw [hR]; unfold saB; rw [eat, eG]
  obtain ⟨z, hz⟩ : ∃ z, z = minL r := ⟨_, rfl⟩
  rw [← hz] at hMin hR2
  have hii : (i : Int) < (n : Int) := by omega
  have hi0 : (0 : Int) ≤ (i : Int) := by omega
  have hjj : (j : Int) < (m : Int) := by omega
  have hj0 : (0 : Int) ≤ (j : Int) := by omega
  have HN := hide hn
  have HC := hide hc
  have HR := hide hR2
  have HM := hide hm
  have HMin := hide hMin
  clear hn hc hR2 hR hm hMin hz eG eat hx hrc hwr hr hrm hjr hrne hGne hiG h
  go_enter Tryd.func16, Tryd.ntmps16
  go_wp2_with fail
  refine (unhide HMin).mono ?_
  rintro e w' ⟨rfl, hw'⟩
  replace hw' := hw'.symm
  subst hw'
  by_cases hxz : x = z
  · subst hxz
    have hne : (x != x) = false := by simp
    have hRall : R = G.all fun r => decide (r.getD j 0 ≤ x) := by rw [unhide HR]; simp
    have HRA := hide hRall
    clear hRall
    go_wp2
    go_loopw [26] (fun iv wr => ∃ k : Nat, k ≤ n ∧ iv = .int .i64 (k : Int) ∧ ((G.take k).all fun r => decide (r.getD j 0 ≤ x)) = true ∧ wr = w) (fun iv _ => n - (intOf iv).toNat)
    case atStart => exact ⟨0, Nat.zero_le _, rfl, by simp, rfl⟩
    case round =>
      obtain ⟨k, hk, rfl, hall, hwe⟩ := hrel
      replace hwe := hwe.symm
      subst hwe
      by_cases hkl : k < n
      · have hkk : (k : Int) < (n : Int) := by omega
        have hkG : k < G.length := by rw [← unhide HN]; exact hkl
        obtain ⟨q, hq⟩ : ∃ q, G[k]? = some q := ⟨G[k], List.getElem?_eq_getElem hkG⟩
        have hqe : G[k] = q := by rw [List.getElem?_eq_getElem hkG] at hq; exact Option.some.inj hq
        obtain ⟨qo, qc, ck, hwk⟩ := unhide HC k q hq
        have hqm := unhide HM q (List.mem_of_getElem? hq)
        rw [hqm] at ck
        have hjq : j < q.length := by rw [hqm]; exact hj
        obtain ⟨qg, qoff, eqg, hqg, hqc⟩ := hwk.cells (fun e => by rw [e] at hjq; simp at hjq)
        subst eqg
        obtain ⟨y, hy⟩ : ∃ y, q[j]? = some y := ⟨q[j], List.getElem?_eq_getElem hjq⟩
        have cy := hqc j y hy
        have eqj : q.getD j 0 = y := by rw [List.getD_eq_getElem?_getD, hy]; rfl
        have hst : ((G.take (k + 1)).all fun r => decide (r.getD j 0 ≤ x)) = decide (y ≤ x) := by
          rw [List.take_succ_eq_append_getElem hkG, List.all_append, hqe, hall]
          simp [← eqj]
        have hbad : ¬ y ≤ x → R = false := fun e => by
          rw [unhide HRA, List.all_eq_false]
          exact ⟨q, List.mem_of_getElem? hq, by rw [eqj]; simpa using e⟩
        have HST := hide hst
        have HBAD := hide hbad
        clear hst hbad eqj hy hqc hwk hq hqe hkG hjq hqm hall
        by_cases hyx : y ≤ x
        · have hgt : ¬ x < y := by omega
          go_wp2
          go_roundw
          case rel => exact ⟨k + 1, by omega, by go_num, by rw [unhide HST]; simpa using hyx, trivial⟩
          case measure => simp [intOf]; omega
        · have hgt : x < y := by omega
          have hR0 : R = false := unhide HBAD hyx
          subst hR0
          go_wp2
          go_ret
          exact ⟨rfl, rfl⟩
      · obtain rfl : k = n := by omega
        have hii : ¬ (k : Int) < (k : Int) := by omega
        have hR1 : R = true := by
          rw [unhide HRA, ← hall, List.take_of_length_le (by rw [← unhide HN]; exact Nat.le_refl _)]
        subst hR1
        clear hall
        go_wp2
        go_ret
        exact ⟨rfl, rfl⟩
  · have hne : (x != z) = true := by simpa using hxz
    have hR0 : R = false := by rw [unhide HR]; simp [hxz]
    subst hR0
    go_wp2
    go_ret
    exact ⟨rfl, rfl⟩
end Go.Proofs.YthplbfjpmnpjmaaDoor
