/-
  package matrix, walked: isSaddle.
  package matrix, walked: Saddle.
  package matrix, walked: divisor.
-/
import Derived.Test.YthplbfjpmnpjmaaDoorJ19
namespace Go.Proofs.YthplbfjpmnpjmaaDoor
open Go.RowKit
attribute [local go_sem ↓] Go.wp_at_zero Go.wp_at_succ

/-- The number at a place. -/
def atG (G : List (List Int)) (i j : Nat) : Int := (G.getD i []).getD j 0
/-- The least of its row, the greatest of its column. -/
def saB (G : List (List Int)) (i j : Nat) : Bool := decide (atG G i j = minL (G.getD i [])) && G.all fun r => decide (r.getD j 0 ≤ atG G i j)

set_option maxHeartbeats 2000000 in
set_option maxRecDepth 100000 in
theorem isSaddle_any (B : Nat) (ao : Option Addr) (cap m i j : Nat) (G : List (List Int)) (w : World) (h : isMx w B ao cap G) (hm : ∀ r ∈ G, r.length = m) (hi : i < G.length) (hj : j < m) (hm6 : m ≤ 6) :
    Calls Tryd.prog 16 #[.slice ao G.length cap, .int .i64 (i : Int), .int .i64 (j : Int)] w fun e w' => e = .returned (.bool (saB G i j)) ∧ w' = w := by
  have hle := h.le
  have hmo := h.most
  unfold maxLen at hmo
  obtain ⟨n, hn⟩ : ∃ n, n = G.length := ⟨_, rfl⟩
  rw [← hn] at hle hi ⊢
  have hiG : i < G.length := by rw [← hn]; exact hi
  have hGne : G ≠ [] := fun e => by rw [e] at hiG; simp at hiG
  obtain ⟨g, off, eg, hg, hc⟩ := h.cells hGne
  subst eg
  obtain ⟨r, hr⟩ : ∃ r, G[i]? = some r := ⟨G[i], List.getElem?_eq_getElem hiG⟩
  obtain ⟨ro, rc, cr, hwr⟩ := hc i r hr
  have hrm := hm r (List.mem_of_getElem? hr)
  rw [hrm] at cr
  have hjr : j < r.length := by rw [hrm]; exact hj
  have hrne : r ≠ [] := fun e => by rw [e] at hjr; simp at hjr
  obtain ⟨rg, roff, erg, hrg, hrc⟩ := hwr.cells hrne
  subst erg
  obtain ⟨x, hx⟩ : ∃ x, r[j]? = some x := ⟨r[j], List.getElem?_eq_getElem hjr⟩
  have cx := hrc j x hx
  have hMin := Min_any B _ rc r w hwr (by omega)
  rw [hrm] at hMin
  have eG : G.getD i [] = r := by rw [List.getD_eq_getElem?_getD, hr]; rfl
  have eat : atG G i j = x := by unfold atG; rw [eG, List.getD_eq_getElem?_getD, hx]; rfl
  obtain ⟨R, hR⟩ : ∃ R, R = saB G i j := ⟨_, rfl⟩
  rw [← hR]
  have hR2 : R = (decide (x = minL r) && G.all fun r => decide (r.getD j 0 ≤ x)) := by rw [hR]; unfold saB; rw [eat, eG]
  obtain ⟨z, hz⟩ : ∃ z, z = minL r := ⟨_, rfl⟩
  rw [← hz] at hMin hR2
  have hii : (i : Int) < (n : Int) := by omega
  have hi0 : (0 : Int) ≤ (i : Int) := by omega
  have hjj : (j : Int) < (m : Int) := by omega
  have hj0 : (0 : Int) ≤ (j : Int) := by omega
  have HN := hide hn
  have HC := hide hc
  have HR := hide hR2
  have HM := hide hm
  have HMin := hide hMin
  clear hn hc hR2 hR hm hMin hz eG eat hx hrc hwr hr hrm hjr hrne hGne hiG h
  go_enter Tryd.func16, Tryd.ntmps16
  go_wp2_with fail
  refine (unhide HMin).mono ?_
  rintro e w' ⟨rfl, hw'⟩
  replace hw' := hw'.symm
  subst hw'
  by_cases hxz : x = z
  · subst hxz
    have hne : (x != x) = false := by simp
    have hRall : R = G.all fun r => decide (r.getD j 0 ≤ x) := by rw [unhide HR]; simp
    have HRA := hide hRall
    clear hRall
    go_wp2
    go_loopw [26] (fun iv wr => ∃ k : Nat, k ≤ n ∧ iv = .int .i64 (k : Int) ∧ ((G.take k).all fun r => decide (r.getD j 0 ≤ x)) = true ∧ wr = w) (fun iv _ => n - (intOf iv).toNat)
    case atStart => exact ⟨0, Nat.zero_le _, rfl, by simp, rfl⟩
    case round =>
      obtain ⟨k, hk, rfl, hall, hwe⟩ := hrel
      replace hwe := hwe.symm
      subst hwe
      by_cases hkl : k < n
      · have hkk : (k : Int) < (n : Int) := by omega
        have hkG : k < G.length := by rw [← unhide HN]; exact hkl
        obtain ⟨q, hq⟩ : ∃ q, G[k]? = some q := ⟨G[k], List.getElem?_eq_getElem hkG⟩
        have hqe : G[k] = q := by rw [List.getElem?_eq_getElem hkG] at hq; exact Option.some.inj hq
        obtain ⟨qo, qc, ck, hwk⟩ := unhide HC k q hq
        have hqm := unhide HM q (List.mem_of_getElem? hq)
        rw [hqm] at ck
        have hjq : j < q.length := by rw [hqm]; exact hj
        obtain ⟨qg, qoff, eqg, hqg, hqc⟩ := hwk.cells (fun e => by rw [e] at hjq; simp at hjq)
        subst eqg
        obtain ⟨y, hy⟩ : ∃ y, q[j]? = some y := ⟨q[j], List.getElem?_eq_getElem hjq⟩
        have cy := hqc j y hy
        have eqj : q.getD j 0 = y := by rw [List.getD_eq_getElem?_getD, hy]; rfl
        have hst : ((G.take (k + 1)).all fun r => decide (r.getD j 0 ≤ x)) = decide (y ≤ x) := by
          rw [List.take_succ_eq_append_getElem hkG, List.all_append, hqe, hall]
          simp [← eqj]
        have hbad : ¬ y ≤ x → R = false := fun e => by
          rw [unhide HRA, List.all_eq_false]
          exact ⟨q, List.mem_of_getElem? hq, by rw [eqj]; simpa using e⟩
        have HST := hide hst
        have HBAD := hide hbad
        clear hst hbad eqj hy hqc hwk hq hqe hkG hjq hqm hall
        by_cases hyx : y ≤ x
        · have hgt : ¬ x < y := by omega
          go_wp2
          go_roundw
          case rel => exact ⟨k + 1, by omega, by go_num, by rw [unhide HST]; simpa using hyx, trivial⟩
          case measure => simp [intOf]; omega
        · have hgt : x < y := by omega
          have hR0 : R = false := unhide HBAD hyx
          subst hR0
          go_wp2
          go_ret
          exact ⟨rfl, rfl⟩
      · obtain rfl : k = n := by omega
        have hii : ¬ (k : Int) < (k : Int) := by omega
        have hR1 : R = true := by
          rw [unhide HRA, ← hall, List.take_of_length_le (by rw [← unhide HN]; exact Nat.le_refl _)]
        subst hR1
        clear hall
        go_wp2
        go_ret
        exact ⟨rfl, rfl⟩
  · have hne : (x != z) = true := by simpa using hxz
    have hR0 : R = false := by rw [unhide HR]; simp [hxz]
    subst hR0
    go_wp2
    go_ret
    exact ⟨rfl, rfl⟩
end Go.Proofs.YthplbfjpmnpjmaaDoor

namespace Go.Proofs.YthplbfjpmnpjmaaDoor
open Go.RowKit
attribute [local go_sem ↓] Go.wp_at_zero Go.wp_at_succ

theorem mxB_rows {G : List (List Int)} (h : mxB G = true) : ∃ m, 1 ≤ G.length ∧ G.length ≤ 6 ∧ 1 ≤ m ∧ m ≤ 6 ∧ (∀ r ∈ G, r.length = m ∧ r.all nbB = true) ∧ (G.getD 0 []).length = m := by
  unfold mxB at h
  simp only [Bool.and_eq_true, decide_eq_true_eq, List.all_eq_true] at h
  obtain ⟨⟨⟨h1, h2⟩, h3, h4⟩, h5⟩ := h
  refine ⟨_, h1, h2, h3, h4, fun r hr => ⟨(h5 r hr).1, ?_⟩, rfl⟩
  rw [List.all_eq_true]
  exact (h5 r hr).2
/-- No saddle before a place. -/
def noneB (G : List (List Int)) (m i j : Nat) : Prop := ∀ a b : Nat, ((a < i ∧ b < m) ∨ (a = i ∧ b < j)) → saB G a b = false
theorem noneB.next {G : List (List Int)} {m i j : Nat} (h : noneB G m i j) (hs : saB G i j = false) : noneB G m i (j + 1) := by
  intro a b hab
  rcases hab with hab | ⟨rfl, hb⟩
  · exact h a b (Or.inl hab)
  · rcases Nat.lt_or_ge b j with hlt | hge
    · exact h a b (Or.inr ⟨rfl, hlt⟩)
    · obtain rfl : b = j := by omega
      exact hs
theorem noneB.row {G : List (List Int)} {m i : Nat} (h : noneB G m i m) : noneB G m (i + 1) 0 := by
  intro a b hab
  rcases hab with ⟨ha, hb⟩ | ⟨rfl, hb⟩
  · rcases Nat.lt_or_ge a i with hlt | hge
    · exact h a b (Or.inl ⟨hlt, hb⟩)
    · exact h a b (Or.inr ⟨by omega, hb⟩)
  · omega

/-- Four results. -/
theorem res4 {fn : Func} {t u v x : Tmp} (h : fn.results = #[.tmp t, .tmp u, .tmp v, .tmp x]) (tmps : Array Value) (P : Program) (w : World) :
    (results fn tmps).run P w = .ok (.tuple #[tmps.getD t undef, tmps.getD u undef, tmps.getD v undef, tmps.getD x undef]) w := by simp [results, h]

set_option maxHeartbeats 2000000 in
set_option maxRecDepth 100000 in
theorem Saddle_bad (B : Nat) (ao : Option Addr) (cap : Nat) (G : List (List Int)) (w : World) (h : isMx w B ao cap G) (hb : mxB G = false) :
    Calls Tryd.prog 5 #[.slice ao G.length cap] w fun e w' => e = .returned (.tuple #[.int .i64 0, .int .i64 0, .bool false, .int .i64 1]) ∧ w' = w := by
  have hC := mCheck_any B ao cap G w h
  rw [hb] at hC
  simp only [Bool.false_eq_true, if_false] at hC
  have HC := hide hC
  clear hC
  go_enter Tryd.func5, Tryd.ntmps5
  go_wp2_with fail
  refine (unhide HC).mono ?_
  rintro e w' ⟨rfl, hw'⟩
  replace hw' := hw'.symm
  subst hw'
  go_wp2
  ((try simp only [Exit.inBlock, Exit.then]); refine bodyPost_ret (res4 rfl _ _ _) rfl ?_)
  exact ⟨rfl, rfl⟩

set_option maxHeartbeats 2000000 in
set_option maxRecDepth 100000 in
theorem Saddle_any (B : Nat) (ao : Option Addr) (cap m : Nat) (G : List (List Int)) (w : World) (h : isMx w B ao cap G) (hb : mxB G = true) (hm : ∀ r ∈ G, r.length = m) (hm6 : m ≤ 6) :
    Calls Tryd.prog 5 #[.slice ao G.length cap] w fun e w' => ((noneB G m G.length 0 ∧ e = .returned (.tuple #[.int .i64 0, .int .i64 0, .bool false, .int .i64 0])) ∨ (∃ i j : Nat, i < G.length ∧ j < m ∧ noneB G m i j ∧ saB G i j = true ∧ e = .returned (.tuple #[.int .i64 (i : Int), .int .i64 (j : Int), .bool true, .int .i64 0]))) ∧ w' = w := by
  have hC := mCheck_any B ao cap G w h
  rw [hb] at hC
  simp only [if_true] at hC
  have hle := h.le
  have hmo := h.most
  unfold maxLen at hmo
  have hS := fun (i j : Nat) (hi : i < G.length) (hj : j < m) => isSaddle_any B ao cap m i j G w h hm hi hj hm6
  obtain ⟨n, hn⟩ : ∃ n, n = G.length := ⟨_, rfl⟩
  rw [← hn] at hle hC hS ⊢
  have HC := hide hC
  have HS := hide hS
  have HN := hide hn
  have HM := hide hm
  have HH := hide h
  clear hC hS hn hm h hb
  go_enter Tryd.func5, Tryd.ntmps5
  go_wp2_with fail
  refine (unhide HC).mono ?_
  rintro e w' ⟨rfl, hw'⟩
  replace hw' := hw'.symm
  subst hw'
  go_wp2
  go_loopw [17] (fun iv wr => ∃ i : Nat, i ≤ n ∧ iv = .int .i64 (i : Int) ∧ Hid (noneB G m i 0) ∧ wr = w) (fun iv _ => n - (intOf iv).toNat)
  case atStart => exact ⟨0, Nat.zero_le _, rfl, hide (by intro a b hab; omega), rfl⟩
  case round =>
    obtain ⟨i, hi, rfl, HN0, hwe⟩ := hrel
    replace hwe := hwe.symm
    subst hwe
    by_cases hil : i < n
    · have hii : (i : Int) < (n : Int) := by omega
      have hiG : i < G.length := by rw [← unhide HN]; exact hil
      obtain ⟨r, hr⟩ : ∃ r, G[i]? = some r := ⟨G[i], List.getElem?_eq_getElem hiG⟩
      obtain ⟨g, off, eg, hg, hc⟩ := (unhide HH).cells (fun e => by rw [e] at hiG; simp at hiG)
      subst eg
      obtain ⟨ro, rc, cr, hwr⟩ := hc i r hr
      rw [unhide HM r (List.mem_of_getElem? hr)] at cr
      clear hc hr hwr hiG
      go_wp2
      go_loopw [24] (fun iv wr => ∃ j : Nat, j ≤ m ∧ iv = .int .i64 (j : Int) ∧ Hid (noneB G m i j) ∧ wr = w) (fun iv _ => m - (intOf iv).toNat)
      case atStart => exact ⟨0, Nat.zero_le _, rfl, HN0, rfl⟩
      case round =>
        obtain ⟨j, hj, rfl, HNJ, hwe⟩ := hrel
        replace hwe := hwe.symm
        subst hwe
        by_cases hjl : j < m
        · have hjj : (j : Int) < (m : Int) := by omega
          have hS := unhide HS i j hil hjl
          obtain ⟨b, hb⟩ : ∃ b, b = saB G i j := ⟨_, rfl⟩
          rw [← hb] at hS
          have HSJ := hide hS
          have HB := hide hb
          clear hS hb
          cases b with
          | true =>
            go_wp2_with fail
            refine (unhide HSJ).mono ?_
            rintro e w' ⟨rfl, hw'⟩
            replace hw' := hw'.symm
            subst hw'
            go_wp2
            ((try simp only [Exit.inBlock, Exit.then]); refine bodyPost_ret (res4 rfl _ _ _) rfl ?_)
            exact ⟨Or.inr ⟨i, j, hil, hjl, unhide HNJ, (unhide HB).symm, rfl⟩, rfl⟩
          | false =>
            go_wp2_with fail
            refine (unhide HSJ).mono ?_
            rintro e w' ⟨rfl, hw'⟩
            replace hw' := hw'.symm
            subst hw'
            go_wp2
            go_roundw
            case rel => exact ⟨j + 1, by omega, by go_num, hide ((unhide HNJ).next (unhide HB).symm), trivial⟩
            case measure => simp [intOf]; omega
        · obtain rfl : j = m := by omega
          have hjj : ¬ (j : Int) < (j : Int) := by omega
          go_wp2
          go_roundw
          case rel => exact ⟨i + 1, by omega, by go_num, hide (unhide HNJ).row, trivial⟩
          case measure => simp [intOf]; omega
    · obtain rfl : i = n := by omega
      have hii : ¬ (i : Int) < (i : Int) := by omega
      go_wp2
      ((try simp only [Exit.inBlock, Exit.then]); refine bodyPost_ret (res4 rfl _ _ _) rfl ?_)
      exact ⟨Or.inl ⟨unhide HN0, rfl⟩, rfl⟩
end Go.Proofs.YthplbfjpmnpjmaaDoor

namespace Go.Proofs.YthplbfjpmnpjmaaDoor
open Go.RowKit
attribute [local go_sem ↓] Go.wp_at_zero Go.wp_at_succ

theorem gcdT (a b : Nat) : Nat.gcd b (a % b) = Nat.gcd a b := by rw [Nat.gcd_comm b, ← Nat.gcd_rec, Nat.gcd_comm]

set_option maxHeartbeats 1000000 in
theorem mDivisor_any (a b : Nat) (w : World) (ha : a < 9223372036854775808) (hb : b < 9223372036854775808) :
    Calls Tryd.prog 35 #[.int .i64 (a : Int), .int .i64 (b : Int)] w fun e w' => e = .returned (.int .i64 ((Nat.gcd a b : Nat) : Int)) ∧ Below w.heap.size w w' := by
  obtain ⟨G, hG⟩ : ∃ G, Nat.gcd a b = G := ⟨_, rfl⟩
  rw [hG]
  have HG := hide hG
  clear hG
  go_enter Tryd.func35, Tryd.ntmps35
  go_wp2
  go_loopw [0, 1] (fun xv yv wq => ∃ x y : Nat, xv = .int .i64 (x : Int) ∧ yv = .int .i64 (y : Int) ∧ x < 9223372036854775808 ∧ y < 9223372036854775808 ∧ Nat.gcd x y = G ∧ Below w.heap.size w wq) (fun _ yv _ => (intOf yv).toNat)
  case atStart => exact ⟨a, b, rfl, rfl, ha, hb, unhide HG, Below.refl _ _⟩
  case round =>
    obtain ⟨x, y, rfl, rfl, hxs, hys, hgc, hbq⟩ := hrel
    by_cases hy0 : y = 0
    · subst hy0
      have hgx : x = G := by rw [← hgc, Nat.gcd_zero_right]
      have HGX := hide hgx
      clear hgx hgc
      go_wp2
      go_ret
      exact ⟨by rw [← unhide HGX]; rfl, hbq⟩
    · have hyi2 : ¬ (y : Int) = 0 := by omega
      obtain ⟨r, hr⟩ : ∃ r, r = x % y := ⟨_, rfl⟩
      have hri : (x : Int) % (y : Int) = (r : Int) := by rw [hr]; simp
      have hrt : (x : Int).tmod (y : Int) = (r : Int) := by rw [Int.tmod_eq_emod_of_nonneg (by omega)]; exact hri
      have hry : r < y := by rw [hr]; exact Nat.mod_lt _ (by omega)
      have hgr : Nat.gcd y r = G := by rw [hr, gcdT]; exact hgc
      have HGR := hide hgr
      clear hgr hgc hr
      go_wp2
      go_quiet (fail)
      go_wp2
      go_roundw
      case rel => exact ⟨y, r, rfl, by first | rfl | go_num, hys, by omega, unhide HGR, below_drewN hbq _⟩
      case measure => simp [intOf]; omega
end Go.Proofs.YthplbfjpmnpjmaaDoor
