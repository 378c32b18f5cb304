/-
  package matrix, walked: Saddle.
-/
import Derived.Test.YthplbfjpmnpjmaaDoorA4
namespace Go.Proofs.YthplbfjpmnpjmaaDoor
open Go.RowKit
attribute [local go_sem ↓] Go.wp_at_zero Go.wp_at_succ

theorem mxB_rows {G : List (List Int)} (h : mxB G = true) : ∃ m, 1 ≤ G.length ∧ G.length ≤ 6 ∧ 1 ≤ m ∧ m ≤ 6 ∧ (∀ r ∈ G, r.length = m ∧ r.all nbB = true) ∧ (G.getD 0 []).length = m := by
  unfold mxB at h
  simp only [Bool.and_eq_true, decide_eq_true_eq, List.all_eq_true] at h
  obtain ⟨⟨⟨h1, h2⟩, h3, h4⟩, h5⟩ := h
  refine ⟨_, h1, h2, h3, h4, fun r hr => ⟨(h5 r hr).1, ?_⟩, rfl⟩
  rw [List.all_eq_true]
  exact (h5 r hr).2
/-- No saddle before a place. -/
def noneB (G : List (List Int)) (m i j : Nat) : Prop := ∀ a b : Nat, ((a < i ∧ b < m) ∨ (a = i ∧ b < j)) → saB G a b = false
theorem noneB.next {G : List (List Int)} {m i j : Nat} (h : noneB G m i j) (hs : saB G i j = false) : noneB G m i (j + 1) := by
  intro a b hab
  rcases hab with hab | ⟨rfl, hb⟩
  · exact h a b (Or.inl hab)
  · rcases Nat.lt_or_ge b j with hlt | hge
    · exact h a b (Or.inr ⟨rfl, hlt⟩)
    · obtain rfl : b = j := by omega
      exact hs
theorem noneB.row {G : List (List Int)} {m i : Nat} (h : noneB G m i m) : noneB G m (i + 1) 0 := by
  intro a b hab
  rcases hab with ⟨ha, hb⟩ | ⟨rfl, hb⟩
  · rcases Nat.lt_or_ge a i with hlt | hge
    · exact h a b (Or.inl ⟨hlt, hb⟩)
    · exact h a b (Or.inr ⟨by omega, hb⟩)
  · omega

/-- Four results. -/
theorem res4 {fn : Func} {t u v x : Tmp} (h : fn.results = #[.tmp t, .tmp u, .tmp v, .tmp x]) (tmps : Array Value) (P : Program) (w : World) :
    (results fn tmps).run P w = .ok (.tuple #[tmps.getD t undef, tmps.getD u undef, tmps.getD v undef, tmps.getD x undef]) w := by simp [results, h]

set_option maxHeartbeats 2000000 in
set_option maxRecDepth 100000 in
theorem Saddle_bad (B : Nat) (ao : Option Addr) (cap : Nat) (G : List (List Int)) (w : World) (h : isMx w B ao cap G) (hb : mxB G = false) :
    Calls Tryd.prog 5 #[.slice ao G.length cap] w fun e w' => e = .returned (.tuple #[.int .i64 0, .int .i64 0, .bool false, .int .i64 1]) ∧ w' = w := by
  have hC := mCheck_any B ao cap G w h
  rw [hb] at hC
  simp only [Bool.false_eq_true, if_false] at hC
  have HC := hide hC
  clear hC
  go_enter Tryd.func5, Tryd.ntmps5
  go_wp2_with fail
  refine (unhide HC).mono ?_
  rintro e w' ⟨rfl, hw'⟩
  replace hw' := hw'.symm
  subst hw'
  go_wp2
  ((try simp only [Exit.inBlock, Exit.then]); refine bodyPost_ret (res4 rfl _ _ _) rfl ?_)
  exact ⟨rfl, rfl⟩

set_option maxHeartbeats 2000000 in
set_option maxRecDepth 100000 in
theorem Saddle_any (B : Nat) (ao : Option Addr) (cap m : Nat) (G : List (List Int)) (w : World) (h : isMx w B ao cap G) (hb : mxB G = true) (hm : ∀ r ∈ G, r.length = m) (hm6 : m ≤ 6) :
    Calls Tryd.prog 5 #[.slice ao G.length cap] w fun e w' => ((noneB G m G.length 0 ∧ e = .returned (.tuple #[.int .i64 0, .int .i64 0, .bool false, .int .i64 0])) ∨ (∃ i j : Nat, i < G.length ∧ j < m ∧ noneB G m i j ∧ saB G i j = true ∧ e = .returned (.tuple #[.int .i64 (i : Int), .int .i64 (j : Int), .bool true, .int .i64 0]))) ∧ w' = w := by
  have hC := mCheck_any B ao cap G w h
  rw [hb] at hC
  simp only [if_true] at hC
  have hle := h.le
  have hmo := h.most
  unfold maxLen at hmo
  have hS := fun (i j : Nat) (hi : i < G.length) (hj : j < m) => isSaddle_any B ao cap m i j G w h hm hi hj hm6
  obtain ⟨n, hn⟩ : ∃ n, n = G.length := ⟨_, rfl⟩
  rw [← hn] at hle hC hS ⊢
  have HC := hide hC
  have HS := hide hS
  have HN := hide hn
  have HM := hide hm
  have HH := hide h
  clear hC hS hn hm h hb
  go_enter Tryd.func5, Tryd.ntmps5
  go_wp2_with fail
  refine (unhide HC).mono ?_
  rintro e w' ⟨rfl, hw'⟩
  replace hw' := hw'.symm
  subst hw'
  go_wp2
  go_loopw [17] (fun iv wr => ∃ i : Nat, i ≤ n ∧ iv = .int .i64 (i : Int) ∧ Hid (noneB G m i 0) ∧ wr = w) (fun iv _ => n - (intOf iv).toNat)
  case atStart => exact ⟨0, Nat.zero_le _, rfl, hide (by intro a b hab; omega), rfl⟩
  case round =>
    obtain ⟨i, hi, rfl, HN0, hwe⟩ := hrel
    replace hwe := hwe.symm
    subst hwe
    by_cases hil : i < n
    · have hii : (i : Int) < (n : Int) := by omega
      have hiG : i < G.length := by rw [← unhide HN]; exact hil
      obtain ⟨r, hr⟩ : ∃ r, G[i]? = some r := ⟨G[i], List.getElem?_eq_getElem hiG⟩
      obtain ⟨g, off, eg, hg, hc⟩ := (unhide HH).cells (fun e => by rw [e] at hiG; simp at hiG)
      subst eg
      obtain ⟨ro, rc, cr, hwr⟩ := hc i r hr
      rw [unhide HM r (List.mem_of_getElem? hr)] at cr
      clear hc hr hwr hiG
      go_wp2
      go_loopw [24] (fun iv wr => ∃ j : Nat, j ≤ m ∧ iv = .int .i64 (j : Int) ∧ Hid (noneB G m i j) ∧ wr = w) (fun iv _ => m - (intOf iv).toNat)
      case atStart => exact ⟨0, Nat.zero_le _, rfl, HN0, rfl⟩
      case round =>
        obtain ⟨j, hj, rfl, HNJ, hwe⟩ := hrel
        replace hwe := hwe.symm
        subst hwe
        by_cases hjl : j < m
        · have hjj : (j : Int) < (m : Int) := by omega
          have hS := unhide HS i j hil hjl
          obtain ⟨b, hb⟩ : ∃ b, b = saB G i j := ⟨_, rfl⟩
          rw [← hb] at hS
          have HSJ := hide hS
          have HB := hide hb
          clear hS hb
          cases b with
          | true =>
            go_wp2_with fail
            refine (unhide HSJ).mono ?_
            rintro e w' ⟨rfl, hw'⟩
            replace hw' := hw'.symm
            subst hw'
            go_wp2
            ((try simp only [Exit.inBlock, Exit.then]); refine bodyPost_ret (res4 rfl _ _ _) rfl ?_)
            exact ⟨Or.inr ⟨i, j, hil, hjl, unhide HNJ, (unhide HB).symm, rfl⟩, rfl⟩
          | false =>
            go_wp2_with fail
            refine (unhide HSJ).mono ?_
            rintro e w' ⟨rfl, hw'⟩
            replace hw' := hw'.symm
            subst hw'
            go_wp2
            go_roundw
            case rel => exact ⟨j + 1, by omega, by go_num, hide ((unhide HNJ).next (unhide HB).symm), trivial⟩
            case measure => simp [intOf]; omega
        · obtain rfl : j = m := by omega
          have hjj : ¬ (j : Int) < (j : Int) := by omega
          go_wp2
          go_roundw
          case rel => exact ⟨i + 1, by omega, by go_num, hide (unhide HNJ).row, trivial⟩
          case measure => simp [intOf]; omega
    · obtain rfl : i = n := by omega
      have hii : ¬ (i : Int) < (i : Int) := by omega
      go_wp2
      ((try simp only [Exit.inBlock, Exit.then]); refine bodyPost_ret (res4 rfl _ _ _) rfl ?_)
      exact ⟨Or.inl ⟨unhide HN0, rfl⟩, rfl⟩
end Go.Proofs.YthplbfjpmnpjmaaDoor
