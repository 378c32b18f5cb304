/-
  package matrix, walked: isMatrix, Check.
-/
import Derived.Test.YthplbfjpmnpjmaaDoorA1
namespace Go.Proofs.YthplbfjpmnpjmaaDoor
open Go.RowKit
attribute [local go_sem ↓] Go.wp_at_zero Go.wp_at_succ

/-- A row is as it must be. -/
def rwB (m : Nat) (r : List Int) : Bool := decide (r.length = m) && r.all nbB
theorem mxB_is (G : List (List Int)) (r0 : List Int) (h : G[0]? = some r0) : mxB G = (decide (1 ≤ G.length) && decide (G.length ≤ 6) && (decide (1 ≤ r0.length) && decide (r0.length ≤ 6)) && G.all (rwB r0.length)) := by
  have e : G.getD 0 [] = r0 := by rw [List.getD_eq_getElem?_getD, h]; rfl
  unfold mxB
  rw [e]
  rfl

set_option maxHeartbeats 2000000 in
set_option maxRecDepth 100000 in
theorem isMatrix_any (B : Nat) (ao : Option Addr) (cap : Nat) (G : List (List Int)) (w : World) (h : isMx w B ao cap G) :
    Calls Tryd.prog 20 #[.slice ao G.length cap] w fun e w' => e = .returned (.bool (mxB G)) ∧ w' = w := by
  have hle := h.le
  have hmo := h.most
  unfold maxLen at hmo
  obtain ⟨n, hn⟩ : ∃ n, n = G.length := ⟨_, rfl⟩
  rw [← hn]
  rw [← hn] at hle
  have hF1 := mFrom_any 1 (n : Int) 6 w
  obtain ⟨R, hR⟩ : ∃ R, R = mxB G := ⟨_, rfl⟩
  rw [← hR]
  have HN := hide hn
  have HR := hide hR
  have HH := hide h
  have HF1 := hide hF1
  clear hn hR h hF1
  by_cases hn16 : 1 ≤ n ∧ n ≤ 6
  · have hb1 : (decide ((1 : Int) ≤ (n : Int)) && decide ((n : Int) ≤ 6)) = true := by simp; omega
    rw [hb1] at HF1
    have hnp : 0 < (n : Int) := by omega
    have h0l : 0 < G.length := by rw [← unhide HN]; omega
    obtain ⟨r0, hr0⟩ : ∃ r0, G[0]? = some r0 := ⟨G[0], List.getElem?_eq_getElem h0l⟩
    have hGne : G ≠ [] := fun e => by rw [e] at h0l; simp at h0l
    obtain ⟨g, off, eg, hg, hc⟩ := (unhide HH).cells hGne
    subst eg
    obtain ⟨ro, rc, c0, hw0⟩ := hc 0 r0 hr0
    rw [Nat.add_zero] at c0
    obtain ⟨m, hm⟩ : ∃ m, m = r0.length := ⟨_, rfl⟩
    rw [← hm] at c0
    have hmx := mxB_is G r0 hr0
    rw [← unhide HN, ← hm] at hmx
    have hF2 := mFrom_any 1 (m : Int) 6 w
    have HMX := hide hmx
    have HC := hide hc
    by_cases hm16 : 1 ≤ m ∧ m ≤ 6
    · have hb2 : (decide ((1 : Int) ≤ (m : Int)) && decide ((m : Int) ≤ 6)) = true := by simp; omega
      rw [hb2] at hF2
      have HF2 := hide hF2
      have hRall : R = G.all (rwB m) := by
        rw [unhide HR, unhide HMX]
        have e1 : decide (1 ≤ n) = true := by simp; omega
        have e2 : decide (n ≤ 6) = true := by simp; omega
        have e3 : decide (1 ≤ m) = true := by simp; omega
        have e4 : decide (m ≤ 6) = true := by simp; omega
        rw [e1, e2, e3, e4]; rfl
      have HRA := hide hRall
      clear hF2 hRall hmx hc hw0 hr0 hm h0l hGne
      go_enter Tryd.func20, Tryd.ntmps20
      go_wp2_with fail
      refine (unhide HF1).mono ?_
      rintro e w' ⟨rfl, hw'⟩
      replace hw' := hw'.symm
      subst hw'
      go_wp2_with fail
      refine (unhide HF2).mono ?_
      rintro e w' ⟨rfl, hw'⟩
      replace hw' := hw'.symm
      subst hw'
      go_wp2
      go_loopw [19] (fun iv wr => ∃ i : Nat, i ≤ n ∧ iv = .int .i64 (i : Int) ∧ (G.take i).all (rwB m) = true ∧ wr = w) (fun iv _ => n - (intOf iv).toNat)
      case atStart => exact ⟨0, Nat.zero_le _, rfl, by simp, rfl⟩
      case round =>
        obtain ⟨i, hi, rfl, hall, hwe⟩ := hrel
        replace hwe := hwe.symm
        subst hwe
        by_cases hil : i < n
        · have hii : (i : Int) < (n : Int) := by omega
          have hiG : i < G.length := by rw [← unhide HN]; exact hil
          obtain ⟨r, hr⟩ : ∃ r, G[i]? = some r := ⟨G[i], List.getElem?_eq_getElem hiG⟩
          have hre : G[i] = r := by rw [List.getElem?_eq_getElem hiG] at hr; exact Option.some.inj hr
          obtain ⟨ri, rci, ci, hwi⟩ := unhide HC i r hr
          have hst : (G.take (i + 1)).all (rwB m) = rwB m r := by
            rw [List.take_succ_eq_append_getElem hiG, List.all_append, hre, hall]
            simp
          have hC := mNumbers_any B ri rci r w hwi
          obtain ⟨l, hl⟩ : ∃ l, l = r.length := ⟨_, rfl⟩
          obtain ⟨b, hb⟩ : ∃ b, b = r.all nbB := ⟨_, rfl⟩
          rw [← hl, ← hb] at hC
          rw [← hl] at ci
          have hrw : rwB m r = (decide (l = m) && b) := by rw [hl, hb]; rfl
          have hmem := List.mem_of_getElem? hr
          have HC2 := hide hC
          have HST := hide (hst.trans hrw)
          have hbad : rwB m r = false → R = false := fun e => by
            rw [unhide HRA, List.all_eq_false]
            exact ⟨r, hmem, by rw [e]; simp⟩
          rw [hrw] at hbad
          have HBAD := hide hbad
          clear hC hst hrw hbad hmem hwi hr hre hiG hall hl hb
          by_cases hlm : l = m
          · subst hlm
            have hne : ((l : Int) != (l : Int)) = false := by simp
            cases b with
            | true =>
              go_wp2_with fail
              refine (unhide HC2).mono ?_
              rintro e w' ⟨rfl, hw'⟩
              replace hw' := hw'.symm
              subst hw'
              go_wp2
              go_roundw
              case rel => exact ⟨i + 1, by omega, by go_num, by rw [unhide HST]; simp, trivial⟩
              case measure => simp [intOf]; omega
            | false =>
              have hR0 : R = false := unhide HBAD (by simp)
              subst hR0
              go_wp2_with fail
              refine (unhide HC2).mono ?_
              rintro e w' ⟨rfl, hw'⟩
              replace hw' := hw'.symm
              subst hw'
              go_wp2
              go_ret
              exact ⟨rfl, rfl⟩
          · have hne : ((l : Int) != (m : Int)) = true := by simp; omega
            have hR0 : R = false := unhide HBAD (by simp [hlm])
            subst hR0
            go_wp2
            go_ret
            exact ⟨rfl, rfl⟩
        · obtain rfl : i = n := by omega
          have hii : ¬ (i : Int) < (i : Int) := by omega
          have hR1 : R = true := by
            rw [unhide HRA, ← hall, List.take_of_length_le (by rw [← unhide HN]; exact Nat.le_refl _)]
          subst hR1
          clear hall
          go_wp2
          go_ret
          exact ⟨rfl, rfl⟩
    · have hb2 : (decide ((1 : Int) ≤ (m : Int)) && decide ((m : Int) ≤ 6)) = false := by
        rw [Bool.and_eq_false_iff]; simp; omega
      rw [hb2] at hF2
      have HF2 := hide hF2
      have hR0 : R = false := by
        rw [unhide HR, unhide HMX]
        have : (decide (1 ≤ m) && decide (m ≤ 6)) = false := by rw [Bool.and_eq_false_iff]; simp; omega
        rw [this]; simp
      subst hR0
      clear hF2 hmx hc hw0 hr0 hm h0l hGne
      go_enter Tryd.func20, Tryd.ntmps20
      go_wp2_with fail
      refine (unhide HF1).mono ?_
      rintro e w' ⟨rfl, hw'⟩
      replace hw' := hw'.symm
      subst hw'
      go_wp2_with fail
      refine (unhide HF2).mono ?_
      rintro e w' ⟨rfl, hw'⟩
      replace hw' := hw'.symm
      subst hw'
      go_wp2
      go_ret
      exact ⟨rfl, rfl⟩
  · have hb1 : (decide ((1 : Int) ≤ (n : Int)) && decide ((n : Int) ≤ 6)) = false := by
      rw [Bool.and_eq_false_iff]; simp; omega
    rw [hb1] at HF1
    have hR0 : R = false := by
      rw [unhide HR]
      unfold mxB
      rw [← unhide HN]
      have : (decide (1 ≤ n) && decide (n ≤ 6)) = false := by rw [Bool.and_eq_false_iff]; simp; omega
      rw [this]; simp
    subst hR0
    go_enter Tryd.func20, Tryd.ntmps20
    go_wp2_with fail
    refine (unhide HF1).mono ?_
    rintro e w' ⟨rfl, hw'⟩
    replace hw' := hw'.symm
    subst hw'
    go_wp2
    go_ret
    exact ⟨rfl, rfl⟩
set_option maxHeartbeats 1000000 in
theorem mCheck_any (B : Nat) (ao : Option Addr) (cap : Nat) (G : List (List Int)) (w : World) (h : isMx w B ao cap G) :
    Calls Tryd.prog 8 #[.slice ao G.length cap] w fun e w' => e = .returned (.int .i64 (if mxB G = true then 0 else 1)) ∧ w' = w := by
  have hC := isMatrix_any B ao cap G w h
  obtain ⟨n, hn⟩ : ∃ n, n = G.length := ⟨_, rfl⟩
  rw [← hn] at hC ⊢
  obtain ⟨b, hb⟩ : ∃ b, b = mxB G := ⟨_, rfl⟩
  rw [← hb] at hC ⊢
  have HC := hide hC
  clear hC h hn hb
  cases b with
  | true =>
    go_enter Tryd.func8, Tryd.ntmps8
    go_wp2_with fail
    refine (unhide HC).mono ?_
    rintro e w' ⟨rfl, hw'⟩
    replace hw' := hw'.symm
    subst hw'
    go_wp2
    go_ret
    exact ⟨rfl, rfl⟩
  | false =>
    go_enter Tryd.func8, Tryd.ntmps8
    go_wp2_with fail
    refine (unhide HC).mono ?_
    rintro e w' ⟨rfl, hw'⟩
    replace hw' := hw'.symm
    subst hw'
    go_wp2
    go_ret
    exact ⟨rfl, rfl⟩
end Go.Proofs.YthplbfjpmnpjmaaDoor
