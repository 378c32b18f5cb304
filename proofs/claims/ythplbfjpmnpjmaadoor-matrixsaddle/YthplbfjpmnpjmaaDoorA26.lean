/-
  The document's answer, walked: gameref.Matrix.
-/
import Derived.Test.YthplbfjpmnpjmaaDoorA25
namespace Go.Proofs.YthplbfjpmnpjmaaDoor
open Go.RowKit
attribute [local go_sem ↓] Go.wp_at_zero Go.wp_at_succ


set_option maxHeartbeats 8000000 in
set_option maxRecDepth 100000 in
theorem rMatrix_any (ao : Option Addr) (cap : Nat) (G : List (List Int)) (w : World) (h : isMx w w.heap.size ao cap G) :
    Calls Tryd.prog 7 #[.slice ao G.length cap] w fun e w' => e = .returned (.bool (mxB G)) ∧ Below w.heap.size w w' := by
  have hle := h.le
  have hmo := h.most
  unfold maxLen at hmo
  obtain ⟨n, hn⟩ : ∃ n, n = G.length := ⟨_, rfl⟩
  rw [← hn] at hle ⊢
  by_cases hn16 : 1 ≤ n ∧ n ≤ 6
  · have h0l : 0 < G.length := by omega
    obtain ⟨r0, hr0⟩ : ∃ r0, G[0]? = some r0 := ⟨G[0], List.getElem?_eq_getElem h0l⟩
    have hGne : G ≠ [] := fun e => by rw [e] at h0l; simp at h0l
    obtain ⟨g, off, rfl, hg, hc⟩ := h.cells hGne
    obtain ⟨ro0, rc0, c00, hw0⟩ := hc 0 r0 hr0
    rw [Nat.add_zero] at c00
    obtain ⟨m, hm⟩ : ∃ m, m = r0.length := ⟨_, rfl⟩
    have hmx := mxB_is G r0 hr0
    rw [← hn, ← hm] at hmx
    have d1 : decide (1 ≤ n) = true := by simp; omega
    have d2 : decide (n ≤ 6) = true := by simp; omega
    rw [d1, d2] at hmx
    simp only [Bool.true_and] at hmx
    rw [← hm] at c00
    have HMX := hide hmx
    have HC := hide hc
    have HR0 := hide hr0
    have HM := hide hm
    have HN := hide hn
    have hn0 : (0 : Int) < (n : Int) := by omega
    have hne0 : ((n : Int) == 0) = false := by simp; omega
    have hn6 : ¬ (6 : Int) < (n : Int) := by omega
    have hnN : 0 < n := by omega
    clear hmx hc hr0 hm hn h d1 d2 hw0 h0l hGne
    go_enter Tryd.func7, Tryd.ntmps7
    go_wp2
    go_loopw [3] (fun iv wr => ∃ i : Nat, i ≤ n ∧ iv = .int .i64 (i : Int) ∧ Hid ((G.take i).all (rwB m) = true ∧ (1 ≤ i → 1 ≤ m ∧ m ≤ 6)) ∧ Hid (Below w.heap.size w wr)) (fun iv _ => n - (intOf iv).toNat)
    case atStart => exact ⟨0, Nat.zero_le _, rfl, hide ⟨by simp, fun h => by omega⟩, hide (Below.refl _ _)⟩
    case round =>
      obtain ⟨i, hi, rfl, HALL, HBW⟩ := hrel
      rename World => wr
      by_cases hil : i < n
      · have hii : (i : Int) < (n : Int) := by omega
        have hi0 : (0 : Int) ≤ (i : Int) := by omega
        have hiG : i < G.length := by rw [← unhide HN]; exact hil
        obtain ⟨r, hr⟩ : ∃ r, G[i]? = some r := ⟨G[i], List.getElem?_eq_getElem hiG⟩
        have hre : G[i] = r := by rw [List.getElem?_eq_getElem hiG] at hr; exact Option.some.inj hr
        obtain ⟨ri, rci, ci, hwi⟩ := unhide HC i r hr
        have hle2 := hwi.le
        have hmo2 := hwi.most
        unfold maxLen at hmo2
        obtain ⟨l, hl⟩ : ∃ l, l = r.length := ⟨_, rfl⟩
        rw [← hl] at ci hle2
        have cw := ((unhide HBW).cell (p := ⟨g, off + i, none⟩) hg).trans ci
        have c0 := ((unhide HBW).cell (p := ⟨g, off, none⟩) hg).trans c00
        have hmem := List.mem_of_getElem? hr
        have HBAD : Hid (¬ (1 ≤ l ∧ l ≤ 6 ∧ l = m) → mxB G = false) := hide (fun hno => by
          rw [unhide HMX]
          by_cases hlm : l = m
          · have : (decide (1 ≤ m) && decide (m ≤ 6)) = false := by rw [Bool.and_eq_false_iff]; simp; omega
            rw [this]; rfl
          · have : G.all (rwB m) = false := by
              rw [List.all_eq_false]
              exact ⟨r, hmem, by unfold rwB; rw [← hl]; simp [hlm]⟩
            rw [this]; simp)
        have HBAD2 : Hid (r.all nbB = false → mxB G = false) := hide (fun hno => by
          rw [unhide HMX]
          have : G.all (rwB m) = false := by
            rw [List.all_eq_false]
            exact ⟨r, hmem, by unfold rwB; rw [hno]; simp⟩
          rw [this]; simp)
        have HSTEP : Hid (l = m → 1 ≤ l → l ≤ 6 → r.all nbB = true → (G.take (i + 1)).all (rwB m) = true ∧ (1 ≤ i + 1 → 1 ≤ m ∧ m ≤ 6)) := hide (fun e1 e2 e3 e4 => by
          refine ⟨?_, fun _ => by omega⟩
          rw [List.take_succ_eq_append_getElem hiG, List.all_append, hre, (unhide HALL).1]
          simp only [List.all_cons, List.all_nil, Bool.and_true, Bool.true_and]
          unfold rwB
          rw [← hl, e4]; simp [e1])
        have HWI := hide hwi
        have HL := hide hl
        have HCI := hide ci
        clear hr hre hwi hmem hl ci hiG
        obtain ⟨E1, e1⟩ : ∃ E : Bool, ((l : Int) == 0) = E := ⟨_, rfl⟩
        obtain ⟨E1', e1'⟩ : ∃ E : Bool, (l == 0) = E := ⟨_, rfl⟩
        obtain rfl : E1' = E1 := by rw [← e1, ← e1', Bool.eq_iff_iff, beq_iff_eq, beq_iff_eq]; omega
        obtain ⟨E2, e2⟩ : ∃ E : Bool, decide ((6 : Int) < (l : Int)) = E := ⟨_, rfl⟩
        obtain ⟨E2', e2'⟩ : ∃ E : Bool, decide (6 < l) = E := ⟨_, rfl⟩
        obtain rfl : E2' = E2 := by rw [← e2, ← e2', Bool.eq_iff_iff, decide_eq_true_eq, decide_eq_true_eq]; omega
        obtain ⟨E3, e3⟩ : ∃ E : Bool, ((l : Int) != (m : Int)) = E := ⟨_, rfl⟩
        obtain ⟨E3', e3'⟩ : ∃ E : Bool, (l != m) = E := ⟨_, rfl⟩
        obtain rfl : E3' = E3 := by rw [← e3, ← e3', Bool.eq_iff_iff, bne_iff_ne, bne_iff_ne]; omega
        have H1 : Hid (E1' = true ↔ l = 0) := hide (by rw [← e1', beq_iff_eq])
        have H2 : Hid (E2' = true ↔ 6 < l) := hide (by rw [← e2', decide_eq_true_eq])
        have H3 : Hid (E3' = true ↔ l ≠ m) := hide (by rw [← e3', bne_iff_ne])
        cases E1'
        rotate_left
        · have HE : Hid (false = mxB G) := hide (unhide HBAD (by have := (unhide H1).1 rfl; omega)).symm
          clear HBAD
          go_upto_region 6 with fail
          go_quiet (fail)
          go_wp2
          go_ret
          exact ⟨ret_bool (unhide HE), below_drewN (unhide HBW) _⟩
        cases E2'
        rotate_left
        · have HE : Hid (false = mxB G) := hide (unhide HBAD (by have := (unhide H2).1 rfl; omega)).symm
          clear HBAD
          go_upto_region 6 with fail
          go_quiet (fail)
          go_wp2
          go_ret
          exact ⟨ret_bool (unhide HE), below_drewN (unhide HBW) _⟩
        cases E3'
        rotate_left
        · have HE : Hid (false = mxB G) := hide (unhide HBAD (by have := (unhide H3).1 rfl; omega)).symm
          clear HBAD
          go_upto_region 6 with fail
          go_quiet (fail)
          go_wp2
          go_ret
          exact ⟨ret_bool (unhide HE), below_drewN (unhide HBW) _⟩
        have hl1 : 1 ≤ l := by
          rcases Nat.eq_zero_or_pos l with hz | hz
          · have := (unhide H1).2 hz; cases this
          · exact hz
        have hl6 : l ≤ 6 := by
          rcases Nat.lt_or_ge 6 l with hz | hz
          · have := (unhide H2).2 hz; cases this
          · exact hz
        have hlm : l = m := by
          by_cases hz : l = m
          · exact hz
          · have := (unhide H3).2 hz; cases this
        have HOK := hide (unhide HSTEP hlm hl1 hl6)
        clear HSTEP HBAD H1 H2 H3 hlm
        go_upto_region 6 with fail
        go_quiet (fail)
        have hbq := below_drewN (unhide HBW) nq
        have HBQ := hide hbq
        generalize wr.drewN nq = wq0 at *
        clear HBW hbq cw c0 e1 e2 e3 e1' e2' e3'
        go_wp2
        go_loopw [4] (fun kv wq => ∃ k : Nat, k ≤ l ∧ kv = .int .i64 (k : Int) ∧ Hid ((r.take k).all nbB = true) ∧ wq = wq0) (fun kv _ => l - (intOf kv).toNat)
        case atStart => exact ⟨0, Nat.zero_le _, rfl, hide (by simp), rfl⟩
        case round =>
          obtain ⟨k, hk, rfl, HNB, hwe⟩ := hrel
          replace hwe := hwe.symm
          subst hwe
          have cw := ((unhide HBQ).cell (p := ⟨g, off + i, none⟩) hg).trans (unhide HCI)
          by_cases hkl : k < l
          · have hkk : (k : Int) < (l : Int) := by omega
            have hk0 : (0 : Int) ≤ (k : Int) := by omega
            have hkr : k < r.length := by rw [← unhide HL]; exact hkl
            obtain ⟨x, hx⟩ : ∃ x, r[k]? = some x := ⟨r[k], List.getElem?_eq_getElem hkr⟩
            have hxe : r[k] = x := by rw [List.getElem?_eq_getElem hkr] at hx; exact Option.some.inj hx
            obtain ⟨rg, roff, erg, hrg, hrc⟩ := (unhide HWI).cells (fun e => by rw [e] at hkr; simp at hkr)
            subst erg
            have cx := ((unhide HBQ).cell (p := ⟨rg, roff + k, none⟩) hrg).trans (hrc k x hx)
            have HST : Hid (nbB x = true → (r.take (k + 1)).all nbB = true) := hide (fun hb => by
              rw [List.take_succ_eq_append_getElem hkr, List.all_append, hxe, unhide HNB]
              simp [hb])
            have HNO : Hid (nbB x = false → false = mxB G) := hide (fun hb => (unhide HBAD2 (by
              rw [List.all_eq_false]
              exact ⟨x, List.mem_of_getElem? hx, by rw [hb]; simp⟩)).symm)
            clear hx hxe hrc hkr
            by_cases h1 : x < -100
            · have HE := hide (unhide HNO (by unfold nbB; rw [Bool.and_eq_false_iff]; simp; omega))
              clear HNO HST
              go_wp2
              go_ret
              exact ⟨ret_bool (unhide HE), unhide HBQ⟩
            · by_cases h2 : 100 < x
              · have HE := hide (unhide HNO (by unfold nbB; rw [Bool.and_eq_false_iff]; simp; omega))
                clear HNO HST
                go_wp2
                go_ret
                exact ⟨ret_bool (unhide HE), unhide HBQ⟩
              · have HE := hide (unhide HST (by unfold nbB; simp; omega))
                clear HNO HST
                go_wp2
                go_roundw
                case rel => exact ⟨k + 1, by omega, by go_num, HE, by first | rfl | trivial⟩
                case measure => simp only [intOf]; omega
          · have hkk : ¬ (k : Int) < (l : Int) := by omega
            have HE : Hid ((G.take (i + 1)).all (rwB m) = true ∧ (1 ≤ i + 1 → 1 ≤ m ∧ m ≤ 6)) := hide (unhide HOK (by
              have h1 := unhide HNB
              rw [List.take_of_length_le (by have := unhide HL; omega)] at h1
              exact h1))
            clear HNB HOK
            go_wp2
            go_roundw
            case rel => exact ⟨i + 1, by omega, by go_num, HE, HBQ⟩
            case measure => simp only [intOf]; omega
      · have hii : ¬ (i : Int) < (n : Int) := by omega
        have HE : Hid (true = mxB G) := hide (by
          have hin : i = n := by omega
          have h1 := (unhide HALL).1
          rw [List.take_of_length_le (by have := unhide HN; omega)] at h1
          have h2 := (unhide HALL).2 (by omega)
          rw [unhide HMX, h1]
          have a1 : decide (1 ≤ m) = true := by simp; omega
          have a2 : decide (m ≤ 6) = true := by simp; omega
          rw [a1, a2]; rfl)
        go_wp2
        go_ret
        exact ⟨ret_bool (unhide HE), unhide HBW⟩
  · have hm0 : mxB G = false := by
      unfold mxB
      rw [← hn]
      have : (decide (1 ≤ n) && decide (n ≤ 6)) = false := by rw [Bool.and_eq_false_iff]; simp; omega
      rw [this]; simp
    rw [hm0]
    clear hn hm0 h
    by_cases hz : n = 0
    · subst hz
      go_enter Tryd.func7, Tryd.ntmps7
      go_wp2
      go_ret
      exact ⟨rfl, Below.refl _ _⟩
    · have hne0 : ((n : Int) == 0) = false := by simp; omega
      have hn6 : (6 : Int) < (n : Int) := by omega
      go_enter Tryd.func7, Tryd.ntmps7
      go_wp2
      go_ret
      exact ⟨rfl, Below.refl _ _⟩
end Go.Proofs.YthplbfjpmnpjmaaDoor
