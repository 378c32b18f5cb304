/-
  The document's answer, walked: gameref.Matrix.
  gamelaw.MatrixSaddle, walked.
-/
import Derived.Test.YthplbfjpmnpjmaaDoorA25
namespace Go.Proofs.YthplbfjpmnpjmaaDoor
open Go.RowKit
attribute [local go_sem ↓] Go.wp_at_zero Go.wp_at_succ


set_option maxHeartbeats 8000000 in
set_option maxRecDepth 100000 in
theorem rMatrix_any (ao : Option Addr) (cap : Nat) (G : List (List Int)) (w : World) (h : isMx w w.heap.size ao cap G) :
    Calls Tryd.prog 7 #[.slice ao G.length cap] w fun e w' => e = .returned (.bool (mxB G)) ∧ Below w.heap.size w w' := by
  have hle := h.le
  have hmo := h.most
  unfold maxLen at hmo
  obtain ⟨n, hn⟩ : ∃ n, n = G.length := ⟨_, rfl⟩
  rw [← hn] at hle ⊢
  by_cases hn16 : 1 ≤ n ∧ n ≤ 6
  · have h0l : 0 < G.length := by omega
    obtain ⟨r0, hr0⟩ : ∃ r0, G[0]? = some r0 := ⟨G[0], List.getElem?_eq_getElem h0l⟩
    have hGne : G ≠ [] := fun e => by rw [e] at h0l; simp at h0l
    obtain ⟨g, off, rfl, hg, hc⟩ := h.cells hGne
    obtain ⟨ro0, rc0, c00, hw0⟩ := hc 0 r0 hr0
    rw [Nat.add_zero] at c00
    obtain ⟨m, hm⟩ : ∃ m, m = r0.length := ⟨_, rfl⟩
    have hmx := mxB_is G r0 hr0
    rw [← hn, ← hm] at hmx
    have d1 : decide (1 ≤ n) = true := by simp; omega
    have d2 : decide (n ≤ 6) = true := by simp; omega
    rw [d1, d2] at hmx
    simp only [Bool.true_and] at hmx
    rw [← hm] at c00
    have HMX := hide hmx
    have HC := hide hc
    have HR0 := hide hr0
    have HM := hide hm
    have HN := hide hn
    have hn0 : (0 : Int) < (n : Int) := by omega
    have hne0 : ((n : Int) == 0) = false := by simp; omega
    have hn6 : ¬ (6 : Int) < (n : Int) := by omega
    have hnN : 0 < n := by omega
    clear hmx hc hr0 hm hn h d1 d2 hw0 h0l hGne
    go_enter Tryd.func7, Tryd.ntmps7
    go_wp2
    go_loopw [3] (fun iv wr => ∃ i : Nat, i ≤ n ∧ iv = .int .i64 (i : Int) ∧ Hid ((G.take i).all (rwB m) = true ∧ (1 ≤ i → 1 ≤ m ∧ m ≤ 6)) ∧ Hid (Below w.heap.size w wr)) (fun iv _ => n - (intOf iv).toNat)
    case atStart => exact ⟨0, Nat.zero_le _, rfl, hide ⟨by simp, fun h => by omega⟩, hide (Below.refl _ _)⟩
    case round =>
      obtain ⟨i, hi, rfl, HALL, HBW⟩ := hrel
      rename World => wr
      by_cases hil : i < n
      · have hii : (i : Int) < (n : Int) := by omega
        have hi0 : (0 : Int) ≤ (i : Int) := by omega
        have hiG : i < G.length := by rw [← unhide HN]; exact hil
        obtain ⟨r, hr⟩ : ∃ r, G[i]? = some r := ⟨G[i], List.getElem?_eq_getElem hiG⟩
        have hre : G[i] = r := by rw [List.getElem?_eq_getElem hiG] at hr; exact Option.some.inj hr
        obtain ⟨ri, rci, ci, hwi⟩ := unhide HC i r hr
        have hle2 := hwi.le
        have hmo2 := hwi.most
        unfold maxLen at hmo2
        obtain ⟨l, hl⟩ : ∃ l, l = r.length := ⟨_, rfl⟩
        rw [← hl] at ci hle2
        have cw := ((unhide HBW).cell (p := ⟨g, off + i, none⟩) hg).trans ci
        have c0 := ((unhide HBW).cell (p := ⟨g, off, none⟩) hg).trans c00
        have hmem := List.mem_of_getElem? hr
        have HBAD : Hid (¬ (1 ≤ l ∧ l ≤ 6 ∧ l = m) → mxB G = false) := hide (fun hno => by
          rw [unhide HMX]
          by_cases hlm : l = m
          · have : (decide (1 ≤ m) && decide (m ≤ 6)) = false := by rw [Bool.and_eq_false_iff]; simp; omega
            rw [this]; rfl
          · have : G.all (rwB m) = false := by
              rw [List.all_eq_false]
              exact ⟨r, hmem, by unfold rwB; rw [← hl]; simp [hlm]⟩
            rw [this]; simp)
        have HBAD2 : Hid (r.all nbB = false → mxB G = false) := hide (fun hno => by
          rw [unhide HMX]
          have : G.all (rwB m) = false := by
            rw [List.all_eq_false]
            exact ⟨r, hmem, by unfold rwB; rw [hno]; simp⟩
          rw [this]; simp)
        have HSTEP : Hid (l = m → 1 ≤ l → l ≤ 6 → r.all nbB = true → (G.take (i + 1)).all (rwB m) = true ∧ (1 ≤ i + 1 → 1 ≤ m ∧ m ≤ 6)) := hide (fun e1 e2 e3 e4 => by
          refine ⟨?_, fun _ => by omega⟩
          rw [List.take_succ_eq_append_getElem hiG, List.all_append, hre, (unhide HALL).1]
          simp only [List.all_cons, List.all_nil, Bool.and_true, Bool.true_and]
          unfold rwB
          rw [← hl, e4]; simp [e1])
        have HWI := hide hwi
        have HL := hide hl
        have HCI := hide ci
        clear hr hre hwi hmem hl ci hiG
        obtain ⟨E1, e1⟩ : ∃ E : Bool, ((l : Int) == 0) = E := ⟨_, rfl⟩
        obtain ⟨E1', e1'⟩ : ∃ E : Bool, (l == 0) = E := ⟨_, rfl⟩
        obtain rfl : E1' = E1 := by rw [← e1, ← e1', Bool.eq_iff_iff, beq_iff_eq, beq_iff_eq]; omega
        obtain ⟨E2, e2⟩ : ∃ E : Bool, decide ((6 : Int) < (l : Int)) = E := ⟨_, rfl⟩
        obtain ⟨E2', e2'⟩ : ∃ E : Bool, decide (6 < l) = E := ⟨_, rfl⟩
        obtain rfl : E2' = E2 := by rw [← e2, ← e2', Bool.eq_iff_iff, decide_eq_true_eq, decide_eq_true_eq]; omega
        obtain ⟨E3, e3⟩ : ∃ E : Bool, ((l : Int) != (m : Int)) = E := ⟨_, rfl⟩
        obtain ⟨E3', e3'⟩ : ∃ E : Bool, (l != m) = E := ⟨_, rfl⟩
        obtain rfl : E3' = E3 := by rw [← e3, ← e3', Bool.eq_iff_iff, bne_iff_ne, bne_iff_ne]; omega
        have H1 : Hid (E1' = true ↔ l = 0) := hide (by rw [← e1', beq_iff_eq])
        have H2 : Hid (E2' = true ↔ 6 < l) := hide (by rw [← e2', decide_eq_true_eq])
        have H3 : Hid (E3' = true ↔ l ≠ m) := hide (by rw [← e3', bne_iff_ne])
        cases E1'
        rotate_left
        · have HE : Hid (false = mxB G) := hide (unhide HBAD (by have := (unhide H1).1 rfl; omega)).symm
          clear HBAD
          go_upto_region 6 with fail
          go_quiet (fail)
          go_wp2
          go_ret
          exact ⟨ret_bool (unhide HE), below_drewN (unhide HBW) _⟩
        cases E2'
        rotate_left
        · have HE : Hid (false = mxB G) := hide (unhide HBAD (by have := (unhide H2).1 rfl; omega)).symm
          clear HBAD
          go_upto_region 6 with fail
          go_quiet (fail)
          go_wp2
          go_ret
          exact ⟨ret_bool (unhide HE), below_drewN (unhide HBW) _⟩
        cases E3'
        rotate_left
        · have HE : Hid (false = mxB G) := hide (unhide HBAD (by have := (unhide H3).1 rfl; omega)).symm
          clear HBAD
          go_upto_region 6 with fail
          go_quiet (fail)
          go_wp2
          go_ret
          exact ⟨ret_bool (unhide HE), below_drewN (unhide HBW) _⟩
        have hl1 : 1 ≤ l := by
          rcases Nat.eq_zero_or_pos l with hz | hz
          · have := (unhide H1).2 hz; cases this
          · exact hz
        have hl6 : l ≤ 6 := by
          rcases Nat.lt_or_ge 6 l with hz | hz
          · have := (unhide H2).2 hz; cases this
          · exact hz
        have hlm : l = m := by
          by_cases hz : l = m
          · exact hz
          · have := (unhide H3).2 hz; cases this
        have HOK := hide (unhide HSTEP hlm hl1 hl6)
        clear HSTEP HBAD H1 H2 H3 hlm
        go_upto_region 6 with fail
        go_quiet (fail)
        have hbq := below_drewN (unhide HBW) nq
        have HBQ := hide hbq
        generalize wr.drewN nq = wq0 at *
        clear HBW hbq cw c0 e1 e2 e3 e1' e2' e3'
        go_wp2
        go_loopw [4] (fun kv wq => ∃ k : Nat, k ≤ l ∧ kv = .int .i64 (k : Int) ∧ Hid ((r.take k).all nbB = true) ∧ wq = wq0) (fun kv _ => l - (intOf kv).toNat)
        case atStart => exact ⟨0, Nat.zero_le _, rfl, hide (by simp), rfl⟩
        case round =>
          obtain ⟨k, hk, rfl, HNB, hwe⟩ := hrel
          replace hwe := hwe.symm
          subst hwe
          have cw := ((unhide HBQ).cell (p := ⟨g, off + i, none⟩) hg).trans (unhide HCI)
          by_cases hkl : k < l
          · have hkk : (k : Int) < (l : Int) := by omega
            have hk0 : (0 : Int) ≤ (k : Int) := by omega
            have hkr : k < r.length := by rw [← unhide HL]; exact hkl
            obtain ⟨x, hx⟩ : ∃ x, r[k]? = some x := ⟨r[k], List.getElem?_eq_getElem hkr⟩
            have hxe : r[k] = x := by rw [List.getElem?_eq_getElem hkr] at hx; exact Option.some.inj hx
            obtain ⟨rg, roff, erg, hrg, hrc⟩ := (unhide HWI).cells (fun e => by rw [e] at hkr; simp at hkr)
            subst erg
            have cx := ((unhide HBQ).cell (p := ⟨rg, roff + k, none⟩) hrg).trans (hrc k x hx)
            have HST : Hid (nbB x = true → (r.take (k + 1)).all nbB = true) := hide (fun hb => by
              rw [List.take_succ_eq_append_getElem hkr, List.all_append, hxe, unhide HNB]
              simp [hb])
            have HNO : Hid (nbB x = false → false = mxB G) := hide (fun hb => (unhide HBAD2 (by
              rw [List.all_eq_false]
              exact ⟨x, List.mem_of_getElem? hx, by rw [hb]; simp⟩)).symm)
            clear hx hxe hrc hkr
            by_cases h1 : x < -100
            · have HE := hide (unhide HNO (by unfold nbB; rw [Bool.and_eq_false_iff]; simp; omega))
              clear HNO HST
              go_wp2
              go_ret
              exact ⟨ret_bool (unhide HE), unhide HBQ⟩
            · by_cases h2 : 100 < x
              · have HE := hide (unhide HNO (by unfold nbB; rw [Bool.and_eq_false_iff]; simp; omega))
                clear HNO HST
                go_wp2
                go_ret
                exact ⟨ret_bool (unhide HE), unhide HBQ⟩
              · have HE := hide (unhide HST (by unfold nbB; simp; omega))
                clear HNO HST
                go_wp2
                go_roundw
                case rel => exact ⟨k + 1, by omega, by go_num, HE, by first | rfl | trivial⟩
                case measure => simp only [intOf]; omega
          · have hkk : ¬ (k : Int) < (l : Int) := by omega
            have HE : Hid ((G.take (i + 1)).all (rwB m) = true ∧ (1 ≤ i + 1 → 1 ≤ m ∧ m ≤ 6)) := hide (unhide HOK (by
              have h1 := unhide HNB
              rw [List.take_of_length_le (by have := unhide HL; omega)] at h1
              exact h1))
            clear HNB HOK
            go_wp2
            go_roundw
            case rel => exact ⟨i + 1, by omega, by go_num, HE, HBQ⟩
            case measure => simp only [intOf]; omega
      · have hii : ¬ (i : Int) < (n : Int) := by omega
        have HE : Hid (true = mxB G) := hide (by
          have hin : i = n := by omega
          have h1 := (unhide HALL).1
          rw [List.take_of_length_le (by have := unhide HN; omega)] at h1
          have h2 := (unhide HALL).2 (by omega)
          rw [unhide HMX, h1]
          have a1 : decide (1 ≤ m) = true := by simp; omega
          have a2 : decide (m ≤ 6) = true := by simp; omega
          rw [a1, a2]; rfl)
        go_wp2
        go_ret
        exact ⟨ret_bool (unhide HE), unhide HBW⟩
  · have hm0 : mxB G = false := by
      unfold mxB
      rw [← hn]
      have : (decide (1 ≤ n) && decide (n ≤ 6)) = false := by rw [Bool.and_eq_false_iff]; simp; omega
      rw [this]; simp
    rw [hm0]
    clear hn hm0 h
    by_cases hz : n = 0
    · subst hz
      go_enter Tryd.func7, Tryd.ntmps7
      go_wp2
      go_ret
      exact ⟨rfl, Below.refl _ _⟩
    · have hne0 : ((n : Int) == 0) = false := by simp; omega
      have hn6 : (6 : Int) < (n : Int) := by omega
      go_enter Tryd.func7, Tryd.ntmps7
      go_wp2
      go_ret
      exact ⟨rfl, Below.refl _ _⟩
end Go.Proofs.YthplbfjpmnpjmaaDoor

namespace Go.Proofs.YthplbfjpmnpjmaaDoor
open Go.RowKit Lp
attribute [local go_sem ↓] Go.wp_at_zero Go.wp_at_succ

theorem nb_nab {G : List (List Int)} (h : mxB G = true) (i j : Nat) : (atG G i j).natAbs ≤ 100 := by
  obtain ⟨m, -, -, -, -, hr, -⟩ := mxB_rows h
  unfold atG
  rcases Nat.lt_or_ge i G.length with hi | hi
  · have e : G.getD i [] = G[i] := by rw [List.getD_eq_getElem?_getD, List.getElem?_eq_getElem hi]; rfl
    rw [e]
    rcases Nat.lt_or_ge j (G[i]).length with hj | hj
    · rw [List.getD_eq_getElem?_getD, List.getElem?_eq_getElem hj]
      have := List.all_eq_true.1 (hr _ (List.getElem_mem hi)).2 _ (List.getElem_mem hj)
      unfold nbB at this
      simp only [Bool.and_eq_true, decide_eq_true_eq] at this
      simp only [Option.getD_some]
      omega
    · rw [List.getD_eq_getElem?_getD, List.getElem?_eq_none hj]; decide
  · have e : G.getD i [] = [] := by rw [List.getD_eq_getElem?_getD, List.getElem?_eq_none hi]; rfl
    rw [e]; simp
/-- A saddle, as the statement looks for it. -/
def okS (G : List (List Int)) (m N r c : Nat) : Bool := (List.range N).all (fun j => decide (atG G r c ≤ atG G r j)) && (List.range m).all (fun j => decide (atG G j c ≤ atG G r c))
theorem okS_is {G : List (List Int)} {m N r c : Nat} (hm : G.length = m) (hrow : ∀ q ∈ G, q.length = N) (hr : r < m) (hc : c < N) : okS G m N r c = saB G r c := by
  have hrG : r < G.length := by omega
  have e : G.getD r [] = G[r] := by rw [List.getD_eq_getElem?_getD, List.getElem?_eq_getElem hrG]; rfl
  have hl := hrow _ (List.getElem_mem hrG)
  have at_ : ∀ j, j < N → atG G r j ∈ G[r] := fun j hj => by
    unfold atG
    rw [e, List.getD_eq_getElem?_getD, List.getElem?_eq_getElem (by omega)]
    exact List.getElem_mem _
  unfold okS saB
  rw [e]
  congr 1
  · rw [Bool.eq_iff_iff, List.all_eq_true, decide_eq_true_eq]
    constructor
    · intro h
      have h1 := minL_le (at_ c hc)
      have h2 := minL_mem (l := G[r]) (fun e => by rw [e] at hl; simp at hl; omega)
      obtain ⟨k, hk, hke⟩ := List.getElem_of_mem h2
      have h3 := h k (List.mem_range.2 (by omega))
      simp only [decide_eq_true_eq] at h3
      have h4 : atG G r k = (G[r])[k] := by
        unfold atG
        rw [e, List.getD_eq_getElem?_getD, List.getElem?_eq_getElem hk]; rfl
      rw [h4, hke] at h3
      omega
    · intro h j hj
      simp only [decide_eq_true_eq]
      rw [h]
      exact minL_le (at_ j (List.mem_range.1 hj))
  · rw [Bool.eq_iff_iff, List.all_eq_true, List.all_eq_true]
    constructor
    · intro h q hq
      obtain ⟨k, hk, rfl⟩ := List.getElem_of_mem hq
      have := h k (List.mem_range.2 (by omega))
      simp only [decide_eq_true_eq] at this ⊢
      have e2 : G.getD k [] = G[k] := by rw [List.getD_eq_getElem?_getD, List.getElem?_eq_getElem hk]; rfl
      unfold atG at this ⊢
      rw [e2] at this
      exact this
    · intro h j hj
      have hjG : j < G.length := by have := List.mem_range.1 hj; omega
      have := h _ (List.getElem_mem hjG)
      simp only [decide_eq_true_eq] at this ⊢
      have e2 : G.getD j [] = G[j] := by rw [List.getD_eq_getElem?_getD, List.getElem?_eq_getElem hjG]; rfl
      unfold atG at this ⊢
      rw [e2]
      exact this
theorem all_range (f : Nat → Bool) (n : Nat) : (List.range (n + 1)).all f = ((List.range n).all f && f n) := by rw [List.range_succ, List.all_append]; simp
/-- What Saddle told. -/
def SadR (G : List (List Int)) (m N : Nat) (si sk : Int) (sb : Bool) : Prop := (sb = false ∧ si = 0 ∧ sk = 0 ∧ noneB G N m 0) ∨ (sb = true ∧ ∃ i j : Nat, si = (i : Int) ∧ sk = (j : Int) ∧ i < m ∧ j < N ∧ noneB G N i j ∧ saB G i j = true)
theorem SadR.here {G : List (List Int)} {m N : Nat} {si sk : Int} {sb : Bool} (h : SadR G m N si sk sb) {r c : Nat} (hr : r < m) (hc : c < N) (hn : noneB G N r c) (hs : saB G r c = true) : sb = true ∧ si = (r : Int) ∧ sk = (c : Int) := by
  rcases h with ⟨-, -, -, h4⟩ | ⟨h1, i, j, h2, h3, h4, h5, h6, h7⟩
  · have := h4 r c (.inl ⟨hr, hc⟩)
    rw [hs] at this; cases this
  · have a1 : ¬ (i < r ∨ (i = r ∧ j < c)) := fun hh => by
      have := hn i j (hh.elim (fun h => .inl ⟨h, h5⟩) (fun h => .inr h))
      rw [h7] at this; cases this
    have a2 : ¬ (r < i ∨ (r = i ∧ c < j)) := fun hh => by
      have := h6 r c (hh.elim (fun h => .inl ⟨h, hc⟩) (fun h => .inr h))
      rw [hs] at this; cases this
    exact ⟨h1, by omega, by omega⟩
theorem SadR.none {G : List (List Int)} {m N : Nat} {si sk : Int} {sb : Bool} (h : SadR G m N si sk sb) (hn : noneB G N m 0) : sb = false ∧ si = 0 ∧ sk = 0 := by
  rcases h with ⟨h1, h2, h3, -⟩ | ⟨-, i, j, -, -, h4, h5, -, h7⟩
  · exact ⟨h1, h2, h3⟩
  · have := hn i j (.inl ⟨h4, h5⟩)
    rw [h7] at this; cases this

set_option maxRecDepth 100000 in
set_option maxHeartbeats 8000000 in
theorem saddle_no (ao : Option Addr) (cap : Nat) (G : List (List Int)) (w : World) (h : isMx w w.heap.size ao cap G) (hb : mxB G = false) :
    Calls Tryd.prog 3 #[.slice ao G.length cap] w fun e w' => e = .returned (.bool true) ∧ Below w.heap.size w w' := by
  have HS := hide (Saddle_bad w.heap.size ao cap G w h hb)
  have HV := hide (Solve_bad w.heap.size ao cap G w h hb)
  have hR := rMatrix_any ao cap G w h
  rw [hb] at hR
  have HR := hide hR
  have HC : Hid (∀ u, Below w.heap.size w u → Calls Tryd.prog 8 #[.slice ao G.length cap] u fun e w' => e = .returned (.int .i64 1) ∧ w' = u) := hide (fun u hu => by
    have := mCheck_any w.heap.size ao cap G u (h.below hu (Nat.le_refl _))
    rw [hb] at this
    simpa using this)
  have hle := h.le
  have hmo := h.most
  unfold maxLen at hmo
  obtain ⟨n, hn⟩ : ∃ n, n = G.length := ⟨_, rfl⟩
  rw [← hn] at HS HV HR HC hle ⊢
  clear hR h hn
  go_enter Tryd.func3, Tryd.ntmps3
  go_wp2_with fail
  refine (unhide HS).mono ?_
  rintro e w' ⟨rfl, hw'⟩
  replace hw' := hw'.symm
  subst hw'
  go_wp2_with fail
  refine (unhide HV).mono ?_
  rintro e w' ⟨rfl, hw'⟩
  replace hw' := hw'.symm
  subst hw'
  go_wp2_with fail
  refine (unhide HR).mono ?_
  rintro e w1 ⟨rfl, hb1⟩
  have HB1 := hide hb1
  have HC1 := hide (unhide HC w1 hb1)
  clear hb1 HC HS HV HR
  go_wp2_with fail
  refine (unhide HC1).mono ?_
  rintro e w' ⟨rfl, hw'⟩
  replace hw' := hw'.symm
  subst hw'
  go_wp2
  go_ret
  exact ⟨rfl, unhide HB1⟩
end Go.Proofs.YthplbfjpmnpjmaaDoor
