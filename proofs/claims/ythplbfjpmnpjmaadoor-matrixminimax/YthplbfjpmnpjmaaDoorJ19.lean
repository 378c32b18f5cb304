/-
  package matrix, walked: isFrom, areNumbers; a matrix in memory.
  package matrix, walked: isMatrix, Check.
  package matrix, walked: slices.Min of ints and of int64s; divisor.
-/
import Derived.Test.YthplbfjpmnpjmaaDoorJ18
namespace Go.Proofs.YthplbfjpmnpjmaaDoor
open Go.RowKit
attribute [local go_sem ↓] Go.wp_at_zero Go.wp_at_succ

def nbB (x : Int) : Bool := decide (-100 ≤ x) && decide (x ≤ 100)
/-- Rows of numbers in memory, in blocks below B. -/
structure isMx (w : World) (B : Nat) (ao : Option Addr) (cap : Nat) (G : List (List Int)) : Prop where
  le : G.length ≤ cap
  most : cap ≤ maxLen
  nil : ao = none → cap = 0
  cells : G ≠ [] → ∃ g off, ao = some ⟨g, off, none⟩ ∧ g < B ∧ ∀ (i : Nat) (r : List Int), G[i]? = some r → ∃ ro rc, w.cell? ⟨g, off + i, none⟩ = some (.slice ro r.length rc) ∧ isWl w B ro rc r
theorem isMx.below {w w' : World} {B B' : Nat} {ao : Option Addr} {cap : Nat} {G : List (List Int)} (h : isMx w B ao cap G) (hb : Below B' w w') (hB : B ≤ B') : isMx w' B ao cap G := by
  refine ⟨h.le, h.most, h.nil, fun hl => ?_⟩
  obtain ⟨g, off, e, hg, hc⟩ := h.cells hl
  refine ⟨g, off, e, hg, fun i r hr => ?_⟩
  obtain ⟨ro, rc, h1, h2⟩ := hc i r hr
  exact ⟨ro, rc, (hb.cell (p := ⟨g, off + i, none⟩) (Nat.lt_of_lt_of_le hg hB)).trans h1, h2.below hb hB⟩
/-- Is it a matrix? -/
def mxB (G : List (List Int)) : Bool := decide (1 ≤ G.length) && decide (G.length ≤ 6) && (decide (1 ≤ (G.getD 0 []).length) && decide ((G.getD 0 []).length ≤ 6)) && G.all fun r => decide (r.length = (G.getD 0 []).length) && r.all nbB

set_option maxHeartbeats 1000000 in
theorem mFrom_any (a n b : Int) (w : World) :
    Calls Tryd.prog 37 #[.int .i64 a, .int .i64 n, .int .i64 b] w fun e w' => e = .returned (.bool (decide (a ≤ n) && decide (n ≤ b))) ∧ w' = w := by
  go_enter Tryd.func37, Tryd.ntmps37
  go_wp2
  all_goals go_ret
  all_goals refine ⟨ret_bool ?_, rfl⟩
  all_goals first | (simp_all; done) | (simp_all; omega)

set_option maxHeartbeats 1000000 in
theorem mNumbers_any (B : Nat) (ao : Option Addr) (cap : Nat) (l : List Int) (w : World) (h : isWl w B ao cap l) :
    Calls Tryd.prog 38 #[.slice ao l.length cap] w fun e w' => e = .returned (.bool (l.all nbB)) ∧ w' = w := by
  have hle := h.le
  have hmo := h.most
  unfold maxLen at hmo
  obtain ⟨n, hn⟩ : ∃ n, n = l.length := ⟨_, rfl⟩
  rw [← hn]
  rw [← hn] at hle
  obtain ⟨R, hR⟩ : ∃ R, R = l.all nbB := ⟨_, rfl⟩
  rw [← hR]
  have HN := hide hn
  have HR := hide hR
  have HH := hide h
  clear hn hR h
  go_enter Tryd.func38, Tryd.ntmps38
  go_wp2
  go_loopw [7] (fun iv wr => ∃ i : Nat, i ≤ n ∧ iv = .int .i64 (i : Int) ∧ (l.take i).all nbB = true ∧ wr = w) (fun iv _ => n - (intOf iv).toNat)
  case atStart => exact ⟨0, Nat.zero_le _, rfl, by simp, rfl⟩
  case round =>
    obtain ⟨i, hi, rfl, hall, hwe⟩ := hrel
    replace hwe := hwe.symm
    subst hwe
    by_cases hil : i < n
    · have hii : (i : Int) < (n : Int) := by omega
      have hiw : i < l.length := by rw [← unhide HN]; exact hil
      obtain ⟨x, hx⟩ : ∃ x, l[i]? = some x := ⟨l[i], List.getElem?_eq_getElem hiw⟩
      have hxe : l[i] = x := by rw [List.getElem?_eq_getElem hiw] at hx; exact Option.some.inj hx
      obtain ⟨g, off, eg, hg, hc⟩ := (unhide HH).cells (fun e => by rw [e] at hiw; simp at hiw)
      subst eg
      have cx := hc i x hx
      have hst : (l.take (i + 1)).all nbB = nbB x := by
        rw [List.take_succ_eq_append_getElem hiw, List.all_append, hxe, hall]
        simp
      have HST := hide hst
      have HXM := hide (List.mem_of_getElem? hx)
      have hF := mFrom_any (-100) x 100 w
      have hwx : (decide (-100 ≤ x) && decide (x ≤ 100)) = nbB x := rfl
      rw [hwx] at hF
      obtain ⟨O, hO⟩ : ∃ O, O = nbB x := ⟨_, rfl⟩
      rw [← hO] at hF
      have HF := hide hF
      have HO := hide hO
      have hi64 : (i : Int) + 1 ≤ 9223372036854775807 := by omega
      clear hst hF hO hwx hc hx hxe hiw hall
      cases O with
      | true =>
        go_wp2_with fail
        refine (unhide HF).mono ?_
        rintro e w1 ⟨rfl, rfl⟩
        go_wp2
        go_roundw
        case rel => exact ⟨i + 1, by omega, by go_num, by rw [unhide HST, ← unhide HO], trivial⟩
        case measure => simp [intOf]; omega
      | false =>
        have hR0 : R = false := by
          rw [unhide HR]
          simp only [List.all_eq_false]
          exact ⟨x, unhide HXM, by rw [← unhide HO]; simp⟩
        subst hR0
        go_wp2_with fail
        refine (unhide HF).mono ?_
        rintro e w1 ⟨rfl, rfl⟩
        go_wp2
        go_ret
        exact ⟨rfl, rfl⟩
    · obtain rfl : i = n := by omega
      have hii : ¬ (i : Int) < (i : Int) := by omega
      have hR1 : R = true := by
        rw [unhide HR, ← hall, List.take_of_length_le (by rw [← unhide HN]; exact Nat.le_refl _)]
      subst hR1
      clear hall
      go_wp2
      go_ret
      exact ⟨rfl, rfl⟩

end Go.Proofs.YthplbfjpmnpjmaaDoor

namespace Go.Proofs.YthplbfjpmnpjmaaDoor
open Go.RowKit
attribute [local go_sem ↓] Go.wp_at_zero Go.wp_at_succ

/-- A row is as it must be. -/
def rwB (m : Nat) (r : List Int) : Bool := decide (r.length = m) && r.all nbB
theorem mxB_is (G : List (List Int)) (r0 : List Int) (h : G[0]? = some r0) : mxB G = (decide (1 ≤ G.length) && decide (G.length ≤ 6) && (decide (1 ≤ r0.length) && decide (r0.length ≤ 6)) && G.all (rwB r0.length)) := by
  have e : G.getD 0 [] = r0 := by rw [List.getD_eq_getElem?_getD, h]; rfl
  unfold mxB
  rw [e]
  rfl

set_option maxHeartbeats 2000000 in
set_option maxRecDepth 100000 in
theorem isMatrix_any (B : Nat) (ao : Option Addr) (cap : Nat) (G : List (List Int)) (w : World) (h : isMx w B ao cap G) :
    Calls Tryd.prog 20 #[.slice ao G.length cap] w fun e w' => e = .returned (.bool (mxB G)) ∧ w' = w := by
  have hle := h.le
  have hmo := h.most
  unfold maxLen at hmo
  obtain ⟨n, hn⟩ : ∃ n, n = G.length := ⟨_, rfl⟩
  rw [← hn]
  rw [← hn] at hle
  have hF1 := mFrom_any 1 (n : Int) 6 w
  obtain ⟨R, hR⟩ : ∃ R, R = mxB G := ⟨_, rfl⟩
  rw [← hR]
  have HN := hide hn
  have HR := hide hR
  have HH := hide h
  have HF1 := hide hF1
  clear hn hR h hF1
  by_cases hn16 : 1 ≤ n ∧ n ≤ 6
  · have hb1 : (decide ((1 : Int) ≤ (n : Int)) && decide ((n : Int) ≤ 6)) = true := by simp; omega
    rw [hb1] at HF1
    have hnp : 0 < (n : Int) := by omega
    have h0l : 0 < G.length := by rw [← unhide HN]; omega
    obtain ⟨r0, hr0⟩ : ∃ r0, G[0]? = some r0 := ⟨G[0], List.getElem?_eq_getElem h0l⟩
    have hGne : G ≠ [] := fun e => by rw [e] at h0l; simp at h0l
    obtain ⟨g, off, eg, hg, hc⟩ := (unhide HH).cells hGne
    subst eg
    obtain ⟨ro, rc, c0, hw0⟩ := hc 0 r0 hr0
    rw [Nat.add_zero] at c0
    obtain ⟨m, hm⟩ : ∃ m, m = r0.length := ⟨_, rfl⟩
    rw [← hm] at c0
    have hmx := mxB_is G r0 hr0
    rw [← unhide HN, ← hm] at hmx
    have hF2 := mFrom_any 1 (m : Int) 6 w
    have HMX := hide hmx
    have HC := hide hc
    by_cases hm16 : 1 ≤ m ∧ m ≤ 6
    · have hb2 : (decide ((1 : Int) ≤ (m : Int)) && decide ((m : Int) ≤ 6)) = true := by simp; omega
      rw [hb2] at hF2
      have HF2 := hide hF2
      have hRall : R = G.all (rwB m) := by
        rw [unhide HR, unhide HMX]
        have e1 : decide (1 ≤ n) = true := by simp; omega
        have e2 : decide (n ≤ 6) = true := by simp; omega
        have e3 : decide (1 ≤ m) = true := by simp; omega
        have e4 : decide (m ≤ 6) = true := by simp; omega
        rw [e1, e2, e3, e4]; rfl
      have HRA := hide hRall
      clear hF2 hRall hmx hc hw0 hr0 hm h0l hGne
      go_enter Tryd.func20, Tryd.ntmps20
      go_wp2_with fail
      refine (unhide HF1).mono ?_
      rintro e w' ⟨rfl, hw'⟩
      replace hw' := hw'.symm
      subst hw'
      go_wp2_with fail
      refine (unhide HF2).mono ?_
      rintro e w' ⟨rfl, hw'⟩
      replace hw' := hw'.symm
      subst hw'
      go_wp2
      go_loopw [19] (fun iv wr => ∃ i : Nat, i ≤ n ∧ iv = .int .i64 (i : Int) ∧ (G.take i).all (rwB m) = true ∧ wr = w) (fun iv _ => n - (intOf iv).toNat)
      case atStart => exact ⟨0, Nat.zero_le _, rfl, by simp, rfl⟩
      case round =>
        obtain ⟨i, hi, rfl, hall, hwe⟩ := hrel
        replace hwe := hwe.symm
        subst hwe
        by_cases hil : i < n
        · have hii : (i : Int) < (n : Int) := by omega
          have hiG : i < G.length := by rw [← unhide HN]; exact hil
          obtain ⟨r, hr⟩ : ∃ r, G[i]? = some r := ⟨G[i], List.getElem?_eq_getElem hiG⟩
          have hre : G[i] = r := by rw [List.getElem?_eq_getElem hiG] at hr; exact Option.some.inj hr
          obtain ⟨ri, rci, ci, hwi⟩ := unhide HC i r hr
          have hst : (G.take (i + 1)).all (rwB m) = rwB m r := by
            rw [List.take_succ_eq_append_getElem hiG, List.all_append, hre, hall]
            simp
          have hC := mNumbers_any B ri rci r w hwi
          obtain ⟨l, hl⟩ : ∃ l, l = r.length := ⟨_, rfl⟩
          obtain ⟨b, hb⟩ : ∃ b, b = r.all nbB := ⟨_, rfl⟩
          rw [← hl, ← hb] at hC
          rw [← hl] at ci
          have hrw : rwB m r = (decide (l = m) && b) := by rw [hl, hb]; rfl
          have hmem := List.mem_of_getElem? hr
          have HC2 := hide hC
          have HST := hide (hst.trans hrw)
          have hbad : rwB m r = false → R = false := fun e => by
            rw [unhide HRA, List.all_eq_false]
            exact ⟨r, hmem, by rw [e]; simp⟩
          rw [hrw] at hbad
          have HBAD := hide hbad
          clear hC hst hrw hbad hmem hwi hr hre hiG hall hl hb
          by_cases hlm : l = m
          · subst hlm
            have hne : ((l : Int) != (l : Int)) = false := by simp
            cases b with
            | true =>
              go_wp2_with fail
              refine (unhide HC2).mono ?_
              rintro e w' ⟨rfl, hw'⟩
              replace hw' := hw'.symm
              subst hw'
              go_wp2
              go_roundw
              case rel => exact ⟨i + 1, by omega, by go_num, by rw [unhide HST]; simp, trivial⟩
              case measure => simp [intOf]; omega
            | false =>
              have hR0 : R = false := unhide HBAD (by simp)
              subst hR0
              go_wp2_with fail
              refine (unhide HC2).mono ?_
              rintro e w' ⟨rfl, hw'⟩
              replace hw' := hw'.symm
              subst hw'
              go_wp2
              go_ret
              exact ⟨rfl, rfl⟩
          · have hne : ((l : Int) != (m : Int)) = true := by simp; omega
            have hR0 : R = false := unhide HBAD (by simp [hlm])
            subst hR0
            go_wp2
            go_ret
            exact ⟨rfl, rfl⟩
        · obtain rfl : i = n := by omega
          have hii : ¬ (i : Int) < (i : Int) := by omega
          have hR1 : R = true := by
            rw [unhide HRA, ← hall, List.take_of_length_le (by rw [← unhide HN]; exact Nat.le_refl _)]
          subst hR1
          clear hall
          go_wp2
          go_ret
          exact ⟨rfl, rfl⟩
    · have hb2 : (decide ((1 : Int) ≤ (m : Int)) && decide ((m : Int) ≤ 6)) = false := by
        rw [Bool.and_eq_false_iff]; simp; omega
      rw [hb2] at hF2
      have HF2 := hide hF2
      have hR0 : R = false := by
        rw [unhide HR, unhide HMX]
        have : (decide (1 ≤ m) && decide (m ≤ 6)) = false := by rw [Bool.and_eq_false_iff]; simp; omega
        rw [this]; simp
      subst hR0
      clear hF2 hmx hc hw0 hr0 hm h0l hGne
      go_enter Tryd.func20, Tryd.ntmps20
      go_wp2_with fail
      refine (unhide HF1).mono ?_
      rintro e w' ⟨rfl, hw'⟩
      replace hw' := hw'.symm
      subst hw'
      go_wp2_with fail
      refine (unhide HF2).mono ?_
      rintro e w' ⟨rfl, hw'⟩
      replace hw' := hw'.symm
      subst hw'
      go_wp2
      go_ret
      exact ⟨rfl, rfl⟩
  · have hb1 : (decide ((1 : Int) ≤ (n : Int)) && decide ((n : Int) ≤ 6)) = false := by
      rw [Bool.and_eq_false_iff]; simp; omega
    rw [hb1] at HF1
    have hR0 : R = false := by
      rw [unhide HR]
      unfold mxB
      rw [← unhide HN]
      have : (decide (1 ≤ n) && decide (n ≤ 6)) = false := by rw [Bool.and_eq_false_iff]; simp; omega
      rw [this]; simp
    subst hR0
    go_enter Tryd.func20, Tryd.ntmps20
    go_wp2_with fail
    refine (unhide HF1).mono ?_
    rintro e w' ⟨rfl, hw'⟩
    replace hw' := hw'.symm
    subst hw'
    go_wp2
    go_ret
    exact ⟨rfl, rfl⟩
set_option maxHeartbeats 1000000 in
theorem mCheck_any (B : Nat) (ao : Option Addr) (cap : Nat) (G : List (List Int)) (w : World) (h : isMx w B ao cap G) :
    Calls Tryd.prog 8 #[.slice ao G.length cap] w fun e w' => e = .returned (.int .i64 (if mxB G = true then 0 else 1)) ∧ w' = w := by
  have hC := isMatrix_any B ao cap G w h
  obtain ⟨n, hn⟩ : ∃ n, n = G.length := ⟨_, rfl⟩
  rw [← hn] at hC ⊢
  obtain ⟨b, hb⟩ : ∃ b, b = mxB G := ⟨_, rfl⟩
  rw [← hb] at hC ⊢
  have HC := hide hC
  clear hC h hn hb
  cases b with
  | true =>
    go_enter Tryd.func8, Tryd.ntmps8
    go_wp2_with fail
    refine (unhide HC).mono ?_
    rintro e w' ⟨rfl, hw'⟩
    replace hw' := hw'.symm
    subst hw'
    go_wp2
    go_ret
    exact ⟨rfl, rfl⟩
  | false =>
    go_enter Tryd.func8, Tryd.ntmps8
    go_wp2_with fail
    refine (unhide HC).mono ?_
    rintro e w' ⟨rfl, hw'⟩
    replace hw' := hw'.symm
    subst hw'
    go_wp2
    go_ret
    exact ⟨rfl, rfl⟩
end Go.Proofs.YthplbfjpmnpjmaaDoor

namespace Go.Proofs.YthplbfjpmnpjmaaDoor
open Go.RowKit
attribute [local go_sem ↓] Go.wp_at_zero Go.wp_at_succ

/-- The least of some. -/
def minL : List Int → Int
  | [] => 0
  | y :: l => l.foldl min y
theorem minL_snoc (l : List Int) (x : Int) (h : l ≠ []) : minL (l ++ [x]) = min (minL l) x := by
  cases l with
  | nil => exact absurd rfl h
  | cons y l => simp [minL, List.foldl_append]
theorem fold_min (l : List Int) : ∀ y : Int, (l.foldl min y ≤ y) ∧ (∀ x ∈ l, l.foldl min y ≤ x) ∧ (l.foldl min y = y ∨ l.foldl min y ∈ l) := by
  induction l with
  | nil => intro y; exact ⟨Int.le_refl _, fun x hx => absurd hx List.not_mem_nil, Or.inl rfl⟩
  | cons a l ih =>
    intro y
    obtain ⟨h1, h2, h3⟩ := ih (min y a)
    simp only [List.foldl_cons]
    refine ⟨by omega, fun x hx => ?_, ?_⟩
    · rcases List.mem_cons.mp hx with rfl | hx
      · omega
      · exact h2 x hx
    · rcases h3 with h3 | h3
      · rcases Int.le_total y a with hya | hya
        · left; omega
        · right; rw [List.mem_cons]; left; omega
      · right; exact List.mem_cons_of_mem _ h3
theorem minL_le {l : List Int} {x : Int} (h : x ∈ l) : minL l ≤ x := by
  cases l with
  | nil => exact absurd h List.not_mem_nil
  | cons y l =>
    rcases List.mem_cons.mp h with rfl | h
    · exact (fold_min l _).1
    · exact (fold_min l y).2.1 x h
theorem minL_mem {l : List Int} (h : l ≠ []) : minL l ∈ l := by
  cases l with
  | nil => exact absurd rfl h
  | cons y l =>
    rcases (fold_min l y).2.2 with e | e
    · show l.foldl min y ∈ _
      rw [e]; exact List.mem_cons_self
    · exact List.mem_cons_of_mem _ e

set_option maxHeartbeats 1000000 in
set_option maxRecDepth 100000 in
theorem Min_any (B : Nat) (ao : Option Addr) (cap : Nat) (l : List Int) (w : World) (h : isWl w B ao cap l) (hne : 0 < l.length) :
    Calls Tryd.prog 30 #[.slice ao l.length cap] w fun e w' => e = .returned (.int .i64 (minL l)) ∧ w' = w := by
  have hle := h.le
  have hmo := h.most
  unfold maxLen at hmo
  obtain ⟨n, hn⟩ : ∃ n, n = l.length := ⟨_, rfl⟩
  rw [← hn] at hle hne ⊢
  have hlne : l ≠ [] := fun e => by rw [e] at hn; simp at hn; omega
  obtain ⟨g, off, eg, hg, hc⟩ := h.cells hlne
  subst eg
  have h0l : 0 < l.length := by rw [← hn]; exact hne
  obtain ⟨y0, hy0⟩ : ∃ x, l[0]? = some x := ⟨l[0], List.getElem?_eq_getElem h0l⟩
  have c0 := hc 0 y0 hy0
  rw [Nat.add_zero] at c0
  have hn1 : ¬ (n : Int) < 1 := by omega
  have hni : (0 : Int) < (n : Int) := by omega
  have H1 : Hid (y0 = minL (l.take 1)) := hide (by
    cases l with
    | nil => exact absurd rfl hlne
    | cons y l => simp at hy0; simp [minL, hy0])
  have HN := hide hn
  have HC := hide hc
  have HL := hide hlne
  clear hn hc hlne h h0l hy0
  go_enter Tryd.func30, Tryd.ntmps30
  go_wp2
  go_loop [3, 4] (fun mv iv => ∃ (k : Nat) (m : Int), 1 ≤ k ∧ k ≤ n ∧ iv = .int .i64 (k : Int) ∧ mv = .int .i64 m ∧ Hid (m = minL (l.take k))) (fun _ iv => n - (intOf iv).toNat)
  case atStart => exact ⟨1, y0, Nat.le_refl _, hne, rfl, rfl, H1⟩
  case round =>
    obtain ⟨k, m, hk1, hk, rfl, rfl, HM⟩ := hrel
    by_cases hlt : k < n
    · have hlti : (k : Int) < (n : Int) := by omega
      have hk0 : (0 : Int) ≤ (k : Int) := by omega
      have hkl : k < l.length := by rw [← unhide HN]; exact hlt
      obtain ⟨y, hy⟩ : ∃ x, l[k]? = some x := ⟨l[k], List.getElem?_eq_getElem hkl⟩
      have hye : l[k] = y := by rw [List.getElem?_eq_getElem hkl] at hy; exact Option.some.inj hy
      have c1 := unhide HC k y hy
      have hsn : minL (l.take (k + 1)) = min m y := by
        rw [List.take_succ_eq_append_getElem hkl, minL_snoc _ _ (fun e => by rw [List.take_eq_nil_iff] at e; rcases e with e | e; omega; exact unhide HL e), unhide HM, hye]
      have HSN := hide hsn
      clear hsn hy hye hkl
      go_wp2
      go_round
      case rel => exact ⟨k + 1, min m y, by omega, by omega, by go_num, by go_num, hide (unhide HSN).symm⟩
      case measure => simp only [intOf]; omega
    · have hlti : ¬ (k : Int) < (n : Int) := by omega
      go_wp2
      go_ret
      exact ⟨ret_int (by rw [unhide HM, List.take_of_length_le (by rw [← unhide HN]; omega)]), rfl⟩

set_option maxHeartbeats 1000000 in
set_option maxRecDepth 100000 in
theorem Min64_any (B : Nat) (ao : Option Addr) (cap : Nat) (l : List Int) (w : World) (h : isWl w B ao cap l) (hne : 0 < l.length) :
    Calls Tryd.prog 62 #[.slice ao l.length cap] w fun e w' => e = .returned (.int .i64 (minL l)) ∧ w' = w := by
  have hle := h.le
  have hmo := h.most
  unfold maxLen at hmo
  obtain ⟨n, hn⟩ : ∃ n, n = l.length := ⟨_, rfl⟩
  rw [← hn] at hle hne ⊢
  have hlne : l ≠ [] := fun e => by rw [e] at hn; simp at hn; omega
  obtain ⟨g, off, eg, hg, hc⟩ := h.cells hlne
  subst eg
  have h0l : 0 < l.length := by rw [← hn]; exact hne
  obtain ⟨y0, hy0⟩ : ∃ x, l[0]? = some x := ⟨l[0], List.getElem?_eq_getElem h0l⟩
  have c0 := hc 0 y0 hy0
  rw [Nat.add_zero] at c0
  have hn1 : ¬ (n : Int) < 1 := by omega
  have hni : (0 : Int) < (n : Int) := by omega
  have H1 : Hid (y0 = minL (l.take 1)) := hide (by
    cases l with
    | nil => exact absurd rfl hlne
    | cons y l => simp at hy0; simp [minL, hy0])
  have HN := hide hn
  have HC := hide hc
  have HL := hide hlne
  clear hn hc hlne h h0l hy0
  go_enter Tryd.func62, Tryd.ntmps62
  go_wp2
  go_loop [3, 4] (fun mv iv => ∃ (k : Nat) (m : Int), 1 ≤ k ∧ k ≤ n ∧ iv = .int .i64 (k : Int) ∧ mv = .int .i64 m ∧ Hid (m = minL (l.take k))) (fun _ iv => n - (intOf iv).toNat)
  case atStart => exact ⟨1, y0, Nat.le_refl _, hne, rfl, rfl, H1⟩
  case round =>
    obtain ⟨k, m, hk1, hk, rfl, rfl, HM⟩ := hrel
    by_cases hlt : k < n
    · have hlti : (k : Int) < (n : Int) := by omega
      have hk0 : (0 : Int) ≤ (k : Int) := by omega
      have hkl : k < l.length := by rw [← unhide HN]; exact hlt
      obtain ⟨y, hy⟩ : ∃ x, l[k]? = some x := ⟨l[k], List.getElem?_eq_getElem hkl⟩
      have hye : l[k] = y := by rw [List.getElem?_eq_getElem hkl] at hy; exact Option.some.inj hy
      have c1 := unhide HC k y hy
      have hsn : minL (l.take (k + 1)) = min m y := by
        rw [List.take_succ_eq_append_getElem hkl, minL_snoc _ _ (fun e => by rw [List.take_eq_nil_iff] at e; rcases e with e | e; omega; exact unhide HL e), unhide HM, hye]
      have HSN := hide hsn
      clear hsn hy hye hkl
      go_wp2
      go_round
      case rel => exact ⟨k + 1, min m y, by omega, by omega, by go_num, by go_num, hide (unhide HSN).symm⟩
      case measure => simp only [intOf]; omega
    · have hlti : ¬ (k : Int) < (n : Int) := by omega
      go_wp2
      go_ret
      exact ⟨ret_int (by rw [unhide HM, List.take_of_length_le (by rw [← unhide HN]; omega)]), rfl⟩
end Go.Proofs.YthplbfjpmnpjmaaDoor
