/-
  package table, walked: isOneLess, leads.
  package table, walked: saidOf.
-/
import Derived.Test.YtbijadnekoeofaaGreatDoorJ38
namespace Go.Proofs.YtbijadnekoeofaaGreatDoor
open Go.RowKit

theorem isOneLess_any (a b : Int) (w : World) (ha : -9 ≤ a ∧ a ≤ 1000000) : Calls Tryz.prog 102 #[.int .i64 a, .int .i64 b] w fun e w' => e = .returned (.bool (decide (a + 1 = b))) ∧ w' = w := by
  obtain ⟨a1, ha1⟩ : ∃ a1, a1 = a + 1 := ⟨_, rfl⟩
  have e1 : a + 1 = a1 := ha1.symm
  have w1 : IntKind.i64.wrap a1 = a1 := by unfold IntKind.wrap; simp [IntKind.signed, IntKind.bits]; omega
  by_cases h : a < b
  · by_cases h2 : a1 = b
    · have hb : (a1 == b) = true := by simp [h2]
      have hr : decide (a1 = b) = true := by simp [h2]
      rw [e1, hr]
      clear h2 ha1 ha hr
      go_enter Tryz.func102, Tryz.ntmps102
      go_wp2
      go_ret
      exact ⟨rfl, rfl⟩
    · have hb : (a1 == b) = false := by simp [h2]
      have hr : decide (a1 = b) = false := by simp [h2]
      rw [e1, hr]
      clear h2 ha1 ha hr
      go_enter Tryz.func102, Tryz.ntmps102
      go_wp2
      go_ret
      exact ⟨rfl, rfl⟩
  · have hr : decide (a1 = b) = false := by simp; omega
    rw [e1, hr]
    clear ha1 ha hr e1 w1
    go_enter Tryz.func102, Tryz.ntmps102
    go_wp2
    go_ret
    exact ⟨rfl, rfl⟩

/-- Does a move lead from what is worth so much to what is worth so much? -/
def leadsB (c d : Int × Int × Bool) : Bool :=
  if c.1 = 1 then decide (d.1 = 2) && decide (d.2.1 + 1 = c.2.1) else if c.1 = 2 then decide (d.1 = 1) && decide (d.2.1 + 1 = c.2.1) else if c.1 = 3 then decide (d.1 = 3) else false
set_option maxHeartbeats 1000000 in
set_option maxRecDepth 100000 in
theorem leads_any (c d : Int × Int × Bool) (w : World) (hd : -9 ≤ d.2.1 ∧ d.2.1 ≤ 1000000) : Calls Tryz.prog 64 #[.agg #[.int .i64 c.1, .int .i64 c.2.1, .bool c.2.2], .agg #[.int .i64 d.1, .int .i64 d.2.1, .bool d.2.2]] w fun e w' => e = .returned (.bool (leadsB c d)) ∧ Below w.heap.size w w' := by
  obtain ⟨c1, c2, c3⟩ := c
  obtain ⟨d1, d2, d3⟩ := d
  simp only at hd ⊢
  obtain ⟨w1, hw1⟩ : ∃ w1, w1 = w.alloc (.cells #[.int .i64 c1, .int .i64 c2, .bool c3] 112 (0, 0)) := ⟨_, rfl⟩
  obtain ⟨w2, hw2⟩ : ∃ w2, w2 = w1.alloc (.cells #[.int .i64 d1, .int .i64 d2, .bool d3] 112 (0, 0)) := ⟨_, rfl⟩
  have hb1 : Below w.heap.size w w1 := by rw [hw1]; exact (Below.refl _ _).alloc (Nat.le_refl _) _
  have hb2 : Below w1.heap.size w1 w2 := by rw [hw2]; exact (Below.refl _ _).alloc (Nat.le_refl _) _
  have s1 : w1.heap.size = w.heap.size + 1 := by rw [hw1]; simp
  have hx1 : w2.heap[w.heap.size]? = some (.cells #[.int .i64 c1, .int .i64 c2, .bool c3] 112 (0, 0)) := (hb2.block _ (by omega)).trans (by rw [hw1]; exact heap_alloc_new w _)
  have hx2 : w2.heap[w.heap.size + 1]? = some (.cells #[.int .i64 d1, .int .i64 d2, .bool d3] 112 (0, 0)) := by rw [hw2, ← s1]; exact heap_alloc_new w1 _
  have a0 : w2.cell? ⟨w.heap.size, 0, none⟩ = some (.int .i64 c1) := by simp [World.cell?, hx1]
  have a1 : w2.cell? ⟨w.heap.size, 1, none⟩ = some (.int .i64 c2) := by simp [World.cell?, hx1]
  have b0 : w2.cell? ⟨w.heap.size + 1, 0, none⟩ = some (.int .i64 d1) := by simp [World.cell?, hx2]
  have b1 : w2.cell? ⟨w.heap.size + 1, 1, none⟩ = some (.int .i64 d2) := by simp [World.cell?, hx2]
  have HBW : Hid (Below w.heap.size w w2) := hide (hb1.trans (hb2.mono hb1.size))
  have HIS := hide (fun u => isOneLess_any d2 c2 u hd)
  obtain ⟨B, hB⟩ : ∃ B, B = decide (d2 + 1 = c2) := ⟨_, rfl⟩
  rw [← hB] at HIS
  obtain ⟨R, hR⟩ : ∃ R, R = leadsB (c1, c2, c3) (d1, d2, d3) := ⟨_, rfl⟩
  rw [← hR]
  unfold leadsB at hR
  simp only [← hB] at hR
  have HW1 := hide hw1
  have HW2 := hide hw2
  clear hw1 hw2 hb1 hb2 s1 hx1 hx2 hB hd
  by_cases h1 : c1 = 1
  · rw [if_pos h1] at hR
    subst h1
    by_cases h2 : d1 = 2
    · subst h2
      have hR' : R = B := by simpa using hR
      subst hR'
      clear hR
      go_enter Tryz.func64, Tryz.ntmps64
      go_upto_region 1 with fail
      rw [← unhide HW1, ← unhide HW2]
      clear HW1 HW2
      go_wp2_with fail
      refine (unhide HIS _).mono ?_
      rintro e wx ⟨rfl, rfl⟩
      go_wp2
      go_ret
      exact ⟨rfl, unhide HBW⟩
    · have hb : (d1 == 2) = false := by simp [h2]
      have hR' : R = false := by simpa [h2] using hR
      subst hR'
      clear hR h2 HIS
      go_enter Tryz.func64, Tryz.ntmps64
      go_upto_region 1 with fail
      rw [← unhide HW1, ← unhide HW2]
      clear HW1 HW2
      go_wp2
      go_ret
      exact ⟨rfl, unhide HBW⟩
  · rw [if_neg h1] at hR
    have hc1 : (c1 == 1) = false := by simp [h1]
    by_cases h3 : c1 = 2
    · rw [if_pos h3] at hR
      subst h3
      clear h1
      by_cases h2 : d1 = 1
      · subst h2
        have hR' : R = B := by simpa using hR
        subst hR'
        clear hR
        go_enter Tryz.func64, Tryz.ntmps64
        go_upto_region 1 with fail
        rw [← unhide HW1, ← unhide HW2]
        clear HW1 HW2
        go_wp2_with fail
        refine (unhide HIS _).mono ?_
        rintro e wx ⟨rfl, rfl⟩
        go_wp2
        go_ret
        exact ⟨rfl, unhide HBW⟩
      · have hb : (d1 == 1) = false := by simp [h2]
        have hR' : R = false := by simpa [h2] using hR
        subst hR'
        clear hR h2 HIS
        go_enter Tryz.func64, Tryz.ntmps64
        go_upto_region 1 with fail
        rw [← unhide HW1, ← unhide HW2]
        clear HW1 HW2
        go_wp2
        go_ret
        exact ⟨rfl, unhide HBW⟩
    · rw [if_neg h3] at hR
      have hc2 : (c1 == 2) = false := by simp [h3]
      by_cases h5 : c1 = 3
      · rw [if_pos h5] at hR
        subst h5
        obtain ⟨E, hE⟩ : ∃ E, (d1 == 3) = E := ⟨_, rfl⟩
        have hR' : R = E := by rw [hR, ← hE, Bool.eq_iff_iff]; simp
        subst hR'
        clear hR HIS h1 h3
        go_enter Tryz.func64, Tryz.ntmps64
        go_upto_region 1 with fail
        rw [← unhide HW1, ← unhide HW2]
        clear HW1 HW2
        go_wp2
        go_ret
        exact ⟨rfl, unhide HBW⟩
      · rw [if_neg h5] at hR
        have hc3 : (c1 == 3) = false := by simp [h5]
        subst hR
        clear HIS h1 h3 h5
        go_enter Tryz.func64, Tryz.ntmps64
        go_upto_region 1 with fail
        rw [← unhide HW1, ← unhide HW2]
        clear HW1 HW2
        go_wp2
        go_ret
        exact ⟨rfl, unhide HBW⟩
end Go.Proofs.YtbijadnekoeofaaGreatDoor

namespace Go.Proofs.YtbijadnekoeofaaGreatDoor
open Go.RowKit
attribute [local go_sem ↓] Go.wp_at_zero Go.wp_at_succ

/-- The first entry of a position. -/
def fstE : List (Po × Int × Int) → Po → Option (Int × Int)
  | [], _ => none
  | x :: l, q => if x.1 = q then some x.2 else fstE l q
theorem fstE_snoc (l : List (Po × Int × Int)) (x : Po × Int × Int) (q : Po) : fstE (l ++ [x]) q = match fstE l q with | some c => some c | none => if x.1 = q then some x.2 else none := by
  induction l with
  | nil => simp [fstE]
  | cons y l ih =>
    rw [List.cons_append, fstE, fstE]
    by_cases h : y.1 = q
    · rw [if_pos h, if_pos h]
    · rw [if_neg h, if_neg h, ih]
def clO : Option (Int × Int) → Int × Int × Bool
  | some c => (c.1, c.2, true)
  | none => (0, 0, false)
/-- What is said of a position that is asked for. -/
def gS (dom : List Po) (l : List (Po × Int × Int)) (q : Po) : Int × Int × Bool := if q ∈ dom then clO (fstE l q) else (0, 0, false)
theorem clO_made (o : Option (Int × Int)) : (clO o).2.2 = o.isSome := by cases o <;> rfl
theorem gS_put {dom : List Po} {l : List (Po × Int × Int)} {x : Po × Int × Int} (hin : x.1 ∈ dom) (hn : fstE l x.1 = none) : (fun q => if q = x.1 then (x.2.1, x.2.2, true) else gS dom l q) = gS dom (l ++ [x]) := by
  funext q
  unfold gS
  rw [fstE_snoc]
  by_cases h : q = x.1
  · subst h
    rw [if_pos rfl, if_pos hin, hn]
    simp [clO]
  · rw [if_neg h]
    by_cases hq : q ∈ dom
    · rw [if_pos hq, if_pos hq]
      cases fstE l q with
      | some c => rfl
      | none => simp [Ne.symm h]
    · rw [if_neg hq, if_neg hq]
theorem gS_keep {dom : List Po} {l : List (Po × Int × Int)} {x : Po × Int × Int} (h : ¬ (x.1 ∈ dom ∧ fstE l x.1 = none)) : gS dom l = gS dom (l ++ [x]) := by
  funext q
  unfold gS
  by_cases hq : q ∈ dom
  · rw [if_pos hq, if_pos hq, fstE_snoc]
    cases hf : fstE l q with
    | some c => rfl
    | none =>
      by_cases hx : x.1 = q
      · subst hx
        exact absurd ⟨hq, hf⟩ h
      · simp [hx]
  · rw [if_neg hq, if_neg hq]
theorem gS_dom {dom dom' : List Po} {l : List (Po × Int × Int)} (h : ∀ q, q ∈ dom ↔ q ∈ dom') : gS dom l = gS dom' l := by
  funext q
  unfold gS
  by_cases hq : q ∈ dom
  · rw [if_pos hq, if_pos ((h q).1 hq)]
  · rw [if_neg hq, if_neg (fun h' => hq ((h q).2 h'))]
/-- A map of claims, and how it came about. -/
structure SdI (w : World) (b : Nat) (dom : List Po) (G : Po → Int × Int × Bool) (u : World) : Prop where
  sd : ∃ N, N ≤ 20000 ∧ sdM u b N dom G
  bw : Below w.heap.size w u
  bb : w.heap.size ≤ b
theorem SdI.below {w : World} {b : Nat} {dom : List Po} {G : Po → Int × Int × Bool} {u u' : World} (h : SdI w b dom G u) (hb : Below u.heap.size u u') : SdI w b dom G u' := by
  obtain ⟨N, hN, hs⟩ := h.sd
  exact ⟨⟨N, hN, hs.of_block (hb.block b hs.lt)⟩, h.bw.trans (hb.mono h.bw.size), h.bb⟩

set_option maxHeartbeats 4000000 in
set_option maxRecDepth 100000 in
theorem saidOf_walk (lv av : Value) (bl ba : Nat) (ts : List (Po × Int × Int)) (aq : List Po) (w : World) (hl : w.ownsRow bl 34 8 lv ts.length (evs ts)) (ha : w.ownsRow ba 24 6 av aq.length (povs aq)) (hal : aq.length ≤ 5000) (htl : ts.length ≤ 5000) (hok : ∀ p ∈ aq, p.ok) (htok : ∀ x ∈ ts, x.1.ok) :
    Calls Tryz.prog 63 #[lv, av] w fun e w' => ∃ b, e = .returned (.map (some b)) ∧ Hid (SdI w b aq (gS aq ts) w') := by
  obtain ⟨ao, ac, rfl⟩ := row_lenT ha
  obtain ⟨lo, lc, rfl⟩ := row_lenT hl
  have HAS : Hid (∀ (k : Nat) (q : Po), aq[k]? = some q → ∃ ga, ao = some ⟨ga, 0, none⟩ ∧ ∀ u, Below w.heap.size w u → u.cell? ⟨ga, k * 6, none⟩ = some (.int .i64 q.W) ∧ u.cell? ⟨ga, k * 6 + 1, none⟩ = some (.int .i64 q.H) ∧ u.cell? ⟨ga, k * 6 + 2, none⟩ = some (.string q.C) ∧ u.cell? ⟨ga, k * 6 + 3, none⟩ = some (.int .i64 q.T) ∧ u.cell? ⟨ga, k * 6 + 4, none⟩ = some (.string q.A) ∧ u.cell? ⟨ga, k * 6 + 5, none⟩ = some (.string q.B)) := hide (fun k q hq => by
    have hk := (List.getElem?_eq_some_iff.1 hq).1
    obtain ⟨g, c, e, -, hgl, -, -, hc⟩ := row_posT ha (by omega)
    simp only [Value.slice.injEq, true_and] at e
    exact ⟨g, e.1, fun u hu => (hc k q hq).2 u (hu.block g hgl)⟩)
  have HLS : Hid (∀ (k : Nat) (x : Po × Int × Int), ts[k]? = some x → ∃ gl, lo = some ⟨gl, 0, none⟩ ∧ ∀ u, Below w.heap.size w u → ∀ j, j < 8 → u.cell? ⟨gl, k * 8 + j, none⟩ = (encE x)[j]?) := hide (fun k x hx => by
    have hk := (List.getElem?_eq_some_iff.1 hx).1
    rcases hl.2 with ⟨_, h0⟩ | ⟨g, cap, cur, e1, hb1, hg, h1, h2, -⟩
    · omega
    · rw [e1] at hl
      simp only [Value.slice.injEq, true_and] at e1
      refine ⟨g, e1.1, fun u hu j hj => ?_⟩
      have hgl : g < w.heap.size := (Array.getElem?_eq_some_iff.1 hg).1
      rw [World.cell?_of_block (a := ⟨g, k * 8 + j, none⟩) (hu.block g hgl), hl.cellAt (k * 8 + j) (by omega)]
      exact fm_at (f := encE) (c := 8) (fun _ => rfl) ts k j x hx hj)
  have hbnd : ∀ {base e size n xs o c}, w.ownsRow base e size (.slice o n c) n xs → n ≤ c ∧ c ≤ 9223372036854775807 := fun {base e size n xs o c} h => by
    rcases h.2 with ⟨e1, h0⟩ | ⟨g', c', cur, e1, _, _, h1, h2, _⟩
    · simp only [Value.slice.injEq] at e1
      omega
    · simp only [Value.slice.injEq, true_and] at e1
      obtain ⟨-, rfl⟩ := e1
      unfold maxLen at h2
      exact ⟨h1, h2⟩
  obtain ⟨hac1, hac2⟩ := hbnd ha
  obtain ⟨hlc1, hlc2⟩ := hbnd hl
  obtain ⟨na, hna⟩ : ∃ na, na = aq.length := ⟨_, rfl⟩
  obtain ⟨nl, hnl⟩ : ∃ nl, nl = ts.length := ⟨_, rfl⟩
  rw [← hna] at hac1 hal ⊢
  rw [← hnl] at hlc1 htl ⊢
  have HNA := hide hna
  have HNL := hide hnl
  have HOK := hide hok
  have HTOK := hide htok
  have hmm := @run_makeMap Tryz.prog
  obtain ⟨b, hb⟩ : ∃ b, b = w.heap.size := ⟨_, rfl⟩
  obtain ⟨w1, hw1⟩ : ∃ w1, w1 = w.alloc (.map #[] 0) := ⟨_, rfl⟩
  have HS0 : Hid (sdM w1 b 0 [] (fun _ => (0, 0, false))) := hide (by rw [hw1, hb]; exact sdM_made w)
  have HB0 : Hid (Below w.heap.size w w1) := hide (by rw [hw1]; exact (Below.refl _ _).alloc (Nat.le_refl _) _)
  have HW1 := hide hw1
  have HBD := hide hb
  clear hna hnl hok htok hb hw1 ha hl hbnd
  go_enter Tryz.func63, Tryz.ntmps63
  go_upto_region 2 with fail
  rw [← unhide HW1, ← unhide HBD]
  clear HW1 hmm
  go_wp2
  go_loopw [15] (fun iv wr => ∃ (k : Nat) (dom : List Po), k ≤ na ∧ iv = .int .i64 (k : Int) ∧ Hid (∀ q, q ∈ dom ↔ q ∈ aq.take k) ∧ Hid (∃ N, N ≤ k ∧ sdM wr b N dom (fun _ => (0, 0, false))) ∧ Hid (Below w.heap.size w wr)) (fun iv _ => na - (intOf iv).toNat)
  case atStart => exact ⟨0, [], Nat.zero_le _, rfl, hide (by simp), hide ⟨0, Nat.le_refl _, unhide HS0⟩, HB0⟩
  case round =>
    obtain ⟨k, dom, hk, rfl, HDO, HSD, HBW⟩ := hrel
    rename World => wr
    clear HS0 HB0
    by_cases hlt : k < na
    · have hlti : (k : Int) < (na : Int) := by omega
      have hk0 : (0 : Int) ≤ (k : Int) := by omega
      obtain ⟨q, hq⟩ : ∃ q, aq[k]? = some q := ⟨_, List.getElem?_eq_getElem (by rw [← unhide HNA]; exact hlt)⟩
      obtain ⟨ga, hga, hac⟩ := unhide HAS k q hq
      subst hga
      obtain ⟨q0, q1, q2, q3, q4, q5⟩ := hac wr (unhide HBW)
      have hqok := unhide HOK q (List.mem_of_getElem? hq)
      obtain ⟨wx, hwx⟩ : ∃ wx, wx = wr.alloc (.cells #[.int .i64 q.W, .int .i64 q.H, .string q.C, .int .i64 q.T, .string q.A, .string q.B] 24 (0, 0)) := ⟨_, rfl⟩
      have hbx : Below wr.heap.size wr wx := by rw [hwx]; exact (Below.refl _ _).alloc (Nat.le_refl _) _
      have hpbx : isPb wx wr.heap.size q.W q.H q.T q.C q.A q.B := by rw [hwx]; exact heap_alloc_new wr _
      obtain ⟨x0, x1, x2, x3, x4, x5⟩ := hpbx.all
      obtain ⟨N, hN, hs⟩ := unhide HSD
      have hbl := hs.lt
      obtain ⟨w2, hrun, hs2, hg2⟩ := (hs.of_block (hbx.block b hs.lt)).put (by omega) hqok (0, 0, false)
      have hz : (fun x : Po => if x = q then ((0 : Int), (0 : Int), false) else (0, 0, false)) = fun _ => (0, 0, false) := by funext x; split <;> rfl
      rw [hz] at hs2
      have HS2 : Hid (∃ N, N ≤ k + 1 ∧ sdM w2 b N (q :: dom) (fun _ => (0, 0, false))) := hide ⟨N + 1, by omega, hs2⟩
      have HB2 : Hid (Below w.heap.size w w2) := hide (below_row ((unhide HBW).trans (hbx.mono (unhide HBW).size)) (by rw [unhide HBD]; exact Nat.le_refl _) hg2)
      have HD2 : Hid (∀ x, x ∈ q :: dom ↔ x ∈ aq.take (k + 1)) := hide (fun x => by
        rw [List.take_add_one, hq, List.mem_cons, unhide HDO x, List.mem_append]
        simp
        exact Or.comm)
      have HWX := hide hwx
      clear hq hac hqok hwx hbx hpbx hs hs2 hg2 hz hbl HSD HBW HDO
      go_upto_region 5 with fail
      rw [← unhide HWX]
      clear HWX q0 q1 q2 q3 q4 q5
      go_wp2
      go_roundw
      case rel => exact ⟨k + 1, q :: dom, by omega, by go_num, HD2, HS2, HB2⟩
      case measure => simp only [intOf]; omega
    · have hlti : ¬ (k : Int) < (na : Int) := by omega
      have hdom : ∀ q, q ∈ dom ↔ q ∈ aq := fun q => by rw [unhide HDO q, List.take_of_length_le (by rw [← unhide HNA]; omega)]
      have HI0 : Hid (SdI w b dom (gS dom (ts.take 0)) wr) := hide (by
        obtain ⟨N, hN, hs⟩ := unhide HSD
        refine ⟨⟨N, by omega, ?_⟩, unhide HBW, by rw [unhide HBD]; exact Nat.le_refl _⟩
        have : gS dom (ts.take 0) = fun _ => ((0 : Int), (0 : Int), false) := by
          funext q
          unfold gS
          split <;> rfl
        rw [this]
        exact hs)
      have HNN : Hid (∃ N, N ≤ 5000 + 0 ∧ sdM wr b N dom (gS dom (ts.take 0))) := hide (by
        obtain ⟨N, hN, hs⟩ := unhide HSD
        refine ⟨N, by omega, ?_⟩
        have : gS dom (ts.take 0) = fun _ => ((0 : Int), (0 : Int), false) := by
          funext q
          unfold gS
          split <;> rfl
        rw [this]
        exact hs)
      have HDM := hide hdom
      clear hdom HSD HDO HI0
      go_wp2
      go_loopw [25] (fun iv wq => ∃ (j : Nat), j ≤ nl ∧ iv = .int .i64 (j : Int) ∧ Hid (∃ N, N ≤ 5000 + j ∧ sdM wq b N dom (gS dom (ts.take j))) ∧ Hid (Below w.heap.size w wq)) (fun iv _ => nl - (intOf iv).toNat)
      case atStart => exact ⟨0, Nat.zero_le _, rfl, HNN, HBW⟩
      case round =>
        obtain ⟨j, hj, rfl, HSD, HBQ⟩ := hrel
        rename World => wq
        clear HNN HBW
        by_cases hjn : j < nl
        · have hjni : (j : Int) < (nl : Int) := by omega
          have hj0 : (0 : Int) ≤ (j : Int) := by omega
          obtain ⟨x, hx⟩ : ∃ x, ts[j]? = some x := ⟨_, List.getElem?_eq_getElem (by rw [← unhide HNL]; exact hjn)⟩
          obtain ⟨gl, hgl, hlc⟩ := unhide HLS j x hx
          subst hgl
          have c0 := hlc wq (unhide HBQ) 0 (by omega)
          have c1 := hlc wq (unhide HBQ) 1 (by omega)
          have c2 := hlc wq (unhide HBQ) 2 (by omega)
          have c3 := hlc wq (unhide HBQ) 3 (by omega)
          have c4 := hlc wq (unhide HBQ) 4 (by omega)
          have c5 := hlc wq (unhide HBQ) 5 (by omega)
          have c6 := hlc wq (unhide HBQ) 6 (by omega)
          have c7 := hlc wq (unhide HBQ) 7 (by omega)
          rw [Nat.add_zero] at c0
          simp only [encE, List.getElem?_cons_zero, List.getElem?_cons_succ] at c0 c1 c2 c3 c4 c5 c6 c7
          obtain ⟨p, v, d⟩ := x
          simp only at c0 c1 c2 c3 c4 c5 c6 c7
          have hpok : p.ok := unhide HTOK (p, v, d) (List.mem_of_getElem? hx)
          obtain ⟨wx, hwx⟩ : ∃ wx, wx = wq.alloc (.cells #[.int .i64 p.W, .int .i64 p.H, .string p.C, .int .i64 p.T, .string p.A, .string p.B, .int .i64 v, .int .i64 d] 34 (0, 0)) := ⟨_, rfl⟩
          have hbx : Below wq.heap.size wq wx := by rw [hwx]; exact (Below.refl _ _).alloc (Nat.le_refl _) _
          have hxs : wx.heap.size = wq.heap.size + 1 := by rw [hwx]; simp
          have hbk : wx.heap[wq.heap.size]? = some (.cells #[.int .i64 p.W, .int .i64 p.H, .string p.C, .int .i64 p.T, .string p.A, .string p.B, .int .i64 v, .int .i64 d] 34 (0, 0)) := by rw [hwx]; exact heap_alloc_new wq _
          obtain ⟨N, hN, hs⟩ := unhide HSD
          have hsx := hs.of_block (hbx.block b hs.lt)
          obtain ⟨G, hG⟩ : ∃ G, G = gS dom (ts.take j) p := ⟨_, rfl⟩
          have hlk := hsx.look_ok hpok wx rfl
          rw [← hG] at hlk
          obtain ⟨wy, hwy⟩ : ∃ wy, wy = wx.alloc (.cells #[.int .i64 G.1, .int .i64 G.2.1, .bool G.2.2] 112 (0, 0)) := ⟨_, rfl⟩
          have hby : Below wx.heap.size wx wy := by rw [hwy]; exact (Below.refl _ _).alloc (Nat.le_refl _) _
          have hbky : wy.heap[wx.heap.size]? = some (.cells #[.int .i64 G.1, .int .i64 G.2.1, .bool G.2.2] 112 (0, 0)) := by rw [hwy]; exact heap_alloc_new wx _
          have hbkx : wy.heap[wq.heap.size]? = some (.cells #[.int .i64 p.W, .int .i64 p.H, .string p.C, .int .i64 p.T, .string p.A, .string p.B, .int .i64 v, .int .i64 d] 34 (0, 0)) := (hby.block _ (by omega)).trans hbk
          have x0 : wx.cell? ⟨wq.heap.size, 0, none⟩ = some (.int .i64 p.W) := by simp [World.cell?, hbk]
          have x1 : wx.cell? ⟨wq.heap.size, 1, none⟩ = some (.int .i64 p.H) := by simp [World.cell?, hbk]
          have x2 : wx.cell? ⟨wq.heap.size, 2, none⟩ = some (.string p.C) := by simp [World.cell?, hbk]
          have x3 : wx.cell? ⟨wq.heap.size, 3, none⟩ = some (.int .i64 p.T) := by simp [World.cell?, hbk]
          have x4 : wx.cell? ⟨wq.heap.size, 4, none⟩ = some (.string p.A) := by simp [World.cell?, hbk]
          have x5 : wx.cell? ⟨wq.heap.size, 5, none⟩ = some (.string p.B) := by simp [World.cell?, hbk]
          have y2 : wy.cell? ⟨wq.heap.size + 1, 2, none⟩ = some (.bool G.2.2) := by rw [← hxs]; simp [World.cell?, hbky]
          have z0 : wy.cell? ⟨wq.heap.size, 0, none⟩ = some (.int .i64 p.W) := by simp [World.cell?, hbkx]
          have z1 : wy.cell? ⟨wq.heap.size, 1, none⟩ = some (.int .i64 p.H) := by simp [World.cell?, hbkx]
          have z2 : wy.cell? ⟨wq.heap.size, 2, none⟩ = some (.string p.C) := by simp [World.cell?, hbkx]
          have z3 : wy.cell? ⟨wq.heap.size, 3, none⟩ = some (.int .i64 p.T) := by simp [World.cell?, hbkx]
          have z4 : wy.cell? ⟨wq.heap.size, 4, none⟩ = some (.string p.A) := by simp [World.cell?, hbkx]
          have z5 : wy.cell? ⟨wq.heap.size, 5, none⟩ = some (.string p.B) := by simp [World.cell?, hbkx]
          have z6 : wy.cell? ⟨wq.heap.size, 6, none⟩ = some (.int .i64 v) := by simp [World.cell?, hbkx]
          have z7 : wy.cell? ⟨wq.heap.size, 7, none⟩ = some (.int .i64 d) := by simp [World.cell?, hbkx]
          have hbq := unhide HBQ
          have hbwx : Below w.heap.size w wx := hbq.trans (hbx.mono hbq.size)
          have hbwy : Below w.heap.size w wy := hbwx.trans (hby.mono hbwx.size)
          have htk : ts.take (j + 1) = ts.take j ++ [(p, v, d)] := by rw [List.take_add_one, hx]; rfl
          have hsy := hsx.of_block (hby.block b hsx.lt)
          have HWX := hide hwx
          have HWY := hide hwy
          by_cases hcond : p ∈ dom ∧ fstE (ts.take j) p = none
          · obtain ⟨hin, hno⟩ := hcond
            have hGm : G.2.2 = false := by rw [hG]; unfold gS; rw [if_pos hin, hno]; rfl
            obtain ⟨w2, hrun, hs2, hg2⟩ := hsy.put (by omega) hpok (v, d, true)
            have HS2 : Hid (∃ N, N ≤ 5000 + (j + 1) ∧ sdM w2 b N dom (gS dom (ts.take (j + 1)))) := hide (by
              refine ⟨N + 1, by omega, ?_⟩
              rw [htk, ← gS_put (x := (p, v, d)) hin hno]
              obtain ⟨D, h1, h2⟩ := hs2
              refine ⟨D, h1, fun q hq => ⟨?_, (h2 q hq).2⟩⟩
              rw [(h2 q hq).1]
              refine decide_eq_decide.2 ?_
              rw [List.mem_cons]
              exact ⟨fun h => by rcases h with rfl | h; exact hin; exact h, .inr⟩)
            have HB2 : Hid (Below w.heap.size w w2) := hide (below_row hbwy (by rw [unhide HBD]; exact Nat.le_refl _) hg2)
            rw [decide_eq_true hin] at hlk
            have HGM := hide hGm
            clear hGm hx hlc hpok hwx hwy hbx hby hbk hbkx hbky hs hsx hsy hs2 hg2 hG hbq hbwx hbwy htk hin hno HSD HBQ
            go_upto_region 10 with fail
            rw [← unhide HWX]
            go_upto_region 11 with fail
            rw [← unhide HWY]
            clear HWX HWY
            rw [unhide HGM] at y2
            go_wp2
            go_roundw
            case rel => exact ⟨j + 1, by omega, by go_num, HS2, HB2⟩
            case measure => simp only [intOf]; omega
          · have HS2 : Hid (∃ N, N ≤ 5000 + (j + 1) ∧ sdM wy b N dom (gS dom (ts.take (j + 1)))) := hide ⟨N, by omega, by rw [htk, ← gS_keep (x := (p, v, d)) hcond]; exact hsy⟩
            have HB2 := hide hbwy
            by_cases hin : p ∈ dom
            · have hGm : G.2.2 = true := by
                rw [hG]
                unfold gS
                rw [if_pos hin, clO_made]
                cases hf : fstE (ts.take j) p with
                | some c => rfl
                | none => exact absurd ⟨hin, hf⟩ hcond
              rw [decide_eq_true hin] at hlk
              have HGM := hide hGm
              clear hGm hx hlc hpok hwx hwy hbx hby hbk hbkx hbky hs hsx hsy hG hbq hbwx hbwy htk hin hcond HSD HBQ
              go_upto_region 10 with fail
              rw [← unhide HWX]
              go_upto_region 11 with fail
              rw [← unhide HWY]
              clear HWX HWY
              rw [unhide HGM] at y2
              go_wp2
              go_roundw
              case rel => exact ⟨j + 1, by omega, by go_num, HS2, HB2⟩
              case measure => simp only [intOf]; omega
            · rw [decide_eq_false hin] at hlk
              clear hx hlc hpok hwx hwy hbx hby hbk hbkx hbky hs hsx hsy hG hbq hbwx hbwy htk hin hcond HSD HBQ
              go_upto_region 10 with fail
              rw [← unhide HWX]
              go_upto_region 11 with fail
              rw [← unhide HWY]
              clear HWX HWY
              go_wp2
              go_roundw
              case rel => exact ⟨j + 1, by omega, by go_num, HS2, HB2⟩
              case measure => simp only [intOf]; omega
        · have hjni : ¬ (j : Int) < (nl : Int) := by omega
          have HFIN : Hid (SdI w b aq (gS aq ts) wq) := hide (by
            obtain ⟨N, hN, hs⟩ := unhide HSD
            rw [List.take_of_length_le (by rw [← unhide HNL]; omega), gS_dom (unhide HDM)] at hs
            refine ⟨⟨N, by omega, ?_⟩, unhide HBQ, by rw [unhide HBD]; exact Nat.le_refl _⟩
            obtain ⟨D, h1, h2⟩ := hs
            refine ⟨D, h1, fun q hq => ⟨?_, (h2 q hq).2⟩⟩
            rw [(h2 q hq).1]
            exact decide_eq_decide.2 (unhide HDM q))
          clear HSD HBQ
          go_wp2
          refine bodyPost_ret (v := .map (some b)) (by simp [results, Tryz.results63, go_sem]) rfl ?_
          exact ⟨b, rfl, HFIN⟩
end Go.Proofs.YtbijadnekoeofaaGreatDoor
