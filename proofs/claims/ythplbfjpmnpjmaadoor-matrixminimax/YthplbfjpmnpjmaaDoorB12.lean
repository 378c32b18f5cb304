/-
  parlourbig's numbers as decimal texts: Text, String, walked.
-/
import Derived.Test.YthplbfjpmnpjmaaDoorJ16
import Derived.Test.YthplbfjpmnpjmaaDoorB5
namespace Go.Proofs.YthplbfjpmnpjmaaDoor
open Go.RowKit
attribute [local go_sem ↓] Go.wp_at_zero Go.wp_at_succ

theorem ownY.set {w : World} {base g cap : Nat} {l : List UInt8} (h : ownY w base (.slice (some ⟨g, 0, none⟩) l.length cap) l) (k : Nat) (x : UInt8) : ownY (w.setCell ⟨g, k, none⟩ (.int .u8 (x.toNat : Int))) base (.slice (some ⟨g, 0, none⟩) l.length cap) (l.set k x) := by
  have h1 := (World.ownsRow.stored h k (.int .u8 (x.toNat : Int))).1
  have e : (bvals l).set k (.int .u8 (x.toNat : Int)) = bvals (l.set k x) := by simp [bvals, List.map_set]
  rw [e] at h1
  unfold ownY
  rw [List.length_set]
  exact h1
theorem ownY.held {w : World} {base : Nat} {v : Value} {l : List UInt8} (h : ownY w base v l) (hn : l ≠ []) : ∃ g cap, v = .slice (some ⟨g, 0, none⟩) l.length cap ∧ base ≤ g ∧ g < w.heap.size ∧ l.length ≤ cap := by
  rcases h.2 with ⟨h1, h2⟩ | ⟨g, cap, cur, h1, hb, hg, hnc, -⟩
  · exact absurd (List.length_eq_zero_iff.1 h2) hn
  · exact ⟨g, cap, h1, hb, block_lt hg, by simpa using hnc⟩
theorem ownY.cell {w : World} {base g cap : Nat} {l : List UInt8} (h : ownY w base (.slice (some ⟨g, 0, none⟩) l.length cap) l) {k : Nat} {x : UInt8} (hx : l[k]? = some x) : w.cell? ⟨g, k, none⟩ = some (.int .u8 (x.toNat : Int)) := by
  have hk : k < l.length := (List.getElem?_eq_some_iff.1 hx).1
  rw [World.ownsRow.cellAt h k (by omega)]
  simp [bvals, hx]
theorem ownY.frozen {w : World} {base g cap : Nat} {l : List UInt8} (h : ownY w base (.slice (some ⟨g, 0, none⟩) l.length cap) l) (k : Nat) : w.frozen? ⟨g, k, none⟩ = false := World.ownsRow.frozenAt h k
theorem ownY_nil (w : World) (base : Nat) : ownY w base (.slice none 0 0) [] := World.ownsRow_nil _ _ _ _

theorem ownY.n_is {w : World} {base n g cap : Nat} {l : List UInt8} (h : ownY w base (.slice (some ⟨g, 0, none⟩) n cap) l) : n = l.length := by
  rcases h.2 with ⟨h1, -⟩ | ⟨g', cap', cur, h1, -⟩
  · cases h1
  · cases h1; rfl
theorem ownY.cellN {w : World} {base n g cap : Nat} {l : List UInt8} (h : ownY w base (.slice (some ⟨g, 0, none⟩) n cap) l) {k : Nat} {x : UInt8} (hx : l[k]? = some x) : w.cell? ⟨g, k, none⟩ = some (.int .u8 (x.toNat : Int)) := by
  have e := h.n_is; subst e; exact h.cell hx
theorem ownY.frozenN {w : World} {base n g cap : Nat} {l : List UInt8} (h : ownY w base (.slice (some ⟨g, 0, none⟩) n cap) l) (k : Nat) : w.frozen? ⟨g, k, none⟩ = false := by
  have e := h.n_is; subst e; exact h.frozen k
theorem ownY.setN {w : World} {base n g cap : Nat} {l : List UInt8} (h : ownY w base (.slice (some ⟨g, 0, none⟩) n cap) l) (k : Nat) (x : UInt8) : ownY (w.setCell ⟨g, k, none⟩ (.int .u8 (x.toNat : Int))) base (.slice (some ⟨g, 0, none⟩) n cap) (l.set k x) := by
  have e := h.n_is; subst e; exact h.set k x
/-- Words lie in no row of bytes. -/
theorem isWs.grownY {w w' : World} {ao : Option Addr} {cap : Nat} {l : List Nat} {v : Value} {base : Nat} {D : List UInt8} {u : World} (h : isWs w ao cap l) (hg : w.grownBy w' v.ownBlock) (hD : ownY u base v D) (hn : D = [] → v = .slice none 0 0) (hu : Below u.heap.size u w) : isWs w' ao cap l := by
  refine ⟨h.small, h.le, h.nil, h.len, fun hl => ?_⟩
  obtain ⟨g, e, hgl, hc⟩ := h.cells hl
  have hne : v.ownBlock ≠ some g := by
    intro hv
    have hlt := (World.ownsRow.lt hD g hv).2
    rcases hD.2 with ⟨h1, -⟩ | ⟨g', cap', cur, h1, -, hg', -⟩
    · rw [h1] at hv; cases hv
    · have hDn : D ≠ [] := by
        intro e
        rw [hn e] at h1
        cases h1
      rw [h1] at hv
      have e2 : g' = g := by simpa [Value.ownBlock] using hv
      subst e2
      subst h1
      obtain ⟨x, hx⟩ : ∃ x, l[0]? = some x := ⟨l[0]'(List.length_pos_iff.2 hl), List.getElem?_eq_getElem _⟩
      have h5 := hc 0 x hx
      obtain ⟨y, hy⟩ : ∃ y, D[0]? = some y := ⟨D[0]'(List.length_pos_iff.2 hDn), List.getElem?_eq_getElem _⟩
      have h6 := (hu.cell (p := ⟨g', 0, none⟩) hlt).trans (hD.cellN hy)
      rw [h6] at h5
      cases h5
  have := hg.size
  exact ⟨g, e, by omega, fun j x hx => (World.cell?_of_block (w := w) (hg.block g hgl (fun e => hne e.symm))).trans (hc j x hx)⟩
theorem one_cell_new (w : World) (v : Value) (t : TypeId) : ∀ (j : Nat) (u : Value), [v][j]? = some u → (w.alloc (.cells #[v] t (0, 0))).cell? ((⟨w.heap.size, 0, none⟩ : Addr).add j) = some u := by
  intro m u hm
  match m, hm with
  | 0, hm => simp at hm; subst hm; simp [Addr.add]

structure StrE (s : List UInt8) (w : World) (e : Ending) (w' : World) : Prop where
  is : e = .returned (.string ⟨s.toArray⟩) ∧ Below w.heap.size w w'

/-- Text's first loop: digits so far, what is left. -/
structure TxI (w : World) (N : Nat) (bv av : Value) (wr : World) : Prop where
  is : ∃ (D : List UInt8) (ao : Option Addr) (ca : Nat) (al : List Nat), ownY wr w.heap.size bv D ∧ av = .slice ao al.length ca ∧ isWs wr ao ca al ∧ trimL al = al ∧ al.length ≤ 20000 ∧ dgs N = dgs (val 4294967296 al) ++ D.reverse ∧ (D = [] → bv = .slice none 0 0) ∧ Below w.heap.size w wr

set_option maxHeartbeats 2000000 in
set_option maxRecDepth 100000 in
theorem Text_any (b o n : Nat) (z : Int) (w : World) (h : isI w b o z) (hn : n ≤ 20000) (hz : z.natAbs < 4294967296 ^ n) :
    Calls Tryd.prog 72 #[.pointer (some ⟨b, o, none⟩), .int .i64 10] w (StrE (Lib.itoa z) w) := by
  obtain ⟨xo, xc, xl, x0, x1, xlt, xw, xt, xv⟩ := h.open
  have hxl := isI.len xt xv hz
  clear h
  by_cases hx0 : xl = []
  · subst hx0
    have hz0 : z = 0 := by simp [val] at xv; omega
    subst hz0
    have hi : Lib.itoa 0 = [48] := by unfold Lib.itoa; simp [Lib.decDigits]
    rw [hi]
    clear hi hz xw xv xt
    go_enter Tryd.func72, Tryd.ntmps72
    go_wp2
    go_ret
    exact ⟨rfl, Below.refl _ _⟩
  have hxi : ¬ (xl.length : Int) = 0 := by have := List.length_pos_iff.2 hx0; omega
  obtain ⟨i0, hi, hz0, hz1, hz2⟩ := info_parts Tryd.infoB
  obtain ⟨N, hN⟩ : ∃ N, N = z.natAbs := ⟨_, rfl⟩
  have hN0 : N ≠ 0 := by rw [hN, ← xv]; have := val_pos xt hx0; omega
  have hdl := dgs_words N n (by rw [hN]; exact hz)
  have hita : Lib.itoa z = (if z < 0 then [45] else []) ++ dgs N := by
    unfold Lib.itoa
    rw [dgs_dec N hN0]
    split
    · rw [hN]; rfl
    · have : z.toNat = N := by omega
      rw [this]; rfl
  rw [hita]
  obtain ⟨sg, hsg⟩ : ∃ sg, decide (z < 0) = sg := ⟨_, rfl⟩
  obtain ⟨T, hT⟩ : ∃ T, T = (if z < 0 then [45] else []) ++ dgs N := ⟨_, rfl⟩
  rw [← hT]
  have hT2 : T = (if sg = true then [(45 : UInt8)] else []) ++ dgs N := by rw [hT, ← hsg]; simp
  have HT2 := hide hT2
  rw [hsg] at x0
  rw [← hN] at xv
  have HTW := hide (twin_any xo xc xl w xw)
  have HXT := hide xt
  have HXV := hide xv
  have HN0 := hide hN0
  clear hsg hT hT2 hita hN xw xt xv hx0 hz hN0
  go_enter Tryd.func72, Tryd.ntmps72
  go_wp2_with fail
  refine (unhide HTW).mono ?_
  rintro e w1 ⟨ao, ca, rfl, hw1, hb1⟩
  have HST : Hid (TxI w N (.slice none 0 0) (.slice ao xl.length ca) w1) := ⟨[], ao, ca, xl, ownY_nil _ _, rfl, hw1, unhide HXT, by omega, by rw [unhide HXV]; simp, fun _ => rfl, hb1⟩
  clear HTW HXT HXV hw1 hb1
  go_wp2
  go_loopw [5, 6] (fun bv av wr => TxI w N bv av wr) (fun _ av wr => rdW wr av)
  case atStart => exact unhide HST
  case round =>
    clear HST
    obtain ⟨D, ao, ca, al, how, rfl, haw, hat, hal, hdg, hDn, hbr⟩ := hrel
    by_cases ha0 : al = []
    · subst ha0
      have hD : dgs N = D.reverse := by rw [hdg]; simp [val, dgs_zero]
      have hDne : D ≠ [] := by
        rintro rfl
        rw [dgs_pos N (unhide HN0)] at hD
        simp at hD
      have hDl : D.length ≤ 10 * n := by
        have := congrArg List.length hD
        simp at this; omega
      have cs := (hbr.cell (p := ⟨b, o, none⟩) xlt).trans x0
      have hszr := hbr.size
      cases sg with
      | false =>
        obtain ⟨L, hL⟩ : ∃ L, L = D := ⟨_, rfl⟩
        rw [← hL] at how hDne hDl
        have hLl : L.length ≤ 200000 := by omega
        have HT3 : Hid (T = L.reverse) := by show _ = _; rw [unhide HT2, hL, hD]; rfl
        have HOW := hide how
        have HLN := hide hDne
        have HBL := hide hbr
        clear how hDne hbr hD hL hDl haw hat hdg HT2 hDn
        obtain ⟨g, cap, rfl, hgb, hgl, hcap⟩ := (unhide HOW).held (unhide HLN)
        obtain ⟨nL, hnL⟩ : ∃ nL, nL = L.length := ⟨_, rfl⟩
        rw [← hnL] at HOW hcap hLl ⊢
        have HNL := hide hnL
        clear hnL
        have hnL0 : 0 < nL := by rw [unhide HNL]; exact List.length_pos_iff.2 (unhide HLN)
        go_wp2
        go_loopw [8, 9] (fun iv jv wq => ∃ (i : Nat) (R : List UInt8), iv = .int .i64 (i : Int) ∧ jv = .int .i64 ((nL : Int) - 1 - (i : Int)) ∧ i ≤ nL ∧ Rv L R i ∧ ownY wq w.heap.size (.slice (some ⟨g, 0, none⟩) nL cap) R ∧ Below w.heap.size w wq) (fun iv _ _ => nL - (intOf iv).toNat)
        case atStart => exact ⟨0, L, rfl, by go_num, Nat.zero_le _, Rv.start L, unhide HOW, unhide HBL⟩
        case round =>
          obtain ⟨i, R, rfl, rfl, hil, hrv, how, hbq⟩ := hrel
          clear HOW HBL
          by_cases hij : i + i + 1 < nL
          · obtain ⟨j, hj⟩ : ∃ j, j = nL - 1 - i := ⟨_, rfl⟩
            have hji : (nL : Int) - 1 - (i : Int) = (j : Int) := by omega
            rw [hji]
            have hRl : R.length = nL := by rw [hrv.len, unhide HNL]
            obtain ⟨x, hx⟩ : ∃ x, R[i]? = some x := ⟨R[i]'(by omega), List.getElem?_eq_getElem _⟩
            obtain ⟨y, hy⟩ : ∃ y, R[j]? = some y := ⟨R[j]'(by omega), List.getElem?_eq_getElem _⟩
            have cx := how.cellN hx
            have cy := how.cellN hy
            have zx := how.frozenN i
            have how1 := how.setN i y
            have cy1 : (wr.setCell ⟨g, i, none⟩ (.int .u8 (y.toNat : Int))).cell? ⟨g, j, none⟩ = some (.int .u8 (y.toNat : Int)) := (cell_set_ne (by omega)).trans cy
            have zj := how.frozenN j
            have how2 := how1.setN j x
            have hst := hrv.step (by rw [← unhide HNL]; exact hij) hx (by rw [← unhide HNL, ← hj]; exact hy)
            rw [← unhide HNL, ← hj] at hst
            have HH : Hid (Rv L ((R.set i y).set j x) (i + 1) ∧ ownY ((wr.setCell ⟨g, i, none⟩ (.int .u8 (y.toNat : Int))).setCell ⟨g, j, none⟩ (.int .u8 (x.toNat : Int))) w.heap.size (.slice (some ⟨g, 0, none⟩) nL cap) ((R.set i y).set j x) ∧ Below w.heap.size w ((wr.setCell ⟨g, i, none⟩ (.int .u8 (y.toNat : Int))).setCell ⟨g, j, none⟩ (.int .u8 (x.toNat : Int)))) := ⟨hst, how2, (hbq.setCell (p := ⟨g, i, none⟩) hgb _).setCell (p := ⟨g, j, none⟩) hgb _⟩
            have h1 : (i : Int) < (j : Int) := by omega
            have h2 : (j : Int) < (nL : Int) := by omega
            have h3 : (i : Int) < (nL : Int) := by omega
            have hj1 : (nL : Int) - 1 - ((i + 1 : Nat) : Int) = (j : Int) - 1 := by omega
            have HJ1 := hide hj1
            clear hst how1 how2 how hrv hx hy hj hji hj1 hbq
            go_wp2
            go_roundw
            case rel => exact ⟨i + 1, _, by go_num, by rw [unhide HJ1], by omega, (unhide HH).1, (unhide HH).2.1, (unhide HH).2.2⟩
            case measure => simp [intOf]; omega
          · have hRv := hrv.fin (by rw [← unhide HNL]; omega)
            subst hRv
            have h1 : ¬ (i : Int) < (nL : Int) - 1 - (i : Int) := by omega
            have hcv := how.conv (by simpa using unhide HLN)
            clear hrv
            go_wp2
            go_ret
            rw [unhide HT3]
            exact ⟨rfl, hbq⟩
      | true =>
        obtain ⟨uo, uc, rfl⟩ := how.slice
        have HOW := hide how
        have HT3' : Hid (T = (D ++ [45]).reverse) := by show _ = _; rw [unhide HT2, hD]; simp
        clear how hD haw hat hdg HT2 hDn
        go_wp2_with (at_builtin; refine wpList_append_own _ rfl _ _ 115 rfl w.heap.size 5 i0 _ 1 1 Tryd.underlying115 hi hz0 hz1 hz2 rfl (by decide) _ D.length (bvals D) rfl ((unhide HOW).alloc _) ⟨wr.heap.size, 0, none⟩ 1 1 [.int .u8 45] rfl rfl (one_cell_new _ _ _) ?c3 ?c4 ?c5 ?c6 ?_)
        case c3 => intro u hu; simp only [List.mem_singleton] at hu; subst hu; rfl
        case c4 => unfold maxLen; omega
        case c5 => omega
        case c6 => simp; omega
        intro v5 w5 hown5 hg5 _
        obtain ⟨L, hL⟩ : ∃ L, L = D ++ [45] := ⟨_, rfl⟩
        have HOW2 : Hid (ownY w5 w.heap.size v5 L) := by
          show w5.ownsRow _ _ _ _ _ _
          rw [hL, bvals_snoc, List.length_append]
          exact hown5
        have HBL : Hid (Below w.heap.size w w5) := hide ((hbr.alloc hszr _).grown hg5 (by simp; omega) (fun k hk => (World.ownsRow.lt (unhide HOW) k hk).1))
        have hLl : L.length ≤ 200001 := by rw [hL]; simp; omega
        have HT3 : Hid (T = L.reverse) := by rw [hL]; exact HT3'
        have HLN : Hid (L ≠ []) := by show _ ≠ _; rw [hL]; simp
        clear hown5 hg5 hL HT3' HOW hbr hDl hDne
        have HOW := HOW2
        clear HOW2
        obtain ⟨g, cap, rfl, hgb, hgl, hcap⟩ := (unhide HOW).held (unhide HLN)
        obtain ⟨nL, hnL⟩ : ∃ nL, nL = L.length := ⟨_, rfl⟩
        rw [← hnL] at HOW hcap hLl ⊢
        have HNL := hide hnL
        clear hnL
        have hnL0 : 0 < nL := by rw [unhide HNL]; exact List.length_pos_iff.2 (unhide HLN)
        go_wp2
        go_loopw [8, 9] (fun iv jv wq => ∃ (i : Nat) (R : List UInt8), iv = .int .i64 (i : Int) ∧ jv = .int .i64 ((nL : Int) - 1 - (i : Int)) ∧ i ≤ nL ∧ Rv L R i ∧ ownY wq w.heap.size (.slice (some ⟨g, 0, none⟩) nL cap) R ∧ Below w.heap.size w wq) (fun iv _ _ => nL - (intOf iv).toNat)
        case atStart => exact ⟨0, L, rfl, by go_num, Nat.zero_le _, Rv.start L, unhide HOW, unhide HBL⟩
        case round =>
          obtain ⟨i, R, rfl, rfl, hil, hrv, how, hbq⟩ := hrel
          clear HOW HBL
          by_cases hij : i + i + 1 < nL
          · obtain ⟨j, hj⟩ : ∃ j, j = nL - 1 - i := ⟨_, rfl⟩
            have hji : (nL : Int) - 1 - (i : Int) = (j : Int) := by omega
            rw [hji]
            have hRl : R.length = nL := by rw [hrv.len, unhide HNL]
            obtain ⟨x, hx⟩ : ∃ x, R[i]? = some x := ⟨R[i]'(by omega), List.getElem?_eq_getElem _⟩
            obtain ⟨y, hy⟩ : ∃ y, R[j]? = some y := ⟨R[j]'(by omega), List.getElem?_eq_getElem _⟩
            have cx := how.cellN hx
            have cy := how.cellN hy
            have zx := how.frozenN i
            have how1 := how.setN i y
            have cy1 : (wr.setCell ⟨g, i, none⟩ (.int .u8 (y.toNat : Int))).cell? ⟨g, j, none⟩ = some (.int .u8 (y.toNat : Int)) := (cell_set_ne (by omega)).trans cy
            have zj := how.frozenN j
            have how2 := how1.setN j x
            have hst := hrv.step (by rw [← unhide HNL]; exact hij) hx (by rw [← unhide HNL, ← hj]; exact hy)
            rw [← unhide HNL, ← hj] at hst
            have HH : Hid (Rv L ((R.set i y).set j x) (i + 1) ∧ ownY ((wr.setCell ⟨g, i, none⟩ (.int .u8 (y.toNat : Int))).setCell ⟨g, j, none⟩ (.int .u8 (x.toNat : Int))) w.heap.size (.slice (some ⟨g, 0, none⟩) nL cap) ((R.set i y).set j x) ∧ Below w.heap.size w ((wr.setCell ⟨g, i, none⟩ (.int .u8 (y.toNat : Int))).setCell ⟨g, j, none⟩ (.int .u8 (x.toNat : Int)))) := ⟨hst, how2, (hbq.setCell (p := ⟨g, i, none⟩) hgb _).setCell (p := ⟨g, j, none⟩) hgb _⟩
            have h1 : (i : Int) < (j : Int) := by omega
            have h2 : (j : Int) < (nL : Int) := by omega
            have h3 : (i : Int) < (nL : Int) := by omega
            have hj1 : (nL : Int) - 1 - ((i + 1 : Nat) : Int) = (j : Int) - 1 := by omega
            have HJ1 := hide hj1
            clear hst how1 how2 how hrv hx hy hj hji hj1 hbq
            go_wp2
            go_roundw
            case rel => exact ⟨i + 1, _, by go_num, by rw [unhide HJ1], by omega, (unhide HH).1, (unhide HH).2.1, (unhide HH).2.2⟩
            case measure => simp [intOf]; omega
          · have hRv := hrv.fin (by rw [← unhide HNL]; omega)
            subst hRv
            have h1 : ¬ (i : Int) < (nL : Int) - 1 - (i : Int) := by omega
            have hcv := how.conv (by simpa using unhide HLN)
            clear hrv
            go_wp2
            go_ret
            rw [unhide HT3]
            exact ⟨rfl, hbq⟩
    · have hai : 0 < (al.length : Int) := by have := List.length_pos_iff.2 ha0; omega
      have hA0 : val 4294967296 al ≠ 0 := by have := val_pos hat ha0; omega
      have hsm := small_any ao ca 10 al wr haw (by omega) (by omega) (by omega)
      have HSM := hide hsm
      have hst := dgs_step N _ D hA0 hdg
      have hDl : D.length ≤ 10 * n := by
        have := congrArg List.length hdg
        simp at this; omega
      obtain ⟨uo, uc, rfl⟩ := how.slice
      have HOW := hide how
      have HDNIL := hide hDn
      have HST := hide hst
      have HA0 := hide hA0
      have HAW := hide haw
      clear hsm hst hdg hA0 how haw hat ha0 hDn
      go_wp2_with fail
      refine (unhide HSM).mono ?_
      rintro e w2 ⟨qo, qc, ql, r, rfl, hq, hqv, hr, hb2⟩
      have hqv' : val 4294967296 ql = val 4294967296 al / 10 := by omega
      have hrv : r = val 4294967296 al % 10 := by omega
      have hms : rdW w2 (.slice qo (trimL ql).length qc) < rdW wr (.slice ao al.length ca) := by
        rw [rdW_is hq, rdW_is (unhide HAW), trimL_val, hqv']
        have := unhide HA0
        omega
      have hql : (trimL ql).length ≤ al.length := len_of_le (trimL_idem ql) (unhide HAW).small (by rw [trimL_val, hqv']; omega)
      have HMS := hide hms
      have hri : (r : Int) < 10 := by omega
      obtain ⟨cc, hcc⟩ : ∃ cc : Nat, cc = 48 + r := ⟨_, rfl⟩
      have hci : 48 + (r : Int) = (cc : Int) := by omega
      have hcm : (cc : Int) % 256 = (cc : Int) := by omega
      have hcb : (cc : Int) < 4294967296 := by omega
      have hcu : (UInt8.ofNat cc).toNat = cc := Nat.mod_eq_of_lt (by omega)
      have how2 := (unhide HOW).below hb2 (Nat.le_refl _)
      have HOW2 := hide how2
      have hsz : w.heap.size ≤ w2.heap.size := Nat.le_trans hbr.size hb2.size
      have HNX : Hid (∀ bv wx, ownY wx w.heap.size bv (D ++ [UInt8.ofNat cc]) → Below w2.heap.size w2 wx → False → True) := fun _ _ _ _ _ => trivial
      have hDN := unhide HST
      rw [← hqv', ← hrv, ← hcc, ← trimL_val 4294967296 ql] at hDN
      have HDN := hide hDN
      have HCC := hide hcc
      clear hms hqv hqv' hrv hDN hr how2 HNX HSM HST HA0 HAW hcc
      go_wp2_with (at_builtin; refine wpList_append_own _ rfl _ _ 115 rfl w.heap.size 5 i0 _ 1 1 Tryd.underlying115 hi hz0 hz1 hz2 rfl (by decide) _ D.length (bvals D) rfl ((unhide HOW2).alloc _) ⟨w2.heap.size, 0, none⟩ 1 1 [.int .u8 (cc : Int)] rfl rfl (one_cell_new _ _ _) ?c3 ?c4 ?c5 ?c6 ?_)
      case c3 => intro u hu; simp only [List.mem_singleton] at hu; subst hu; rfl
      case c4 => unfold maxLen; omega
      case c5 => omega
      case c6 => simp; omega
      intro v5 w5 hown5 hg5 _
      have hb5 : Below w2.heap.size w2 (w2.alloc (.cells #[.int .u8 (cc : Int)] 5 (0, 0))) := (Below.refl _ _).alloc (Nat.le_refl _) _
      have hbw : Below w.heap.size w w5 := ((hbr.trans (hb2.mono hbr.size)).alloc hsz _).grown hg5 (by simp; omega) (fun k hk => (World.ownsRow.lt (unhide HOW2) k hk).1)
      have hq5 : isWs w5 qo qc (trimL ql) := (hq.below hb5 (Nat.le_refl _)).grownY hg5 (unhide HOW2) (unhide HDNIL) hb5
      have HR : Hid (TxI w N v5 (.slice qo (trimL ql).length qc) w5) := by
        refine ⟨D ++ [UInt8.ofNat cc], qo, qc, trimL ql, ?_, rfl, hq5, trimL_idem _, by omega, unhide HDN, (fun e => by simp at e), hbw⟩
        show w5.ownsRow _ _ _ _ _ _
        rw [bvals_snoc, hcu, List.length_append]
        exact hown5
      have HM5 : Hid (rdW w5 (.slice qo (trimL ql).length qc) < rdW wr (.slice ao al.length ca)) := by
        show _ < _
        rw [rdW_is hq5, ← rdW_is hq]
        exact unhide HMS
      clear hown5 hg5 hb5 hbw hq5 hq HMS HDN
      go_wp2
      go_roundw
      case rel => exact unhide HR
      case measure => exact unhide HM5
end Go.Proofs.YthplbfjpmnpjmaaDoor
