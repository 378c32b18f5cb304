/-
  parlourbig's fractions: what one is in memory, norm.
-/
import Derived.Test.YthplbfjpmnpjmaaDoorB4
namespace Go.Proofs.YthplbfjpmnpjmaaDoor
open Go.RowKit
attribute [local go_sem ↓] Go.wp_at_zero Go.wp_at_succ

/-- In block b lies the fraction q, in lowest terms. -/
structure isR (w : World) (b : Nat) (q : Rat) : Prop where
  num : isI w b 0 q.num
  den : isI w b 2 (q.den : Int) ∨ (isI w b 2 0 ∧ q = 0)
theorem isR.lt {w : World} {b : Nat} {q : Rat} (h : isR w b q) : b < w.heap.size := h.num.lt
theorem isR.nb {w : World} {b : Nat} {q : Rat} (h : isR w b q) : isNB w b := h.num.1
theorem isR.below {w w' : World} {b S : Nat} {q : Rat} (h : isR w b q) (k : Below S w w') (hS : w.heap.size ≤ S) : isR w' b q :=
  ⟨h.num.below k hS, h.den.elim (fun d => .inl (d.below k hS)) (fun d => .inr ⟨d.1.below k hS, d.2⟩)⟩
theorem isR.but {w w' : World} {c b S : Nat} {q : Rat} (h : isR w c q) (hb : isNB w b) (k : But S b w w') (hS : w.heap.size ≤ S) (hn : c ≠ b) : isR w' c q :=
  ⟨h.num.but hb k hS hn, h.den.elim (fun d => .inl (d.but hb k hS hn)) (fun d => .inr ⟨d.1.but hb k hS hn, d.2⟩)⟩
theorem isI.keep {w w' : World} {b o p : Nat} {z : Int} (h : isI w b o z) (hz : z = 0) (k : Put w.heap.size b p w w') (h1 : o ≠ p) (h2 : o ≠ p + 1) (h3 : o + 1 ≠ p) : isI w' b o z := by
  obtain ⟨hn, ao, cap, l, c0, c1, hw, ht, hv⟩ := h
  exact ⟨k.nb, ao, cap, l, (k.cell o h1 h2).trans c0, (k.cell (o + 1) h3 (by omega)).trans c1, hw.butNB hn k.but (Nat.le_refl _), ht, hv⟩

structure TwoE (w w' : World) (b : Nat) (s t : Bool) (po qo : Option Addr) (pc qc : Nat) (pl ql : List Nat) : Prop where
  nb : isNB w' b
  c0 : w'.cell? ⟨b, 0, none⟩ = some (.bool s)
  c1 : w'.cell? ⟨b, 1, none⟩ = some (.slice po pl.length pc)
  c2 : w'.cell? ⟨b, 2, none⟩ = some (.bool t)
  c3 : w'.cell? ⟨b, 3, none⟩ = some (.slice qo ql.length qc)
  p : isWs w' po pc pl
  q : isWs w' qo qc ql
  but : But w.heap.size b w w'
theorem two_put {w : World} {b : Nat} {s t : Bool} {v1 v3 : Value} {po qo : Option Addr} {pc qc : Nat} {pl ql : List Nat} (nb : isNB w b) (c0 : w.cell? ⟨b, 0, none⟩ = some (.bool s)) (c1 : w.cell? ⟨b, 1, none⟩ = some v1) (c2 : w.cell? ⟨b, 2, none⟩ = some (.bool t)) (c3 : w.cell? ⟨b, 3, none⟩ = some v3) (hp : isWs w po pc pl) (hq : isWs w qo qc ql) :
    TwoE w ((w.setCell ⟨b, 1, none⟩ (.slice po pl.length pc)).setCell ⟨b, 3, none⟩ (.slice qo ql.length qc)) b s t po qo pc qc pl ql := by
  have k : But w.heap.size b w ((w.setCell ⟨b, 1, none⟩ (.slice po pl.length pc)).setCell ⟨b, 3, none⟩ (.slice qo ql.length qc)) := ((But.of_below (Below.refl _ w)).set 1 _).set 3 _
  refine ⟨(nb.set (fun e => absurd e (by omega))).set (fun e => absurd e (by omega)), ?_, ?_, ?_, ?_, hp.butNB nb k (Nat.le_refl _), hq.butNB nb k (Nat.le_refl _), k⟩
  · rw [cell_set_ne (by omega), cell_set_ne (by omega)]; exact c0
  · rw [cell_set_ne (by omega)]; exact World.cell?_setCell_same _ _ _ c1
  · rw [cell_set_ne (by omega), cell_set_ne (by omega)]; exact c2
  · exact World.cell?_setCell_same _ _ _ ((cell_set_ne (by omega)).trans c3)

structure NoE (b : Nat) (q : Rat) (w : World) (e : Ending) (w' : World) : Prop where
  ret : e = .returned (.pointer (some ⟨b, 0, none⟩))
  is : isR w' b q
  but : But w.heap.size b w w'

theorem val_pos {l : List Nat} (ht : trimL l = l) (h : l ≠ []) : 0 < val 4294967296 l := by
  have := trim_low l ht 0 (List.length_pos_iff.2 h)
  simp at this; omega
theorem one_word {l : List Nat} (ht : trimL l = l) (h : val 4294967296 l = 1) : l = [1] := by
  match l, ht, h with
  | [], _, h => simp [val] at h
  | [x], _, h => simp [val] at h; rw [h]
  | x :: y :: l, ht, h =>
    have := trim_low (x :: y :: l) ht 1 (by simp)
    simp at this; omega

set_option maxHeartbeats 2000000 in
set_option maxRecDepth 100000 in
theorem norm_any (b d n : Nat) (x : Int) (w : World) (hx : isI w b 0 x) (hd : isI w b 2 (d : Int)) (hd0 : 0 < d) (hn : n ≤ 20000) (hX : x.natAbs < 4294967296 ^ n) (hD : d < 4294967296 ^ n) :
    Calls Tryd.prog 52 #[.pointer (some ⟨b, 0, none⟩)] w (NoE b (mkRat x d) w) := by
  have hX0 := hx
  have hD0 := hd
  obtain ⟨xo, xc, xl, x0, x1, xlt, xw, xt, xv⟩ := hx.open
  obtain ⟨yo, yc, yl, y0, y1, _, yw, yt, yv⟩ := hd.open
  have hxl := isI.len xt xv hX
  have hyl := isI.len yt yv (by simpa using hD)
  replace yv : val 4294967296 yl = d := by simpa using yv
  have y00 : w.cell? ⟨b, 2, none⟩ = some (.bool false) := by rw [y0]; simp
  replace x1 : w.cell? ⟨b, 1, none⟩ = some (.slice xo xl.length xc) := x1
  replace y1 : w.cell? ⟨b, 3, none⟩ = some (.slice yo yl.length yc) := y1
  have hyne : yl ≠ [] := by rintro rfl; simp [val] at yv; omega
  have hyi : ¬ (yl.length : Int) = 0 := by have := List.length_pos_iff.2 hyne; omega
  have hdne : d ≠ 0 := by omega
  clear y0
  by_cases hx0 : x = 0
  · subst hx0
    have hxe : xl = [] := by
      rcases List.eq_nil_or_concat xl with h | ⟨_, _, h⟩
      · exact h
      · have := val_pos xt (by rw [h]; simp)
        rw [xv] at this
        simp at this
    subst hxe
    have HS := hide (SetInt64_z b 2 1 w hd.to_ (by omega) (by omega))
    have HX0 := hide hX0
    have hq : mkRat 0 d = 0 := Rat.zero_mkRat d
    rw [hq]
    clear hx hd hX hD xw yw xv yv xt yt hyne hX0 hD0 hdne hxl hyl hq
    go_enter Tryd.func52, Tryd.ntmps52
    go_wp2_with fail
    refine (unhide HS).mono ?_
    rintro e w1 ⟨rfl, hi, hp⟩
    go_wp2
    go_ret
    exact ⟨rfl, ⟨(unhide HX0).keep rfl hp (by omega) (by omega) (by omega), .inl hi⟩, hp.but⟩
  have hxne : xl ≠ [] := by rintro rfl; simp [val] at xv; omega
  have hxi : ¬ (xl.length : Int) = 0 := by have := List.length_pos_iff.2 hxne; omega
  by_cases hy1 : yl = [1]
  · subst hy1
    have hd1 : d = 1 := by rw [← yv]; simp [val]
    subst hd1
    have hq : mkRat x 1 = ((x : Int) : Rat) := Rat.mkRat_one x
    have HX0 := hide hX0
    have HD0 := hide hD0
    rw [hq]
    obtain ⟨g, rfl, hg, hc⟩ := yw.cells (by simp)
    have cg := hc 0 1 rfl
    have hcap := yw.le
    have hc1 : (1 : Int) ≤ (yc : Int) := by simp at hcap; omega
    clear hx hd hX hD xw yw xv yv xt yt hyne hX0 hD0 hdne hxl hyl hq hc hcap
    go_enter Tryd.func52, Tryd.ntmps52
    go_wp2
    go_ret
    exact ⟨rfl, ⟨unhide HX0, .inl (unhide HD0)⟩, But.of_below (Below.refl _ _)⟩
  have HCM := hide (common_any xo yo xc yc xl yl w.drew xw.drew yw.drew xt yt (by omega) (by omega))
  rw [xv, yv] at HCM
  obtain ⟨G, hG⟩ : ∃ G, G = Nat.gcd x.natAbs d := ⟨_, rfl⟩
  rw [← hG] at HCM
  have HG := hide hG
  have hG0 : 0 < G := by rw [hG]; exact Nat.gcd_pos_of_pos_right _ hd0
  have HR1 : Hid (G = 1 → isR w b (mkRat x d)) := by
    intro h
    have e1 : (mkRat x d).num = x := by rw [mk_num x d hdne, ← hG, h]; simp
    have e2 : (mkRat x d).den = d := by rw [mk_den x d hdne, ← hG, h]; simp
    exact ⟨by rw [e1]; exact hX0, .inl (by rw [e2]; exact hD0)⟩
  have HNB := hide hx.1
  have HX0 := hide hX0
  have HXT := hide xt
  have HYT := hide yt
  have HXV := hide xv
  have HYV := hide yv
  have HXW := hide xw
  have HYW := hide yw
  by_cases hy2 : yl.length = 1
  · obtain ⟨y, rfl⟩ := List.length_eq_one_iff.1 hy2
    have hyn : ¬ (y : Int) = 1 := by
      intro h
      have h1 : y = 1 := by omega
      exact hy1 (by rw [h1])
    obtain ⟨g, rfl, hg, hc⟩ := yw.cells (by simp)
    have cg := hc 0 y rfl
    have hcap := yw.le
    have hc1 : (1 : Int) ≤ (yc : Int) := by simp at hcap; omega
    clear hx hd hX hD xw yw xv yv xt yt hyne hX0 hD0 hdne hc hcap hG hy1 hy2 hyi
    obtain ⟨sx, hsx⟩ : ∃ sx, decide (x < 0) = sx := ⟨_, rfl⟩
    have HSX := hide hsx
    rw [hsx] at x0
    clear hsx
    go_enter Tryd.func52, Tryd.ntmps52
    go_wp2
    go_region_held3 (fun w' => w'.cell? ⟨b, 1, none⟩ = w.cell? ⟨b, 1, none⟩ ∧ w'.cell? ⟨b, 3, none⟩ = w.cell? ⟨b, 3, none⟩)
      (first
        | (go_keep; done)
        | (exact ⟨k1.trans x1.symm, k3.trans y1.symm⟩))
      (first | (go_at_call 76; refine (unhide HCM).mono ?_; rintro e wt ⟨ga0, gc, gl, rfl, hgw, hgt, hgv, hbt⟩; have k1 := (hbt.cell (p := ⟨b, 1, none⟩) xlt).trans x1; have k3 := (hbt.cell (p := ⟨b, 3, none⟩) xlt).trans y1))
    all_goals (
      have hbw : Below w.heap.size w wt := ⟨hbt.os, hbt.tape, hbt.output, hbt.size, hbt.block⟩
      clear HCM
      have hwt : w.heap.size ≤ wt.heap.size := hbw.size
      by_cases hg1 : gl = [1]
      · have hG1 : G = 1 := by rw [← hgv, hg1]; simp [val]
        have HR := hide ((unhide HR1 hG1).below hbw (Nat.le_refl _))
        subst hg1
        obtain ⟨gg, rfl, hgg, hgc⟩ := hgw.cells (by simp)
        have cgg := hgc 0 1 rfl
        have hcap2 := hgw.le
        have hc2 : (1 : Int) ≤ (gc : Int) := by simp at hcap2; omega
        clear hgc hcap2 hG1 hgv hgt hgw
        go_wp2
        go_ret
        exact ⟨rfl, unhide HR, But.of_below hbw⟩
      · have hglne : gl ≠ [] := by rintro rfl; simp [val] at hgv; omega
        have HD1 := hide (div_any xo ga0 xc gc xl gl wt ((unhide HXW).below hbw (Nat.le_refl _)) hgw (unhide HXT) hgt hglne (by omega))
        have HD2 := hide (fun u (hu : Below wt.heap.size wt u) => div_any (some ⟨g, 0, none⟩) ga0 yc gc [y] gl u (((unhide HYW).below hbw (Nat.le_refl _)).below hu (Nat.le_refl _)) (hgw.below hu (Nat.le_refl _)) (unhide HYT) hgt hglne (by omega))
        rw [hgv, unhide HXV] at HD1
        rw [hgv, unhide HYV] at HD2
        by_cases hg2 : gl.length = 1
        · obtain ⟨gy, rfl⟩ := List.length_eq_one_iff.1 hg2
          have hgyn : ¬ (gy : Int) = 1 := by
            intro h
            have h1 : gy = 1 := by omega
            exact hg1 (by rw [h1])
          obtain ⟨gg, rfl, hgg, hgc⟩ := hgw.cells (by simp)
          have cgg := hgc 0 gy rfl
          have hcap2 := hgw.le
          have hc2 : (1 : Int) ≤ (gc : Int) := by simp at hcap2; omega
          clear hgc hcap2 hgv hgt hgw hg1 hg2 hglne
          go_wp2_with fail
          refine (unhide HD1).mono ?_
          rintro e w2 ⟨po, pc, pl, ro1, rc1, rl1, rfl, hp1, hr1, hpv, hrv1, hb2⟩
          have m3 := (hb2.cell (p := ⟨b, 3, none⟩) (by dsimp only; omega)).trans k3
          clear hr1 hrv1 HD1
          go_wp2_with fail
          refine (unhide HD2 w2 hb2).mono ?_
          rintro e w3 ⟨qo, qc, ql, ro2, rc2, rl2, rfl, hq1, hr2, hqv, hrv2, hb3⟩
          clear hr2 hrv2 HD2
          have hb4 : Below w.heap.size w w3 := (hbw.trans (hb2.mono hwt)).trans (hb3.mono (Nat.le_trans hwt hb2.size))
          have hn3 := (unhide HNB).below hb4 (Nat.le_refl _)
          have q0 := (hb4.cell (p := ⟨b, 0, none⟩) xlt).trans x0
          have q1 := (hb4.cell (p := ⟨b, 1, none⟩) xlt).trans x1
          have q2 := (hb4.cell (p := ⟨b, 2, none⟩) xlt).trans y00
          have q3 := (hb4.cell (p := ⟨b, 3, none⟩) xlt).trans y1
          have z1 := hn3.frozen 1
          have z3 := hn3.frozen 3
          have HE := hide (two_put hn3 q0 q1 q2 q3 (hp1.below hb3 (Nat.le_refl _)) hq1)
          have HPV := hide hpv
          have HQV := hide hqv
          have HB4 := hide hb4
          clear hpv hqv hb4 hp1 hq1 hn3 k1 k3
          go_wp2
          go_ret
          have E := unhide HE
          have e1 := mk_num_abs x d (by omega)
          have e2 := mk_den x d (by omega)
          rw [← unhide HG] at e1 e2
          refine ⟨rfl, ⟨⟨E.nb, po, pc, trimL pl, ?_, E.c1, E.p, trimL_idem _, by rw [trimL_val, unhide HPV, e1]⟩, .inl ⟨E.nb, qo, qc, trimL ql, ?_, E.c3, E.q, trimL_idem _, by rw [trimL_val, unhide HQV, Int.natAbs_natCast, e2]⟩⟩, (But.of_below (unhide HB4)).trans (E.but.mono (unhide HB4).size)⟩
          · rw [mk_num_neg x d (by omega), unhide HSX]; exact E.c0
          · rw [E.c2]; simp
        · have hg2i : ¬ (gl.length : Int) = 1 := by omega
          clear hgv hgt hgw hg1 hg2 hglne
          go_wp2_with fail
          refine (unhide HD1).mono ?_
          rintro e w2 ⟨po, pc, pl, ro1, rc1, rl1, rfl, hp1, hr1, hpv, hrv1, hb2⟩
          have m3 := (hb2.cell (p := ⟨b, 3, none⟩) (by dsimp only; omega)).trans k3
          clear hr1 hrv1 HD1
          go_wp2_with fail
          refine (unhide HD2 w2 hb2).mono ?_
          rintro e w3 ⟨qo, qc, ql, ro2, rc2, rl2, rfl, hq1, hr2, hqv, hrv2, hb3⟩
          clear hr2 hrv2 HD2
          have hb4 : Below w.heap.size w w3 := (hbw.trans (hb2.mono hwt)).trans (hb3.mono (Nat.le_trans hwt hb2.size))
          have hn3 := (unhide HNB).below hb4 (Nat.le_refl _)
          have q0 := (hb4.cell (p := ⟨b, 0, none⟩) xlt).trans x0
          have q1 := (hb4.cell (p := ⟨b, 1, none⟩) xlt).trans x1
          have q2 := (hb4.cell (p := ⟨b, 2, none⟩) xlt).trans y00
          have q3 := (hb4.cell (p := ⟨b, 3, none⟩) xlt).trans y1
          have z1 := hn3.frozen 1
          have z3 := hn3.frozen 3
          have HE := hide (two_put hn3 q0 q1 q2 q3 (hp1.below hb3 (Nat.le_refl _)) hq1)
          have HPV := hide hpv
          have HQV := hide hqv
          have HB4 := hide hb4
          clear hpv hqv hb4 hp1 hq1 hn3 k1 k3
          go_wp2
          go_ret
          have E := unhide HE
          have e1 := mk_num_abs x d (by omega)
          have e2 := mk_den x d (by omega)
          rw [← unhide HG] at e1 e2
          refine ⟨rfl, ⟨⟨E.nb, po, pc, trimL pl, ?_, E.c1, E.p, trimL_idem _, by rw [trimL_val, unhide HPV, e1]⟩, .inl ⟨E.nb, qo, qc, trimL ql, ?_, E.c3, E.q, trimL_idem _, by rw [trimL_val, unhide HQV, Int.natAbs_natCast, e2]⟩⟩, (But.of_below (unhide HB4)).trans (E.but.mono (unhide HB4).size)⟩
          · rw [mk_num_neg x d (by omega), unhide HSX]; exact E.c0
          · rw [E.c2]; simp
      )
  · have hy2i : ¬ (yl.length : Int) = 1 := by omega
    clear hx hd hX hD xw yw xv yv xt yt hyne hX0 hD0 hdne hG hy1 hy2
    obtain ⟨sx, hsx⟩ : ∃ sx, decide (x < 0) = sx := ⟨_, rfl⟩
    have HSX := hide hsx
    rw [hsx] at x0
    clear hsx
    go_enter Tryd.func52, Tryd.ntmps52
    go_wp2
    go_region_held3 (fun w' => w'.cell? ⟨b, 1, none⟩ = w.cell? ⟨b, 1, none⟩ ∧ w'.cell? ⟨b, 3, none⟩ = w.cell? ⟨b, 3, none⟩)
      (first
        | (go_keep; done)
        | (exact ⟨k1.trans x1.symm, k3.trans y1.symm⟩))
      (first | (go_at_call 76; refine (unhide HCM).mono ?_; rintro e wt ⟨ga0, gc, gl, rfl, hgw, hgt, hgv, hbt⟩; have k1 := (hbt.cell (p := ⟨b, 1, none⟩) xlt).trans x1; have k3 := (hbt.cell (p := ⟨b, 3, none⟩) xlt).trans y1))
    all_goals (
      have hbw : Below w.heap.size w wt := ⟨hbt.os, hbt.tape, hbt.output, hbt.size, hbt.block⟩
      clear HCM
      have hwt : w.heap.size ≤ wt.heap.size := hbw.size
      by_cases hg1 : gl = [1]
      · have hG1 : G = 1 := by rw [← hgv, hg1]; simp [val]
        have HR := hide ((unhide HR1 hG1).below hbw (Nat.le_refl _))
        subst hg1
        obtain ⟨gg, rfl, hgg, hgc⟩ := hgw.cells (by simp)
        have cgg := hgc 0 1 rfl
        have hcap2 := hgw.le
        have hc2 : (1 : Int) ≤ (gc : Int) := by simp at hcap2; omega
        clear hgc hcap2 hG1 hgv hgt hgw
        go_wp2
        go_ret
        exact ⟨rfl, unhide HR, But.of_below hbw⟩
      · have hglne : gl ≠ [] := by rintro rfl; simp [val] at hgv; omega
        have HD1 := hide (div_any xo ga0 xc gc xl gl wt ((unhide HXW).below hbw (Nat.le_refl _)) hgw (unhide HXT) hgt hglne (by omega))
        have HD2 := hide (fun u (hu : Below wt.heap.size wt u) => div_any yo ga0 yc gc yl gl u (((unhide HYW).below hbw (Nat.le_refl _)).below hu (Nat.le_refl _)) (hgw.below hu (Nat.le_refl _)) (unhide HYT) hgt hglne (by omega))
        rw [hgv, unhide HXV] at HD1
        rw [hgv, unhide HYV] at HD2
        by_cases hg2 : gl.length = 1
        · obtain ⟨gy, rfl⟩ := List.length_eq_one_iff.1 hg2
          have hgyn : ¬ (gy : Int) = 1 := by
            intro h
            have h1 : gy = 1 := by omega
            exact hg1 (by rw [h1])
          obtain ⟨gg, rfl, hgg, hgc⟩ := hgw.cells (by simp)
          have cgg := hgc 0 gy rfl
          have hcap2 := hgw.le
          have hc2 : (1 : Int) ≤ (gc : Int) := by simp at hcap2; omega
          clear hgc hcap2 hgv hgt hgw hg1 hg2 hglne
          go_wp2_with fail
          refine (unhide HD1).mono ?_
          rintro e w2 ⟨po, pc, pl, ro1, rc1, rl1, rfl, hp1, hr1, hpv, hrv1, hb2⟩
          have m3 := (hb2.cell (p := ⟨b, 3, none⟩) (by dsimp only; omega)).trans k3
          clear hr1 hrv1 HD1
          go_wp2_with fail
          refine (unhide HD2 w2 hb2).mono ?_
          rintro e w3 ⟨qo, qc, ql, ro2, rc2, rl2, rfl, hq1, hr2, hqv, hrv2, hb3⟩
          clear hr2 hrv2 HD2
          have hb4 : Below w.heap.size w w3 := (hbw.trans (hb2.mono hwt)).trans (hb3.mono (Nat.le_trans hwt hb2.size))
          have hn3 := (unhide HNB).below hb4 (Nat.le_refl _)
          have q0 := (hb4.cell (p := ⟨b, 0, none⟩) xlt).trans x0
          have q1 := (hb4.cell (p := ⟨b, 1, none⟩) xlt).trans x1
          have q2 := (hb4.cell (p := ⟨b, 2, none⟩) xlt).trans y00
          have q3 := (hb4.cell (p := ⟨b, 3, none⟩) xlt).trans y1
          have z1 := hn3.frozen 1
          have z3 := hn3.frozen 3
          have HE := hide (two_put hn3 q0 q1 q2 q3 (hp1.below hb3 (Nat.le_refl _)) hq1)
          have HPV := hide hpv
          have HQV := hide hqv
          have HB4 := hide hb4
          clear hpv hqv hb4 hp1 hq1 hn3 k1 k3
          go_wp2
          go_ret
          have E := unhide HE
          have e1 := mk_num_abs x d (by omega)
          have e2 := mk_den x d (by omega)
          rw [← unhide HG] at e1 e2
          refine ⟨rfl, ⟨⟨E.nb, po, pc, trimL pl, ?_, E.c1, E.p, trimL_idem _, by rw [trimL_val, unhide HPV, e1]⟩, .inl ⟨E.nb, qo, qc, trimL ql, ?_, E.c3, E.q, trimL_idem _, by rw [trimL_val, unhide HQV, Int.natAbs_natCast, e2]⟩⟩, (But.of_below (unhide HB4)).trans (E.but.mono (unhide HB4).size)⟩
          · rw [mk_num_neg x d (by omega), unhide HSX]; exact E.c0
          · rw [E.c2]; simp
        · have hg2i : ¬ (gl.length : Int) = 1 := by omega
          clear hgv hgt hgw hg1 hg2 hglne
          go_wp2_with fail
          refine (unhide HD1).mono ?_
          rintro e w2 ⟨po, pc, pl, ro1, rc1, rl1, rfl, hp1, hr1, hpv, hrv1, hb2⟩
          have m3 := (hb2.cell (p := ⟨b, 3, none⟩) (by dsimp only; omega)).trans k3
          clear hr1 hrv1 HD1
          go_wp2_with fail
          refine (unhide HD2 w2 hb2).mono ?_
          rintro e w3 ⟨qo, qc, ql, ro2, rc2, rl2, rfl, hq1, hr2, hqv, hrv2, hb3⟩
          clear hr2 hrv2 HD2
          have hb4 : Below w.heap.size w w3 := (hbw.trans (hb2.mono hwt)).trans (hb3.mono (Nat.le_trans hwt hb2.size))
          have hn3 := (unhide HNB).below hb4 (Nat.le_refl _)
          have q0 := (hb4.cell (p := ⟨b, 0, none⟩) xlt).trans x0
          have q1 := (hb4.cell (p := ⟨b, 1, none⟩) xlt).trans x1
          have q2 := (hb4.cell (p := ⟨b, 2, none⟩) xlt).trans y00
          have q3 := (hb4.cell (p := ⟨b, 3, none⟩) xlt).trans y1
          have z1 := hn3.frozen 1
          have z3 := hn3.frozen 3
          have HE := hide (two_put hn3 q0 q1 q2 q3 (hp1.below hb3 (Nat.le_refl _)) hq1)
          have HPV := hide hpv
          have HQV := hide hqv
          have HB4 := hide hb4
          clear hpv hqv hb4 hp1 hq1 hn3 k1 k3
          go_wp2
          go_ret
          have E := unhide HE
          have e1 := mk_num_abs x d (by omega)
          have e2 := mk_den x d (by omega)
          rw [← unhide HG] at e1 e2
          refine ⟨rfl, ⟨⟨E.nb, po, pc, trimL pl, ?_, E.c1, E.p, trimL_idem _, by rw [trimL_val, unhide HPV, e1]⟩, .inl ⟨E.nb, qo, qc, trimL ql, ?_, E.c3, E.q, trimL_idem _, by rw [trimL_val, unhide HQV, Int.natAbs_natCast, e2]⟩⟩, (But.of_below (unhide HB4)).trans (E.but.mono (unhide HB4).size)⟩
          · rw [mk_num_neg x d (by omega), unhide HSX]; exact E.c0
          · rw [E.c2]; simp
      )
end Go.Proofs.YthplbfjpmnpjmaaDoor
