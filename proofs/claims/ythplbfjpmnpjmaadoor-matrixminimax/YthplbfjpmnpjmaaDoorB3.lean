/-
  parlourbig's numbers with signs: Set, Mul, sum, Add, Cmp.
-/
import Derived.Test.YthplbfjpmnpjmaaDoorJ10
namespace Go.Proofs.YthplbfjpmnpjmaaDoor
open Go.RowKit
attribute [local go_sem ↓] Go.wp_at_zero Go.wp_at_succ

theorem isI.open {w : World} {b o : Nat} {z : Int} (h : isI w b o z) : ∃ ao cap l, w.cell? ⟨b, o, none⟩ = some (.bool (decide (z < 0))) ∧ w.cell? ⟨b, o + 1, none⟩ = some (.slice ao l.length cap) ∧ b < w.heap.size ∧ isWs w ao cap l ∧ trimL l = l ∧ val 4294967296 l = z.natAbs := by
  have hlt := h.lt
  obtain ⟨_, ao, cap, l, c0, c1, r⟩ := h
  exact ⟨ao, cap, l, c0, c1, hlt, r⟩
theorem isWs.drew {w : World} {ao : Option Addr} {cap : Nat} {l : List Nat} (h : isWs w ao cap l) : isWs w.drew ao cap l := ⟨h.small, h.le, h.nil, h.len, h.cells⟩
theorem isTo.drew {w : World} {b o : Nat} (h : isTo w b o) : isTo w.drew b o := ⟨h.nb, h.fst, h.snd⟩
theorem isI.len {l : List Nat} {z : Int} {n : Nat} (ht : trimL l = l) (hv : val 4294967296 l = z.natAbs) (hz : z.natAbs < 4294967296 ^ n) : l.length ≤ n := trim_len (B := 4294967296) (by omega) l n ht (by rw [hv]; exact hz)

set_option maxHeartbeats 1000000 in
set_option maxRecDepth 100000 in
theorem Set_z (b o c p : Nat) (z : Int) (w : World) (hb : isTo w b o) (hx : isI w c p z) (hn : c ≠ b) :
    Calls Tryd.prog 51 #[.pointer (some ⟨b, o, none⟩), .pointer (some ⟨c, p, none⟩)] w fun e w' =>
      e = .returned (.pointer (some ⟨b, o, none⟩)) ∧ isI w' b o z ∧ Put w.heap.size b o w w' := by
  obtain ⟨xo, xc, xl, x0, x1, xlt, xw, xt, xv⟩ := hx.open
  have hlt := hb.nb.lt
  have HB := hide hb
  have HXT := hide xt
  have HXV := hide xv
  obtain ⟨sg, hsg⟩ : ∃ sg, sg = decide (z < 0) := ⟨_, rfl⟩
  have HSG := hide (sign_of xt xv sg (fun _ => hsg))
  rw [← hsg] at x0
  clear hsg
  clear hx xt xv hb
  go_enter Tryd.func51, Tryd.ntmps51
  go_wp2
  go_region_held3 (fun w' => w'.cell? ⟨c, p, none⟩ = some (.bool sg) ∧ w'.cell? ⟨c, p + 1, none⟩ = some (.slice xo xl.length xc))
    (first
      | (go_keep; done)
      | (exact ⟨l0, l1⟩)
      | (exact ⟨k0, k1⟩))
    (first
      | (go_at_call 48; (with_reducible refine (give_z b o sg z ro rc xl _ ((unhide HB).drew.below hbt (Nat.le_refl _)) hrw (unhide HXT) (unhide HXV) (unhide HSG)).mono ?_); rintro e wg ⟨rfl, hi, hp⟩; have l0 := (hp.but.cell c p (by have := hbt.size; dsimp only [World.drew] at this; omega) hn).trans k0; have l1 := (hp.but.cell c (p + 1) (by have := hbt.size; dsimp only [World.drew] at this; omega) hn).trans k1)
      | (go_at_call 69; refine (twin_any xo xc xl w.drew xw.drew).mono ?_; rintro e wt ⟨ro, rc, rfl, hrw, hbt⟩; have k0 := (hbt.cell (p := ⟨c, p, none⟩) (by dsimp only [World.drew]; omega)).trans x0; have k1 := (hbt.cell (p := ⟨c, p + 1, none⟩) (by dsimp only [World.drew]; omega)).trans x1))
  all_goals (go_wp2; go_ret; exact ⟨rfl, hi, ((hp.mono hbt.size).after hbt hlt).undrew⟩)

theorem mul_sign (x y : Int) (h : x * y ≠ 0) : (!(decide (x < 0) == decide (y < 0))) = decide (x * y < 0) := by
  have hx : x ≠ 0 := fun e => h (by rw [e, Int.zero_mul])
  have hy : y ≠ 0 := fun e => h (by rw [e, Int.mul_zero])
  rcases Int.lt_or_gt_of_ne hx with h1 | h1 <;> rcases Int.lt_or_gt_of_ne hy with h2 | h2
  · have := Int.mul_pos_of_neg_of_neg h1 h2
    have e1 : ¬ x * y < 0 := by omega
    simp [h1, h2, e1]
  · have := Int.mul_neg_of_neg_of_pos h1 h2
    have e1 : ¬ y < 0 := by omega
    simp [h1, e1, this]
  · have := Int.mul_neg_of_pos_of_neg h1 h2
    have e1 : ¬ x < 0 := by omega
    simp [h2, e1, this]
  · have := Int.mul_pos h1 h2
    have e1 : ¬ x * y < 0 := by omega
    have e2 : ¬ x < 0 := by omega
    have e3 : ¬ y < 0 := by omega
    simp [e1, e2, e3]

set_option maxHeartbeats 1000000 in
set_option maxRecDepth 100000 in
theorem Mul_z (b o c p d q n : Nat) (x y : Int) (w : World) (hb : isTo w b o) (hx : isI w c p x) (hy : isI w d q y) (hc : c ≠ b) (hd : d ≠ b) (hn : n ≤ 20000) (hX : x.natAbs < 4294967296 ^ n) (hY : y.natAbs < 4294967296 ^ n) :
    Calls Tryd.prog 25 #[.pointer (some ⟨b, o, none⟩), .pointer (some ⟨c, p, none⟩), .pointer (some ⟨d, q, none⟩)] w fun e w' =>
      e = .returned (.pointer (some ⟨b, o, none⟩)) ∧ isI w' b o (x * y) ∧ Put w.heap.size b o w w' := by
  obtain ⟨xo, xc, xl, x0, x1, xlt, xw, xt, xv⟩ := hx.open
  obtain ⟨yo, yc, yl, y0, y1, ylt, yw, yt, yv⟩ := hy.open
  have hxl := isI.len xt xv hX
  have hyl := isI.len yt yv hY
  have hlt := hb.nb.lt
  have HB := hide hb
  have hsg : ∀ l : List Nat, trimL l = l → val 4294967296 l = (x * y).natAbs → ((!(decide (x < 0) == decide (y < 0))) && !l.isEmpty) = decide (x * y < 0) := fun l ht hv => sign_of ht hv _ (mul_sign x y)
  have hmv : val 4294967296 xl * val 4294967296 yl = (x * y).natAbs := by rw [xv, yv, Int.natAbs_mul]
  have HSG := hide hsg
  have HMV := hide hmv
  generalize decide (x < 0) = sx at x0 HSG
  generalize decide (y < 0) = sy at y0 HSG
  clear hx hy hX hY xt yt hb xv yv hsg hmv
  go_enter Tryd.func25, Tryd.ntmps25
  go_wp2
  go_region_held3 (fun w' => w'.cell? ⟨c, p, none⟩ = some (.bool sx) ∧ w'.cell? ⟨c, p + 1, none⟩ = some (.slice xo xl.length xc) ∧ w'.cell? ⟨d, q, none⟩ = some (.bool sy) ∧ w'.cell? ⟨d, q + 1, none⟩ = some (.slice yo yl.length yc))
    (first
      | (go_keep; done)
      | (exact ⟨l0, l1, l2, l3⟩)
      | (exact ⟨k0, k1, k2, k3⟩))
    (first
      | (go_at_call 48; (with_reducible refine (give_z b o (!(sx == sy)) (x * y) ro rc (trimL rl) _ ((unhide HB).drew.below hbt (Nat.le_refl _)) hrw (trimL_idem _) (by rw [trimL_val, hrv]; exact unhide HMV) (unhide HSG _ (trimL_idem _) (by rw [trimL_val, hrv]; exact unhide HMV))).mono ?_); rintro e wg ⟨rfl, hi, hp⟩; have hts := hbt.size; dsimp only [World.drew] at hts; have l0 := (hp.but.cell c p (by omega) hc).trans k0; have l1 := (hp.but.cell c (p + 1) (by omega) hc).trans k1; have l2 := (hp.but.cell d q (by omega) hd).trans k2; have l3 := (hp.but.cell d (q + 1) (by omega) hd).trans k3)
      | (go_at_call 50; refine (mul_any xo yo xc yc xl yl w.drew xw.drew yw.drew (by omega) (by omega)).mono ?_; rintro e wt ⟨ro, rc, rl, rfl, hrw, hrv, hbt⟩; have k0 := (hbt.cell (p := ⟨c, p, none⟩) (by dsimp only [World.drew]; omega)).trans x0; have k1 := (hbt.cell (p := ⟨c, p + 1, none⟩) (by dsimp only [World.drew]; omega)).trans x1; have k2 := (hbt.cell (p := ⟨d, q, none⟩) (by dsimp only [World.drew]; omega)).trans y0; have k3 := (hbt.cell (p := ⟨d, q + 1, none⟩) (by dsimp only [World.drew]; omega)).trans y1))
  all_goals (go_wp2; go_ret; exact ⟨rfl, hi, ((hp.mono hbt.size).after hbt hlt).undrew⟩)

theorem len_of_le {a b : List Nat} (hb : trimL b = b) (sa : ∀ x ∈ a, x < 4294967296) (h : val 4294967296 b ≤ val 4294967296 a) : b.length ≤ a.length := by
  rcases Nat.lt_or_ge a.length b.length with h1 | h1
  · have := cmp_len hb sa h1; omega
  · exact h1

/-- What sum answers. -/
structure SumE (z : Int) (w : World) (e : Ending) (w' : World) : Prop where
  is : ∃ s o cap l, e = .returned (.tuple #[.bool s, .slice o (trimL l).length cap]) ∧ isWs w' o cap (trimL l) ∧ val 4294967296 l = z.natAbs ∧ (z ≠ 0 → s = decide (z < 0)) ∧ Below w.heap.size w w'

set_option maxHeartbeats 1000000 in
theorem sum_z (xo yo : Option Addr) (xc yc : Nat) (xl yl : List Nat) (x y : Int) (w : World) (hx : isWs w xo xc xl) (hy : isWs w yo yc yl) (tx : trimL xl = xl) (ty : trimL yl = yl) (vx : val 4294967296 xl = x.natAbs) (vy : val 4294967296 yl = y.natAbs) (hlx : xl.length ≤ 30000) (hly : yl.length ≤ 30000) :
    Calls Tryd.prog 49 #[.bool (decide (x < 0)), .slice xo xl.length xc, .bool (decide (y < 0)), .slice yo yl.length yc] w (SumE (x + y) w) := by
  by_cases hs : decide (x < 0) = decide (y < 0)
  · have hz : (x + y).natAbs = x.natAbs + y.natAbs := by simp at hs; omega
    have hn : x + y ≠ 0 → decide (x < 0) = decide (x + y < 0) := by intro _; simp at hs; simp; omega
    have HA := hide (add_any xo yo xc yc xl yl w hx hy hlx hly)
    have HZ := hide hz
    have HN := hide hn
    have HV := hide (And.intro vx vy)
    rw [← hs]
    generalize decide (x < 0) = sx at HN
    clear hs hz hn hx hy tx ty vx vy
    go_enter Tryd.func49, Tryd.ntmps49
    go_wp2_with fail
    refine (unhide HA).mono ?_
    rintro e w1 ⟨o, cap, l, rfl, hw1, hv, hb1⟩
    go_wp2
    go_ret2
    exact ⟨_, o, cap, l, rfl, hw1, by rw [hv, unhide HZ, (unhide HV).1, (unhide HV).2], unhide HN, hb1⟩
  · have HC := hide (cmp_less xo yo xc yc xl yl w hx hy tx ty)
    rw [vx, vy] at HC
    rcases Nat.lt_or_ge x.natAbs y.natAbs with hlt | hge
    · have hcm : cmpN x.natAbs y.natAbs = -1 := by unfold cmpN; rw [if_pos hlt]
      rw [hcm] at HC
      have hz : (x + y).natAbs = y.natAbs - x.natAbs := by simp at hs; omega
      have hn : x + y ≠ 0 → decide (y < 0) = decide (x + y < 0) := by intro _; simp at hs; simp; omega
      have HA := hide (fun n => sub_any yo xo yc xc yl xl (w.drewN n) (hy.drewN n) (hx.drewN n) hly (len_of_le tx hy.small (by rw [vx, vy]; omega)) (by rw [vx, vy]; omega))
      have HZ := hide hz
      have HN := hide hn
      have HV := hide (And.intro vx vy)
      have hne : (decide (x < 0) == decide (y < 0)) = false := by simpa using hs
      generalize decide (x < 0) = sx at hne
      generalize decide (y < 0) = sy at HN hne
      clear hs hz hn hx hy tx ty vx vy hcm hlt
      cases sx <;> cases sy <;> first
        | (simp at hne; done)
        | (clear hne
           go_enter Tryd.func49, Tryd.ntmps49
           go_wp2_with fail
           refine (unhide HC).mono ?_
           rintro e w1 ⟨rfl, n, rfl⟩
           go_wp2_with fail
           refine (unhide HA n).mono ?_
           rintro e w1 ⟨o, cap, l, rfl, hw1, hv, hb1⟩
           go_wp2
           go_ret2
           exact ⟨_, o, cap, l, rfl, hw1, by rw [hv, unhide HZ, (unhide HV).1, (unhide HV).2], unhide HN, below_undrewN hb1⟩)
    · have hcm : ¬ cmpN x.natAbs y.natAbs < 0 := by unfold cmpN; rw [if_neg (by omega)]; split <;> omega
      obtain ⟨C, hC⟩ : ∃ C, C = cmpN x.natAbs y.natAbs := ⟨_, rfl⟩
      rw [← hC] at HC hcm
      have hz : (x + y).natAbs = x.natAbs - y.natAbs := by simp at hs; omega
      have hn : x + y ≠ 0 → decide (x < 0) = decide (x + y < 0) := by intro _; simp at hs; simp; omega
      have HA := hide (fun n => sub_any xo yo xc yc xl yl (w.drewN n) (hx.drewN n) (hy.drewN n) hlx (len_of_le ty hx.small (by rw [vx, vy]; omega)) (by rw [vx, vy]; omega))
      have HZ := hide hz
      have HN := hide hn
      have HV := hide (And.intro vx vy)
      have hne : (decide (x < 0) == decide (y < 0)) = false := by simpa using hs
      have hcm2 : 0 ≤ C := by omega
      generalize decide (x < 0) = sx at HN hne
      generalize decide (y < 0) = sy at hne
      clear hs hz hn hx hy tx ty vx vy hcm hge hC
      cases sx <;> cases sy <;> first
        | (simp at hne; done)
        | (clear hne
           go_enter Tryd.func49, Tryd.ntmps49
           go_wp2_with fail
           refine (unhide HC).mono ?_
           rintro e w1 ⟨rfl, n, rfl⟩
           go_wp2_with fail
           refine (unhide HA n).mono ?_
           rintro e w1 ⟨o, cap, l, rfl, hw1, hv, hb1⟩
           go_wp2
           go_ret2
           exact ⟨_, o, cap, l, rfl, hw1, by rw [hv, unhide HZ, (unhide HV).1, (unhide HV).2], unhide HN, below_undrewN hb1⟩)

set_option maxHeartbeats 1000000 in
set_option maxRecDepth 100000 in
theorem Add_z (b o c p d q n : Nat) (x y : Int) (w : World) (hb : isTo w b o) (hx : isI w c p x) (hy : isI w d q y) (hc : c ≠ b) (hd : d ≠ b) (hn : n ≤ 20000) (hX : x.natAbs < 4294967296 ^ n) (hY : y.natAbs < 4294967296 ^ n) :
    Calls Tryd.prog 24 #[.pointer (some ⟨b, o, none⟩), .pointer (some ⟨c, p, none⟩), .pointer (some ⟨d, q, none⟩)] w fun e w' =>
      e = .returned (.pointer (some ⟨b, o, none⟩)) ∧ isI w' b o (x + y) ∧ Put w.heap.size b o w w' := by
  obtain ⟨xo, xc, xl, x0, x1, xlt, xw, xt, xv⟩ := hx.open
  obtain ⟨yo, yc, yl, y0, y1, ylt, yw, yt, yv⟩ := hy.open
  have hxl := isI.len xt xv hX
  have hyl := isI.len yt yv hY
  have hlt := hb.nb.lt
  have HB := hide hb
  have HS := hide (sum_z xo yo xc yc xl yl x y w.drew xw.drew yw.drew xt yt xv yv (by omega) (by omega))
  generalize decide (x < 0) = sx at x0 HS
  generalize decide (y < 0) = sy at y0 HS
  clear hx hy hX hY xt yt hb xv yv
  go_enter Tryd.func24, Tryd.ntmps24
  go_wp2
  go_region_held3 (fun w' => w'.cell? ⟨c, p, none⟩ = some (.bool sx) ∧ w'.cell? ⟨c, p + 1, none⟩ = some (.slice xo xl.length xc) ∧ w'.cell? ⟨d, q, none⟩ = some (.bool sy) ∧ w'.cell? ⟨d, q + 1, none⟩ = some (.slice yo yl.length yc))
    (first
      | (go_keep; done)
      | (exact ⟨l0, l1, l2, l3⟩)
      | (exact ⟨k0, k1, k2, k3⟩))
    (first
      | (go_at_call 48; (with_reducible refine (give_z b o rs (x + y) ro rc (trimL rl) _ ((unhide HB).drew.below hbt (Nat.le_refl _)) hrw (trimL_idem _) (by rw [trimL_val, hrv]) (sign_of (trimL_idem _) (by rw [trimL_val, hrv]) _ hrs)).mono ?_); rintro e wg ⟨rfl, hi, hp⟩; have hts := hbt.size; dsimp only [World.drew] at hts; have l0 := (hp.but.cell c p (by omega) hc).trans k0; have l1 := (hp.but.cell c (p + 1) (by omega) hc).trans k1; have l2 := (hp.but.cell d q (by omega) hd).trans k2; have l3 := (hp.but.cell d (q + 1) (by omega) hd).trans k3)
      | (go_at_call 49; (with_reducible refine (unhide HS).mono ?_); rintro e wt ⟨rs, ro, rc, rl, rfl, hrw, hrv, hrs, hbt⟩; have k0 := (hbt.cell (p := ⟨c, p, none⟩) (by dsimp only [World.drew]; omega)).trans x0; have k1 := (hbt.cell (p := ⟨c, p + 1, none⟩) (by dsimp only [World.drew]; omega)).trans x1; have k2 := (hbt.cell (p := ⟨d, q, none⟩) (by dsimp only [World.drew]; omega)).trans y0; have k3 := (hbt.cell (p := ⟨d, q + 1, none⟩) (by dsimp only [World.drew]; omega)).trans y1))
  all_goals (go_wp2; go_ret; exact ⟨rfl, hi, ((hp.mono hbt.size).after hbt hlt).undrew⟩)

theorem cmpI_pos (x y : Int) (hx : ¬ x < 0) (hy : ¬ y < 0) : cmpN x.natAbs y.natAbs = cmpI x y := by
  unfold cmpN cmpI
  have h1 : x.natAbs < y.natAbs ↔ x < y := by omega
  have h2 : y.natAbs < x.natAbs ↔ y < x := by omega
  simp only [h1, h2]
theorem cmpI_neg (x y : Int) (hx : x < 0) (hy : y < 0) : - cmpN x.natAbs y.natAbs = cmpI x y := by
  unfold cmpN cmpI
  have h1 : x.natAbs < y.natAbs ↔ y < x := by omega
  have h2 : y.natAbs < x.natAbs ↔ x < y := by omega
  simp only [h1, h2]
  split
  · split
    · omega
    · rfl
  · split <;> rfl
theorem cmpN_cases (a b : Nat) : cmpN a b = -1 ∨ cmpN a b = 0 ∨ cmpN a b = 1 := by
  unfold cmpN
  split
  · simp
  · split <;> simp

set_option maxHeartbeats 1000000 in
theorem Cmp_z (c p d q : Nat) (x y : Int) (w : World) (hx : isI w c p x) (hy : isI w d q y) :
    Calls Tryd.prog 28 #[.pointer (some ⟨c, p, none⟩), .pointer (some ⟨d, q, none⟩)] w fun e w' => e = .returned (.int .i64 (cmpI x y)) ∧ ∃ n, w' = w.drewN n := by
  obtain ⟨xo, xc, xl, x0, x1, xlt, xw, xt, xv⟩ := hx.open
  obtain ⟨yo, yc, yl, y0, y1, ylt, yw, yt, yv⟩ := hy.open
  clear hx hy
  have HC : Hid (∀ n x, Calls Tryd.prog 53 #[.slice xo xl.length xc, .slice yo yl.length yc] (w.drewN (n + x)) fun e w'' => e = .returned (.int .i64 (cmpN (val 4294967296 xl) (val 4294967296 yl))) ∧ ∃ m, w'' = w.drewN (n + m)) := by
    intro n x
    refine (cmp_less xo yo xc yc xl yl _ (xw.drewN (n + x)) (yw.drewN (n + x)) xt yt).mono ?_
    rintro e w1 ⟨rfl, m, rfl⟩
    exact ⟨rfl, x + m, by rw [World.drewN_drewN, Nat.add_assoc]⟩
  rw [xv, yv] at HC
  have hcs := cmpN_cases x.natAbs y.natAbs
  by_cases hx : x < 0 <;> by_cases hy : y < 0
  · have e := cmpI_neg x y hx hy
    rw [← e]
    have ex : decide (x < 0) = true := by simpa using hx
    have ey : decide (y < 0) = true := by simpa using hy
    rw [ex] at x0
    rw [ey] at y0
    generalize cmpN x.natAbs y.natAbs = R at HC hcs
    clear e ex ey xv yv hx hy
    go_enter Tryd.func28, Tryd.ntmps28
    go_wp2
    go_quiet (fail)
    go_wp2
    go_quiet ((go_at_call 53; exact unhide HC _ _))
    go_wp2
    go_ret
    refine ⟨?_, _, rfl⟩
    rcases hcs with rfl | rfl | rfl <;> rfl
  · have e : cmpI x y = -1 := by unfold cmpI; rw [if_pos (by omega)]
    rw [e]
    have ex : decide (x < 0) = true := by simpa using hx
    have ey : decide (y < 0) = false := by simpa using hy
    rw [ex] at x0
    rw [ey] at y0
    clear e ex ey xv yv hx hy HC hcs
    go_enter Tryd.func28, Tryd.ntmps28
    go_wp2
    go_quiet (fail)
    go_wp2
    go_ret
    exact ⟨rfl, _, rfl⟩
  · have e : cmpI x y = 1 := by unfold cmpI; rw [if_neg (by omega), if_pos (by omega)]
    rw [e]
    have ex : decide (x < 0) = false := by simpa using hx
    have ey : decide (y < 0) = true := by simpa using hy
    rw [ex] at x0
    rw [ey] at y0
    clear e ex ey xv yv hx hy HC hcs
    go_enter Tryd.func28, Tryd.ntmps28
    go_wp2
    go_quiet (fail)
    go_wp2
    go_ret
    exact ⟨rfl, _, rfl⟩
  · have e := cmpI_pos x y hx hy
    rw [← e]
    have ex : decide (x < 0) = false := by simpa using hx
    have ey : decide (y < 0) = false := by simpa using hy
    rw [ex] at x0
    rw [ey] at y0
    generalize cmpN x.natAbs y.natAbs = R at HC hcs
    clear e ex ey xv yv hx hy hcs
    go_enter Tryd.func28, Tryd.ntmps28
    go_wp2
    go_quiet (fail)
    go_wp2
    go_quiet ((go_at_call 53; exact unhide HC _ _))
    go_wp2
    go_ret
    exact ⟨rfl, _, rfl⟩
end Go.Proofs.YthplbfjpmnpjmaaDoor
