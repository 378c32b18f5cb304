/-
  gamekeep.NimTrue, walked: heaps that are won.
-/
import Derived.Test.YtphnjedoghopcaaQ43
import Derived.BigQuiet
namespace Go.Proofs.Ytphnjedoghopcaa
open Go.RowKit
attribute [local go_sem ↓] Go.wp_at_zero Go.wp_at_succ

set_option maxHeartbeats 8000000 in
set_option maxRecDepth 100000 in
theorem nimTrue_won (s : ByteArray) (hs : List Nat) (ho : Option Addr) (hc : Nat) (w : World) (hsz : s.size ≤ maxLen) (hH : isIs w w.heap.size ho hc (natI hs)) (hcd : codeB s = true) (hsl : hs.length ≤ 20) (h400 : ∀ n ∈ hs, n ≤ 400) (i : Nat) (y : List Nat) (ho0 : winO (digs (dig s)) hs = some (i, y)) :
    Calls Try.prog 5 #[.string s, .slice ho hs.length hc] w fun e w' => e = .returned (.bool true) ∧ Below w.heap.size w w' := by
  have hmf : ∀ (fn : Fn) (first cap : Array Value) (u : World), (Instr.makeFunc fn first cap).run Try.prog u = .ok (.func fn first cap) u := fun _ _ _ _ => rfl
  have hl := hH.1
  have hm := hH.2.1
  unfold maxLen at hm
  rw [natI_len] at hl
  obtain ⟨w1, hw1⟩ : ∃ w1, w1 = w.alloc (.cells #[.string s] 9 (0, 0)) := ⟨_, rfl⟩
  obtain ⟨w2, hw2⟩ : ∃ w2, w2 = w1.alloc (.cells #[.slice ho hs.length hc] 22 (0, 0)) := ⟨_, rfl⟩
  have hb1 : Below w.heap.size w w1 := by rw [hw1]; exact (Below.refl _ _).alloc (Nat.le_refl _) _
  have hb2 : Below w.heap.size w w2 := by rw [hw2]; exact hb1.alloc hb1.size _
  have hs1 : w1.heap.size = w.heap.size + 1 := by rw [hw1]; simp
  have q3 : isSb w2 (w.heap.size + 1) (.slice ho hs.length hc) 22 := by rw [hw2, ← hs1]; exact heap_alloc_new w1 _
  have q2 : isSb w2 w.heap.size (.string s) 9 := by
    rw [hw2]; refine (Below.heap_alloc _ _ _ (by omega)).trans ?_; rw [hw1]; exact heap_alloc_new w _
  obtain ⟨c2, -⟩ := q2.cell
  obtain ⟨c3, -⟩ := q3.cell
  have hWN := Win_any s (natI hs) ho hc w2 hsz (hH.up hb2)
  rw [natI_len] at hWN
  have HWN := hide hWN
  obtain ⟨D, hD⟩ : ∃ D, D = digs (dig s) := ⟨_, rfl⟩
  have HTK : Hid (∀ (k : Nat) (u : World), k ≤ 400 → Calls Try.prog 12 #[.string s, .int .i64 (k : Int)] u fun e w' => TkEnd (tks D k) u e w') := hide (fun k u hk => by rw [hD]; exact takings_any s k u hcd hk)
  obtain ⟨kk, n, hik, hkn, hyT, hgy⟩ := winF_some ho0
  rw [Nat.zero_add] at hik
  subst hik
  rw [← hD] at hyT hgy
  have hil : i < hs.length := (List.getElem?_eq_some_iff.1 hkn).1
  have hn4 : n ≤ 400 := h400 n (List.mem_of_getElem? hkn)
  have hg! : hs[i]! = n := by rw [getElem!_pos hs i hil]; exact (List.getElem?_eq_some_iff.1 hkn).2
  have hz : winO D (aft hs i y) = none := by
    rw [winO_none, grs_aft hkn, hgy]
    rw [Nat.xor_self]
  have HFORM : Hid (∀ e w3, WiEnd s (natI hs) w2 e w3 → Below w2.heap.size w2 w3 ∧ ∃ ao cap, e = .returned (.tuple #[.bool true, .agg #[.int .i64 (i : Int), .slice ao y.length cap], .int .i64 0]) ∧ isIs w3 w3.heap.size ao cap (natI y)) := hide (fun e w3 h => ⟨h.low, h.won hs i y hcd rfl ⟨hsl, h400⟩ ho0⟩)
  have HAF : Hid (∀ (xo : Option Addr) (xc : Nat) (u : World), Below w2.heap.size w2 u → isIs u u.heap.size xo xc (natI y) →
      Calls Try.prog 17 #[.int .i64 (i : Int), .slice xo y.length xc, .pointer (some ⟨w.heap.size + 1, 0, none⟩), .pointer (some ⟨w.heap.size, 0, none⟩)] u fun e w' => Below u.heap.size u w' ∧ (e = .returned (.tuple #[.bool false, .int .i64 0]) ∨ e = .returned (.tuple #[.bool false, .int .i64 4]))) := hide (fun xo xc u hu hX => by
    obtain ⟨hxb, hx2⟩ := tks_lt hyT
    refine (after_any s hs y i ho xo hc xc w.heap.size (w.heap.size + 1) u hsz hcd hil hsl h400 (fun z hz => by have := hxb z hz; omega) (by omega) ((hH.up hb2).up hu) hX ((hu.block _ q3.lt).trans q3) ((hu.block _ q2.lt).trans q2)).mono ?_
    rintro e w' hae
    refine ⟨hae.low, ?_⟩
    by_cases hfew : (aft hs i y).length ≤ 20
    · have := hae.few hfew
      rw [← hD, hz] at this
      exact .inl this
    · exact .inr (hae.many hfew))
  have HGR : Hid (∀ u, Calls Try.prog 7 #[.string ⟨#[48, 46, 51]⟩, .int .i64 5] u fun e w' => Below u.heap.size u w' ∧ ∃ go gc, e = .returned (.tuple #[.slice go 6 gc, .int .i64 0])) := hide (fun u => by
    refine (Grundy_any ⟨#[48, 46, 51]⟩ 5 u (by unfold maxLen; show 3 ≤ _; omega)).mono ?_
    rintro e w' hg
    obtain ⟨go, gl, gc, E, he, -, h2⟩ := hg.form lit_code
    obtain ⟨rfl, rfl, -⟩ := h2 (by decide)
    exact ⟨hg.low, go, gc, he⟩)
  have HH2 := hide (hH.up hb2)
  have H4 := hide h400
  have HD6 : Hid (D.length ≤ 6) := hide (by rw [hD, digs_len]; exact (code_dig hcd).1)
  have HB2 := hide hb2
  have HQ2 := hide q2
  have HQ3 := hide q3
  have HW1 := hide hw1
  have HW2 := hide hw2
  have HYT := hide hyT
  have HGI := hide hg!
  have hi0 : (0 : Int) ≤ (i : Int) := by omega
  have hili : (i : Int) < (hs.length : Int) := by omega
  have hi0n : ¬ (i : Int) < 0 := by omega
  have hilg : ¬ (hs.length : Int) ≤ (i : Int) := by omega
  clear hw1 hw2 hb1 hb2 hs1 q2 q3 hH hsz hWN hD h400 ho0 hcd hkn hyT hgy hz hg!
  go_enter Try.func5, Try.ntmps5
  go_upto_region 1 with fail
  rw [← unhide HW1, ← unhide HW2]
  go_wp2_with fail
  refine (unhide HWN).mono ?_
  rintro e w3 hwi
  obtain ⟨hb3, ao, cap, rfl, hIY⟩ := unhide HFORM e w3 hwi
  obtain ⟨w4, hw4⟩ : ∃ w4, w4 = w3.alloc (.cells #[.int .i64 (i : Int), .slice ao y.length cap] 27 (0, 0)) := ⟨_, rfl⟩
  have hl4 : Below w3.heap.size w3 w4 := by rw [hw4]; exact (Below.refl _ _).alloc (Nat.le_refl _) _
  have hb4 : Below w2.heap.size w2 w4 := hb3.trans (hl4.mono hb3.size)
  have hx4 : isHb w4 w3.heap.size (i : Int) (.slice ao y.length cap) := by rw [hw4]; exact heap_alloc_new w3 _
  have HB4 := hide hb4
  have HX4 := hide hx4
  have HIY4 := hide (hIY.up hl4)
  have HW4 := hide hw4
  clear hb3 hwi HFORM HWN hl4 hb4 hx4 hIY hw4
  go_wp2_with fail
  rw [← unhide HW4]
  clear HW4
  refine (unhide HGR _).mono ?_
  rintro e w5 ⟨hb5, go, gc, rfl⟩
  have hb25 : Below w2.heap.size w2 w5 := (unhide HB4).trans (hb5.mono (unhide HB4).size)
  have hx5 : isHb w5 w3.heap.size (i : Int) (.slice ao y.length cap) := (hb5.block _ (unhide HX4).lt).trans (unhide HX4)
  have c3d : w5.cell? ⟨w.heap.size + 1, 0, none⟩ = some (.slice ho hs.length hc) := (hb25.cell (p := ⟨w.heap.size + 1, 0, none⟩) (unhide HQ3).lt).trans c3
  have c2d : w5.cell? ⟨w.heap.size, 0, none⟩ = some (.string s) := (hb25.cell (p := ⟨w.heap.size, 0, none⟩) (unhide HQ2).lt).trans c2
  obtain ⟨m0, m1, -, -⟩ := hx5.all
  have HIY5 := hide ((unhide HIY4).up hb5)
  obtain ⟨g, off, e, hg, cx⟩ := ((unhide HH2).up hb25).nat hil
  subst e
  rw [unhide HGI] at cx
  have HX5 := hide hx5
  have HB5 := hide hb25
  have HX5L := hide hx5.lt
  have HQ : Hid (∀ u, Below w5.heap.size w5 u → u.cell? ⟨w.heap.size, 0, none⟩ = some (.string s) ∧ u.cell? ⟨w.heap.size + 1, 0, none⟩ = some (.slice (some ⟨g, off, none⟩) hs.length hc) ∧ u.cell? ⟨w3.heap.size, 0, none⟩ = some (.int .i64 (i : Int)) ∧ u.cell? ⟨g, off + i, none⟩ = some (.int .i64 (n : Int))) := hide (fun u hu => by
    have hbu := hb25.trans (hu.mono hb25.size)
    exact ⟨(hbu.cell (p := ⟨w.heap.size, 0, none⟩) (unhide HQ2).lt).trans c2, (hbu.cell (p := ⟨w.heap.size + 1, 0, none⟩) (unhide HQ3).lt).trans c3, (hu.cell (p := ⟨w3.heap.size, 0, none⟩) hx5.lt).trans m0, (hu.cell (p := ⟨g, off + i, none⟩) hg).trans cx⟩)
  have HBD : Hid (Below w5.heap.size w5 w5.drew) := hide (Below.refl _ _).drew
  have HQ1 := hide (unhide HQ _ (unhide HBD))
  have HT := hide (unhide HTK n w5.drew hn4)
  clear hb5 hb25 hx5 cx HGR HIY4 HX4 HB4
  go_upto_region 12 with fail
  go_region_held3 (fun u => u.cell? ⟨w.heap.size, 0, none⟩ = some (.string s) ∧ u.cell? ⟨w.heap.size + 1, 0, none⟩ = some (.slice (some ⟨g, off, none⟩) hs.length hc) ∧ u.cell? ⟨w3.heap.size, 0, none⟩ = some (.int .i64 (i : Int)) ∧ u.cell? ⟨g, off + i, none⟩ = some (.int .i64 (n : Int)))
    (first
      | with_reducible exact unhide HQ1
      | with_reducible exact j1)
    (first | (go_at_call 12; (with_reducible refine (unhide HT).mono ?_); rintro e w6 ⟨hb6, tv, rfl, htk⟩; have hb56 := (unhide HBD).trans hb6; have j1 := unhide HQ w6 hb56; obtain ⟨tao, tc, htv, hG⟩ := htk.done; subst htv; have HB6 := hide ((unhide HB5).trans (hb56.mono (unhide HB5).size)); have HX6 : Hid (isHb w6 w3.heap.size (i : Int) (.slice ao y.length cap)) := hide ((hb56.block _ (unhide HX5).lt).trans (unhide HX5)); have HIY6 := hide ((unhide HIY5).up hb56); have HG := hide hG; clear hb6 hb56 htk hG))
  obtain ⟨T, hT⟩ : ∃ T, T = tks D n := ⟨_, rfl⟩
  have hGl := (unhide HG).1
  have hGm := (unhide HG).2.1
  rw [List.length_map] at hGl
  unfold maxLen at hGm
  rw [← hT] at HG hGl
  have HYT2 : Hid (y ∈ T) := hide (by rw [hT]; exact unhide HYT)
  simp only [← hT]
  clear hT HT j1 HYT m0 m1 c2d c3d
  go_wp2
  go_loopw [11, 64] (fun lv jv wz => ∃ (j : Nat) (b : Bool), j ≤ T.length ∧ jv = .int .i64 (j : Int) ∧ lv = .bool b ∧ Hid (y ∈ T.take j → b = true) ∧ Below w6.heap.size w6 wz) (fun _ jv _ => T.length - (intOf jv).toNat)
  case atStart => exact ⟨0, false, Nat.zero_le _, rfl, rfl, hide (fun h => by simp at h), Below.refl _ _⟩
  case round =>
    obtain ⟨j, b, hj, rfl, rfl, HL, hbz⟩ := hrel
    rename World => wz
    have hbz2 := (unhide HB6).trans (hbz.mono (unhide HB6).size)
    have hxz : isHb wz w3.heap.size (i : Int) (.slice ao y.length cap) := (hbz.block _ (unhide HX6).lt).trans (unhide HX6)
    obtain ⟨m0, m1, -, -⟩ := hxz.all
    have hIYz := (unhide HIY6).up hbz
    by_cases hjt : j < T.length
    · have hjti : (j : Int) < (T.length : Int) := by omega
      have hj0 : (0 : Int) ≤ (j : Int) := by omega
      obtain ⟨x, hx⟩ : ∃ x, T[j]? = some x := ⟨_, List.getElem?_eq_getElem hjt⟩
      have htk : T.take (j + 1) = T.take j ++ [x] := by rw [List.take_add_one, hx]; rfl
      obtain ⟨g2, o2, ro, rc, e2, hg2, cy, hIy⟩ := ((unhide HG).up hbz).nat hx
      subst e2
      cases b with
      | true =>
        have cyd : wz.drew.cell? ⟨g2, o2 + j, none⟩ = some (.slice ro x.length rc) := cy
        have m1d : wz.drew.cell? ⟨w3.heap.size, 1, none⟩ = some (.slice ao y.length cap) := m1
        have HBZ := hide hbz
        clear hbz hbz2 hxz hIYz hIy hx htk
        go_upto_region 16 with fail
        go_quiet (fail)
        go_wp2
        go_roundw
        case rel => exact ⟨j + 1, true, by omega, by go_num, rfl, hide (fun _ => rfl), ⟨(unhide HBZ).os, (unhide HBZ).tape, (unhide HBZ).output, (unhide HBZ).size, (unhide HBZ).block⟩⟩
        case measure => simp only [intOf]; omega
      | false =>
        have hsm := fun (u : World) (hu : Below wz.heap.size wz u) => same_full u.heap.size ro ao rc cap (natI x) (natI y) u (hIy.up hu) (hIYz.up hu)
        simp only [natI_len] at hsm
        have HSM := hide hsm
        have hx3l := hxz.lt
        have HQS : Hid (∀ u, Below wz.heap.size wz u → u.cell? ⟨g2, o2 + j, none⟩ = some (.slice ro x.length rc) ∧ u.cell? ⟨w3.heap.size, 1, none⟩ = some (.slice ao y.length cap)) := hide (fun u hu => ⟨(hu.cell (p := ⟨g2, o2 + j, none⟩) hg2).trans cy, (hu.cell (p := ⟨w3.heap.size, 1, none⟩) hx3l).trans m1⟩)
        have HBE : Hid (Below wz.heap.size wz wz.drew) := hide (Below.refl _ _).drew
        have HQ5 := hide (unhide HQS _ (unhide HBE))
        have HL2 : Hid (y ∈ T.take (j + 1) → decide (natI x = natI y) = true) := hide (fun h => by
          rw [htk, List.mem_append, List.mem_singleton] at h
          rcases h with h | h
          · exact absurd (unhide HL h) (by decide)
          · rw [h]; exact decide_eq_true rfl)
        have HBZ := hide hbz
        clear hbz hbz2 hxz hIYz hIy hx htk hsm cy m1 m0
        generalize decide (natI x = natI y) = q at *
        go_upto_region 16 with fail
        go_region_held3 (fun u => u.cell? ⟨g2, o2 + j, none⟩ = some (.slice ro x.length rc) ∧ u.cell? ⟨w3.heap.size, 1, none⟩ = some (.slice ao y.length cap))
          (first
            | with_reducible exact unhide HQ5
            | with_reducible exact j2)
          (first | (go_at_call 10; (with_reducible refine (unhide HSM _ (unhide HBE)).mono ?_); rintro e w8 ⟨rfl, hb⟩; have hb8 := (unhide HBE).trans hb; have j2 := unhide HQS w8 hb8; have HB8 := hide ((unhide HBZ).trans (hb8.mono (unhide HBZ).size)); clear hb hb8))
        all_goals
          go_wp2
          go_roundw
          case rel => exact ⟨j + 1, q, by omega, by go_num, by first | rfl | simp, HL2, unhide HB8⟩
          case measure => simp only [intOf]; omega
    · have hjti : ¬ (j : Int) < (T.length : Int) := by omega
      have hbt : b = true := unhide HL (by rw [List.take_of_length_le (by omega)]; exact unhide HYT2)
      subst hbt
      have HA := hide (unhide HAF ao cap wz hbz2 hIYz)
      have HBW := hide ((unhide HB2).trans (hbz2.mono (unhide HB2).size))
      clear hbz hbz2 hxz hIYz
      go_wp2_with fail
      refine (unhide HA).mono ?_
      rintro e w9 ⟨hb9, he⟩
      have HB9 := hide ((unhide HBW).trans (hb9.mono (unhide HBW).size))
      clear hb9 HA
      rcases he with rfl | rfl
      · go_wp2
        go_ret
        exact ⟨by first | rfl | simp, unhide HB9⟩
      · go_wp2
        go_ret
        exact ⟨by first | rfl | simp, unhide HB9⟩
end Go.Proofs.Ytphnjedoghopcaa
