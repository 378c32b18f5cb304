/-
  gamelaw.NimGrundy, walked: a right code, heaps that are won.
-/
import Derived.Test.YtphnjedoghopcaaQ34
namespace Go.Proofs.Ytphnjedoghopcaa
open Go.RowKit
attribute [local go_sem ↓] Go.wp_at_zero Go.wp_at_succ

set_option maxHeartbeats 8000000 in
set_option maxRecDepth 100000 in
theorem nimGrundy_won (s : ByteArray) (n : Int) (r : List Int) (ho : Option Addr) (hc : Nat) (w : World) (hsz : s.size ≤ maxLen) (hH : isIs w w.heap.size ho hc r) (hcd : codeB s = true) (hs : List Nat) (hr : r = natI hs) (hsl : hs.length ≤ 20) (h400 : ∀ n ∈ hs, n ≤ 400) (j0 : Nat) (x0 : List Nat) (ho0 : winO (digs (dig s)) hs = some (j0, x0)) :
    Calls Try.prog 3 #[.string s, .int .i64 n, .slice ho r.length hc] w fun e w' => e = .returned (.bool true) ∧ Below w.heap.size w w' := by
  have hl := hH.1
  have hm := hH.2.1
  unfold maxLen at hm
  obtain ⟨D, hD⟩ : ∃ D, D = digs (dig s) := ⟨_, rfl⟩
  have hD6 : D.length ≤ 6 := by rw [hD, digs_len]; exact (code_dig hcd).1
  have HG := hide (Grundy_any s n w hsz)
  have HW : Hid (∀ u, Below w.heap.size w u → Calls Try.prog 8 #[.string s, .slice ho r.length hc] u fun e w' => WiEnd s r u e w') := hide (fun u hu => Win_any s r ho hc u hsz (hH.up hu))
  have HC : Hid (∀ u, Calls Try.prog 9 #[.string s] u fun e w' => e = .returned (.bool true) ∧ w' = u) := hide (fun u => by have := rCode_any s u hsz; rw [hcd] at this; exact this)
  have HGS : Hid (∀ (k : Nat) (u : World), k ≤ 400 → Calls Try.prog 11 #[.string s, .int .i64 (k : Int)] u fun e w' => GsEnd D k u e w') := hide (fun k u hk => by rw [hD]; exact rGrundies_any s k u hcd hk)
  have HTK : Hid (∀ (k : Nat) (u : World), k ≤ 400 → Calls Try.prog 12 #[.string s, .int .i64 (k : Int)] u fun e w' => TkEnd (tks D k) u e w') := hide (fun k u hk => by rw [hD]; exact takings_any s k u hcd hk)
  have HCD := hide hcd
  have HD := hide hD
  have HH := hide hH
  clear hH hsz hcd hD
  have HR := hide hr
  have H400 := hide h400
  have HWO := hide ho0
  clear hr h400 ho0
  go_enter Try.func3, Try.ntmps3
  go_wp2_with fail
  refine (unhide HG).mono ?_
  rintro e w1 hg
  obtain ⟨go, gl, gc, E1, rfl, hg1, hg2⟩ := hg.form (unhide HCD)
  rw [← unhide HD] at hg2
  have HB1 := hide hg.low
  have HW1 := hide (unhide HW w1 hg.low)
  have HG1 := hide hg1
  have HG2 := hide hg2
  clear hg hg1 hg2 HG
  go_wp2_with fail
  refine (unhide HW1).mono ?_
  rintro e w2 hwn
  obtain ⟨b, i0, lo, ll, lc, E2, rfl, hwf⟩ := hwn.form (unhide HCD)
  obtain ⟨rfl, rfl, rfl, rfl, -⟩ := hwf.won hs j0 x0 (unhide HR) ⟨hsl, unhide H400⟩ (unhide HWO)
  have HO0 : Hid (winO D hs = some (j0, x0)) := hide (by rw [unhide HD]; exact unhide HWO)
  clear HWO
  have hl2 := hwn.low
  have hb2 := (unhide HB1).trans (hl2.mono (unhide HB1).size)
  obtain ⟨w3, hw3⟩ : ∃ w3, w3 = w2.alloc (.cells #[.int .i64 (j0 : Int), .slice lo x0.length lc] 27 (0, 0)) := ⟨_, rfl⟩
  have hl3 : Below w2.heap.size w2 w3 := by rw [hw3]; exact (Below.refl _ _).alloc (Nat.le_refl _) _
  have hb3 : Below w.heap.size w w3 := hb2.trans (hl3.mono hb2.size)
  have hx3 : isHb w3 w2.heap.size (j0 : Int) (.slice lo x0.length lc) := by rw [hw3]; exact heap_alloc_new w2 _
  obtain ⟨c0, c1, -, -⟩ := hx3.all
  have HWF := hide (hwf.up hl3)
  have HG3 : Hid (heapB n = true → E1 = 0 ∧ gl = n.toNat + 1 ∧ isIs w3 w3.heap.size go gc (natI (grL D (n.toNat + 1)))) := hide (fun h => by
    obtain ⟨a1, a2, a3⟩ := unhide HG2 h
    exact ⟨a1, a2, (a3.up hl2).up hl3⟩)
  have HB3 := hide hb3
  have HX3 := hide hx3
  have HW3 := hide hw3
  clear hwn hl2 hb2 hl3 hb3 hx3 hwf hw3 HW1 HG2 HB1
  go_upto_region 3 with fail
  rw [← unhide HW3]
  clear HW3
  go_wp2_with fail
  refine (unhide HC _).mono ?_
  rintro e w4 ⟨rfl, rfl⟩
  obtain ⟨hpn, hhpn⟩ : ∃ hpn, hpn = heapB n := ⟨_, rfl⟩
  have HHP := hide hhpn
  go_upto_region 6 with fail
  go_cut [73] (fun v wz => v = .bool (!hpn) ∧ wz = w4)
  case first =>
    by_cases h0 : n < 0
    · have : hpn = false := by rw [hhpn]; unfold heapB; rw [decide_eq_false (by omega)]; rfl
      subst this
      clear hhpn
      go_wp2
      go_meet
      case rel => exact ⟨rfl, rfl⟩
    · by_cases h4 : 400 < n
      · have : hpn = false := by rw [hhpn]; unfold heapB; rw [decide_eq_false (p := n ≤ 400) (by omega), Bool.and_false]
        subst this
        clear hhpn
        go_wp2
        go_meet
        case rel => exact ⟨rfl, rfl⟩
      · have : hpn = true := by rw [hhpn]; unfold heapB; rw [decide_eq_true (by omega), decide_eq_true (by omega)]; rfl
        subst this
        clear hhpn
        go_wp2
        go_meet
        case rel => exact ⟨by first | rfl | simp, rfl⟩
  case rest =>
  obtain ⟨rfl, rfl⟩ := hcut
  clear hhpn
  rename World => w3
  go_upto_if 73 with fail
  go_cut [] (fun wz => Below w3.heap.size w3 wz)
  case first =>
    cases hpn with
    | false =>
      obtain ⟨rfl, rfl⟩ := unhide HG1 (unhide HHP).symm
      go_wp2
      go_meet
      case rel => exact Below.refl _ _
    | true =>
      have hh := (unhide HHP).symm
      obtain ⟨rfl, hgl, hI3⟩ := unhide HG3 hh
      unfold heapB at hh
      rw [Bool.and_eq_true, decide_eq_true_eq, decide_eq_true_eq] at hh
      obtain ⟨k, rfl⟩ := Int.eq_ofNat_of_zero_le hh.1
      rw [Int.toNat_natCast] at hgl hI3
      subst hgl
      have HGK := hide (unhide HGS k w3 (by omega))
      have HI3 := hide hI3
      clear hh hI3
      go_wp2_with fail
      refine (unhide HGK).mono ?_
      rintro e w5 ⟨hb5, uo, uc, rfl, hI5⟩
      have hsm := same_any _ go uo gc uc (natI (grL D (k + 1))) w5 ((unhide HI3).up hb5) hI5
      rw [natI_len, grL_len] at hsm
      have HSM := hide hsm
      have HB5 := hide hb5
      clear hsm hb5 hI5
      go_wp2_with fail
      refine (unhide HSM).mono ?_
      rintro e w6 ⟨rfl, hb6⟩
      have HB6 := hide ((unhide HB5).trans (hb6.mono (unhide HB5).size))
      clear hb6
      go_wp2
      go_meet
      case rel => exact unhide HB6
  case rest =>
  rename World => w4
  have HWF4 := hide ((unhide HWF).up hcut)
  have HX4 : Hid (isHb w4 w2.heap.size (j0 : Int) (.slice lo x0.length lc)) := hide ((hcut.block _ (unhide HX3).lt).trans (unhide HX3))
  have hb4 := (unhide HB3).trans (hcut.mono (unhide HB3).size)
  have HB4 := hide hb4
  have HH4 := hide ((unhide HH).up hb4)
  clear hcut hb4 HWF HX3 HB3 HG1 HG3 HH HHP HW
  have hrl : r.length = hs.length := by rw [unhide HR, natI_len]
  have hH4' := unhide HH4
  rw [unhide HR] at hH4'
  have HHN := hide hH4'
  have HRL := hide hrl
  have h20i : decide ((r.length : Int) ≤ 20) = true := decide_eq_true (by omega)
  have h20j : (r.length : Int) ≤ 20 := by omega
  clear hH4' hrl HH4
  go_wp2
  go_loop [13, 14, 96] (fun mv ov iv => ∃ (k m : Nat), k ≤ hs.length ∧ iv = .int .i64 (k : Int) ∧ mv = .int .i64 (m : Int) ∧ ov = .bool true ∧ Hid (m = maxL (hs.take k))) (fun _ _ iv => hs.length - (intOf iv).toNat)
  case atStart => exact ⟨0, 0, Nat.zero_le _, rfl, rfl, by first | rfl | (rw [h20i]) | simp, hide rfl⟩
  case round =>
    obtain ⟨k, m, hk, rfl, rfl, rfl, HM⟩ := hrel
    by_cases hlt : k < hs.length
    · have hlti : (k : Int) < (r.length : Int) := by have := unhide HRL; omega
      have hk0 : (0 : Int) ≤ (k : Int) := by omega
      obtain ⟨g, off, e, hg, cx⟩ := (unhide HHN).nat hlt
      subst e
      have hx4 : hs[k]! ≤ 400 := by rw [getElem!_pos hs k hlt]; exact unhide H400 _ (List.getElem_mem hlt)
      have hsn : maxL (hs.take (k + 1)) = max m hs[k]! := by rw [List.take_succ_eq_append_getElem hlt, maxL_snoc, unhide HM, getElem!_pos hs k hlt]
      generalize hs[k]! = x at *
      have h0 : (0 : Int) ≤ (x : Int) := by omega
      have h4 : (x : Int) ≤ 400 := by omega
      have HSN := hide hsn.symm
      clear hsn HM
      go_wp2
      all_goals
        go_round
        case rel => exact ⟨k + 1, max m x, by omega, by go_num, by first | rfl | go_num | (congr 1; omega), by first | rfl | simp, HSN⟩
        case measure => simp only [intOf]; omega
    · have hlti : ¬ (k : Int) < (r.length : Int) := by have := unhide HRL; omega
      obtain ⟨M, hM⟩ : ∃ M, M = maxL hs := ⟨_, rfl⟩
      have hmM : m = M := by rw [unhide HM, hM, List.take_of_length_le (by omega)]
      subst hmM
      have hM4 : m ≤ 400 := by rw [hM]; exact maxL_le hs 0 400 (by omega) (unhide H400)
      have hMge : ∀ x ∈ hs, x ≤ m := fun x hx => by rw [hM]; exact maxL_ge hs 0 x hx
      have HGM := hide (unhide HGS m w4 hM4)
      have HGE := hide hMge
      clear hM hMge HM
      go_wp2_with fail
      refine (unhide HGM).mono ?_
      rintro e w5 ⟨hb5, vo, vc, rfl, hIV⟩
      obtain ⟨W, hWW⟩ : ∃ W, W = grL D (m + 1) := ⟨_, rfl⟩
      have hWl : W.length = m + 1 := by rw [hWW]; exact grL_len _ _
      have hWa : ∀ n, n ≤ m → W[n]! = gr D n := fun n hn => by rw [hWW]; exact grL_at _ (by omega)
      rw [← hWW] at hIV
      have hvl := hIV.1
      have hvm := hIV.2.1
      rw [natI_len, hWl] at hvl
      unfold maxLen at hvm
      have HV5 := hide hIV
      have HH5 := hide ((unhide HHN).up hb5)
      have HWF5 := hide ((unhide HWF4).up hb5)
      have HX5 : Hid (isHb w5 w2.heap.size (j0 : Int) (.slice lo x0.length lc)) := hide ((hb5.block _ (unhide HX4).lt).trans (unhide HX4))
      have HB5 := hide ((unhide HB4).trans (hb5.mono (unhide HB4).size))
      have HWA := hide hWa
      clear hb5 hIV hWa hWW HHN HWF4 HX4 HB4 HGM HGS
      go_wp2
      go_loop [17, 133] (fun av iv => ∃ (k S' : Nat), k ≤ hs.length ∧ iv = .int .i64 (k : Int) ∧ av = .int .i64 (S' : Int) ∧ S' < 4096 ∧ Hid (S' = grs D (hs.take k))) (fun _ iv => hs.length - (intOf iv).toNat)
      case atStart => exact ⟨0, 0, Nat.zero_le _, rfl, rfl, by omega, hide rfl⟩
      case round =>
        obtain ⟨k, S', hk, rfl, rfl, hSb, HS⟩ := hrel
        by_cases hlt : k < hs.length
        · have hlti : (k : Int) < (r.length : Int) := by have := unhide HRL; omega
          have hk0 : (0 : Int) ≤ (k : Int) := by omega
          obtain ⟨g, off, e, hg, cx⟩ := (unhide HH5).nat hlt
          subst e
          have hxM : hs[k]! ≤ m := by rw [getElem!_pos hs k hlt]; exact unhide HGE _ (List.getElem_mem hlt)
          have htk : hs.take (k + 1) = hs.take k ++ [hs[k]!] := by rw [getElem!_pos hs k hlt]; exact List.take_succ_eq_append_getElem hlt
          generalize hs[k]! = x at *
          obtain ⟨g2, o2, e2, hg2, c2⟩ := (unhide HV5).nat (k := x) (by omega)
          subst e2
          rw [unhide HWA x hxM] at c2
          have hv4 : gr D x < 4096 := gr_lt hD6 (by omega)
          have hsn : grs D (hs.take (k + 1)) = S' ^^^ gr D x := by rw [htk, grs_app, grs_cons, grs_nil, Nat.xor_zero, unhide HS]
          generalize gr D x = v at *
          have hxx := xor_i64 S' v (by omega) (by omega)
          have hb' : S' ^^^ v < 4096 := Nat.xor_lt_two_pow (n := 12) hSb hv4
          generalize S' ^^^ v = Z at *
          have hxi : (x : Int) < ((m + 1 : Nat) : Int) := by omega
          have hxn : x < m + 1 := by omega
          have hx0 : (0 : Int) ≤ (x : Int) := by omega
          have HSN := hide hsn.symm
          clear hsn htk
          go_wp2
          go_round
          case rel => exact ⟨k + 1, Z, by omega, by go_num, rfl, hb', HSN⟩
          case measure => simp only [intOf]; omega
        · have hlti : ¬ (k : Int) < (r.length : Int) := by have := unhide HRL; omega
          have hSe : S' = grs D hs := by rw [unhide HS, List.take_of_length_le (by omega)]
          have hS0 : ¬ S' = 0 := fun h => by have := winO_none.2 (hSe.symm.trans h); rw [unhide HO0] at this; cases this
          have hS0b : ((S' : Int) == 0) = false := beq_eq_false_iff_ne.2 (by omega)
          have HSE := hide hSe
          have HS0 := hide hS0
          clear hSe hS0 HS
          go_wp2
          go_loopw [155] (fun iv wr => ∃ k : Nat, k ≤ hs.length ∧ iv = .int .i64 (k : Int) ∧ Hid (winO D hs = winF D S' k (hs.drop k)) ∧ Below w5.heap.size w5 wr) (fun iv _ => hs.length - (intOf iv).toNat)
          case atStart => exact ⟨0, Nat.zero_le _, rfl, hide (by rw [unhide HSE]; rfl), Below.refl _ _⟩
          case round =>
            obtain ⟨k, hk, rfl, HO, hbr⟩ := hrel
            rename World => wr
            by_cases hlt : k < hs.length
            · have hlti : (k : Int) < (r.length : Int) := by have := unhide HRL; omega
              have hk0 : (0 : Int) ≤ (k : Int) := by omega
              obtain ⟨g, off, e, hg, cx⟩ := ((unhide HH5).up hbr).nat hlt
              subst e
              have hst := unhide HO
              rw [List.drop_eq_getElem_cons hlt] at hst
              have hmem := List.getElem_mem hlt
              rw [getElem!_pos hs k hlt] at cx
              have hx4 := unhide H400 _ hmem
              have hxM := unhide HGE _ hmem
              generalize hs[k] = x at *
              rw [winF_cons] at hst
              have hv4 : gr D x < 4096 := gr_lt hD6 hx4
              have HTT := hide (unhide HTK x wr hx4)
              have HST := hide hst
              have HBR := hide hbr
              have cxh : Hid (∀ u, Below wr.heap.size wr u → u.cell? ⟨g, off + k, none⟩ = some (.int .i64 (x : Int))) := hide (fun u hu => (hu.cell (p := ⟨g, off + k, none⟩) hg).trans cx)
              clear hst hbr hmem
              go_wp2_with fail
              refine (unhide HTT).mono ?_
              rintro e w6 ⟨hb6, tv, rfl, htk⟩
              obtain ⟨to_, tc, htv, hG⟩ := htk.done
              subst htv
              have cx6 := unhide cxh w6 hb6
              have hb56 := (unhide HBR).trans (hb6.mono (unhide HBR).size)
              have hV6 := (unhide HV5).up hb56
              have hlx : ∀ (i : Nat) (y : List Nat), (tks D x)[i]? = some y → (∀ z ∈ y, z < x) ∧ y.length ≤ 2 := fun i y hy => by
                have hm := List.mem_of_getElem? hy
                exact ⟨fun z hz => ((tks_lt hm).1 z hz).2, (tks_lt hm).2⟩
              obtain ⟨T, hT⟩ : ∃ T, T = tks D x := ⟨_, rfl⟩
              have hleave : leaveO D x (S' ^^^ gr D x) = T.find? (fun y => decide (grs D y = S' ^^^ gr D x)) := by rw [hT]; rfl
              rw [← hT] at hG hlx ⊢
              obtain ⟨gv, ov, ev, hgv, cv⟩ := hV6.nat (k := x) (by omega)
              rw [unhide HWA x hxM] at cv
              obtain ⟨v, hv⟩ : ∃ v, v = gr D x := ⟨_, rfl⟩
              rw [← hv] at cv hv4
              have hxx := xor_i64 S' v (by omega) (by omega)
              obtain ⟨Q, hQ⟩ : ∃ Q, Q = S' ^^^ v := ⟨_, rfl⟩
              have hQb : Q < 4096 := by rw [hQ]; exact Nat.xor_lt_two_pow (n := 12) hSb hv4
              have HST2 : Hid (winO D hs = stepW k (T.find? (fun y => decide (grs D y = Q))) (winF D S' (k + 1) (hs.drop (k + 1)))) := hide (by rw [unhide HST, hleave, ← hv, ← hQ])
              rw [← hQ] at hxx
              subst ev
              have hgl := hG.1
              have hgm := hG.2.1
              rw [List.length_map] at hgl
              unfold maxLen at hgm
              have hxi : (x : Int) < ((m + 1 : Nat) : Int) := by omega
              have hxn : x < m + 1 := by omega
              have hx0 : (0 : Int) ≤ (x : Int) := by omega
              have HG6 := hide hG
              have HV6 := hide hV6
              have HLX := hide hlx
              have HB56 := hide hb56
              have HB6 := hide ((unhide HB5).trans (hb56.mono (unhide HB5).size))
              have HWF6 := hide ((unhide HWF5).up hb56)
              have HX6 : Hid (isHb w6 w2.heap.size (j0 : Int) (.slice lo x0.length lc)) := hide ((hb56.block _ (unhide HX5).lt).trans (unhide HX5))
              clear hb6 htk hG hV6 hlx hb56 hT hleave hv hQ HST HO cxh HTT cx hg
              go_wp2
              go_loop [166] (fun jv => ∃ j : Nat, j ≤ T.length ∧ jv = .int .i64 (j : Int) ∧ Hid (T.find? (fun y => decide (grs D y = Q)) = (T.drop j).find? (fun y => decide (grs D y = Q)))) (fun jv => T.length - (intOf jv).toNat)
              case atStart => exact ⟨0, Nat.zero_le _, rfl, hide rfl⟩
              case round =>
                obtain ⟨j, hj, rfl, HJ⟩ := hrel
                by_cases hltj : j < T.length
                · have hltji : (j : Int) < (T.length : Int) := by omega
                  have hj0 : (0 : Int) ≤ (j : Int) := by omega
                  have hy := List.getElem?_eq_getElem hltj
                  obtain ⟨hly, hl2⟩ := unhide HLX j _ hy
                  obtain ⟨gt, ot, ro, rc, et, hgt, ct, hIy⟩ := (unhide HG6).nat hy
                  subst et
                  have hstj := unhide HJ
                  rw [List.drop_eq_getElem_cons hltj, List.find?_cons] at hstj
                  clear hy
                  generalize T[j] = y at *
                  have hyl := hIy.1
                  have hym := hIy.2.1
                  rw [natI_len] at hyl
                  unfold maxLen at hym
                  have HIY := hide hIy
                  have HLY := hide hly
                  have HSTJ := hide hstj
                  clear hIy hly hstj
                  go_wp2
                  go_loop [22, 183] (fun xv kv => ∃ (q X : Nat), q ≤ y.length ∧ kv = .int .i64 (q : Int) ∧ xv = .int .i64 (X : Int) ∧ X < 4096 ∧ Hid (X = Q ^^^ grs D (y.take q))) (fun _ kv => y.length - (intOf kv).toNat)
                  case atStart => exact ⟨0, Q, Nat.zero_le _, rfl, rfl, hQb, hide (by rw [List.take_zero, grs_nil, Nat.xor_zero])⟩
                  case round =>
                    obtain ⟨q, X, hq, rfl, rfl, hX, HX⟩ := hrel
                    by_cases hltq : q < y.length
                    · have hltqi : (q : Int) < (y.length : Int) := by omega
                      have hq0 : (0 : Int) ≤ (q : Int) := by omega
                      obtain ⟨g3, o3, e3, hg3, c3⟩ := (unhide HIY).nat hltq
                      subst e3
                      have hz : y[q]! < x := by rw [getElem!_pos y q hltq]; exact unhide HLY _ (List.getElem_mem hltq)
                      have htq : y.take (q + 1) = y.take q ++ [y[q]!] := by rw [getElem!_pos y q hltq]; exact List.take_succ_eq_append_getElem hltq
                      generalize y[q]! = z at *
                      obtain ⟨g4, o4, e4, hg4, c4⟩ := (unhide HV6).nat (k := z) (by omega)
                      simp only [Option.some.injEq, Addr.mk.injEq, and_true] at e4
                      obtain ⟨rfl, rfl⟩ := e4
                      rw [unhide HWA z (by omega)] at c4
                      have hz4 : gr D z < 4096 := gr_lt hD6 (by omega)
                      have hxs : Q ^^^ grs D (y.take (q + 1)) = X ^^^ gr D z := by rw [htq, grs_app, grs_cons, grs_nil, Nat.xor_zero, ← Nat.xor_assoc, ← unhide HX]
                      generalize gr D z = vz at *
                      have hxx2 := xor_i64 X vz (by omega) (by omega)
                      have hb' : X ^^^ vz < 4096 := Nat.xor_lt_two_pow (n := 12) hX hz4
                      generalize X ^^^ vz = Z at *
                      have hzi : (z : Int) < ((m + 1 : Nat) : Int) := by omega
                      have hzn : z < m + 1 := by omega
                      have hz0 : (0 : Int) ≤ (z : Int) := by omega
                      have HXS := hide hxs.symm
                      clear hxs htq
                      go_wp2
                      go_round
                      case rel => exact ⟨q + 1, Z, by omega, by go_num, rfl, hb', HXS⟩
                      case measure => simp only [intOf]; omega
                    · have hltqi : ¬ (q : Int) < (y.length : Int) := by omega
                      have hXe : X = Q ^^^ grs D y := by rw [unhide HX, List.take_of_length_le (by omega)]
                      by_cases hX0 : X = 0
                      · have hX0b : ((X : Int) == 0) = true := by simp [hX0]
                        have hgy : grs D y = Q := (xor_zero_of (by rw [← hXe]; exact hX0)).symm
                        have hwon : winO (digs (dig s)) hs = some (k, y) := by
                          rw [← unhide HD, unhide HST2, unhide HSTJ]
                          simp only [hgy, decide_true]
                          rfl
                        have hwD : winO D hs = some (k, y) := by rw [unhide HD]; exact hwon
                        have hje : some (k, y) = some (j0, x0) := hwD.symm.trans (unhide HO0)
                        simp only [Option.some.injEq, Prod.mk.injEq] at hje
                        obtain ⟨rfl, rfl⟩ := hje
                        have hIL := ((unhide HWF6).won hs k y (unhide HR) ⟨hsl, unhide H400⟩ hwon).2.2.2.2
                        clear hwD
                        obtain ⟨m0, m1, -, -⟩ := (unhide HX6).all
                        have hkk : ((k : Int) == (k : Int)) = true := by simp
                        have HSM : Hid (∀ u, Below w6.heap.size w6 u → Calls Try.prog 10 #[.slice lo y.length lc, .slice ro y.length rc] u fun e w' => e = .returned (.bool true) ∧ Below u.heap.size u w') := hide (fun u hu => by
                          have := same_any _ lo ro lc rc (natI y) u (hIL.up hu) ((unhide HIY).up hu)
                          rw [natI_len] at this; exact this)
                        have HBD : Hid (Below w6.heap.size w6 w6.drew) := hide ⟨rfl, rfl, rfl, Nat.le_refl _, fun _ _ => rfl⟩
                        have hx6l := (unhide HX6).lt
                        have q1 : w6.drew.cell? ⟨w2.heap.size, 0, none⟩ = some (.int .i64 (k : Int)) ∧ w6.drew.cell? ⟨w2.heap.size, 1, none⟩ = some (.slice lo y.length lc) ∧ w6.drew.cell? ⟨gt, ot + j, none⟩ = some (.slice ro y.length rc) := ⟨m0, m1, ct⟩
                        have HQ : Hid (∀ u, Below w6.heap.size w6 u → u.cell? ⟨w2.heap.size, 0, none⟩ = some (.int .i64 (k : Int)) ∧ u.cell? ⟨w2.heap.size, 1, none⟩ = some (.slice lo y.length lc) ∧ u.cell? ⟨gt, ot + j, none⟩ = some (.slice ro y.length rc)) := hide (fun u hu => ⟨(hu.cell (p := ⟨w2.heap.size, 0, none⟩) hx6l).trans m0, (hu.cell (p := ⟨w2.heap.size, 1, none⟩) hx6l).trans m1, (hu.cell (p := ⟨gt, ot + j, none⟩) hgt).trans ct⟩)
                        have HQ1 := hide q1
                        clear hXe hX0 hgy hwon hIL m0 m1 ct q1
                        go_upto_region 43 with fail
                        go_region_held3 (fun u => u.cell? ⟨w2.heap.size, 0, none⟩ = some (.int .i64 (k : Int)) ∧ u.cell? ⟨w2.heap.size, 1, none⟩ = some (.slice lo y.length lc) ∧ u.cell? ⟨gt, ot + j, none⟩ = some (.slice ro y.length rc))
                          (first
                            | with_reducible exact unhide HQ1
                            | with_reducible exact j1)
                          (first | (go_at_call 10; (with_reducible refine (unhide HSM _ (unhide HBD)).mono ?_); rintro e w8 ⟨rfl, hb⟩; have hb8 := (unhide HBD).trans hb; have j1 := unhide HQ w8 hb8; have HB8 := hide ((unhide HB6).trans (hb8.mono (unhide HB6).size)); clear hb hb8))
                        all_goals go_wp2
                        all_goals go_ret
                        all_goals exact ⟨by first | rfl | simp, unhide HB8⟩
                      · have hX0b : ((X : Int) == 0) = false := beq_eq_false_iff_ne.2 (by omega)
                        have HJ2 : Hid (T.find? (fun y => decide (grs D y = Q)) = (T.drop (j + 1)).find? (fun y => decide (grs D y = Q))) := hide (by
                          rw [unhide HSTJ]
                          rw [decide_eq_false (fun h => hX0 (by rw [hXe, h, Nat.xor_self]))])
                        clear hXe hX0
                        go_wp2
                        go_round
                        case rel => exact ⟨j + 1, by omega, by go_num, HJ2⟩
                        case measure => simp only [intOf]; omega
                · have hltji : ¬ (j : Int) < (T.length : Int) := by omega
                  have HO2 : Hid (winO D hs = winF D S' (k + 1) (hs.drop (k + 1))) := hide (by rw [unhide HST2, unhide HJ, List.drop_eq_nil_of_le (by omega)]; rfl)
                  go_wp2
                  go_roundw
                  case rel => exact ⟨k + 1, by omega, by go_num, HO2, unhide HB56⟩
                  case measure => simp only [intOf]; omega
            · have hno := unhide HO
              rw [List.drop_eq_nil_of_le (by omega), winF] at hno
              exact absurd ((unhide HSE).trans (winO_none.1 hno)) (unhide HS0)
end Go.Proofs.Ytphnjedoghopcaa
