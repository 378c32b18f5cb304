/-
  gamelaw.NimGrundy, walked: a right code, heaps that are lost.
-/
import Derived.Test.YtphnjedoghopcaaQ34
namespace Go.Proofs.Ytphnjedoghopcaa
open Go.RowKit
attribute [local go_sem ↓] Go.wp_at_zero Go.wp_at_succ

set_option maxHeartbeats 8000000 in
set_option maxRecDepth 100000 in
theorem nimGrundy_zero (s : ByteArray) (n : Int) (r : List Int) (ho : Option Addr) (hc : Nat) (w : World) (hsz : s.size ≤ maxLen) (hH : isIs w w.heap.size ho hc r) (hcd : codeB s = true) (hs : List Nat) (hr : r = natI hs) (hsl : hs.length ≤ 20) (h400 : ∀ n ∈ hs, n ≤ 400) (ho0 : winO (digs (dig s)) hs = none) :
    Calls Try.prog 3 #[.string s, .int .i64 n, .slice ho r.length hc] w fun e w' => e = .returned (.bool true) ∧ Below w.heap.size w w' := by
  have hl := hH.1
  have hm := hH.2.1
  unfold maxLen at hm
  obtain ⟨D, hD⟩ : ∃ D, D = digs (dig s) := ⟨_, rfl⟩
  have hD6 : D.length ≤ 6 := by rw [hD, digs_len]; exact (code_dig hcd).1
  have HG := hide (Grundy_any s n w hsz)
  have HW : Hid (∀ u, Below w.heap.size w u → Calls Try.prog 8 #[.string s, .slice ho r.length hc] u fun e w' => WiEnd s r u e w') := hide (fun u hu => Win_any s r ho hc u hsz (hH.up hu))
  have HC : Hid (∀ u, Calls Try.prog 9 #[.string s] u fun e w' => e = .returned (.bool true) ∧ w' = u) := hide (fun u => by have := rCode_any s u hsz; rw [hcd] at this; exact this)
  have HGS : Hid (∀ (k : Nat) (u : World), k ≤ 400 → Calls Try.prog 11 #[.string s, .int .i64 (k : Int)] u fun e w' => GsEnd D k u e w') := hide (fun k u hk => by rw [hD]; exact rGrundies_any s k u hcd hk)
  have HTK : Hid (∀ (k : Nat) (u : World), k ≤ 400 → Calls Try.prog 12 #[.string s, .int .i64 (k : Int)] u fun e w' => TkEnd (tks D k) u e w') := hide (fun k u hk => by rw [hD]; exact takings_any s k u hcd hk)
  have HCD := hide hcd
  have HD := hide hD
  have HH := hide hH
  clear hH hsz hcd hD
  have HR := hide hr
  have H400 := hide h400
  have HWO := hide ho0
  clear hr h400 ho0
  go_enter Try.func3, Try.ntmps3
  go_wp2_with fail
  refine (unhide HG).mono ?_
  rintro e w1 hg
  obtain ⟨go, gl, gc, E1, rfl, hg1, hg2⟩ := hg.form (unhide HCD)
  rw [← unhide HD] at hg2
  have HB1 := hide hg.low
  have HW1 := hide (unhide HW w1 hg.low)
  have HG1 := hide hg1
  have HG2 := hide hg2
  clear hg hg1 hg2 HG
  go_wp2_with fail
  refine (unhide HW1).mono ?_
  rintro e w2 hwn
  obtain ⟨b, i0, lo, ll, lc, E2, rfl, hwf⟩ := hwn.form (unhide HCD)
  obtain ⟨rfl, rfl, rfl, rfl⟩ := hwf.lost hs (unhide HR) ⟨hsl, unhide H400⟩ (unhide HWO)
  have HO0 : Hid (winO D hs = none) := hide (by rw [unhide HD]; exact unhide HWO)
  clear HWO
  have hl2 := hwn.low
  have hb2 := (unhide HB1).trans (hl2.mono (unhide HB1).size)
  obtain ⟨w3, hw3⟩ : ∃ w3, w3 = w2.alloc (.cells #[.int .i64 (0 : Int), .slice lo 0 lc] 27 (0, 0)) := ⟨_, rfl⟩
  have hl3 : Below w2.heap.size w2 w3 := by rw [hw3]; exact (Below.refl _ _).alloc (Nat.le_refl _) _
  have hb3 : Below w.heap.size w w3 := hb2.trans (hl3.mono hb2.size)
  have hx3 : isHb w3 w2.heap.size (0 : Int) (.slice lo 0 lc) := by rw [hw3]; exact heap_alloc_new w2 _
  obtain ⟨c0, c1, -, -⟩ := hx3.all
  have HWF := hide (hwf.up hl3)
  have HG3 : Hid (heapB n = true → E1 = 0 ∧ gl = n.toNat + 1 ∧ isIs w3 w3.heap.size go gc (natI (grL D (n.toNat + 1)))) := hide (fun h => by
    obtain ⟨a1, a2, a3⟩ := unhide HG2 h
    exact ⟨a1, a2, (a3.up hl2).up hl3⟩)
  have HB3 := hide hb3
  have HX3 := hide hx3
  have HW3 := hide hw3
  clear hwn hl2 hb2 hl3 hb3 hx3 hwf hw3 HW1 HG2 HB1
  go_upto_region 3 with fail
  rw [← unhide HW3]
  clear HW3
  go_wp2_with fail
  refine (unhide HC _).mono ?_
  rintro e w4 ⟨rfl, rfl⟩
  obtain ⟨hpn, hhpn⟩ : ∃ hpn, hpn = heapB n := ⟨_, rfl⟩
  have HHP := hide hhpn
  go_upto_region 6 with fail
  go_cut [73] (fun v wz => v = .bool (!hpn) ∧ wz = w4)
  case first =>
    by_cases h0 : n < 0
    · have : hpn = false := by rw [hhpn]; unfold heapB; rw [decide_eq_false (by omega)]; rfl
      subst this
      clear hhpn
      go_wp2
      go_meet
      case rel => exact ⟨rfl, rfl⟩
    · by_cases h4 : 400 < n
      · have : hpn = false := by rw [hhpn]; unfold heapB; rw [decide_eq_false (p := n ≤ 400) (by omega), Bool.and_false]
        subst this
        clear hhpn
        go_wp2
        go_meet
        case rel => exact ⟨rfl, rfl⟩
      · have : hpn = true := by rw [hhpn]; unfold heapB; rw [decide_eq_true (by omega), decide_eq_true (by omega)]; rfl
        subst this
        clear hhpn
        go_wp2
        go_meet
        case rel => exact ⟨by first | rfl | simp, rfl⟩
  case rest =>
  obtain ⟨rfl, rfl⟩ := hcut
  clear hhpn
  rename World => w3
  go_upto_if 73 with fail
  go_cut [] (fun wz => Below w3.heap.size w3 wz)
  case first =>
    cases hpn with
    | false =>
      obtain ⟨rfl, rfl⟩ := unhide HG1 (unhide HHP).symm
      go_wp2
      go_meet
      case rel => exact Below.refl _ _
    | true =>
      have hh := (unhide HHP).symm
      obtain ⟨rfl, hgl, hI3⟩ := unhide HG3 hh
      unfold heapB at hh
      rw [Bool.and_eq_true, decide_eq_true_eq, decide_eq_true_eq] at hh
      obtain ⟨k, rfl⟩ := Int.eq_ofNat_of_zero_le hh.1
      rw [Int.toNat_natCast] at hgl hI3
      subst hgl
      have HGK := hide (unhide HGS k w3 (by omega))
      have HI3 := hide hI3
      clear hh hI3
      go_wp2_with fail
      refine (unhide HGK).mono ?_
      rintro e w5 ⟨hb5, uo, uc, rfl, hI5⟩
      have hsm := same_any _ go uo gc uc (natI (grL D (k + 1))) w5 ((unhide HI3).up hb5) hI5
      rw [natI_len, grL_len] at hsm
      have HSM := hide hsm
      have HB5 := hide hb5
      clear hsm hb5 hI5
      go_wp2_with fail
      refine (unhide HSM).mono ?_
      rintro e w6 ⟨rfl, hb6⟩
      have HB6 := hide ((unhide HB5).trans (hb6.mono (unhide HB5).size))
      clear hb6
      go_wp2
      go_meet
      case rel => exact unhide HB6
  case rest =>
  rename World => w4
  have HWF4 := hide ((unhide HWF).up hcut)
  have HX4 : Hid (isHb w4 w2.heap.size (0 : Int) (.slice lo 0 lc)) := hide ((hcut.block _ (unhide HX3).lt).trans (unhide HX3))
  have hb4 := (unhide HB3).trans (hcut.mono (unhide HB3).size)
  have HB4 := hide hb4
  have HH4 := hide ((unhide HH).up hb4)
  clear hcut hb4 HWF HX3 HB3 HG1 HG3 HH HHP HW
  have hrl : r.length = hs.length := by rw [unhide HR, natI_len]
  have hH4' := unhide HH4
  rw [unhide HR] at hH4'
  have HHN := hide hH4'
  have HRL := hide hrl
  have h20i : decide ((r.length : Int) ≤ 20) = true := decide_eq_true (by omega)
  have h20j : (r.length : Int) ≤ 20 := by omega
  clear hH4' hrl HH4
  go_wp2
  go_loop [13, 14, 96] (fun mv ov iv => ∃ (k m : Nat), k ≤ hs.length ∧ iv = .int .i64 (k : Int) ∧ mv = .int .i64 (m : Int) ∧ ov = .bool true ∧ Hid (m = maxL (hs.take k))) (fun _ _ iv => hs.length - (intOf iv).toNat)
  case atStart => exact ⟨0, 0, Nat.zero_le _, rfl, rfl, by first | rfl | (rw [h20i]) | simp, hide rfl⟩
  case round =>
    obtain ⟨k, m, hk, rfl, rfl, rfl, HM⟩ := hrel
    by_cases hlt : k < hs.length
    · have hlti : (k : Int) < (r.length : Int) := by have := unhide HRL; omega
      have hk0 : (0 : Int) ≤ (k : Int) := by omega
      obtain ⟨g, off, e, hg, cx⟩ := (unhide HHN).nat hlt
      subst e
      have hx4 : hs[k]! ≤ 400 := by rw [getElem!_pos hs k hlt]; exact unhide H400 _ (List.getElem_mem hlt)
      have hsn : maxL (hs.take (k + 1)) = max m hs[k]! := by rw [List.take_succ_eq_append_getElem hlt, maxL_snoc, unhide HM, getElem!_pos hs k hlt]
      generalize hs[k]! = x at *
      have h0 : (0 : Int) ≤ (x : Int) := by omega
      have h4 : (x : Int) ≤ 400 := by omega
      have HSN := hide hsn.symm
      clear hsn HM
      go_wp2
      all_goals
        go_round
        case rel => exact ⟨k + 1, max m x, by omega, by go_num, by first | rfl | go_num | (congr 1; omega), by first | rfl | simp, HSN⟩
        case measure => simp only [intOf]; omega
    · have hlti : ¬ (k : Int) < (r.length : Int) := by have := unhide HRL; omega
      obtain ⟨M, hM⟩ : ∃ M, M = maxL hs := ⟨_, rfl⟩
      have hmM : m = M := by rw [unhide HM, hM, List.take_of_length_le (by omega)]
      subst hmM
      have hM4 : m ≤ 400 := by rw [hM]; exact maxL_le hs 0 400 (by omega) (unhide H400)
      have hMge : ∀ x ∈ hs, x ≤ m := fun x hx => by rw [hM]; exact maxL_ge hs 0 x hx
      have HGM := hide (unhide HGS m w4 hM4)
      have HGE := hide hMge
      clear hM hMge HM
      go_wp2_with fail
      refine (unhide HGM).mono ?_
      rintro e w5 ⟨hb5, vo, vc, rfl, hIV⟩
      obtain ⟨W, hWW⟩ : ∃ W, W = grL D (m + 1) := ⟨_, rfl⟩
      have hWl : W.length = m + 1 := by rw [hWW]; exact grL_len _ _
      have hWa : ∀ n, n ≤ m → W[n]! = gr D n := fun n hn => by rw [hWW]; exact grL_at _ (by omega)
      rw [← hWW] at hIV
      have hvl := hIV.1
      have hvm := hIV.2.1
      rw [natI_len, hWl] at hvl
      unfold maxLen at hvm
      have HV5 := hide hIV
      have HH5 := hide ((unhide HHN).up hb5)
      have HWF5 := hide ((unhide HWF4).up hb5)
      have HX5 : Hid (isHb w5 w2.heap.size (0 : Int) (.slice lo 0 lc)) := hide ((hb5.block _ (unhide HX4).lt).trans (unhide HX4))
      have HB5 := hide ((unhide HB4).trans (hb5.mono (unhide HB4).size))
      have HWA := hide hWa
      clear hb5 hIV hWa hWW HHN HWF4 HX4 HB4 HGM HGS
      go_wp2
      go_loop [17, 133] (fun av iv => ∃ (k S' : Nat), k ≤ hs.length ∧ iv = .int .i64 (k : Int) ∧ av = .int .i64 (S' : Int) ∧ S' < 4096 ∧ Hid (S' = grs D (hs.take k))) (fun _ iv => hs.length - (intOf iv).toNat)
      case atStart => exact ⟨0, 0, Nat.zero_le _, rfl, rfl, by omega, hide rfl⟩
      case round =>
        obtain ⟨k, S', hk, rfl, rfl, hSb, HS⟩ := hrel
        by_cases hlt : k < hs.length
        · have hlti : (k : Int) < (r.length : Int) := by have := unhide HRL; omega
          have hk0 : (0 : Int) ≤ (k : Int) := by omega
          obtain ⟨g, off, e, hg, cx⟩ := (unhide HH5).nat hlt
          subst e
          have hxM : hs[k]! ≤ m := by rw [getElem!_pos hs k hlt]; exact unhide HGE _ (List.getElem_mem hlt)
          have htk : hs.take (k + 1) = hs.take k ++ [hs[k]!] := by rw [getElem!_pos hs k hlt]; exact List.take_succ_eq_append_getElem hlt
          generalize hs[k]! = x at *
          obtain ⟨g2, o2, e2, hg2, c2⟩ := (unhide HV5).nat (k := x) (by omega)
          subst e2
          rw [unhide HWA x hxM] at c2
          have hv4 : gr D x < 4096 := gr_lt hD6 (by omega)
          have hsn : grs D (hs.take (k + 1)) = S' ^^^ gr D x := by rw [htk, grs_app, grs_cons, grs_nil, Nat.xor_zero, unhide HS]
          generalize gr D x = v at *
          have hxx := xor_i64 S' v (by omega) (by omega)
          have hb' : S' ^^^ v < 4096 := Nat.xor_lt_two_pow (n := 12) hSb hv4
          generalize S' ^^^ v = Z at *
          have hxi : (x : Int) < ((m + 1 : Nat) : Int) := by omega
          have hxn : x < m + 1 := by omega
          have hx0 : (0 : Int) ≤ (x : Int) := by omega
          have HSN := hide hsn.symm
          clear hsn htk
          go_wp2
          go_round
          case rel => exact ⟨k + 1, Z, by omega, by go_num, rfl, hb', HSN⟩
          case measure => simp only [intOf]; omega
        · have hlti : ¬ (k : Int) < (r.length : Int) := by have := unhide HRL; omega
          have hSe : S' = grs D hs := by rw [unhide HS, List.take_of_length_le (by omega)]
          have hS0b : ((S' : Int) == 0) = true := by
            rw [hSe, winO_none.1 (unhide HO0)]; rfl
          clear hSe
          go_wp2
          go_ret
          exact ⟨by first | rfl | simp, unhide HB5⟩
end Go.Proofs.Ytphnjedoghopcaa
