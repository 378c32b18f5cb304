/-
  gamelaw.NimGrundy, walked: a right code.
-/
import Derived.Test.YtphnjedoghopcaaQ33
namespace Go.Proofs.Ytphnjedoghopcaa
open Go.RowKit
attribute [local go_sem ↓] Go.wp_at_zero Go.wp_at_succ

def maxI (r : List Int) : Int := r.foldl max 0
theorem maxI_snoc (r : List Int) (x : Int) : maxI (r ++ [x]) = max (maxI r) x := by simp [maxI]
theorem maxI_nat (hs : List Nat) : maxI (natI hs) = (maxL hs : Int) := by
  have gen : ∀ (l : List Nat) (a : Nat), (natI l).foldl max (a : Int) = ((l.foldl max a : Nat) : Int) := by
    intro l
    induction l with
    | nil => intro a; rfl
    | cons x l ih =>
      intro a
      show (natI l).foldl max (max (a : Int) (x : Int)) = _
      rw [show max (a : Int) (x : Int) = ((max a x : Nat) : Int) by omega, ih]
      rfl
  exact gen hs 0
theorem maxI_ge : ∀ (r : List Int) (a : Int), a ≤ r.foldl max a
  | [], a => Int.le_refl _
  | x :: r, a => by rw [List.foldl_cons]; have := maxI_ge r (max a x); omega

set_option maxHeartbeats 8000000 in
set_option maxRecDepth 100000 in
theorem nimGrundy_bad (s : ByteArray) (n : Int) (r : List Int) (ho : Option Addr) (hc : Nat) (w : World) (hsz : s.size ≤ maxLen) (hH : isIs w w.heap.size ho hc r) (hcd : codeB s = true) (hbad : ¬ (r.length ≤ 20 ∧ r.all heapB = true)) :
    Calls Try.prog 3 #[.string s, .int .i64 n, .slice ho r.length hc] w fun e w' => e = .returned (.bool true) ∧ Below w.heap.size w w' := by
  have hl := hH.1
  have hm := hH.2.1
  unfold maxLen at hm
  obtain ⟨D, hD⟩ : ∃ D, D = digs (dig s) := ⟨_, rfl⟩
  have hD6 : D.length ≤ 6 := by rw [hD, digs_len]; exact (code_dig hcd).1
  have HG := hide (Grundy_any s n w hsz)
  have HW : Hid (∀ u, Below w.heap.size w u → Calls Try.prog 8 #[.string s, .slice ho r.length hc] u fun e w' => WiEnd s r u e w') := hide (fun u hu => Win_any s r ho hc u hsz (hH.up hu))
  have HC : Hid (∀ u, Calls Try.prog 9 #[.string s] u fun e w' => e = .returned (.bool true) ∧ w' = u) := hide (fun u => by have := rCode_any s u hsz; rw [hcd] at this; exact this)
  have HGS : Hid (∀ (k : Nat) (u : World), k ≤ 400 → Calls Try.prog 11 #[.string s, .int .i64 (k : Int)] u fun e w' => GsEnd D k u e w') := hide (fun k u hk => by rw [hD]; exact rGrundies_any s k u hcd hk)
  have HTK : Hid (∀ (k : Nat) (u : World), k ≤ 400 → Calls Try.prog 12 #[.string s, .int .i64 (k : Int)] u fun e w' => TkEnd (tks D k) u e w') := hide (fun k u hk => by rw [hD]; exact takings_any s k u hcd hk)
  have HCD := hide hcd
  have HD := hide hD
  have HH := hide hH
  clear hH hsz hcd hD
  go_enter Try.func3, Try.ntmps3
  go_wp2_with fail
  refine (unhide HG).mono ?_
  rintro e w1 hg
  obtain ⟨go, gl, gc, E1, rfl, hg1, hg2⟩ := hg.form (unhide HCD)
  rw [← unhide HD] at hg2
  have HB1 := hide hg.low
  have HW1 := hide (unhide HW w1 hg.low)
  have HG1 := hide hg1
  have HG2 := hide hg2
  clear hg hg1 hg2 HG
  go_wp2_with fail
  refine (unhide HW1).mono ?_
  rintro e w2 hwn
  obtain ⟨b, i0, lo, ll, lc, E2, rfl, hwf⟩ := hwn.form (unhide HCD)
  obtain ⟨rfl, rfl, rfl, rfl⟩ := hwf.range hbad
  have HBAD := hide hbad
  clear hbad
  have hl2 := hwn.low
  have hb2 := (unhide HB1).trans (hl2.mono (unhide HB1).size)
  obtain ⟨w3, hw3⟩ : ∃ w3, w3 = w2.alloc (.cells #[.int .i64 (0 : Int), .slice lo 0 lc] 27 (0, 0)) := ⟨_, rfl⟩
  have hl3 : Below w2.heap.size w2 w3 := by rw [hw3]; exact (Below.refl _ _).alloc (Nat.le_refl _) _
  have hb3 : Below w.heap.size w w3 := hb2.trans (hl3.mono hb2.size)
  have hx3 : isHb w3 w2.heap.size (0 : Int) (.slice lo 0 lc) := by rw [hw3]; exact heap_alloc_new w2 _
  obtain ⟨c0, c1, -, -⟩ := hx3.all
  have HWF := hide (hwf.up hl3)
  have HG3 : Hid (heapB n = true → E1 = 0 ∧ gl = n.toNat + 1 ∧ isIs w3 w3.heap.size go gc (natI (grL D (n.toNat + 1)))) := hide (fun h => by
    obtain ⟨a1, a2, a3⟩ := unhide HG2 h
    exact ⟨a1, a2, (a3.up hl2).up hl3⟩)
  have HB3 := hide hb3
  have HX3 := hide hx3
  have HW3 := hide hw3
  clear hwn hl2 hb2 hl3 hb3 hx3 hwf hw3 HW1 HG2 HB1
  go_upto_region 3 with fail
  rw [← unhide HW3]
  clear HW3
  go_wp2_with fail
  refine (unhide HC _).mono ?_
  rintro e w4 ⟨rfl, rfl⟩
  obtain ⟨hpn, hhpn⟩ : ∃ hpn, hpn = heapB n := ⟨_, rfl⟩
  have HHP := hide hhpn
  go_upto_region 6 with fail
  go_cut [73] (fun v wz => v = .bool (!hpn) ∧ wz = w4)
  case first =>
    by_cases h0 : n < 0
    · have : hpn = false := by rw [hhpn]; unfold heapB; rw [decide_eq_false (by omega)]; rfl
      subst this
      clear hhpn
      go_wp2
      go_meet
      case rel => exact ⟨rfl, rfl⟩
    · by_cases h4 : 400 < n
      · have : hpn = false := by rw [hhpn]; unfold heapB; rw [decide_eq_false (p := n ≤ 400) (by omega), Bool.and_false]
        subst this
        clear hhpn
        go_wp2
        go_meet
        case rel => exact ⟨rfl, rfl⟩
      · have : hpn = true := by rw [hhpn]; unfold heapB; rw [decide_eq_true (by omega), decide_eq_true (by omega)]; rfl
        subst this
        clear hhpn
        go_wp2
        go_meet
        case rel => exact ⟨by first | rfl | simp, rfl⟩
  case rest =>
  obtain ⟨rfl, rfl⟩ := hcut
  clear hhpn
  rename World => w3
  go_upto_if 73 with fail
  go_cut [] (fun wz => Below w3.heap.size w3 wz)
  case first =>
    cases hpn with
    | false =>
      obtain ⟨rfl, rfl⟩ := unhide HG1 (unhide HHP).symm
      go_wp2
      go_meet
      case rel => exact Below.refl _ _
    | true =>
      have hh := (unhide HHP).symm
      obtain ⟨rfl, hgl, hI3⟩ := unhide HG3 hh
      unfold heapB at hh
      rw [Bool.and_eq_true, decide_eq_true_eq, decide_eq_true_eq] at hh
      obtain ⟨k, rfl⟩ := Int.eq_ofNat_of_zero_le hh.1
      rw [Int.toNat_natCast] at hgl hI3
      subst hgl
      have HGK := hide (unhide HGS k w3 (by omega))
      have HI3 := hide hI3
      clear hh hI3
      go_wp2_with fail
      refine (unhide HGK).mono ?_
      rintro e w5 ⟨hb5, uo, uc, rfl, hI5⟩
      have hsm := same_any _ go uo gc uc (natI (grL D (k + 1))) w5 ((unhide HI3).up hb5) hI5
      rw [natI_len, grL_len] at hsm
      have HSM := hide hsm
      have HB5 := hide hb5
      clear hsm hb5 hI5
      go_wp2_with fail
      refine (unhide HSM).mono ?_
      rintro e w6 ⟨rfl, hb6⟩
      have HB6 := hide ((unhide HB5).trans (hb6.mono (unhide HB5).size))
      clear hb6
      go_wp2
      go_meet
      case rel => exact unhide HB6
  case rest =>
  rename World => w4
  have HWF4 := hide ((unhide HWF).up hcut)
  have HX4 : Hid (isHb w4 w2.heap.size (0 : Int) (.slice lo 0 lc)) := hide ((hcut.block _ (unhide HX3).lt).trans (unhide HX3))
  have hb4 := (unhide HB3).trans (hcut.mono (unhide HB3).size)
  have HB4 := hide hb4
  have HH4 := hide ((unhide HH).up hb4)
  clear hcut hb4 HWF HX3 HB3 HG1 HG3 HH HHP HW
  obtain ⟨L0, hL0⟩ : ∃ L0, decide ((r.length : Int) ≤ 20) = L0 := ⟨_, rfl⟩
  have hL0n : L0 = decide (r.length ≤ 20) := by rw [← hL0]; exact decide_eq_decide.2 (by omega)
  have HL0 := hide hL0n
  clear hL0n
  go_wp2
  go_loop [13, 14, 96] (fun mv ov iv => ∃ (k : Nat) (m : Int) (ob : Bool), k ≤ r.length ∧ iv = .int .i64 (k : Int) ∧ mv = .int .i64 m ∧ ov = .bool ob ∧ Hid (m = maxI (r.take k)) ∧ Hid (ob = (L0 && (r.take k).all heapB))) (fun _ _ iv => r.length - (intOf iv).toNat)
  case atStart => exact ⟨0, 0, L0, Nat.zero_le _, rfl, rfl, by first | rfl | (rw [← hL0]), hide rfl, hide (by simp)⟩
  case round =>
    obtain ⟨k, m, ob, hk, rfl, rfl, rfl, HM, HOB⟩ := hrel
    by_cases hlt : k < r.length
    · have hlti : (k : Int) < (r.length : Int) := by omega
      have hk0 : (0 : Int) ≤ (k : Int) := by omega
      obtain ⟨g, off, e, hg, cx⟩ := (unhide HH4).at_ (List.getElem?_eq_getElem hlt)
      subst e
      have htk : r.take (k + 1) = r.take k ++ [r[k]] := List.take_succ_eq_append_getElem hlt
      generalize r[k] = x at *
      obtain ⟨q, hq⟩ : ∃ q, q = heapB x := ⟨_, rfl⟩
      have HM2 : Hid (max m x = maxI (r.take (k + 1))) := hide (by rw [htk, maxI_snoc, unhide HM])
      have HOB2 : Hid ((ob && q) = (L0 && (r.take (k + 1)).all heapB)) := hide (by rw [unhide HOB, htk, List.all_append, List.all_cons, List.all_nil, hq]; simp [Bool.and_assoc])
      clear htk HM HOB
      cases ob with
      | false =>
        clear hq
        go_wp2
        all_goals
          go_round
          case rel => exact ⟨k + 1, _, _, by omega, by go_num, by first | rfl | (congr 1; omega), rfl, HM2, HOB2⟩
          case measure => simp only [intOf]; omega
      | true =>
        by_cases h0 : 0 ≤ x
        · by_cases h4 : x ≤ 400
          · have hqt : q = true := by rw [hq]; unfold heapB; rw [decide_eq_true h0, decide_eq_true h4]; rfl
            subst hqt
            clear hq
            go_wp2
            all_goals
              go_round
              case rel => exact ⟨k + 1, _, _, by omega, by go_num, by first | rfl | (congr 1; omega), by first | rfl | simp, HM2, HOB2⟩
              case measure => simp only [intOf]; omega
          · have hqt : q = false := by rw [hq]; unfold heapB; rw [decide_eq_false h4, Bool.and_false]
            subst hqt
            clear hq
            go_wp2
            all_goals
              go_round
              case rel => exact ⟨k + 1, _, _, by omega, by go_num, by first | rfl | (congr 1; omega), by first | rfl | simp, HM2, HOB2⟩
              case measure => simp only [intOf]; omega
        · have hqt : q = false := by rw [hq]; unfold heapB; rw [decide_eq_false h0]; rfl
          subst hqt
          clear hq
          go_wp2
          all_goals
            go_round
            case rel => exact ⟨k + 1, _, _, by omega, by go_num, by first | rfl | (congr 1; omega), by first | rfl | simp, HM2, HOB2⟩
            case measure => simp only [intOf]; omega
    · have hlti : ¬ (k : Int) < (r.length : Int) := by omega
      have hob := unhide HOB
      have hmm := unhide HM
      rw [List.take_of_length_le (by omega)] at hob hmm
      cases ob with
      | false =>
        clear hob hmm
        go_wp2
        go_ret
        exact ⟨by first | rfl | simp, unhide HB4⟩
      | true =>
        exfalso
        have := hob.symm
        rw [Bool.and_eq_true, unhide HL0, decide_eq_true_eq] at this
        exact unhide HBAD this
end Go.Proofs.Ytphnjedoghopcaa
