/-
  parlourbig's Int.SetString of a numeral, walked.
  parlourbig's Int.Sign, Abs, Exp to the power 0; Mul into one of its own operands, walked.
-/
import Derived.Test.YthplbfjpmnpjmaaDoorJ0
import Derived.Test.YthplbfjpmnpjmaaDoorB3
import Derived.Test.YthplbfjpmnpjmaaDoorJ3
namespace Go.Proofs.YthplbfjpmnpjmaaDoor
open Go.RowKit
attribute [local go_sem ↓] Go.wp_at_zero Go.wp_at_succ

/-- While a numeral is read. -/
structure SsI (w : World) (S : ByteArray) (k : Nat) (ao : Option Addr) (ca : Nat) (al : List Nat) (wr : World) : Prop where
  ws : isWs wr ao ca al
  tr : trimL al = al
  v : val 4294967296 al = dK S k
  bw : Below w.heap.size w wr
theorem small_len {al : List Nat} {v : Nat} (ht : trimL al = al) (hv : val 4294967296 al = v) (h : v < 18446744073709551616) : al.length ≤ 2 := trim_len (B := 4294967296) (by omega) al 2 ht (by rw [hv]; exact h)
theorem ret_pair {a b c d : Value} (h : a = b) (k : c = d) : Ending.returned (.tuple #[a, c]) = .returned (.tuple #[b, d]) := by rw [h, k]

set_option maxHeartbeats 4000000 in
set_option maxRecDepth 100000 in
theorem SetString_z (b : Nat) (z : Int) (S : ByteArray) (w : World) (hb : isTo w b 0) (hS : S.data.toList = Lib.itoa z) (hz : z.natAbs < 9223372036854775808) (hsz : S.size ≤ 1000) :
    Calls Tryd.prog 39 #[.pointer (some ⟨b, 0, none⟩), .string S, .int .i64 10] w fun e w' => e = .returned (.tuple #[.pointer (some ⟨b, 0, none⟩), .bool true]) ∧ isI w' b 0 z ∧ Put w.heap.size b 0 w w' := by
  have HB := hide hb
  by_cases hn : z < 0
  · rw [itoa_neg' z hn] at hS
    obtain ⟨T, hT⟩ : ∃ T, S.extract 1 S.size = T := ⟨_, rfl⟩
    have hTl : T.data.toList = Lib.decDigits z.natAbs := by rw [← hT]; exact tail_bytes S _ _ hS
    have hTs := dec_size T _ hTl
    have hSs : T.size + 1 = S.size := by
      rw [← len_data S, hS, List.length_cons, ← hTl, len_data]
    have hS0 : 0 < S.size := by omega
    have h45 : S[0].toNat = 45 := by
      have := drop_cons S 0 hS0
      rw [List.drop_zero, hS] at this
      have e := (List.cons.inj this).1
      rw [← e]; rfl
    have h45i : (S[0].toNat : Int) = 45 := by omega
    have HVZ : Hid (dK T T.size = z.natAbs) := hide (dK_all T _ hTl)
    have HDG : Hid (∀ k, (h : k < T.size) → 48 ≤ T[k].toNat ∧ T[k].toNat ≤ 57) := hide (fun k h => byte_dg T _ hTl k h)
    have HLE : Hid (∀ k, dK T k < 9223372036854775808) := hide (fun k => by
      have := dK_le T k
      rw [hTl, dec_dv] at this
      omega)
    have HSG : Hid (true = decide (z < 0)) := hide (by simp [hn])
    have hTi : ¬ (T.size : Int) = 0 := by omega
    have hTb : ((T.size : Int) == 0) = false := by simpa using hTi
    have hT0 : (0 : Int) < (T.size : Int) := by omega
    have hTm : (T.size : Int) ≤ 1000 := by omega
    have hSi : (0 : Int) < (S.size : Int) := by omega
    have hS1 : (1 : Int) ≤ (S.size : Int) := by omega
    clear hTl hS hn hb hSs h45 hz
    go_enter Tryd.func39, Tryd.ntmps39
    go_wp2
    go_loopw [9, 10] (fun rv iv wr => ∃ (k ca : Nat) (ao : Option Addr) (al : List Nat), k ≤ T.size ∧ iv = .int .i64 (k : Int) ∧ rv = .slice ao al.length ca ∧ Hid (SsI w T k ao ca al wr)) (fun _ iv _ => T.size - (intOf iv).toNat)
    case atStart => exact ⟨0, 0, none, [], Nat.zero_le _, rfl, rfl, hide ⟨isWs_nil _, rfl, rfl, Below.refl _ _⟩⟩
    case round =>
      obtain ⟨k, ca, ao, al, hk, rfl, rfl, HI⟩ := hrel
      rename World => wr
      by_cases hkl : k < T.size
      · have hki : (k : Int) < (T.size : Int) := by omega
        have hk0 : (0 : Int) ≤ (k : Int) := by omega
        obtain ⟨g1, g2⟩ := unhide HDG k hkl
        have hnx := dK_next T k hkl
        have hle := unhide HLE (k + 1)
        have hle0 := unhide HLE k
        obtain ⟨d, hd⟩ : ∃ d, d = T[k].toNat - 48 := ⟨_, rfl⟩
        rw [← hd] at hnx
        have d1 : (48 : Int) ≤ (T[k].toNat : Int) := by omega
        have d2 : (T[k].toNat : Int) ≤ 57 := by omega
        have d3 : (T[k].toNat : Int) - 48 = (d : Int) := by omega
        have d4 : ¬ (10 : Int) ≤ (d : Int) := by omega
        have d5 : (d : Int) < 10 := by omega
        have d6 : IntKind.u64.wrap (d : Int) = (d : Int) := by show (d : Int) % 18446744073709551616 = _; omega
        have d7 : IntKind.u8.wrap (d : Int) = (d : Int) := by show (d : Int) % 256 = _; omega
        have hal := small_len (unhide HI).tr (unhide HI).v (by omega)
        have HW10 := hide (words_val 10 wr (by omega))
        have HWD := hide (fun u => words_val d u (by omega))
        have HNX := hide hnx
        have HLE2 := hide hle
        have HLE0 := hide hle0
        clear hnx hle hle0 hd g1 g2
        go_wp2_with fail
        refine (unhide HW10).mono ?_
        rintro e w1 ⟨o1, c1, l1, rfl, hw1, hv1, hb1⟩
        have hl1 := small_len (trimL_idem l1) (by rw [trimL_val, hv1]) (by omega)
        have HMU := hide (mul_any ao o1 ca c1 al (trimL l1) w1 ((unhide HI).ws.below hb1 (Nat.le_refl _)) hw1 (by omega) (by omega))
        have HB1 := hide hb1
        have HV1 := hide hv1
        clear hw1 hb1 hv1 HW10
        go_wp2_with fail
        refine (unhide HMU).mono ?_
        rintro e w2 ⟨o2, c2, l2, rfl, hw2, hv2, hb2⟩
        have HB2 := hide ((unhide HB1).trans (hb2.mono (unhide HB1).size))
        have HW2 := hide hw2
        have HV2 : Hid (val 4294967296 (trimL l2) = dK T k * 10) := hide (by rw [trimL_val, hv2, trimL_val, unhide HV1, (unhide HI).v])
        clear hw2 hb2 hv2 HMU HB1 HV1
        go_wp2_with fail
        refine (unhide HWD w2).mono ?_
        rintro e w3 ⟨o3, c3, l3, rfl, hw3, hv3, hb3⟩
        have hl2 := small_len (trimL_idem l2) (unhide HV2) (by have := unhide HLE2; have := unhide HNX; omega)
        have hl3 := small_len (trimL_idem l3) (by rw [trimL_val, hv3]) (by omega)
        have HAD := hide (add_any o2 o3 c2 c3 (trimL l2) (trimL l3) w3 ((unhide HW2).below hb3 (Nat.le_refl _)) hw3 (by omega) (by omega))
        have HB3 := hide ((unhide HB2).trans (hb3.mono (unhide HB2).size))
        have HV3 := hide hv3
        clear hw3 hb3 hv3 HWD HB2 HW2
        go_wp2_with fail
        refine (unhide HAD).mono ?_
        rintro e w4 ⟨o4, c4, l4, rfl, hw4, hv4, hb4⟩
        have HI4 : Hid (SsI w T (k + 1) o4 c4 (trimL l4) w4) := hide (by
          refine ⟨hw4, trimL_idem _, ?_, (unhide HI).bw.trans (((unhide HB3).trans (hb4.mono (unhide HB3).size)).mono (unhide HI).bw.size)⟩
          rw [trimL_val, hv4, unhide HV2, trimL_val, unhide HV3, unhide HNX])
        clear hw4 hv4 hb4 HAD HB3 HV2 HV3 HI HNX HLE2
        go_wp2
        go_roundw
        case rel => exact ⟨k + 1, c4, o4, trimL l4, by omega, by go_num, rfl, HI4⟩
        case measure => simp only [intOf]; omega
      · obtain rfl : k = T.size := by omega
        have hki : ¬ (T.size : Int) < (T.size : Int) := by omega
        have hsz := (unhide HI).bw.size
        have hvz : val 4294967296 al = z.natAbs := by rw [(unhide HI).v]; exact unhide HVZ
        have HG := hide (give_z b 0 true z ao ca al wr ((unhide HB).below (unhide HI).bw (Nat.le_refl _)) (unhide HI).ws (unhide HI).tr hvz (sign_of (unhide HI).tr hvz true (fun _ => unhide HSG)))
        have HBW := hide (unhide HI).bw
        have hlt := (unhide HB).nb.lt
        clear hvz HI
        go_wp2_with fail
        refine (unhide HG).mono ?_
        rintro e w2 ⟨rfl, hi, hp⟩
        have HE : Hid (isI w2 b 0 z ∧ Put w.heap.size b 0 w w2) := hide ⟨hi, (hp.mono hsz).after (unhide HBW) hlt⟩
        clear hi hp HG
        go_wp2
        go_ret2
        exact ⟨rfl, (unhide HE).1, (unhide HE).2⟩
  · rw [itoa_pos z hn] at hS
    obtain ⟨T, hT⟩ : ∃ T, S = T := ⟨_, rfl⟩
    subst hT
    have hTs := dec_size S _ hS
    have hd0 := byte_dg S _ hS 0 hTs
    have h45i : ¬ (S[0].toNat : Int) = 45 := by omega
    have h43i : ¬ (S[0].toNat : Int) = 43 := by omega
    have HVZ : Hid (dK S S.size = z.natAbs) := hide (dK_all S _ hS)
    have HDG : Hid (∀ k, (h : k < S.size) → 48 ≤ S[k].toNat ∧ S[k].toNat ≤ 57) := hide (fun k h => byte_dg S _ hS k h)
    have HLE : Hid (∀ k, dK S k < 9223372036854775808) := hide (fun k => by
      have := dK_le S k
      rw [hS, dec_dv] at this
      omega)
    have HSG : Hid (false = decide (z < 0)) := hide (by simp [hn])
    have hTi : ¬ (S.size : Int) = 0 := by omega
    have hTb : ((S.size : Int) == 0) = false := by simpa using hTi
    have h45b : ((S[0].toNat : Int) == 45) = false := by simpa using h45i
    have h43b : ((S[0].toNat : Int) == 43) = false := by simpa using h43i
    have hT0 : (0 : Int) < (S.size : Int) := by omega
    have hTm : (S.size : Int) ≤ 1000 := by omega
    clear hS hn hb hz hd0
    obtain ⟨T, hT⟩ : ∃ T, T = S := ⟨_, rfl⟩
    subst hT
    go_enter Tryd.func39, Tryd.ntmps39
    go_wp2
    go_loopw [9, 10] (fun rv iv wr => ∃ (k ca : Nat) (ao : Option Addr) (al : List Nat), k ≤ T.size ∧ iv = .int .i64 (k : Int) ∧ rv = .slice ao al.length ca ∧ Hid (SsI w T k ao ca al wr)) (fun _ iv _ => T.size - (intOf iv).toNat)
    case atStart => exact ⟨0, 0, none, [], Nat.zero_le _, rfl, rfl, hide ⟨isWs_nil _, rfl, rfl, Below.refl _ _⟩⟩
    case round =>
      obtain ⟨k, ca, ao, al, hk, rfl, rfl, HI⟩ := hrel
      rename World => wr
      by_cases hkl : k < T.size
      · have hki : (k : Int) < (T.size : Int) := by omega
        have hk0 : (0 : Int) ≤ (k : Int) := by omega
        obtain ⟨g1, g2⟩ := unhide HDG k hkl
        have hnx := dK_next T k hkl
        have hle := unhide HLE (k + 1)
        have hle0 := unhide HLE k
        obtain ⟨d, hd⟩ : ∃ d, d = T[k].toNat - 48 := ⟨_, rfl⟩
        rw [← hd] at hnx
        have d1 : (48 : Int) ≤ (T[k].toNat : Int) := by omega
        have d2 : (T[k].toNat : Int) ≤ 57 := by omega
        have d3 : (T[k].toNat : Int) - 48 = (d : Int) := by omega
        have d4 : ¬ (10 : Int) ≤ (d : Int) := by omega
        have d5 : (d : Int) < 10 := by omega
        have d6 : IntKind.u64.wrap (d : Int) = (d : Int) := by show (d : Int) % 18446744073709551616 = _; omega
        have d7 : IntKind.u8.wrap (d : Int) = (d : Int) := by show (d : Int) % 256 = _; omega
        have hal := small_len (unhide HI).tr (unhide HI).v (by omega)
        have HW10 := hide (words_val 10 wr (by omega))
        have HWD := hide (fun u => words_val d u (by omega))
        have HNX := hide hnx
        have HLE2 := hide hle
        have HLE0 := hide hle0
        clear hnx hle hle0 hd g1 g2
        go_wp2_with fail
        refine (unhide HW10).mono ?_
        rintro e w1 ⟨o1, c1, l1, rfl, hw1, hv1, hb1⟩
        have hl1 := small_len (trimL_idem l1) (by rw [trimL_val, hv1]) (by omega)
        have HMU := hide (mul_any ao o1 ca c1 al (trimL l1) w1 ((unhide HI).ws.below hb1 (Nat.le_refl _)) hw1 (by omega) (by omega))
        have HB1 := hide hb1
        have HV1 := hide hv1
        clear hw1 hb1 hv1 HW10
        go_wp2_with fail
        refine (unhide HMU).mono ?_
        rintro e w2 ⟨o2, c2, l2, rfl, hw2, hv2, hb2⟩
        have HB2 := hide ((unhide HB1).trans (hb2.mono (unhide HB1).size))
        have HW2 := hide hw2
        have HV2 : Hid (val 4294967296 (trimL l2) = dK T k * 10) := hide (by rw [trimL_val, hv2, trimL_val, unhide HV1, (unhide HI).v])
        clear hw2 hb2 hv2 HMU HB1 HV1
        go_wp2_with fail
        refine (unhide HWD w2).mono ?_
        rintro e w3 ⟨o3, c3, l3, rfl, hw3, hv3, hb3⟩
        have hl2 := small_len (trimL_idem l2) (unhide HV2) (by have := unhide HLE2; have := unhide HNX; omega)
        have hl3 := small_len (trimL_idem l3) (by rw [trimL_val, hv3]) (by omega)
        have HAD := hide (add_any o2 o3 c2 c3 (trimL l2) (trimL l3) w3 ((unhide HW2).below hb3 (Nat.le_refl _)) hw3 (by omega) (by omega))
        have HB3 := hide ((unhide HB2).trans (hb3.mono (unhide HB2).size))
        have HV3 := hide hv3
        clear hw3 hb3 hv3 HWD HB2 HW2
        go_wp2_with fail
        refine (unhide HAD).mono ?_
        rintro e w4 ⟨o4, c4, l4, rfl, hw4, hv4, hb4⟩
        have HI4 : Hid (SsI w T (k + 1) o4 c4 (trimL l4) w4) := hide (by
          refine ⟨hw4, trimL_idem _, ?_, (unhide HI).bw.trans (((unhide HB3).trans (hb4.mono (unhide HB3).size)).mono (unhide HI).bw.size)⟩
          rw [trimL_val, hv4, unhide HV2, trimL_val, unhide HV3, unhide HNX])
        clear hw4 hv4 hb4 HAD HB3 HV2 HV3 HI HNX HLE2
        go_wp2
        go_roundw
        case rel => exact ⟨k + 1, c4, o4, trimL l4, by omega, by go_num, rfl, HI4⟩
        case measure => simp only [intOf]; omega
      · obtain rfl : k = T.size := by omega
        have hki : ¬ (T.size : Int) < (T.size : Int) := by omega
        have hsz := (unhide HI).bw.size
        have hvz : val 4294967296 al = z.natAbs := by rw [(unhide HI).v]; exact unhide HVZ
        have HG := hide (give_z b 0 false z ao ca al wr ((unhide HB).below (unhide HI).bw (Nat.le_refl _)) (unhide HI).ws (unhide HI).tr hvz (sign_of (unhide HI).tr hvz false (fun _ => unhide HSG)))
        have HBW := hide (unhide HI).bw
        have hlt := (unhide HB).nb.lt
        clear hvz HI
        go_wp2_with fail
        refine (unhide HG).mono ?_
        rintro e w2 ⟨rfl, hi, hp⟩
        have HE : Hid (isI w2 b 0 z ∧ Put w.heap.size b 0 w w2) := hide ⟨hi, (hp.mono hsz).after (unhide HBW) hlt⟩
        clear hi hp HG
        go_wp2
        go_ret2
        exact ⟨rfl, (unhide HE).1, (unhide HE).2⟩
end Go.Proofs.YthplbfjpmnpjmaaDoor

namespace Go.Proofs.YthplbfjpmnpjmaaDoor
open Go.RowKit
attribute [local go_sem ↓] Go.wp_at_zero Go.wp_at_succ

def sgI (z : Int) : Int := if z = 0 then 0 else if z < 0 then -1 else 1
set_option maxHeartbeats 1000000 in
theorem Sign_z (b o : Nat) (z : Int) (w : World) (h : isI w b o z) :
    Calls Tryd.prog 23 #[.pointer (some ⟨b, o, none⟩)] w fun e w' => e = .returned (.int .i64 (sgI z)) ∧ w' = w := by
  obtain ⟨xo, xc, xl, x0, x1, xlt, xw, xt, xv⟩ := h.open
  have hem := empty_of_val xt
  rw [xv] at hem
  obtain ⟨sg, hsg⟩ : ∃ sg, decide (z < 0) = sg := ⟨_, rfl⟩
  rw [hsg] at x0
  by_cases hz : z = 0
  · have he : xl = [] := by
      have : decide (z.natAbs = 0) = true := by simpa using hz
      rw [this] at hem
      simpa using hem
    subst he
    have HE : Hid (sgI z = 0) := hide (by simp [sgI, hz])
    clear hem xw xt xv h hz hsg
    go_enter Tryd.func23, Tryd.ntmps23
    go_wp2
    go_ret
    rw [unhide HE]
    exact ⟨rfl, rfl⟩
  · have he : ¬ (xl.length : Int) = 0 := by
      have h2 : decide (z.natAbs = 0) = false := by simpa using hz
      rw [h2] at hem
      have : xl ≠ [] := by simpa using hem
      have := List.length_pos_iff.2 this
      omega
    cases sg with
    | true =>
      have hneg : z < 0 := of_decide_eq_true hsg
      have HE : Hid (sgI z = -1) := hide (by simp [sgI, hz, hneg])
      clear hem xw xt xv h hz hsg hneg
      go_enter Tryd.func23, Tryd.ntmps23
      go_wp2
      go_ret
      rw [unhide HE]
      exact ⟨rfl, rfl⟩
    | false =>
      have hneg : ¬ z < 0 := of_decide_eq_false hsg
      have HE : Hid (sgI z = 1) := hide (by simp [sgI, hz, hneg])
      clear hem xw xt xv h hz hsg hneg
      go_enter Tryd.func23, Tryd.ntmps23
      go_wp2
      go_ret
      rw [unhide HE]
      exact ⟨rfl, rfl⟩

set_option maxHeartbeats 1000000 in
theorem Abs_z (b o c p : Nat) (z : Int) (w : World) (hb : isTo w b o) (hx : isI w c p z) :
    Calls Tryd.prog 43 #[.pointer (some ⟨b, o, none⟩), .pointer (some ⟨c, p, none⟩)] w fun e w' =>
      e = .returned (.pointer (some ⟨b, o, none⟩)) ∧ isI w' b o (z.natAbs : Int) ∧ Put w.heap.size b o w w' := by
  obtain ⟨xo, xc, xl, x0, x1, xlt, xw, xt, xv⟩ := hx.open
  have hlt := hb.nb.lt
  have HB := hide hb
  have HXT := hide xt
  have HXV : Hid (val 4294967296 xl = ((z.natAbs : Int)).natAbs) := hide (by rw [xv]; rfl)
  have HTW := hide (twin_any xo xc xl w xw)
  have HSG : Hid ((false && !xl.isEmpty) = decide ((z.natAbs : Int) < 0)) := hide (by simp)
  clear hx xt xv hb xw
  go_enter Tryd.func43, Tryd.ntmps43
  go_wp2_with fail
  refine (unhide HTW).mono ?_
  rintro e wt ⟨ro, rc, rfl, hrw, hbt⟩
  have HG := hide (give_z b o false (z.natAbs : Int) ro rc xl wt ((unhide HB).below hbt (Nat.le_refl _)) hrw (unhide HXT) (unhide HXV) (unhide HSG))
  have HBT := hide hbt
  clear hrw hbt HTW
  go_wp2_with fail
  refine (unhide HG).mono ?_
  rintro e wg ⟨rfl, hi, hp⟩
  have HE : Hid (isI wg b o (z.natAbs : Int) ∧ Put w.heap.size b o w wg) := hide ⟨hi, (hp.mono (unhide HBT).size).after (unhide HBT) hlt⟩
  clear hi hp
  go_wp2
  go_ret
  exact ⟨rfl, (unhide HE).1, (unhide HE).2⟩

set_option maxHeartbeats 1000000 in
theorem length_nil (ao : Option Addr) (ca : Nat) (w : World) :
    Calls Tryd.prog 66 #[.slice ao 0 ca] w fun e w' => e = .returned (.int .i64 0) ∧ w' = w := by
  go_enter Tryd.func66, Tryd.ntmps66
  go_wp2
  go_ret
  exact ⟨rfl, rfl⟩

set_option maxHeartbeats 2000000 in
set_option maxRecDepth 100000 in
theorem Exp_zero (b c d : Nat) (x : Int) (w : World) (hb : isTo w b 0) (hx : isI w c 0 x) (hy : isI w d 0 0) :
    Calls Tryd.prog 42 #[.pointer (some ⟨b, 0, none⟩), .pointer (some ⟨c, 0, none⟩), .pointer (some ⟨d, 0, none⟩), .pointer none] w fun e w' =>
      e = .returned (.pointer (some ⟨b, 0, none⟩)) ∧ isI w' b 0 1 ∧ Put w.heap.size b 0 w w' := by
  have hlt := hb.nb.lt
  have hcl := hx.lt
  have hdl := hy.lt
  obtain ⟨w1, hw1⟩ : ∃ w1, w1 = w.alloc (.cells #[.bool false, .slice none 0 0] 37 (0, 0)) := ⟨_, rfl⟩
  have hs1 : w1.heap.size = w.heap.size + 1 := by rw [hw1]; simp
  have hb1 : Below w.heap.size w w1 := by rw [hw1]; exact (Below.refl _ _).alloc (Nat.le_refl _) _
  have ht1 : isTo w1 w.heap.size 0 := by rw [hw1]; exact new_to w
  have HST := hide (Set_z w.heap.size 0 c 0 x w1 ht1 (hx.below hb1 (Nat.le_refl _)) (by omega))
  have HB := hide hb
  have HY := hide hy
  have HW1 := hide hw1
  have HB1 := hide hb1
  clear hb hx hy hw1 hb1 ht1
  go_enter Tryd.func42, Tryd.ntmps42
  go_upto_region 2 with fail
  go_wp2_with fail
  rw [← unhide HW1]
  refine (unhide HST).mono ?_
  rintro e w2 ⟨rfl, -, p2⟩
  have hb2 : Below w.heap.size w w2 := (unhide HB1).trans (p2.but.fresh (by omega) (by omega))
  obtain ⟨yo, yc, yl, y0, y1, ylt, yw, yt, yv⟩ := ((unhide HY).below hb2 (Nat.le_refl _)).open
  have hyl : yl = [] := by
    have := empty_of_val yt
    rw [yv] at this
    simpa using this
  subst hyl
  have HN := hide (NewInt_z 1 w2 (by omega) (by omega))
  have HB2 := hide hb2
  have y0' : w2.cell? ⟨d, 0, none⟩ = some (.bool false) := y0
  have Y1 := hide y1
  have YW := hide yw
  have hs2 := hb2.size
  clear y0 y1 yw yt yv p2 HST HW1 HB1 hb2
  go_wp2_with fail
  refine (unhide HN).mono ?_
  rintro e w3 ⟨rfl, i3, b3⟩
  have y1' : w3.cell? ⟨d, 1, none⟩ = some (.slice yo 0 yc) := (b3.cell (p := ⟨d, 0 + 1, none⟩) (by dsimp only; omega)).trans (unhide Y1)
  have hs3 := b3.size
  have HTW := hide (twin_any yo yc [] w3 ((unhide YW).below b3 (Nat.le_refl _)))
  have HI3 := hide i3
  have HB3 := hide ((unhide HB2).trans (b3.mono hs2))
  clear i3 b3 HN YW Y1 y0' HB2
  go_wp2_with fail
  refine (unhide HTW).mono ?_
  rintro e w4 ⟨o4, c4, rfl, -, b4⟩
  have HI4 := hide ((unhide HI3).below b4 (Nat.le_refl _))
  have HB4 := hide ((unhide HB3).trans (b4.mono (by omega)))
  have HLN := hide (length_nil o4 c4 w4)
  clear b4 HTW HI3 HB3 y1'
  go_wp2_with fail
  refine (unhide HLN).mono ?_
  rintro e w5 ⟨rfl, hw5⟩
  replace hw5 := hw5.symm
  subst hw5
  have HS := hide (Set_z b 0 w2.heap.size 0 1 w4 ((unhide HB).below (unhide HB4) (Nat.le_refl _)) (unhide HI4) (by omega))
  have hs4 := (unhide HB4).size
  go_wp2
  go_loopw [14] (fun iv wr => iv = .int .i64 (-1) ∧ wr = w4) (fun _ _ => 0)
  case atStart => exact ⟨rfl, rfl⟩
  case round =>
    obtain ⟨rfl, rfl⟩ := hrel
    go_wp2_with fail
    refine (unhide HS).mono ?_
    rintro e w6 ⟨rfl, i6, p6⟩
    have HE : Hid (isI w6 b 0 1 ∧ Put w.heap.size b 0 w w6) := hide ⟨i6, (p6.mono hs4).after (unhide HB4) hlt⟩
    clear i6 p6
    go_wp2
    go_ret
    exact ⟨rfl, (unhide HE).1, (unhide HE).2⟩

set_option maxHeartbeats 4000000 in
set_option maxRecDepth 100000 in
theorem Mul_self (b d n : Nat) (x y : Int) (w : World) (hx : isI w b 0 x) (hy : isI w d 0 y) (hn : n ≤ 20000) (hX : x.natAbs < 4294967296 ^ n) (hY : y.natAbs < 4294967296 ^ n) :
    Calls Tryd.prog 25 #[.pointer (some ⟨b, 0, none⟩), .pointer (some ⟨b, 0, none⟩), .pointer (some ⟨d, 0, none⟩)] w fun e w' =>
      e = .returned (.pointer (some ⟨b, 0, none⟩)) ∧ isI w' b 0 (x * y) ∧ Put w.heap.size b 0 w w' := by
  have HB := hide hx.to_
  obtain ⟨xo, xc, xl, x0, x1, xlt, xw, xt, xv⟩ := hx.open
  obtain ⟨yo, yc, yl, y0, y1, ylt, yw, yt, yv⟩ := hy.open
  have hxl := isI.len xt xv hX
  have hyl := isI.len yt yv hY
  have hsg : ∀ l : List Nat, trimL l = l → val 4294967296 l = (x * y).natAbs → ((!(decide (x < 0) == decide (y < 0))) && !l.isEmpty) = decide (x * y < 0) := fun l ht hv => sign_of ht hv _ (mul_sign x y)
  have hmv : val 4294967296 xl * val 4294967296 yl = (x * y).natAbs := by rw [xv, yv, Int.natAbs_mul]
  have HSG := hide hsg
  have HMV := hide hmv
  generalize decide (x < 0) = sx at x0 HSG
  generalize decide (y < 0) = sy at y0 HSG
  clear hx hy hX hY xt yt xv yv hsg hmv
  go_enter Tryd.func25, Tryd.ntmps25
  go_wp2
  go_region_with (first
      | (go_at_call 48; (with_reducible refine (give_z b 0 (!(sx == sy)) (x * y) ro rc (trimL rl) _ ((unhide HB).drew.below hbt (Nat.le_refl _)) hrw (trimL_idem _) (by rw [trimL_val, hrv]; exact unhide HMV) (unhide HSG _ (trimL_idem _) (by rw [trimL_val, hrv]; exact unhide HMV))).mono ?_); rintro e wg ⟨rfl, hi, hp⟩)
      | (go_at_call 50; refine (mul_any xo yo xc yc xl yl w.drew xw.drew yw.drew (by omega) (by omega)).mono ?_; rintro e wt ⟨ro, rc, rl, rfl, hrw, hrv, hbt⟩; have k0 := (hbt.cell (p := ⟨b, 0, none⟩) (by dsimp only [World.drew]; omega)).trans x0; have k2 := (hbt.cell (p := ⟨d, 0, none⟩) (by dsimp only [World.drew]; omega)).trans y0))
  all_goals (go_wp2; go_ret; exact ⟨rfl, hi, ((hp.mono hbt.size).after hbt xlt).undrew⟩)
end Go.Proofs.YthplbfjpmnpjmaaDoor
