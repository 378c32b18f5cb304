/-
  gameref.begins, walked: may something right begin so, is it right as it stands.
-/
import Derived.Test.YtfhmpgjemobjhaaGreatDoorJ17
import Derived.Test.YtfhmpgjemobjhaaGreatDoorJ28
import Derived.Test.YtfhmpgjemobjhaaGreatDoorW51
import Derived.Deep.Cut
import Derived.Deep.CutRange
import Derived.BigQuiet
namespace Go.Proofs.YtfhmpgjemobjhaaGreatDoor
open Go.RowKit

/-! ### By pieces, one piece at a time -/
theorem rowsOk_cons (last : Bool) (n0 : Nat) (r : List UInt8) (rest : List (List UInt8)) : rowsOk last n0 (r :: rest) = (rowOk (last || !rest.isEmpty) n0 r && rowsOk last n0 rest) := by
  cases rest with
  | nil => simp [rowsOk]
  | cons a b => simp [rowsOk]
theorem handsOk_cons (h : List UInt8) (rest : List (List UInt8)) : handsOk (h :: rest) = (handOk h && (rest.isEmpty || decide (h ≠ [])) && handsOk rest) := by
  cases rest with
  | nil => simp [handsOk]
  | cons a b => simp [handsOk]

/-- The ways of begF. -/
structure BegWays (t : List UInt8) (P R : List (List UInt8)) (F : Bool × Bool) : Prop where
  a : 8 < R.length ∨ 3 < P.length → F = (false, false)
  b : ¬ (8 < R.length ∨ 3 < P.length) → rowsOk (decide (1 < P.length)) (R.headD []).length R = false → F = (false, false)
  c : ¬ (8 < R.length ∨ 3 < P.length) → rowsOk (decide (1 < P.length)) (R.headD []).length R = true → F = tailF P
theorem begWays (t : List UInt8) : BegWays t (spl 32 t) (spl 47 ((spl 32 t).headD [])) (begF t) := by
  refine ⟨?_, ?_, ?_⟩
  · intro h; rw [begF, if_pos h]
  · intro h h1; rw [begF, if_neg h, if_pos h1]
  · intro h h1; rw [begF, if_neg h, if_neg (by rw [h1]; simp)]

theorem drop_row {R : List (List UInt8)} {k : Nat} (h : k < R.length) : ∃ r, R[k]? = some r ∧ R.drop k = r :: R.drop (k + 1) :=
  ⟨R[k], List.getElem?_eq_getElem h, List.drop_eq_getElem_cons h⟩
theorem spl_size (c : UInt8) : ∀ (l : List UInt8), (spl c l).length ≤ l.length + 1 ∧ ∀ r ∈ spl c l, r.length ≤ l.length
  | [] => by simp [spl]
  | x :: l => by
    have h := spl_size c l
    have hc := spl_cons c l
    unfold spl
    split
    · refine ⟨by simp; omega, ?_⟩
      intro r hr
      simp only [List.mem_cons] at hr
      rcases hr with rfl | hr
      · simp
      · have := h.2 r hr; simp; omega
    · have h1 := h.1
      rw [hc] at h1
      simp only [List.length_cons] at h1
      refine ⟨by simp; omega, ?_⟩
      intro r hr
      simp only [List.mem_cons] at hr
      rcases hr with rfl | hr
      · have := h.2 ((spl c l).headD []) (by rw [hc]; simp)
        simp only [List.length_cons]; omega
      · have := h.2 r (by rw [hc]; simp [hr])
        simp only [List.length_cons]; omega
theorem bytes_size (l : List UInt8) : (⟨l.toArray⟩ : ByteArray).size = l.length := by rw [← len_data, bytes_data]

/-- The row's length is wrong. -/
def badLen (full : Bool) (n0 n : Nat) : Bool := !(decide (n ≤ 8) && decide (n ≤ n0) && (!full || (decide (n = n0) && decide (n ≠ 0))))
theorem rowOk_bad' (full : Bool) (n0 : Nat) (r : List UInt8) : rowOk full n0 r = (!badLen full n0 r.length && cellsB r) := by simp [rowOk, badLen]
theorem cellB_ways (c : Int) : cellB c = (decide (c = 46) || capB c || smallB c) := rfl

set_option maxHeartbeats 4000000 in
set_option maxRecDepth 100000 in
theorem begins_any (t : ByteArray) (m : Int) (w : World) (ht : t.size < 1000) (hm : w.cell? ⟨0, 0, none⟩ = some (.int .i64 m)) (h0 : 0 < w.heap.size) :
    Calls Tryz.prog 75 #[.string t] w fun e w' => e = .returned (.tuple #[.bool (begF t.data.toList).1, .bool (begF t.data.toList).2]) ∧ Below w.heap.size w w' := by
  have HW := hide (begWays t.data.toList)
  generalize begF t.data.toList = F at HW ⊢
  have hsp := spl_size 32 t.data.toList
  rw [len_data] at hsp
  have hspc := spl_cons 32 t.data.toList
  have hS := Split_any t 32 m w (by omega) hm
  generalize spl 32 t.data.toList = P at HW hsp hspc hS
  obtain ⟨p0, PT, hP⟩ : ∃ p0 PT, P = p0 :: PT := ⟨_, _, hspc⟩
  have hp0 : P[0]? = some p0 := by rw [hP]; rfl
  have hp0l : p0.length ≤ t.size := hsp.2 p0 (by rw [hP]; simp)
  have hPl := hsp.1
  have hP0 : 0 < P.length := by rw [hP]; simp
  have hhd : P.headD [] = p0 := by rw [hP]; rfl
  rw [hhd] at HW
  have HS := hide hS
  have HSP := hide hsp.2
  clear hspc hsp hhd hP hS
  have hsr := spl_size 47 p0
  have hsrc := spl_cons 47 p0
  have HSR := hide (fun (w : World) hm => Split_any ⟨p0.toArray⟩ 47 m w (by rw [bytes_size]; omega) hm)
  rw [bytes_data] at HSR
  generalize spl 47 p0 = R at HW hsr hsrc HSR
  obtain ⟨r0, RT, hR⟩ : ∃ r0 RT, R = r0 :: RT := ⟨_, _, hsrc⟩
  have hr0 : R[0]? = some r0 := by rw [hR]; rfl
  have hRl := hsr.1
  have hR0 : 0 < R.length := by rw [hR]; simp
  have hrr : ∀ r ∈ R, r.length < 1000 := fun r hr => by have := hsr.2 r hr; omega
  have hhr : R.headD [] = r0 := by rw [hR]; rfl
  have HHR := hide hhr
  clear hsr hsrc hhr hR
  go_enter Tryz.func75, Tryz.ntmps75
  go_wp2_with fail
  refine (unhide HS).mono ?_
  rintro e w1 ⟨rfl, hb1, hv1⟩
  have hm1 : w1.cell? ⟨0, 0, none⟩ = some (.int .i64 m) := (hb1.cell (p := ⟨0, 0, none⟩) h0).trans hm
  have hs1 : w.heap.size < w1.heap.size := hv1.lt
  have c0 := hv1.cell hp0
  go_wp2_with fail
  refine (unhide HSR _ hm1).mono ?_
  rintro e w2 ⟨rfl, hb2, hv2⟩
  have hw2 : Below w.heap.size w w2 := hb1.trans (hb2.mono (by omega))
  have hv1' := hv1.below hb2 hs1
  have hs2 : w1.heap.size < w2.heap.size := hv2.lt
  have hm2 : w2.cell? ⟨0, 0, none⟩ = some (.int .i64 m) := (hb2.cell (p := ⟨0, 0, none⟩) (by dsimp only; omega)).trans hm1
  clear hb1 hb2 hv1 c0 hm1 HS HSR
  by_cases hbig : 8 < R.length ∨ 3 < P.length
  · have hF := (unhide HW).a hbig
    subst hF
    rcases Nat.lt_or_ge 8 R.length with h8 | h8
    · have h8i : (8 : Int) < (R.length : Int) := by omega
      go_wp2
      go_ret2
      exact ⟨rfl, hw2⟩
    · have h8i : ¬ (8 : Int) < (R.length : Int) := by omega
      have h3i : (3 : Int) < (P.length : Int) := by omega
      go_wp2
      go_ret2
      exact ⟨rfl, hw2⟩
  · have h8i : ¬ (8 : Int) < (R.length : Int) := by omega
    have h3i : ¬ (3 : Int) < (P.length : Int) := by omega
    have HB := hide ((unhide HW).b hbig)
    have HCC := hide ((unhide HW).c hbig)
    rw [unhide HHR] at HB HCC
    have HBIG : Hid (R.length ≤ 8 ∧ P.length ≤ 3) := by constructor <;> omega
    clear hbig HW
    obtain ⟨L, hL⟩ : ∃ L, L = decide (1 < P.length) := ⟨_, rfl⟩
    rw [← hL] at HB HCC
    have hLi : decide ((1 : Int) < (P.length : Int)) = L := by rw [hL]; exact decide_eq_decide.2 (by omega)
    have HL := hide hL
    clear hL
    go_wp2
    have hrows0 : rowsOk L r0.length R = rowsOk L r0.length (R.drop 0) := rfl
    go_loopw [7] (fun i wr => ∃ k : Nat, k ≤ R.length ∧ i = .int .i64 (k : Int) ∧ rowsOk L r0.length R = rowsOk L r0.length (R.drop k) ∧ ∃ d, wr = w2.drewN d) (fun i _ => R.length - (intOf i).toNat)
    case atStart => exact ⟨0, Nat.zero_le _, rfl, hrows0, 0, rfl⟩
    case round =>
      obtain ⟨k, hk, rfl, hrk, d, hd⟩ := hrel
      clear hrows0
      subst hd
      have HRK := hide hrk
      clear hrk
      by_cases hlt : k < R.length
      · obtain ⟨r, hr, hdr⟩ := drop_row hlt
        have hrl := hrr r (List.mem_of_getElem? hr)
        have cr := hv2.cell hr
        have c0 := hv2.cell hr0
        have hrs := bytes_size r
        have hr0s := bytes_size r0
        have hcons := rowsOk_cons L r0.length r (R.drop (k + 1))
        obtain ⟨fb, hfb⟩ : ∃ fb, fb = (L || !(R.drop (k + 1)).isEmpty) := ⟨_, rfl⟩
        rw [← hfb, rowOk_bad', ← hdr] at hcons
        have HCONS := hide hcons
        have hfb2 : fb = (L || decide (k + 1 < R.length)) := by
          rw [hfb]
          congr 1
          rw [Bool.eq_iff_iff]
          simp
        clear hcons hfb hdr hr
        have hki : (k : Int) < (R.length : Int) := by omega
        have hk0i : (0 : Int) ≤ (k : Int) := by omega
        have hR0i : (0 : Int) < (R.length : Int) := by omega
        go_upto_region 9 with fail
        go_cut [8] from 31 to 115 (fun v8 wc => v8 = .bool fb ∧ wc = w2.drewN d)
        case first =>
          cases L with
          | true =>
            simp only [Bool.true_or] at hfb2
            go_wp2_with fail
            go_meet
            case rel => exact ⟨by rw [hfb2], rfl⟩
          | false =>
            simp only [Bool.false_or] at hfb2
            by_cases hk1 : k + 1 < R.length
            · have hk1i : (k : Int) < (R.length : Int) - 1 := by omega
              go_wp2_with fail
              go_meet
              case rel => exact ⟨by rw [hfb2]; simp [hk1], rfl⟩
            · have hk1i : ¬ (k : Int) < (R.length : Int) - 1 := by omega
              go_wp2_with fail
              go_meet
              case rel => exact ⟨by rw [hfb2]; simp [hk1], rfl⟩
        case rest =>
          obtain ⟨rfl, rfl⟩ := hcut
          clear hfb2
          obtain ⟨S, hS⟩ : ∃ S : ByteArray, S = ⟨r.toArray⟩ := ⟨_, rfl⟩
          rw [← hS] at cr hrs
          have HSD : Hid (r = S.data.toList) := by show r = S.data.toList; rw [hS]
          clear hS
          generalize hn : r.length = n at hrl hrs HCONS
          generalize hn0 : r0.length = n0 at hr0s HRK HCONS HB HCC
          go_upto_region 10 with fail
          go_cut [88] from 31 to 115 (fun v wc => v = .bool (badLen fb n0 n) ∧ ∃ d', wc = w2.drewN d')
          case first =>
            by_cases a1 : n ≤ 8
            · have b1 : decide ((8 : Int) < (n : Int)) = false := by simp; omega
              by_cases a2 : n ≤ n0
              · have b2 : decide ((n0 : Int) < (n : Int)) = false := by simp; omega
                have b2' : decide (n0 < n) = false := by simp; omega
                cases fb with
                | false =>
                  have hb : badLen false n0 n = false := by unfold badLen; simp [a1, a2]
                  have HBV := hide hb
                  clear hb
                  clear a1 a2
                  go_wp2
                  go_quiet (fail)
                  go_wp2
                  go_meet
                  case rel => exact ⟨by rw [unhide HBV], _, World.drewN_drewN _ _ _⟩
                | true =>
                  by_cases a3 : n = n0
                  · have b3 : ((n : Int) != (n0 : Int)) = false := by simp; omega
                    have b3' : (n != n0) = false := by simp; omega
                    by_cases a4 : n = 0
                    · have hb : badLen true n0 n = true := by unfold badLen; simp [a4]
                      have b4 : ((n : Int) == 0) = true := by simp; omega
                      have b4' : (n == 0) = true := by simp; omega
                      have HBV := hide hb
                      clear hb
                      clear a1 a2 a3 a4
                      go_wp2
                      go_quiet (fail)
                      go_wp2
                      go_meet
                      case rel => exact ⟨by rw [unhide HBV], _, World.drewN_drewN _ _ _⟩
                    · have hb : badLen true n0 n = false := by unfold badLen; simp [a3]; omega
                      have b4 : ((n : Int) == 0) = false := by simp; omega
                      have b4' : (n == 0) = false := by simp; omega
                      have HBV := hide hb
                      clear hb
                      clear a1 a2 a3 a4
                      go_wp2
                      go_quiet (fail)
                      go_wp2
                      go_meet
                      case rel => exact ⟨by rw [unhide HBV], _, World.drewN_drewN _ _ _⟩
                  · have b3 : ((n : Int) != (n0 : Int)) = true := by simp; omega
                    have b3' : (n != n0) = true := by simp; omega
                    have hb : badLen true n0 n = true := by unfold badLen; simp [a3]
                    have HBV := hide hb
                    clear hb
                    clear a1 a2 a3
                    go_wp2
                    go_quiet (fail)
                    go_wp2
                    go_meet
                    case rel => exact ⟨by rw [unhide HBV], _, World.drewN_drewN _ _ _⟩
              · have b2 : decide ((n0 : Int) < (n : Int)) = true := by simp; omega
                have b2' : decide (n0 < n) = true := by simp; omega
                have hb : badLen fb n0 n = true := by unfold badLen; simp [a2]
                have HBV := hide hb
                clear hb
                clear a1 a2
                go_wp2
                go_quiet (fail)
                go_wp2
                go_meet
                case rel => exact ⟨by rw [unhide HBV], _, World.drewN_drewN _ _ _⟩
            · have b1 : decide ((8 : Int) < (n : Int)) = true := by simp; omega
              have hb : badLen fb n0 n = true := by unfold badLen; simp [a1]
              have HBV := hide hb
              clear hb
              clear a1
              go_wp2
              go_quiet (fail)
              go_wp2
              go_meet
              case rel => exact ⟨by rw [unhide HBV], _, World.drewN_drewN _ _ _⟩
          case rest =>
            obtain ⟨rfl, d', rfl⟩ := hcut
            generalize badLen fb n0 n = bad at HCONS ⊢
            cases bad with
            | true =>
              have hF : F = (false, false) := unhide HB (by rw [unhide HRK, unhide HCONS]; simp)
              have HF := hide hF
              clear hF
              go_wp2
              go_ret2
              rw [unhide HF]
              exact ⟨rfl, below_drewN hw2 _⟩
            | false =>
              have hcs0 : cellsB r = cellsB (S.data.toList.drop 0) := by rw [unhide HSD]; rfl
              go_wp2
              go_loopw [9] (fun v wr => ∃ j : Nat, j ≤ n ∧ v = .int .i64 (j : Int) ∧ cellsB r = cellsB (S.data.toList.drop j) ∧ ∃ e, wr = w2.drewN e) (fun v _ => n - (intOf v).toNat)
              case atStart => exact ⟨0, Nat.zero_le _, rfl, hcs0, d', rfl⟩
              case round =>
                obtain ⟨j, hj, rfl, hcj, e, he⟩ := hrel
                subst he
                clear hcs0
                have HCJ := hide hcj
                clear hcj
                by_cases hjl : j < n
                · have hjs : j < S.size := by omega
                  have hji : (j : Int) < (n : Int) := by omega
                  have hj0 : (0 : Int) ≤ (j : Int) := by omega
                  have hjsi : (j : Int) < (S.size : Int) := by omega
                  have hdc := drop_cons S j hjs
                  have hnext : cellB S[j].toNat = true → cellsB r = cellsB (S.data.toList.drop (j + 1)) := by
                    intro h
                    rw [unhide HCJ, hdc]
                    simp [cellsB, h]
                  have hstop : cellB S[j].toNat = false → F = (false, false) := by
                    intro h
                    refine unhide HB ?_
                    rw [unhide HRK, unhide HCONS, unhide HCJ, hdc]
                    simp [cellsB, h]
                  have HNX := hide hnext
                  have HST := hide hstop
                  have hcw := cellB_ways (S[j].toNat : Int)
                  have HCW := hide hcw
                  clear hdc hnext hstop hcw
                  by_cases e46 : (S[j].toNat : Int) = 46
                  · have hx : cellB S[j].toNat = true := by rw [unhide HCW]; simp [e46]
                    have HX := hide hx
                    clear hx
                    go_wp2_with fail
                    go_roundw
                    case rel => exact ⟨j + 1, by omega, by go_num, unhide HNX (unhide HX), e, rfl⟩
                    case measure => simp [intOf]; omega
                  · have e46b : ((S[j].toNat : Int) != 46) = true := by simpa using e46
                    cases hcap : capB (S[j].toNat : Int) with
                    | true =>
                      have hx : cellB S[j].toNat = true := by rw [unhide HCW]; simp [hcap]
                      have HX := hide hx
                      clear hx
                      go_wp2_with fail
                      refine (Big_any _ _).mono ?_
                      rintro e' w' ⟨rfl, rfl⟩
                      rw [hcap]
                      go_wp2_with fail
                      go_roundw
                      case rel => exact ⟨j + 1, by omega, by go_num, unhide HNX (unhide HX), e, rfl⟩
                      case measure => simp [intOf]; omega
                    | false =>
                      cases hsm : smallB (S[j].toNat : Int) with
                      | true =>
                        have hx : cellB S[j].toNat = true := by rw [unhide HCW]; simp [hsm]
                        have HX := hide hx
                        clear hx
                        go_wp2_with fail
                        refine (Big_any _ _).mono ?_
                        rintro e' w' ⟨rfl, rfl⟩
                        rw [hcap]
                        go_wp2_with fail
                        refine (Small_any _ _).mono ?_
                        rintro e' w' ⟨rfl, rfl⟩
                        rw [hsm]
                        go_wp2_with fail
                        go_roundw
                        case rel => exact ⟨j + 1, by omega, by go_num, unhide HNX (unhide HX), e, rfl⟩
                        case measure => simp [intOf]; omega
                      | false =>
                        have hx : cellB S[j].toNat = false := by rw [unhide HCW, hcap, hsm]; simp [e46]
                        have HF := hide (unhide HST hx)
                        clear hx
                        go_wp2_with fail
                        refine (Big_any _ _).mono ?_
                        rintro e' w' ⟨rfl, rfl⟩
                        rw [hcap]
                        go_wp2_with fail
                        refine (Small_any _ _).mono ?_
                        rintro e' w' ⟨rfl, rfl⟩
                        rw [hsm]
                        go_wp2
                        go_ret2
                        rw [unhide HF]
                        exact ⟨rfl, below_drewN hw2 _⟩
                · have hji : ¬ (j : Int) < (n : Int) := by omega
                  have hrow : rowsOk L n0 R = rowsOk L n0 (R.drop (k + 1)) := by
                    rw [unhide HRK, unhide HCONS, unhide HCJ, drop_all S j (by omega)]
                    simp [cellsB]
                  have HROW := hide hrow
                  clear hrow
                  go_wp2_with fail
                  go_roundw
                  case rel => exact ⟨k + 1, by omega, by go_num, by rw [hn0]; exact unhide HROW, e, rfl⟩
                  case measure => simp [intOf]; omega
      · have hki : ¬ (k : Int) < (R.length : Int) := by omega
        have hF : F = tailF P := unhide HCC (by rw [unhide HRK, List.drop_of_length_le (by omega)]; rfl)
        have HF := hide hF
        have hP3 := (unhide HBIG).2
        clear HRK hF HB HCC hlt
        rcases Nat.lt_or_ge P.length 2 with hp1 | hp2
        · have hp1i : (P.length : Int) < 2 := by omega
          have hT : tailF P = (true, false) := by rw [tailF, if_pos hp1]
          have HT := hide hT
          clear hT hp1
          go_wp2
          go_ret2
          rw [unhide HF, unhide HT]
          exact ⟨rfl, below_drewN hw2 _⟩
        · have hp2i : ¬ (P.length : Int) < 2 := by omega
          have hp2j : (1 : Int) < (P.length : Int) := by omega
          obtain ⟨p1, hp1, _⟩ := drop_row (R := P) (k := 1) (by omega)
          have hp1g : P.getD 1 [] = p1 := by rw [List.getD_eq_getElem?_getD, hp1]; rfl
          have c1 := hv1'.cell hp1
          obtain ⟨S, hS⟩ : ∃ S : ByteArray, S = ⟨p1.toArray⟩ := ⟨_, rfl⟩
          rw [← hS] at c1
          have HSD : Hid (p1 = S.data.toList) := by show p1 = S.data.toList; rw [hS]
          have HG := hide hp1g
          clear hS hp1 hp1g
          obtain ⟨bad, hbad⟩ : ∃ bad, bad = decide (p1 ≠ [119] ∧ p1 ≠ [98] ∧ (p1 ≠ [] ∨ 2 < P.length)) := ⟨_, rfl⟩
          have HBAD := hide hbad
          clear hbad
          go_upto_region 20 with fail
          go_cut [139] from 116 (fun v wc => v = .bool bad ∧ wc = w2.drewN d)
          case first =>
            have hpS := unhide HSD
            by_cases q1 : S.toList = [119]
            · have hb : bad = false := by rw [unhide HBAD, hpS, ← Lib.toList_data, q1]; simp
              have HBV := hide hb
              clear hb hpS
              go_wp2_with fail
              go_meet
              case rel => exact ⟨by rw [unhide HBV], rfl⟩
            · have q1b : (S.toList != [119]) = true := by simpa using q1
              by_cases q2 : S.toList = [98]
              · have hb : bad = false := by rw [unhide HBAD, hpS, ← Lib.toList_data, q2]; simp
                have HBV := hide hb
                clear hb hpS q1b q1
                go_wp2_with fail
                go_meet
                case rel => exact ⟨by rw [unhide HBV], rfl⟩
              · have q2b : (S.toList != [98]) = true := by simpa using q2
                by_cases q3 : S.toList = []
                · by_cases q4 : 2 < P.length
                  · have q4i : (2 : Int) < (P.length : Int) := by omega
                    have hb : bad = true := by rw [unhide HBAD, hpS, ← Lib.toList_data, q3]; simp [q4]
                    have HBV := hide hb
                    clear hb hpS q1 q1b q2 q2b q4
                    go_wp2_with fail
                    go_meet
                    case rel => exact ⟨by rw [unhide HBV], rfl⟩
                  · have q4i : ¬ (2 : Int) < (P.length : Int) := by omega
                    have hb : bad = false := by rw [unhide HBAD, hpS, ← Lib.toList_data, q3]; simp [q4]
                    have HBV := hide hb
                    clear hb hpS q1 q1b q2 q2b q4
                    go_wp2_with fail
                    go_meet
                    case rel => exact ⟨by rw [unhide HBV], rfl⟩
                · have q3b : S.toList.isEmpty = false := by rw [List.isEmpty_eq_false_iff]; exact q3
                  have hb : bad = true := by rw [unhide HBAD, hpS, ← Lib.toList_data]; simp [q1, q2, q3]
                  have HBV := hide hb
                  clear hb hpS
                  go_wp2_with fail
                  go_meet
                  case rel => exact ⟨by rw [unhide HBV]; simp [q1, q2], rfl⟩
          case rest =>
            obtain ⟨rfl, rfl⟩ := hcut
            have hT0 : tailF P = if bad = true then (false, false) else if P.length < 3 then (true, false) else if 2 < (spl 47 (P.getD 2 [])).length then (false, false) else if handsOk (spl 47 (P.getD 2 [])) = false then (false, false) else (true, decide ((spl 47 (P.getD 2 [])).length = 2) && decide ((spl 47 (P.getD 2 [])).getD 1 [] ≠ [])) := by
              rw [tailF, if_neg (by omega), unhide HG]
              by_cases hq : p1 ≠ [119] ∧ p1 ≠ [98] ∧ (p1 ≠ [] ∨ 2 < P.length)
              · have hbt : bad = true := (unhide HBAD).trans (decide_eq_true hq)
                rw [if_pos hq, if_pos hbt]
              · have hbf : bad = false := (unhide HBAD).trans (decide_eq_false hq)
                rw [if_neg hq, hbf]
                rfl
            cases bad with
            | true =>
              have HT := hide hT0
              clear hT0
              go_wp2
              go_ret2
              rw [unhide HF, unhide HT]
              exact ⟨rfl, below_drewN hw2 _⟩
            | false =>
              simp only [Bool.false_eq_true, if_false] at hT0
              rcases Nat.lt_or_ge P.length 3 with hp3 | hp3
              · have hp3i : (P.length : Int) < 3 := by omega
                rw [if_pos hp3] at hT0
                have HT := hide hT0
                clear hT0
                go_wp2
                go_ret2
                rw [unhide HF, unhide HT]
                exact ⟨rfl, below_drewN hw2 _⟩
              · have hp3i : ¬ (P.length : Int) < 3 := by omega
                have hp3j : (2 : Int) < (P.length : Int) := by omega
                rw [if_neg (by omega)] at hT0
                obtain ⟨p2, hp2', _⟩ := drop_row (R := P) (k := 2) (by omega)
                have hp2g : P.getD 2 [] = p2 := by rw [List.getD_eq_getElem?_getD, hp2']; rfl
                rw [hp2g] at hT0
                have c2 := hv1'.cell hp2'
                have hp2l := unhide HSP p2 (List.mem_of_getElem? hp2')
                have HSH := hide (fun (w : World) hm => Split_any ⟨p2.toArray⟩ 47 m w (by rw [bytes_size]; omega) hm)
                rw [bytes_data] at HSH
                have hsl := spl_size 47 p2
                generalize spl 47 p2 = Q at hT0 HSH hsl
                have hQl := hsl.1
                have hQr : ∀ h ∈ Q, h.length < 1000 := fun h hh => by have := hsl.2 h hh; omega
                have HT := hide hT0
                clear hT0 hp2' hp2g hsl
                go_wp2_with fail
                refine (unhide HSH _ (by exact hm2)).mono ?_
                rintro e w3 ⟨rfl, hb3, hv3⟩
                simp only [World.heap_drewN] at hv3
                have hw3 : Below w.heap.size w w3 := (below_drewN hw2 d).trans (hb3.mono (by simp; omega))
                clear HSH
                by_cases hq2 : 2 < Q.length
                · have hq2i : (2 : Int) < (Q.length : Int) := by omega
                  have hT1 := unhide HT
                  rw [if_pos hq2] at hT1
                  have HT1 := hide hT1
                  clear hT1 hq2
                  go_wp2
                  go_ret2
                  rw [unhide HF, unhide HT1]
                  exact ⟨rfl, hw3⟩
                · have hq2i : ¬ (2 : Int) < (Q.length : Int) := by omega
                  have hT1 := unhide HT
                  rw [if_neg hq2] at hT1
                  have HT1 := hide hT1
                  clear hT1 HT
                  go_wp2
                  have hh0 : handsOk Q = handsOk (Q.drop 0) := rfl
                  go_loopw [12] (fun v wr => ∃ k : Nat, k ≤ Q.length ∧ v = .int .i64 (k : Int) ∧ handsOk Q = handsOk (Q.drop k) ∧ ∃ e, wr = w3.drewN e) (fun v _ => Q.length - (intOf v).toNat)
                  case atStart => exact ⟨0, Nat.zero_le _, rfl, hh0, 0, rfl⟩
                  case round =>
                    obtain ⟨j, hj, rfl, hhj, d3, hd3⟩ := hrel
                    subst hd3
                    clear hh0
                    have HHJ := hide hhj
                    clear hhj
                    by_cases hjl : j < Q.length
                    · obtain ⟨h, hh, hdh⟩ := drop_row hjl
                      have hhl := hQr h (List.mem_of_getElem? hh)
                      have ch := hv3.cell hh
                      have hji : (j : Int) < (Q.length : Int) := by omega
                      have hj0 : (0 : Int) ≤ (j : Int) := by omega
                      have hcons := handsOk_cons h (Q.drop (j + 1))
                      have hemp : (Q.drop (j + 1)).isEmpty = !decide (j + 1 < Q.length) := by
                        rw [Bool.eq_iff_iff]; simp
                      rw [← hdh, hemp] at hcons
                      obtain ⟨S, hS⟩ : ∃ S : ByteArray, S = ⟨h.toArray⟩ := ⟨_, rfl⟩
                      rw [← hS] at ch
                      have hSh : h = S.data.toList := by rw [hS]
                      have hSs : S.size < 1000 := by rw [hS, bytes_size]; exact hhl
                      rw [hSh] at hcons
                      have HCONS := hide hcons
                      clear hcons hemp hdh hh hS hSh hhl
                      obtain ⟨bad, hbad⟩ : ∃ bad, bad = !(handOk S.data.toList && (!decide (j + 1 < Q.length) || decide (S.data.toList ≠ []))) := ⟨_, rfl⟩
                      have HBAD3 := hide hbad
                      clear hbad
                      go_upto_region 31 with fail
                      go_cut [177] from 150 to 177 (fun v wc => v = .bool bad ∧ ∃ e, wc = w3.drewN e)
                      case first =>
                        by_cases q1 : S.toList = [45]
                        · have hb : bad = false := by rw [unhide HBAD3, ← Lib.toList_data, q1]; simp [handOk]
                          have HBV := hide hb
                          clear hb
                          go_wp2_with fail
                          go_meet
                          case rel => exact ⟨by rw [unhide HBV], _, rfl⟩
                        · have hok : handOk S.data.toList = handB S.data.toList := by
                            rw [← Lib.toList_data]; simp [handOk, q1]
                          by_cases q3 : S = ⟨#[]⟩
                          · subst q3
                            by_cases q4 : j + 1 < Q.length
                            · have q4i : (j : Int) < (Q.length : Int) - 1 := by omega
                              have hb : bad = true := by rw [unhide HBAD3]; simp [q4]
                              have HBV := hide hb
                              clear hb hok q4 q1
                              go_wp2_with fail
                              refine (refHand_any _ _ (by decide)).mono ?_
                              rintro e w4 ⟨rfl, n4, rfl⟩
                              have hb' : handB (⟨#[]⟩ : ByteArray).data.toList = true := by decide
                              rw [hb']
                              go_wp2_with fail
                              go_meet
                              case rel => exact ⟨by rw [unhide HBV], _, rfl⟩
                            · have q4i : ¬ (j : Int) < (Q.length : Int) - 1 := by omega
                              have hb : bad = false := by rw [unhide HBAD3, hok]; simp [q4]; decide
                              have HBV := hide hb
                              clear hb hok q4 q1
                              go_wp2_with fail
                              refine (refHand_any _ _ (by decide)).mono ?_
                              rintro e w4 ⟨rfl, n4, rfl⟩
                              have hb' : handB (⟨#[]⟩ : ByteArray).data.toList = true := by decide
                              rw [hb']
                              go_wp2_with fail
                              go_meet
                              case rel => exact ⟨by rw [unhide HBV, decide_eq_false (Int.not_lt.2 q4i)], _, rfl⟩
                          · have q3l : S.data.toList ≠ [] := fun e => q3 (bytes_eq e)
                            have q3b : S.toList.isEmpty = false := by rw [Lib.toList_data, List.isEmpty_eq_false_iff]; exact q3l
                            cases hb' : handB S.data.toList with
                            | false =>
                              have hb : bad = true := by rw [unhide HBAD3, hok, hb']; simp
                              have HBV := hide hb
                              have HB' := hide hb'
                              clear hb hok q3 q3l hb'
                              go_wp2_with fail
                              refine (refHand_any S _ (by unfold maxLen; omega)).mono ?_
                              rintro e w4 ⟨rfl, n4, rfl⟩
                              rw [unhide HB']
                              go_wp2_with fail
                              go_meet
                              case rel => exact ⟨by rw [unhide HBV], _, rfl⟩
                            | true =>
                              have hb : bad = false := by rw [unhide HBAD3, hok, hb']; simp [q3l]
                              have HBV := hide hb
                              have HB' := hide hb'
                              clear hb hok q3 q3l hb'
                              go_wp2_with fail
                              refine (refHand_any S _ (by unfold maxLen; omega)).mono ?_
                              rintro e w4 ⟨rfl, n4, rfl⟩
                              rw [unhide HB']
                              go_wp2_with fail
                              go_meet
                              case rel => exact ⟨by rw [unhide HBV], _, rfl⟩
                      case rest =>
                        obtain ⟨rfl, d4, rfl⟩ := hcut
                        cases bad with
                        | true =>
                          have hz : handsOk Q = false := by
                            have h1 := unhide HBAD3
                            rw [unhide HHJ, unhide HCONS]
                            have h2 : (handOk S.data.toList && (!decide (j + 1 < Q.length) || decide (S.data.toList ≠ []))) = false := by
                              cases hx : (handOk S.data.toList && (!decide (j + 1 < Q.length) || decide (S.data.toList ≠ []))) with
                              | false => rfl
                              | true => rw [hx] at h1; cases h1
                            rw [h2]; rfl
                          have hT2 := unhide HT1
                          rw [if_pos hz] at hT2
                          have HT2 := hide hT2
                          clear hT2 hz
                          go_wp2
                          go_ret2
                          rw [unhide HF, unhide HT2]
                          exact ⟨rfl, below_drewN hw3 _⟩
                        | false =>
                          have hz : handsOk Q = handsOk (Q.drop (j + 1)) := by
                            have h1 := unhide HBAD3
                            rw [unhide HHJ, unhide HCONS]
                            have h2 : (handOk S.data.toList && (!decide (j + 1 < Q.length) || decide (S.data.toList ≠ []))) = true := by
                              cases hx : (handOk S.data.toList && (!decide (j + 1 < Q.length) || decide (S.data.toList ≠ []))) with
                              | true => rfl
                              | false => rw [hx] at h1; cases h1
                            rw [h2, Bool.true_and]
                          have HZ := hide hz
                          clear hz
                          go_wp2_with fail
                          go_roundw
                          case rel => exact ⟨j + 1, by omega, by go_num, unhide HZ, d4, rfl⟩
                          case measure => simp [intOf]; omega
                    · have hji : ¬ (j : Int) < (Q.length : Int) := by omega
                      have hz : handsOk Q = true := by rw [unhide HHJ, List.drop_of_length_le (by omega)]; rfl
                      have hT2 := unhide HT1
                      rw [if_neg (by rw [hz]; simp)] at hT2
                      have HT2 := hide hT2
                      clear hT2 hz
                      by_cases q2 : Q.length = 2
                      · have q2i : (Q.length : Int) = 2 := by omega
                        obtain ⟨h, hh, _⟩ := drop_row (R := Q) (k := 1) (by omega)
                        have hg : Q.getD 1 [] = h := by rw [List.getD_eq_getElem?_getD, hh]; rfl
                        have ch := hv3.cell hh
                        obtain ⟨S, hS⟩ : ∃ S : ByteArray, S = ⟨h.toArray⟩ := ⟨_, rfl⟩
                        rw [← hS] at ch
                        have hSh : h = S.data.toList := by rw [hS]
                        have HG2 : Hid (Q.getD 1 [] = S.data.toList) := by show _ = _; rw [hg, hSh]
                        have HQ2 := hide q2
                        clear hg hSh hS hh
                        have q2j : (1 : Int) < (Q.length : Int) := by omega
                        have q2b : ((Q.length : Int) == 2) = true := by simpa using q2i
                        by_cases q3 : S = ⟨#[]⟩
                        · subst q3
                          clear q2 q2i
                          go_wp2
                          go_quiet (fail)
                          go_wp2
                          go_ret2
                          rw [unhide HF, unhide HT2, unhide HG2, unhide HQ2]
                          exact ⟨rfl, below_drewN (below_drewN hw3 _) _⟩
                        · have q3l : S.data.toList ≠ [] := fun e => q3 (bytes_eq e)
                          have q3b : S.toList.isEmpty = false := by rw [Lib.toList_data, List.isEmpty_eq_false_iff]; exact q3l
                          have HQ3 := hide q3l
                          clear q3 q3l q2 q2i
                          go_wp2
                          go_quiet (fail)
                          go_wp2
                          go_ret2
                          rw [unhide HF, unhide HT2, unhide HG2, unhide HQ2, decide_eq_true (unhide HQ3)]
                          exact ⟨rfl, below_drewN (below_drewN hw3 _) _⟩
                      · have HQ2 := hide q2
                        have q2b : ((Q.length : Int) == 2) = false := by simpa using (by omega : ¬ (Q.length : Int) = 2)
                        have q2c : (Q.length == 2) = false := by simpa using q2
                        clear q2
                        go_wp2
                        go_quiet (fail)
                        go_wp2
                        go_ret2
                        rw [unhide HF, unhide HT2, decide_eq_false (unhide HQ2)]
                        exact ⟨rfl, below_drewN (below_drewN hw3 _) _⟩
end Go.Proofs.YtfhmpgjemobjhaaGreatDoor
