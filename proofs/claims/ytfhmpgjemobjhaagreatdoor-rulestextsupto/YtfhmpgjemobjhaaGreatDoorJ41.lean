/-
  The document's answer on rules (package gameref), walked: RulesText.
  '==' between two positions: field by field.
-/
import Derived.Test.YtfhmpgjemobjhaaGreatDoorS6
import Derived.Test.YtfhmpgjemobjhaaGreatDoorR11
import Derived.Test.YtfhmpgjemobjhaaGreatDoorJ30
import Derived.Test.YtfhmpgjemobjhaaGreatDoorJ1
import Derived.ChangeKeysEq
namespace Go.Proofs.YtfhmpgjemobjhaaGreatDoor
open Go.RowKit
attribute [local go_sem ↓] Go.wp_at_zero Go.wp_at_succ

theorem str_of {a b : ByteArray} (h : a.data.toList = b.data.toList) : Value.string a = Value.string b := by
  have : a = b := by
    apply ByteArray.ext
    exact Array.toList_inj.1 h
  rw [this]
theorem lineTwo (a b : List UInt8) : lineL [a, b] = a ++ 32 :: (b ++ [10]) := by
  simp [lineL, join_two, Lib.join_one]

set_option maxHeartbeats 4000000 in
set_option maxRecDepth 100000 in
theorem gRulesText_ok {W H : Nat} {T : Int} {C A B : ByteArray} (ao : Option Addr) (cap : Nat) (ps : List Pc) (dr st : Bool) (lo re : UInt8) (li pl : Int) (w : World) (p0 : IsPos W H C T A B) (h : isPcs w ao cap ps) (hok : rulesB W H C.data.toList T A.data.toList B.data.toList ps lo.toNat li re.toNat pl = true) (ht : isTab w) :
    Calls Tryz.prog 10 #[.agg #[.int .i64 (W : Int), .int .i64 (H : Int), .string C, .int .i64 T, .string A, .string B, .slice ao ps.length cap, .bool dr, .int .u8 (lo.toNat : Int), .int .i64 li, .int .u8 (re.toNat : Int), .bool st, .int .i64 pl]] w fun e w' => e = .returned (.string ⟨(rulesL W H C.data.toList T A.data.toList B.data.toList ps dr lo li re st pl).toArray⟩) ∧ Below w.heap.size w w' := by
  simp only [rulesB, psB, inB, Bool.and_eq_true, Bool.or_eq_true, decide_eq_true_eq] at hok
  obtain ⟨⟨⟨⟨⟨⟨⟨⟨hn1, hn10⟩, hokp⟩, _⟩, _⟩, _⟩, _⟩, hli⟩, hpl0, hpl1⟩ := hok
  obtain ⟨pl, rfl⟩ := Int.eq_ofNat_of_zero_le (show 0 ≤ pl by omega)
  have hli0 : 0 ≤ li := by omega
  obtain ⟨li, rfl⟩ := Int.eq_ofNat_of_zero_le hli0
  have hli8 : li ≤ 8 := by omega
  have hle := h.le
  have hmx := h.mx
  unfold maxLen at hmx
  have HMEM := hide (okP_mem ps 0 hokp)
  have HW := hide (fun w => Text_ok w p0)
  obtain ⟨TX, hTX⟩ : ∃ TX : ByteArray, TX = ⟨(wtxt W H C.data.toList T A.data.toList B.data.toList).toArray⟩ := ⟨_, rfl⟩
  rw [← hTX] at HW
  have hTd : TX.data.toList = wtxt W H C.data.toList T A.data.toList B.data.toList := by rw [hTX]
  have zT : TX.size ≤ 200 := by rw [← len_data, hTd]; exact wtxt_len p0
  obtain ⟨A1, hA1⟩ : ∃ A1, A1 = lineL [wStart, wtxt W H C.data.toList T A.data.toList B.data.toList] := ⟨_, rfl⟩
  have zA1 : A1.length ≤ 300 := by
    rw [hA1, ← hTd]
    simp only [lineL, wStart, join_two, Lib.join_one, List.length_append, List.length_cons, List.length_nil, len_data]
    omega
  have hn10' : ps.length ≤ 10 := by omega
  have HA1 := hide hA1
  have HTD := hide hTd
  have HP := hide h
  have HT := hide ht
  have zfl := flatP_len ps (okP_mem ps 0 hokp)
  obtain ⟨A2, hA2⟩ : ∃ A2, A2 = A1 ++ ps.flatMap pcL := ⟨_, rfl⟩
  have zA2 : A2.length ≤ 1900 := by rw [hA2, List.length_append]; omega
  have HA2 := hide hA2
  have hru0 := isRu.fresh (w := w) (v0 := .int .i64 (W : Int)) (v1 := .int .i64 (H : Int)) (v2 := .string C) (v3 := .int .i64 T) (v4 := .string A) (v5 := .string B) (v6 := .slice ao ps.length cap) (v7 := .bool dr) (v8 := .int .u8 (lo.toNat : Int)) (v9 := .int .i64 (li : Int)) (v10 := .int .u8 (re.toNat : Int)) (v11 := .bool st) (v12 := .int .i64 (pl : Int)) (Below.refl _ _)
  obtain ⟨wa, hwa⟩ : ∃ wa, wa = w.alloc (.cells #[.int .i64 (W : Int), .int .i64 (H : Int), .string C, .int .i64 T, .string A, .string B, .slice ao ps.length cap, .bool dr, .int .u8 (lo.toNat : Int), .int .i64 (li : Int), .int .u8 (re.toNat : Int), .bool st, .int .i64 (pl : Int)] 27 (0, 0)) := ⟨_, rfl⟩
  rw [← hwa] at hru0
  have hba : Below w.heap.size w wa := by rw [hwa]; exact (Below.refl _ w).alloc (Nat.le_refl _) _
  have hsa : wa.heap.size = w.heap.size + 1 := by rw [hwa]; simp
  have hgr : w.heap.size < wa.heap.size := by omega
  have HRU := hide hru0
  have HBA := hide hba
  have HWA := hide hwa
  obtain ⟨d0, d1, d2, d3, d4, d5, d6, d7, d8, d9, d10, d11, d12⟩ := hru0.cells
  clear hokp hn1 hn10 hTX hTd hA1 ht h hli0 hli hba zfl hA2 hru0 hwa hpl0
  go_enter Tryz.func10, Tryz.ntmps10
  go_upto_region 1 with fail
  rw [← unhide HWA]
  go_wp2_with fail
  refine (unhide HW _).mono ?_
  rintro e w1 ⟨rfl, hb1⟩
  obtain ⟨X1, hX1⟩ : ∃ X1 : ByteArray, X1 = (⟨#[115, 116, 97, 114, 116, 32]⟩ : ByteArray) ++ TX ++ ⟨#[10]⟩ := ⟨_, rfl⟩
  have hX1d : X1.data.toList = A1 := by
    rw [hX1, ba_app, ba_app, unhide HTD, unhide HA1, lineTwo]
    simp [wStart]
  have HX1 := hide hX1
  have HX1D := hide hX1d
  have HB1 := hide hb1
  clear hX1 hX1d hb1 d0 d1 d2 d3 d4 d5 d6 d7 d8 d9 d10 d11 d12
  go_wp2
  go_loopw [3, 4] (fun sv iv wr => ∃ (k : Nat) (X : ByteArray), k ≤ ps.length ∧ sv = .string X ∧ iv = .int .i64 (k : Int) ∧ Hid (X.data.toList = A1 ++ (ps.take k).flatMap pcL) ∧ Below wa.heap.size wa wr) (fun _ iv _ => ps.length - (intOf iv).toNat)
  case atStart => exact ⟨0, X1, Nat.zero_le _, by rw [unhide HX1], rfl, by rw [unhide HX1D]; simp [Hid], unhide HB1⟩
  case round =>
    obtain ⟨k, X, hk, rfl, rfl, HX, hbk⟩ := hrel
    clear HX1 HX1D HB1
    have hwk : Below w.heap.size w wr := (unhide HBA).trans (hbk.mono (by omega))
    have hszr := hbk.size
    have zX : X.size ≤ 1900 := by
      have := flatP_len (ps.take k) (fun q hq => unhide HMEM q (List.mem_of_mem_take hq))
      rw [List.length_take] at this
      rw [← len_data, unhide HX, List.length_append]
      omega
    obtain ⟨d0, d1, d2, d3, d4, d5, d6, d7, d8, d9, d10, d11, d12⟩ := ((unhide HRU).below hbk hgr).cells
    by_cases hkl : k < ps.length
    · have hki : (k : Int) < (ps.length : Int) := by omega
      have hk0 : (0 : Int) ≤ (k : Int) := by omega
      have hkw : k < ps.length := hkl
      obtain ⟨p, hp⟩ : ∃ p, ps[k]? = some p := ⟨ps[k], List.getElem?_eq_getElem hkw⟩
      obtain ⟨g, off, eg, hg, hc⟩ := (unhide HP).cells (by rintro rfl; simp at hkw)
      subst eg
      obtain ⟨hl, wo, wc, c0, c1, c2, c3⟩ := hc k p hp
      obtain ⟨c, hcl⟩ : ∃ c : UInt8, c = UInt8.ofNat p.l := ⟨_, rfl⟩
      have hcn : c.toNat = p.l := by rw [hcl, UInt8.toNat_ofNat']; omega
      rw [← hcn] at c0
      have f0 := (hwk.cell (p := ⟨g, off + k * 3, none⟩) hg).trans c0
      have f1 := (hwk.cell (p := ⟨g, off + k * 3 + 1, none⟩) hg).trans c1
      have f2 := (hwk.cell (p := ⟨g, off + k * 3 + 2, none⟩) hg).trans c2
      have hpc := unhide HMEM p (List.mem_of_getElem? hp)
      have hpl := pieceL_len c p.v p.ws (by rw [hcn]; exact hpc)
      have hpt := gPieceText_any c p.v wo wc p.ws wr (c3.below hwk (Nat.le_refl _)) (by rw [hcn]; exact hpc) ((unhide HT).below hwk)
      obtain ⟨PT, hPT⟩ : ∃ PT : ByteArray, PT = ⟨(wPiece ++ 32 :: pieceL c p.v p.ws).toArray⟩ := ⟨_, rfl⟩
      rw [← hPT] at hpt
      have zPT : PT.size ≤ 156 := by rw [hPT, ← len_data]; simp [wPiece]; omega
      have hfl := flat_take ps k p hp
      have hacc : (X ++ (PT ++ ⟨#[10]⟩)).data.toList = A1 ++ (ps.take (k + 1)).flatMap pcL := by
        rw [hfl, ba_app, ba_app, unhide HX, hPT, hcl, pcL, lineTwo]; simp
      have HPT := hide hpt
      have HACC := hide hacc
      clear c0 c1 c2 c3 hc hp hpc hpl hpt hPT hfl hacc hcl hcn d0 d1 d2 d3 d4 d5 d7 d8 d9 d10 d11 d12
      go_wp2_with fail
      refine (unhide HPT).mono ?_
      rintro e w4 ⟨rfl, hb4⟩
      have hb4' : Below wa.heap.size wa w4 := hbk.trans (hb4.mono hszr)
      clear hb4 d6 f0 f1 f2
      go_wp2
      go_roundw
      case rel => exact ⟨k + 1, X ++ (PT ++ ⟨#[10]⟩), by omega, rfl, by go_num, HACC, hb4'⟩
      case measure => simp [intOf]; omega
    · obtain rfl : k = ps.length := by omega
      have hki : ¬ (ps.length : Int) < (ps.length : Int) := by omega
      have hX2 : X.data.toList = A2 := by
        rw [unhide HA2, unhide HX]
        rw [List.take_of_length_le (Nat.le_refl _)]
      have HX2 := hide hX2
      clear hX2 HX hwk
      obtain ⟨A3, hA3⟩ : ∃ A3, A3 = A2 ++ dropsL dr := ⟨_, rfl⟩
      have zA3 : A3.length ≤ 1920 := by
        have := dropsL_len dr
        rw [hA3, List.length_append]; omega
      obtain ⟨X3, hXX3⟩ : ∃ X3 : ByteArray, X3 = ⟨A3.toArray⟩ := ⟨_, rfl⟩
      have zX3 : X3.size ≤ 1920 := by rw [hXX3, ← len_data]; exact zA3
      have HX3 : Hid (X3.data.toList = A3) := by rw [hXX3]; simp [Hid]
      have HA3 := hide hA3
      clear hA3 hXX3
      go_upto_if 27 with fail
      go_cut [3] (fun sv wc => sv = .string X3 ∧ Below wa.heap.size wa wc)
      case first =>
        cases dr with
        | false =>
          have hfin : Value.string X = .string X3 := str_of (by rw [unhide HX2, unhide HX3, unhide HA3]; simp [dropsL])
          have HFIN := hide hfin
          clear hfin
          go_wp2_with fail
          go_meet
          case rel => exact ⟨unhide HFIN, hbk⟩
        | true =>
          have hfin : Value.string (X ++ ⟨#[100, 114, 111, 112, 115, 10]⟩) = .string X3 := str_of (by rw [ba_app, unhide HX2, unhide HX3, unhide HA3]; simp [dropsL, lineL, Lib.join_one, wDrops])
          have HFIN := hide hfin
          clear hfin
          go_wp2_with fail
          go_meet
          case rel => exact ⟨unhide HFIN, hbk⟩
      clear hbk d0 d1 d2 d3 d4 d5 d6 d7 d8 d9 d10 d11 d12
      obtain ⟨rfl, hbk⟩ := hcut
      obtain ⟨d0, d1, d2, d3, d4, d5, d6, d7, d8, d9, d10, d11, d12⟩ := ((unhide HRU).below hbk hgr).cells
      obtain ⟨A4, hA4⟩ : ∃ A4, A4 = A3 ++ letL wLose lo := ⟨_, rfl⟩
      have zA4 : A4.length ≤ 1940 := by
        have := letL_len wLose lo (by decide)
        rw [hA4, List.length_append]; omega
      obtain ⟨X4, hXX4⟩ : ∃ X4 : ByteArray, X4 = ⟨A4.toArray⟩ := ⟨_, rfl⟩
      have zX4 : X4.size ≤ 1940 := by rw [hXX4, ← len_data]; exact zA4
      have HX4 : Hid (X4.data.toList = A4) := by rw [hXX4]; simp [Hid]
      have HA4 := hide hA4
      clear hA4 hXX4
      go_upto_if 32 with fail
      go_cut [3] (fun sv wc => sv = .string X4 ∧ Below wa.heap.size wa wc)
      case first =>
        by_cases h0 : lo = 0
        · have hz : ¬ (0 : Int) < (lo.toNat : Int) := by rw [h0]; decide
          have hfin : Value.string X3 = .string X4 := str_of (by rw [unhide HX3, unhide HX4, unhide HA4]; simp [letL, h0])
          have HFIN := hide hfin
          clear hfin h0
          go_wp2_with fail
          all_goals go_meet
          case rel => exact ⟨unhide HFIN, hbk⟩
        · have hnz : ¬ lo.toNat = 0 := fun e => h0 (UInt8.toNat_inj.1 e)
          have hz : (0 : Int) < (lo.toNat : Int) := by omega
          obtain ⟨L, hL⟩ : ∃ L : ByteArray, L = ⟨#[lo]⟩ := ⟨_, rfl⟩
          have zL : L.size = 1 := by rw [hL]; rfl
          have cv := conv1r wc lo
          rw [← hL] at cv
          have hfin : Value.string (X3 ++ ((⟨#[108, 111, 115, 101, 32]⟩ : ByteArray) ++ L ++ ⟨#[10]⟩)) = .string X4 := str_of (by rw [ba_app, ba_app, ba_app, unhide HX3, unhide HX4, unhide HA4, hL]; simp [letL, h0, lineTwo, wLose])
          have HFIN := hide hfin
          have HB2 := hide (hbk.alloc (Nat.le_trans (Nat.le_refl _) hbk.size) (.cells #[.int .u8 (lo.toNat : Int)] 5))
          clear hfin h0 hnz hL
          go_wp2_with fail
          go_meet
          case rel => exact ⟨unhide HFIN, unhide HB2⟩
      clear hbk d0 d1 d2 d3 d4 d5 d6 d7 d8 d9 d10 d11 d12
      obtain ⟨rfl, hbk⟩ := hcut
      obtain ⟨d0, d1, d2, d3, d4, d5, d6, d7, d8, d9, d10, d11, d12⟩ := ((unhide HRU).below hbk hgr).cells
      obtain ⟨A5, hA5⟩ : ∃ A5, A5 = A4 ++ numL li := ⟨_, rfl⟩
      have zA5 : A5.length ≤ 1960 := by
        have := numL_len li hli8
        rw [hA5, List.length_append]; omega
      obtain ⟨X5, hXX5⟩ : ∃ X5 : ByteArray, X5 = ⟨A5.toArray⟩ := ⟨_, rfl⟩
      have zX5 : X5.size ≤ 1960 := by rw [hXX5, ← len_data]; exact zA5
      have HX5 : Hid (X5.data.toList = A5) := by rw [hXX5]; simp [Hid]
      have HA5 := hide hA5
      clear hA5 hXX5
      go_upto_if 43 with fail
      go_cut [3] (fun sv wc => sv = .string X5 ∧ Below wa.heap.size wa wc)
      case first =>
        by_cases h0 : li = 0
        · have hz : ¬ (0 : Int) < (li : Int) := by omega
          have hfin : Value.string X4 = .string X5 := str_of (by rw [unhide HX4, unhide HX5, unhide HA5]; simp [numL, h0])
          have HFIN := hide hfin
          clear hfin h0
          go_wp2_with fail
          all_goals go_meet
          case rel => exact ⟨unhide HFIN, hbk⟩
        · have hz : (0 : Int) < (li : Int) := by omega
          obtain ⟨L, hL⟩ : ∃ L : ByteArray, L = ⟨(Lib.decDigits li).toArray⟩ := ⟨_, rfl⟩
          have zL : L.size ≤ 4 := by rw [hL]; exact dec_size4 li (by omega)
          have HIT := hide (Tryz.strconv_Itoa_small li (by omega) wc)
          rw [← hL] at HIT
          have hfin : Value.string (X4 ++ ((⟨#[108, 105, 110, 101, 32]⟩ : ByteArray) ++ L ++ ⟨#[10]⟩)) = .string X5 := str_of (by rw [ba_app, ba_app, ba_app, unhide HX4, unhide HX5, unhide HA5, hL]; simp [numL, h0, lineTwo, wLine])
          have HFIN := hide hfin
          clear hfin h0 hL
          go_wp2_with fail
          refine (unhide HIT).mono ?_
          rintro e wl ⟨rfl, hwl⟩
          subst hwl
          go_wp2_with fail
          go_meet
          case rel => exact ⟨unhide HFIN, hbk⟩
      clear hbk d0 d1 d2 d3 d4 d5 d6 d7 d8 d9 d10 d11 d12
      obtain ⟨rfl, hbk⟩ := hcut
      obtain ⟨d0, d1, d2, d3, d4, d5, d6, d7, d8, d9, d10, d11, d12⟩ := ((unhide HRU).below hbk hgr).cells
      obtain ⟨A6, hA6⟩ : ∃ A6, A6 = A5 ++ letL wReach re := ⟨_, rfl⟩
      have zA6 : A6.length ≤ 1980 := by
        have := letL_len wReach re (by decide)
        rw [hA6, List.length_append]; omega
      obtain ⟨X6, hXX6⟩ : ∃ X6 : ByteArray, X6 = ⟨A6.toArray⟩ := ⟨_, rfl⟩
      have zX6 : X6.size ≤ 1980 := by rw [hXX6, ← len_data]; exact zA6
      have HX6 : Hid (X6.data.toList = A6) := by rw [hXX6]; simp [Hid]
      have HA6 := hide hA6
      clear hA6 hXX6
      go_upto_if 53 with fail
      go_cut [3] (fun sv wc => sv = .string X6 ∧ Below wa.heap.size wa wc)
      case first =>
        by_cases h0 : re = 0
        · have hz : ¬ (0 : Int) < (re.toNat : Int) := by rw [h0]; decide
          have hfin : Value.string X5 = .string X6 := str_of (by rw [unhide HX5, unhide HX6, unhide HA6]; simp [letL, h0])
          have HFIN := hide hfin
          clear hfin h0
          go_wp2_with fail
          all_goals go_meet
          case rel => exact ⟨unhide HFIN, hbk⟩
        · have hnz : ¬ re.toNat = 0 := fun e => h0 (UInt8.toNat_inj.1 e)
          have hz : (0 : Int) < (re.toNat : Int) := by omega
          obtain ⟨L, hL⟩ : ∃ L : ByteArray, L = ⟨#[re]⟩ := ⟨_, rfl⟩
          have zL : L.size = 1 := by rw [hL]; rfl
          have cv := conv1r wc re
          rw [← hL] at cv
          have hfin : Value.string (X5 ++ ((⟨#[114, 101, 97, 99, 104, 32]⟩ : ByteArray) ++ L ++ ⟨#[10]⟩)) = .string X6 := str_of (by rw [ba_app, ba_app, ba_app, unhide HX5, unhide HX6, unhide HA6, hL]; simp [letL, h0, lineTwo, wReach])
          have HFIN := hide hfin
          have HB2 := hide (hbk.alloc (Nat.le_trans (Nat.le_refl _) hbk.size) (.cells #[.int .u8 (re.toNat : Int)] 5))
          clear hfin h0 hnz hL
          go_wp2_with fail
          go_meet
          case rel => exact ⟨unhide HFIN, unhide HB2⟩
      clear hbk d0 d1 d2 d3 d4 d5 d6 d7 d8 d9 d10 d11 d12
      obtain ⟨rfl, hbk⟩ := hcut
      obtain ⟨d0, d1, d2, d3, d4, d5, d6, d7, d8, d9, d10, d11, d12⟩ := ((unhide HRU).below hbk hgr).cells
      obtain ⟨A7, hA7⟩ : ∃ A7, A7 = A6 ++ stuckL st := ⟨_, rfl⟩
      have zA7 : A7.length ≤ 2000 := by
        have := stuckL_len st
        rw [hA7, List.length_append]; omega
      obtain ⟨X7, hXX7⟩ : ∃ X7 : ByteArray, X7 = ⟨A7.toArray⟩ := ⟨_, rfl⟩
      have zX7 : X7.size ≤ 2000 := by rw [hXX7, ← len_data]; exact zA7
      have HX7 : Hid (X7.data.toList = A7) := by rw [hXX7]; simp [Hid]
      have HA7 := hide hA7
      clear hA7 hXX7
      go_upto_if 63 with fail
      go_cut [3] (fun sv wc => sv = .string X7 ∧ Below wa.heap.size wa wc)
      case first =>
        cases st with
        | false =>
          have hfin : Value.string X6 = .string X7 := str_of (by rw [unhide HX6, unhide HX7, unhide HA7]; simp [stuckL])
          have HFIN := hide hfin
          clear hfin
          go_wp2_with fail
          go_meet
          case rel => exact ⟨unhide HFIN, hbk⟩
        | true =>
          have hfin : Value.string (X6 ++ ⟨#[115, 116, 117, 99, 107, 10]⟩) = .string X7 := str_of (by rw [ba_app, unhide HX6, unhide HX7, unhide HA7]; simp [stuckL, lineL, Lib.join_one, wStuck])
          have HFIN := hide hfin
          clear hfin
          go_wp2_with fail
          go_meet
          case rel => exact ⟨unhide HFIN, hbk⟩
      clear hbk d0 d1 d2 d3 d4 d5 d6 d7 d8 d9 d10 d11 d12
      obtain ⟨rfl, hbk⟩ := hcut
      obtain ⟨d0, d1, d2, d3, d4, d5, d6, d7, d8, d9, d10, d11, d12⟩ := ((unhide HRU).below hbk hgr).cells
      have hwx : Below w.heap.size w wc := (unhide HBA).trans (hbk.mono (by omega))
      obtain ⟨L, hL⟩ : ∃ L : ByteArray, L = ⟨(Lib.decDigits pl).toArray⟩ := ⟨_, rfl⟩
      have zL : L.size ≤ 4 := by rw [hL]; exact dec_size4 pl (by omega)
      have HIT := hide (itoaN_any pl _ (by omega) ((unhide HT).below hwx))
      rw [← hL] at HIT
      have hfin : (X7 ++ (⟨#[112, 108, 105, 101, 115, 32]⟩ : ByteArray) ++ L ++ ⟨#[10]⟩).data.toList = rulesL W H C.data.toList T A.data.toList B.data.toList ps dr lo li re st pl := by
        rw [ba_app, ba_app, ba_app, unhide HX7, unhide HA7, unhide HA6, unhide HA5, unhide HA4, unhide HA3, unhide HA2, unhide HA1, hL]
        simp [rulesL, wPlies, lineTwo]
      have HFIN := hide hfin
      have HWX := hide hwx
      clear hfin hL hwx
      go_wp2_with fail
      refine (unhide HIT).mono ?_
      rintro e wl ⟨rfl, hbl⟩
      have hbw := (unhide HWX).trans (hbl.mono (unhide HWX).size)
      clear hbl
      go_wp2
      go_ret
      exact ⟨(ret_str (unhide HFIN) : Ending.returned (.string (X7 ++ (⟨#[112, 108, 105, 101, 115, 32]⟩ : ByteArray) ++ L ++ ⟨#[10]⟩)) = _), hbw⟩
end Go.Proofs.YtfhmpgjemobjhaaGreatDoor

namespace Go.Proofs.YtfhmpgjemobjhaaGreatDoor
open Go.RowKit

def samePos (W H : Int) (C : ByteArray) (T : Int) (A B : ByteArray) (W' H' : Int) (C' : ByteArray) (T' : Int) (A' B' : ByteArray) : Bool :=
  W == W' && H == H' && C.toList == C'.toList && T == T' && A.toList == A'.toList && B.toList == B'.toList

theorem eqHands (w : World) (A B A' B' : ByteArray) :
    (Op.equalIn 9999 22 (.agg #[.string A, .string B]) (.agg #[.string A', .string B'])).run Tryz.prog w = .ok (A.toList == A'.toList && B.toList == B'.toList) w := by
  obtain ⟨i, hi⟩ : ∃ i, Tryz.prog.info? 9 = some i := by
    have h : (Tryz.prog.info? 9).isSome = true := by kernel_rfl
    exact Option.isSome_iff_exists.1 h
  have hc : Tryz.prog.cellsOf 9 = 1 := by kernel_rfl
  rw [run_equalIn_array w 9998 _ _ Tryz.underlying22 hi, hc]
  have hr : List.range 2 = [0, 1] := rfl
  rw [hr]
  simp [go_sem, Op.eqItems]
  by_cases h1 : A.toList = A'.toList <;> by_cases h2 : B.toList = B'.toList <;> simp [h1, h2]

set_option maxHeartbeats 1000000 in
theorem eqPos (w : World) (W H T W' H' T' : Int) (C A B C' A' B' : ByteArray) :
    (Op.equalIn 10000 24 (.agg #[.int .i64 W, .int .i64 H, .string C, .int .i64 T, .string A, .string B]) (.agg #[.int .i64 W', .int .i64 H', .string C', .int .i64 T', .string A', .string B'])).run Tryz.prog w =
      .ok (samePos W H C T A B W' H' C' T' A' B') w := by
  rw [run_equalIn_agg w 9999 24 _ _ (by kernel_rfl) (by kernel_rfl)]
  unfold Program.fieldsOf
  rw [Tryz.underlying24]
  simp [go_sem, eqHands, samePos]
  by_cases h1 : W = W' <;> by_cases h2 : H = H' <;> by_cases h3 : C.toList = C'.toList <;> by_cases h4 : T = T' <;> by_cases h5 : A.toList = A'.toList <;> by_cases h6 : B.toList = B'.toList <;> simp [h1, h2, h3, h4, h5, h6]
theorem samePos_refl (W H : Int) (C : ByteArray) (T : Int) (A B : ByteArray) : samePos W H C T A B W H C T A B = true := by simp [samePos]
end Go.Proofs.YtfhmpgjemobjhaaGreatDoor
