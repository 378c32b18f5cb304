/-
  package rules, walked: Write, of rules.
-/
import Derived.Test.YtfhmpgjemobjhaaGreatDoorJ9
import Derived.Deep.CutBlock
import Derived.Deep.DeepCutAuto
namespace Go.Proofs.YtfhmpgjemobjhaaGreatDoor
open Go.RowKit
attribute [local go_sem ↓] Go.wp_at_zero Go.wp_at_succ

theorem pcL_len (p : Pc) (h : pcB (p.l : Int) p.v p.ws = true) : (pcL p).length ≤ 160 := by
  have hl : p.l < 256 := by
    simp only [pcB, capB, Bool.and_eq_true, decide_eq_true_eq] at h
    omega
  have e : (UInt8.ofNat p.l).toNat = p.l := by rw [UInt8.toNat_ofNat']; omega
  have k := pieceL_len (UInt8.ofNat p.l) p.v p.ws (by rw [e]; exact h)
  simp only [pcL, lineL, wPiece, join_two, Lib.join_one, List.length_append, List.length_cons, List.length_nil]
  omega
theorem flat_take (ps : List Pc) (k : Nat) (p : Pc) (h : ps[k]? = some p) : (ps.take (k + 1)).flatMap pcL = (ps.take k).flatMap pcL ++ pcL p := by
  obtain ⟨hk, he⟩ := List.getElem?_eq_some_iff.1 h
  rw [List.take_succ_eq_append_getElem hk, he, List.flatMap_append]
  simp
theorem flatP_len (ps : List Pc) (h : ∀ p ∈ ps, pcB (p.l : Int) p.v p.ws = true) : (ps.flatMap pcL).length ≤ ps.length * 160 := by
  induction ps with
  | nil => simp
  | cons p t ih =>
    have h1 := ih (fun q hq => h q (List.mem_cons_of_mem _ hq))
    have h2 := pcL_len p (h p (by simp))
    rw [List.flatMap_cons, List.length_append, List.length_cons]
    omega

theorem dropsL_len (b : Bool) : (dropsL b).length ≤ 20 := by cases b <;> decide
theorem stuckL_len (b : Bool) : (stuckL b).length ≤ 20 := by cases b <;> decide
theorem letL_len (wd : List UInt8) (c : UInt8) (h : wd.length ≤ 5) : (letL wd c).length ≤ 20 := by
  unfold letL
  split
  · simp
  · simp only [lineL, join_two, Lib.join_one, List.length_append, List.length_cons, List.length_nil]; omega
theorem numL_len (n : Nat) (h : n ≤ 8) : (numL n).length ≤ 20 := by
  unfold numL
  split
  · simp
  · have k : (Lib.decDigits ((n : Int).toNat)).length = 1 := by rw [Lib.decDigits_one (by omega)]; rfl
    simp only [lineL, wLine, join_two, Lib.join_one, List.length_append, List.length_cons, List.length_nil, k]; omega

set_option maxHeartbeats 4000000 in
set_option maxRecDepth 100000 in
theorem rWrite_ok {W H : Nat} {T : Int} {C A B : ByteArray} (ao : Option Addr) (cap : Nat) (ps : List Pc) (dr st : Bool) (lo re : UInt8) (li pl : Int) (w : World) (p0 : IsPos W H C T A B) (h : isPcs w ao cap ps) (hok : rulesB W H C.data.toList T A.data.toList B.data.toList ps lo.toNat li re.toNat pl = true) (ht : isTab w) :
    Calls Tryz.prog 4 #[.agg #[.int .i64 (W : Int), .int .i64 (H : Int), .string C, .int .i64 T, .string A, .string B, .slice ao ps.length cap, .bool dr, .int .u8 (lo.toNat : Int), .int .i64 li, .int .u8 (re.toNat : Int), .bool st, .int .i64 pl]] w fun e w' => e = .returned (.tuple #[.string ⟨(rulesL W H C.data.toList T A.data.toList B.data.toList ps dr lo li re st pl).toArray⟩, .int .i64 0]) ∧ Below w.heap.size w w' := by
  have hC : C.size ≤ maxLen := by have := p0.c64; unfold maxLen; omega
  have hA : A.size ≤ maxLen := by have := p0.as; unfold maxLen; omega
  have hB : B.size ≤ maxLen := by have := p0.bs; unfold maxLen; omega
  have hba : Below w.heap.size w (w.alloc (.cells #[.int .i64 (W : Int), .int .i64 (H : Int), .string C, .int .i64 T, .string A, .string B, .slice ao ps.length cap, .bool dr, .int .u8 (lo.toNat : Int), .int .i64 li, .int .u8 (re.toNat : Int), .bool st, .int .i64 pl] 27 (0, 0))) := (Below.refl _ w).alloc (Nat.le_refl _) _
  have hck := rCheck_any W H T C A B ao cap ps dr st lo.toNat re.toNat li pl _ hC hA hB lo.toNat_lt re.toNat_lt (h.below hba (Nat.le_refl _))
  rw [hok] at hck
  have HCK := hide hck
  simp only [rulesB, psB, inB, Bool.and_eq_true, Bool.or_eq_true, decide_eq_true_eq] at hok
  obtain ⟨⟨⟨⟨⟨⟨⟨⟨hn1, hn10⟩, hokp⟩, _⟩, _⟩, _⟩, _⟩, hli⟩, hpl0, hpl1⟩ := hok
  obtain ⟨pl, rfl⟩ := Int.eq_ofNat_of_zero_le (show 0 ≤ pl by omega)
  have hli0 : 0 ≤ li := by omega
  obtain ⟨li, rfl⟩ := Int.eq_ofNat_of_zero_le hli0
  have hli8 : li ≤ 8 := by omega
  have hle := h.le
  have hmx := h.mx
  unfold maxLen at hmx
  have HMEM := hide (okP_mem ps 0 hokp)
  have HW := hide (fun w => Write_ok w p0)
  obtain ⟨TX, hTX⟩ : ∃ TX : ByteArray, TX = ⟨(wtxt W H C.data.toList T A.data.toList B.data.toList).toArray⟩ := ⟨_, rfl⟩
  rw [← hTX] at HW
  have hTd : TX.data.toList = wtxt W H C.data.toList T A.data.toList B.data.toList := by rw [hTX]
  have zT : TX.size ≤ 200 := by rw [← len_data, hTd]; exact wtxt_len p0
  obtain ⟨A1, hA1⟩ : ∃ A1, A1 = lineL [wStart, wtxt W H C.data.toList T A.data.toList B.data.toList] := ⟨_, rfl⟩
  have zA1 : A1.length ≤ 300 := by
    rw [hA1, ← hTd]
    simp only [lineL, wStart, join_two, Lib.join_one, List.length_append, List.length_cons, List.length_nil, len_data]
    omega
  have hn10' : ps.length ≤ 10 := by omega
  have HA1 := hide hA1
  have HTD := hide hTd
  have HP := hide h
  have HT := hide ht
  have zfl := flatP_len ps (okP_mem ps 0 hokp)
  obtain ⟨A2, hA2⟩ : ∃ A2, A2 = A1 ++ ps.flatMap pcL := ⟨_, rfl⟩
  have zA2 : A2.length ≤ 1900 := by rw [hA2, List.length_append]; omega
  have HA2 := hide hA2
  clear hck hokp hn1 hn10 hTX hTd hA1 ht h hli0 hli hba zfl hA2
  go_enter Tryz.func4, Tryz.ntmps4
  go_wp2_with fail
  refine (unhide HCK).mono ?_
  rintro e w1 ⟨rfl, hb1⟩
  rw [show errI true = 0 from rfl]
  have bp1 := isRu.fresh hb1
  have hw1 : Below w.heap.size w w1 := bel_on (Below.refl _ _) (Nat.le_refl _) hb1
  clear hb1 HCK
  obtain ⟨d0, d1, d2, d3, d4, d5, d6, d7, d8, d9, d10, d11, d12⟩ := bp1.cells
  go_wp2_with fail
  refine (unhide HW _).mono ?_
  rintro e w2 ⟨rfl, hb2⟩
  have bp2 := bp1.below hb2 bp1.lt
  have hw2 := hw1.trans (hb2.mono hw1.size)
  have hgr : w.heap.size < w2.heap.size := bp2.lt
  have hbl0 := Bld.fresh w2
  have hwl := writeLine2 w2.heap.size [] ⟨#[115, 116, 97, 114, 116]⟩ TX _ hbl0 (by simp) (by decide) (by omega)
  have hsz2 : (w2.alloc (.cells #[.pointer none, .slice none 0 0] 44 (0, 0))).heap.size = w2.heap.size + 1 := by simp
  rw [hsz2] at hwl
  have hba2 : Below w2.heap.size w2 (w2.alloc (.cells #[.pointer none, .slice none 0 0] 44 (0, 0))) := (Below.refl _ w2).alloc (Nat.le_refl _) _
  have HRU := hide bp2
  have HW2 := hide hw2
  have HWL := hide hwl
  have HBA2 := hide hba2
  clear hb2 bp1 hw1 d0 d1 d2 d3 d4 d5 d6 d7 d8 d9 d10 d11 d12 hwl hba2 hbl0 hw2 bp2
  go_wp2_with fail
  refine (unhide HWL).mono ?_
  rintro e w3 ⟨rfl, hB3, hb3⟩
  have hB3' : Bld w2.heap.size A1 w3 := by
    rw [unhide HA1, ← unhide HTD]
    exact hB3
  have hb3' : Below w2.heap.size w2 w3 := (unhide HBA2).trans hb3
  have HB3 := hide hB3'
  have HBB3 := hide hb3'
  obtain ⟨d0, d1, d2, d3, d4, d5, d6, d7, d8, d9, d10, d11, d12⟩ := ((unhide HRU).below hb3' hgr).cells
  clear hB3 hb3 hB3' hb3' hsz2
  go_wp2
  go_loopw [27] (fun iv wr => ∃ k : Nat, k ≤ ps.length ∧ iv = .int .i64 (k : Int) ∧ Bld w2.heap.size (A1 ++ (ps.take k).flatMap pcL) wr ∧ Below w2.heap.size w2 wr) (fun iv _ => ps.length - (intOf iv).toNat)
  case atStart => exact ⟨0, Nat.zero_le _, rfl, by simpa using unhide HB3, unhide HBB3⟩
  case round =>
    obtain ⟨k, hk, rfl, hBk, hbk⟩ := hrel
    clear HB3 HBB3 d0 d1 d2 d3 d4 d5 d6 d7 d8 d9 d10 d11 d12
    have hwk : Below w.heap.size w wr := (unhide HW2).trans (hbk.mono (Nat.le_of_lt hgr))
    by_cases hkl : k < ps.length
    · have hki : (k : Int) < (ps.length : Int) := by omega
      have hk0 : (0 : Int) ≤ (k : Int) := by omega
      have hkw : k < ps.length := hkl
      obtain ⟨p, hp⟩ : ∃ p, ps[k]? = some p := ⟨ps[k], List.getElem?_eq_getElem hkw⟩
      obtain ⟨g, off, eg, hg, hc⟩ := (unhide HP).cells (by rintro rfl; simp at hkw)
      subst eg
      obtain ⟨hl, wo, wc, c0, c1, c2, c3⟩ := hc k p hp
      obtain ⟨c, hcl⟩ : ∃ c : UInt8, c = UInt8.ofNat p.l := ⟨_, rfl⟩
      have hcn : c.toNat = p.l := by rw [hcl, UInt8.toNat_ofNat']; omega
      rw [← hcn] at c0
      have f0 := (hwk.cell (p := ⟨g, off + k * 3, none⟩) hg).trans c0
      have f1 := (hwk.cell (p := ⟨g, off + k * 3 + 1, none⟩) hg).trans c1
      have f2 := (hwk.cell (p := ⟨g, off + k * 3 + 2, none⟩) hg).trans c2
      have hpc := unhide HMEM p (List.mem_of_getElem? hp)
      have hpl := pieceL_len c p.v p.ws (by rw [hcn]; exact hpc)
      have hbap : Below wr.heap.size wr (wr.alloc (.cells #[.int .u8 (c.toNat : Int), .int .i64 p.v, .slice wo p.ws.length wc] 48 (0, 0))) := (Below.refl _ wr).alloc (Nat.le_refl _) _
      have hwap := hwk.trans (hbap.mono hwk.size)
      have hpt := pieceText_any c p.v wo wc p.ws _ (c3.below hwap (Nat.le_refl _)) (by rw [hcn]; exact hpc) ((unhide HT).below hwap)
      obtain ⟨PT, hPT⟩ : ∃ PT : ByteArray, PT = ⟨(pieceL c p.v p.ws).toArray⟩ := ⟨_, rfl⟩
      rw [← hPT] at hpt
      have zPT : PT.size ≤ 150 := by rw [hPT, ← len_data]; exact hpl
      have hfl := flat_take ps k p hp
      have hacc : A1 ++ (ps.take (k + 1)).flatMap pcL = (A1 ++ (ps.take k).flatMap pcL) ++ lineL [wPiece, PT.data.toList] := by
        rw [hfl, ← List.append_assoc, hPT, hcl]; rfl
      have zacc : (A1 ++ (ps.take k).flatMap pcL).length < 500000 := by
        have := flatP_len (ps.take k) (fun q hq => unhide HMEM q (List.mem_of_mem_take hq))
        rw [List.length_take] at this
        rw [List.length_append]
        omega
      have HPT := hide hpt
      have HACC := hide hacc
      have HBK := hide hBk
      have HBAP := hide hbap
      clear c0 c1 c2 c3 hc hp hpc hpl hpt hPT hfl hacc hBk hbap hwap hcl hcn
      go_wp2_with fail
      refine (unhide HPT).mono ?_
      rintro e w4 ⟨rfl, hb4⟩
      have hb4' : Below wr.heap.size wr w4 := (unhide HBAP).trans (hb4.mono (unhide HBAP).size)
      have hB4 := (unhide HBK).below hb4' (Nat.le_refl _)
      have hwl := writeLine2 w2.heap.size _ ⟨#[112, 105, 101, 99, 101]⟩ PT w4 hB4 zacc (by decide) (by omega)
      have HWL := hide hwl
      have hgbr : w2.heap.size ≤ wr.heap.size := hbk.size
      have HB4 := hide (hbk.trans (hb4'.mono hgbr))
      clear hwl hB4 hb4 hb4'
      go_wp2_with fail
      refine (unhide HWL).mono ?_
      rintro e w5 ⟨rfl, hB5, hb5⟩
      have hB5' : Bld w2.heap.size (A1 ++ (ps.take (k + 1)).flatMap pcL) w5 := by rw [unhide HACC]; exact hB5
      have hb5' := (unhide HB4).trans hb5
      have HB5 := hide hB5'
      have HBB5 := hide hb5'
      clear hB5 hb5 hB5' hb5'
      go_wp2
      go_roundw
      case rel => exact ⟨k + 1, by omega, by go_num, unhide HB5, unhide HBB5⟩
      case measure => simp [intOf]; omega
    · obtain rfl : k = ps.length := by omega
      have hki : ¬ (ps.length : Int) < (ps.length : Int) := by omega
      have hB2 : Bld w2.heap.size A2 wr := by
        rw [unhide HA2]
        rw [List.take_of_length_le (Nat.le_refl _)] at hBk
        exact hBk
      obtain ⟨d0, d1, d2, d3, d4, d5, d6, d7, d8, d9, d10, d11, d12⟩ := ((unhide HRU).below hbk hgr).cells
      clear hBk hwk
      have hBx := hB2
      have hbx := hbk
      clear hB2 hbk
      obtain ⟨A3, hA3⟩ : ∃ A3, A3 = A2 ++ dropsL dr := ⟨_, rfl⟩
      have zA3 : A3.length ≤ 1920 := by
        have := dropsL_len dr
        rw [hA3, List.length_append]; omega
      have HA3 := hide hA3
      clear hA3
      go_upto_if 37 with fail
      go_cut [] (fun wc => Bld w2.heap.size A3 wc ∧ Below w2.heap.size w2 wc)
      case first =>
        cases dr with
        | false =>
          have hfin : Bld w2.heap.size A3 wr := by rw [unhide HA3]; simpa [dropsL] using hBx
          go_wp2_with fail
          go_meet
          case rel => exact ⟨hfin, hbx⟩
        | true =>
          have HWL := hide (writeLine1 w2.heap.size A2 ⟨#[100, 114, 111, 112, 115]⟩ _ hBx (by omega) (by decide))
          have HBX := hide hbx
          clear hBx hbx
          go_wp2_with fail
          refine (unhide HWL).mono ?_
          rintro e wn ⟨rfl, hBn, hbn⟩
          have hfin : Bld w2.heap.size A3 wn := by rw [unhide HA3]; exact hBn
          have hbf := (unhide HBX).trans hbn
          go_wp2_with fail
          go_meet
          case rel => exact ⟨hfin, hbf⟩
      clear hBx hbx d0 d1 d2 d3 d4 d5 d6 d7 d8 d9 d10 d11 d12
      obtain ⟨hBx, hbx⟩ := hcut
      obtain ⟨d0, d1, d2, d3, d4, d5, d6, d7, d8, d9, d10, d11, d12⟩ := ((unhide HRU).below hbx hgr).cells
      obtain ⟨A4, hA4⟩ : ∃ A4, A4 = A3 ++ letL wLose lo := ⟨_, rfl⟩
      have zA4 : A4.length ≤ 1940 := by
        have := letL_len wLose lo (by decide)
        rw [hA4, List.length_append]; omega
      have HA4 := hide hA4
      clear hA4
      go_upto_if 42 with fail
      go_cut [] (fun wc => Bld w2.heap.size A4 wc ∧ Below w2.heap.size w2 wc)
      case first =>
        by_cases h0 : lo = 0
        · have hz : (lo.toNat : Int) = 0 := by rw [h0]; rfl
          have hzb : ((lo.toNat : Int) != 0) = false := by rw [hz]; rfl
          have hfin : Bld w2.heap.size A4 wc := by rw [unhide HA4]; simpa [letL, h0] using hBx
          clear h0 hz
          go_wp2_with fail
          all_goals go_meet
          case rel => exact ⟨hfin, hbx⟩
        · have hnz : ¬ lo.toNat = 0 := fun e => h0 (UInt8.toNat_inj.1 e)
          have hz : ¬ (lo.toNat : Int) = 0 := by omega
          have hzb : ((lo.toNat : Int) != 0) = true := by simp; omega
          have hxe : A3 ++ letL wLose lo = A3 ++ lineL [wLose, (⟨#[lo]⟩ : ByteArray).data.toList] := by simp [letL, h0]
          have HXE := hide hxe
          have HBX := hide hbx
          have HBO := hide hBx
          clear h0 hnz hxe hBx hbx
          go_wp2_with fail
          refine (letterText_any lo _).mono ?_
          rintro e wl ⟨rfl, hbl⟩
          have hBl := (unhide HBO).below hbl (Nat.le_refl _)
          have HWL := hide (writeLine2 w2.heap.size A3 ⟨#[108, 111, 115, 101]⟩ ⟨#[lo]⟩ wl hBl (by omega) (by decide) (by show 1 ≤ 1000; omega))
          have HBL := hide ((unhide HBX).trans (hbl.mono (unhide HBX).size))
          clear hBl hbl
          go_wp2_with fail
          refine (unhide HWL).mono ?_
          rintro e wn ⟨rfl, hBn, hbn⟩
          have hfin : Bld w2.heap.size A4 wn := by rw [unhide HA4, unhide HXE]; exact hBn
          have hbf := (unhide HBL).trans hbn
          go_wp2_with fail
          go_meet
          case rel => exact ⟨hfin, hbf⟩
      clear hBx hbx d0 d1 d2 d3 d4 d5 d6 d7 d8 d9 d10 d11 d12
      obtain ⟨hBx, hbx⟩ := hcut
      obtain ⟨d0, d1, d2, d3, d4, d5, d6, d7, d8, d9, d10, d11, d12⟩ := ((unhide HRU).below hbx hgr).cells
      obtain ⟨A5, hA5⟩ : ∃ A5, A5 = A4 ++ numL li := ⟨_, rfl⟩
      have zA5 : A5.length ≤ 1960 := by
        have := numL_len li hli8
        rw [hA5, List.length_append]; omega
      have HA5 := hide hA5
      clear hA5
      go_upto_if 50 with fail
      go_cut [] (fun wc => Bld w2.heap.size A5 wc ∧ Below w2.heap.size w2 wc)
      case first =>
        by_cases h0 : li = 0
        · have hz : (li : Int) = 0 := by omega
          have hzb : ((li : Int) != 0) = false := by rw [hz]; rfl
          have hfin : Bld w2.heap.size A5 wc := by rw [unhide HA5]; simpa [numL, h0] using hBx
          clear h0 hz
          go_wp2_with fail
          all_goals go_meet
          case rel => exact ⟨hfin, hbx⟩
        · have hz : ¬ (li : Int) = 0 := by omega
          have hzb : ((li : Int) != 0) = true := by simp; omega
          have hxe : A4 ++ numL li = A4 ++ lineL [wLine, (⟨(Lib.decDigits li).toArray⟩ : ByteArray).data.toList] := by simp [numL, h0]
          have HXE := hide hxe
          have HBX := hide hbx
          have HWL := hide (fun w h => writeLine2 w2.heap.size A4 ⟨#[108, 105, 110, 101]⟩ ⟨(Lib.decDigits li).toArray⟩ w h (by omega) (by decide) (by have := dec_size4 li (by omega); omega))
          have HBO := hide hBx
          clear h0 hxe hbx hBx
          go_wp2_with fail
          refine (Tryz.strconv_Itoa_small li (by omega) _).mono ?_
          rintro e wl ⟨rfl, hwl⟩
          subst hwl
          go_wp2_with fail
          refine (unhide HWL _ (unhide HBO)).mono ?_
          rintro e wn ⟨rfl, hBn, hbn⟩
          have hfin : Bld w2.heap.size A5 wn := by rw [unhide HA5, unhide HXE]; exact hBn
          have hbf := (unhide HBX).trans hbn
          go_wp2_with fail
          go_meet
          case rel => exact ⟨hfin, hbf⟩
      clear hBx hbx d0 d1 d2 d3 d4 d5 d6 d7 d8 d9 d10 d11 d12
      obtain ⟨hBx, hbx⟩ := hcut
      obtain ⟨d0, d1, d2, d3, d4, d5, d6, d7, d8, d9, d10, d11, d12⟩ := ((unhide HRU).below hbx hgr).cells
      obtain ⟨A6, hA6⟩ : ∃ A6, A6 = A5 ++ letL wReach re := ⟨_, rfl⟩
      have zA6 : A6.length ≤ 1980 := by
        have := letL_len wReach re (by decide)
        rw [hA6, List.length_append]; omega
      have HA6 := hide hA6
      clear hA6
      go_upto_if 58 with fail
      go_cut [] (fun wc => Bld w2.heap.size A6 wc ∧ Below w2.heap.size w2 wc)
      case first =>
        by_cases h0 : re = 0
        · have hz : (re.toNat : Int) = 0 := by rw [h0]; rfl
          have hzb : ((re.toNat : Int) != 0) = false := by rw [hz]; rfl
          have hfin : Bld w2.heap.size A6 wc := by rw [unhide HA6]; simpa [letL, h0] using hBx
          clear h0 hz
          go_wp2_with fail
          all_goals go_meet
          case rel => exact ⟨hfin, hbx⟩
        · have hnz : ¬ re.toNat = 0 := fun e => h0 (UInt8.toNat_inj.1 e)
          have hz : ¬ (re.toNat : Int) = 0 := by omega
          have hzb : ((re.toNat : Int) != 0) = true := by simp; omega
          have hxe : A5 ++ letL wReach re = A5 ++ lineL [wReach, (⟨#[re]⟩ : ByteArray).data.toList] := by simp [letL, h0]
          have HXE := hide hxe
          have HBX := hide hbx
          have HBO := hide hBx
          clear h0 hnz hxe hBx hbx
          go_wp2_with fail
          refine (letterText_any re _).mono ?_
          rintro e wl ⟨rfl, hbl⟩
          have hBl := (unhide HBO).below hbl (Nat.le_refl _)
          have HWL := hide (writeLine2 w2.heap.size A5 ⟨#[114, 101, 97, 99, 104]⟩ ⟨#[re]⟩ wl hBl (by omega) (by decide) (by show 1 ≤ 1000; omega))
          have HBL := hide ((unhide HBX).trans (hbl.mono (unhide HBX).size))
          clear hBl hbl
          go_wp2_with fail
          refine (unhide HWL).mono ?_
          rintro e wn ⟨rfl, hBn, hbn⟩
          have hfin : Bld w2.heap.size A6 wn := by rw [unhide HA6, unhide HXE]; exact hBn
          have hbf := (unhide HBL).trans hbn
          go_wp2_with fail
          go_meet
          case rel => exact ⟨hfin, hbf⟩
      clear hBx hbx d0 d1 d2 d3 d4 d5 d6 d7 d8 d9 d10 d11 d12
      obtain ⟨hBx, hbx⟩ := hcut
      obtain ⟨d0, d1, d2, d3, d4, d5, d6, d7, d8, d9, d10, d11, d12⟩ := ((unhide HRU).below hbx hgr).cells
      obtain ⟨A7, hA7⟩ : ∃ A7, A7 = A6 ++ stuckL st := ⟨_, rfl⟩
      have zA7 : A7.length ≤ 2000 := by
        have := stuckL_len st
        rw [hA7, List.length_append]; omega
      have HA7 := hide hA7
      clear hA7
      go_upto_if 65 with fail
      go_cut [] (fun wc => Bld w2.heap.size A7 wc ∧ Below w2.heap.size w2 wc)
      case first =>
        cases st with
        | false =>
          have hfin : Bld w2.heap.size A7 wc := by rw [unhide HA7]; simpa [stuckL] using hBx
          go_wp2_with fail
          go_meet
          case rel => exact ⟨hfin, hbx⟩
        | true =>
          have HWL := hide (writeLine1 w2.heap.size A6 ⟨#[115, 116, 117, 99, 107]⟩ _ hBx (by omega) (by decide))
          have HBX := hide hbx
          clear hBx hbx
          go_wp2_with fail
          refine (unhide HWL).mono ?_
          rintro e wn ⟨rfl, hBn, hbn⟩
          have hfin : Bld w2.heap.size A7 wn := by rw [unhide HA7]; exact hBn
          have hbf := (unhide HBX).trans hbn
          go_wp2_with fail
          go_meet
          case rel => exact ⟨hfin, hbf⟩
      clear hBx hbx d0 d1 d2 d3 d4 d5 d6 d7 d8 d9 d10 d11 d12
      obtain ⟨hBx, hbx⟩ := hcut
      obtain ⟨d0, d1, d2, d3, d4, d5, d6, d7, d8, d9, d10, d11, d12⟩ := ((unhide HRU).below hbx hgr).cells
      have hwx : Below w.heap.size w wc := (unhide HW2).trans (hbx.mono (Nat.le_of_lt hgr))
      have HIT := hide (itoaN_any pl _ (by omega) ((unhide HT).below hwx))
      have HBX := hide hbx
      have HBO := hide hBx
      have HWX := hide hwx
      clear hBx hbx hwx
      go_wp2_with fail
      refine (unhide HIT).mono ?_
      rintro e wl ⟨rfl, hbl⟩
      have hBl := (unhide HBO).below hbl (Nat.le_refl _)
      have HWL := hide (writeLine2 w2.heap.size A7 ⟨#[112, 108, 105, 101, 115]⟩ ⟨(Lib.decDigits pl).toArray⟩ wl hBl (by omega) (by decide) (by have := dec_size4 pl (by omega); omega))
      have HBL := hide ((unhide HBX).trans (hbl.mono (unhide HBX).size))
      clear hBl hbl
      go_wp2_with fail
      refine (unhide HWL).mono ?_
      rintro e wn ⟨rfl, hBn, hbn⟩
      have hbf := (unhide HBL).trans hbn
      have HBN := hide hBn
      have HBF := hide hbf
      clear hBn hbn hbf
      go_wp2_with fail
      refine (String_any w2.heap.size _ wn (unhide HBN)).mono ?_
      rintro e wz ⟨rfl, hbz⟩
      have hbw : Below w.heap.size w wz := ((unhide HW2).trans ((unhide HBF).mono (Nat.le_of_lt hgr))).trans (hbz.mono (Nat.le_of_lt hgr))
      have htx : A7 ++ lineL [[112, 108, 105, 101, 115], (⟨(Lib.decDigits pl).toArray⟩ : ByteArray).data.toList] = rulesL W H C.data.toList T A.data.toList B.data.toList ps dr lo li re st pl := by
        rw [unhide HA7, unhide HA6, unhide HA5, unhide HA4, unhide HA3, unhide HA2, unhide HA1]
        simp [rulesL, wPlies]
      have HTX := hide htx
      clear htx hbz
      go_wp2
      go_ret2
      refine ⟨?_, hbw⟩
      rw [← unhide HTX]
      rfl
end Go.Proofs.YtfhmpgjemobjhaaGreatDoor
