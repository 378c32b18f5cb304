/-
  The document's answer on rules (package gameref), walked: line, at a piece's line.
-/
import Derived.Test.YtfhmpgjemobjhaaGreatDoorJ34
namespace Go.Proofs.YtfhmpgjemobjhaaGreatDoor
open Go.RowKit
attribute [local go_sem ↓] Go.wp_at_zero Go.wp_at_succ

set_option maxHeartbeats 4000000 in
set_option maxRecDepth 100000 in
theorem gLine_piece (g : Nat) (x : Rl) (s : ByteArray) (m : Int) (w : World) (hg : GS w g x) (hs : s.size < 2000000) (hm : w.cell? ⟨0, 0, none⟩ = some (.int .i64 m)) (ht : isTab w) (c : UInt8) (hcap : capB (c.toNat : Nat) = true) (r2 : List UInt8) (hsd : s.data.toList = wPiece ++ 32 :: c :: 32 :: r2) (hps : x.ps.length ≤ 2000000) :
    Calls Tryz.prog 20 #[.pointer (some ⟨g, 0, none⟩), .string s] w fun e w' => LineP g x (pieceF (c :: 32 :: r2)) w e w' := by
  obtain ⟨h2, hh2, hh2f⟩ := cut_head c r2 hcap
  obtain ⟨R, hR⟩ : ∃ R, R = pieceF (c :: 32 :: r2) := ⟨_, rfl⟩
  rw [← hR]
  have hpf := pieceF_yes c r2 h2 hcap hh2
  rw [← hR] at hpf
  have hc32 := (cap_58 c hcap).2
  obtain ⟨q, hq⟩ : ∃ q, q = spl 32 r2 := ⟨_, rfl⟩
  have hql : 0 < q.length := by rw [hq]; exact List.length_pos_iff.2 (spl_ne 32 r2)
  have hsp : spl 32 s.data.toList = wPiece :: [c] :: q := by
    rw [hsd, spl_app, spl_nomem 32 wPiece (by decide), show c :: 32 :: r2 = [c] ++ 32 :: r2 from rfl, spl_app, spl_nomem 32 [c] (by simpa using hc32.symm), hq]
    rfl
  have hcut : Lib.cut s.data.toList [58, 32] = (wPiece ++ 32 :: c :: 32 :: h2, (Lib.cut (c :: 32 :: r2) [58, 32]).2.1, (Lib.cut (c :: 32 :: r2) [58, 32]).2.2) := by
    have h := cut_app 58 [32] (wPiece ++ [32]) (c :: 32 :: r2) (by decide)
    rw [hsd, show wPiece ++ 32 :: c :: 32 :: r2 = (wPiece ++ [32]) ++ (c :: 32 :: r2) by simp, h, hh2]
    simp
  have hpre : ([115, 116, 97, 114, 116, 32] : List UInt8).isPrefixOf s.data.toList = false := by rw [hsd]; simp [wPiece, List.isPrefixOf]
  obtain ⟨J, hJ⟩ : ∃ J, J = Lib.index s.data.toList [58, 32] := ⟨_, rfl⟩
  have hIX : ∀ u : World, u.cell? ⟨0, 0, none⟩ = some (.int .i64 m) → Calls Tryz.prog 49 #[.string s, .string ⟨#[58, 32]⟩] u fun e u' => e = .returned (.int .i64 J) ∧ u' = u := by
    intro u hu
    rw [hJ]
    exact Tryz.strings_Index s ⟨#[58, 32]⟩ m u (by omega) hu
  have HIX := hide hIX
  obtain ⟨n, hn⟩ : ∃ n, n = (wPiece :: [c] :: q).length := ⟨_, rfl⟩
  have HSP := hide (Split_any s 32 m w hs hm)
  rw [hsp, ← hn] at HSP
  have hn3 : 3 ≤ n := by rw [hn]; simp only [List.length_cons]; omega
  have h3 : (3 : Int) ≤ (n : Int) := by omega
  have hi0 : (0 : Int) < (n : Int) := by omega
  have hi1 : (1 : Int) < (n : Int) := by omega
  obtain ⟨A0, hA0⟩ : ∃ A0 : ByteArray, A0 = ⟨wPiece.toArray⟩ := ⟨_, rfl⟩
  have f0 := tl_true (A := A0) (l := [112, 105, 101, 99, 101]) (by rw [hA0]; rfl)
  obtain ⟨A1, hA1⟩ : ∃ A1 : ByteArray, A1 = ⟨#[c]⟩ := ⟨_, rfl⟩
  have HR : Hid (∀ u : World, isRv u w.heap.size (wPiece :: [c] :: q) → u.cell? ⟨w.heap.size, 0, none⟩ = some (.string A0) ∧ u.cell? ⟨w.heap.size, 1, none⟩ = some (.string A1)) := by
    refine hide fun u hu => ⟨?_, ?_⟩
    · rw [hA0]; exact hu.cell (k := 0) rfl
    · rw [hA1]; exact hu.cell (k := 1) rfl
  have h1 : A1.size = 1 := by rw [hA1]; rfl
  have hc0 : A1[0] = c := by simp [hA1]; rfl
  have h1i : (A1.size : Int) = 1 := by omega
  have h10 : (0 : Int) < (A1.size : Int) := by omega
  have HCAP : Hid (capB ((A1[0]'(by omega)).toNat : Nat) = true) := by rw [hc0]; exact hcap
  have HC0 := hide hc0
  have HPRE := hide hpre
  have HG := hide hg
  have HGW : Hid (g < w.heap.size) := hide hg.lt
  have HM := hide hm
  have HT := hide ht
  have HPF := hide hpf
  have HCUT := hide hcut
  have HSD := hide hsd
  have HJ := hide hJ
  have HH2F := hide hh2f
  have HR0 := hide hR
  clear hpre hm hA0 hA1 hg hsp hn hn3 hcap hc0 hc32 hpf hcut hsd hIX hJ ht hh2 hh2f hR hq hql
  go_enter Tryz.func20, Tryz.ntmps20
  go_wp2_with fail
  refine (unhide HSP).mono ?_
  rintro e w1 ⟨rfl, hb1, hrv⟩
  obtain ⟨r0, r1⟩ := unhide HR w1 hrv
  have HG1 := hide ((unhide HG).below hb1)
  have HM1 : Hid (w1.cell? ⟨0, 0, none⟩ = some (.int .i64 m)) := hide ((hb1.cell (p := ⟨0, 0, none⟩) (Nat.lt_of_le_of_lt (Nat.zero_le g) (unhide HGW))).trans (unhide HM))
  have HB1 := hide hb1
  clear hb1 hrv
  go_wp2_with fail
  refine (hasPrefix_any s ⟨#[115, 116, 97, 114, 116, 32]⟩ w1).mono ?_
  rintro e w2 ⟨rfl, rfl⟩
  rw [unhide HPRE]
  go_wp2_with fail
  refine (Big_any _ _).mono ?_
  rintro e w3 ⟨rfl, rfl⟩
  rw [unhide HCAP]
  go_wp2_with fail
  refine (unhide HIX _ (unhide HM1)).mono ?_
  rintro e w4 ⟨rfl, rfl⟩
  have hlw := (unhide HB1).size
  go_upto_if 67 with fail
  obtain ⟨wp, hwp⟩ : ∃ wp, wp = w4.alloc (.cells #[.int .u8 ((A1[0]'(by omega)).toNat : Int), .int .i64 0, .slice none 0 0] 48 (0, 0)) := ⟨_, rfl⟩
  have hpx : isPx wp w4.heap.size (.int .u8 ((A1[0]'(by omega)).toNat : Int)) (.int .i64 0) (.slice none 0 0) := by rw [hwp]; exact heap_alloc_new w4 _
  have hbp : Below w4.heap.size w4 wp := by rw [hwp]; exact (Below.refl _ _).alloc (Nat.le_refl _) _
  have hsz : wp.heap.size = w4.heap.size + 1 := by rw [hwp]; simp
  rw [← hwp]
  have HPX := hide hpx
  have HBP := hide hbp
  clear hwp hpx hbp r0 r1
  go_cut [8] (fun hv wc => ∃ (HD : ByteArray) (WS : List Wy) (v : Value), hv = .string HD ∧ Hid (HD.data.toList = wPiece ++ 32 :: c :: 32 :: h2) ∧ HD.size ≤ s.size ∧ Hid (R = (numOf h2).map fun n => (⟨c.toNat, (n : Nat), WS⟩ : Pc)) ∧ isPx wc w4.heap.size (.int .u8 ((A1[0]'(by omega)).toNat : Int)) (.int .i64 0) v ∧ wc.ownsRow (w4.heap.size + 2) 62 4 v WS.length (wvals WS) ∧ Below w4.heap.size w4 wc)
  case first =>
    have hcu := unhide HCUT
    by_cases hJ0 : 0 ≤ J
    · obtain ⟨j, rfl⟩ := Int.eq_ofNat_of_zero_le hJ0
      have hu : Lib.cut s.data.toList [58, 32] = (s.data.toList.take j, s.data.toList.drop (j + 2), true) := by
        unfold Lib.cut
        rw [← unhide HJ, if_pos hJ0]
        rfl
      rw [hcu] at hu
      simp only [Prod.mk.injEq] at hu
      obtain ⟨hu1, hu2, hu3⟩ := hu
      have hlen : s.size = j + 2 + (s.data.toList.drop (j + 2)).length := by
        have hbk := cut_back s.data.toList [58, 32] (by rw [hcu]; exact hu3)
        rw [hcu] at hbk
        simp only [hu1, hu2] at hbk
        have := congrArg List.length hbk
        rw [List.length_append, List.length_append, List.length_take, List.length_cons, List.length_cons, List.length_nil, len_data] at this
        omega
      rw [List.length_drop, len_data] at hlen
      obtain ⟨HD, hHD⟩ : ∃ HD, s.extract 0 j = HD := ⟨_, rfl⟩
      obtain ⟨DD, hDD⟩ : ∃ DD, s.extract (j + 2) s.size = DD := ⟨_, rfl⟩
      have hHDd : HD.data.toList = wPiece ++ 32 :: c :: 32 :: h2 := by
        rw [← hHD, ByteArray.data_extract, Array.toList_extract, List.extract_eq_take_drop, hu1]
        simp
      have hHDs : HD.size ≤ s.size := by rw [← hHD, ByteArray.size_extract]; omega
      have hDDd : DD.data.toList = (Lib.cut (c :: 32 :: r2) [58, 32]).2.1 := by
        rw [← hDD, ByteArray.data_extract, Array.toList_extract, List.extract_eq_take_drop, hu2, List.take_of_length_le]
        rw [List.length_drop, len_data]
        omega
      have hDDs : DD.size ≤ s.size := by rw [← hDD, ByteArray.size_extract]; omega
      obtain ⟨L, hL⟩ : ∃ L, L = Lib.split DD.data.toList [44, 32] := ⟨_, rfl⟩
      have hLl : L.length ≤ 2000000 := by
        have := split_len [44, 32] (by simp) _ DD.data.toList (Nat.le_refl _)
        rw [← hL, len_data] at this
        omega
      have hLs : ∀ p ∈ L, p.length ≤ s.size := by
        intro p hp
        rw [hL] at hp
        have := split_short [44, 32] (by simp) _ DD.data.toList (Nat.le_refl _) p hp
        rw [len_data] at this
        omega
      have hpf2 : R = match numOf h2 with
          | none => none
          | some v => (L.mapM wayOf).map fun ws => (⟨c.toNat, (v : Nat), ws⟩ : Pc) := by
        rw [hL, hDDd, unhide HPF, hu3]
        cases numOf h2 <;> simp
      have hmp : wp.cell? ⟨0, 0, none⟩ = some (.int .i64 m) := ((unhide HBP).cell (p := ⟨0, 0, none⟩) (Nat.lt_of_lt_of_le (Nat.lt_of_le_of_lt (Nat.zero_le g) (unhide HGW)) hlw)).trans (unhide HM1)
      have hsp2 := Split2_any DD ⟨#[44, 32]⟩ m wp (by omega) (by decide) hmp
      rw [show (⟨#[44, 32]⟩ : ByteArray).data.toList = [44, 32] from rfl, ← hL, hsz] at hsp2
      have HSP2 := hide hsp2
      have HPF2 := hide hpf2
      have HLS := hide hLs
      have HHDD := hide hHDd
      have hj2 : j + 2 ≤ s.size := by omega
      have hj2i : (j : Int) + 2 ≤ (s.size : Int) := by omega
      have hji : (j : Int) ≤ (s.size : Int) := by omega
      clear hcu hu1 hu2 hu3 hlen hHDd hDDd hL hLs hpf2 hsp2 hJ0 hmp
      go_wp2_with fail
      refine (unhide HSP2).mono ?_
      rintro e w5 ⟨rfl, hb5, hrv5⟩
      have hpx5 := (unhide HPX).below hb5 (by omega)
      have hb45 : Below w4.heap.size w4 w5 := (unhide HBP).trans (hb5.mono (by omega))
      have hsz5 := hrv5.lt
      have HPX5 := hide hpx5
      have HB45 := hide hb45
      have HRV5 := hide hrv5
      clear hb5 hrv5 hpx5 hb45 hHD hDD hDDs
      obtain ⟨i0, hi, hz0, hz1, hz2⟩ := info_parts infoWay
      go_wp2
      go_loopw [12] (fun iv wr => ∃ (k : Nat) (WS : List Wy) (v : Value), k ≤ L.length ∧ iv = .int .i64 (k : Int) ∧ WS.length = k ∧ Hid (L.mapM wayOf = ((L.drop k).mapM wayOf).map (WS ++ ·)) ∧ isPx wr w4.heap.size (.int .u8 ((A1[0]'(by omega)).toNat : Int)) (.int .i64 0) v ∧ Hid (wr.ownsRow (w4.heap.size + 2) 62 4 v WS.length (wvals WS)) ∧ isRv wr (w4.heap.size + 1) L ∧ Below w4.heap.size w4 wr) (fun iv _ => L.length - (intOf iv).toNat)
      case atStart => exact ⟨0, [], .slice none 0 0, Nat.zero_le _, rfl, rfl, by simp [Hid], unhide HPX5, hide (World.ownsRow_nil _ _ _ _), unhide HRV5, unhide HB45⟩
      case round =>
        obtain ⟨k, WS, v, hk, rfl, hWS, HWS, hpx, HOWN, hrv, hbr⟩ := hrel
        have hszr := hrv.lt
        clear HPX5 HB45 HRV5
        by_cases hkl : k < L.length
        · have hki : (k : Int) < (L.length : Int) := by omega
          have hk0 : (0 : Int) ≤ (k : Int) := by omega
          obtain ⟨l, hl⟩ : ∃ l, L[k]? = some l := ⟨L[k], List.getElem?_eq_getElem hkl⟩
          obtain ⟨LB, hLB⟩ : ∃ LB : ByteArray, LB = ⟨l.toArray⟩ := ⟨_, rfl⟩
          have hLd : LB.data.toList = l := by rw [hLB]
          have rl := hrv.cell hl
          rw [← hLB] at rl
          have hLz : LB.size ≤ s.size := by rw [← len_data, hLd]; exact unhide HLS l (List.mem_of_getElem? hl)
          have hbw : Below w.heap.size w wr := (unhide HB1).trans (hbr.mono hlw)
          have hmr : wr.cell? ⟨0, 0, none⟩ = some (.int .i64 m) := (hbw.cell (p := ⟨0, 0, none⟩) (Nat.lt_of_le_of_lt (Nat.zero_le g) (unhide HGW))).trans (unhide HM)
          have hwo := gWayOf_any LB m wr (by omega) hmr (by omega) ((unhide HT).below hbw)
          have HWO := hide hwo
          have HL := hide hl
          have HLD := hide hLd
          have HPXR := hide hpx
          have HRVR := hide hrv
          have HBW := hide hbw
          clear hwo hl hLB hLd hmr hpx hrv hbw
          go_wp2_with fail
          refine (unhide HWO).mono ?_
          rintro e w6 ⟨⟨z, ok, rfl, hzo⟩, hb6⟩
          rw [unhide HLD] at hzo
          have hpx6 := (unhide HPXR).below hb6 (by omega)
          have hrv6 := (unhide HRVR).below hb6 hszr
          have hown6 := row_keep (unhide HOWN) (fun k _ hk => hb6.block k hk)
          have hb46 : Below w4.heap.size w4 w6 := hbr.trans (hb6.mono hbr.size)
          have hsz6 := hrv6.lt
          clear hb6
          cases ok with
          | false =>
            have hno : R = none := by
              have := ways_stop L k l WS (unhide HL) (by simpa using hzo) (unhide HWS)
              rw [unhide HPF2, this]
              cases numOf h2 <;> rfl
            have HNO := hide hno
            have HF : Hid (Below g w (w6.alloc (.cells #[.int .i64 z.k, .int .i64 z.x, .int .i64 z.y, .int .i64 z.t] 62 (0, 0)))) := hide ((((unhide HB1).trans (hb46.mono hlw)).alloc (Nat.le_trans hlw hb46.size) _).mono (Nat.le_of_lt (unhide HGW)))
            unfold Wy.v
            clear hno hzo hpx6 hrv6 hown6 hb46
            go_wp2
            go_ret
            exact ⟨Or.inr ⟨unhide HNO, rfl⟩, unhide HF⟩
          | true =>
            have hnx := ways_next L k l WS z (unhide HL) (by simpa using hzo) (unhide HWS)
            have HNX := hide hnx
            obtain ⟨⟨p0, p1, p2⟩, g0, g1, g2⟩ := hpx6.all
            have hba6 : ∀ o, Below w6.heap.size w6 (w6.alloc o) := fun o => (Below.refl _ _).alloc (Nat.le_refl _) o
            have p2a := fun o => ((hba6 o).cell (p := ⟨w4.heap.size, 2, none⟩) (by simp only; omega)).trans p2
            obtain ⟨ao, un, uc, rfl⟩ := row_slice hown6
            have HPX6 := hide hpx6
            have HRV6 := hide hrv6
            have HB46 := hide hb46
            have HOW6 := hide hown6
            unfold Wy.v
            clear hzo hnx hpx6 hrv6 hb46 p0 p1 g0 g1 hown6
            go_wp2_with (at_builtin; refine wpList_append_own _ rfl _ _ 46 rfl (w4.heap.size + 2) 62 i0 _ 4 32 Tryz.underlying46 hi hz0 hz1 hz2 rfl (by decide) _ _ _ rfl (((unhide HOW6).alloc _).alloc _) ⟨w6.heap.size + 1, 0, none⟩ 1 1 [.int .i64 z.k, .int .i64 z.x, .int .i64 z.y, .int .i64 z.t] rfl rfl ?c1 ?c2 ?c3 ?c4 ?c5 ?_)
            case c1 =>
              intro j u hj
              match j, hj with
              | 0, hj => simp at hj; subst hj; simp [Addr.add]
              | 1, hj => simp at hj; subst hj; simp [Addr.add]
              | 2, hj => simp at hj; subst hj; simp [Addr.add]
              | 3, hj => simp at hj; subst hj; simp [Addr.add]
            case c2 =>
              intro u hu
              simp only [List.mem_cons, List.not_mem_nil, or_false] at hu
              rcases hu with rfl | rfl | rfl | rfl <;> rfl
            case c3 => unfold maxLen; omega
            case c4 => omega
            case c5 => simp; omega
            intro v' w7 hown7 hgrow _
            have hb67 : Below (w4.heap.size + 2) w6 w7 := (((Below.refl _ w6).alloc (by omega) _).alloc (by simp; omega) _).grown hgrow (by simp; omega) (own_ge (unhide HOW6))
            rw [← wvals_snoc, show k + 1 = (WS ++ [z]).length by rw [List.length_append, hWS]; rfl] at hown7
            obtain ⟨uo, un', uc', rfl⟩ := row_slice hown7
            have hpx7 := (unhide HPX6).below hb67 (by omega)
            have hrv7 := (unhide HRV6).below hb67 (by omega)
            obtain ⟨⟨s0, s1, s2⟩, t0, t1, t2⟩ := hpx7.all
            have HPX8 := hide (hpx7.set2 (.slice uo un' uc'))
            have HRV8 : Hid (isRv (w7.setCell ⟨w4.heap.size, 2, none⟩ (.slice uo un' uc')) (w4.heap.size + 1) L) := by
              refine hide ?_
              unfold isRv at hrv7 ⊢
              rw [Below.heap_setCell _ _ _ _ (by simp only; omega)]
              exact hrv7
            have HOW8 : Hid ((w7.setCell ⟨w4.heap.size, 2, none⟩ (.slice uo un' uc')).ownsRow (w4.heap.size + 2) 62 4 (.slice uo un' uc') (WS ++ [z]).length (wvals (WS ++ [z]))) := hide (row_keep hown7 (fun k hk _ => Below.heap_setCell _ _ _ _ (by simp only; omega)))
            have HB48 : Hid (Below w4.heap.size w4 (w7.setCell ⟨w4.heap.size, 2, none⟩ (.slice uo un' uc'))) := hide (((unhide HB46).trans (hb67.mono (by omega))).setCell (p := ⟨w4.heap.size, 2, none⟩) (Nat.le_refl _) _)
            clear hown7 hgrow hb67 hpx7 hrv7 s0 s1 t0 t1 p2 p2a g2
            go_wp2
            go_roundw
            case rel => exact ⟨k + 1, WS ++ [z], .slice uo un' uc', by omega, by go_num, by rw [List.length_append, hWS]; rfl, HNX, unhide HPX8, HOW8, unhide HRV8, unhide HB48⟩
            case measure => simp [intOf]; omega
        · obtain rfl : k = L.length := by omega
          have hki : ¬ (L.length : Int) < (L.length : Int) := by omega
          have hR2 : R = (numOf h2).map fun n => (⟨c.toNat, (n : Nat), WS⟩ : Pc) := by
            rw [unhide HPF2, ways_done L WS (unhide HWS)]
            cases numOf h2 <;> rfl
          have HR2 := hide hR2
          clear hR2
          go_wp2_with fail
          go_meet
          case rel => exact ⟨HD, WS, v, rfl, HHDD, hHDs, HR2, hpx, unhide HOWN, hbr⟩
    · have hflag : (Lib.cut (c :: 32 :: r2) [58, 32]).2.2 = false := by
        have hu : Lib.cut s.data.toList [58, 32] = (s.data.toList, [], false) := by
          unfold Lib.cut
          rw [← unhide HJ, if_neg hJ0]
        rw [hcu] at hu
        simp only [Prod.mk.injEq] at hu
        exact hu.2.2
      have hR2 : R = (numOf h2).map fun n => (⟨c.toNat, (n : Nat), []⟩ : Pc) := by
        rw [unhide HPF, hflag]
        cases numOf h2 <;> simp
      have hhd : s.data.toList = wPiece ++ 32 :: c :: 32 :: h2 := by rw [unhide HSD, unhide HH2F hflag]
      have HR2 := hide hR2
      have HHD := hide hhd
      clear hcu hflag hR2 hhd
      go_wp2_with fail
      go_meet
      case rel => exact ⟨s, [], .slice none 0 0, rfl, HHD, Nat.le_refl _, HR2, unhide HPX, World.ownsRow_nil _ _ _ _, unhide HBP⟩
  case rest =>
    obtain ⟨HD, WS, v, rfl, HHD, hHDs, HR2, hpx, hown, hbc⟩ := hcut
    have hbw : Below w.heap.size w wc := (unhide HB1).trans (hbc.mono hlw)
    have h0g : 0 < w.heap.size := Nat.lt_of_le_of_lt (Nat.zero_le g) (unhide HGW)
    have hmc : wc.cell? ⟨0, 0, none⟩ = some (.int .i64 m) := (hbw.cell (p := ⟨0, 0, none⟩) h0g).trans (unhide HM)
    obtain ⟨q2, hq2⟩ : ∃ q2, q2 = spl 32 h2 := ⟨_, rfl⟩
    have hc32 : (32 : UInt8) ∉ [c] := by
      have hcap : capB (c.toNat : Nat) = true := by have := unhide HCAP; rw [unhide HC0] at this; exact this
      simpa using (cap_58 c hcap).2.symm
    have hsp2 : spl 32 HD.data.toList = wPiece :: [c] :: q2 := by
      rw [unhide HHD, spl_app, spl_nomem 32 wPiece (by decide), show c :: 32 :: h2 = [c] ++ 32 :: h2 from rfl, spl_app, spl_nomem 32 [c] hc32, hq2]
      rfl
    obtain ⟨n2, hn2⟩ : ∃ n2, n2 = (wPiece :: [c] :: q2).length := ⟨_, rfl⟩
    have hSP2 := Split_any HD 32 m wc (by omega) hmc
    rw [hsp2, ← hn2] at hSP2
    have HSP2 := hide hSP2
    have HPXC := hide hpx
    have HOWN := hide hown
    have HBW := hide hbw
    have hpxl : w4.heap.size < wc.heap.size := lt_of_block hpx
    clear hSP2 hsp2 hpx hown hbw hmc hc32
    go_wp2_with fail
    refine (unhide HSP2).mono ?_
    rintro e w5 ⟨rfl, hb5, hrv⟩
    have hpx5 := (unhide HPXC).below hb5 hpxl
    have hown5 := row_keep (unhide HOWN) (fun k _ hk => hb5.block k hk)
    have hb45 : Below w4.heap.size w4 w5 := hbc.trans (hb5.mono hbc.size)
    have hbw5 : Below w.heap.size w w5 := (unhide HBW).trans (hb5.mono (unhide HBW).size)
    have hwc5 := hrv.lt
    clear hb5
    have HF5 : Hid (Below g w w5) := hide (hbw5.mono (Nat.le_of_lt (unhide HGW)))
    by_cases hbl : (32 : UInt8) ∈ h2
    · have hnn : numOf h2 = none := numOf_blank h2 hbl
      have hq3 : 2 ≤ q2.length := by
        rw [hq2]
        rcases cut32 h2 with ⟨a, b, -, -, -, h⟩ | ⟨h, -⟩
        · rw [h, List.length_cons]
          have := List.length_pos_iff.2 (spl_ne 32 b)
          omega
        · exact absurd hbl h
      have hR3 : R = none := by rw [unhide HR2, hnn]; rfl
      have h3n : ¬ (n2 : Int) = 3 := by rw [hn2]; simp only [List.length_cons]; omega
      have h3b : ((n2 : Int) != 3) = true := by simpa using h3n
      have HR3 := hide hR3
      clear hnn hq3 hR3 hbl hq2 hn2 hpx5 hown5 hrv hbw5
      go_wp2
      go_ret
      exact ⟨Or.inr ⟨unhide HR3, rfl⟩, unhide HF5⟩
    · have hq3 : q2 = [h2] := by rw [hq2]; exact spl_nomem 32 h2 hbl
      have h3n : (n2 : Int) = 3 := by rw [hn2, hq3]; rfl
      have h3b : ((n2 : Int) != 3) = false := by simpa using h3n
      have h2n : (2 : Int) < (n2 : Int) := by omega
      obtain ⟨A2, hA2⟩ : ∃ A2 : ByteArray, A2 = ⟨h2.toArray⟩ := ⟨_, rfl⟩
      have r2' : w5.cell? ⟨wc.heap.size, 2, none⟩ = some (.string A2) := by rw [hA2]; exact hrv.cell (k := 2) (by rw [hq3]; rfl)
      have hA2d : A2.data.toList = h2 := by rw [hA2]
      have hCN := fun u hu => count_any A2 u hu
      rw [hA2d] at hCN
      clear hq2 hn2 hrv hbl hA2 hA2d hq3
      cases hnn : numOf h2 with
      | none =>
        have hR3 : R = none := by rw [unhide HR2, hnn]; rfl
        have hcn : cntI h2 = -1 := by unfold cntI; rw [hnn]
        rw [hcn] at hCN
        have HCN := hide hCN
        have HR3 := hide hR3
        have HT5 := hide ((unhide HT).below hbw5)
        have HBW5 := hide hbw5
        clear hnn hR3 hcn hCN hpx5 hown5 hbw5
        go_wp2_with fail
        refine (unhide HCN _ (unhide HT5)).mono ?_
        rintro e w6 ⟨rfl, hb6⟩
        have hbw6 : Below g w w6 := ((unhide HBW5).trans (hb6.mono (unhide HBW5).size)).mono (Nat.le_of_lt (unhide HGW))
        clear hb6
        go_wp2
        go_ret
        exact ⟨Or.inr ⟨unhide HR3, rfl⟩, hbw6⟩
      | some nv =>
        have hR3 : R = some ⟨c.toNat, (nv : Nat), WS⟩ := by rw [unhide HR2, hnn]; rfl
        have hcn : cntI h2 = (nv : Int) := by unfold cntI; rw [hnn]
        rw [hcn] at hCN
        have hnv0 : ¬ (nv : Int) < 0 := by omega
        have HCN := hide hCN
        have HR3 := hide hR3
        have HT5 := hide ((unhide HT).below hbw5)
        have HPX5 := hide hpx5
        have HOWN5 := hide hown5
        have HB45 := hide hb45
        have hpl5 : w4.heap.size < w5.heap.size := lt_of_block hpx5
        clear hnn hR3 hcn hCN hpx5 hown5 hbw5 hb45
        go_wp2_with fail
        refine (unhide HCN _ (unhide HT5)).mono ?_
        rintro e w6 ⟨rfl, hb6⟩
        have r2'' := (hb6.cell (p := ⟨wc.heap.size, 2, none⟩) hwc5).trans r2'
        have hb46 : Below w4.heap.size w4 w6 := (unhide HB45).trans (hb6.mono (Nat.le_of_lt hpl5))
        have HPX6 := hide ((unhide HPX5).below hb6 hpl5)
        have HOWN6 := hide (row_keep (unhide HOWN5) (fun k _ hk => hb6.block k hk))
        have HT6 := hide ((unhide HT).below ((unhide HB1).trans (hb46.mono hlw)))
        have HB46 := hide hb46
        have hpl6 : w4.heap.size < w6.heap.size := lt_of_block (unhide HPX6)
        clear hb6 hb46 r2'
        go_wp2_with fail
        refine (unhide HCN _ (unhide HT6)).mono ?_
        rintro e w7 ⟨rfl, hb7⟩
        have hpx7 := (unhide HPX6).below hb7 hpl6
        have hown7 := row_keep (unhide HOWN6) (fun k _ hk => hb7.block k hk)
        have hb47 : Below w4.heap.size w4 w7 := (unhide HB46).trans (hb7.mono (Nat.le_of_lt hpl6))
        obtain ⟨⟨s0, s1, s2⟩, t0, t1, t2⟩ := hpx7.all
        have hpx8 := hpx7.set1 (.int .i64 (nv : Int))
        have hown8 : (w7.setCell ⟨w4.heap.size, 1, none⟩ (.int .i64 (nv : Int))).ownsRow (w4.heap.size + 2) 62 4 v WS.length (wvals WS) := row_keep hown7 (fun k hk _ => Below.heap_setCell _ _ _ _ (by simp only; omega))
        have hb48 : Below w4.heap.size w4 (w7.setCell ⟨w4.heap.size, 1, none⟩ (.int .i64 (nv : Int))) := hb47.setCell (p := ⟨w4.heap.size, 1, none⟩) (Nat.le_refl _) _
        have HPX8 := hide hpx8
        have HOWN8 := hide hown8
        have HB48 := hide hb48
        clear hb7 hpx7 hown7 hb47 hpx8 hown8 hb48
        go_upto_region 26 with fail
        clear s0 s1 s2 t0 t1 t2
        generalize w7.setCell ⟨w4.heap.size, 1, none⟩ (.int .i64 (nv : Int)) = w8 at *
        obtain ⟨⟨vq, qs, hru, hpk⟩, hszx⟩ := (unhide HG1).below (unhide HB48)
        obtain ⟨qo, qn, qc, rfl⟩ := row_slice hpk.row
        obtain ⟨ao, un, uc, rfl⟩ := row_slice (unhide HOWN8)
        have hqn := hpk.len
        have hgl : g < w8.heap.size := isRu.lt hru
        have hpl8 : w4.heap.size < w8.heap.size := lt_of_block (unhide HPX8)
        obtain ⟨o8, ho8⟩ : ∃ o8, o8 = Obj.cells #[.int .u8 ((A1[0]'(by omega)).toNat : Int), .int .i64 (nv : Int), .slice ao un uc] 48 := ⟨_, rfl⟩
        have hba : Below w8.heap.size w8 (w8.alloc o8) := (Below.refl _ _).alloc (Nat.le_refl _) _
        obtain ⟨-, -, -, -, -, -, d6, -⟩ := isRu.cells hru
        have d6a : (w8.alloc o8).cell? ⟨g, 6, none⟩ = some (.slice qo qn qc) := (hba.cell (p := ⟨g, 6, none⟩) hgl).trans d6
        obtain ⟨⟨s0, s1, s2⟩, -⟩ := (unhide HPX8).all
        have HNEW : Hid ((w8.alloc o8).heap[w8.heap.size]? = some o8) := hide (heap_alloc_new w8 o8)
        have HC1 : Hid (∀ j u, [Value.int .u8 ((A1[0]'(by omega)).toNat : Int), .int .i64 (nv : Int), .slice ao un uc][j]? = some u → (w8.alloc o8).drew.cell? ((⟨w8.heap.size, 0, none⟩ : Addr).add j) = some u) := by
          refine hide fun j u hj => ?_
          rw [ho8]
          match j, hj with
          | 0, hj => simp at hj; subst hj; simp [Addr.add]
          | 1, hj => simp at hj; subst hj; simp [Addr.add]
          | 2, hj => simp at hj; subst hj; simp [Addr.add]
        have HC2 : Hid (∀ u ∈ [Value.int .u8 ((A1[0]'(by omega)).toNat : Int), .int .i64 (nv : Int), .slice ao un uc], u.oneCell' = true) := by
          refine hide fun u hu => ?_
          simp only [List.mem_cons, List.not_mem_nil, or_false] at hu
          rcases hu with rfl | rfl | rfl <;> rfl
        have HC3 : Hid (qs.length + 1 ≤ maxLen) := by refine hide ?_; unfold maxLen; omega
        have HC4 : Hid ((qs.length + 1) * 40 ≤ 140737488355328) := by refine hide ?_; omega
        have HC5 : Hid (g + 1 ≤ (w8.alloc o8).drew.heap.size) := by refine hide ?_; show g + 1 ≤ (w8.alloc o8).heap.size; simp; omega
        have HROW : Hid ((w8.alloc o8).drew.ownsRow (g + 1) 48 3 (.slice qo qn qc) qs.length (pvals qs)) := hide (hpk.row.alloc o8)
        have HFIN : Hid (∀ v' w9, w9.ownsRow (g + 1) 48 3 v' (qs.length + 1) (pvals qs ++ [Value.int .u8 ((A1[0]'(by omega)).toNat : Int), .int .i64 (nv : Int), .slice ao un uc]) → (w8.alloc o8).drew.grownBy w9 (Value.slice qo qn qc).ownBlock → GS (w9.setCell ⟨g, 6, none⟩ v') g { x with ps := x.ps ++ [⟨c.toNat, (nv : Nat), WS⟩] } ∧ Below g w (w9.setCell ⟨g, 6, none⟩ v') ∧ (∃ u, w9.cell? ⟨g, 6, none⟩ = some u) ∧ w9.frozen? ⟨g, 6, none⟩ = false) := by
          refine hide fun v' w9 hown9 hgrow => ?_
          have hgrow' : (w8.alloc o8).grownBy w9 (Value.slice qo qn qc).ownBlock := ⟨hgrow.os, hgrow.tape, hgrow.output, hgrow.size, hgrow.block⟩
          have hb89 : Below (g + 1) (w8.alloc o8) w9 := (Below.refl _ _).grown hgrow' (by simp; omega) (own_ge hpk.row)
          have hpka := hpk.keep (w' := w8.alloc o8) (fun k _ hk => hba.block k hk)
          have hrua : isGs (w8.alloc o8) g x (.slice qo qn qc) := isRu.below hru hba hgl
          have howna := row_mono (base' := g + 1) (row_keep (w' := w8.alloc o8) (unhide HOWN8) (fun k _ hk => hba.block k hk)) (by have := unhide HGW; omega)
          have hpv : Pv.is (w8.alloc o8) (g + 1) ⟨(A1[0]'(by omega)).toNat, (nv : Int), ao, un, uc⟩ ⟨c.toNat, (nv : Nat), WS⟩ := ⟨by simp only [unhide HC0], c.toNat_lt, rfl, howna⟩
          have hfin := GS.snoc hrua hpka hszx hpv (v' := v') (w' := w9) (by rw [pvals_snoc, List.length_append]; exact hown9) hgrow' hb89
          have hbg : Below g w w9 := (((((unhide HB1).trans ((unhide HB48).mono hlw)).mono (Nat.le_of_lt (unhide HGW))).trans (hba.mono (Nat.le_of_lt hgl)))).trans (hb89.mono (Nat.le_succ _))
          have hru9 := isRu.below hrua hb89 (Nat.lt_succ_self _)
          exact ⟨hfin, hbg.setCell (p := ⟨g, 6, none⟩) (Nat.le_refl _) _, ⟨_, (isRu.cells hru9).2.2.2.2.2.2.1⟩, isRu.frozen hru9 6⟩
        obtain ⟨i0, hi, hz0, hz1, hz2⟩ := info_parts infoPiece
        subst ho8
        clear hpk hru hba hszx HNEW hgl hpl8 hqn
        go_region_law (refine step_append_own rfl (.tmp 119) (.tmp 121) 25 rfl (g + 1) 48 i0 _ 3 40 Tryz.underlying25 hi hz0 hz1 hz2 rfl (by decide) (.slice qo qn qc) qs.length (pvals qs) (by simp [Act.eval]) (unhide HROW) ⟨w8.heap.size, 0, none⟩ 1 1 [.int .u8 ((A1[0]'(by omega)).toNat : Int), .int .i64 (nv : Int), .slice ao un uc] (by simp [Act.eval]) rfl (unhide HC1) (unhide HC2) (unhide HC3) (unhide HC4) (unhide HC5) ?_; intro v' w9 hown9 hgrow9; obtain ⟨hE1, hE2, ⟨u6, hE3⟩, hE4⟩ := unhide HFIN v' w9 hown9 hgrow9; obtain ⟨uo, un', uc', rfl⟩ := row_slice hown9; have HE1 := hide hE1; have HE2 := hide hE2; clear hE1 hE2 hown9 hgrow9)
        all_goals go_wp2
        all_goals go_ret
        all_goals exact ⟨Or.inl ⟨_, unhide HR3, rfl, unhide HE1⟩, unhide HE2⟩
end Go.Proofs.YtfhmpgjemobjhaaGreatDoor
