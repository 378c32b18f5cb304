/-
  package record, walked: survey.list.
-/
import Derived.Test.YtdibjdpnleepmacDoorN3
import Derived.Shelf.Abstract
namespace Go.Proofs.YtdibjdpnleepmacDoor
open Go.RowKit
attribute [local go_sem ↓] Go.wp_at_zero Go.wp_at_succ

theorem svL_bounds : ∀ (f : Nat) (l : List Nt) (k : Int) (s : Sv), 0 ≤ s.n → 0 ≤ s.left → 0 ≤ (svL f l k s).1.n ∧ (svL f l k s).1.n + (svL f l k s).1.left ≤ s.n + s.left ∧ ((svL f l k s).2 = true → 0 ≤ (svL f l k s).1.left)
  | 0, l, k, s, h0, h1 => by rw [svL]; exact ⟨h0, Int.le_refl _, fun _ => h1⟩
  | f + 1, [], k, s, h0, h1 => by rw [svL]; exact ⟨h0, Int.le_refl _, fun _ => h1⟩
  | f + 1, t :: l, k, s, h0, h1 => by
    have e1 : (s.one k t).n = s.n + 1 := rfl
    have e2 : (s.one k t).left = s.left - (1 + (t.mv.size : Int) + (t.cm.size : Int)) := rfl
    rw [svL]
    split
    · refine ⟨by simp only; omega, by simp only; omega, fun h => by cases h⟩
    · rename_i hn
      have hb := svL_bounds f t.nx (k + 1) (s.one k t) (by omega) (by omega)
      split
      · refine ⟨hb.1, by simp only; omega, fun h => by cases h⟩
      · rename_i hr
        have h3 := hb.2.2 (by simpa using hr)
        have hb2 := svL_bounds (f + 1) l k (svL f t.nx (k + 1) (s.one k t)).1 hb.1 h3
        exact ⟨hb2.1, by omega, hb2.2.2⟩
termination_by f l => (f, l.length)
theorem svL_deep : ∀ (f : Nat) (l : List Nt) (k : Int) (s : Sv), 0 ≤ s.d → s.d ≤ 65537 → k ≤ 65537 → 0 ≤ (svL f l k s).1.d ∧ (svL f l k s).1.d ≤ 65537
  | 0, l, k, s, h0, h1, h2 => by rw [svL]; exact ⟨h0, h1⟩
  | f + 1, [], k, s, h0, h1, h2 => by rw [svL]; exact ⟨h0, h1⟩
  | f + 1, t :: l, k, s, h0, h1, h2 => by
    have e1 : (s.one k t).d = max s.d k := rfl
    rw [svL]
    split
    · exact ⟨by simp only; omega, by simp only; omega⟩
    · rename_i hn
      have hb := svL_deep f t.nx (k + 1) (s.one k t) (by omega) (by omega) (by omega)
      split
      · exact hb
      · exact svL_deep (f + 1) l k (svL f t.nx (k + 1) (s.one k t)).1 hb.1 hb.2 h2
termination_by f l => (f, l.length)
/-- What list leaves. -/
structure ListEnd (g : Nat) (r : Sv × Bool) (w : World) (e : Ending) (w' : World) : Prop where
  ret : e = .returned (.bool r.2)
  sv : isSv w' g r.1
  low : Below g w w'
theorem entM : ∀ args (u : World), (callFunc 21 args).run Tryd.prog u = .ok (.enter 21 args) u := enters_of Tryd.func21 (by kernel_rfl) rfl
theorem entC : ∀ args (u : World), (callFunc 28 args).run Tryd.prog u = .ok (.enter 28 args) u := enters_of Tryd.func28 (by kernel_rfl) rfl

set_option maxHeartbeats 4000000 in
set_option maxRecDepth 1000000 in
theorem list_any (hV : ∀ (s : ByteArray) (u : World), s.size < 2000000 → Lib.Utf8Tabs 0 1 u → Calls Tryd.prog 36 #[.string s] u fun e u' => e = .returned (.bool (Lib.validD s.data.toList)) ∧ Below u.heap.size u u') :
    ∀ (d g : Nat) (ao : Option Addr) (cap : Nat) (l : List Nt) (k : Int) (s : Sv) (w : World), isNts d w g ao cap l → isSv w g s → (∀ u, Below g w u → Lib.Utf8Tabs 0 1 u) → 0 ≤ s.n → 0 ≤ s.left → s.n + s.left ≤ 4294967296 → 0 ≤ s.d → s.d ≤ 65537 → 1 ≤ k → k ≤ 65537 →
    Calls Tryd.prog 15 #[.pointer (some ⟨g, 0, none⟩), .slice ao l.length cap, .int .i64 k] w fun e w' => ListEnd g (svL d l k s) w e w' := by
  intro d
  induction d with
  | zero =>
    intro g ao cap l k s w hN hS hT hn0 hl0 hnl hd0 hd1 hk1 hk2
    obtain ⟨rfl, hmx, hno⟩ := hN
    have hr : svL 0 [] k s = (s, true) := by rw [svL]
    rw [hr]
    have HS := hide hS
    clear hS hT hr
    simp only [List.length_nil]
    go_enter Tryd.func15, Tryd.ntmps15
    go_wp2
    go_loopw [10] (fun iv wr => iv = .int .i64 0 ∧ wr = w) (fun _ _ => 0)
    case atStart => exact ⟨rfl, rfl⟩
    case round =>
      obtain ⟨rfl, rfl⟩ := hrel
      go_wp2
      go_ret
      exact ⟨rfl, unhide HS, Below.refl _ _⟩
  | succ d ih =>
    intro g ao cap l k s w hN hS hT hn0 hl0 hnl hd0 hd1 hk1 hk2
    obtain ⟨hle, hmx, hno, hcells⟩ := hN
    unfold maxLen at hmx
    obtain ⟨R, hR⟩ : ∃ R, R = svL (d + 1) l k s := ⟨_, rfl⟩
    rw [← hR]
    have HR : Hid (R = svL (d + 1) (l.drop 0) k s) := hide (by rw [List.drop_zero]; exact hR)
    have HS := hide hS
    have HT := hide hT
    have HCL := hide hcells
    have HIH := hide ih
    clear hS hT hcells hR ih
    go_enter Tryd.func15, Tryd.ntmps15
    go_wp2
    go_loopw [10] (fun iv wr => ∃ (i : Nat) (si : Sv), i ≤ l.length ∧ iv = .int .i64 (i : Int) ∧ Hid (R = svL (d + 1) (l.drop i) k si) ∧ isSv wr g si ∧ Below g w wr ∧ 0 ≤ si.n ∧ 0 ≤ si.left ∧ si.n + si.left ≤ 4294967296 ∧ 0 ≤ si.d ∧ si.d ≤ 65537) (fun iv _ => l.length - (intOf iv).toNat)
    case atStart => exact ⟨0, s, Nat.zero_le _, rfl, HR, unhide HS, Below.refl _ _, hn0, hl0, hnl, hd0, hd1⟩
    case round =>
      obtain ⟨i, si, hi, rfl, HRI, hSi, hbi, hin, hil, hinl, hid0, hid1⟩ := hrel
      clear HR HS
      by_cases hil' : i < l.length
      · have hii : (i : Int) < (l.length : Int) := by omega
        have hi0 : (0 : Int) ≤ (i : Int) := by omega
        obtain ⟨t, ht⟩ : ∃ t, l[i]? = some t := ⟨l[i], List.getElem?_eq_getElem hil'⟩
        obtain ⟨gn, off, eao, hgn, hc⟩ := unhide HCL (by rintro rfl; simp at hil')
        subst eao
        obtain ⟨z1, z2, no, nc, c0, c1, c2, c3⟩ := hc i t ht
        have hstep : R = svL (d + 1) (t :: l.drop (i + 1)) k si := by
          obtain ⟨hk, he⟩ := List.getElem?_eq_some_iff.1 ht
          rw [unhide HRI, List.drop_eq_getElem_cons hk, he]
        rw [svL] at hstep
        have HST := hide hstep
        have HC3 := hide c3
        have HC0 := hide c0
        have HC1 := hide c1
        have HC2 := hide c2
        clear hstep ht hc c0 c1 c2 c3
        obtain ⟨⟨a0, a1, a2, a3⟩, b0, b1, b2, b3⟩ := hSi.all
        have HADD := hide (sizeAdd_any g 0 si.n si.d k wr a0 a1 b0 b1 (by omega))
        have hS1 := hSi.add (si.n + 1) (max si.d k)
        have hb1 : Below g w ((wr.setCell ⟨g, 0, none⟩ (.int .i64 (si.n + 1))).setCell ⟨g, 0 + 1, none⟩ (.int .i64 (max si.d k))) := (hbi.setCell (p := ⟨g, 0, none⟩) (Nat.le_refl _) _).setCell (p := ⟨g, 0 + 1, none⟩) (Nat.le_refl _) _
        have HS1 := hide hS1
        have HB1 := hide hb1
        clear a0 a1 a2 a3 b0 b1 b2 b3 hSi hbi hS1 hb1
        go_wp2_with fail
        refine (unhide HADD).mono ?_
        rintro e w2 ⟨rfl, hw2⟩
        have hS2 : isSv w2 g { si with n := si.n + 1, d := max si.d k } := by rw [hw2]; exact unhide HS1
        have hb2 : Below g w w2 := by rw [hw2]; exact unhide HB1
        clear hw2 HADD HS1 HB1
        obtain ⟨s2, hs2⟩ : ∃ s2 : Sv, s2 = { si with n := si.n + 1, d := max si.d k } := ⟨_, rfl⟩
        rw [← hs2] at hS2
        have HS2E := hide hs2
        have hg2 : g < w2.heap.size := hS2.lt
        have d0 := (hb2.cell (p := ⟨gn, off + i * 3, none⟩) hgn).trans (unhide HC0)
        have d1 := (hb2.cell (p := ⟨gn, off + i * 3 + 1, none⟩) hgn).trans (unhide HC1)
        have hTM := isText_any mvR 21 1 20 t.mv w2 z1 (by decide) entM isOfMove_any (unhide HT w2 hb2) (fun u hu => hV t.mv u z1 hu)
        have hTC := fun u (hu : Below g w u) => isText_any cmR 28 0 200 t.cm u z2 (by decide) entC isOfComment_any (unhide HT u hu) (fun u hu => hV t.cm u z2 hu)
        rw [show ((1 : Nat) : Int) = 1 from rfl, show ((20 : Nat) : Int) = 20 from rfl] at hTM
        simp only [show ((0 : Nat) : Int) = 0 from rfl, show ((200 : Nat) : Int) = 200 from rfl] at hTC
        obtain ⟨q1, hq1⟩ : ∃ q, q = isTextB mvR 1 20 t.mv := ⟨_, rfl⟩
        obtain ⟨q2, hq2⟩ : ∃ q, q = isTextB cmR 0 200 t.cm := ⟨_, rfl⟩
        rw [← hq1] at hTM
        rw [← hq2] at hTC
        have HTM := hide hTM
        have HTC := hide hTC
        have hnt : ntB t = (q1 && q2) := by unfold ntB; rw [← hq1, ← hq2]
        have HNT := hide hnt
        obtain ⟨MV, hMV⟩ : ∃ MV, MV = t.mv := ⟨_, rfl⟩
        obtain ⟨CM, hCM⟩ : ∃ CM, CM = t.cm := ⟨_, rfl⟩
        rw [← hMV] at HTM HC0 d0 z1
        rw [← hCM] at HTC HC1 d1 z2
        have HMV := hide hMV
        have HCM := hide hCM
        have HSV2 := hide hS2
        have HBB2 := hide hb2
        clear hTM hTC hq1 hq2 hnt hs2 hMV hCM hS2 hb2
        go_upto_region 5 with fail
        go_cut [] (fun wc => isSv wc g { s2 with wr := !(q1 && q2) } ∧ Below g w wc)
        case first =>
          go_wp2_with fail
          refine (unhide HTM).mono ?_
          rintro e w3 ⟨rfl, hb3⟩
          have hS3 := (unhide HSV2).below hb3 hg2
          have hbw3 : Below g w w3 := (unhide HBB2).trans (hb3.mono (Nat.le_of_lt hg2))
          have hg3 : g < w3.heap.size := hS3.lt
          have d1' := (hb3.cell (p := ⟨gn, off + i * 3 + 1, none⟩) (Nat.lt_of_lt_of_le hgn (Nat.le_of_lt hg2))).trans d1
          clear hb3 d0 d1
          cases q1 with
          | false =>
            obtain ⟨⟨-, -, e2, -⟩, -, -, f2, -⟩ := hS3.all
            have HFS := hide (hS3.set2 true)
            have HFB := hide (hbw3.setCell (p := ⟨g, 2, none⟩) (Nat.le_refl _) (.bool true))
            clear hS3 hbw3
            go_wp2_with fail
            go_meet
            case rel => exact ⟨unhide HFS, unhide HFB⟩
          | true =>
            have HS3 := hide hS3
            have HBW3 := hide hbw3
            clear hS3 hbw3
            go_wp2_with fail
            refine (unhide HTC _ (unhide HBW3)).mono ?_
            rintro e w4 ⟨rfl, hb4⟩
            have hS4 := (unhide HS3).below hb4 hg3
            have hbw4 : Below g w w4 := (unhide HBW3).trans (hb4.mono (Nat.le_of_lt hg3))
            obtain ⟨⟨-, -, e2, -⟩, -, -, f2, -⟩ := hS4.all
            have HFS := hide (hS4.set2 (!q2))
            have HFB := hide (hbw4.setCell (p := ⟨g, 2, none⟩) (Nat.le_refl _) (.bool (!q2)))
            clear hS4 hbw4 hb4 d1'
            go_wp2_with fail
            go_meet
            case rel => exact ⟨by simpa using unhide HFS, unhide HFB⟩
        case rest =>
          clear HSV2 HBB2 d0 d1 hg2
          obtain ⟨hSc, hbc⟩ := hcut
          obtain ⟨⟨-, -, -, a3⟩, -, -, -, b3⟩ := hSc.all
          have hl2 : s2.left = si.left := by rw [unhide HS2E]
          simp only [hl2] at a3
          have d0 := (hbc.cell (p := ⟨gn, off + i * 3, none⟩) hgn).trans (unhide HC0)
          have d1 := (hbc.cell (p := ⟨gn, off + i * 3 + 1, none⟩) hgn).trans (unhide HC1)
          obtain ⟨N1, hN1⟩ : ∃ N : Int, 1 + (MV.size : Int) = N := ⟨_, rfl⟩
          obtain ⟨N2, hN2⟩ : ∃ N : Int, N1 + (CM.size : Int) = N := ⟨_, rfl⟩
          obtain ⟨N3, hN3⟩ : ∃ N : Int, si.left - N2 = N := ⟨_, rfl⟩
          have y1 : IntKind.i64.wrap N1 = N1 := by unfold IntKind.wrap; simp [IntKind.signed, IntKind.bits]; omega
          have y2 : IntKind.i64.wrap N2 = N2 := by unfold IntKind.wrap; simp [IntKind.signed, IntKind.bits]; omega
          have y3 : IntKind.i64.wrap N3 = N3 := by unfold IntKind.wrap; simp [IntKind.signed, IntKind.bits]; omega
          have hone : ({ { s2 with wr := !(q1 && q2) } with left := N3 } : Sv) = si.one k t := by
            rw [unhide HS2E, ← hN3, ← hN2, ← hN1, unhide HMV, unhide HCM]
            unfold Sv.one
            rw [unhide HNT]
          have hS3 := hSc.set3 N3
          rw [hone] at hS3
          have HS3 := hide hS3
          have HB3 := hide (hbc.setCell (p := ⟨g, 3, none⟩) (Nat.le_refl _) (.int .i64 N3))
          have hon : (si.one k t).wr = !(q1 && q2) := by rw [← hone]
          have hol : (si.one k t).left = N3 := by rw [← hone]
          have HONE := hide hone
          have hN3' : N3 + 1 ≤ si.left := by omega
          have hN3'' : -9000000 ≤ N3 := by omega
          clear hSc hbc hone hS3 hl2
          go_upto_region 6 with fail
          go_cut [] (fun wx => isSv wx g (si.one k t) ∧ Below g w wx)
          case first =>
            go_region
            all_goals go_wp2_with fail
            all_goals go_meet
            all_goals exact ⟨unhide HS3, (unhide HB3).drew⟩
          case rest =>
            obtain ⟨hSx, hbx⟩ := hcut
            clear a3 b3 d0 d1 y1 y2 y3 hN1 hN2 hN3 HS3 HB3
            have hsx := unhide HST
            rw [hon, hol] at hsx
            obtain ⟨S1, hS1e⟩ : ∃ S1, S1 = si.one k t := ⟨_, rfl⟩
            rw [← hS1e] at hSx hsx hon hol
            have e1 : S1.n = si.n + 1 := by rw [hS1e]; rfl
            have e2 : S1.d = max si.d k := by rw [hS1e]; rfl
            have HS1E := hide hS1e
            have HONE' := HONE
            clear hS1e HST HONE HONE' HS2E HNT
            obtain ⟨⟨-, -, a2, a3⟩, -⟩ := hSx.all
            rw [hon] at a2
            rw [hol] at a3
            have HSX := hide hSx
            have HBX := hide hbx
            have hgx : g < wc.heap.size := hSx.lt
            have d2 := (hbx.cell (p := ⟨gn, off + i * 3 + 2, none⟩) hgn).trans (unhide HC2)
            by_cases hw : (!(q1 && q2)) = true
            · have hre : R = (S1, false) := by rw [hsx, if_pos (Or.inl hw)]
              have HRE := hide hre
              rw [hw] at a2
              clear hre hsx hw hSx hbx hon hol
              go_wp2
              go_ret
              rw [unhide HRE]
              exact ⟨rfl, unhide HSX, unhide HBX⟩
            · have hw' : (!(q1 && q2)) = false := by simpa using hw
              rw [hw'] at a2
              by_cases hneg : N3 < 0
              · have hre : R = (S1, false) := by rw [hsx, if_pos (Or.inr (Or.inl hneg))]
                have HRE := hide hre
                clear hre hsx hw hw' hSx hbx hon hol
                go_wp2
                go_ret
                rw [unhide HRE]
                exact ⟨rfl, unhide HSX, unhide HBX⟩
              · by_cases hkk : 65536 < k
                · have hre : R = (S1, false) := by rw [hsx, if_pos (Or.inr (Or.inr hkk))]
                  have HRE := hide hre
                  clear hre hsx hw hw' hSx hbx hon hol
                  go_wp2
                  go_ret
                  rw [unhide HRE]
                  exact ⟨rfl, unhide HSX, unhide HBX⟩
                · rw [if_neg (fun h => h.elim hw (fun h => h.elim hneg hkk))] at hsx
                  have hnn := isNts.below hbx (Nat.le_refl _) d no nc t.nx (unhide HC3)
                  have hrec := unhide HIH g no nc t.nx (k + 1) S1 wc hnn hSx (fun u hu => unhide HT u (hbx.trans hu)) (by omega) (by omega) (by omega) (by omega) (by omega) (by omega) (by omega)
                  have hbd := svL_bounds d t.nx (k + 1) S1 (by omega) (by omega)
                  have hbdd := svL_deep d t.nx (k + 1) S1 (by omega) (by omega) (by omega)
                  obtain ⟨Q, hQ⟩ : ∃ Q, Q = svL d t.nx (k + 1) S1 := ⟨_, rfl⟩
                  rw [← hQ] at hrec hsx hbd hbdd
                  have HREC := hide hrec
                  have HSXX := hide hsx
                  have hki : ¬ (65536 : Int) < k := hkk
                  have hsl : S1.n + S1.left ≤ 4294967296 := by omega
                  clear hnn hrec hsx hQ hw hw' hSx hbx hon hol
                  go_wp2_with fail
                  refine (unhide HREC).mono ?_
                  rintro e w7 ⟨rfl, hS7, hb7⟩
                  have hbw7 : Below g w w7 := (unhide HBX).trans hb7
                  have HS7 := hide hS7
                  have HBW7 := hide hbw7
                  clear hb7 hS7 hbw7
                  cases hq : Q.2 with
                  | false =>
                    have hre : R = (Q.1, false) := by rw [unhide HSXX, if_pos hq]
                    have HRE := hide hre
                    clear hre
                    go_wp2
                    go_ret
                    rw [unhide HRE]
                    exact ⟨rfl, unhide HS7, unhide HBW7⟩
                  | true =>
                    have hre : R = svL (d + 1) (l.drop (i + 1)) k Q.1 := by rw [unhide HSXX, if_neg (by rw [hq]; simp)]
                    have HRE := hide hre
                    have hq3 := hbd.2.2 hq
                    clear hre
                    go_wp2
                    go_roundw
                    case rel => exact ⟨i + 1, Q.1, by omega, by go_num, HRE, unhide HS7, unhide HBW7, hbd.1, hq3, by omega, by omega, by omega⟩
                    case measure => simp [intOf]; omega
      · obtain rfl : i = l.length := by omega
        have hki : ¬ (l.length : Int) < (l.length : Int) := by omega
        have hre : R = (si, true) := by rw [unhide HRI, List.drop_length, svL]
        have HRE := hide hre
        have HSI := hide hSi
        clear hre hSi
        go_wp2
        go_ret
        rw [unhide HRE]
        exact ⟨rfl, unhide HSI, hbi⟩
end Go.Proofs.YtdibjdpnleepmacDoor
