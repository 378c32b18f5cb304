/-
  package record, walked: the reader's note.
-/
import Derived.Test.YtdibjdpnleepmacDoorN10
import Derived.Deep.DeepCutAuto
namespace Go.Proofs.YtdibjdpnleepmacDoor
open Go.RowKit
attribute [local go_sem ↓] Go.wp_at_zero Go.wp_at_succ

theorem isRe.bu {w w' : World} {g : Nat} {x : Re} (h : isRe w g x) (hb : Below w.heap.size w w') : isRe w' g x := h.below hb h.lt
theorem skip_bounds : ∀ (f : Nat) (x : Re), 0 ≤ x.at_ → 0 ≤ (Re.skip f x).at_ ∧ (Re.skip f x).at_ + ((Re.skip f x).rest.size : Int) ≤ x.at_ + (x.rest.size : Int) ∧ (Re.skip f x).rest.size ≤ x.rest.size
  | 0, x, h => ⟨h, Int.le_refl _, Nat.le_refl _⟩
  | f + 1, x, h => by
    rw [Re.skip]
    split
    · rename_i hbl
      have hpa : 0 ≤ pkR x.rest ∧ pkR x.rest < 128 := by
        unfold blR at hbl
        simp only [Bool.or_eq_true, decide_eq_true_eq] at hbl
        omega
      obtain ⟨k1, k2⟩ := pk_ascii x.rest hpa.1 hpa.2
      have hos := on_size x
      have hoa : x.on.at_ = x.at_ + 1 := rfl
      have := skip_bounds f x.on (by omega)
      omega
    · exact ⟨h, Int.le_refl _, Nat.le_refl _⟩
def isNb (w : World) (b : Nat) (mv cm : ByteArray) : Prop := w.heap[b]? = some (.cells #[.string mv, .string cm, .slice none 0 0] 47 (0, 0))
theorem isNb.all {w : World} {b : Nat} {mv cm : ByteArray} (h : isNb w b mv cm) : (w.cell? ⟨b, 0, none⟩ = some (.string mv) ∧ w.cell? ⟨b, 1, none⟩ = some (.string cm) ∧ w.cell? ⟨b, 2, none⟩ = some (.slice none 0 0)) ∧ w.frozen? ⟨b, 1, none⟩ = false := by
  unfold isNb at h; simp [World.cell?, World.frozen?, h]
theorem isNb.bu {w w' : World} {g b : Nat} {mv cm : ByteArray} (h : isNb w b mv cm) (hb : Bu g w w') (hn : b ≠ g) : isNb w' b mv cm := by
  unfold isNb at h ⊢; rw [hb.block b (ltBlock h) hn]; exact h
theorem isNb.set1 {w : World} {b : Nat} {mv cm : ByteArray} (h : isNb w b mv cm) (c : ByteArray) : isNb (w.setCell ⟨b, 1, none⟩ (.string c)) b mv c := by
  unfold isNb at h ⊢; simp [World.setCell, Array.getElem?_modify, h]
theorem Bu.out {g b i : Nat} {w w' : World} (h : Bu g w w') (v : Value) (hb : w.heap.size ≤ b) : Bu g w (w'.setCell ⟨b, i, none⟩ v) :=
  ⟨h.os, h.tape, h.output, by rw [show (w'.setCell ⟨b, i, none⟩ v).heap.size = w'.heap.size by simp [World.setCell]]; exact h.size, fun k hk hn => (Below.heap_setCell _ _ _ _ (by simp only; omega)).trans (h.block k hk hn)⟩
theorem isRe.out {w : World} {g b i : Nat} {x : Re} (h : isRe w g x) (v : Value) (hn : b ≠ g) : isRe (w.setCell ⟨b, i, none⟩ v) g x := by
  unfold isRe at h ⊢; rw [Below.heap_setCell _ _ _ _ (by simp only; omega)]; exact h
theorem infoEntry : (Tryd.prog.info? 52).map (fun i => (i.zero, i.size, i.bytes)) = some (some (.agg #[.string ⟨#[]⟩, .string ⟨#[]⟩, .slice none 0 0, .int .i64 0]), 4, 64) := by kernel_rfl
theorem place_stay {w w' : World} {base n m : Nat} {u v : Value} {xs ys : List Value} (h : w.ownsRow base 33 4 u n xs) (hv : w.ownsRow base 52 4 v m ys) (hg : w.grownBy w' v.ownBlock) : w'.ownsRow base 33 4 u n xs := by
  obtain ⟨h1, h2⟩ := h
  refine ⟨h1, ?_⟩
  rcases h2 with h2 | ⟨g, cap, cur, e1, hb, hh, r⟩
  · exact .inl h2
  · refine .inr ⟨g, cap, cur, e1, hb, ?_, r⟩
    rw [hg.block g (ltBlock hh) ?_]
    · exact hh
    · intro e
      rcases hv.2 with ⟨e2, -⟩ | ⟨g', cap', cur', e2, -, hh', -⟩
      · rw [e2] at e; simp [Value.ownBlock] at e
      · rw [e2] at e
        simp only [Value.ownBlock, Option.some.injEq] at e
        rw [← e, hh] at hh'
        simp at hh'
theorem own_low {w : World} {base e size : Nat} {v : Value} {n : Nat} {xs : List Value} (h : w.ownsRow base e size v n xs) : ∀ k, v.ownBlock = some k → base ≤ k := by
  intro k hk
  rcases h.2 with ⟨h1, -⟩ | ⟨g, cap, cur, h1, hb, -⟩
  · rw [h1] at hk; simp [Value.ownBlock] at hk
  · rw [h1] at hk
    simp only [Value.ownBlock, Option.some.injEq] at hk
    omega
theorem isRe.count {w : World} {g : Nat} {x : Re} (h : isRe w g x) (k : Int) : isRe ((w.setCell ⟨g, 3, none⟩ (.int .i64 (x.n + 1))).setCell ⟨g, 3 + 1, none⟩ (.int .i64 (max x.d k))) g (x.count k) := by
  unfold isRe at h ⊢; simp [World.setCell, Array.getElem?_modify, h, Re.count]
theorem isRe.set2 {w : World} {g : Nat} {x : Re} (h : isRe w g x) (v : Value) : isRe (w.setCell ⟨g, 2, none⟩ v) g { x with kept := v } := by
  unfold isRe at h ⊢; simp [World.setCell, Array.getElem?_modify, h]
theorem evals_snoc (E : List En) (e : En) : evals (E ++ [e]) = evals E ++ [.string e.mv, .string e.cm, .slice none 0 0, .int .i64 e.of_] := by simp [evals]
/-- What note leaves. -/
structure NoteEnd (g B : Nat) (x : Re) (E : List En) (O : List Pl) (of_ k : Int) (w : World) (e : Ending) (w' : World) : Prop where
  ex : (∃ a, x.noteF = .error a ∧ e = fltP a) ∨ (∃ y mv cm v, x.noteF = .ok (y, mv, cm) ∧ e = .returned (.int .i64 x.n) ∧ RSt w' g B { y.count k with kept := v } (if x.n < 1000 then E ++ [⟨mv, cm, of_⟩] else E) O)
  low : Bb g B w w'

set_option maxHeartbeats 4000000 in
set_option maxRecDepth 100000 in
theorem note_any (g B : Nat) (x : Re) (E : List En) (O : List Pl) (of_ k : Int) (w : World) (h : RSt w g B x E O) (h2 : 2 ≤ g) (hT : Lib.Utf8Tabs 0 1 w) (ha : 0 ≤ x.at_ ∧ x.at_ + (x.rest.size : Int) ≤ 4000000) (hn : 0 ≤ x.n ∧ x.n ≤ 4000000) (hE : E.length ≤ 4000000) :
    Calls Tryd.prog 34 #[.pointer (some ⟨g, 0, none⟩), .int .i64 of_, .int .i64 k] w fun e w' => NoteEnd g B x E O of_ k w e w' := by
  obtain ⟨N, hN⟩ : ∃ N, N = x.noteF := ⟨_, rfl⟩
  have hgw := h.re.lt
  have HHB := hide h.hB
  have hTX := rtext_any mvR 21 20 g x w h.re h2 hT ha (by decide) entM isOfMove_any (by decide)
  rw [show ((20 : Nat) : Int) = 20 from rfl] at hTX
  unfold Re.noteF at hN
  simp only at hN
  obtain ⟨Y, hY⟩ : ∃ Y, Y = Re.run mvR 20 (x.rest.size + 1) 0 x := ⟨_, rfl⟩
  have hsm := run_same mvR 20 (x.rest.size + 1) 0 x
  rw [← hY] at hTX hN hsm
  have hN0 : x.noteF = N := by
    rw [hN, hY]; unfold Re.noteF; rfl
  have HTX := hide hTX
  have HN := hide hN
  have HN0 := hide hN0
  have HH := hide h
  have HT := hide hT
  have HSM := hide hsm
  clear hTX hN hN0 h hT hY hsm
  go_enter Tryd.func34, Tryd.ntmps34
  go_wp2_with fail
  refine (unhide HTX).mono ?_
  rintro e w2 ⟨hex, hbu2⟩
  rcases hex with ⟨hok, rfl, hy2, hys, hya, hyb⟩ | ⟨hok, rfl⟩
  case inr =>
    have hNe : x.noteF = .error Y.1.at_ := by rw [unhide HN0, unhide HN, if_pos hok]
    have HNE := hide hNe
    have HLB := hide (hbu2.bb (unhide HHB).2)
    clear hNe hok hbu2
    unfold fltP
    go_wp2
    simp only [bodyPost, true_and]
    exact ⟨Or.inl ⟨_, unhide HNE, rfl⟩, unhide HLB⟩
  case inl =>
    have hN1 := unhide HN
    rw [if_neg (by rw [hok]; simp)] at hN1
    obtain ⟨y, hyy⟩ : ∃ y, y = Y.1 := ⟨_, rfl⟩
    obtain ⟨MV, hMV⟩ : ∃ MV, MV = x.rest.extract 0 (x.rest.size - Y.1.rest.size) := ⟨_, rfl⟩
    rw [← hMV] at hN1
    rw [← hMV]
    rw [← hyy] at hN1 hy2 hys hya hyb
    obtain ⟨wb, hwb⟩ : ∃ wb, wb = w2.alloc (.cells #[.string MV, .string ⟨#[]⟩, .slice none 0 0] 47 (0, 0)) := ⟨_, rfl⟩
    have hbb : Below w2.heap.size w2 wb := by rw [hwb]; exact (Below.refl _ _).alloc (Nat.le_refl _) _
    have hnb : isNb wb w2.heap.size MV ⟨#[]⟩ := by rw [hwb]; exact heap_alloc_new w2 _
    have hyb' := hy2.bu hbb
    have hbub : Bu g w wb := hbu2.trans (Bu.of hbb)
    have htb : Lib.Utf8Tabs 0 1 wb := Utf8Tabs_bu (unhide HT) hbub hgw h2
    have hg2 : g < w2.heap.size := hy2.lt
    have hne : w2.heap.size ≠ g := by omega
    have hbl := blanks_any g y wb hyb' h2 htb ⟨hya, by omega⟩
    obtain ⟨z, hz⟩ : ∃ z, z = Re.skip y.rest.size y := ⟨_, rfl⟩
    have hzb := skip_bounds y.rest.size y hya
    have hzs := skip_same y.rest.size y
    rw [← hz] at hbl hN1 hzb hzs
    have HBL := hide hbl
    have HN1 := hide hN1
    have HNB := hide hnb
    have HBUB := hide hbub
    have HWB := hide hwb
    have HZS := hide hzs
    have HYY := hide hyy
    have hww : w.heap.size ≤ w2.heap.size := hbu2.size
    have hgb : g < wb.heap.size := hyb'.lt
    clear hok hN1 hMV hyy hnb hbub hbl hz hzs hbu2 hy2 hyb' htb hbb HN
    go_wp2_with fail
    rw [← unhide HWB]
    refine (unhide HBL).mono ?_
    rintro e w3 ⟨rfl, hz3, hbu3⟩
    have hnb3 := (unhide HNB).bu hbu3 hne
    have hbuw3 := (unhide HBUB).trans hbu3
    have ht3 := Utf8Tabs_bu (unhide HT) hbuw3 hgw h2
    obtain ⟨P, hP⟩ : ∃ P, P = pkR z.rest := ⟨_, rfl⟩
    have hpk := peek_any g z w3 hz3 ht3
    rw [← hP] at hpk
    have HPK := hide hpk
    have HZ3 := hide hz3
    have HNB3 := hide hnb3
    have HBUW3 := hide hbuw3
    have HP := hide hP
    clear hpk hz3 hnb3 hbuw3 ht3 hbu3 hwb hP
    go_wp2_with fail
    refine (unhide HPK).mono ?_
    rintro e w4 ⟨rfl, hb4⟩
    have hz4 := (unhide HZ3).bu hb4
    have hnb4 := (unhide HNB3).bu (Bu.of hb4) hne
    have hbuw4 := (unhide HBUW3).trans (Bu.of hb4)
    have ht4 := Utf8Tabs_bu (unhide HT) hbuw4 hgw h2
    have HZ4 := hide hz4
    have HNB4 := hide hnb4
    have HBUW4 := hide hbuw4
    have HT4 := hide ht4
    clear hb4 hz4 hnb4 hbuw4 ht4
    go_upto_if 16 with fail
    go_cut [] (fun wc => ∃ (u : Re) (CM : ByteArray), Hid (N = .ok (u, MV, CM)) ∧ isRe wc g u ∧ isNb wc w2.heap.size MV CM ∧ Bu g w wc ∧ u.kept = z.kept ∧ u.open_ = z.open_ ∧ u.n = z.n ∧ u.d = z.d)
    case first =>
      by_cases hP123 : P = 123
      · have hpz : pkR z.rest = 123 := (unhide HP).symm.trans hP123
        have hN2 := unhide HN1
        rw [if_pos hpz] at hN2
        obtain ⟨k1, k2⟩ := pk_ascii z.rest (by omega) (by omega)
        have hos := on_size z
        have hoa : z.on.at_ = z.at_ + 1 := rfl
        have hTK := take_any g 123 z w4 (unhide HZ4) (unhide HT4) (by decide) ⟨by omega, by omega⟩
        have HTK := hide hTK
        have HN2 := hide hN2
        have hpb : (P == 123) = true := by simp [hP123]
        have HPZ := hide hpz
        clear hTK hN2 hpz hP123
        go_wp2_with fail
        refine (unhide HTK).mono ?_
        rintro e w5 ⟨hex5, hbu5⟩
        rcases hex5 with ⟨-, rfl, hz5⟩ | ⟨hbad, -⟩
        case inr => exact absurd (unhide HPZ) hbad
        case inl =>
          have hnb5 := (unhide HNB4).bu hbu5 hne
          have hbuw5 := (unhide HBUW4).trans hbu5
          have ht5 := Utf8Tabs_bu (unhide HT) hbuw5 hgw h2
          have hTX2 := rtext_any cmR 28 200 g z.on w5 hz5 h2 ht5 ⟨by omega, by omega⟩ (by decide) entC isOfComment_any (by decide)
          rw [show ((200 : Nat) : Int) = 200 from rfl] at hTX2
          obtain ⟨U, hU⟩ : ∃ U, U = Re.run cmR 200 (z.on.rest.size + 1) 0 z.on := ⟨_, rfl⟩
          have hus := run_same cmR 200 (z.on.rest.size + 1) 0 z.on
          have hN3 := unhide HN2
          rw [← hU] at hTX2 hN3 hus
          have HTX2 := hide hTX2
          have HN3 := hide hN3
          have HNB5 := hide hnb5
          have HBUW5 := hide hbuw5
          have HUS := hide hus
          clear hTX2 hN3 hnb5 hbuw5 ht5 hU hus hz5 hbu5
          go_wp2_with fail
          refine (unhide HTX2).mono ?_
          rintro e w6 ⟨hex6, hbu6⟩
          have hnb6 := (unhide HNB5).bu hbu6 hne
          have hbuw6 := (unhide HBUW5).trans hbu6
          rcases hex6 with ⟨hok6, rfl, hu6, hus6, hua6, hub6⟩ | ⟨hok6, rfl⟩
          case inr =>
            have hNe : x.noteF = .error U.1.at_ := by rw [unhide HN0, unhide HN3, if_pos hok6]
            have HNE := hide hNe
            have HLB := hide (hbuw6.bb (unhide HHB).2)
            clear hNe hok6 hbu6 hnb6 hbuw6
            unfold fltP
            go_wp2
            simp only [bodyPost, true_and]
            exact ⟨Or.inl ⟨_, unhide HNE, rfl⟩, unhide HLB⟩
          case inl =>
            have hN4 := unhide HN3
            rw [if_neg (by rw [hok6]; simp)] at hN4
            obtain ⟨CM, hCM⟩ : ∃ CM, CM = z.on.rest.extract 0 (z.on.rest.size - U.1.rest.size) := ⟨_, rfl⟩
            rw [← hCM] at hN4
            rw [← hCM]
            obtain ⟨⟨-, n1, -⟩, f1⟩ := hnb6.all
            have hnb7 := hnb6.set1 CM
            have hu7 := hu6.out (i := 1) (.string CM) hne
            have hbuw7 := hbuw6.out (i := 1) (.string CM) hww
            have ht7 := Utf8Tabs_bu (unhide HT) hbuw7 hgw h2
            have hTK7 := take_any g 125 U.1 _ hu7 ht7 (by decide) ⟨by omega, by omega⟩
            have HTK7 := hide hTK7
            have HN4 := hide hN4
            have HNB7 := hide hnb7
            have HBUW7 := hide hbuw7
            clear hTK7 hN4 hnb7 hbuw7 ht7 hu7 hu6 hnb6 hbuw6 hbu6 hok6 hCM
            go_wp2_with fail
            refine (unhide HTK7).mono ?_
            rintro e w8 ⟨hex8, hbu8⟩
            have hnb8 := (unhide HNB7).bu hbu8 hne
            have hbuw8 := (unhide HBUW7).trans hbu8
            rcases hex8 with ⟨hp8, rfl, hu8⟩ | ⟨hp8, rfl⟩
            case inr =>
              have hNe : x.noteF = .error U.1.at_ := by rw [unhide HN0, unhide HN4, if_neg hp8]
              have HNE := hide hNe
              have HLB := hide (hbuw8.bb (unhide HHB).2)
              clear hNe hp8 hbu8 hnb8 hbuw8
              unfold fltP
              go_wp2
              simp only [bodyPost, true_and]
              exact ⟨Or.inl ⟨_, unhide HNE, rfl⟩, unhide HLB⟩
            case inl =>
              have hNo : N = .ok (U.1.on, MV, CM) := by rw [unhide HN4, if_pos hp8]
              have HNO := hide hNo
              clear hNo hp8 hbu8
              go_wp2_with fail
              go_meet
              case rel => exact ⟨U.1.on, CM, HNO, hu8, hnb8, hbuw8, (unhide HUS).1, (unhide HUS).2.1, (unhide HUS).2.2.1, (unhide HUS).2.2.2.1⟩
      · have hpb : (P == 123) = false := by simpa using hP123
        have hNo : N = .ok (z, MV, ⟨#[]⟩) := by rw [unhide HN1, if_neg (by rw [← unhide HP]; exact hP123)]
        have HNO := hide hNo
        clear hNo hP123
        go_wp2_with fail
        go_meet
        case rel => exact ⟨z, ⟨#[]⟩, HNO, unhide HZ4, unhide HNB4, unhide HBUW4, rfl, rfl, rfl, rfl⟩
    case rest =>
      obtain ⟨u, CM, HNO, hu, hnb, hbu, hkp, hop, hun, hud⟩ := hcut
      obtain ⟨z1, z2, z3, z4, -⟩ := unhide HZS
      obtain ⟨y1, y2, y3, y4, -⟩ := unhide HSM
      rw [← unhide HYY] at y1 y2 y3 y4
      have hun' : u.n = x.n := hun.trans (z3.trans y3)
      have hNo' : x.noteF = .ok (u, MV, CM) := (unhide HN0).trans (unhide HNO)
      have hrs : RSt wc g B u E O := (unhide HH).bu hbu hu (hkp.trans (z1.trans y1)) (hop.trans (z2.trans y2))
      obtain ⟨-, -, -, c3, c4, -⟩ := hu.cells
      have f3 := hu.frozen 3
      have f4 := hu.frozen 4
      have HADD := hide (sizeAdd_any g 3 u.n u.d k wc c3 c4 f3 f4 (by omega))
      have hu5 := hu.count k
      have hbu5 : Bu g wc ((wc.setCell ⟨g, 3, none⟩ (.int .i64 (u.n + 1))).setCell ⟨g, 3 + 1, none⟩ (.int .i64 (max u.d k))) := ((Bu.refl g wc).put 3 _ hu.lt).put (3 + 1) _ hu.lt
      have hrs5 := hrs.bu hbu5 hu5 rfl rfl
      have hnb5 := hnb.bu hbu5 hne
      have hbuw5 := hbu.trans hbu5
      have HRS5 := hide hrs5
      have HNB5 := hide hnb5
      have HBUW5 := hide hbuw5
      have HNO' := hide hNo'
      have HUN := hide hun'
      rw [hun'] at c3
      clear hrs hu5 hbu5 hrs5 hnb5 hbuw5 hNo' hun' hun hud hkp hop z1 z2 z3 z4 y1 y2 y3 y4 hu hnb hbu f3 f4
      go_wp2_with fail
      refine (unhide HADD).mono ?_
      rintro e w6 ⟨rfl, hw6⟩
      have hrs6 : RSt w6 g B (u.count k) E O := by rw [hw6]; exact unhide HRS5
      have hnb6 : isNb w6 w2.heap.size MV CM := by rw [hw6]; exact unhide HNB5
      have hbuw6 : Bu g w w6 := by rw [hw6]; exact unhide HBUW5
      clear hw6 HADD HRS5 HNB5 HBUW5 c3 c4
      by_cases hlt : x.n < 1000
      · obtain ⟨hre6, hk6, ho6, hB6⟩ := hrs6
        obtain ⟨qo, qn, qc, hkv⟩ := row_slice hk6
        obtain ⟨⟨n0, n1, n2⟩, -⟩ := hnb6.all
        have hg6 : g < w6.heap.size := hre6.lt
        obtain ⟨-, -, c2, -⟩ := hre6.cells
        rw [hkv] at c2 hk6
        obtain ⟨o8, ho8⟩ : ∃ o8, o8 = Obj.cells #[.string MV, .string CM, .slice none 0 0, .int .i64 of_] 52 := ⟨_, rfl⟩
        have hba : Below w6.heap.size w6 (w6.alloc o8) := (Below.refl _ _).alloc (Nat.le_refl _) _
        have c2a : (w6.alloc o8).cell? ⟨g, 2, none⟩ = some (.slice qo qn qc) := (hba.cell (p := ⟨g, 2, none⟩) hg6).trans c2
        have HC1 : Hid (∀ j v, [Value.string MV, .string CM, .slice none 0 0, .int .i64 of_][j]? = some v → (w6.alloc o8).drew.cell? ((⟨w6.heap.size, 0, none⟩ : Addr).add j) = some v) := by
          refine hide fun j v hj => ?_
          rw [ho8]
          match j, hj with
          | 0, hj => simp at hj; subst hj; simp [Addr.add]
          | 1, hj => simp at hj; subst hj; simp [Addr.add]
          | 2, hj => simp at hj; subst hj; simp [Addr.add]
          | 3, hj => simp at hj; subst hj; simp [Addr.add]
        have HC2 : Hid (∀ v ∈ [Value.string MV, .string CM, .slice none 0 0, .int .i64 of_], v.oneCell' = true) := by
          refine hide fun v hv => ?_
          simp only [List.mem_cons, List.not_mem_nil, or_false] at hv
          rcases hv with rfl | rfl | rfl | rfl <;> rfl
        have HC3 : Hid (E.length + 1 ≤ maxLen) := by refine hide ?_; unfold maxLen; omega
        have HC4 : Hid ((E.length + 1) * 64 ≤ 140737488355328) := by refine hide ?_; omega
        have HC5 : Hid (B ≤ (w6.alloc o8).drew.heap.size) := by refine hide ?_; show B ≤ (w6.alloc o8).heap.size; simp; omega
        have HROW : Hid ((w6.alloc o8).drew.ownsRow B 52 4 (.slice qo qn qc) E.length (evals E)) := hide (hk6.alloc o8)
        have HFIN : Hid (∀ v' w9, w9.ownsRow B 52 4 v' (E.length + 1) (evals E ++ [Value.string MV, .string CM, .slice none 0 0, .int .i64 of_]) → (w6.alloc o8).drew.grownBy w9 (Value.slice qo qn qc).ownBlock → RSt (w9.setCell ⟨g, 2, none⟩ v') g B { u.count k with kept := v' } (E ++ [⟨MV, CM, of_⟩]) O ∧ Bb g B w (w9.setCell ⟨g, 2, none⟩ v') ∧ (∃ c, w9.cell? ⟨g, 2, none⟩ = some c) ∧ w9.frozen? ⟨g, 2, none⟩ = false) := by
          refine hide fun v' w9 hown9 hgrow => ?_
          have hgrow' : (w6.alloc o8).grownBy w9 (Value.slice qo qn qc).ownBlock := ⟨hgrow.os, hgrow.tape, hgrow.output, hgrow.size, hgrow.block⟩
          have hb89 : Below B (w6.alloc o8) w9 := (Below.refl _ _).grown hgrow' (by simp; omega) (own_low hk6)
          have hrea := hre6.bu hba
          have hre9 := hrea.below hb89 hB6.1
          have hopa := ho6.alloc o8
          have hop9 := place_stay hopa (hk6.alloc o8) hgrow'
          have hlow : Bb g B w w9 := ((hbuw6.bb (unhide HHB).2).trans (Bb.of (hba.mono hB6.2))).trans (Bb.of hb89)
          have hgB := hB6.1
          have hs9 : B ≤ w9.heap.size := by have := hb89.size; simp at this; omega
          refine ⟨⟨hre9.set2 v', ?_, ?_, hgB, by rw [size_put]; exact hs9⟩, hlow.put 2 _, ⟨_, hre9.cells.2.2.1⟩, hre9.frozen 2⟩
          · rw [evals_snoc, List.length_append]
            exact row_keep hown9 (fun k hk _ => Below.heap_setCell _ _ _ _ (by simp only; omega))
          · exact row_keep hop9 (fun k hk _ => Below.heap_setCell _ _ _ _ (by simp only; omega))
        obtain ⟨i0, hi, hz0, hz1, hz2⟩ := info_parts infoEntry
        subst ho8
        have hlti : x.n < 1000 := hlt
        have HE : Hid ((if x.n < 1000 then E ++ [⟨MV, CM, of_⟩] else E) = E ++ [⟨MV, CM, of_⟩]) := hide (if_pos hlt)
        clear hre6 hk6 ho6 hnb6 hba hkv hbuw6 hB6
        go_upto_region 10 with fail
        go_region_law (refine step_append_own rfl (.tmp 40) (.tmp 44) 34 rfl B 52 i0 _ 4 64 Tryd.underlying34 hi hz0 hz1 hz2 rfl (by decide) (.slice qo qn qc) E.length (evals E) (by simp [Act.eval]) (unhide HROW) ⟨w6.heap.size, 0, none⟩ 1 1 [.string MV, .string CM, .slice none 0 0, .int .i64 of_] (by simp [Act.eval]) rfl (unhide HC1) (unhide HC2) (unhide HC3) (unhide HC4) (unhide HC5) ?_; intro v' w9 hown9 hgrow9; obtain ⟨hE1, hE2, ⟨c6, hE3⟩, hE4⟩ := unhide HFIN v' w9 hown9 hgrow9; obtain ⟨uo, un', uc', rfl⟩ := row_slice hown9; have HE1 := hide hE1; have HE2 := hide hE2; clear hE1 hE2 hown9 hgrow9)
        all_goals go_wp2
        all_goals go_ret
        all_goals exact ⟨Or.inr ⟨u, MV, CM, _, unhide HNO', rfl, by rw [unhide HE]; exact unhide HE1⟩, unhide HE2⟩
      · have hlti : ¬ x.n < 1000 := hlt
        have HE : Hid ((if x.n < 1000 then E ++ [⟨MV, CM, of_⟩] else E) = E) := hide (if_neg hlt)
        have HRS6 := hide hrs6
        have HLB := hide (hbuw6.bb (unhide HHB).2)
        clear hrs6 hnb6 hbuw6
        go_wp2
        go_ret
        exact ⟨Or.inr ⟨u, MV, CM, (u.count k).kept, unhide HNO', rfl, by rw [unhide HE]; exact unhide HRS6⟩, unhide HLB⟩
end Go.Proofs.YtdibjdpnleepmacDoor
