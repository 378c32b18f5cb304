/-
  table.Make, walked.
  table.Make and gameref.Tabled come to the same entries (plain mathematics).
  gameref.Tabled: plain mathematics of its later loops; the row of entries that is copied.
-/
import Derived.Test.YtbijadnekoeofaaGreatDoorJ20
import Derived.Test.YtbijadnekoeofaaGreatDoorJ14
import Derived.Test.YtbijadnekoeofaaGreatDoorT19
import Derived.Test.YtbijadnekoeofaaGreatDoorJ19
namespace Go.Proofs.YtbijadnekoeofaaGreatDoor
open Go.RowKit Go.Sort
attribute [local go_sem ↓] Go.wp_at_zero Go.wp_at_succ

theorem infoEn : (Tryz.prog.info? 34).map (fun i => (i.zero, i.size, i.bytes)) = some (some (.agg #[.int .i64 0, .int .i64 0, .string ⟨#[]⟩, .int .i64 0, .string ⟨#[]⟩, .string ⟨#[]⟩, .int .i64 0, .int .i64 0]), 8, 88) := by kernel_rfl
theorem MkI.cell {nds : List Nd} {base g k : Nat} {w5 u : World} (h : MkI nds base g k w5 u) (hk : k < nds.length) (c : Nat) (hc : c < 8) : (∃ t, u.cell? ⟨g, k * 8 + c, none⟩ = some t) ∧ u.frozen? ⟨g, k * 8 + c, none⟩ = false := by
  obtain ⟨⟨r, hr, hrow⟩, -⟩ := h
  have hl : k * 8 + c < nds.length * 8 := by omega
  refine ⟨⟨_, (hrow.cellAt (k * 8 + c) hl).trans (List.getElem?_eq_getElem (by rw [hrow.1]; exact hl))⟩, hrow.frozenAt _⟩

theorem sameN.pos {a b : List Nd} (h : sameN a b) : b.map Nd.p = a.map Nd.p := by
  apply List.ext_getElem?
  intro i
  rw [List.getElem?_map, List.getElem?_map]
  cases hb : b[i]? with
  | none =>
    have : a[i]? = none := by
      rw [List.getElem?_eq_none_iff] at *
      have := h.1
      omega
    rw [this]
  | some n =>
    obtain ⟨n0, h0, hp, _⟩ := h.2 i n hb
    rw [h0]
    simp [hp]

/-- What Make leaves. -/
structure MkE (nx : Po → List Po) (ev : Po → Int) (s : Po) (most : Nat) (w : World) (e : Ending) (w' : World) : Prop where
  bw : RowKit.Below w.heap.size w w'
  out : ((∃ i, most < (bfsN nx s i).length) ∧ e = .returned (.tuple #[.slice none 0 0, .int .i64 2])) ∨
    ∃ g cap nds ts, e = .returned (.tuple #[.slice (some ⟨g, 0, none⟩) ts.length cap, .int .i64 0]) ∧ w'.ownsRow w.heap.size 34 8 (.slice (some ⟨g, 0, none⟩) ts.length cap) ts.length (evs ts) ∧
      nds.map Nd.p = bfsN nx s nds.length ∧ nds.length ≤ most ∧ (∀ a, a < nds.length → a < (bfsN nx s a).length) ∧
      Cons nds.length (nxtG nx (bfsN nx s nds.length)) (v0G nx ev (bfsN nx s nds.length)) (aOf nds) ∧ (∀ (i : Nat) (n : Nd), nds[i]? = some n → 0 ≤ n.v ∧ 0 ≤ n.d) ∧
      PermIn 0 (nds.map enN).toArray.size (nds.map enN).toArray ts.toArray ∧ SortedIn (ltOf fun x y : Po × Int × Int => cmpP x.1 y.1) 0 (nds.map enN).toArray.size ts.toArray

set_option maxHeartbeats 4000000 in
set_option maxRecDepth 100000 in
theorem make_walk (nx : Po → List Po) (ev : Po → Int) (ok : Po → Prop) (s : Po) (v6 v7 v8 v9 v10 v11 v12 : Value) (most : Nat) (w : World) (hm1 : 1 ≤ most) (hm5 : most ≤ 5000) (hs : ok s) (hok : ∀ p, ok p → p.ok) (hstay : ∀ p, ok p → ∀ q ∈ nx p, ok q) (hlen : ∀ p, (nx p).length ≤ 4608) (hev1 : ∀ p, ok p → nx p = [] → 1 ≤ ev p)
    (hCk : ∀ u, RowKit.Below w.heap.size w u → Calls Tryz.prog 12 #[.agg #[.int .i64 s.W, .int .i64 s.H, .string s.C, .int .i64 s.T, .string s.A, .string s.B, v6, v7, v8, v9, v10, v11, v12]] u fun e w' => e = .returned (.int .i64 0) ∧ RowKit.Below u.heap.size u w')
    (hTu : ∀ u, RowKit.Below w.heap.size w u → Calls Tryz.prog 34 #[.agg #[.int .i64 s.W, .int .i64 s.H, .string s.C, .int .i64 s.T, .string s.A, .string s.B], .int .i64 0] u fun e w' => e = .returned (.tuple #[.agg #[.int .i64 s.W, .int .i64 s.H, .string s.C, .int .i64 s.T, .string s.A, .string s.B], .int .i64 0]) ∧ RowKit.Below u.heap.size u w')
    (hNx : ∀ p, ok p → ∀ u, RowKit.Below w.heap.size w u → Calls Tryz.prog 35 #[.agg #[.int .i64 s.W, .int .i64 s.H, .string s.C, .int .i64 s.T, .string s.A, .string s.B, v6, v7, v8, v9, v10, v11, v12], .agg #[.int .i64 p.W, .int .i64 p.H, .string p.C, .int .i64 p.T, .string p.A, .string p.B]] u fun e w' => ∃ x y, e = .returned (.tuple #[x, y, .int .i64 0]) ∧ w'.ownsRow u.heap.size 24 6 y (nx p).length (povs (nx p)) ∧ RowKit.Below u.heap.size u w')
    (hEv : ∀ p, ok p → nx p = [] → ∀ u, RowKit.Below w.heap.size w u → Calls Tryz.prog 36 #[.agg #[.int .i64 s.W, .int .i64 s.H, .string s.C, .int .i64 s.T, .string s.A, .string s.B, v6, v7, v8, v9, v10, v11, v12], .agg #[.int .i64 p.W, .int .i64 p.H, .string p.C, .int .i64 p.T, .string p.A, .string p.B]] u fun e w' => e = .returned (.int .i64 (ev p)) ∧ RowKit.Below u.heap.size u w') :
    Calls Tryz.prog 5 #[.agg #[.int .i64 s.W, .int .i64 s.H, .string s.C, .int .i64 s.T, .string s.A, .string s.B, v6, v7, v8, v9, v10, v11, v12], .int .i64 (most : Int)] w (MkE nx ev s most w) := by
  obtain ⟨i0, hinfo, hz0, hz1, hz2⟩ := info_parts infoEn
  obtain ⟨w1, hw1⟩ : ∃ w1, w1 = w.alloc (.cells #[.int .i64 s.W, .int .i64 s.H, .string s.C, .int .i64 s.T, .string s.A, .string s.B, v6, v7, v8, v9, v10, v11, v12] 27 (0, 0)) := ⟨_, rfl⟩
  have b1 : RowKit.Below w.heap.size w w1 := by rw [hw1]; exact (RowKit.Below.refl _ _).alloc (Nat.le_refl _) _
  have s1 : w1.heap.size = w.heap.size + 1 := by rw [hw1]; simp
  have hru1 : isRu w1 w.heap.size (.int .i64 s.W) (.int .i64 s.H) (.string s.C) (.int .i64 s.T) (.string s.A) (.string s.B) v6 v7 v8 v9 v10 v11 v12 := by rw [hw1]; exact heap_alloc_new w _
  have HRU : Hid (∀ u, RowKit.Below w1.heap.size w1 u → isRu u w.heap.size (.int .i64 s.W) (.int .i64 s.H) (.string s.C) (.int .i64 s.T) (.string s.A) (.string s.B) v6 v7 v8 v9 v10 v11 v12) := hide (fun u hu => hru1.below hu (by omega))
  have HUP : Hid (∀ u, RowKit.Below w1.heap.size w1 u → RowKit.Below w.heap.size w u) := hide (fun u hu => b1.trans (hu.mono (by omega)))
  have HCK := hide (hCk w1 b1)
  have HRE : Hid (∀ u, RowKit.Below w.heap.size w u → Calls Tryz.prog 13 #[.agg #[.int .i64 s.W, .int .i64 s.H, .string s.C, .int .i64 s.T, .string s.A, .string s.B, v6, v7, v8, v9, v10, v11, v12], .int .i64 (most : Int)] u (ReE nx ev s most u)) := hide (fun u hu =>
    reached_walk nx ev ok s v6 v7 v8 v9 v10 v11 v12 most u hm1 hm5 hs hok hstay hlen (fun x hx => hTu x (hu.trans (hx.mono hu.size))) (fun p hp x hx => hNx p hp x (hu.trans (hx.mono hu.size))) (fun p hp hn x hx => hEv p hp hn x (hu.trans (hx.mono hu.size))))
  have HGL : Hid (∀ nds, RW nx ev s nds.length 0 false [] nds → nds.map Nd.p = bfsN nx s nds.length ∧ Glue nx ev (bfsN nx s nds.length) nds) := hide (fun nds h => glue h (fun p hp hn => hev1 p (bfs_ok hs hstay _ p hp) hn) hlen)
  obtain ⟨r0, r1, r2, r3, r4, r5, r6, r7, r8, r9, r10, r11, r12⟩ := hru1.cells
  have HW1 := hide hw1
  have HS1 := hide s1
  have HI := hide hinfo
  have HZ0 := hide hz0
  have HZ1 := hide hz1
  have HZ2 := hide hz2
  have hx1 : ¬ (most : Int) < 1 := by omega
  have hx2 : ¬ (5000 : Int) < (most : Int) := by omega
  clear hw1 b1 s1 hru1 hTu hNx hEv hs hok hstay hCk hinfo hz0 hz1 hz2 hev1
  go_enter Tryz.func5, Tryz.ntmps5
  go_upto_region 1 with fail
  rw [← unhide HW1]
  clear HW1
  go_wp2_with fail
  refine (unhide HCK).mono ?_
  rintro e w2 ⟨rfl, hb2⟩
  clear r0 r1 r2 r3 r4 r5 r6 r7 r8 r9 r10 r11 r12
  obtain ⟨r0, r1, r2, r3, r4, r5, r6, r7, r8, r9, r10, r11, r12⟩ := (unhide HRU w2 hb2).cells
  have HR := hide (unhide HRE w2 (unhide HUP w2 hb2))
  have HB2 := hide hb2
  clear hb2 HCK HRE
  go_wp2_with fail
  refine (unhide HR).mono ?_
  rintro e w3 ⟨hb3, hout⟩
  have HB3 : Hid (RowKit.Below w.heap.size w w3) := hide ((unhide HUP w2 (unhide HB2)).trans (hb3.mono (unhide HUP w2 (unhide HB2)).size))
  clear r0 r1 r2 r3 r4 r5 r6 r7 r8 r9 r10 r11 r12 HR HRU
  rcases hout with ⟨hbig, rfl⟩ | ⟨gN, cap, nds, rfl, hnd, hrw, hlm, hla⟩
  · have HBG := hide hbig
    clear hbig hb3
    go_wp2
    refine bodyPost_ret (v := .tuple #[.slice none 0 0, .int .i64 2]) (by simp [results, Tryz.results5, go_sem]) rfl ?_
    exact ⟨unhide HB3, .inl ⟨unhide HBG, rfl⟩⟩
  · obtain ⟨hpos, hG⟩ := unhide HGL nds hrw
    have HSE := hide (settle_walk _ _ _ _ _ _ nds w3 (by omega) hnd hG.hv hG.hne hG.hnN hG.hfr hG.hfN hG.hlen)
    have HPOS := hide hpos
    have HLA := hide hla
    have hix := hnd.ix
    have hgb : w2.heap.size + 1 ≤ gN := (row_block hnd.row rfl).1
    have h23 := (unhide HUP w2 (unhide HB2)).size
    have hgw : w.heap.size ≤ gN := by omega
    obtain ⟨N, hN⟩ : ∃ N, N = nds.length := ⟨_, rfl⟩
    have hix1 : N ≤ cap := by rw [hN]; exact hix.1
    have hix2 : cap ≤ 9223372036854775807 := by have := hix.2; unfold maxLen at this; omega
    have hNm : N ≤ most := by rw [hN]; exact hlm
    have HN := hide hN
    rw [← hN] at HSE ⊢
    clear hnd hrw hpos hG hla hix hgb h23 hlm hN hb3 HGL
    go_wp2_with fail
    refine (unhide HSE).mono ?_
    rintro e w4 ⟨rfl, nds', hnd4, hsame, hcons, hnn, hg4⟩
    have hl4 : nds'.length = N := hsame.1.trans (unhide HN).symm
    have hp4 : nds'.map Nd.p = bfsN nx s N := by rw [unhide HN]; exact (sameN.pos hsame).trans (unhide HPOS)
    have hb4 : RowKit.Below w.heap.size w w4 := below_row (unhide HB3) hgw hg4
    obtain ⟨w5, hmk, hrow5, hg5⟩ := run_makeSlice_full (P := Tryz.prog) (w := w4) w.heap.size 28 34 i0 _ 8 Tryz.underlying28 (unhide HI) (unhide HZ0) (unhide HZ1) .i64 .i64 N (by omega) (by rw [unhide HZ2]; omega) (by unfold maxLen; omega) hb4.size
    obtain ⟨g, hg⟩ : ∃ g, g = w4.heap.size := ⟨_, rfl⟩
    have hmk' : (Instr.makeSlice 28 (.int .i64 (N : Int)) (.int .i64 (N : Int))).run Tryz.prog w4 = .ok (.slice (some ⟨g, 0, none⟩) N N) w5 := by rw [hg]; exact hmk
    rw [← hg] at hrow5
    have hI0 : MkI nds' w.heap.size g 0 w5 w5 := ⟨⟨_, by rw [hrow5.1, hl4]; omega, by rw [hl4]; simpa [evs] using hrow5⟩, ⟨rfl, rfl, rfl, Nat.le_refl _, fun _ _ _ => rfl⟩⟩
    have hgN4 : gN < w4.heap.size := (row_block hnd4.row rfl).2
    have HFR : Hid (∀ u, w5.grownBy u (some g) → NdR u (w2.heap.size + 1) gN cap nds' ∧ RowKit.Below w.heap.size w u) := hide (fun u hu => by
      have hk : ∀ k, k < g → u.heap[k]? = w4.heap[k]? := fun k hk => (hu.block k (by have := hg5.size; omega) (by simp; omega)).trans (hg5.block k (by omega) (by simp))
      have hsz : w4.heap.size ≤ u.heap.size := Nat.le_trans hg5.size hu.size
      have hbu : RowKit.Below w4.heap.size w4 u := ⟨hu.os.trans hg5.os, hu.tape.trans hg5.tape, hu.output.trans hg5.output, hsz, fun k h => hk k (by omega)⟩
      exact ⟨hnd4.below hbu, hb4.trans (hbu.mono hb4.size)⟩)
    have HI0 := hide hI0
    have hgg : gN < g := by omega
    have hwg : w.heap.size ≤ g := by rw [hg]; exact hb4.size
    have HWG := hide hwg
    have HL4 := hide hl4
    have HP4 := hide hp4
    have HCO := hide hcons
    have HNN := hide hnn
    clear hsame hcons hnn hg4 hl4 hp4 hb4 hmk hrow5 hg5 hI0 hgN4 hnd4 hg hwg HSE
    go_wp2
    go_loopw [37] (fun iv wr => ∃ k : Nat, k ≤ N ∧ iv = .int .i64 (k : Int) ∧ MkI nds' w.heap.size g k w5 wr) (fun iv _ => N - (intOf iv).toNat)
    case atStart => exact ⟨0, Nat.zero_le _, rfl, unhide HI0⟩
    case round =>
      obtain ⟨k, hk, rfl, hinv⟩ := hrel
      rename World => wr
      clear HI0
      obtain ⟨hnd, hbw⟩ := unhide HFR wr hinv.gr
      by_cases hlt : k < N
      · have hlti : (k : Int) < (N : Int) := by omega
        have hk0 : (0 : Int) ≤ (k : Int) := by omega
        have hkl : k < nds'.length := by rw [unhide HL4]; exact hlt
        obtain ⟨n, hn⟩ : ∃ n, n = nds'[k] := ⟨_, rfl⟩
        have hni : nds'[k]? = some n := by rw [hn]; exact List.getElem?_eq_getElem hkl
        obtain ⟨wi, hwi⟩ : ∃ wi, wi = wr.alloc (.cells #[.int .i64 n.p.W, .int .i64 n.p.H, .string n.p.C, .int .i64 n.p.T, .string n.p.A, .string n.p.B, .int .i64 n.v, .int .i64 n.d, .slice n.fo n.fr.length n.fc, .int .i64 n.l] 54 (0, 0)) := ⟨_, rfl⟩
        have hbi : RowKit.Below wr.heap.size wr wi := by rw [hwi]; exact (RowKit.Below.refl _ _).alloc (Nat.le_refl _) _
        have hbx : wi.heap[wr.heap.size]? = some (.cells #[.int .i64 n.p.W, .int .i64 n.p.H, .string n.p.C, .int .i64 n.p.T, .string n.p.A, .string n.p.B, .int .i64 n.v, .int .i64 n.d, .slice n.fo n.fr.length n.fc, .int .i64 n.l] 54 (0, 0)) := by rw [hwi]; exact heap_alloc_new wr _
        have c0 := (hnd.cell hni 0 (by omega)).1
        rw [Nat.add_zero] at c0
        have c1 := (hnd.cell hni 1 (by omega)).1
        have c2 := (hnd.cell hni 2 (by omega)).1
        have c3 := (hnd.cell hni 3 (by omega)).1
        have c4 := (hnd.cell hni 4 (by omega)).1
        have c5 := (hnd.cell hni 5 (by omega)).1
        have c6 := (hnd.cell hni 6 (by omega)).1
        have c7 := (hnd.cell hni 7 (by omega)).1
        have c8 := (hnd.cell hni 8 (by omega)).1
        have c9 := (hnd.cell hni 9 (by omega)).1
        simp only [Nd.vs, List.getElem?_cons_zero, List.getElem?_cons_succ] at c0 c1 c2 c3 c4 c5 c6 c7 c8 c9
        have y0 : wi.cell? ⟨wr.heap.size, 0, none⟩ = some (.int .i64 n.p.W) := by simp [World.cell?, hbx]
        have y1 : wi.cell? ⟨wr.heap.size, 1, none⟩ = some (.int .i64 n.p.H) := by simp [World.cell?, hbx]
        have y2 : wi.cell? ⟨wr.heap.size, 2, none⟩ = some (.string n.p.C) := by simp [World.cell?, hbx]
        have y3 : wi.cell? ⟨wr.heap.size, 3, none⟩ = some (.int .i64 n.p.T) := by simp [World.cell?, hbx]
        have y4 : wi.cell? ⟨wr.heap.size, 4, none⟩ = some (.string n.p.A) := by simp [World.cell?, hbx]
        have y5 : wi.cell? ⟨wr.heap.size, 5, none⟩ = some (.string n.p.B) := by simp [World.cell?, hbx]
        have y6 : wi.cell? ⟨wr.heap.size, 6, none⟩ = some (.int .i64 n.v) := by simp [World.cell?, hbx]
        have y7 : wi.cell? ⟨wr.heap.size, 7, none⟩ = some (.int .i64 n.d) := by simp [World.cell?, hbx]
        have hinv1 := hinv.below hbi
        have HE := hide (hinv1.next hni)
        obtain ⟨⟨t0, s0⟩, f0⟩ := hinv1.cell hkl 0 (by omega)
        rw [Nat.add_zero] at s0 f0
        obtain ⟨⟨t1, s1⟩, f1⟩ := hinv1.cell hkl 1 (by omega)
        obtain ⟨⟨t2, s2⟩, f2⟩ := hinv1.cell hkl 2 (by omega)
        obtain ⟨⟨t3, s3⟩, f3⟩ := hinv1.cell hkl 3 (by omega)
        obtain ⟨⟨t4, s4⟩, f4⟩ := hinv1.cell hkl 4 (by omega)
        obtain ⟨⟨t5, s5⟩, f5⟩ := hinv1.cell hkl 5 (by omega)
        obtain ⟨⟨t6, s6⟩, f6⟩ := hinv1.cell hkl 6 (by omega)
        obtain ⟨⟨t7, s7⟩, f7⟩ := hinv1.cell hkl 7 (by omega)
        have HWI := hide hwi
        clear hwi hbi hbx hinv hinv1 hnd hbw hn hni hkl
        go_upto_region 11 with fail
        rw [← unhide HWI]
        clear HWI c0 c1 c2 c3 c4 c5 c6 c7 c8 c9
        go_wp2
        go_roundw
        case rel => exact ⟨k + 1, by omega, by go_num, unhide HE⟩
        case measure => simp only [intOf]; omega
      · have hlti : ¬ (k : Int) < (N : Int) := by omega
        have hke : k = nds'.length := by rw [unhide HL4]; omega
        subst hke
        have hrow := hinv.fin
        have hlm : (nds'.map enN).toArray.size = N := by rw [List.size_toArray, List.length_map, unhide HL4]
        have HSO := hide (sortE g 0 nds'.length (nds'.map enN).toArray wr (holdsE hrow) (row_block hrow rfl).2 (by rw [hlm]; omega))
        rw [List.length_map] at hrow
        rw [unhide HL4] at hrow HSO
        rw [hlm] at HSO
        have HROW := hide hrow
        have HBW := hide hbw
        clear hinv hrow hbw hnd hlm
        go_wp2_with fail
        refine (unhide HSO).mono ?_
        rintro e w8 ⟨rfl, d', nn, os, hpm, hsd, hw8⟩
        obtain ⟨ts, rfl⟩ : ∃ ts : List (Po × Int × Int), d' = ts.toArray := ⟨d'.toList, by simp⟩
        have hlm : (nds'.map enN).toArray.size = N := by rw [List.size_toArray, List.length_map, unhide HL4]
        have hts : ts.length = N := by have h1 := hpm.1; rw [hlm, List.size_toArray] at h1; exact h1
        have HFIN : Hid (MkE nx ev s most w (.returned (.tuple #[.slice (some ⟨g, 0, none⟩) N N, .int .i64 0])) w8) := hide (by
          rw [hw8]
          have hrs := row_sortE (n := nn) (os := os) hts (unhide HROW)
          refine ⟨below_row (unhide HBW) (unhide HWG) (grown_sortE _), .inr ⟨g, N, nds', ts, by rw [hts], by rw [hts]; exact hrs, by rw [unhide HL4]; exact unhide HP4, by rw [unhide HL4]; exact hNm, fun a ha => unhide HLA a (by rw [← unhide HN, ← unhide HL4]; exact ha), ?_, unhide HNN, by rw [hlm]; exact hpm, by rw [hlm]; exact hsd⟩⟩
          have hco := unhide HCO
          rw [← unhide HN] at hco
          rw [unhide HL4]
          exact hco)
        clear hpm hsd hw8 hlm hts HROW HBW
        go_wp2
        refine bodyPost_ret (v := .tuple #[.slice (some ⟨g, 0, none⟩) N N, .int .i64 0]) (by simp [results, Tryz.results5, go_sem]) rfl ?_
        exact unhide HFIN
end Go.Proofs.YtbijadnekoeofaaGreatDoor

namespace Go.Proofs.YtbijadnekoeofaaGreatDoor
open Go.Sort

theorem bfs_still {nx : Po → List Po} {s : Po} {n : Nat} (h : (bfsN nx s n).length ≤ n) : ∀ {j : Nat}, n ≤ j → bfsN nx s j = bfsN nx s n := by
  intro j hj
  induction hj with
  | refl => rfl
  | step h3 ih => rw [bfs_stop (by rw [ih]; exact Nat.le_trans h h3), ih]
theorem bfs_fix {nx : Po → List Po} {s : Po} {n m : Nat} (h : (bfsN nx s n).length = n) (h' : (bfsN nx s m).length = m) : n = m := by
  rcases Nat.le_total n m with hl | hl
  · have := bfs_still (nx := nx) (s := s) (n := n) (by omega) hl
    rw [this] at h'
    omega
  · have := bfs_still (nx := nx) (s := s) (n := m) (by omega) hl
    rw [this] at h
    omega
/-- Where it ends within a bound it is never beyond it. -/
theorem bfs_never {nx : Po → List Po} {s : Po} {n most : Nat} (h : (bfsN nx s n).length = n) (hm : n ≤ most) (i : Nat) : ¬ most < (bfsN nx s i).length := by
  rcases Nat.le_total i n with hl | hl
  · obtain ⟨r, hr⟩ := bfs_le (nx := nx) (s := s) hl
    have := congrArg List.length hr
    rw [List.length_append] at this
    omega
  · rw [bfs_still (n := n) (by omega) hl]
    omega
theorem en_same {nds : List Nd} (hnn : ∀ (i : Nat) (n : Nd), nds[i]? = some n → 0 ≤ n.v ∧ 0 ≤ n.d) : nds.map enN = enF (nds.map Nd.p) (aOf nds) := by
  apply List.ext_getElem?
  intro i
  rw [List.getElem?_map, enF_get, List.getElem?_map]
  cases hi : nds[i]? with
  | none => rfl
  | some n =>
    obtain ⟨h1, h2⟩ := hnn i n hi
    rw [aOf_at hi]
    simp only [Option.map_some, Option.some.injEq, enN, Prod.mk.injEq, true_and]
    omega
def ltE (x y : Po × Int × Int) : Prop := cmpP x.1 y.1 < 0
theorem ltE_irr (x : Po × Int × Int) : ¬ ltE x x := by
  unfold ltE
  rw [cmpP_K, cmpK_TO.same]
  omega
theorem ltE_tr (x y z : Po × Int × Int) (h1 : ltE x y) (h2 : ltE y z) : ltE x z := by
  unfold ltE at *
  rw [cmpP_K] at *
  exact cmpK_TO.trans _ _ _ h1 h2
/-- Unlike keys: one is ahead. -/
theorem ltE_or {x y : Po × Int × Int} (h : keyP x.1 ≠ keyP y.1) : ltE x y ∨ ltE y x := by
  unfold ltE
  rw [cmpP_K, cmpP_K]
  by_cases h0 : cmpK (keyP x.1) (keyP y.1) < 0
  · exact .inl h0
  · right
    by_cases h1 : cmpK (keyP x.1) (keyP y.1) = 0
    · exact absurd (cmpK_TO.one _ _ h1) h
    · exact cmpK_TO.back _ _ (by omega)

/-- What both come to. -/
theorem tables_same {nx : Po → List Po} {ev : Po → Int} {s : Po} {ok : Po → Prop} {nds : List Nd} {ts ts' : List (Po × Int × Int)} {N D : Nat} (hs : ok s) (hstay : ∀ p, ok p → ∀ q ∈ nx p, ok q) (hkey : ∀ p q, ok p → ok q → keyP p = keyP q → p = q) (hev : ∀ p, ok p → nx p = [] → 1 ≤ ev p)
    (hpos : nds.map Nd.p = bfsN nx s nds.length) (hco : Cons nds.length (nxtG nx (bfsN nx s nds.length)) (v0G nx ev (bfsN nx s nds.length)) (aOf nds)) (hnn : ∀ (i : Nat) (n : Nd), nds[i]? = some n → 0 ≤ n.v ∧ 0 ≤ n.d)
    (hpm : PermIn 0 (nds.map enN).toArray.size (nds.map enN).toArray ts.toArray) (hsd : SortedIn (ltOf fun x y : Po × Int × Int => cmpP x.1 y.1) 0 (nds.map enN).toArray.size ts.toArray)
    (hN : (bfsN nx s N).length = N) (hD : ∀ i, i < N → rds (nxtG nx (bfsN nx s N)) (v0G nx ev (bfsN nx s N)) (D + 1) i = rds (nxtG nx (bfsN nx s N)) (v0G nx ev (bfsN nx s N)) D i)
    (hp' : ts'.Perm (enF (bfsN nx s N) (finR (rds (nxtG nx (bfsN nx s N)) (v0G nx ev (bfsN nx s N)) D)))) (hs' : ts'.Pairwise ltE) : ts = ts' := by
  have hn : (bfsN nx s nds.length).length = nds.length := by rw [← hpos, List.length_map]
  have hnN : nds.length = N := bfs_fix hn hN
  have hall : ∀ p ∈ bfsN nx s N, ok p := bfs_ok hs hstay N
  have hnd : (bfsN nx s N).Nodup := bfs_nodup N
  rw [hnN] at hpos hco
  obtain ⟨all, hal⟩ : ∃ all, all = bfsN nx s N := ⟨_, rfl⟩
  rw [← hal] at hpos hco hN hD hp' hall hnd
  have hcl : ∀ p ∈ all, ∀ q ∈ nx p, q ∈ all := by
    rw [hal]
    exact fun p hp2 q hq => bfs_closed (by rw [← hal, hN]; exact Nat.le_refl _) hp2 hq
  have hat : ∀ i, i < N → ∃ p, all[i]? = some p ∧ p ∈ all := fun i hi => ⟨all[i]'(by omega), List.getElem?_eq_getElem (by omega), List.getElem_mem _⟩
  have hne : ∀ i, i < N → v0G nx ev all i = 0 → nxtG nx all i ≠ [] := fun i hi h0 => by
    obtain ⟨p, hp1, hp2⟩ := hat i hi
    unfold v0G at h0
    rw [hp1] at h0
    unfold nxtG sucL
    rw [hp1]
    intro hh
    have hx : nx p = [] := List.map_eq_nil_iff.1 hh
    have := hev p (hall p hp2) hx
    simp only [hx, if_true] at h0
    omega
  have hin : ∀ i, i < N → ∀ j ∈ nxtG nx all i, j < N := fun i hi j hj => by
    obtain ⟨p, hp1, hp2⟩ := hat i hi
    unfold nxtG sucL at hj
    rw [hp1] at hj
    obtain ⟨q, hq, rfl⟩ := List.mem_map.1 hj
    rw [← hN]
    exact List.idxOf_lt_length_iff.2 (hcl p hp2 q hq)
  have hone := cons_one hin hco (rds_cons hne hD)
  have hen : nds.map enN = enF all (finR (rds (nxtG nx all) (v0G nx ev all) D)) := by
    rw [en_same hnn, hpos]
    exact enF_cong (fun i hi => hone i (by omega))
  have hkn : ((nds.map enN).map fun x => keyP x.1).Nodup := by
    rw [hen, show (fun x : Po × Int × Int => keyP x.1) = keyP ∘ (fun x => x.1) from rfl, ← List.map_map, enF_pos]
    rw [List.nodup_iff_pairwise_ne] at hnd ⊢
    rw [List.pairwise_map]
    refine hnd.imp_of_mem (fun {a b} ha hb hab e => hab (hkey a b (hall a ha) (hall b hb) e))
  obtain ⟨h1, h2⟩ := sortedE hpm hsd hkn
  have h1' : ts.Perm (nds.map enN) := h1
  rw [hen] at h1'
  exact sorted_one (lt := ltE) ltE_irr ltE_tr (h1'.trans hp'.symm) h2 hs'
end Go.Proofs.YtbijadnekoeofaaGreatDoor

namespace Go.Proofs.YtbijadnekoeofaaGreatDoor
open Go.RowKit

/-- What a position is worth at the beginning. -/
def endW (o T : Int) : Int := if o = 0 then 0 else if o = 3 then 3 else if o = T + 1 then 1 else 2
theorem fill_next {all : List Po} {A : Nat → Nat × Nat} {i : Nat} {p : Po} {v : Int} (hp : all[i]? = some p) (hv : ((A i).1 : Int) = v) (hd : (A i).2 = 0) : ((enF all A).take i ++ [(p, 0, 0)]).set i (p, v, 0) = (enF all A).take (i + 1) := by
  have hil := (List.getElem?_eq_some_iff.1 hp).1
  have hl : ((enF all A).take i).length = i := by rw [List.length_take, enF_len]; omega
  rw [List.set_append_right _ _ (by omega), hl, Nat.sub_self, List.take_add_one, enF_at hp, hv, hd]
  rfl
theorem fill_zero {all : List Po} {A : Nat → Nat × Nat} {i : Nat} {p : Po} (hp : all[i]? = some p) (hv : (A i).1 = 0) (hd : (A i).2 = 0) : (enF all A).take i ++ [(p, 0, 0)] = (enF all A).take (i + 1) := by
  rw [List.take_add_one, enF_at hp, hv, hd]
  rfl
theorem so_push {all : List Po} {A : Nat → Nat × Nat} {i : Nat} {p : Po} (hp : all[i]? = some p) : ((enF all A).take i ++ [(p, (0 : Int), (0 : Int))])[i]? = some (p, 0, 0) := by
  have hil := (List.getElem?_eq_some_iff.1 hp).1
  have hl : ((enF all A).take i).length = i := by rw [List.length_take, enF_len]; omega
  rw [List.getElem?_append_right (by omega), hl, Nat.sub_self]
  rfl
theorem v0G_val {nx : Po → List Po} {ev : Po → Int} {all : List Po} {i : Nat} {p : Po} {x : Int} (hp : all[i]? = some p) (hev : nx p = [] → 1 ≤ ev p) (hx : x = if nx p = [] then ev p else 0) : ((v0G nx ev all i : Nat) : Int) = x := by
  unfold v0G
  rw [hp, hx]
  by_cases h : nx p = []
  · have := hev h
    simp only [h, if_true]
    omega
  · simp only [h, if_false]; rfl
/-- A row of entries is copied. -/
theorem EnR.copy {u : World} {base g N : Nat} {ts : List (Po × Int × Int)} (h : EnR u base g N ts []) (hN : 0 < N) (hN5 : N ≤ 5000) (hb : base ≤ u.heap.size) :
    ∃ gW cW u', (Builtin.append_ #[28, 28] 28 #[.slice none 0 0, .slice (some ⟨g, 0, none⟩) N N]).run Tryz.prog u = .ok (.slice (some ⟨gW, 0, none⟩) N cW) u' ∧ N ≤ cW ∧ cW ≤ maxLen ∧ u.heap.size ≤ gW ∧ u.grownBy u' none ∧
      ∀ (j : Nat) (e : Po × Int × Int), ts[j]? = some e → ∀ v : World, v.heap[gW]? = u'.heap[gW]? → ∀ c, c < 8 → v.cell? ⟨gW, j * 8 + c, none⟩ = (encE e)[c]? := by
  obtain ⟨i0, hinfo, hz0, hz1, hz2⟩ := info_parts infoEn
  have hl := h.len
  have hrow := h.row
  rw [List.append_nil] at hrow
  obtain ⟨v', u', hrun, hr, hg, -, hob⟩ := run_append_own_at (P := Tryz.prog) u base 28 28 34 i0 _ 8 88 Tryz.underlying28 hinfo hz0 hz1 hz2 rfl (by omega) (.slice none 0 0) 0 [] ⟨rfl, .inl ⟨rfl, rfl⟩⟩ ⟨g, 0, none⟩ N N (evs ts) (by rw [evs_len]; simpa using hl)
    (fun a x hx => by
      have hal : a < N * 8 := by
        have := (List.getElem?_eq_some_iff.1 hx).1
        rw [evs_len] at this
        simp at hl
        omega
      rw [show (⟨g, 0, none⟩ : Addr).add a = ⟨g, a, none⟩ by (simp [Addr.add]; try omega), hrow.cellAt a hal]
      exact hx)
    (fun x hx => by
      unfold evs at hx
      obtain ⟨e, _, he⟩ := List.mem_flatMap.1 hx
      simp only [encE, List.mem_cons, List.not_mem_nil, or_false] at he
      rcases he with rfl | rfl | rfl | rfl | rfl | rfl | rfl | rfl <;> rfl)
    (by unfold maxLen; omega) (by omega) hb
  rw [Nat.zero_add, List.nil_append] at hr
  rcases hr.2 with ⟨_, h0⟩ | ⟨gW, cW, cur, e, _, hgw, h1, h2, _⟩
  · omega
  · subst e
    have hgW : u.heap.size ≤ gW := by
      rcases hob with hob | hob
      · simp [Value.ownBlock] at hob
      · simp only [Value.ownBlock, Option.some.injEq] at hob
        omega
    refine ⟨gW, cW, u', hrun, h1, h2, hgW, hg, fun j e hj v hv c hc => ?_⟩
    have hjl := (List.getElem?_eq_some_iff.1 hj).1
    simp at hl
    rw [World.cell?_of_block (a := ⟨gW, j * 8 + c, none⟩) hv, hr.cellAt (j * 8 + c) (by omega)]
    exact fm_at (f := encE) (c := 8) (fun _ => rfl) ts j c e hj hc
theorem grown_trans {a u v : World} {g : Nat} (h : a.grownBy u (some g)) (h' : u.grownBy v (some g)) : a.grownBy v (some g) := h.andThen h' (fun _ hk => .inr hk)
theorem grown_below {a u v : World} {g : Nat} (h : a.grownBy u (some g)) (hb : Below u.heap.size u v) : a.grownBy v (some g) := h.andThen (show u.grownBy v none from ⟨hb.os, hb.tape, hb.output, hb.size, fun j hj _ => hb.block j hj⟩) (fun _ hk => by cases hk)
theorem grown_none {a u v : World} {g : Nat} (h : a.grownBy u (some g)) (h' : u.grownBy v none) : a.grownBy v (some g) := h.andThen h' (fun _ hk => by cases hk)
theorem EnR.drew {u : World} {base g N : Nat} {ts : List (Po × Int × Int)} {r : List Value} (h : EnR u base g N ts r) : EnR u.drew base g N ts r := h.keep rfl
theorem grown_drew {a u : World} {g : Nat} (h : a.grownBy u (some g)) : a.grownBy u.drew (some g) := ⟨h.os, h.tape, h.output, h.size, h.block⟩
theorem InsI.mem {α : Type} {lt : α → α → Prop} {S : List α} {x : α} {rest : List α} {k : Nat} {ts : List α} (h : InsI lt S x rest (k + 1) ts) {a : α} (ha : ts[k]? = some a) : a ∈ S := by
  obtain ⟨A, B, rfl, rfl, hk, -⟩ := h
  rw [List.getElem?_append_left (by omega)] at ha
  exact List.mem_append_left _ (List.mem_of_getElem? ha)
/-- The sort: one more is put in its place. -/
structure SoI (all : List Po) (A : Nat → Nat × Nat) (i : Nat) (S : List (Po × Int × Int)) : Prop where
  len : S.length = i
  perm : S.Perm ((enF all (finR A)).take i)
  ord : S.Pairwise ltE
theorem SoI.ne {all : List Po} {A : Nat → Nat × Nat} {i : Nat} {S : List (Po × Int × Int)} (h : SoI all A i S) (hnd : all.Nodup) {ok : Po → Prop} (hok : ∀ p ∈ all, ok p) (hkey : ∀ p q, ok p → ok q → keyP p = keyP q → p = q) {p : Po} (hp : all[i]? = some p) : ∀ a ∈ S, keyP p ≠ keyP a.1 := fun a ha e => by
  have h1 := h.perm.subset ha
  obtain ⟨j, hj⟩ := List.getElem?_of_mem h1
  have hji : j < i := by
    have := (List.getElem?_eq_some_iff.1 hj).1
    rw [List.length_take] at this
    omega
  rw [List.getElem?_take_of_lt hji, enF_get] at hj
  obtain ⟨q, hq, rfl⟩ := Option.map_eq_some_iff.1 hj
  have hpq := hkey p q (hok p (List.mem_of_getElem? hp)) (hok q (List.mem_of_getElem? hq)) e
  subst hpq
  have e1 := idx_of hnd hp
  have e2 := idx_of hnd hq
  omega
theorem SoI.next {all : List Po} {A : Nat → Nat × Nat} {i : Nat} {S S' : List (Po × Int × Int)} {x : Po × Int × Int} (h : SoI all A i S) (hx : (enF all (finR A))[i]? = some x) (hp : S'.Perm (S ++ [x])) (ho : S'.Pairwise ltE) (hl : S'.length = S.length + 1) : SoI all A (i + 1) S' := by
  refine ⟨by rw [hl, h.len], ?_, ho⟩
  rw [List.take_add_one, hx]
  exact hp.trans (h.perm.append_right _)
theorem so_at {all : List Po} {A : Nat → Nat × Nat} {i : Nat} {S : List (Po × Int × Int)} {p : Po} (hl : S.length = i) (hp : all[i]? = some p) : (S ++ (enF all A).drop i)[i]? = some (p, ((A i).1 : Int), ((A i).2 : Int)) := by
  rw [List.getElem?_append_right (by omega), hl, Nat.sub_self, List.getElem?_drop, Nat.add_zero]
  exact enF_at hp
theorem so_keep {all : List Po} {A : Nat → Nat × Nat} {i : Nat} {S : List (Po × Int × Int)} {p : Po} (hp : all[i]? = some p) (h : (A i).1 ≠ 0) : S ++ (enF all A).drop i = S ++ (p, ((finR A i).1 : Int), ((finR A i).2 : Int)) :: (enF all A).drop (i + 1) := by
  have hil : i < (enF all A).length := by rw [enF_len]; exact (List.getElem?_eq_some_iff.1 hp).1
  have hf : finR A i = A i := by unfold finR; rw [if_neg h]
  rw [hf, List.drop_eq_getElem_cons hil]
  have := enF_at (A := A) hp
  rw [List.getElem?_eq_getElem hil] at this
  rw [Option.some.inj this]
theorem so_even {all : List Po} {A : Nat → Nat × Nat} {i : Nat} {S : List (Po × Int × Int)} {p : Po} (hl : S.length = i) (hp : all[i]? = some p) (h : A i = (0, 0)) : (S ++ (enF all A).drop i).set i (p, 3, ((A i).2 : Int)) = S ++ (p, ((finR A i).1 : Int), ((finR A i).2 : Int)) :: (enF all A).drop (i + 1) := by
  have hil : i < (enF all A).length := by rw [enF_len]; exact (List.getElem?_eq_some_iff.1 hp).1
  have hf : finR A i = (3, 0) := by unfold finR; rw [if_pos (by rw [h])]
  rw [hf, List.set_append_right _ _ (by omega), hl, Nat.sub_self, List.drop_eq_getElem_cons hil, List.set_cons_zero, h]
  rfl
/-- The rounds. -/
structure RdI (n : Nat) (nxt : Nat → List Nat) (v0 : Nat → Nat) (d : Nat) (mo : Bool) : Prop where
  yes : mo = true → d + opn (rds nxt v0 d) n ≤ n
  no : mo = false → ∃ D, d = D + 1 ∧ ∀ i, i < n → rds nxt v0 (D + 1) i = rds nxt v0 D i
theorem RdI.start {n : Nat} {nxt : Nat → List Nat} {v0 : Nat → Nat} : RdI n nxt v0 0 true := ⟨fun _ => by have := opn_le (rds nxt v0 0) n; omega, fun h => by cases h⟩
theorem RdI.next {n : Nat} {nxt : Nat → List Nat} {v0 : Nat → Nat} {d : Nat} (h : RdI n nxt v0 d true) : RdI n nxt v0 (d + 1) (fndN nxt (rds nxt v0 d) (d + 1) n) := by
  have h1 := h.yes rfl
  have h2 := opn_rnd (nxt := nxt) (A := rds nxt v0 d) (d := d + 1) n
  refine ⟨fun hm => ?_, fun hm => ⟨d, rfl, rds_still hm⟩⟩
  rw [if_pos hm] at h2
  have e : opn (rds nxt v0 (d + 1)) n = opn (rnd nxt (rds nxt v0 d) (d + 1)) n := rfl
  omega
end Go.Proofs.YtbijadnekoeofaaGreatDoor
