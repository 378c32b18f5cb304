/-
  table.Make, walked.
  table.Make at wrong rules, or at a number that is not within 1 to 5000.
  Plain mathematics: a list put in order by insertion; a round of a table while it is gone through; how many rounds there can be.
-/
import Derived.Test.YtbijadnekoeofaaGreatDoorJ30
import Derived.Test.YtbijadnekoeofaaGreatDoorJ33
import Derived.Test.YtbijadnekoeofaaGreatDoorT19
import Derived.Test.YtbijadnekoeofaaGreatDoorT3
namespace Go.Proofs.YtbijadnekoeofaaGreatDoor
open Go.RowKit Go.Sort
attribute [local go_sem ↓] Go.wp_at_zero Go.wp_at_succ

theorem infoEn : (Tryz.prog.info? 34).map (fun i => (i.zero, i.size, i.bytes)) = some (some (.agg #[.int .i64 0, .int .i64 0, .string ⟨#[]⟩, .int .i64 0, .string ⟨#[]⟩, .string ⟨#[]⟩, .int .i64 0, .int .i64 0]), 8, 88) := by kernel_rfl
theorem MkI.cell {nds : List Nd} {base g k : Nat} {w5 u : World} (h : MkI nds base g k w5 u) (hk : k < nds.length) (c : Nat) (hc : c < 8) : (∃ t, u.cell? ⟨g, k * 8 + c, none⟩ = some t) ∧ u.frozen? ⟨g, k * 8 + c, none⟩ = false := by
  obtain ⟨⟨r, hr, hrow⟩, -⟩ := h
  have hl : k * 8 + c < nds.length * 8 := by omega
  refine ⟨⟨_, (hrow.cellAt (k * 8 + c) hl).trans (List.getElem?_eq_getElem (by rw [hrow.1]; exact hl))⟩, hrow.frozenAt _⟩

theorem sameN.pos {a b : List Nd} (h : sameN a b) : b.map Nd.p = a.map Nd.p := by
  apply List.ext_getElem?
  intro i
  rw [List.getElem?_map, List.getElem?_map]
  cases hb : b[i]? with
  | none =>
    have : a[i]? = none := by
      rw [List.getElem?_eq_none_iff] at *
      have := h.1
      omega
    rw [this]
  | some n =>
    obtain ⟨n0, h0, hp, _⟩ := h.2 i n hb
    rw [h0]
    simp [hp]

/-- What Make leaves. -/
structure MkE (nx : Po → List Po) (ev : Po → Int) (s : Po) (most : Nat) (w : World) (e : Ending) (w' : World) : Prop where
  bw : RowKit.Below w.heap.size w w'
  out : ((∃ i, most < (bfsN nx s i).length) ∧ e = .returned (.tuple #[.slice none 0 0, .int .i64 2])) ∨
    ∃ g cap nds ts, e = .returned (.tuple #[.slice (some ⟨g, 0, none⟩) ts.length cap, .int .i64 0]) ∧ w'.ownsRow w.heap.size 34 8 (.slice (some ⟨g, 0, none⟩) ts.length cap) ts.length (evs ts) ∧
      nds.map Nd.p = bfsN nx s nds.length ∧ nds.length ≤ most ∧ (∀ a, a < nds.length → a < (bfsN nx s a).length) ∧
      Cons nds.length (nxtG nx (bfsN nx s nds.length)) (v0G nx ev (bfsN nx s nds.length)) (aOf nds) ∧ (∀ (i : Nat) (n : Nd), nds[i]? = some n → 0 ≤ n.v ∧ 0 ≤ n.d) ∧
      PermIn 0 (nds.map enN).toArray.size (nds.map enN).toArray ts.toArray ∧ SortedIn (ltOf fun x y : Po × Int × Int => cmpP x.1 y.1) 0 (nds.map enN).toArray.size ts.toArray

set_option maxHeartbeats 4000000 in
set_option maxRecDepth 100000 in
theorem make_walk (nx : Po → List Po) (ev : Po → Int) (ok : Po → Prop) (s : Po) (v6 v7 v8 v9 v10 v11 v12 : Value) (most : Nat) (w : World) (hm1 : 1 ≤ most) (hm5 : most ≤ 5000) (hs : ok s) (hok : ∀ p, ok p → p.ok) (hstay : ∀ p, ok p → ∀ q ∈ nx p, ok q) (hlen : ∀ p, (nx p).length ≤ 4608) (hev1 : ∀ p, ok p → nx p = [] → 1 ≤ ev p)
    (hCk : ∀ u, RowKit.Below w.heap.size w u → Calls Tryz.prog 12 #[.agg #[.int .i64 s.W, .int .i64 s.H, .string s.C, .int .i64 s.T, .string s.A, .string s.B, v6, v7, v8, v9, v10, v11, v12]] u fun e w' => e = .returned (.int .i64 0) ∧ RowKit.Below u.heap.size u w')
    (hTu : ∀ u, RowKit.Below w.heap.size w u → Calls Tryz.prog 34 #[.agg #[.int .i64 s.W, .int .i64 s.H, .string s.C, .int .i64 s.T, .string s.A, .string s.B], .int .i64 0] u fun e w' => e = .returned (.tuple #[.agg #[.int .i64 s.W, .int .i64 s.H, .string s.C, .int .i64 s.T, .string s.A, .string s.B], .int .i64 0]) ∧ RowKit.Below u.heap.size u w')
    (hNx : ∀ p, ok p → ∀ u, RowKit.Below w.heap.size w u → Calls Tryz.prog 35 #[.agg #[.int .i64 s.W, .int .i64 s.H, .string s.C, .int .i64 s.T, .string s.A, .string s.B, v6, v7, v8, v9, v10, v11, v12], .agg #[.int .i64 p.W, .int .i64 p.H, .string p.C, .int .i64 p.T, .string p.A, .string p.B]] u fun e w' => ∃ x y, e = .returned (.tuple #[x, y, .int .i64 0]) ∧ w'.ownsRow u.heap.size 24 6 y (nx p).length (povs (nx p)) ∧ RowKit.Below u.heap.size u w')
    (hEv : ∀ p, ok p → nx p = [] → ∀ u, RowKit.Below w.heap.size w u → Calls Tryz.prog 36 #[.agg #[.int .i64 s.W, .int .i64 s.H, .string s.C, .int .i64 s.T, .string s.A, .string s.B, v6, v7, v8, v9, v10, v11, v12], .agg #[.int .i64 p.W, .int .i64 p.H, .string p.C, .int .i64 p.T, .string p.A, .string p.B]] u fun e w' => e = .returned (.int .i64 (ev p)) ∧ RowKit.Below u.heap.size u w') :
    Calls Tryz.prog 5 #[.agg #[.int .i64 s.W, .int .i64 s.H, .string s.C, .int .i64 s.T, .string s.A, .string s.B, v6, v7, v8, v9, v10, v11, v12], .int .i64 (most : Int)] w (MkE nx ev s most w) := by
  obtain ⟨i0, hinfo, hz0, hz1, hz2⟩ := info_parts infoEn
  obtain ⟨w1, hw1⟩ : ∃ w1, w1 = w.alloc (.cells #[.int .i64 s.W, .int .i64 s.H, .string s.C, .int .i64 s.T, .string s.A, .string s.B, v6, v7, v8, v9, v10, v11, v12] 27 (0, 0)) := ⟨_, rfl⟩
  have b1 : RowKit.Below w.heap.size w w1 := by rw [hw1]; exact (RowKit.Below.refl _ _).alloc (Nat.le_refl _) _
  have s1 : w1.heap.size = w.heap.size + 1 := by rw [hw1]; simp
  have hru1 : isRu w1 w.heap.size (.int .i64 s.W) (.int .i64 s.H) (.string s.C) (.int .i64 s.T) (.string s.A) (.string s.B) v6 v7 v8 v9 v10 v11 v12 := by rw [hw1]; exact heap_alloc_new w _
  have HRU : Hid (∀ u, RowKit.Below w1.heap.size w1 u → isRu u w.heap.size (.int .i64 s.W) (.int .i64 s.H) (.string s.C) (.int .i64 s.T) (.string s.A) (.string s.B) v6 v7 v8 v9 v10 v11 v12) := hide (fun u hu => hru1.below hu (by omega))
  have HUP : Hid (∀ u, RowKit.Below w1.heap.size w1 u → RowKit.Below w.heap.size w u) := hide (fun u hu => b1.trans (hu.mono (by omega)))
  have HCK := hide (hCk w1 b1)
  have HRE : Hid (∀ u, RowKit.Below w.heap.size w u → Calls Tryz.prog 13 #[.agg #[.int .i64 s.W, .int .i64 s.H, .string s.C, .int .i64 s.T, .string s.A, .string s.B, v6, v7, v8, v9, v10, v11, v12], .int .i64 (most : Int)] u (ReE nx ev s most u)) := hide (fun u hu =>
    reached_walk nx ev ok s v6 v7 v8 v9 v10 v11 v12 most u hm1 hm5 hs hok hstay hlen (fun x hx => hTu x (hu.trans (hx.mono hu.size))) (fun p hp x hx => hNx p hp x (hu.trans (hx.mono hu.size))) (fun p hp hn x hx => hEv p hp hn x (hu.trans (hx.mono hu.size))))
  have HGL : Hid (∀ nds, RW nx ev s nds.length 0 false [] nds → nds.map Nd.p = bfsN nx s nds.length ∧ Glue nx ev (bfsN nx s nds.length) nds) := hide (fun nds h => glue h (fun p hp hn => hev1 p (bfs_ok hs hstay _ p hp) hn) hlen)
  obtain ⟨r0, r1, r2, r3, r4, r5, r6, r7, r8, r9, r10, r11, r12⟩ := hru1.cells
  have HW1 := hide hw1
  have HS1 := hide s1
  have HI := hide hinfo
  have HZ0 := hide hz0
  have HZ1 := hide hz1
  have HZ2 := hide hz2
  have hx1 : ¬ (most : Int) < 1 := by omega
  have hx2 : ¬ (5000 : Int) < (most : Int) := by omega
  clear hw1 b1 s1 hru1 hTu hNx hEv hs hok hstay hCk hinfo hz0 hz1 hz2 hev1
  go_enter Tryz.func5, Tryz.ntmps5
  go_upto_region 1 with fail
  rw [← unhide HW1]
  clear HW1
  go_wp2_with fail
  refine (unhide HCK).mono ?_
  rintro e w2 ⟨rfl, hb2⟩
  clear r0 r1 r2 r3 r4 r5 r6 r7 r8 r9 r10 r11 r12
  obtain ⟨r0, r1, r2, r3, r4, r5, r6, r7, r8, r9, r10, r11, r12⟩ := (unhide HRU w2 hb2).cells
  have HR := hide (unhide HRE w2 (unhide HUP w2 hb2))
  have HB2 := hide hb2
  clear hb2 HCK HRE
  go_wp2_with fail
  refine (unhide HR).mono ?_
  rintro e w3 ⟨hb3, hout⟩
  have HB3 : Hid (RowKit.Below w.heap.size w w3) := hide ((unhide HUP w2 (unhide HB2)).trans (hb3.mono (unhide HUP w2 (unhide HB2)).size))
  clear r0 r1 r2 r3 r4 r5 r6 r7 r8 r9 r10 r11 r12 HR HRU
  rcases hout with ⟨hbig, rfl⟩ | ⟨gN, cap, nds, rfl, hnd, hrw, hlm, hla⟩
  · have HBG := hide hbig
    clear hbig hb3
    go_wp2
    refine bodyPost_ret (v := .tuple #[.slice none 0 0, .int .i64 2]) (by simp [results, Tryz.results5, go_sem]) rfl ?_
    exact ⟨unhide HB3, .inl ⟨unhide HBG, rfl⟩⟩
  · obtain ⟨hpos, hG⟩ := unhide HGL nds hrw
    have HSE := hide (settle_walk _ _ _ _ _ _ nds w3 (by omega) hnd hG.hv hG.hne hG.hnN hG.hfr hG.hfN hG.hlen)
    have HPOS := hide hpos
    have HLA := hide hla
    have hix := hnd.ix
    have hgb : w2.heap.size + 1 ≤ gN := (row_block hnd.row rfl).1
    have h23 := (unhide HUP w2 (unhide HB2)).size
    have hgw : w.heap.size ≤ gN := by omega
    obtain ⟨N, hN⟩ : ∃ N, N = nds.length := ⟨_, rfl⟩
    have hix1 : N ≤ cap := by rw [hN]; exact hix.1
    have hix2 : cap ≤ 9223372036854775807 := by have := hix.2; unfold maxLen at this; omega
    have hNm : N ≤ most := by rw [hN]; exact hlm
    have HN := hide hN
    rw [← hN] at HSE ⊢
    clear hnd hrw hpos hG hla hix hgb h23 hlm hN hb3 HGL
    go_wp2_with fail
    refine (unhide HSE).mono ?_
    rintro e w4 ⟨rfl, nds', hnd4, hsame, hcons, hnn, hg4⟩
    have hl4 : nds'.length = N := hsame.1.trans (unhide HN).symm
    have hp4 : nds'.map Nd.p = bfsN nx s N := by rw [unhide HN]; exact (sameN.pos hsame).trans (unhide HPOS)
    have hb4 : RowKit.Below w.heap.size w w4 := below_row (unhide HB3) hgw hg4
    obtain ⟨w5, hmk, hrow5, hg5⟩ := run_makeSlice_full (P := Tryz.prog) (w := w4) w.heap.size 28 34 i0 _ 8 Tryz.underlying28 (unhide HI) (unhide HZ0) (unhide HZ1) .i64 .i64 N (by omega) (by rw [unhide HZ2]; omega) (by unfold maxLen; omega) hb4.size
    obtain ⟨g, hg⟩ : ∃ g, g = w4.heap.size := ⟨_, rfl⟩
    have hmk' : (Instr.makeSlice 28 (.int .i64 (N : Int)) (.int .i64 (N : Int))).run Tryz.prog w4 = .ok (.slice (some ⟨g, 0, none⟩) N N) w5 := by rw [hg]; exact hmk
    rw [← hg] at hrow5
    have hI0 : MkI nds' w.heap.size g 0 w5 w5 := ⟨⟨_, by rw [hrow5.1, hl4]; omega, by rw [hl4]; simpa [evs] using hrow5⟩, ⟨rfl, rfl, rfl, Nat.le_refl _, fun _ _ _ => rfl⟩⟩
    have hgN4 : gN < w4.heap.size := (row_block hnd4.row rfl).2
    have HFR : Hid (∀ u, w5.grownBy u (some g) → NdR u (w2.heap.size + 1) gN cap nds' ∧ RowKit.Below w.heap.size w u) := hide (fun u hu => by
      have hk : ∀ k, k < g → u.heap[k]? = w4.heap[k]? := fun k hk => (hu.block k (by have := hg5.size; omega) (by simp; omega)).trans (hg5.block k (by omega) (by simp))
      have hsz : w4.heap.size ≤ u.heap.size := Nat.le_trans hg5.size hu.size
      have hbu : RowKit.Below w4.heap.size w4 u := ⟨hu.os.trans hg5.os, hu.tape.trans hg5.tape, hu.output.trans hg5.output, hsz, fun k h => hk k (by omega)⟩
      exact ⟨hnd4.below hbu, hb4.trans (hbu.mono hb4.size)⟩)
    have HI0 := hide hI0
    have hgg : gN < g := by omega
    have hwg : w.heap.size ≤ g := by rw [hg]; exact hb4.size
    have HWG := hide hwg
    have HL4 := hide hl4
    have HP4 := hide hp4
    have HCO := hide hcons
    have HNN := hide hnn
    clear hsame hcons hnn hg4 hl4 hp4 hb4 hmk hrow5 hg5 hI0 hgN4 hnd4 hg hwg HSE
    go_wp2
    go_loopw [37] (fun iv wr => ∃ k : Nat, k ≤ N ∧ iv = .int .i64 (k : Int) ∧ MkI nds' w.heap.size g k w5 wr) (fun iv _ => N - (intOf iv).toNat)
    case atStart => exact ⟨0, Nat.zero_le _, rfl, unhide HI0⟩
    case round =>
      obtain ⟨k, hk, rfl, hinv⟩ := hrel
      rename World => wr
      clear HI0
      obtain ⟨hnd, hbw⟩ := unhide HFR wr hinv.gr
      by_cases hlt : k < N
      · have hlti : (k : Int) < (N : Int) := by omega
        have hk0 : (0 : Int) ≤ (k : Int) := by omega
        have hkl : k < nds'.length := by rw [unhide HL4]; exact hlt
        obtain ⟨n, hn⟩ : ∃ n, n = nds'[k] := ⟨_, rfl⟩
        have hni : nds'[k]? = some n := by rw [hn]; exact List.getElem?_eq_getElem hkl
        obtain ⟨wi, hwi⟩ : ∃ wi, wi = wr.alloc (.cells #[.int .i64 n.p.W, .int .i64 n.p.H, .string n.p.C, .int .i64 n.p.T, .string n.p.A, .string n.p.B, .int .i64 n.v, .int .i64 n.d, .slice n.fo n.fr.length n.fc, .int .i64 n.l] 54 (0, 0)) := ⟨_, rfl⟩
        have hbi : RowKit.Below wr.heap.size wr wi := by rw [hwi]; exact (RowKit.Below.refl _ _).alloc (Nat.le_refl _) _
        have hbx : wi.heap[wr.heap.size]? = some (.cells #[.int .i64 n.p.W, .int .i64 n.p.H, .string n.p.C, .int .i64 n.p.T, .string n.p.A, .string n.p.B, .int .i64 n.v, .int .i64 n.d, .slice n.fo n.fr.length n.fc, .int .i64 n.l] 54 (0, 0)) := by rw [hwi]; exact heap_alloc_new wr _
        have c0 := (hnd.cell hni 0 (by omega)).1
        rw [Nat.add_zero] at c0
        have c1 := (hnd.cell hni 1 (by omega)).1
        have c2 := (hnd.cell hni 2 (by omega)).1
        have c3 := (hnd.cell hni 3 (by omega)).1
        have c4 := (hnd.cell hni 4 (by omega)).1
        have c5 := (hnd.cell hni 5 (by omega)).1
        have c6 := (hnd.cell hni 6 (by omega)).1
        have c7 := (hnd.cell hni 7 (by omega)).1
        have c8 := (hnd.cell hni 8 (by omega)).1
        have c9 := (hnd.cell hni 9 (by omega)).1
        simp only [Nd.vs, List.getElem?_cons_zero, List.getElem?_cons_succ] at c0 c1 c2 c3 c4 c5 c6 c7 c8 c9
        have y0 : wi.cell? ⟨wr.heap.size, 0, none⟩ = some (.int .i64 n.p.W) := by simp [World.cell?, hbx]
        have y1 : wi.cell? ⟨wr.heap.size, 1, none⟩ = some (.int .i64 n.p.H) := by simp [World.cell?, hbx]
        have y2 : wi.cell? ⟨wr.heap.size, 2, none⟩ = some (.string n.p.C) := by simp [World.cell?, hbx]
        have y3 : wi.cell? ⟨wr.heap.size, 3, none⟩ = some (.int .i64 n.p.T) := by simp [World.cell?, hbx]
        have y4 : wi.cell? ⟨wr.heap.size, 4, none⟩ = some (.string n.p.A) := by simp [World.cell?, hbx]
        have y5 : wi.cell? ⟨wr.heap.size, 5, none⟩ = some (.string n.p.B) := by simp [World.cell?, hbx]
        have y6 : wi.cell? ⟨wr.heap.size, 6, none⟩ = some (.int .i64 n.v) := by simp [World.cell?, hbx]
        have y7 : wi.cell? ⟨wr.heap.size, 7, none⟩ = some (.int .i64 n.d) := by simp [World.cell?, hbx]
        have hinv1 := hinv.below hbi
        have HE := hide (hinv1.next hni)
        obtain ⟨⟨t0, s0⟩, f0⟩ := hinv1.cell hkl 0 (by omega)
        rw [Nat.add_zero] at s0 f0
        obtain ⟨⟨t1, s1⟩, f1⟩ := hinv1.cell hkl 1 (by omega)
        obtain ⟨⟨t2, s2⟩, f2⟩ := hinv1.cell hkl 2 (by omega)
        obtain ⟨⟨t3, s3⟩, f3⟩ := hinv1.cell hkl 3 (by omega)
        obtain ⟨⟨t4, s4⟩, f4⟩ := hinv1.cell hkl 4 (by omega)
        obtain ⟨⟨t5, s5⟩, f5⟩ := hinv1.cell hkl 5 (by omega)
        obtain ⟨⟨t6, s6⟩, f6⟩ := hinv1.cell hkl 6 (by omega)
        obtain ⟨⟨t7, s7⟩, f7⟩ := hinv1.cell hkl 7 (by omega)
        have HWI := hide hwi
        clear hwi hbi hbx hinv hinv1 hnd hbw hn hni hkl
        go_upto_region 11 with fail
        rw [← unhide HWI]
        clear HWI c0 c1 c2 c3 c4 c5 c6 c7 c8 c9
        go_wp2
        go_roundw
        case rel => exact ⟨k + 1, by omega, by go_num, unhide HE⟩
        case measure => simp only [intOf]; omega
      · have hlti : ¬ (k : Int) < (N : Int) := by omega
        have hke : k = nds'.length := by rw [unhide HL4]; omega
        subst hke
        have hrow := hinv.fin
        have hlm : (nds'.map enN).toArray.size = N := by rw [List.size_toArray, List.length_map, unhide HL4]
        have HSO := hide (sortE g 0 nds'.length (nds'.map enN).toArray wr (holdsE hrow) (row_block hrow rfl).2 (by rw [hlm]; omega))
        rw [List.length_map] at hrow
        rw [unhide HL4] at hrow HSO
        rw [hlm] at HSO
        have HROW := hide hrow
        have HBW := hide hbw
        clear hinv hrow hbw hnd hlm
        go_wp2_with fail
        refine (unhide HSO).mono ?_
        rintro e w8 ⟨rfl, d', nn, os, hpm, hsd, hw8⟩
        obtain ⟨ts, rfl⟩ : ∃ ts : List (Po × Int × Int), d' = ts.toArray := ⟨d'.toList, by simp⟩
        have hlm : (nds'.map enN).toArray.size = N := by rw [List.size_toArray, List.length_map, unhide HL4]
        have hts : ts.length = N := by have h1 := hpm.1; rw [hlm, List.size_toArray] at h1; exact h1
        have HFIN : Hid (MkE nx ev s most w (.returned (.tuple #[.slice (some ⟨g, 0, none⟩) N N, .int .i64 0])) w8) := hide (by
          rw [hw8]
          have hrs := row_sortE (n := nn) (os := os) hts (unhide HROW)
          refine ⟨below_row (unhide HBW) (unhide HWG) (grown_sortE _), .inr ⟨g, N, nds', ts, by rw [hts], by rw [hts]; exact hrs, by rw [unhide HL4]; exact unhide HP4, by rw [unhide HL4]; exact hNm, fun a ha => unhide HLA a (by rw [← unhide HN, ← unhide HL4]; exact ha), ?_, unhide HNN, by rw [hlm]; exact hpm, by rw [hlm]; exact hsd⟩⟩
          have hco := unhide HCO
          rw [← unhide HN] at hco
          rw [unhide HL4]
          exact hco)
        clear hpm hsd hw8 hlm hts HROW HBW
        go_wp2
        refine bodyPost_ret (v := .tuple #[.slice (some ⟨g, 0, none⟩) N N, .int .i64 0]) (by simp [results, Tryz.results5, go_sem]) rfl ?_
        exact unhide HFIN
end Go.Proofs.YtbijadnekoeofaaGreatDoor

namespace Go.Proofs.YtbijadnekoeofaaGreatDoor
open Go.RowKit
attribute [local go_sem ↓] Go.wp_at_zero Go.wp_at_succ

set_option maxHeartbeats 1000000 in
set_option maxRecDepth 100000 in
theorem make_no (v0 v1 v2 v3 v4 v5 v6 v7 v8 v9 v10 v11 v12 : Value) (c most : Int) (w : World) (hno : c ≠ 0 ∨ most < 1 ∨ 5000 < most)
    (hCk : ∀ u, Below w.heap.size w u → Calls Tryz.prog 12 #[.agg #[v0, v1, v2, v3, v4, v5, v6, v7, v8, v9, v10, v11, v12]] u fun e w' => e = .returned (.int .i64 c) ∧ Below u.heap.size u w') :
    Calls Tryz.prog 5 #[.agg #[v0, v1, v2, v3, v4, v5, v6, v7, v8, v9, v10, v11, v12], .int .i64 most] w fun e w' => e = .returned (.tuple #[.slice none 0 0, .int .i64 1]) ∧ Below w.heap.size w w' := by
  obtain ⟨w1, hw1⟩ : ∃ w1, w1 = w.alloc (.cells #[v0, v1, v2, v3, v4, v5, v6, v7, v8, v9, v10, v11, v12] 27 (0, 0)) := ⟨_, rfl⟩
  have b1 : Below w.heap.size w w1 := by rw [hw1]; exact (Below.refl _ _).alloc (Nat.le_refl _) _
  have hru1 : isRu w1 w.heap.size v0 v1 v2 v3 v4 v5 v6 v7 v8 v9 v10 v11 v12 := by rw [hw1]; exact heap_alloc_new w _
  have HCK := hide (hCk w1 b1)
  obtain ⟨r0, r1, r2, r3, r4, r5, r6, r7, r8, r9, r10, r11, r12⟩ := hru1.cells
  have HW1 := hide hw1
  have HB1 := hide b1
  clear hw1 b1 hru1 hCk
  by_cases hc : c = 0
  · subst hc
    by_cases h1 : most < 1
    · clear hno
      go_enter Tryz.func5, Tryz.ntmps5
      go_upto_region 1 with fail
      rw [← unhide HW1]
      clear HW1
      go_wp2_with fail
      refine (unhide HCK).mono ?_
      rintro e w2 ⟨rfl, hb2⟩
      have HB2 : Hid (Below w.heap.size w w2) := hide ((unhide HB1).trans (hb2.mono (unhide HB1).size))
      clear hb2 r0 r1 r2 r3 r4 r5 r6 r7 r8 r9 r10 r11 r12 HCK
      go_wp2
      refine bodyPost_ret (v := .tuple #[.slice none 0 0, .int .i64 1]) (by simp [results, Tryz.results5, go_sem]) rfl ?_
      exact ⟨rfl, unhide HB2⟩
    · have h2 : 5000 < most := by rcases hno with h | h | h; exact absurd rfl h; exact absurd h h1; exact h
      clear hno
      go_enter Tryz.func5, Tryz.ntmps5
      go_upto_region 1 with fail
      rw [← unhide HW1]
      clear HW1
      go_wp2_with fail
      refine (unhide HCK).mono ?_
      rintro e w2 ⟨rfl, hb2⟩
      have HB2 : Hid (Below w.heap.size w w2) := hide ((unhide HB1).trans (hb2.mono (unhide HB1).size))
      clear hb2 r0 r1 r2 r3 r4 r5 r6 r7 r8 r9 r10 r11 r12 HCK
      go_wp2
      refine bodyPost_ret (v := .tuple #[.slice none 0 0, .int .i64 1]) (by simp [results, Tryz.results5, go_sem]) rfl ?_
      exact ⟨rfl, unhide HB2⟩
  · have hcb : (c == 0) = false := by simp [hc]
    have hcn : (c != 0) = true := by simp [hc]
    clear hc hno
    go_enter Tryz.func5, Tryz.ntmps5
    go_upto_region 1 with fail
    rw [← unhide HW1]
    clear HW1
    go_wp2_with fail
    refine (unhide HCK).mono ?_
    rintro e w2 ⟨rfl, hb2⟩
    have HB2 : Hid (Below w.heap.size w w2) := hide ((unhide HB1).trans (hb2.mono (unhide HB1).size))
    clear hb2 r0 r1 r2 r3 r4 r5 r6 r7 r8 r9 r10 r11 r12 HCK
    go_wp2
    refine bodyPost_ret (v := .tuple #[.slice none 0 0, .int .i64 1]) (by simp [results, Tryz.results5, go_sem]) rfl ?_
    exact ⟨rfl, unhide HB2⟩
end Go.Proofs.YtbijadnekoeofaaGreatDoor

namespace Go.Proofs.YtbijadnekoeofaaGreatDoor

/-! Insertion. -/
/-- x stands behind k of those that are in order; it is ahead of all that follow. -/
structure InsI {α : Type} (lt : α → α → Prop) (S : List α) (x : α) (rest : List α) (k : Nat) (ts : List α) : Prop where
  ex : ∃ A B, ts = A ++ x :: (B ++ rest) ∧ A ++ B = S ∧ A.length = k ∧ ∀ b ∈ B, lt x b
section
variable {α : Type} {lt : α → α → Prop} {S : List α} {x : α} {rest : List α} {k : Nat} {ts : List α}
theorem InsI.start : InsI lt S x rest S.length (S ++ x :: rest) := ⟨S, [], by simp, by simp, rfl, by simp⟩
theorem InsI.len (h : InsI lt S x rest k ts) : ts.length = S.length + 1 + rest.length ∧ k ≤ S.length := by
  obtain ⟨A, B, rfl, rfl, rfl, -⟩ := h
  simp
  omega
theorem InsI.at_ (h : InsI lt S x rest k ts) : ts[k]? = some x := by
  obtain ⟨A, B, rfl, rfl, rfl, -⟩ := h
  simp
theorem InsI.step (h : InsI lt S x rest (k + 1) ts) {a : α} (ha : ts[k]? = some a) (hlt : lt x a) : InsI lt S x rest k ((ts.set (k + 1) a).set k x) := by
  obtain ⟨A, B, rfl, rfl, hk, hB⟩ := h
  obtain ⟨A', y, rfl⟩ : ∃ A' y, A = A' ++ [y] := by
    rcases List.eq_nil_or_concat A with h | ⟨A', y, h⟩
    · subst h; simp at hk
    · exact ⟨A', y, by rw [h, List.concat_eq_append]⟩
  have hk' : A'.length = k := by simpa using hk
  subst hk'
  have hya : y = a := by
    rw [List.append_assoc, List.getElem?_append_right (Nat.le_refl _), Nat.sub_self] at ha
    simpa using ha
  subst hya
  refine ⟨A', y :: B, ?_, by simp, rfl, ?_⟩
  · rw [List.append_assoc, List.set_append_right _ _ (by omega), List.set_append_right _ _ (Nat.le_refl _)]
    simp
  · intro b hb
    rcases List.mem_cons.1 hb with rfl | hb
    · exact hlt
    · exact hB b hb
/-- It has its place. -/
theorem InsI.fin (h : InsI lt S x rest k ts) (htr : ∀ x y z, lt x y → lt y z → lt x z) (hS : S.Pairwise lt) (hk : k = 0 ∨ ∃ a, ts[k - 1]? = some a ∧ lt a x) : ∃ S', ts = S' ++ rest ∧ S'.Perm (S ++ [x]) ∧ S'.Pairwise lt ∧ S'.length = S.length + 1 := by
  obtain ⟨A, B, rfl, rfl, rfl, hB⟩ := h
  rw [List.pairwise_append] at hS
  obtain ⟨h1, h2, h3⟩ := hS
  have hA : ∀ a ∈ A, lt a x := by
    rcases hk with hk | ⟨y, hy, hlt⟩
    · have : A = [] := List.length_eq_zero_iff.1 hk
      subst this
      simp
    · rcases List.eq_nil_or_concat A with h | ⟨A', z, h⟩
      · subst h; simp
      · subst h
        have hzy : z = y := by
          rw [show (A'.concat z).length - 1 = A'.length by simp, List.concat_eq_append, List.append_assoc, List.getElem?_append_right (Nat.le_refl _), Nat.sub_self] at hy
          simpa using hy
        subst hzy
        intro a ha
        rw [List.concat_eq_append, List.mem_append, List.mem_singleton] at ha
        rcases ha with ha | rfl
        · rw [List.concat_eq_append, List.pairwise_append] at h1
          exact htr _ _ _ (h1.2.2 a ha z (by simp)) hlt
        · exact hlt
  refine ⟨A ++ x :: B, by simp, ?_, ?_, by simp; omega⟩
  · have : (A ++ x :: B).Perm (x :: (A ++ B)) := List.perm_middle
    exact this.trans (List.perm_append_singleton x (A ++ B)).symm
  · rw [List.pairwise_append, List.pairwise_cons]
    refine ⟨h1, ⟨hB, h2⟩, fun a ha b hb => ?_⟩
    rcases List.mem_cons.1 hb with rfl | hb
    · exact hA a ha
    · exact h3 a ha b hb
end

/-! A round while it is gone through. -/
section
variable {N : Nat} {nxt : Nat → List Nat} {v0 : Nat → Nat}
/-- Has anything been found? -/
def fndN (nxt : Nat → List Nat) (A : Nat → Nat × Nat) (d : Nat) : Nat → Bool
  | 0 => false
  | i + 1 => fndN nxt A d i || ((A i).1 == 0 && (rnd nxt A d i).1 != 0)
theorem fnd_no {A : Nat → Nat × Nat} {d : Nat} : ∀ {i : Nat}, fndN nxt A d i = false → ∀ j, j < i → (A j).1 = 0 → (rnd nxt A d j).1 = 0
  | 0, _, j, hj, _ => by omega
  | i + 1, h, j, hj, h0 => by
    simp only [fndN, Bool.or_eq_false_iff, Bool.and_eq_false_iff, beq_eq_false_iff_ne, bne_eq_false_iff_eq] at h
    by_cases hji : j = i
    · subst hji
      rcases h.2 with h2 | h2
      · exact absurd h0 h2
      · exact h2
    · exact fnd_no h.1 j (by omega) h0
/-- How many are not known. -/
def opn (A : Nat → Nat × Nat) : Nat → Nat
  | 0 => 0
  | i + 1 => opn A i + if (A i).1 = 0 then 1 else 0
theorem opn_le (A : Nat → Nat × Nat) : ∀ i, opn A i ≤ i
  | 0 => Nat.le_refl _
  | i + 1 => by
    have := opn_le A i
    unfold opn
    split <;> omega
theorem opn_rnd {A : Nat → Nat × Nat} {d : Nat} : ∀ i, opn (rnd nxt A d) i + (if fndN nxt A d i = true then 1 else 0) ≤ opn A i
  | 0 => by simp [opn, fndN]
  | i + 1 => by
    have ih := opn_rnd (A := A) (d := d) i
    have hk : (A i).1 ≠ 0 → rnd nxt A d i = A i := fun h => by unfold rnd; rw [if_pos h]
    unfold opn fndN
    by_cases h0 : (A i).1 = 0
    · by_cases h1 : (rnd nxt A d i).1 = 0
      · simp [h0, h1] at *
        omega
      · have hb : ((A i).1 == 0 && (rnd nxt A d i).1 != 0) = true := by simp [h0, h1]
        rw [hb, Bool.or_true, if_pos rfl, if_neg h1, if_pos h0]
        split at ih <;> omega
    · have h1 : ¬ (rnd nxt A d i).1 = 0 := by rw [hk h0]; exact h0
      have hb : ((A i).1 == 0 && (rnd nxt A d i).1 != 0) = false := by simp [h0]
      rw [hb, Bool.or_false, if_neg h1, if_neg h0]
      omega
/-- Nothing was found: another round finds nothing. -/
theorem rds_still {d : Nat} (h : fndN nxt (rds nxt v0 d) (d + 1) N = false) : ∀ i, i < N → rds nxt v0 (d + 1) i = rds nxt v0 d i := by
  intro i hi
  by_cases h0 : (rds nxt v0 d i).1 = 0
  · have h1 : (rds nxt v0 (d + 1) i).1 = 0 := fnd_no h i hi h0
    rw [rds_zero h0, rds_zero h1]
  · exact rds_keep h0
end
end Go.Proofs.YtbijadnekoeofaaGreatDoor
