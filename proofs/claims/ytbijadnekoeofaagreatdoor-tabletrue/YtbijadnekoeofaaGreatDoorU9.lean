/-
  gamekeep.TableTrue, walked.
-/
import Derived.Test.YtbijadnekoeofaaGreatDoorJ41
import Derived.Test.YtbijadnekoeofaaGreatDoorJ36
namespace Go.Proofs.YtbijadnekoeofaaGreatDoor
open Go.RowKit
attribute [local go_sem ↓] Go.wp_at_zero Go.wp_at_succ

theorem cutForW (R : World → Prop) {T : World → Prop} {G : Prop} (k : Hid (∀ v, R v → T v) → G) (p : ∀ v, R v → T v) : G := k (hide p)
theorem cutForM (R : Option Addr → Nat → World → Prop) {T : Option Addr → Nat → World → Prop} {G : Prop} (k : Hid (∀ a c v, R a c v → T a c v) → G) (p : ∀ a c v, R a c v → T a c v) : G := k (hide p)

set_option maxHeartbeats 8000000 in
set_option maxRecDepth 100000 in
theorem tableTrue_walk (nx : Po → List Po) (ev : Po → Int) (ok : Po → Prop) (L : Po → List Mv) (beh : Po → Mv → Po) (o : Po → Int) (s : Po) (v6 v7 v8 v9 v10 v11 v12 : Value) (most : Int) (w : World) (hpk : ∀ p, ok p → p.ok) (hTT : ∀ p, ok p → p.T = 0 ∨ p.T = 1) (hnx : ∀ p, ok p → nx p = (L p).map (beh p)) (hlen : ∀ p, ok p → (L p).length ≤ 4608) (hend : ∀ p, ok p → (nx p = [] → o p ≠ 0) ∧ (nx p ≠ [] → o p = 0) ∧ (nx p = [] → ev p = endW (o p) p.T) ∧ (ev p ≠ 3 → nx p = [] → o p ≠ 3))
    (hMk : ∀ u, Below w.heap.size w u → Calls Tryz.prog 5 #[.agg #[.int .i64 s.W, .int .i64 s.H, .string s.C, .int .i64 s.T, .string s.A, .string s.B, v6, v7, v8, v9, v10, v11, v12], .int .i64 most] u (EnP (fun c ts => (c ≠ 0 ∧ ts = []) ∨ (c = 0 ∧ (∃ V, Tab nx ev s ts V) ∧ ∀ p ∈ ts.map (fun x => x.1), ok p)) u))
    (hBe : ∀ (lo : Option Addr) (ln lc bl : Nat) (ts : List (Po × Int × Int)) (v : World), Below w.heap.size w v → v.ownsRow bl 34 8 (.slice lo ln lc) ts.length (evs ts) → ts.length ≤ 5000 → (∀ x ∈ ts, x.1.ok) → (∀ x ∈ ts, 0 ≤ x.2.2 ∧ x.2.2 ≤ 5000) → ∀ p, ok p → (∃ m ∈ L p, (fun m => leadsB (gS ((L p).map (beh p) ++ [p]) ts p) (gS ((L p).map (beh p) ++ [p]) ts (beh p m))) m = true) → ∀ u, Below v.heap.size v u → Calls Tryz.prog 28 #[.agg #[.int .i64 s.W, .int .i64 s.H, .string s.C, .int .i64 s.T, .string s.A, .string s.B, v6, v7, v8, v9, v10, v11, v12], .slice lo ln lc, .agg #[.int .i64 p.W, .int .i64 p.H, .string p.C, .int .i64 p.T, .string p.A, .string p.B]] u (BeE (L p) (fun m => leadsB (gS ((L p).map (beh p) ++ [p]) ts p) (gS ((L p).map (beh p) ++ [p]) ts (beh p m))) u))
    (hMv : ∀ p, ok p → ∀ u, Below w.heap.size w u → Calls Tryz.prog 9 #[.agg #[.int .i64 s.W, .int .i64 s.H, .string s.C, .int .i64 s.T, .string s.A, .string s.B, v6, v7, v8, v9, v10, v11, v12], .agg #[.int .i64 p.W, .int .i64 p.H, .string p.C, .int .i64 p.T, .string p.A, .string p.B]] u fun e w' => ∃ v, e = .returned (.tuple #[v, .int .i64 0]) ∧ w'.ownsRow u.heap.size 45 3 v (L p).length (mvals (L p)) ∧ Below u.heap.size u w')
    (hAp : ∀ p, ok p → ∀ m ∈ L p, ∀ u, Below w.heap.size w u → Calls Tryz.prog 10 #[.agg #[.int .i64 s.W, .int .i64 s.H, .string s.C, .int .i64 s.T, .string s.A, .string s.B, v6, v7, v8, v9, v10, v11, v12], .agg #[.int .i64 p.W, .int .i64 p.H, .string p.C, .int .i64 p.T, .string p.A, .string p.B], .agg #[.int .i64 m.f, .int .i64 (m.t : Int), .int .u8 (m.c : Int)]] u fun e w' => e = .returned (.tuple #[.agg #[.int .i64 (beh p m).W, .int .i64 (beh p m).H, .string (beh p m).C, .int .i64 (beh p m).T, .string (beh p m).A, .string (beh p m).B], .int .i64 0]) ∧ Below u.heap.size u w')
    (hO : ∀ p, ok p → ∀ u, Below w.heap.size w u → Calls Tryz.prog 8 #[.agg #[.int .i64 s.W, .int .i64 s.H, .string s.C, .int .i64 s.T, .string s.A, .string s.B, v6, v7, v8, v9, v10, v11, v12], .agg #[.int .i64 p.W, .int .i64 p.H, .string p.C, .int .i64 p.T, .string p.A, .string p.B]] u fun e w' => e = .returned (.tuple #[.int .i64 (o p), .int .i64 0]) ∧ Below u.heap.size u w') :
    Calls Tryz.prog 4 #[.agg #[.int .i64 s.W, .int .i64 s.H, .string s.C, .int .i64 s.T, .string s.A, .string s.B, v6, v7, v8, v9, v10, v11, v12], .int .i64 most] w fun e w' => e = .returned (.bool true) ∧ Below w.heap.size w w' := by
  obtain ⟨w1, hw1⟩ : ∃ w1, w1 = w.alloc (.cells #[.int .i64 s.W, .int .i64 s.H, .string s.C, .int .i64 s.T, .string s.A, .string s.B, v6, v7, v8, v9, v10, v11, v12] 27 (0, 0)) := ⟨_, rfl⟩
  have b1 : Below w.heap.size w w1 := by rw [hw1]; exact (Below.refl _ _).alloc (Nat.le_refl _) _
  have s1 : w1.heap.size = w.heap.size + 1 := by rw [hw1]; simp
  have hru1 : isRu w1 w.heap.size (.int .i64 s.W) (.int .i64 s.H) (.string s.C) (.int .i64 s.T) (.string s.A) (.string s.B) (v6) (v7) (v8) (v9) (v10) (v11) (v12) := by rw [hw1]; exact heap_alloc_new w _
  have HMK := hide (hMk w1 b1)
  have HRU1 : Hid (∀ u, Below w1.heap.size w1 u → isRu u w.heap.size (.int .i64 s.W) (.int .i64 s.H) (.string s.C) (.int .i64 s.T) (.string s.A) (.string s.B) (v6) (v7) (v8) (v9) (v10) (v11) (v12) ∧ Below w.heap.size w u) := hide (fun u hu => ⟨hru1.below hu (by omega), b1.trans (hu.mono (by omega))⟩)
  obtain ⟨r0, r1, r2, r3, r4, r5, r6, r7, r8, r9, r10, r11, r12⟩ := hru1.cells
  have HW1 := hide hw1
  have HPK := hide hpk
  have HTT := hide hTT
  have HNX := hide hnx
  have HLEN := hide hlen
  have HEND := hide hend
  have HBE := hide hBe
  have HMV := hide hMv
  have HAP := hide hAp
  have HO := hide hO
  clear hw1 b1 s1 hru1 hMk hBe hMv hAp hO hpk hTT hnx hlen hend
  go_enter Tryz.func4, Tryz.ntmps4
  go_upto_region 1 with fail
  rw [← unhide HW1]
  clear HW1
  go_wp2_with fail
  refine (unhide HMK).mono ?_
  rintro e w2 ⟨⟨va, c, ts, rfl, hrow, hP⟩, hb2⟩
  clear r0 r1 r2 r3 r4 r5 r6 r7 r8 r9 r10 r11 r12 HMK
  obtain ⟨lo, lc, rfl⟩ := row_lenT hrow
  rcases hP with ⟨hc, rfl⟩ | ⟨rfl, ⟨V, hT⟩, hpok⟩
  · have hcb : (c != 0) = true := by simp [hc]
    have HBW := hide (unhide HRU1 w2 hb2).2
    rw [List.length_nil]
    clear hc hrow hb2
    go_wp2
    go_ret
    exact ⟨rfl, unhide HBW⟩
  · obtain ⟨n, hn⟩ : ∃ n, n = ts.length := ⟨_, rfl⟩
    have hn5 : n ≤ 5000 ∧ 0 < n := by rw [hn]; exact hT.len
    obtain ⟨gl, rfl, hlc1, hlc2, hgl, hcs⟩ : ∃ gl, lo = some ⟨gl, 0, none⟩ ∧ ts.length ≤ lc ∧ lc ≤ 9223372036854775807 ∧ (w1.heap.size ≤ gl ∧ gl < w2.heap.size) ∧ ∀ (k : Nat) (x : Po × Int × Int), ts[k]? = some x → ∀ j, j < 8 → ∀ u : World, u.heap[gl]? = w2.heap[gl]? → u.cell? ⟨gl, k * 8 + j, none⟩ = (encE x)[j]? := by
      rcases hrow.2 with ⟨_, h0⟩ | ⟨g, cap, cur, e1, hb1, hg, h1, h2, -⟩
      · omega
      · rw [e1] at hrow
        simp only [Value.slice.injEq, true_and] at e1
        obtain ⟨e1, rfl⟩ := e1
        unfold maxLen at h2
        refine ⟨g, e1, h1, h2, ⟨hb1, (Array.getElem?_eq_some_iff.1 hg).1⟩, fun k x hx j hj u hu => ?_⟩
        have hk := (List.getElem?_eq_some_iff.1 hx).1
        rw [World.cell?_of_block (a := ⟨g, k * 8 + j, none⟩) hu, hrow.cellAt (k * 8 + j) (by omega)]
        exact fm_at (f := encE) (c := 8) (fun _ => rfl) ts k j x hx hj
    rw [← hn] at hlc1
    obtain ⟨w3, hw3⟩ : ∃ w3, w3 = w2.alloc (.map #[] 0) := ⟨_, rfl⟩
    obtain ⟨b, hb⟩ : ∃ b, b = w2.heap.size := ⟨_, rfl⟩
    have hb3 : Below w2.heap.size w2 w3 := by rw [hw3]; exact (Below.refl _ _).alloc (Nat.le_refl _) _
    have HNM0 : Hid (numM w3 b ((ts.take 0).map (fun x => x.1)) 1) := hide (by rw [hw3, hb]; exact numM_made w2 1)
    have HG0 : Hid (w3.grownBy w3 (some b)) := hide ⟨rfl, rfl, rfl, Nat.le_refl _, fun _ _ _ => rfl⟩
    have HLOW : Hid (∀ u, w3.grownBy u (some b) → Below w2.heap.size w2 u) := hide (fun u hu => ⟨hu.os.trans hb3.os, hu.tape.trans hb3.tape, hu.output.trans hb3.output, Nat.le_trans hb3.size hu.size, fun k hk => (hu.block k (Nat.lt_of_lt_of_le hk hb3.size) (by simp; omega)).trans (hb3.block k hk)⟩)
    have hmm := @run_makeMap Tryz.prog
    have HB2 := hide hb2
    have HT := hide hT
    have HPOK := hide hpok
    have HN := hide hn
    have HCS := hide hcs
    have HGL := hide hgl
    have HW3 := hide hw3
    have HBD := hide hb
    have HROW := hide hrow
    rw [← hn]
    clear hb2 hT hpok hn hcs hgl hw3 hb hb3 hrow
    go_upto_region 5 with fail
    rw [← unhide HW3, ← unhide HBD]
    clear HW3 hmm
    go_wp2
    go_loopw [38] (fun iv wr => ∃ k : Nat, k ≤ n ∧ iv = .int .i64 (k : Int) ∧ Hid (numM wr b ((ts.take k).map (fun x => x.1)) 1) ∧ Hid (w3.grownBy wr (some b))) (fun iv _ => n - (intOf iv).toNat)
    case atStart => exact ⟨0, Nat.zero_le _, rfl, HNM0, HG0⟩
    case round =>
      obtain ⟨k, hk, rfl, HNM, HGR⟩ := hrel
      rename World => wa
      clear HNM0 HG0
      by_cases hlt : k < n
      · have hlti : (k : Int) < (n : Int) := by omega
        have hk0 : (0 : Int) ≤ (k : Int) := by omega
        obtain ⟨x, hx⟩ : ∃ x, ts[k]? = some x := ⟨_, List.getElem?_eq_getElem (by rw [← unhide HN]; exact hlt)⟩
        have hbl := unhide HLOW wa (unhide HGR)
        have hyy := fun j hj => unhide HCS k x hx j hj wa (hbl.block gl (unhide HGL).2)
        have e0 := hyy 0 (by omega)
        have e1 := hyy 1 (by omega)
        have e2 := hyy 2 (by omega)
        have e3 := hyy 3 (by omega)
        have e4 := hyy 4 (by omega)
        have e5 := hyy 5 (by omega)
        rw [Nat.add_zero] at e0
        simp only [encE, List.getElem?_cons_zero, List.getElem?_cons_succ] at e0 e1 e2 e3 e4 e5
        obtain ⟨p, pv, pd⟩ := x
        simp only at e0 e1 e2 e3 e4 e5
        have hpin : p ∈ ts.map (fun x => x.1) := List.mem_map.2 ⟨(p, pv, pd), List.mem_of_getElem? hx, rfl⟩
        have hpp : p.ok := unhide HPK p (unhide HPOK p hpin)
        have hll : ((ts.take k).map (fun x => x.1)).length = k := by rw [List.length_map, List.length_take, ← unhide HN]; omega
        have htk : (ts.take (k + 1)).map (fun x => x.1) = (ts.take k).map (fun x => x.1) ++ [p] := by rw [List.take_add_one, hx, Option.toList_some, List.map_append]; rfl
        have hni : p ∉ (ts.take k).map (fun x => x.1) := fun hin => by
          obtain ⟨j, hj⟩ := List.getElem?_of_mem hin
          have hjk : j < k := by have := (List.getElem?_eq_some_iff.1 hj).1; omega
          rw [List.getElem?_map, List.getElem?_take_of_lt hjk, ← List.getElem?_map] at hj
          have h1 := idx_of (unhide HT).nd hj
          have h2 : (ts.map (fun x => x.1))[k]? = some p := by rw [List.getElem?_map, hx]; rfl
          have h3 := idx_of (unhide HT).nd h2
          omega
        obtain ⟨w5, hrun, hnm5, hg5⟩ := (unhide HNM).put (by rw [hll]; omega) hpp hni
        rw [hll] at hrun
        rw [← htk] at hnm5
        obtain ⟨k1, hk1⟩ : ∃ k1, k1 = k + 1 := ⟨_, rfl⟩
        rw [← hk1] at hrun
        have hk1e : (k : Int) + 1 = (k1 : Int) := by omega
        have wk1 : IntKind.i64.wrap (k1 : Int) = (k1 : Int) := by unfold IntKind.wrap; simp [IntKind.signed, IntKind.bits]; omega
        have HN5 := hide hnm5
        have HG5 := hide ((unhide HGR).andThen hg5 (fun j hj => .inr hj))
        have hk1n : k1 ≤ n := by omega
        have HK1 := hide hk1
        rw [← hk1] at HN5
        clear hx hbl hyy hpin hpp hll htk hni hnm5 hg5 hk1 HNM HGR
        go_wp2
        go_roundw
        case rel => exact ⟨k1, hk1n, by go_num, HN5, HG5⟩
        case measure => simp only [intOf]; have := unhide HK1; omega
      · have hlti : ¬ (k : Int) < (n : Int) := by omega
        have htk : ts.take k = ts := List.take_of_length_le (by rw [← unhide HN]; omega)
        have hnm := unhide HNM
        rw [htk] at hnm
        obtain ⟨wB, hwB⟩ : ∃ wB, wB = wa := ⟨_, rfl⟩
        subst hwB
        have hbl := unhide HLOW wB (unhide HGR)
        have HFR : Hid (∀ u, Below wB.heap.size wB u → isRu u w.heap.size (.int .i64 s.W) (.int .i64 s.H) (.string s.C) (.int .i64 s.T) (.string s.A) (.string s.B) (v6) (v7) (v8) (v9) (v10) (v11) (v12) ∧ numM u b (ts.map (fun x => x.1)) 1 ∧ (∀ (k : Nat) (x : Po × Int × Int), ts[k]? = some x → ∀ j, j < 8 → u.cell? ⟨gl, k * 8 + j, none⟩ = (encE x)[j]?) ∧ Below w.heap.size w u) := hide (fun u hu => by
          have h2u : Below w2.heap.size w2 u := hbl.trans (hu.mono hbl.size)
          have h1u : Below w1.heap.size w1 u := (unhide HB2).trans (h2u.mono (unhide HB2).size)
          obtain ⟨hr, hw⟩ := unhide HRU1 u h1u
          exact ⟨hr, hnm.of_block (hu.block b hnm.lt), fun k x hx j hj => unhide HCS k x hx j hj u (h2u.block gl (unhide HGL).2), hw⟩)
        have HENDS : Hid (∀ u, Below wB.heap.size wB u → Calls Tryz.prog 11 #[.agg #[.int .i64 s.W, .int .i64 s.H, .string s.C, .int .i64 s.T, .string s.A, .string s.B, v6, v7, v8, v9, v10, v11, v12], .slice (some ⟨gl, 0, none⟩) n lc] u fun e w' => e = .returned (.bool true) ∧ Below u.heap.size u w') := hide (fun u hu => by
          have h2u : Below w2.heap.size w2 u := hbl.trans (hu.mono hbl.size)
          have hwu := (unhide HFR u hu).2.2.2
          have hrow := unhide HROW
          rw [← unhide HN] at hrow
          have hrw : u.ownsRow w1.heap.size 34 8 (.slice (some ⟨gl, 0, none⟩) n lc) ts.length (evs ts) := by rw [← unhide HN]; exact row_same hrow (fun g hg => h2u.block g (row_block hrow hg).2)
          have htok : ∀ x ∈ ts, x.1.ok := fun x hx => unhide HPK x.1 (unhide HPOK x.1 (List.mem_map.2 ⟨x, hx, rfl⟩))
          have htb : ∀ x ∈ ts, 0 ≤ x.2.2 ∧ x.2.2 ≤ 5000 := fun x hx => by
            have h1 := (unhide HT).bd x.1 (List.mem_map.2 ⟨x, hx, rfl⟩)
            rw [(unhide HT).val x hx]
            omega
          exact ends_walk nx ev ok L beh o s v6 v7 v8 v9 v10 v11 v12 (some ⟨gl, 0, none⟩) n lc w1.heap.size ts V u hrw (unhide HT) (unhide HPOK) (unhide HNX) (fun p hp hn => ⟨(unhide HEND p hp).1 hn, fun he => (unhide HEND p hp).2.2.2 he hn⟩)
            (fun p hp hex v hv => unhide HBE (some ⟨gl, 0, none⟩) n lc w1.heap.size ts u hwu hrw (unhide HT).len.1 htok htb p hp hex v hv)
            (fun p hp m hm v hv => unhide HAP p hp m hm v (hwu.trans (hv.mono hwu.size)))
            (fun p hp v hv => unhide HO p hp v (hwu.trans (hv.mono hwu.size))))
        obtain ⟨hruB, hnmB, -, -⟩ := unhide HFR wB (Below.refl _ _)
        obtain ⟨r0, r1, r2, r3, r4, r5, r6, r7, r8, r9, r10, r11, r12⟩ := hruB.cells
        have hsok : s.ok := unhide HPK s (unhide HPOK s (unhide HT).st)
        have hlk := hnmB.look_all hsok wB rfl
        rw [if_pos (unhide HT).st] at hlk
        obtain ⟨j1, hj1⟩ : ∃ j1, j1 = (ts.map (fun x => x.1)).idxOf s + 1 := ⟨_, rfl⟩
        rw [← hj1] at hlk
        have hjz : ((j1 : Int) == 0) = false := by simp; omega
        clear hj1 hsok hruB hnmB hbl hnm htk HNM HGR HROW HLOW
        go_wp2
        go_loopw [57] (fun iv wr => ∃ i : Nat, i ≤ n ∧ iv = .int .i64 (i : Int) ∧ Hid (Below wB.heap.size wB wr)) (fun iv _ => n - (intOf iv).toNat)
        case atStart => exact ⟨0, Nat.zero_le _, rfl, hide (Below.refl _ _)⟩
        case round =>
          obtain ⟨i, hi, rfl, HBR⟩ := hrel
          rename World => wr
          by_cases hlt : i < n
          · have hlti : (i : Int) < (n : Int) := by omega
            have hi0 : (0 : Int) ≤ (i : Int) := by omega
            obtain ⟨x, hx⟩ : ∃ x, ts[i]? = some x := ⟨_, List.getElem?_eq_getElem (by rw [← unhide HN]; exact hlt)⟩
            obtain ⟨p, pv, pd⟩ := x
            have hpin : p ∈ ts.map (fun x => x.1) := List.mem_map.2 ⟨(p, pv, pd), List.mem_of_getElem? hx, rfl⟩
            have hval := (unhide HT).val _ (List.mem_of_getElem? hx)
            simp only at hval
            have HPV : Hid (pv = (V p).1) := hide (by rw [← hval])
            have HPD : Hid (pd = (V p).2) := hide (by rw [← hval])
            have hokp := unhide HPOK p hpin
            have hHS : ∀ u, Below wr.heap.size wr u → (u.cell? ⟨w.heap.size, 0, none⟩ = some (.int .i64 s.W) ∧ u.cell? ⟨w.heap.size, 1, none⟩ = some (.int .i64 s.H) ∧ u.cell? ⟨w.heap.size, 2, none⟩ = some (.string s.C) ∧ u.cell? ⟨w.heap.size, 3, none⟩ = some (.int .i64 s.T) ∧ u.cell? ⟨w.heap.size, 4, none⟩ = some (.string s.A) ∧ u.cell? ⟨w.heap.size, 5, none⟩ = some (.string s.B) ∧ u.cell? ⟨w.heap.size, 6, none⟩ = some (v6) ∧ u.cell? ⟨w.heap.size, 7, none⟩ = some (v7) ∧ u.cell? ⟨w.heap.size, 8, none⟩ = some (v8) ∧ u.cell? ⟨w.heap.size, 9, none⟩ = some (v9) ∧ u.cell? ⟨w.heap.size, 10, none⟩ = some (v10) ∧ u.cell? ⟨w.heap.size, 11, none⟩ = some (v11) ∧ u.cell? ⟨w.heap.size, 12, none⟩ = some (v12) ∧ u.cell? ⟨gl, i * 8, none⟩ = some (.int .i64 p.W) ∧ u.cell? ⟨gl, i * 8 + 1, none⟩ = some (.int .i64 p.H) ∧ u.cell? ⟨gl, i * 8 + 2, none⟩ = some (.string p.C) ∧ u.cell? ⟨gl, i * 8 + 3, none⟩ = some (.int .i64 p.T) ∧ u.cell? ⟨gl, i * 8 + 4, none⟩ = some (.string p.A) ∧ u.cell? ⟨gl, i * 8 + 5, none⟩ = some (.string p.B) ∧ Below wr.heap.size wr u) := fun u hu => by
              obtain ⟨hru, -, hcl, -⟩ := unhide HFR u ((unhide HBR).trans (hu.mono (unhide HBR).size))
              obtain ⟨x0, x1, x2, x3, x4, x5, x6, x7, x8, x9, x10, x11, x12⟩ := hru.cells
              have y := hcl i _ hx
              exact ⟨x0, x1, x2, x3, x4, x5, x6, x7, x8, x9, x10, x11, x12, y 0 (by omega), y 1 (by omega), y 2 (by omega), y 3 (by omega), y 4 (by omega), y 5 (by omega), hu⟩
            have HS15 := hide hHS
            have HOC := hide (fun u (hu : Below wr.heap.size wr u) => unhide HO p hokp u (unhide HFR u ((unhide HBR).trans (hu.mono (unhide HBR).size))).2.2.2)
            obtain ⟨op, hop⟩ : ∃ op, op = o p := ⟨_, rfl⟩
            rw [← hop] at HOC
            have HOP := hide hop
            have HB0 : Hid (Below wr.heap.size wr wr.drew) := hide (Below.refl _ _).drew
            have HXI := hide hx
            have HPIN := hide hpin
            have HOKP := hide hokp
            clear hx hpin hval hokp hHS hop
            go_upto_region 15 with fail
            apply cutForW (fun v => Below wr.heap.size wr v)
            case k =>
              intro key
              go_region_held3 (fun u => u.cell? ⟨w.heap.size, 0, none⟩ = some (.int .i64 s.W) ∧ u.cell? ⟨w.heap.size, 1, none⟩ = some (.int .i64 s.H) ∧ u.cell? ⟨w.heap.size, 2, none⟩ = some (.string s.C) ∧ u.cell? ⟨w.heap.size, 3, none⟩ = some (.int .i64 s.T) ∧ u.cell? ⟨w.heap.size, 4, none⟩ = some (.string s.A) ∧ u.cell? ⟨w.heap.size, 5, none⟩ = some (.string s.B) ∧ u.cell? ⟨w.heap.size, 6, none⟩ = some (v6) ∧ u.cell? ⟨w.heap.size, 7, none⟩ = some (v7) ∧ u.cell? ⟨w.heap.size, 8, none⟩ = some (v8) ∧ u.cell? ⟨w.heap.size, 9, none⟩ = some (v9) ∧ u.cell? ⟨w.heap.size, 10, none⟩ = some (v10) ∧ u.cell? ⟨w.heap.size, 11, none⟩ = some (v11) ∧ u.cell? ⟨w.heap.size, 12, none⟩ = some (v12) ∧ u.cell? ⟨gl, i * 8, none⟩ = some (.int .i64 p.W) ∧ u.cell? ⟨gl, i * 8 + 1, none⟩ = some (.int .i64 p.H) ∧ u.cell? ⟨gl, i * 8 + 2, none⟩ = some (.string p.C) ∧ u.cell? ⟨gl, i * 8 + 3, none⟩ = some (.int .i64 p.T) ∧ u.cell? ⟨gl, i * 8 + 4, none⟩ = some (.string p.A) ∧ u.cell? ⟨gl, i * 8 + 5, none⟩ = some (.string p.B) ∧ Below wr.heap.size wr u)
                (first
                  | with_reducible exact unhide HS15 _ (unhide HB0)
                  | with_reducible exact unhide HS15 _ (unhide HX))
                (first
                  | (go_at_call 8; (with_reducible refine (unhide HOC _ (unhide HB0)).mono ?_); rintro e wx ⟨rfl, hbx⟩
                     have HX : Hid (Below wr.heap.size wr wx) := hide ((unhide HB0).trans (hbx.mono (unhide HB0).size))
                     clear hbx))
              all_goals exact unhide key wx (unhide HX)
            rintro wo hbo
            have HX : Hid (Below wr.heap.size wr wo) := hide hbo
            clear hbo
            have hbBo : Below wB.heap.size wB wo := (unhide HBR).trans ((unhide HX).mono (unhide HBR).size)
            have hHS2 : ∀ u, Below wo.heap.size wo u → (u.cell? ⟨w.heap.size, 0, none⟩ = some (.int .i64 s.W) ∧ u.cell? ⟨w.heap.size, 1, none⟩ = some (.int .i64 s.H) ∧ u.cell? ⟨w.heap.size, 2, none⟩ = some (.string s.C) ∧ u.cell? ⟨w.heap.size, 3, none⟩ = some (.int .i64 s.T) ∧ u.cell? ⟨w.heap.size, 4, none⟩ = some (.string s.A) ∧ u.cell? ⟨w.heap.size, 5, none⟩ = some (.string s.B) ∧ u.cell? ⟨w.heap.size, 6, none⟩ = some (v6) ∧ u.cell? ⟨w.heap.size, 7, none⟩ = some (v7) ∧ u.cell? ⟨w.heap.size, 8, none⟩ = some (v8) ∧ u.cell? ⟨w.heap.size, 9, none⟩ = some (v9) ∧ u.cell? ⟨w.heap.size, 10, none⟩ = some (v10) ∧ u.cell? ⟨w.heap.size, 11, none⟩ = some (v11) ∧ u.cell? ⟨w.heap.size, 12, none⟩ = some (v12) ∧ u.cell? ⟨gl, i * 8, none⟩ = some (.int .i64 p.W) ∧ u.cell? ⟨gl, i * 8 + 1, none⟩ = some (.int .i64 p.H) ∧ u.cell? ⟨gl, i * 8 + 2, none⟩ = some (.string p.C) ∧ u.cell? ⟨gl, i * 8 + 3, none⟩ = some (.int .i64 p.T) ∧ u.cell? ⟨gl, i * 8 + 4, none⟩ = some (.string p.A) ∧ u.cell? ⟨gl, i * 8 + 5, none⟩ = some (.string p.B) ∧ Below wo.heap.size wo u) := fun u hu => by
              obtain ⟨hru, -, hcl, -⟩ := unhide HFR u (hbBo.trans (hu.mono hbBo.size))
              obtain ⟨x0, x1, x2, x3, x4, x5, x6, x7, x8, x9, x10, x11, x12⟩ := hru.cells
              have y := hcl i _ (unhide HXI)
              exact ⟨x0, x1, x2, x3, x4, x5, x6, x7, x8, x9, x10, x11, x12, y 0 (by omega), y 1 (by omega), y 2 (by omega), y 3 (by omega), y 4 (by omega), y 5 (by omega), hu⟩
            have HS16 := hide hHS2
            have HMV1 := hide (fun u (hu : Below wo.heap.size wo u) => unhide HMV p (unhide HOKP) u (unhide HFR u (hbBo.trans (hu.mono hbBo.size))).2.2.2)
            have HB1 : Hid (Below wo.heap.size wo wo.drew) := hide (Below.refl _ _).drew
            have HBBO := hide hbBo
            clear hHS2 hbBo HS15 HOC HB0 HX HBR
            go_upto_region 16 with fail
            obtain ⟨M, hM⟩ : ∃ M, M = (L p).length := ⟨_, rfl⟩
            rw [← hM] at HMV1
            have HM := hide hM
            clear hM
            apply cutForM (fun mo mc v => Below wo.heap.size wo v ∧ M ≤ mc ∧ mc ≤ 9223372036854775807 ∧ ∀ (j : Nat) (m : Mv), (L p)[j]? = some m → ∃ g, mo = some ⟨g, 0, none⟩ ∧ wo.heap.size ≤ g ∧ g < v.heap.size ∧ ∀ u : World, u.heap[g]? = v.heap[g]? → u.cell? ⟨g, j * 3, none⟩ = some (.int .i64 m.f) ∧ u.cell? ⟨g, j * 3 + 1, none⟩ = some (.int .i64 (m.t : Int)) ∧ u.cell? ⟨g, j * 3 + 2, none⟩ = some (.int .u8 (m.c : Int)))
            case k =>
              intro key
              go_region_held3 (fun u => u.cell? ⟨w.heap.size, 0, none⟩ = some (.int .i64 s.W) ∧ u.cell? ⟨w.heap.size, 1, none⟩ = some (.int .i64 s.H) ∧ u.cell? ⟨w.heap.size, 2, none⟩ = some (.string s.C) ∧ u.cell? ⟨w.heap.size, 3, none⟩ = some (.int .i64 s.T) ∧ u.cell? ⟨w.heap.size, 4, none⟩ = some (.string s.A) ∧ u.cell? ⟨w.heap.size, 5, none⟩ = some (.string s.B) ∧ u.cell? ⟨w.heap.size, 6, none⟩ = some (v6) ∧ u.cell? ⟨w.heap.size, 7, none⟩ = some (v7) ∧ u.cell? ⟨w.heap.size, 8, none⟩ = some (v8) ∧ u.cell? ⟨w.heap.size, 9, none⟩ = some (v9) ∧ u.cell? ⟨w.heap.size, 10, none⟩ = some (v10) ∧ u.cell? ⟨w.heap.size, 11, none⟩ = some (v11) ∧ u.cell? ⟨w.heap.size, 12, none⟩ = some (v12) ∧ u.cell? ⟨gl, i * 8, none⟩ = some (.int .i64 p.W) ∧ u.cell? ⟨gl, i * 8 + 1, none⟩ = some (.int .i64 p.H) ∧ u.cell? ⟨gl, i * 8 + 2, none⟩ = some (.string p.C) ∧ u.cell? ⟨gl, i * 8 + 3, none⟩ = some (.int .i64 p.T) ∧ u.cell? ⟨gl, i * 8 + 4, none⟩ = some (.string p.A) ∧ u.cell? ⟨gl, i * 8 + 5, none⟩ = some (.string p.B) ∧ Below wo.heap.size wo u)
                (first
                  | with_reducible exact unhide HS16 _ (unhide HB1)
                  | with_reducible exact unhide HS16 _ (unhide HX2))
                (first
                  | (go_at_call 9; (with_reducible refine (unhide HMV1 _ (unhide HB1)).mono ?_); rintro e wx ⟨mv, rfl, hmrow, hb7⟩
                     have HX2 : Hid (Below wo.heap.size wo wx) := hide ((unhide HB1).trans (hb7.mono (unhide HB1).size))
                     obtain ⟨mo, mc, rfl, hmn, hmx, hmcs⟩ := row_movT hmrow
                     unfold maxLen at hmx
                     have HMC0 := hide hmcs
                     clear hb7 hmrow hmcs))
              all_goals exact unhide key mo mc wx ⟨unhide HX2, hmn, hmx, unhide HMC0⟩
            rintro mo mc wm ⟨hbm, hmn, hmx, hmcs⟩
            have HX2 : Hid (Below wo.heap.size wo wm) := hide hbm
            have HMC0 := hide hmcs
            clear hbm hmcs
            have hbBm : Below wB.heap.size wB wm := (unhide HBBO).trans ((unhide HX2).mono (unhide HBBO).size)
            have hclm := (unhide HFR wm hbBm).2.2.1 i _ (unhide HXI)
            have pc3 := hclm 3 (by omega)
            have c6 := hclm 6 (by omega)
            have c7 := hclm 7 (by omega)
            simp only [encE, List.getElem?_cons_zero, List.getElem?_cons_succ] at pc3 c6 c7
            have hnxp := unhide HNX p (unhide HOKP)
            by_cases ho : op = 0
            · have hob : (op != 0) = false := by simp [ho]
              have HNE : Hid (nx p ≠ []) := hide (fun e => (unhide HEND p (unhide HOKP)).1 e (by rw [← unhide HOP]; exact ho))
              have HNXP := hide hnxp
              have HBBM := hide hbBm
              have hM46 : M ≤ 4608 := by rw [unhide HM]; exact unhide HLEN p (unhide HOKP)
              have HMC : Hid (∀ (j : Nat) (m : Mv), (L p)[j]? = some m → ∃ g, mo = some ⟨g, 0, none⟩ ∧ wo.heap.size ≤ g ∧ g < wm.heap.size ∧ ∀ u : World, u.heap[g]? = wm.heap[g]? → u.cell? ⟨g, j * 3, none⟩ = some (.int .i64 m.f) ∧ u.cell? ⟨g, j * 3 + 1, none⟩ = some (.int .i64 (m.t : Int)) ∧ u.cell? ⟨g, j * 3 + 2, none⟩ = some (.int .u8 (m.c : Int))) := HMC0
              clear hbBm hclm hnxp ho pc3 c6 c7 HMC0 HS16 HMV1 HB1 HX2 HBBO HOP
              go_wp2
              as_aux_lemma =>
                go_loopw [15, 16, 17, 18, 117] (fun lev grv lov evv kv wq => ∃ (k : Nat) (le gr lo ev_ : Int), k ≤ M ∧ lev = .int .i64 le ∧ grv = .int .i64 gr ∧ lov = .int .i64 lo ∧ evv = .int .i64 ev_ ∧ kv = .int .i64 (k : Int) ∧ Hid (LG V ((nx p).take k) le gr lo ev_) ∧ Hid (Below wm.heap.size wm wq)) (fun _ _ _ _ kv _ => M - (intOf kv).toNat)
                case atStart => exact ⟨0, _, _, _, _, Nat.zero_le _, rfl, rfl, rfl, rfl, rfl, hide LG.start, hide (Below.refl _ _)⟩
                case round =>
                  obtain ⟨k, le, gr, lo, ev_, hk, rfl, rfl, rfl, rfl, rfl, HLG, HBQ⟩ := hrel
                  rename World => wq
                  have hll := (unhide HLG).lo0
                  have hel := (unhide HLG).ev0
                  have hgl2 := (unhide HLG).gr0
                  have hlel := (unhide HLG).le_le (fun q hq => by
                    have hq2 : q ∈ nx p := List.mem_of_mem_take hq
                    have := (unhide HT).bd q ((unhide HT).cl p (unhide HPIN) q hq2)
                    omega)
                  have htl2 : ((nx p).take k).length ≤ M := by rw [List.length_take, unhide HNXP, List.length_map, ← unhide HM]; omega
                  by_cases hkM : k < M
                  · have hkMi : (k : Int) < (M : Int) := by omega
                    have hk0 : (0 : Int) ≤ (k : Int) := by omega
                    obtain ⟨m, hm⟩ : ∃ m, (L p)[k]? = some m := ⟨_, List.getElem?_eq_getElem (by rw [← unhide HM]; exact hkM)⟩
                    have hmem := List.mem_of_getElem? hm
                    obtain ⟨q, hqd⟩ : ∃ q, q = beh p m := ⟨_, rfl⟩
                    have hqk : (nx p)[k]? = some q := by rw [unhide HNXP, List.getElem?_map, hm, hqd]; rfl
                    have hqn : q ∈ nx p := List.mem_of_getElem? hqk
                    have hqin := (unhide HT).cl p (unhide HPIN) q hqn
                    have hqok : q.ok := unhide HPK q (unhide HPOK q hqin)
                    obtain ⟨gm, hmo, hgm1, hgm2, hmc⟩ := unhide HMC k m hm
                    subst hmo
                    have hBQ := unhide HBQ
                    have hbBq : Below wB.heap.size wB wq := (unhide HBBM).trans (hBQ.mono (unhide HBBM).size)
                    have hHS : ∀ u, Below wq.heap.size wq u → (u.cell? ⟨w.heap.size, 0, none⟩ = some (.int .i64 s.W) ∧ u.cell? ⟨w.heap.size, 1, none⟩ = some (.int .i64 s.H) ∧ u.cell? ⟨w.heap.size, 2, none⟩ = some (.string s.C) ∧ u.cell? ⟨w.heap.size, 3, none⟩ = some (.int .i64 s.T) ∧ u.cell? ⟨w.heap.size, 4, none⟩ = some (.string s.A) ∧ u.cell? ⟨w.heap.size, 5, none⟩ = some (.string s.B) ∧ u.cell? ⟨w.heap.size, 6, none⟩ = some (v6) ∧ u.cell? ⟨w.heap.size, 7, none⟩ = some (v7) ∧ u.cell? ⟨w.heap.size, 8, none⟩ = some (v8) ∧ u.cell? ⟨w.heap.size, 9, none⟩ = some (v9) ∧ u.cell? ⟨w.heap.size, 10, none⟩ = some (v10) ∧ u.cell? ⟨w.heap.size, 11, none⟩ = some (v11) ∧ u.cell? ⟨w.heap.size, 12, none⟩ = some (v12) ∧ u.cell? ⟨gl, i * 8, none⟩ = some (.int .i64 p.W) ∧ u.cell? ⟨gl, i * 8 + 1, none⟩ = some (.int .i64 p.H) ∧ u.cell? ⟨gl, i * 8 + 2, none⟩ = some (.string p.C) ∧ u.cell? ⟨gl, i * 8 + 3, none⟩ = some (.int .i64 p.T) ∧ u.cell? ⟨gl, i * 8 + 4, none⟩ = some (.string p.A) ∧ u.cell? ⟨gl, i * 8 + 5, none⟩ = some (.string p.B) ∧ u.cell? ⟨gm, k * 3, none⟩ = some (.int .i64 m.f) ∧ u.cell? ⟨gm, k * 3 + 1, none⟩ = some (.int .i64 (m.t : Int)) ∧ u.cell? ⟨gm, k * 3 + 2, none⟩ = some (.int .u8 (m.c : Int)) ∧ Below wq.heap.size wq u) := fun u hu => by
                      obtain ⟨hru, -, hcl, -⟩ := unhide HFR u (hbBq.trans (hu.mono hbBq.size))
                      obtain ⟨x0, x1, x2, x3, x4, x5, x6, x7, x8, x9, x10, x11, x12⟩ := hru.cells
                      have y := hcl i _ (unhide HXI)
                      obtain ⟨z0, z1, z2⟩ := hmc u ((hu.block gm (Nat.lt_of_lt_of_le hgm2 hBQ.size)).trans (hBQ.block gm hgm2))
                      exact ⟨x0, x1, x2, x3, x4, x5, x6, x7, x8, x9, x10, x11, x12, y 0 (by omega), y 1 (by omega), y 2 (by omega), y 3 (by omega), y 4 (by omega), y 5 (by omega), z0, z1, z2, hu⟩
                    have HS := hide hHS
                    have HMD : Hid (∀ u, Below wq.heap.size wq u → Calls Tryz.prog 10 #[.agg #[.int .i64 s.W, .int .i64 s.H, .string s.C, .int .i64 s.T, .string s.A, .string s.B, v6, v7, v8, v9, v10, v11, v12], .agg #[.int .i64 p.W, .int .i64 p.H, .string p.C, .int .i64 p.T, .string p.A, .string p.B], .agg #[.int .i64 m.f, .int .i64 (m.t : Int), .int .u8 (m.c : Int)]] u fun e w' => e = .returned (.tuple #[.agg #[.int .i64 q.W, .int .i64 q.H, .string q.C, .int .i64 q.T, .string q.A, .string q.B], .int .i64 0]) ∧ Below u.heap.size u w') := hide (fun u hu => by
                      rw [hqd]
                      exact unhide HAP p (unhide HOKP) m hmem u (unhide HFR u (hbBq.trans (hu.mono hbBq.size))).2.2.2)
                    have HB0 : Hid (Below wq.heap.size wq wq.drew) := hide (Below.refl _ _).drew
                    have HBA : Hid (∀ o, Below wq.heap.size wq (wq.alloc o).drew) := hide fun o => ((Below.refl _ _).alloc (Nat.le_refl _) o).drew
                    have HBA2 : Hid (∀ o, Below wq.heap.size wq (wq.drew.alloc o)) := hide fun o => (unhide HB0).alloc (unhide HB0).size o
                    have HTK : Hid ((nx p).take (k + 1) = (nx p).take k ++ [q]) := hide (by rw [List.take_add_one, hqk]; rfl)
                    have HQIN := hide hqin
                    have HQOK := hide hqok
                    have HBBQ := hide hbBq
                    clear hHS hm hmem hqd hqk hqn hqin hqok hgm1 hgm2 hmc hBQ hbBq
                    go_upto_region 32 with fail
                    apply cutForT (fun bx v => isPb v bx q.W q.H q.T q.C q.A q.B ∧ Below wq.heap.size wq v ∧ wq.heap.size ≤ bx)
                    case k =>
                      intro key
                      go_region_held3 (fun u => u.cell? ⟨w.heap.size, 0, none⟩ = some (.int .i64 s.W) ∧ u.cell? ⟨w.heap.size, 1, none⟩ = some (.int .i64 s.H) ∧ u.cell? ⟨w.heap.size, 2, none⟩ = some (.string s.C) ∧ u.cell? ⟨w.heap.size, 3, none⟩ = some (.int .i64 s.T) ∧ u.cell? ⟨w.heap.size, 4, none⟩ = some (.string s.A) ∧ u.cell? ⟨w.heap.size, 5, none⟩ = some (.string s.B) ∧ u.cell? ⟨w.heap.size, 6, none⟩ = some (v6) ∧ u.cell? ⟨w.heap.size, 7, none⟩ = some (v7) ∧ u.cell? ⟨w.heap.size, 8, none⟩ = some (v8) ∧ u.cell? ⟨w.heap.size, 9, none⟩ = some (v9) ∧ u.cell? ⟨w.heap.size, 10, none⟩ = some (v10) ∧ u.cell? ⟨w.heap.size, 11, none⟩ = some (v11) ∧ u.cell? ⟨w.heap.size, 12, none⟩ = some (v12) ∧ u.cell? ⟨gl, i * 8, none⟩ = some (.int .i64 p.W) ∧ u.cell? ⟨gl, i * 8 + 1, none⟩ = some (.int .i64 p.H) ∧ u.cell? ⟨gl, i * 8 + 2, none⟩ = some (.string p.C) ∧ u.cell? ⟨gl, i * 8 + 3, none⟩ = some (.int .i64 p.T) ∧ u.cell? ⟨gl, i * 8 + 4, none⟩ = some (.string p.A) ∧ u.cell? ⟨gl, i * 8 + 5, none⟩ = some (.string p.B) ∧ u.cell? ⟨gm, k * 3, none⟩ = some (.int .i64 m.f) ∧ u.cell? ⟨gm, k * 3 + 1, none⟩ = some (.int .i64 (m.t : Int)) ∧ u.cell? ⟨gm, k * 3 + 2, none⟩ = some (.int .u8 (m.c : Int)) ∧ Below wq.heap.size wq u)
                        (first
                          | with_reducible exact unhide HS _ (unhide HB0)
                          | with_reducible exact unhide HS _ (unhide HBA _)
                          | with_reducible exact unhide HS _ (unhide HBA2 _)
                          | with_reducible exact unhide HS _ (unhide HBX)
                          | with_reducible exact unhide HS _ (unhide HBXA _)
                          | with_reducible exact unhide HS _ (unhide HBXS _ _ _ _ _ _)
                          | with_reducible exact unhide HS _ (unhide HBXS2 _ _ _ _ _ _ _))
                        (first
                          | (go_at_call 10; (first | (with_reducible refine (unhide HMD _ (unhide HB0)).mono ?_) | (with_reducible refine (unhide HMD _ (unhide HBA _)).mono ?_) | (with_reducible refine (unhide HMD _ (unhide HBA2 _)).mono ?_)); rintro e wx ⟨rfl, hb⟩
                             have HBX : Hid (Below wq.heap.size wq wx) := hide (by first | exact (unhide HB0).trans (hb.mono (unhide HB0).size) | exact (unhide HBA _).trans (hb.mono (unhide HBA _).size) | exact (unhide HBA2 _).trans (hb.mono (unhide HBA2 _).size))
                             have HBXA : Hid (∀ o, Below wq.heap.size wq (wx.alloc o)) := hide (fun o => (unhide HBX).alloc (unhide HBX).size o)
                             have HBXS : Hid (∀ x0 x1 x2 x3 x4 x5 : Value, Below wq.heap.size wq ((((((wx.setCell ⟨wq.heap.size, 0, none⟩ x0).setCell ⟨wq.heap.size, 1, none⟩ x1).setCell ⟨wq.heap.size, 2, none⟩ x2).setCell ⟨wq.heap.size, 3, none⟩ x3).setCell ⟨wq.heap.size, 4, none⟩ x4).setCell ⟨wq.heap.size, 5, none⟩ x5)) := hide (fun x0 x1 x2 x3 x4 x5 => below_setT (unhide HBX) (Nat.le_refl _) x0 x1 x2 x3 x4 x5)
                             have HBXS2 : Hid (∀ o (x0 x1 x2 x3 x4 x5 : Value), Below wq.heap.size wq (((((((wx.alloc o).setCell ⟨wx.heap.size, 0, none⟩ x0).setCell ⟨wx.heap.size, 1, none⟩ x1).setCell ⟨wx.heap.size, 2, none⟩ x2).setCell ⟨wx.heap.size, 3, none⟩ x3).setCell ⟨wx.heap.size, 4, none⟩ x4).setCell ⟨wx.heap.size, 5, none⟩ x5)) := hide (fun o x0 x1 x2 x3 x4 x5 => below_setT (unhide HBXA o) (unhide HBX).size x0 x1 x2 x3 x4 x5)
                             try (have HXZ : Hid (isPb wx wq.heap.size 0 0 0 ⟨#[]⟩ ⟨#[]⟩ ⟨#[]⟩) := hide ((hb.block wq.heap.size (by simp)).trans (heap_alloc_new wq _)); obtain ⟨x0, x1, x2, x3, x4, x5⟩ := (unhide HXZ).all; have xf0 := (unhide HXZ).frozenT 0; have xf1 := (unhide HXZ).frozenT 1; have xf2 := (unhide HXZ).frozenT 2; have xf3 := (unhide HXZ).frozenT 3; have xf4 := (unhide HXZ).frozenT 4; have xf5 := (unhide HXZ).frozenT 5)
                             clear hb))
                      all_goals first
                        | (have hfin : isPb (wx.alloc (.cells #[.int .i64 q.W, .int .i64 q.H, .string q.C, .int .i64 q.T, .string q.A, .string q.B] 24 (0, 0))) wx.heap.size q.W q.H q.T q.C q.A q.B ∧ Below wq.heap.size wq (wx.alloc (.cells #[.int .i64 q.W, .int .i64 q.H, .string q.C, .int .i64 q.T, .string q.A, .string q.B] 24 (0, 0))) ∧ wq.heap.size ≤ wx.heap.size := ⟨heap_alloc_new wx _, unhide HBXA _, (unhide HBX).size⟩
                           generalize wx.alloc (.cells #[.int .i64 q.W, .int .i64 q.H, .string q.C, .int .i64 q.T, .string q.A, .string q.B] 24 (0, 0)) = v at hfin ⊢
                           generalize wx.heap.size = bx at hfin ⊢
                           exact unhide key bx v hfin)
                        | (have hfin := And.intro ((unhide HXZ).setAllT q.W q.H q.T q.C q.A q.B) (And.intro (unhide HBXS (.int .i64 q.W) (.int .i64 q.H) (.string q.C) (.int .i64 q.T) (.string q.A) (.string q.B)) (Nat.le_refl wq.heap.size))
                           generalize ((((((wx.setCell ⟨wq.heap.size, 0, none⟩ (.int .i64 q.W)).setCell ⟨wq.heap.size, 1, none⟩ (.int .i64 q.H)).setCell ⟨wq.heap.size, 2, none⟩ (.string q.C)).setCell ⟨wq.heap.size, 3, none⟩ (.int .i64 q.T)).setCell ⟨wq.heap.size, 4, none⟩ (.string q.A)).setCell ⟨wq.heap.size, 5, none⟩ (.string q.B)) = v at hfin ⊢
                           obtain ⟨bx, hbxe⟩ : ∃ bx, bx = wq.heap.size := ⟨_, rfl⟩
                           rw [← hbxe]
                           exact unhide key bx v (by rw [hbxe]; exact hfin))
                    rintro bx wv ⟨hxb, hbv, hbx⟩
                    obtain ⟨x0, x1, x2, x3, x4, x5⟩ := hxb.all
                    have hbBv : Below wB.heap.size wB wv := (unhide HBBQ).trans (hbv.mono (unhide HBBQ).size)
                    obtain ⟨-, hnmv, hclv, -⟩ := unhide HFR wv hbBv
                    have hlk := hnmv.look_all (unhide HQOK) wv rfl
                    rw [if_pos (unhide HQIN)] at hlk
                    obtain ⟨j, hj⟩ : ∃ j, j = (ts.map (fun x => x.1)).idxOf q := ⟨_, rfl⟩
                    obtain ⟨j1, hj1⟩ : ∃ j1, j1 = j + 1 := ⟨_, rfl⟩
                    rw [← hj, ← hj1] at hlk
                    have hjt := (unhide HT).at_ (unhide HQIN)
                    rw [← hj] at hjt
                    have hjl : j < n := by rw [unhide HN]; exact (List.getElem?_eq_some_iff.1 hjt).1
                    have hyy := hclv j _ hjt
                    have e0 := hyy 0 (by omega)
                    have e1 := hyy 1 (by omega)
                    have e2 := hyy 2 (by omega)
                    have e3 := hyy 3 (by omega)
                    have e4 := hyy 4 (by omega)
                    have e5 := hyy 5 (by omega)
                    have e6 := hyy 6 (by omega)
                    have e7 := hyy 7 (by omega)
                    rw [Nat.add_zero] at e0
                    simp only [encE, List.getElem?_cons_zero, List.getElem?_cons_succ] at e0 e1 e2 e3 e4 e5 e6 e7
                    obtain ⟨qv, hqv⟩ : ∃ qv, qv = (V q).1 := ⟨_, rfl⟩
                    obtain ⟨qd, hqd2⟩ : ∃ qd, qd = (V q).2 := ⟨_, rfl⟩
                    rw [← hqv] at e6
                    rw [← hqd2] at e7
                    have HQV : Hid ((V q).1 = qv ∧ (V q).2 = qd ∧ 0 ≤ qd ∧ qd ≤ 5000) := hide (by
                      have := (unhide HT).bd q (unhide HQIN)
                      exact ⟨hqv.symm, hqd2.symm, by omega, by omega⟩)
                    have hqdb := (unhide HQV).2.2
                    have hjz : ((j1 : Int) == 0) = false := by simp; omega
                    have hj1e : (j1 : Int) - 1 = (j : Int) := by omega
                    have hjn : (j : Int) < (n : Int) := by omega
                    have hj0 : (0 : Int) ≤ (j : Int) := by omega
                    have wj : IntKind.i64.wrap (j : Int) = (j : Int) := by unfold IntKind.wrap; simp [IntKind.signed, IntKind.bits]; omega
                    obtain ⟨wy, hwy⟩ : ∃ wy, wy = wv.alloc (.cells #[.int .i64 q.W, .int .i64 q.H, .string q.C, .int .i64 q.T, .string q.A, .string q.B, .int .i64 qv, .int .i64 qd] 34 (0, 0)) := ⟨_, rfl⟩
                    have hby : Below wv.heap.size wv wy := by rw [hwy]; exact (Below.refl _ _).alloc (Nat.le_refl _) _
                    have heb : isEb wy wv.heap.size q qv qd := by rw [hwy]; exact heap_alloc_new wv _
                    obtain ⟨-, -, -, -, -, -, y6, y7⟩ := heb.all
                    have HBY : Hid (Below wm.heap.size wm wy) := hide (((unhide HBQ).trans (hbv.mono (unhide HBQ).size)).trans (hby.mono (Nat.le_trans (unhide HBQ).size hbv.size)))
                    have HWY := hide hwy
                    clear hxb hbv hbx hbBv hnmv hclv hj hj1 hjt hyy hqv hqd2 hwy hby heb hjl HS HMD HB0 HBA HBA2 HBBQ HQIN HQOK HBQ
                    go_upto_region 36 with fail
                    rw [← unhide HWY]
                    clear HWY x0 x1 x2 x3 x4 x5 e0 e1 e2 e3 e4 e5 e6 e7 hlk
                    as_aux_lemma =>
                      by_cases h2 : qv = 2
                      · have hb2 : (qv == 2) = true := by simp [h2]
                        obtain ⟨lo1, hlo1⟩ : ∃ lo1, lo1 = lo + 1 := ⟨_, rfl⟩
                        have hlo1e : lo + 1 = lo1 := hlo1.symm
                        have wlo1 : IntKind.i64.wrap lo1 = lo1 := by unfold IntKind.wrap; simp [IntKind.signed, IntKind.bits]; omega
                        have hstep := (unhide HLG).lost (q := q) (by rw [(unhide HQV).1]; exact h2) (by rw [(unhide HQV).2.1]; exact (unhide HQV).2.2)
                        rw [(unhide HQV).2.1, hlo1e, ← unhide HTK] at hstep
                        rw [show (if qd < le then qd else le) = min le qd by split <;> omega] at hstep
                        have HLG2 := hide hstep
                        clear hstep h2 hlo1 HLG HTK
                        go_wp2
                        go_roundw
                        case rel => exact ⟨k + 1, _, _, _, _, by omega, rfl, rfl, rfl, rfl, by go_num, HLG2, HBY⟩
                        case measure => simp only [intOf]; omega
                      · have hb2 : (qv == 2) = false := by simp [h2]
                        by_cases h3 : qv = 3
                        · have hb3 : (qv == 3) = true := by simp [h3]
                          obtain ⟨ev1, hev1⟩ : ∃ ev1, ev1 = ev_ + 1 := ⟨_, rfl⟩
                          have hev1e : ev_ + 1 = ev1 := hev1.symm
                          have wev1 : IntKind.i64.wrap ev1 = ev1 := by unfold IntKind.wrap; simp [IntKind.signed, IntKind.bits]; omega
                          have hstep := (unhide HLG).even (q := q) (by rw [(unhide HQV).1]; exact h3)
                          rw [hev1e, ← unhide HTK] at hstep
                          have HLG2 := hide hstep
                          clear hstep h2 h3 hev1 HLG HTK
                          go_wp2
                          go_roundw
                          case rel => exact ⟨k + 1, _, _, _, _, by omega, rfl, rfl, rfl, rfl, by go_num, HLG2, HBY⟩
                          case measure => simp only [intOf]; omega
                        · have hb3 : (qv == 3) = false := by simp [h3]
                          have hstep := (unhide HLG).won (q := q) (by rw [(unhide HQV).1]; exact h2) (by rw [(unhide HQV).1]; exact h3) (by rw [(unhide HQV).2.1]; exact (unhide HQV).2.2)
                          rw [(unhide HQV).2.1, ← unhide HTK] at hstep
                          rw [show (if gr < qd then qd else gr) = max gr qd by split <;> omega] at hstep
                          have HLG2 := hide hstep
                          clear hstep h2 h3 HLG HTK
                          go_wp2
                          go_roundw
                          case rel => exact ⟨k + 1, _, _, _, _, by omega, rfl, rfl, rfl, rfl, by go_num, HLG2, HBY⟩
                          case measure => simp only [intOf]; omega

                  · have hkMi : ¬ (k : Int) < (M : Int) := by omega
                    have hLG := unhide HLG
                    rw [List.take_of_length_le (by rw [unhide HNXP, List.length_map, ← unhide HM]; omega)] at hLG
                    have hbBq : Below wB.heap.size wB wq := (unhide HBBM).trans ((unhide HBQ).mono (unhide HBBM).size)
                    have hclq := (unhide HFR wq hbBq).2.2.1 i _ (unhide HXI)
                    have c6 := hclq 6 (by omega)
                    have c7 := hclq 7 (by omega)
                    simp only [encE, List.getElem?_cons_zero, List.getElem?_cons_succ] at c6 c7
                    have hfin := hLG.fin (unhide HT) (unhide HPIN) (unhide HNE)
                    rw [← unhide HPV, ← unhide HPD] at hfin
                    have HBM2 := hide hbBq
                    clear hLG hbBq hclq HLG HBQ
                    rcases hfin with ⟨h1, h2, h3, h4⟩ | ⟨h1, h2, h3⟩ | ⟨h1, h2, h3, h4⟩
                    · have b1 : (pv == 3) = true := by simp [h1]
                      have b2 : (lo == 0) = true := by simp [h2]
                      have b4 : (pd == 0) = true := by simp [h4]
                      clear h1 h2 h4
                      go_wp2
                      go_roundw
                      case rel => exact ⟨i + 1, by omega, by go_num, HBM2⟩
                      case measure => simp only [intOf]; omega
                    · have b1 : (pv == 3) = false := by simp [h1]
                      have b2 : (pv == 1) = true := by simp [h1]
                      obtain ⟨le1, hle1⟩ : ∃ le1, le1 = le + 1 := ⟨_, rfl⟩
                      have hle1e : le + 1 = le1 := hle1.symm
                      have wle1 : IntKind.i64.wrap le1 = le1 := by unfold IntKind.wrap; simp [IntKind.signed, IntKind.bits]; omega
                      have b3 : (pd == le1) = true := by simp [h3, hle1]
                      clear h1 h3 hle1
                      go_wp2
                      go_roundw
                      case rel => exact ⟨i + 1, by omega, by go_num, HBM2⟩
                      case measure => simp only [intOf]; omega
                    · have b1 : (pv == 3) = false := by simp [h1]
                      have b2 : (pv == 1) = false := by simp [h1]
                      have b3 : (pv == 2) = true := by simp [h1]
                      have b4 : (lo == 0) = true := by simp [h2]
                      have b5 : (ev_ == 0) = true := by simp [h3]
                      obtain ⟨gr1, hgr1⟩ : ∃ gr1, gr1 = gr + 1 := ⟨_, rfl⟩
                      have hgr1e : gr + 1 = gr1 := hgr1.symm
                      have wgr1 : IntKind.i64.wrap gr1 = gr1 := by unfold IntKind.wrap; simp [IntKind.signed, IntKind.bits]; omega
                      have b6 : (pd == gr1) = true := by simp [h4, hgr1]
                      clear h1 h2 h3 h4 hgr1
                      go_wp2
                      go_roundw
                      case rel => exact ⟨i + 1, by omega, by go_num, HBM2⟩
                      case measure => simp only [intOf]; omega

            · have hob : (op != 0) = true := by simp [ho]
              have hnil : nx p = [] := Classical.byContradiction fun e => ho (by rw [unhide HOP]; exact (unhide HEND p (unhide HOKP)).2.1 e)
              have hov := (unhide HT).over p (unhide HPIN) hnil
              have HOV : Hid (pv = endW op p.T) := hide (by rw [unhide HPV, hov, unhide HOP]; exact (unhide HEND p (unhide HOKP)).2.2.1 hnil)
              have hpd0 : (pd != 0) = false := by have := unhide HPD; rw [hov] at this; simp [this]
              have HBM := hide hbBm
              clear hnil hov hbBm hclm hnxp HMC0 HS16 HMV1 HB1 HX2 HBBO HOP
              as_aux_lemma =>
                by_cases h3 : op = 3
                · have hb3 : (op == 3) = true := by simp [h3]
                  have hend : endW op p.T = 3 := by unfold endW; rw [if_neg ho, if_pos h3]
                  have hvw : (pv != 3) = false := by
                    have h9 := unhide HOV
                    rw [hend] at h9
                    simp [h9]
                  clear ho h3 hend
                  go_wp2
                  go_roundw
                  case rel => exact ⟨i + 1, by omega, by go_num, HBM⟩
                  case measure => simp only [intOf]; omega
                · have hb3 : (op == 3) = false := by simp [h3]
                  obtain ⟨T1, hT1⟩ : ∃ T1, T1 = p.T + 1 := ⟨_, rfl⟩
                  have hT1e : p.T + 1 = T1 := hT1.symm
                  have wT1 : IntKind.i64.wrap T1 = T1 := by have := unhide HTT p (unhide HOKP); unfold IntKind.wrap; simp [IntKind.signed, IntKind.bits]; omega
                  by_cases h1 : op = T1
                  · have hb1 : (op == T1) = true := by simp [h1]
                    have hend : endW op p.T = 1 := by unfold endW; rw [if_neg ho, if_neg h3, if_pos (by omega)]
                    have hvw : (pv != 1) = false := by
                      have h9 := unhide HOV
                      rw [hend] at h9
                      simp [h9]
                    clear ho h3 h1 hT1 hend
                    go_wp2
                    go_roundw
                    case rel => exact ⟨i + 1, by omega, by go_num, HBM⟩
                    case measure => simp only [intOf]; omega
                  · have hb1 : (op == T1) = false := by simp [h1]
                    have hend : endW op p.T = 2 := by unfold endW; rw [if_neg ho, if_neg h3, if_neg (by omega)]
                    have hvw : (pv != 2) = false := by
                      have h9 := unhide HOV
                      rw [hend] at h9
                      simp [h9]
                    clear ho h3 h1 hT1 hend
                    go_wp2
                    go_roundw
                    case rel => exact ⟨i + 1, by omega, by go_num, HBM⟩
                    case measure => simp only [intOf]; omega

          · have hlti : ¬ (i : Int) < (n : Int) := by omega
            obtain ⟨hru, -, -, hbw⟩ := unhide HFR wr (unhide HBR)
            obtain ⟨x0, x1, x2, x3, x4, x5, x6, x7, x8, x9, x10, x11, x12⟩ := hru.cells
            have HE1 := hide (unhide HENDS wr (unhide HBR))
            have HBW := hide hbw
            clear hru hbw HBR
            go_wp2_with fail
            refine (unhide HE1).mono ?_
            rintro e wz ⟨rfl, hbz⟩
            have HBZ : Hid (Below w.heap.size w wz) := hide ((unhide HBW).trans (hbz.mono (unhide HBW).size))
            clear hbz
            go_wp2
            go_ret
            exact ⟨rfl, unhide HBZ⟩

end Go.Proofs.YtbijadnekoeofaaGreatDoor
