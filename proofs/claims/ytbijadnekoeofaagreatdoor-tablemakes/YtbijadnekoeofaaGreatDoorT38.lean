/-
  gameref.Tabled, walked.
-/
import Derived.Test.YtbijadnekoeofaaGreatDoorJ45
import Derived.Test.YtbijadnekoeofaaGreatDoorJ44
import Derived.Test.YtbijadnekoeofaaGreatDoorT38p
import Derived.Test.YtbijadnekoeofaaGreatDoorT31
import Derived.Test.YtbijadnekoeofaaGreatDoorJ5
import Derived.Test.YtbijadnekoeofaaGreatDoorJ8
import Derived.Deep.RegionHeld3
import Derived.Deep.DeepCutAuto
import Derived.BigQuiet
import Derived.Deep.Cut
namespace Go.Proofs.YtbijadnekoeofaaGreatDoor
open Go.RowKit
attribute [local go_sem ↓] Go.wp_at_zero Go.wp_at_succ

/-- What Tabled leaves. -/
structure TdE (nx : Po → List Po) (ev : Po → Int) (s : Po) (most : Nat) (w : World) (e : Ending) (w' : World) : Prop where
  bw : Below w.heap.size w w'
  out : ((∃ i, most < (bfsN nx s i).length) ∧ e = .returned (.tuple #[.slice none 0 0, .int .i64 2])) ∨
    ∃ g N D ts, e = .returned (.tuple #[.slice (some ⟨g, 0, none⟩) N N, .int .i64 0]) ∧ w'.ownsRow w.heap.size 34 8 (.slice (some ⟨g, 0, none⟩) N N) N (evs ts) ∧ N ≤ most ∧ (bfsN nx s N).length = N ∧
      (∀ i, i < N → rds (nxtG nx (bfsN nx s N)) (v0G nx ev (bfsN nx s N)) (D + 1) i = rds (nxtG nx (bfsN nx s N)) (v0G nx ev (bfsN nx s N)) D i) ∧
      ts.Perm (enF (bfsN nx s N) (finR (rds (nxtG nx (bfsN nx s N)) (v0G nx ev (bfsN nx s N)) D))) ∧ ts.Pairwise ltE
theorem cutForT (R : Nat → World → Prop) {T : Nat → World → Prop} {G : Prop} (k : Hid (∀ b v, R b v → T b v) → G) (p : ∀ b v, R b v → T b v) : G := k (hide p)
theorem isPb.setAllT {w : World} {b : Nat} {W H T : Int} {C A B : ByteArray} (h : isPb w b W H T C A B) (W' H' T' : Int) (C' A' B' : ByteArray) : isPb ((((((w.setCell ⟨b, 0, none⟩ (.int .i64 W')).setCell ⟨b, 1, none⟩ (.int .i64 H')).setCell ⟨b, 2, none⟩ (.string C')).setCell ⟨b, 3, none⟩ (.int .i64 T')).setCell ⟨b, 4, none⟩ (.string A')).setCell ⟨b, 5, none⟩ (.string B')) b W' H' T' C' A' B' := by
  unfold isPb at h ⊢
  simp [World.setCell, Array.getElem?_modify, h]
theorem isPb.frozenT {w : World} {b : Nat} {W H T : Int} {C A B : ByteArray} (h : isPb w b W H T C A B) (k : Nat) : w.frozen? ⟨b, k, none⟩ = false := frozen_of_row w b k _ _ h
theorem below_setT {B : Nat} {w u : World} {b : Nat} (h : Below B w u) (hb : B ≤ b) (x0 x1 x2 x3 x4 x5 : Value) : Below B w ((((((u.setCell ⟨b, 0, none⟩ x0).setCell ⟨b, 1, none⟩ x1).setCell ⟨b, 2, none⟩ x2).setCell ⟨b, 3, none⟩ x3).setCell ⟨b, 4, none⟩ x4).setCell ⟨b, 5, none⟩ x5) :=
  (((((h.setCell (p := ⟨b, 0, none⟩) hb x0).setCell (p := ⟨b, 1, none⟩) hb x1).setCell (p := ⟨b, 2, none⟩) hb x2).setCell (p := ⟨b, 3, none⟩) hb x3).setCell (p := ⟨b, 4, none⟩) hb x4).setCell (p := ⟨b, 5, none⟩) hb x5


set_option maxHeartbeats 8000000 in
set_option maxRecDepth 100000 in
theorem tabled_walk (nx : Po → List Po) (ev : Po → Int) (ok : Po → Prop) (L : Po → List Mv) (beh : Po → Mv → Po) (o : Po → Int) (s : Po) (v6 v7 v8 v9 v10 v11 v12 : Value) (most : Nat) (w : World) (hm1 : 1 ≤ most) (hm5 : most ≤ 5000) (hs : ok s) (hok : ∀ p, ok p → p.ok) (hT : ∀ p, ok p → p.T = 0 ∨ p.T = 1) (hstay : ∀ p, ok p → ∀ q ∈ nx p, ok q) (hnx : ∀ p, ok p → nx p = (L p).map (beh p)) (hlen : ∀ p, ok p → (L p).length ≤ 4608)
    (hv0 : ∀ p, ok p → endW (o p) p.T = if nx p = [] then ev p else 0) (hev1 : ∀ p, ok p → nx p = [] → 1 ≤ ev p) (hkey : ∀ p q, ok p → ok q → keyP p = keyP q → p = q)
    (hRu : ∀ u, Below w.heap.size w u → Calls Tryz.prog 17 #[.agg #[.int .i64 s.W, .int .i64 s.H, .string s.C, .int .i64 s.T, .string s.A, .string s.B, v6, v7, v8, v9, v10, v11, v12]] u fun e w' => e = .returned (.bool true) ∧ Below u.heap.size u w')
    (hMv : ∀ p, ok p → ∀ u, Below w.heap.size w u → Calls Tryz.prog 18 #[.agg #[.int .i64 s.W, .int .i64 s.H, .string s.C, .int .i64 s.T, .string s.A, .string s.B, v6, v7, v8, v9, v10, v11, v12], .agg #[.int .i64 p.W, .int .i64 p.H, .string p.C, .int .i64 p.T, .string p.A, .string p.B]] u fun e w' => ∃ v, e = .returned v ∧ w'.ownsRow u.heap.size 45 3 v (L p).length (mvals (L p)) ∧ Below u.heap.size u w')
    (hMd : ∀ p, ok p → ∀ m ∈ L p, ∀ u, Below w.heap.size w u → Calls Tryz.prog 19 #[.agg #[.int .i64 s.W, .int .i64 s.H, .string s.C, .int .i64 s.T, .string s.A, .string s.B, v6, v7, v8, v9, v10, v11, v12], .agg #[.int .i64 p.W, .int .i64 p.H, .string p.C, .int .i64 p.T, .string p.A, .string p.B], .agg #[.int .i64 m.f, .int .i64 (m.t : Int), .int .u8 (m.c : Int)]] u fun e w' => e = .returned (.agg #[.int .i64 (beh p m).W, .int .i64 (beh p m).H, .string (beh p m).C, .int .i64 (beh p m).T, .string (beh p m).A, .string (beh p m).B]) ∧ Below u.heap.size u w')
    (hEn : ∀ p, ok p → ∀ u, Below w.heap.size w u → Calls Tryz.prog 20 #[.agg #[.int .i64 s.W, .int .i64 s.H, .string s.C, .int .i64 s.T, .string s.A, .string s.B, v6, v7, v8, v9, v10, v11, v12], .agg #[.int .i64 p.W, .int .i64 p.H, .string p.C, .int .i64 p.T, .string p.A, .string p.B]] u fun e w' => e = .returned (.int .i64 (o p)) ∧ Below u.heap.size u w') :
    Calls Tryz.prog 6 #[.agg #[.int .i64 s.W, .int .i64 s.H, .string s.C, .int .i64 s.T, .string s.A, .string s.B, v6, v7, v8, v9, v10, v11, v12], .int .i64 (most : Int)] w (TdE nx ev s most w) := by
  obtain ⟨w1, hw1⟩ : ∃ w1, w1 = w.alloc (.cells #[.int .i64 s.W, .int .i64 s.H, .string s.C, .int .i64 s.T, .string s.A, .string s.B, v6, v7, v8, v9, v10, v11, v12] 27 (0, 0)) := ⟨_, rfl⟩
  have b1 : Below w.heap.size w w1 := by rw [hw1]; exact (Below.refl _ _).alloc (Nat.le_refl _) _
  have s1 : w1.heap.size = w.heap.size + 1 := by rw [hw1]; simp
  have hru1 : isRu w1 w.heap.size (.int .i64 s.W) (.int .i64 s.H) (.string s.C) (.int .i64 s.T) (.string s.A) (.string s.B) (v6) (v7) (v8) (v9) (v10) (v11) (v12) := by rw [hw1]; exact heap_alloc_new w _
  have HRU : Hid (∀ u, Below w1.heap.size w1 u → isRu u w.heap.size (.int .i64 s.W) (.int .i64 s.H) (.string s.C) (.int .i64 s.T) (.string s.A) (.string s.B) (v6) (v7) (v8) (v9) (v10) (v11) (v12)) := hide (fun u hu => hru1.below hu (by omega))
  have HUP : Hid (∀ u, Below w1.heap.size w1 u → Below w.heap.size w u) := hide (fun u hu => b1.trans (hu.mono (by omega)))
  have HRL := hide (hRu w1 b1)
  obtain ⟨r0, r1, r2, r3, r4, r5, r6, r7, r8, r9, r10, r11, r12⟩ := hru1.cells
  have HW1 := hide hw1
  have HS1 := hide s1
  have HMV := hide hMv
  have HMADE := hide hMd
  have HEN := hide hEn
  have HOKS := hide hs
  have HOK := hide hok
  have HT := hide hT
  have HSTAY := hide hstay
  have HNX := hide hnx
  have HLEN := hide hlen
  have HV0 := hide hv0
  have HEV1 := hide hev1
  have HKEY := hide hkey
  have hx1 : ¬ (most : Int) < 1 := by omega
  have hx2 : ¬ (5000 : Int) < (most : Int) := by omega
  clear hw1 b1 s1 hru1 hRu hMv hMd hEn hs hok hT hstay hnx hlen hv0 hev1 hkey
  go_enter Tryz.func6, Tryz.ntmps6
  go_upto_region 1 with fail
  rw [← unhide HW1]
  clear HW1
  go_wp2_with fail
  refine (unhide HRL).mono ?_
  rintro e w2 ⟨rfl, hb2⟩
  clear r0 r1 r2 r3 r4 r5 r6 r7 r8 r9 r10 r11 r12 HRL
  have hru2 := unhide HRU w2 hb2
  obtain ⟨w3, hw3⟩ : ∃ w3, w3 = w2.alloc (.cells #[.int .i64 s.W, .int .i64 s.H, .string s.C, .int .i64 s.T, .string s.A, .string s.B] 24 (0, 0)) := ⟨_, rfl⟩
  obtain ⟨w4, hw4⟩ : ∃ w4, w4 = w3.alloc (.map #[] 0) := ⟨_, rfl⟩
  have hb3 : Below w2.heap.size w2 w3 := by rw [hw3]; exact (Below.refl _ _).alloc (Nat.le_refl _) _
  have hb4 : Below w3.heap.size w3 w4 := by rw [hw4]; exact (Below.refl _ _).alloc (Nat.le_refl _) _
  have z2 := hb2.size
  have z3 := hb3.size
  have z4 := hb4.size
  have hw3s : w3.heap.size = w2.heap.size + 1 := by rw [hw3]; simp
  have hrow3 : w3.heap[w2.heap.size]? = some (.cells #[.int .i64 s.W, .int .i64 s.H, .string s.C, .int .i64 s.T, .string s.A, .string s.B] 24 (0, 0)) := by rw [hw3]; exact heap_alloc_new w2 _
  obtain ⟨b, hb⟩ : ∃ b, b = w3.heap.size := ⟨_, rfl⟩
  have hsok : s.ok := unhide HOK s (unhide HOKS)
  have hnm4 : numM w4 b [] 1 := by rw [hw4, hb]; exact numM_made w3 1
  obtain ⟨w5, hrun5, hnm5, hg5⟩ := hnm4.put (p := s) (by simp) hsok (by simp)
  have hrun5' : (Instr.mapUpdate 36 (.map (some b)) (.agg #[.int .i64 s.W, .int .i64 s.H, .string s.C, .int .i64 s.T, .string s.A, .string s.B]) (.int .i64 1)).run Tryz.prog w4 = .ok () w5 := by simpa using hrun5
  have hbw4 : Below w1.heap.size w1 w4 := (hb2.trans (hb3.mono z2)).trans (hb4.mono (by omega))
  have hbw5 : Below w1.heap.size w1 w5 := below_row hbw4 (by omega) hg5
  have hrow5 : w5.heap[w2.heap.size]? = some (.cells #[.int .i64 s.W, .int .i64 s.H, .string s.C, .int .i64 s.T, .string s.A, .string s.B] 24 (0, 0)) := (hg5.block _ (by omega) (by simp; omega)).trans ((hb4.block _ (by omega)).trans hrow3)
  obtain ⟨g0, hg0⟩ : ∃ g0, g0 = w2.heap.size := ⟨_, rfl⟩
  have hT0 : TbO nx s b w1 0 g0 1 1 (.slice none 0 0) w5 := by
    rw [hg0]
    refine ⟨rfl, ⟨rfl, .inr ⟨w2.heap.size, 1, _, rfl, z2, hrow5, Nat.le_refl _, by unfold maxLen; omega, rfl, rfl⟩⟩, hnm5, by omega, NxR.nil _ _, hbw5, fun a ha => by omega⟩
  have hru4 := unhide HRU w4 hbw4
  have hru3 := unhide HRU w3 (hb2.trans (hb3.mono z2))
  have HT0 := hide hT0
  have HW3 := hide hw3
  have HW4 := hide hw4
  have HBD := hide hb
  have HG0 := hide hg0
  obtain ⟨r0, r1, r2, r3, r4, r5, r6, r7, r8, r9, r10, r11, r12⟩ := hru2.cells
  obtain ⟨e0, e1, e2, e3, e4, e5, e6, e7, e8, e9, e10, e11, e12⟩ := hru4.cells
  have hmm := @run_makeMap Tryz.prog
  rw [hw4] at e0 e1 e2 e3 e4 e5 hrun5'
  rw [hb] at hrun5'
  clear e6 e7 e8 e9 e10 e11 e12 hru2 hru3 hru4 hb hb2 hw3 hw4 hb3 hb4 z2 z3 z4 hw3s hrow3 hnm4 hrun5 hnm5 hg5 hbw4 hbw5 hrow5 hT0 hg0 hsok
  go_upto_region 4 with fail
  rw [← unhide HW3]
  clear HW3
  go_upto_region 6 with fail
  rw [← unhide HBD, ← unhide HG0]
  clear HW4 r0 r1 r2 r3 r4 r5 r6 r7 r8 r9 r10 r11 r12 e0 e1 e2 e3 e4 e5 hmm hrun5'
  go_wp2
  go_loopw [6, 8, 9] (fun lv nv iv wr => ∃ (i gN cN n nc : Nat) (no : Option Addr), lv = .slice (some ⟨gN, 0, none⟩) n cN ∧ nv = .slice no i nc ∧ iv = .int .i64 (i : Int) ∧ i ≤ n ∧ n ≤ cN ∧ cN ≤ 9223372036854775807 ∧ n ≤ most ∧ Hid (TbO nx s b w1 i gN cN n (.slice no i nc) wr)) (fun _ _ iv _ => most - (intOf iv).toNat)
  case atStart => exact ⟨0, g0, 1, 1, 0, none, rfl, rfl, rfl, by omega, by omega, by omega, hm1, HT0⟩
  case round =>
    obtain ⟨i, gN, cN, n, nc, no, rfl, rfl, rfl, hin0, hncap, hcapm, hnm, HTO⟩ := hrel
    rename World => wr
    clear HT0
    by_cases hin : i < n
    · have hini : (i : Int) < (n : Int) := by omega
      have hi0 : (0 : Int) ≤ (i : Int) := by omega
      have hTO := unhide HTO
      obtain ⟨p, hpi⟩ : ∃ p, (bfsN nx s i)[i]? = some p := ⟨_, List.getElem?_eq_getElem (by rw [hTO.len]; exact hin)⟩
      have hokp : ok p := bfs_ok (unhide HOKS) (unhide HSTAY) i p (List.mem_of_getElem? hpi)
      obtain ⟨gx, cx, ex, -, hgxl, -, -, hcx⟩ := row_posT hTO.all (by omega)
      simp only [Value.slice.injEq, Option.some.injEq, Addr.mk.injEq, and_true, true_and] at ex
      obtain ⟨rfl, rfl⟩ := ex
      have hpc := (hcx i p hpi).2
      have hHS : ∀ u, Below wr.heap.size wr u → (u.cell? ⟨w.heap.size, 0, none⟩ = some (.int .i64 s.W) ∧ u.cell? ⟨w.heap.size, 1, none⟩ = some (.int .i64 s.H) ∧ u.cell? ⟨w.heap.size, 2, none⟩ = some (.string s.C) ∧ u.cell? ⟨w.heap.size, 3, none⟩ = some (.int .i64 s.T) ∧ u.cell? ⟨w.heap.size, 4, none⟩ = some (.string s.A) ∧ u.cell? ⟨w.heap.size, 5, none⟩ = some (.string s.B) ∧ u.cell? ⟨w.heap.size, 6, none⟩ = some (v6) ∧ u.cell? ⟨w.heap.size, 7, none⟩ = some (v7) ∧ u.cell? ⟨w.heap.size, 8, none⟩ = some (v8) ∧ u.cell? ⟨w.heap.size, 9, none⟩ = some (v9) ∧ u.cell? ⟨w.heap.size, 10, none⟩ = some (v10) ∧ u.cell? ⟨w.heap.size, 11, none⟩ = some (v11) ∧ u.cell? ⟨w.heap.size, 12, none⟩ = some (v12) ∧ u.cell? ⟨gN, i * 6, none⟩ = some (.int .i64 p.W) ∧ u.cell? ⟨gN, i * 6 + 1, none⟩ = some (.int .i64 p.H) ∧ u.cell? ⟨gN, i * 6 + 2, none⟩ = some (.string p.C) ∧ u.cell? ⟨gN, i * 6 + 3, none⟩ = some (.int .i64 p.T) ∧ u.cell? ⟨gN, i * 6 + 4, none⟩ = some (.string p.A) ∧ u.cell? ⟨gN, i * 6 + 5, none⟩ = some (.string p.B) ∧ Below wr.heap.size wr u) := fun u hu => by
        obtain ⟨x0, x1, x2, x3, x4, x5, x6, x7, x8, x9, x10, x11, x12⟩ := (unhide HRU u (hTO.bw.trans (hu.mono hTO.bw.size))).cells
        obtain ⟨y0, y1, y2, y3, y4, y5⟩ := hpc u (hu.block _ hgxl)
        exact ⟨x0, x1, x2, x3, x4, x5, x6, x7, x8, x9, x10, x11, x12, y0, y1, y2, y3, y4, y5, hu⟩
      have HS9 := hide hHS
      have HMC9 := hide (fun u (hu : Below wr.heap.size wr u) => unhide HMV p hokp u (unhide HUP u (hTO.bw.trans (hu.mono hTO.bw.size))))
      have HB0 : Hid (Below wr.heap.size wr wr.drew) := hide (Below.refl _ _).drew
      have HPI := hide hpi
      have HOKP := hide hokp
      have HGN : Hid (gN < wr.heap.size) := hide hgxl
      clear hHS hTO hpi hokp hcx hpc hgxl
      go_upto_region 9 with fail
      go_region_held3 (fun u => u.cell? ⟨w.heap.size, 0, none⟩ = some (.int .i64 s.W) ∧ u.cell? ⟨w.heap.size, 1, none⟩ = some (.int .i64 s.H) ∧ u.cell? ⟨w.heap.size, 2, none⟩ = some (.string s.C) ∧ u.cell? ⟨w.heap.size, 3, none⟩ = some (.int .i64 s.T) ∧ u.cell? ⟨w.heap.size, 4, none⟩ = some (.string s.A) ∧ u.cell? ⟨w.heap.size, 5, none⟩ = some (.string s.B) ∧ u.cell? ⟨w.heap.size, 6, none⟩ = some (v6) ∧ u.cell? ⟨w.heap.size, 7, none⟩ = some (v7) ∧ u.cell? ⟨w.heap.size, 8, none⟩ = some (v8) ∧ u.cell? ⟨w.heap.size, 9, none⟩ = some (v9) ∧ u.cell? ⟨w.heap.size, 10, none⟩ = some (v10) ∧ u.cell? ⟨w.heap.size, 11, none⟩ = some (v11) ∧ u.cell? ⟨w.heap.size, 12, none⟩ = some (v12) ∧ u.cell? ⟨gN, i * 6, none⟩ = some (.int .i64 p.W) ∧ u.cell? ⟨gN, i * 6 + 1, none⟩ = some (.int .i64 p.H) ∧ u.cell? ⟨gN, i * 6 + 2, none⟩ = some (.string p.C) ∧ u.cell? ⟨gN, i * 6 + 3, none⟩ = some (.int .i64 p.T) ∧ u.cell? ⟨gN, i * 6 + 4, none⟩ = some (.string p.A) ∧ u.cell? ⟨gN, i * 6 + 5, none⟩ = some (.string p.B) ∧ Below wr.heap.size wr u)
        (first
          | with_reducible exact unhide HS9 _ (unhide HB0)
          | with_reducible exact unhide HS9 _ (unhide HX))
        (first
          | (go_at_call 18; (with_reducible refine (unhide HMC9 _ (unhide HB0)).mono ?_); rintro e w7 ⟨mv, rfl, hmrow, hb7⟩
             have HX : Hid (Below wr.heap.size wr w7) := hide ((unhide HB0).trans (hb7.mono (unhide HB0).size))
             obtain ⟨mo, mc, rfl, hmn, hmx, hmcs⟩ := row_movT hmrow
             have HMC0 := hide hmcs
             clear hb7 hmrow hmcs))
      obtain ⟨M, hM⟩ : ∃ M, M = (L p).length := ⟨_, rfl⟩
      have HMB : Hid (M ≤ 4608 ∧ n ≤ 5000) := hide ⟨by rw [hM]; exact unhide HLEN p (unhide HOKP), by omega⟩
      have hT7 := (unhide HTO).below (unhide HX)
      have HGNL : Hid (gN < wr.heap.size) := HGN
      have HBL : Hid (b < wr.heap.size) := hide (unhide HTO).nm.lt
      have HMC : Hid (∀ (j : Nat) (m : Mv), (L p)[j]? = some m → ∃ g, mo = some ⟨g, 0, none⟩ ∧ wr.heap.size ≤ g ∧ g < w7.heap.size ∧ ∀ u : World, u.heap[g]? = w7.heap[g]? → u.cell? ⟨g, j * 3, none⟩ = some (.int .i64 m.f) ∧ u.cell? ⟨g, j * 3 + 1, none⟩ = some (.int .i64 (m.t : Int)) ∧ u.cell? ⟨g, j * 3 + 2, none⟩ = some (.int .u8 (m.c : Int))) := HMC0
      rw [← hM] at hmn ⊢
      obtain ⟨ps, hps⟩ : ∃ ps, ps = (L p).map (beh p) := ⟨_, rfl⟩
      have HPS := hide hps
      have HNXP : Hid (nx p = (L p).map (beh p)) := hide (unhide HNX p (unhide HOKP))
      have HPSN : Hid (ps = nx p) := hide (by rw [hps, unhide HNXP])
      have HPSL : Hid (ps.length = M) := hide (by rw [hps, List.length_map, hM])
      have HM := hide hM
      have HI7 := hide hT7.inner
      have HLN7 := hide hT7.len
      have HT7 := hide hT7
      unfold maxLen at hmx
      clear hT7 hps hM HMC0 HS9 HMC9 HB0 HTO
      go_wp2

      -- the inner loop
      go_loopw [6, 11, 12] (fun lv tv kv wq => ∃ (k gQ cQ n2 tc : Nat) (to_ : Option Addr), lv = .slice (some ⟨gQ, 0, none⟩) n2 cQ ∧ tv = .slice to_ k tc ∧ kv = .int .i64 (k : Int) ∧ k ≤ M ∧ n2 ≤ cQ ∧ cQ ≤ 9223372036854775807 ∧ i < n2 ∧ n2 ≤ n + k ∧ Hid ((extL (bfsN nx s i) (ps.take k)).length = n2) ∧ Hid (TbI w1.heap.size b gN w1 w7 (extL (bfsN nx s i) (ps.take k)) (.slice (some ⟨gQ, 0, none⟩) n2 cQ) (.slice to_ k tc) ((ps.take k).map (extL (bfsN nx s i) (ps.take k)).idxOf) wq)) (fun _ _ kv _ => M - (intOf kv).toNat)
      case atStart => exact ⟨0, gN, cN, n, 0, none, rfl, rfl, rfl, Nat.zero_le _, hncap, hcapm, hin, by omega, hide (by rw [List.take_zero, ext_nil]; exact unhide HLN7), hide (by rw [List.take_zero]; exact unhide HI7)⟩
      case round =>
        obtain ⟨k, gQ, cQ, n2, tc, to_, rfl, rfl, rfl, hk, hnc, hcm, hiq, hnk, HLQ, HIQ⟩ := hrel
        rename World => wq
        clear HI7
        by_cases hkM : k < M
        · have hkMi : (k : Int) < (M : Int) := by omega
          have hk0 : (0 : Int) ≤ (k : Int) := by omega
          obtain ⟨m, hm⟩ : ∃ m, (L p)[k]? = some m := ⟨_, List.getElem?_eq_getElem (by rw [← unhide HM]; exact hkM)⟩
          have hmem := List.mem_of_getElem? hm
          obtain ⟨q, hqd⟩ : ∃ q, q = beh p m := ⟨_, rfl⟩
          have hq : ps[k]? = some q := by rw [unhide HPS, List.getElem?_map, hm, hqd]; rfl
          have hqn : q ∈ nx p := by rw [unhide HNXP, ← unhide HPS]; exact List.mem_of_getElem? hq
          have hqo : ok q := unhide HSTAY p (unhide HOKP) q hqn
          have hqok : q.ok := unhide HOK q hqo
          obtain ⟨gm, hmo, hgm1, hgm2, hmc⟩ := unhide HMC k m hm
          subst hmo
          have hIQ := unhide HIQ
          have hgmb : wq.heap[gm]? = w7.heap[gm]? := hIQ.fr gm hgm2 (by have := unhide HGNL; omega) (by have := unhide HBL; omega)
          obtain ⟨rr, hrr⟩ := ext_pre (bfsN nx s i) (ps.take k)
          have hpa : (extL (bfsN nx s i) (ps.take k))[i]? = some p := by rw [hrr, List.getElem?_append_left (List.getElem?_eq_some_iff.1 (unhide HPI)).1]; exact unhide HPI
          have hall := hIQ.all
          rw [unhide HLQ] at hall
          obtain ⟨gx, cx, ex, -, hgxl, -, -, hcx⟩ := row_posT hall (by omega)
          simp only [Value.slice.injEq, Option.some.injEq, Addr.mk.injEq, and_true, true_and] at ex
          obtain ⟨rfl, rfl⟩ := ex
          have hpc := (hcx i p hpa).2
          have hHS : ∀ u, Below wq.heap.size wq u → (u.cell? ⟨w.heap.size, 0, none⟩ = some (.int .i64 s.W) ∧ u.cell? ⟨w.heap.size, 1, none⟩ = some (.int .i64 s.H) ∧ u.cell? ⟨w.heap.size, 2, none⟩ = some (.string s.C) ∧ u.cell? ⟨w.heap.size, 3, none⟩ = some (.int .i64 s.T) ∧ u.cell? ⟨w.heap.size, 4, none⟩ = some (.string s.A) ∧ u.cell? ⟨w.heap.size, 5, none⟩ = some (.string s.B) ∧ u.cell? ⟨w.heap.size, 6, none⟩ = some (v6) ∧ u.cell? ⟨w.heap.size, 7, none⟩ = some (v7) ∧ u.cell? ⟨w.heap.size, 8, none⟩ = some (v8) ∧ u.cell? ⟨w.heap.size, 9, none⟩ = some (v9) ∧ u.cell? ⟨w.heap.size, 10, none⟩ = some (v10) ∧ u.cell? ⟨w.heap.size, 11, none⟩ = some (v11) ∧ u.cell? ⟨w.heap.size, 12, none⟩ = some (v12) ∧ u.cell? ⟨gQ, i * 6, none⟩ = some (.int .i64 p.W) ∧ u.cell? ⟨gQ, i * 6 + 1, none⟩ = some (.int .i64 p.H) ∧ u.cell? ⟨gQ, i * 6 + 2, none⟩ = some (.string p.C) ∧ u.cell? ⟨gQ, i * 6 + 3, none⟩ = some (.int .i64 p.T) ∧ u.cell? ⟨gQ, i * 6 + 4, none⟩ = some (.string p.A) ∧ u.cell? ⟨gQ, i * 6 + 5, none⟩ = some (.string p.B) ∧ u.cell? ⟨gm, k * 3, none⟩ = some (.int .i64 m.f) ∧ u.cell? ⟨gm, k * 3 + 1, none⟩ = some (.int .i64 (m.t : Int)) ∧ u.cell? ⟨gm, k * 3 + 2, none⟩ = some (.int .u8 (m.c : Int)) ∧ Below wq.heap.size wq u) := fun u hu => by
            obtain ⟨x0, x1, x2, x3, x4, x5, x6, x7, x8, x9, x10, x11, x12⟩ := (unhide HRU u (hIQ.bw.trans (hu.mono hIQ.bw.size))).cells
            obtain ⟨y0, y1, y2, y3, y4, y5⟩ := hpc u (hu.block _ hgxl)
            obtain ⟨z0, z1, z2⟩ := hmc u ((hu.block gm (Nat.lt_of_lt_of_le hgm2 hIQ.sz)).trans hgmb)
            exact ⟨x0, x1, x2, x3, x4, x5, x6, x7, x8, x9, x10, x11, x12, y0, y1, y2, y3, y4, y5, z0, z1, z2, hu⟩
          have HS := hide hHS
          have HMD : Hid (∀ u, Below wq.heap.size wq u → Calls Tryz.prog 19 #[.agg #[.int .i64 s.W, .int .i64 s.H, .string s.C, .int .i64 s.T, .string s.A, .string s.B, v6, v7, v8, v9, v10, v11, v12], .agg #[.int .i64 p.W, .int .i64 p.H, .string p.C, .int .i64 p.T, .string p.A, .string p.B], .agg #[.int .i64 m.f, .int .i64 (m.t : Int), .int .u8 (m.c : Int)]] u fun e w' => e = .returned (.agg #[.int .i64 q.W, .int .i64 q.H, .string q.C, .int .i64 q.T, .string q.A, .string q.B]) ∧ Below u.heap.size u w') := hide (fun u hu => by
            rw [hqd]
            exact unhide HMADE p (unhide HOKP) m hmem u (unhide HUP u (hIQ.bw.trans (hu.mono hIQ.bw.size))))
          have HB0 : Hid (Below wq.heap.size wq wq.drew) := hide (Below.refl _ _).drew
          have HBA : Hid (∀ o, Below wq.heap.size wq (wq.alloc o).drew) := hide fun o => ((Below.refl _ _).alloc (Nat.le_refl _) o).drew
          have HBA2 : Hid (∀ o, Below wq.heap.size wq (wq.drew.alloc o)) := hide fun o => (unhide HB0).alloc (unhide HB0).size o
          have hi0 : (0 : Int) ≤ (i : Int) := by omega
          have hiqi : (i : Int) < (n2 : Int) := by omega
          have HQ := hide hq
          have HQOK := hide hqok
          have HPA := hide hpa
          have HMEM := hide hmem
          clear hHS hm hmem hqd hq hqn hqo hqok hgm1 hgm2 hmc hIQ hgmb hrr hpa hall hgxl hcx hpc
          go_upto_region 14 with fail
          apply cutForT (fun bx v => isPb v bx q.W q.H q.T q.C q.A q.B ∧ Below wq.heap.size wq v ∧ wq.heap.size ≤ bx)
          case k =>
            intro key
            go_region_held3 (fun u => u.cell? ⟨w.heap.size, 0, none⟩ = some (.int .i64 s.W) ∧ u.cell? ⟨w.heap.size, 1, none⟩ = some (.int .i64 s.H) ∧ u.cell? ⟨w.heap.size, 2, none⟩ = some (.string s.C) ∧ u.cell? ⟨w.heap.size, 3, none⟩ = some (.int .i64 s.T) ∧ u.cell? ⟨w.heap.size, 4, none⟩ = some (.string s.A) ∧ u.cell? ⟨w.heap.size, 5, none⟩ = some (.string s.B) ∧ u.cell? ⟨w.heap.size, 6, none⟩ = some (v6) ∧ u.cell? ⟨w.heap.size, 7, none⟩ = some (v7) ∧ u.cell? ⟨w.heap.size, 8, none⟩ = some (v8) ∧ u.cell? ⟨w.heap.size, 9, none⟩ = some (v9) ∧ u.cell? ⟨w.heap.size, 10, none⟩ = some (v10) ∧ u.cell? ⟨w.heap.size, 11, none⟩ = some (v11) ∧ u.cell? ⟨w.heap.size, 12, none⟩ = some (v12) ∧ u.cell? ⟨gQ, i * 6, none⟩ = some (.int .i64 p.W) ∧ u.cell? ⟨gQ, i * 6 + 1, none⟩ = some (.int .i64 p.H) ∧ u.cell? ⟨gQ, i * 6 + 2, none⟩ = some (.string p.C) ∧ u.cell? ⟨gQ, i * 6 + 3, none⟩ = some (.int .i64 p.T) ∧ u.cell? ⟨gQ, i * 6 + 4, none⟩ = some (.string p.A) ∧ u.cell? ⟨gQ, i * 6 + 5, none⟩ = some (.string p.B) ∧ u.cell? ⟨gm, k * 3, none⟩ = some (.int .i64 m.f) ∧ u.cell? ⟨gm, k * 3 + 1, none⟩ = some (.int .i64 (m.t : Int)) ∧ u.cell? ⟨gm, k * 3 + 2, none⟩ = some (.int .u8 (m.c : Int)) ∧ Below wq.heap.size wq u)
              (first
                | with_reducible exact unhide HS _ (unhide HB0)
                | with_reducible exact unhide HS _ (unhide HBA _)
                | with_reducible exact unhide HS _ (unhide HBA2 _)
                | with_reducible exact unhide HS _ (unhide HBX)
                | with_reducible exact unhide HS _ (unhide HBXA _)
                | with_reducible exact unhide HS _ (unhide HBXS _ _ _ _ _ _)
                | with_reducible exact unhide HS _ (unhide HBXS2 _ _ _ _ _ _ _))
              (first
                | (go_at_call 19; (first | (with_reducible refine (unhide HMD _ (unhide HB0)).mono ?_) | (with_reducible refine (unhide HMD _ (unhide HBA _)).mono ?_) | (with_reducible refine (unhide HMD _ (unhide HBA2 _)).mono ?_)); rintro e wx ⟨rfl, hb⟩
                   have HBX : Hid (Below wq.heap.size wq wx) := hide (by first | exact (unhide HB0).trans (hb.mono (unhide HB0).size) | exact (unhide HBA _).trans (hb.mono (unhide HBA _).size) | exact (unhide HBA2 _).trans (hb.mono (unhide HBA2 _).size))
                   have HBXA : Hid (∀ o, Below wq.heap.size wq (wx.alloc o)) := hide (fun o => (unhide HBX).alloc (unhide HBX).size o)
                   have HBXS : Hid (∀ x0 x1 x2 x3 x4 x5 : Value, Below wq.heap.size wq ((((((wx.setCell ⟨wq.heap.size, 0, none⟩ x0).setCell ⟨wq.heap.size, 1, none⟩ x1).setCell ⟨wq.heap.size, 2, none⟩ x2).setCell ⟨wq.heap.size, 3, none⟩ x3).setCell ⟨wq.heap.size, 4, none⟩ x4).setCell ⟨wq.heap.size, 5, none⟩ x5)) := hide (fun x0 x1 x2 x3 x4 x5 => below_setT (unhide HBX) (Nat.le_refl _) x0 x1 x2 x3 x4 x5)
                   have HBXS2 : Hid (∀ o (x0 x1 x2 x3 x4 x5 : Value), Below wq.heap.size wq (((((((wx.alloc o).setCell ⟨wx.heap.size, 0, none⟩ x0).setCell ⟨wx.heap.size, 1, none⟩ x1).setCell ⟨wx.heap.size, 2, none⟩ x2).setCell ⟨wx.heap.size, 3, none⟩ x3).setCell ⟨wx.heap.size, 4, none⟩ x4).setCell ⟨wx.heap.size, 5, none⟩ x5)) := hide (fun o x0 x1 x2 x3 x4 x5 => below_setT (unhide HBXA o) (unhide HBX).size x0 x1 x2 x3 x4 x5)
                   try (have HXZ : Hid (isPb wx wq.heap.size 0 0 0 ⟨#[]⟩ ⟨#[]⟩ ⟨#[]⟩) := hide ((hb.block wq.heap.size (by simp)).trans (heap_alloc_new wq _)); obtain ⟨x0, x1, x2, x3, x4, x5⟩ := (unhide HXZ).all; have xf0 := (unhide HXZ).frozenT 0; have xf1 := (unhide HXZ).frozenT 1; have xf2 := (unhide HXZ).frozenT 2; have xf3 := (unhide HXZ).frozenT 3; have xf4 := (unhide HXZ).frozenT 4; have xf5 := (unhide HXZ).frozenT 5)
                   clear hb))
            all_goals first
              | (have hfin : isPb (wx.alloc (.cells #[.int .i64 q.W, .int .i64 q.H, .string q.C, .int .i64 q.T, .string q.A, .string q.B] 24 (0, 0))) wx.heap.size q.W q.H q.T q.C q.A q.B ∧ Below wq.heap.size wq (wx.alloc (.cells #[.int .i64 q.W, .int .i64 q.H, .string q.C, .int .i64 q.T, .string q.A, .string q.B] 24 (0, 0))) ∧ wq.heap.size ≤ wx.heap.size := ⟨heap_alloc_new wx _, unhide HBXA _, (unhide HBX).size⟩
                 generalize wx.alloc (.cells #[.int .i64 q.W, .int .i64 q.H, .string q.C, .int .i64 q.T, .string q.A, .string q.B] 24 (0, 0)) = v at hfin ⊢
                 generalize wx.heap.size = bx at hfin ⊢
                 exact unhide key bx v hfin)
              | (have hfin := And.intro ((unhide HXZ).setAllT q.W q.H q.T q.C q.A q.B) (And.intro (unhide HBXS (.int .i64 q.W) (.int .i64 q.H) (.string q.C) (.int .i64 q.T) (.string q.A) (.string q.B)) (Nat.le_refl wq.heap.size))
                 generalize ((((((wx.setCell ⟨wq.heap.size, 0, none⟩ (.int .i64 q.W)).setCell ⟨wq.heap.size, 1, none⟩ (.int .i64 q.H)).setCell ⟨wq.heap.size, 2, none⟩ (.string q.C)).setCell ⟨wq.heap.size, 3, none⟩ (.int .i64 q.T)).setCell ⟨wq.heap.size, 4, none⟩ (.string q.A)).setCell ⟨wq.heap.size, 5, none⟩ (.string q.B)) = v at hfin ⊢
                 obtain ⟨bx, hbxe⟩ : ∃ bx, bx = wq.heap.size := ⟨_, rfl⟩
                 rw [← hbxe]
                 exact unhide key bx v (by rw [hbxe]; exact hfin))
          rintro bx v ⟨hxb, hbv, hbx⟩
          have hIv := (unhide HIQ).below hbv
          have hbxl := hxb.lt
          obtain ⟨x0, x1, x2, x3, x4, x5⟩ := hxb.all
          obtain ⟨acc, hacc⟩ : ∃ acc, acc = extL (bfsN nx s i) (ps.take k) := ⟨_, rfl⟩
          rw [← hacc] at hIv
          have hal : acc.length = n2 := by rw [hacc]; exact unhide HLQ
          have hlk := hIv.nm.look_all (unhide HQOK) v rfl
          have htl : ((ps.take k).map acc.idxOf).length = k := by rw [List.length_map, List.length_take]; have := unhide HPSL; omega
          have hinA : ∀ x ∈ ps.take k, x ∈ acc := fun x hx => by rw [hacc]; exact ext_mem.2 (.inr hx)
          have hn2b : n2 < 90000 := by have := unhide HMB; omega
          by_cases hinq : q ∈ acc
          · obtain ⟨j, hj⟩ : ∃ j, j = acc.idxOf q := ⟨_, rfl⟩
            obtain ⟨j1, hj1⟩ : ∃ j1, j1 = j + 1 := ⟨_, rfl⟩
            rw [if_pos hinq, ← hj, ← hj1] at hlk
            have hjl : j < n2 := by rw [hj, ← hal]; exact List.idxOf_lt_length_of_mem hinq
            have hjz : ((j1 : Int) == 0) = false := by simp; omega
            have hj1e : (j1 : Int) - 1 = (j : Int) := by omega
            have wj : IntKind.i64.wrap (j : Int) = (j : Int) := by unfold IntKind.wrap; simp [IntKind.signed, IntKind.bits]; omega
            obtain ⟨v2, u2, hrun, hI2, ⟨g2, c2, rfl⟩, -⟩ := hIv.num j (by rw [htl]; have := unhide HMB; omega)
            rw [htl] at hI2 hrun
            have hadd : addL acc q = acc := by unfold addL; rw [if_pos hinq]
            have htk := ext_take (acc := bfsN nx s i) (unhide HQ)
            rw [← hacc, hadd] at htk
            have hts := tl_step (unhide HQ) hinA
            rw [hadd, ← hj] at hts
            rw [← hts, ← htk] at hI2
            have hl2 : (extL (bfsN nx s i) (ps.take (k + 1))).length = n2 := by rw [htk]; exact hal
            have HNEW := hide hI2
            have HL2 := hide hl2
            clear hIv hxb hbv hbx hbxl hacc hal htl hinA hinq hj hj1 hjl hadd htk hts hI2 hl2 HIQ HLQ HS HMD HB0 HBA HBA2
            go_wp2_with (first | (at_builtin; refine wpList_appRun rfl _ _ 52 rfl _ _ _ _ rfl rfl hrun ?_) | go_in)
            go_roundw
            case rel => exact ⟨k + 1, gQ, cQ, n2, c2, _, rfl, rfl, by go_num, by omega, hnc, hcm, hiq, by omega, HL2, HNEW⟩
            case measure => simp only [intOf]; omega
          · rw [if_neg hinq] at hlk
            obtain ⟨v3, u1, u2, hr1, hr2, hI2, ⟨gA, cA, rfl⟩, hk1, hs1, hk2, hs2⟩ := hIv.new (unhide HQOK) hinq (by omega)
            rw [hal] at hr1 hr2
            have hav : (Value.slice (some ⟨gQ, 0, none⟩) n2 cQ).ownBlock ≠ some bx := fun e => by
              have := row_block hIv.all e
              have h3 := (row_block (unhide HIQ).all e).2
              omega
            have hbb : bx ≠ b := by have := (unhide HIQ).nm.lt; omega
            have hx1 : isPb u1 bx q.W q.H q.T q.C q.A q.B := (hk1 bx hbxl hav).trans hxb
            have hx2 : isPb u2 bx q.W q.H q.T q.C q.A q.B := (hk2 bx hbxl hav hbb).trans hxb
            obtain ⟨y0, y1, y2, y3, y4, y5⟩ := hx1.all
            obtain ⟨z0, z1, z2, z3, z4, z5⟩ := hx2.all
            have hadd : addL acc q = acc ++ [q] := by unfold addL; rw [if_neg hinq]
            have hlk2 := hI2.nm.look_all (unhide HQOK) u2 rfl
            obtain ⟨n3, hn3⟩ : ∃ n3, n3 = n2 + 1 := ⟨_, rfl⟩
            rw [if_pos (by simp), idx_new hinq, hal, ← hn3] at hlk2
            rw [← hn3] at hr2
            obtain ⟨v4, u3, hr4, hI4, ⟨g2, c2, rfl⟩, -⟩ := hI2.num n2 (by rw [htl]; have := unhide HMB; omega)
            rw [htl] at hI4 hr4
            have htk := ext_take (acc := bfsN nx s i) (unhide HQ)
            rw [← hacc, hadd] at htk
            have hts := tl_step (unhide HQ) hinA
            rw [hadd, idx_new hinq, hal] at hts
            have hall2 := hI2.all
            rw [List.length_append, hal, List.length_singleton] at hall2
            have hcA : n2 + 1 ≤ cA ∧ cA ≤ maxLen := by
              rcases hall2.2 with ⟨e, _⟩ | ⟨g', c', cur, e, _, _, h1, h2, _⟩
              · simp at e
              · simp only [Value.slice.injEq, Option.some.injEq, Addr.mk.injEq, and_true, true_and] at e
                obtain ⟨-, -, rfl⟩ := e
                exact ⟨h1, h2⟩
            unfold maxLen at hcA
            rw [show (ps.take k).map acc.idxOf ++ [n2] = (ps.take (k + 1)).map (acc ++ [q]).idxOf from hts.symm, ← htk] at hI4
            have hl2 : (extL (bfsN nx s i) (ps.take (k + 1))).length = n3 := by rw [htk, List.length_append, hal, hn3]; rfl
            rw [hal, ← hn3] at hI4
            rw [← hn3] at hr1
            have hn31 : (n3 : Int) - 1 = (n2 : Int) := by omega
            have wn2 : IntKind.i64.wrap (n2 : Int) = (n2 : Int) := by unfold IntKind.wrap; simp [IntKind.signed, IntKind.bits]; omega
            have hn3c : n3 ≤ cA := by omega
            have hcA2 := hcA.2
            have hin3 : i < n3 := by omega
            have hnk3 : n3 ≤ n + (k + 1) := by omega
            have HNEW := hide hI4
            have HL2 := hide hl2
            clear hIv hxb hbv hbx hbxl hacc hal htl hinA hinq hadd htk hts hl2 HIQ HLQ HS HMD HB0 HBA HBA2 hI2 hk1 hs1 hk2 hs2 hav hbb hx1 hx2 hall2 hcA hI4 hn3
            go_wp2_with (first | (at_builtin; first | refine wpList_appRun rfl _ _ 52 rfl _ _ _ _ rfl rfl hr4 ?_ | refine wpList_appRun rfl _ _ 58 rfl _ _ _ _ rfl rfl hr1 ?_) | go_in)
            go_roundw
            case rel => exact ⟨k + 1, gA, cA, n3, c2, _, rfl, rfl, by go_num, by omega, hn3c, hcA2, hin3, hnk3, HL2, HNEW⟩
            case measure => simp only [intOf]; omega
        · have hkMi : ¬ (k : Int) < (M : Int) := by omega
          have hkM2 : k = M := by omega
          have htkM : ps.take k = ps := List.take_of_length_le (by rw [unhide HPSL]; omega)
          have hIQ := unhide HIQ
          have hLQ := unhide HLQ
          rw [htkM] at hIQ hLQ
          rw [unhide HPSN] at hIQ hLQ
          by_cases hbig : most < n2
          · have hbi : (most : Int) < (n2 : Int) := by omega
            have HFIN : Hid (TdE nx ev s most w (.returned (.tuple #[.slice none 0 0, .int .i64 2])) wq) := hide ⟨unhide HUP wq hIQ.bw, .inl ⟨⟨i + 1, by rw [bfs_step (unhide HPI)]; omega⟩, rfl⟩⟩
            clear hIQ hLQ htkM hkM2 HIQ HLQ
            go_wp2
            refine bodyPost_ret (v := .tuple #[.slice none 0 0, .int .i64 2]) (by simp [results, Tryz.results6, go_sem]) rfl ?_
            exact unhide HFIN
          · have hbi : ¬ (most : Int) < (n2 : Int) := by omega
            obtain ⟨v5, u5, hr5, hT5, g5, c5, rfl⟩ := (unhide HT7).next (unhide HPI) hIQ hLQ (by omega)
            have HT5 := hide hT5
            clear hIQ hLQ htkM hkM2 HIQ HLQ hT5
            go_wp2_with (first | (at_builtin; refine wpList_appRun rfl _ _ 59 rfl _ _ _ _ rfl rfl hr5 ?_) | go_in)
            go_roundw
            case rel => exact ⟨i + 1, gQ, cQ, n2, c5, _, rfl, rfl, by go_num, by omega, hnc, hcm, by omega, HT5⟩
            case measure => simp only [intOf]; omega

    · have hini : ¬ (i : Int) < (n : Int) := by omega
      have hie : n = i := by omega
      subst hie
      obtain ⟨i0, hinfo, hz0, hz1, hz2⟩ := info_parts infoEn
      have hTO := unhide HTO
      have hwwr := (unhide HUP wr hTO.bw).size
      have hn1 : 1 ≤ n := by have := bfs_pos (nx := nx) (s := s) n; rw [hTO.len] at this; exact this
      obtain ⟨w9, hmk, hrow9, hg9⟩ := run_makeSlice_full (P := Tryz.prog) (w := wr) w.heap.size 28 34 i0 _ 8 Tryz.underlying28 hinfo hz0 hz1 .i64 .i64 n (by omega) (by rw [hz2]; omega) (by unfold maxLen; omega) hwwr
      obtain ⟨g, hg⟩ : ∃ g, g = wr.heap.size := ⟨_, rfl⟩
      have hmk' : (Instr.makeSlice 28 (.int .i64 (n : Int)) (.int .i64 (n : Int))).run Tryz.prog wr = .ok (.slice (some ⟨g, 0, none⟩) n n) w9 := by rw [hg]; exact hmk
      rw [← hg] at hrow9
      obtain ⟨all, hall⟩ : ∃ all, all = bfsN nx s n := ⟨_, rfl⟩
      obtain ⟨nxt, hnxt⟩ : ∃ nxt, nxt = nxtG nx all := ⟨_, rfl⟩
      obtain ⟨v0, hvv⟩ : ∃ v0, v0 = v0G nx ev all := ⟨_, rfl⟩
      obtain ⟨A0, hA0⟩ : ∃ A0, A0 = rds nxt v0 0 := ⟨_, rfl⟩
      have HALE := hide hall
      have HNXT := hide hnxt
      have HVV := hide hvv
      have HA0 : Hid (A0 = rds nxt (v0G nx ev all) 0) := hide (by rw [hA0, hvv])
      have HALN : Hid (all.length = n) := hide (by rw [hall]; exact hTO.len)
      have HALND : Hid all.Nodup := hide (by rw [hall]; exact bfs_nodup n)
      have HALOK : Hid (∀ p ∈ all, ok p) := hide (by rw [hall]; exact bfs_ok (unhide HOKS) (unhide HSTAY) n)
      have HNIN : Hid (∀ i, i < n → ∀ j ∈ nxt i, j < n) := hide (fun i hi j hj => by
        rw [hnxt] at hj
        obtain ⟨p, hp⟩ : ∃ p, all[i]? = some p := ⟨_, List.getElem?_eq_getElem (by rw [unhide HALN]; exact hi)⟩
        unfold nxtG sucL at hj
        rw [hp] at hj
        obtain ⟨q, hq, rfl⟩ := List.mem_map.1 hj
        have hqa : q ∈ all := by
          rw [hall]
          exact bfs_closed (by rw [hTO.len]; exact Nat.le_refl _) (by rw [← hall]; exact List.mem_of_getElem? hp) hq
        have h3 := List.idxOf_lt_length_of_mem hqa
        rw [unhide HALN] at h3
        exact h3)
      have HE0 : Hid (EnR w9 w.heap.size g n ((enF all A0).take 0) (madeCells (Value.agg #[.int .i64 0, .int .i64 0, .string ⟨#[]⟩, .int .i64 0, .string ⟨#[]⟩, .string ⟨#[]⟩, .int .i64 0, .int .i64 0]).cells (n * 8)).toList) := hide ⟨by rw [List.take_zero]; have := hrow9.1; simpa using this, by simpa [evs] using hrow9⟩
      have HG0 : Hid (w9.grownBy w9 (some g)) := hide ⟨rfl, rfl, rfl, Nat.le_refl _, fun _ _ _ => rfl⟩
      have HFR : Hid (∀ u, w9.grownBy u (some g) → TbO nx s b w1 n gN cN n (.slice no n nc) u ∧ ∀ (i : Nat) (p : Po), all[i]? = some p → ∀ v : World, v.heap[gN]? = u.heap[gN]? → v.cell? ⟨gN, i * 6, none⟩ = some (.int .i64 p.W) ∧ v.cell? ⟨gN, i * 6 + 1, none⟩ = some (.int .i64 p.H) ∧ v.cell? ⟨gN, i * 6 + 2, none⟩ = some (.string p.C) ∧ v.cell? ⟨gN, i * 6 + 3, none⟩ = some (.int .i64 p.T) ∧ v.cell? ⟨gN, i * 6 + 4, none⟩ = some (.string p.A) ∧ v.cell? ⟨gN, i * 6 + 5, none⟩ = some (.string p.B)) := hide (fun u hu => by
        have hbu : Below wr.heap.size wr u := ⟨hu.os.trans hg9.os, hu.tape.trans hg9.tape, hu.output.trans hg9.output, Nat.le_trans hg9.size hu.size, fun k hk => (hu.block k (Nat.lt_of_lt_of_le hk hg9.size) (by simp; omega)).trans (hg9.block k hk (by simp))⟩
        have hTu := hTO.below hbu
        refine ⟨hTu, fun i p hp v hv => ?_⟩
        obtain ⟨gx, cx, ex, -, -, -, -, hcx⟩ := row_posT hTu.all (by omega)
        simp only [Value.slice.injEq, Option.some.injEq, Addr.mk.injEq, and_true, true_and] at ex
        obtain ⟨rfl, rfl⟩ := ex
        rw [hall] at hp
        exact (hcx i p hp).2 v hv)
      have HBS : Hid (w.heap.size ≤ wr.heap.size) := hide hwwr
      have HG9S : Hid (wr.heap.size ≤ w9.heap.size) := hide hg9.size
      have hA0e : Hid (A0 = rds nxt v0 0) := hide hA0
      clear hTO hwwr hmk hrow9 hg9 hg hall hnxt hvv hA0 hinfo hz0 hz1 hz2 HTO HMV HMADE HLEN HNX
      go_wp2
      go_loopw [15] (fun iv wr2 => ∃ (i : Nat) (r : List Value), i ≤ n ∧ iv = .int .i64 (i : Int) ∧ Hid (EnR wr2 w.heap.size g n ((enF all A0).take i) r) ∧ Hid (w9.grownBy wr2 (some g))) (fun iv _ => n - (intOf iv).toNat)
      case atStart => exact ⟨0, _, Nat.zero_le _, rfl, HE0, HG0⟩
      case round =>
        obtain ⟨i, r, hi, rfl, HE, HG⟩ := hrel
        rename World => wr2
        clear HE0 HG0
        by_cases hlt : i < n
        · have hlti : (i : Int) < (n : Int) := by omega
          have hi0 : (0 : Int) ≤ (i : Int) := by omega
          obtain ⟨p, hp⟩ : ∃ p, all[i]? = some p := ⟨_, List.getElem?_eq_getElem (by rw [unhide HALN]; exact hlt)⟩
          have hokp : ok p := unhide HALOK p (List.mem_of_getElem? hp)
          have hE := unhide HE
          have hl0 : ((enF all A0).take i).length = i := by rw [List.length_take, enF_len, unhide HALN]; omega
          obtain ⟨hEi, hgi⟩ := hE.push (p, 0, 0) i hl0.symm hlt
          obtain ⟨wi, hwi⟩ : ∃ wi, wi = ((((((((wr2.setCell ⟨g, i * 8, none⟩ (.int .i64 p.W)).setCell ⟨g, i * 8 + 1, none⟩ (.int .i64 p.H)).setCell ⟨g, i * 8 + 2, none⟩ (.string p.C)).setCell ⟨g, i * 8 + 3, none⟩ (.int .i64 p.T)).setCell ⟨g, i * 8 + 4, none⟩ (.string p.A)).setCell ⟨g, i * 8 + 5, none⟩ (.string p.B)).setCell ⟨g, i * 8 + 6, none⟩ (.int .i64 0)).setCell ⟨g, i * 8 + 7, none⟩ (.int .i64 0)) := ⟨_, rfl⟩
          have hEi' : EnR wi w.heap.size g n ((enF all A0).take i ++ [(p, 0, 0)]) (r.drop 8) := by rw [hwi]; exact hEi
          have hgi' : wr2.grownBy wi (some g) := by rw [hwi]; exact hgi
          obtain ⟨hTr, hcr⟩ := unhide HFR wr2 (unhide HG)
          obtain ⟨hTi, hci⟩ := unhide HFR wi (grown_trans (unhide HG) hgi')
          obtain ⟨d0, d1, d2, d3, d4, d5⟩ := hcr i p hp wr2 rfl
          have hpi := hci i p hp
          obtain ⟨⟨t0, s0⟩, f0⟩ := hE.any (i * 8) (by omega)
          obtain ⟨⟨t1, s1⟩, f1⟩ := hE.any (i * 8 + 1) (by omega)
          obtain ⟨⟨t2, s2⟩, f2⟩ := hE.any (i * 8 + 2) (by omega)
          obtain ⟨⟨t3, s3⟩, f3⟩ := hE.any (i * 8 + 3) (by omega)
          obtain ⟨⟨t4, s4⟩, f4⟩ := hE.any (i * 8 + 4) (by omega)
          obtain ⟨⟨t5, s5⟩, f5⟩ := hE.any (i * 8 + 5) (by omega)
          obtain ⟨⟨t6, s6⟩, f6⟩ := hE.any (i * 8 + 6) (by omega)
          obtain ⟨⟨t7, s7⟩, f7⟩ := hE.any (i * 8 + 7) (by omega)
          have hgNl : gN < wi.heap.size := (row_block hTi.all rfl).2
          have hHS : ∀ u, Below wi.heap.size wi u → (u.cell? ⟨w.heap.size, 0, none⟩ = some (.int .i64 s.W) ∧ u.cell? ⟨w.heap.size, 1, none⟩ = some (.int .i64 s.H) ∧ u.cell? ⟨w.heap.size, 2, none⟩ = some (.string s.C) ∧ u.cell? ⟨w.heap.size, 3, none⟩ = some (.int .i64 s.T) ∧ u.cell? ⟨w.heap.size, 4, none⟩ = some (.string s.A) ∧ u.cell? ⟨w.heap.size, 5, none⟩ = some (.string s.B) ∧ u.cell? ⟨w.heap.size, 6, none⟩ = some (v6) ∧ u.cell? ⟨w.heap.size, 7, none⟩ = some (v7) ∧ u.cell? ⟨w.heap.size, 8, none⟩ = some (v8) ∧ u.cell? ⟨w.heap.size, 9, none⟩ = some (v9) ∧ u.cell? ⟨w.heap.size, 10, none⟩ = some (v10) ∧ u.cell? ⟨w.heap.size, 11, none⟩ = some (v11) ∧ u.cell? ⟨w.heap.size, 12, none⟩ = some (v12) ∧ u.cell? ⟨gN, i * 6, none⟩ = some (.int .i64 p.W) ∧ u.cell? ⟨gN, i * 6 + 1, none⟩ = some (.int .i64 p.H) ∧ u.cell? ⟨gN, i * 6 + 2, none⟩ = some (.string p.C) ∧ u.cell? ⟨gN, i * 6 + 3, none⟩ = some (.int .i64 p.T) ∧ u.cell? ⟨gN, i * 6 + 4, none⟩ = some (.string p.A) ∧ u.cell? ⟨gN, i * 6 + 5, none⟩ = some (.string p.B) ∧ Below wi.heap.size wi u) := fun u hu => by
            obtain ⟨x0, x1, x2, x3, x4, x5, x6, x7, x8, x9, x10, x11, x12⟩ := (unhide HRU u (hTi.bw.trans (hu.mono hTi.bw.size))).cells
            obtain ⟨y0, y1, y2, y3, y4, y5⟩ := hpi u (hu.block _ hgNl)
            exact ⟨x0, x1, x2, x3, x4, x5, x6, x7, x8, x9, x10, x11, x12, y0, y1, y2, y3, y4, y5, hu⟩
          have HS27 := hide hHS
          have HEC := hide (fun u (hu : Below wi.heap.size wi u) => unhide HEN p hokp u (unhide HUP u (hTi.bw.trans (hu.mono hTi.bw.size))))
          have HB0 : Hid (Below wi.heap.size wi wi.drew) := hide (Below.refl _ _).drew
          have HVAL : Hid (((A0 i).1 : Int) = endW (o p) p.T) := hide (by rw [unhide HA0]; exact v0G_val hp (unhide HEV1 p hokp) (unhide HV0 p hokp))
          obtain ⟨op, hop⟩ : ∃ op, op = o p := ⟨_, rfl⟩
          rw [← hop] at HVAL HEC
          have HP := hide hp
          have HOKP := hide hokp
          have HEI := hide hEi'
          have HGI := hide (grown_trans (unhide HG) hgi')
          have HWI := hide hwi
          clear hop hHS hE hTr hcr hl0 hEi hgi hEi' hgi' hwi hTi hci hpi hp hokp hgNl HE HG
          go_upto_region 27 with fail
          rw [← unhide HWI]
          clear HWI d0 d1 d2 d3 d4 d5 s0 s1 s2 s3 s4 s5 s6 s7 f0 f1 f2 f3 f4 f5 f6 f7
          go_region_held3 (fun u => u.cell? ⟨w.heap.size, 0, none⟩ = some (.int .i64 s.W) ∧ u.cell? ⟨w.heap.size, 1, none⟩ = some (.int .i64 s.H) ∧ u.cell? ⟨w.heap.size, 2, none⟩ = some (.string s.C) ∧ u.cell? ⟨w.heap.size, 3, none⟩ = some (.int .i64 s.T) ∧ u.cell? ⟨w.heap.size, 4, none⟩ = some (.string s.A) ∧ u.cell? ⟨w.heap.size, 5, none⟩ = some (.string s.B) ∧ u.cell? ⟨w.heap.size, 6, none⟩ = some (v6) ∧ u.cell? ⟨w.heap.size, 7, none⟩ = some (v7) ∧ u.cell? ⟨w.heap.size, 8, none⟩ = some (v8) ∧ u.cell? ⟨w.heap.size, 9, none⟩ = some (v9) ∧ u.cell? ⟨w.heap.size, 10, none⟩ = some (v10) ∧ u.cell? ⟨w.heap.size, 11, none⟩ = some (v11) ∧ u.cell? ⟨w.heap.size, 12, none⟩ = some (v12) ∧ u.cell? ⟨gN, i * 6, none⟩ = some (.int .i64 p.W) ∧ u.cell? ⟨gN, i * 6 + 1, none⟩ = some (.int .i64 p.H) ∧ u.cell? ⟨gN, i * 6 + 2, none⟩ = some (.string p.C) ∧ u.cell? ⟨gN, i * 6 + 3, none⟩ = some (.int .i64 p.T) ∧ u.cell? ⟨gN, i * 6 + 4, none⟩ = some (.string p.A) ∧ u.cell? ⟨gN, i * 6 + 5, none⟩ = some (.string p.B) ∧ Below wi.heap.size wi u)
            (first
              | with_reducible exact unhide HS27 _ (unhide HB0)
              | with_reducible exact unhide HS27 _ (unhide HX))
            (first
              | (go_at_call 20; (with_reducible refine (unhide HEC _ (unhide HB0)).mono ?_); rintro e wx ⟨rfl, hbx⟩
                 have HX : Hid (Below wi.heap.size wi wx) := hide ((unhide HB0).trans (hbx.mono (unhide HB0).size))
                 clear hbx))
          have hEx := (unhide HEI).below (unhide HX)
          have hgx := grown_below (unhide HGI) (unhide HX)
          obtain ⟨-, -, -, -, -, -, -, -, -, -, -, -, -, -, -, -, pc3, -, -, -⟩ := unhide HS27 wx (unhide HX)
          clear HS27 HEC HB0 HEI HGI HX
          by_cases h0 : op = 0
          · have hb0 : (op == 0) = true := by simp [h0]
            have hend : endW op p.T = 0 := by unfold endW; rw [if_pos h0]
            clear h0 pc3
            have HE2 : Hid (EnR wx w.heap.size g n ((enF all A0).take (i + 1)) (r.drop 8)) := hide (by rw [← fill_zero (A := A0) (unhide HP) (by have := unhide HVAL; rw [hend] at this; omega) (by rw [unhide HA0]; rfl)]; exact hEx)
            have HG2 : Hid (w9.grownBy wx (some g)) := hide hgx
            clear hEx hgx hend
            go_wp2
            go_roundw
            case rel => exact ⟨i + 1, _, by omega, by go_num, HE2, HG2⟩
            case measure => simp only [intOf]; omega
          · have hb0 : (op == 0) = false := by simp [h0]
            by_cases h3 : op = 3
            · have hb3 : (op == 3) = true := by simp [h3]
              have hend : endW op p.T = 3 := by unfold endW; rw [if_neg h0, if_pos h3]
              clear h0 h3 pc3
              obtain ⟨hE2, hg2⟩ := hEx.val (i := i) (e := (p, 0, 0)) (so_push (unhide HP)) 3
              obtain ⟨c6, f6⟩ := hEx.cell (i := i) (e := (p, 0, 0)) (so_push (unhide HP)) 6 (by omega)
              have c6' : wx.cell? ⟨g, i * 8 + 6, none⟩ = some (.int .i64 0) := c6
              have HE2 : Hid (EnR (wx.setCell ⟨g, i * 8 + 6, none⟩ (.int .i64 3)) w.heap.size g n ((enF all A0).take (i + 1)) (r.drop 8)) := hide (by rw [← fill_next (A := A0) (v := 3) (unhide HP) (by have := unhide HVAL; rw [hend] at this; exact this) (by rw [unhide HA0]; rfl)]; exact hE2)
              have HG2 : Hid (w9.grownBy (wx.setCell ⟨g, i * 8 + 6, none⟩ (.int .i64 3)) (some g)) := hide (grown_trans hgx hg2)
              clear hE2 hg2 c6
              clear hEx hgx hend
              go_wp2
              go_roundw
              case rel => exact ⟨i + 1, _, by omega, by go_num, HE2, HG2⟩
              case measure => simp only [intOf]; omega
            · have hb3 : (op == 3) = false := by simp [h3]
              obtain ⟨T1, hT1⟩ : ∃ T1, T1 = p.T + 1 := ⟨_, rfl⟩
              have hT1e : p.T + 1 = T1 := hT1.symm
              have wT1 : IntKind.i64.wrap T1 = T1 := by have := unhide HT p (unhide HOKP); unfold IntKind.wrap; simp [IntKind.signed, IntKind.bits]; omega
              by_cases h1 : op = T1
              · have hb1 : (op == T1) = true := by simp [h1]
                have hend : endW op p.T = 1 := by unfold endW; rw [if_neg h0, if_neg h3, if_pos (by omega)]
                clear h0 h3 h1 hT1
                obtain ⟨hE2, hg2⟩ := hEx.val (i := i) (e := (p, 0, 0)) (so_push (unhide HP)) 1
                obtain ⟨c6, f6⟩ := hEx.cell (i := i) (e := (p, 0, 0)) (so_push (unhide HP)) 6 (by omega)
                have c6' : wx.cell? ⟨g, i * 8 + 6, none⟩ = some (.int .i64 0) := c6
                have HE2 : Hid (EnR (wx.setCell ⟨g, i * 8 + 6, none⟩ (.int .i64 1)) w.heap.size g n ((enF all A0).take (i + 1)) (r.drop 8)) := hide (by rw [← fill_next (A := A0) (v := 1) (unhide HP) (by have := unhide HVAL; rw [hend] at this; exact this) (by rw [unhide HA0]; rfl)]; exact hE2)
                have HG2 : Hid (w9.grownBy (wx.setCell ⟨g, i * 8 + 6, none⟩ (.int .i64 1)) (some g)) := hide (grown_trans hgx hg2)
                clear hE2 hg2 c6
                clear hEx hgx hend
                go_wp2
                go_roundw
                case rel => exact ⟨i + 1, _, by omega, by go_num, HE2, HG2⟩
                case measure => simp only [intOf]; omega
              · have hb1 : (op == T1) = false := by simp [h1]
                have hend : endW op p.T = 2 := by unfold endW; rw [if_neg h0, if_neg h3, if_neg (by omega)]
                clear h0 h3 h1 hT1
                obtain ⟨hE2, hg2⟩ := hEx.val (i := i) (e := (p, 0, 0)) (so_push (unhide HP)) 2
                obtain ⟨c6, f6⟩ := hEx.cell (i := i) (e := (p, 0, 0)) (so_push (unhide HP)) 6 (by omega)
                have c6' : wx.cell? ⟨g, i * 8 + 6, none⟩ = some (.int .i64 0) := c6
                have HE2 : Hid (EnR (wx.setCell ⟨g, i * 8 + 6, none⟩ (.int .i64 2)) w.heap.size g n ((enF all A0).take (i + 1)) (r.drop 8)) := hide (by rw [← fill_next (A := A0) (v := 2) (unhide HP) (by have := unhide HVAL; rw [hend] at this; exact this) (by rw [unhide HA0]; rfl)]; exact hE2)
                have HG2 : Hid (w9.grownBy (wx.setCell ⟨g, i * 8 + 6, none⟩ (.int .i64 2)) (some g)) := hide (grown_trans hgx hg2)
                clear hE2 hg2 c6
                clear hEx hgx hend
                go_wp2
                go_roundw
                case rel => exact ⟨i + 1, _, by omega, by go_num, HE2, HG2⟩
                case measure => simp only [intOf]; omega

        · have hlti : ¬ (i : Int) < (n : Int) := by omega
          have hie : n = i := by omega
          subst hie
          have HE3 : Hid (EnR wr2 w.heap.size g n (enF all (rds nxt v0 0)) []) := hide (by
            have hE := unhide HE
            rw [List.take_of_length_le (by rw [enF_len, unhide HALN]; exact Nat.le_refl _), unhide hA0e] at hE
            have hr0 : r = [] := by
              have h1 := hE.len
              rw [enF_len, unhide HALN] at h1
              exact List.length_eq_zero_iff.1 (by omega)
            rw [hr0] at hE
            exact hE)
          have HG3 := HG
          clear HE HG
          go_wp2
          go_loopw [16, 17] (fun dv mv wr3 => ∃ (d : Nat) (mo : Bool), d ≤ n + 1 ∧ dv = .int .i64 ((d + 1 : Nat) : Int) ∧ mv = .bool mo ∧ Hid (EnR wr3 w.heap.size g n (enF all (rds nxt v0 d)) []) ∧ Hid (w9.grownBy wr3 (some g)) ∧ Hid (RdI n nxt v0 d mo)) (fun dv mv _ => match mv with | .bool true => n + 3 - (intOf dv).toNat | _ => 0)
          case atStart => exact ⟨0, true, by omega, rfl, rfl, HE3, HG3, hide RdI.start⟩
          case round =>
            obtain ⟨d, mo, hd, rfl, rfl, HER, HGR, HRD⟩ := hrel
            rename World => wr3
            clear HE3 HG3
            obtain ⟨d1, hd1⟩ : ∃ d1, d1 = d + 1 := ⟨_, rfl⟩
            rw [← hd1]
            have HD1 := hide hd1
            obtain ⟨A, hA⟩ : ∃ A, A = rds nxt v0 d := ⟨_, rfl⟩
            have HAD := hide hA
            rw [← hA] at HER
            have hd1b : (d1 : Int) ≤ 6000 := by omega
            clear hd1 hA
            cases mo with
            | true =>
              have hdn : d ≤ n := by have := (unhide HRD).yes rfl; omega
              obtain ⟨gW, cW, wA, hrA, hcW1, hcW2, hgW, hgA, hWC⟩ := (unhide HER).copy (by omega) (by omega) (Nat.le_trans (unhide HBS) (Nat.le_trans (unhide HG9S) (unhide HGR).size))
              have HWC := hide hWC
              have HGA9 := hide (grown_none (unhide HGR) hgA)
              have HGWG : Hid (gW ≠ g) := hide (by have := (unhide HER).lt.2; omega)
              have HGWL : Hid (gW < wA.heap.size) := hide (by
                obtain ⟨p0, hp0⟩ : ∃ p0, all[0]? = some p0 := ⟨_, List.getElem?_eq_getElem (by rw [unhide HALN]; omega)⟩
                have := hWC 0 _ (enF_at hp0) wA rfl 0 (by omega)
                exact World.block_lt_of_cell? wA ⟨gW, 0 * 8 + 0, none⟩ this)
              have HEA : Hid (EnR wA w.heap.size g n (enF all (prt nxt A d1 0)) []) := hide (by rw [enF_prt0]; exact (unhide HER).keep (hgA.block g (unhide HER).lt.2 (by simp)))
              have HGA : Hid (wA.grownBy wA (some g)) := hide ⟨rfl, rfl, rfl, Nat.le_refl _, fun _ _ _ => rfl⟩
              unfold maxLen at hcW2
              clear hgA hWC hgW HER HGR
              go_wp2_with (first | (at_builtin; refine wpList_appRun rfl _ _ 28 rfl _ _ _ _ rfl rfl hrA ?_) | go_in)
              go_loopw [17, 19] (fun mv iv wq => ∃ i : Nat, i ≤ n ∧ iv = .int .i64 (i : Int) ∧ mv = .bool (fndN nxt A d1 i) ∧ Hid (EnR wq w.heap.size g n (enF all (prt nxt A d1 i)) []) ∧ Hid (wA.grownBy wq (some g))) (fun _ iv _ => n - (intOf iv).toNat)
              case atStart => exact ⟨0, Nat.zero_le _, rfl, rfl, HEA, HGA⟩
              case round =>
                obtain ⟨i, hi, rfl, rfl, HEQ, HGQ⟩ := hrel
                rename World => wq
                clear HEA HGA
                by_cases hlt : i < n
                · have hlti : (i : Int) < (n : Int) := by omega
                  have hi0 : (0 : Int) ≤ (i : Int) := by omega
                  obtain ⟨p, hp⟩ : ∃ p, all[i]? = some p := ⟨_, List.getElem?_eq_getElem (by rw [unhide HALN]; exact hlt)⟩
                  have HWQB : Hid (wq.heap[gW]? = wA.heap[gW]?) := hide ((unhide HGQ).block gW (unhide HGWL) (by simpa using unhide HGWG))
                  have hwc := unhide HWC i _ (enF_at hp) wq (unhide HWQB) 6 (by omega)
                  have hwc' : wq.cell? ⟨gW, i * 8 + 6, none⟩ = some (.int .i64 ((A i).1 : Int)) := hwc
                  obtain ⟨a, ha⟩ : ∃ a, a = (A i).1 := ⟨_, rfl⟩
                  rw [← ha] at hwc'
                  have HP := hide hp
                  by_cases ha0 : a = 0
                  · have hab : ((a : Int) != 0) = false := by simp [ha0]
                    have HAZ : Hid ((A i).1 = 0) := hide (by rw [← ha]; exact ha0)
                    obtain ⟨hTq, -⟩ := unhide HFR wq (grown_trans (unhide HGA9) (unhide HGQ))
                    obtain ⟨gX, capX, eX, hXn, hXm, xo, xc, hlx, hxm, hXc, hXl⟩ := hTq.nr.at_ (nxL_at (nx := nx) (s := s) hlt)
                    rw [nxL_len] at eX hXn
                    simp only [Value.slice.injEq, true_and] at eX
                    obtain ⟨rfl, rfl⟩ := eX
                    obtain ⟨l, hl⟩ : ∃ l, l = nxtG nx (bfsN nx s n) i := ⟨_, rfl⟩
                    rw [← hl] at hlx hXc hXl
                    obtain ⟨K, hK⟩ : ∃ K, K = l.length := ⟨_, rfl⟩
                    rw [← hK] at hlx hXc
                    have HLC := hide hXl
                    have HK := hide hK
                    have HLD : Hid (l = nxt i) := hide (by rw [hl, unhide HNXT, unhide HALE])
                    have HIN : Hid (∀ x ∈ l, x < n) := hide (fun x hx => unhide HNIN i hlt x (by rw [← unhide HLD]; exact hx))
                    unfold maxLen at hXm hxm
                    have hKx : K ≤ 9223372036854775807 := by omega
                    clear hp hwc ha ha0 hTq hl hK hXl
                    go_wp2
                    go_loopw [20, 21, 22] (fun lv wv kv wp => ∃ k : Nat, kv = .int .i64 (k : Int) ∧ k ≤ K ∧ lv = .bool ((l.take k).any (fun j => (A j).1 == 2)) ∧ wv = .bool ((l.take k).all (fun j => (A j).1 == 1)) ∧ wq = wp) (fun _ _ kv _ => K - (intOf kv).toNat)
                    case atStart => exact ⟨0, rfl, Nat.zero_le _, rfl, rfl, rfl⟩
                    case round =>
                      obtain ⟨k, rfl, hk, rfl, rfl, hwp⟩ := hrel
                      rename World => wp
                      subst hwp
                      obtain ⟨lb, hlb⟩ : ∃ lb, lb = (l.take k).any (fun j => (A j).1 == 2) := ⟨_, rfl⟩
                      obtain ⟨wb, hwb⟩ : ∃ wb, wb = (l.take k).all (fun j => (A j).1 == 1) := ⟨_, rfl⟩
                      rw [← hlb, ← hwb]
                      have HLB := hide hlb
                      have HWB := hide hwb
                      clear hlb hwb
                      by_cases hkK : k < K
                      · have hkKi : (k : Int) < (K : Int) := by omega
                        have hk0 : (0 : Int) ≤ (k : Int) := by omega
                        obtain ⟨x, hx⟩ : ∃ x, l[k]? = some x := ⟨_, List.getElem?_eq_getElem (by rw [← unhide HK]; exact hkK)⟩
                        obtain ⟨gl, hgl, hxc⟩ := unhide HLC k x hx
                        subst hgl
                        have hxn : x < n := unhide HIN x (List.mem_of_getElem? hx)
                        obtain ⟨px, hpx⟩ : ∃ px, all[x]? = some px := ⟨_, List.getElem?_eq_getElem (by rw [unhide HALN]; exact hxn)⟩
                        have hwx := unhide HWC x _ (enF_at hpx) wq (unhide HWQB) 6 (by omega)
                        have hwx' : wq.cell? ⟨gW, x * 8 + 6, none⟩ = some (.int .i64 ((A x).1 : Int)) := hwx
                        obtain ⟨y, hy⟩ : ∃ y, y = (A x).1 := ⟨_, rfl⟩
                        rw [← hy] at hwx'
                        have hxni : (x : Int) < (n : Int) := by omega
                        have hx0 : (0 : Int) ≤ (x : Int) := by omega
                        have HAN : Hid ((l.take (k + 1)).any (fun j => (A j).1 == 2) = (lb || y == 2)) := hide (by rw [any_take hx, unhide HLB, hy])
                        have HAL : Hid ((l.take (k + 1)).all (fun j => (A j).1 == 1) = (wb && y == 1)) := hide (by rw [all_take hx, unhide HWB, hy])
                        have HY2 : Hid (((y : Int) == 2) = (y == 2)) := hide (by rw [Bool.eq_iff_iff]; simp; omega)
                        have HY1 : Hid (((y : Int) == 1) = (y == 1)) := hide (by rw [Bool.eq_iff_iff]; simp; omega)
                        clear hx hxn hpx hwx hy HLB HWB
                        cases lb <;> cases wb <;>
                          (go_wp2
                           go_roundw
                           case rel => exact ⟨k + 1, by go_num, by omega, by rw [unhide HAN]; simp [unhide HY2], by rw [unhide HAL]; simp [unhide HY1], by first | trivial | rfl⟩
                           case measure => simp only [intOf]; omega)
                      · have hkKi : ¬ (k : Int) < (K : Int) := by omega
                        have htk : l.take k = l := List.take_of_length_le (by rw [← unhide HK]; omega)
                        have hlb := unhide HLB
                        have hwb := unhide HWB
                        rw [htk] at hlb hwb
                        obtain ⟨z6, y6⟩ := (unhide HEQ).cell (enF_at (unhide HP)) 6 (by omega)
                        obtain ⟨z7, y7⟩ := (unhide HEQ).cell (enF_at (unhide HP)) 7 (by omega)
                        obtain ⟨t6, z6'⟩ : ∃ t6, wq.cell? ⟨g, i * 8 + 6, none⟩ = some t6 := ⟨_, z6⟩
                        obtain ⟨t7, z7'⟩ : ∃ t7, wq.cell? ⟨g, i * 8 + 7, none⟩ = some t7 := ⟨_, z7⟩
                        cases lb with
                        | true =>
                          have hr : rnd nxt A d1 i = (1, d1) := rnd_lost (unhide HAZ) (by rw [← unhide HLD]; exact hlb.symm)
                          obtain ⟨hE2, hg2⟩ := (unhide HEQ).val2 (enF_at (unhide HP)) 1 (d1 : Int)
                          have HE2 : Hid (EnR ((wq.setCell ⟨g, i * 8 + 6, none⟩ (.int .i64 1)).setCell ⟨g, i * 8 + 7, none⟩ (.int .i64 (d1 : Int))) w.heap.size g n (enF all (prt nxt A d1 (i + 1))) []) := hide (by rw [← enF_prt (unhide HP), hr]; exact hE2)
                          have HG2 := hide (grown_trans (unhide HGQ) hg2)
                          have HF2 : Hid (fndN nxt A d1 (i + 1) = true) := hide (by unfold fndN; rw [hr, unhide HAZ]; simp)
                          clear hE2 hg2 hr htk hlb hwb z6 z7 HLB HWB
                          go_wp2
                          go_roundw
                          case rel => exact ⟨i + 1, by omega, by go_num, by rw [unhide HF2], HE2, HG2⟩
                          case measure => simp only [intOf]; omega
                        | false =>
                          cases wb with
                          | true =>
                            have hr : rnd nxt A d1 i = (2, d1) := rnd_won (unhide HAZ) (by rw [← unhide HLD]; exact hlb.symm) (by rw [← unhide HLD]; exact hwb.symm)
                            obtain ⟨hE2, hg2⟩ := (unhide HEQ).val2 (enF_at (unhide HP)) 2 (d1 : Int)
                            have HE2 : Hid (EnR ((wq.setCell ⟨g, i * 8 + 6, none⟩ (.int .i64 2)).setCell ⟨g, i * 8 + 7, none⟩ (.int .i64 (d1 : Int))) w.heap.size g n (enF all (prt nxt A d1 (i + 1))) []) := hide (by rw [← enF_prt (unhide HP), hr]; exact hE2)
                            have HG2 := hide (grown_trans (unhide HGQ) hg2)
                            have HF2 : Hid (fndN nxt A d1 (i + 1) = true) := hide (by unfold fndN; rw [hr, unhide HAZ]; simp)
                            clear hE2 hg2 hr htk hlb hwb z6 z7 HLB HWB
                            go_wp2
                            go_roundw
                            case rel => exact ⟨i + 1, by omega, by go_num, by rw [unhide HF2], HE2, HG2⟩
                            case measure => simp only [intOf]; omega
                          | false =>
                            have hr : rnd nxt A d1 i = A i := rnd_open (unhide HAZ) (by rw [← unhide HLD]; exact hlb.symm) (by rw [← unhide HLD]; exact hwb.symm)
                            have HE2 : Hid (EnR wq w.heap.size g n (enF all (prt nxt A d1 (i + 1))) []) := hide (by rw [← enF_stay hr]; exact unhide HEQ)
                            have HF2 : Hid (fndN nxt A d1 (i + 1) = fndN nxt A d1 i) := hide (by rw [fndN, hr, unhide HAZ]; simp)
                            clear hr htk hlb hwb z6 z7 z6' z7' y6 y7 HLB HWB
                            go_wp2
                            go_roundw
                            case rel => exact ⟨i + 1, by omega, by go_num, by rw [unhide HF2], HE2, HGQ⟩
                            case measure => simp only [intOf]; omega

                  · have hab : ((a : Int) != 0) = true := by simp; omega
                    have hr : rnd nxt A d1 i = A i := rnd_known (by rw [← ha]; exact ha0)
                    have HE2 : Hid (EnR wq w.heap.size g n (enF all (prt nxt A d1 (i + 1))) []) := hide (by rw [← enF_stay hr]; exact unhide HEQ)
                    have HF2 : Hid (fndN nxt A d1 (i + 1) = fndN nxt A d1 i) := hide (by
                      have h1 : ((A i).1 == 0) = false := by rw [← ha]; simp [ha0]
                      rw [fndN, h1]; simp)
                    clear hp hwc ha ha0 hr HEQ
                    go_wp2
                    go_roundw
                    case rel => exact ⟨i + 1, by omega, by go_num, by rw [unhide HF2], HE2, HGQ⟩
                    case measure => simp only [intOf]; omega
                · have hlti : ¬ (i : Int) < (n : Int) := by omega
                  obtain rfl : i = n := by omega
                  have HE2 : Hid (EnR wq w.heap.size g i (enF all (rds nxt v0 (d + 1))) []) := hide (by
                    have h1 := unhide HEQ
                    have h2 := enF_prtN (all := all) (A := A) (nxt := nxt) (d := d1)
                    rw [unhide HALN] at h2
                    rw [h2, unhide HAD, unhide HD1] at h1
                    exact h1)
                  have HG2 := hide (grown_trans (unhide HGA9) (unhide HGQ))
                  have HR2 : Hid (RdI i nxt v0 (d + 1) (fndN nxt A d1 i)) := hide (by rw [unhide HAD, unhide HD1]; exact (unhide HRD).next)
                  have hd1e : (d1 : Int) + 1 = ((d + 1 + 1 : Nat) : Int) := by have := unhide HD1; omega
                  clear HEQ HGQ
                  go_wp2
                  go_roundw
                  case rel => exact ⟨d + 1, _, by omega, by go_num, rfl, HE2, HG2, HR2⟩
                  case measure =>
                    have := unhide HD1
                    cases fndN nxt A d1 i <;> simp only [intOf] <;> omega

            | false =>
              have HFX : Hid (∃ D, d = D + 1 ∧ ∀ i, i < n → rds nxt v0 (D + 1) i = rds nxt v0 D i) := hide ((unhide HRD).no rfl)
              have HAZ : Hid (∀ i, (A i).1 = 0 → A i = (0, 0)) := hide (fun i h => by rw [unhide HAD] at h ⊢; exact rds_zero h)
              have HE4 : Hid (EnR wr3 w.heap.size g n ([] ++ (enF all A).drop 0) []) := HER
              have HG4 := HGR
              clear HER HGR
              go_wp2
              go_loopw [24] (fun iv wr4 => ∃ (i : Nat) (S : List (Po × Int × Int)), i ≤ n ∧ iv = .int .i64 (i : Int) ∧ Hid (SoI all A i S) ∧ Hid (EnR wr4 w.heap.size g n (S ++ (enF all A).drop i) []) ∧ Hid (w9.grownBy wr4 (some g))) (fun iv _ => n - (intOf iv).toNat)
              case atStart => exact ⟨0, [], Nat.zero_le _, rfl, hide ⟨rfl, by simp, List.Pairwise.nil⟩, HE4, HG4⟩
              case round =>
                obtain ⟨i, S, hi, rfl, HSO, HES, HGS⟩ := hrel
                rename World => wr4
                clear HE4 HG4
                by_cases hlt : i < n
                · have hlti : (i : Int) < (n : Int) := by omega
                  have hi0 : (0 : Int) ≤ (i : Int) := by omega
                  obtain ⟨p, hp⟩ : ∃ p, all[i]? = some p := ⟨_, List.getElem?_eq_getElem (by rw [unhide HALN]; exact hlt)⟩
                  have hE := unhide HES
                  have hat := so_at (A := A) (unhide HSO).len hp
                  obtain ⟨c6, f6⟩ := hE.cell hat 6 (by omega)
                  have c6' : wr4.cell? ⟨g, i * 8 + 6, none⟩ = some (.int .i64 ((A i).1 : Int)) := c6
                  obtain ⟨a, ha⟩ : ∃ a, a = (A i).1 := ⟨_, rfl⟩
                  rw [← ha] at c6'
                  obtain ⟨x, hx⟩ : ∃ x : Po × Int × Int, x = (p, ((finR A i).1 : Int), ((finR A i).2 : Int)) := ⟨_, rfl⟩
                  have HXF : Hid ((enF all (finR A))[i]? = some x) := hide (by rw [hx]; exact enF_at hp)
                  obtain ⟨hEv, hgv⟩ := hE.val hat 3
                  have HE3 : Hid (a = 0 → EnR (wr4.setCell ⟨g, i * 8 + 6, none⟩ (.int .i64 3)) w.heap.size g n (S ++ x :: (enF all A).drop (i + 1)) []) := hide (fun h0 => by
                    rw [hx, ← so_even (unhide HSO).len hp (unhide HAZ i (by rw [← ha]; exact h0))]
                    exact hEv)
                  have HEK : Hid (a ≠ 0 → EnR wr4 w.heap.size g n (S ++ x :: (enF all A).drop (i + 1)) []) := hide (fun h0 => by
                    rw [hx, ← so_keep hp (by rw [← ha]; exact h0)]
                    exact hE)
                  have HG3 := hide (grown_trans (unhide HGS) hgv)
                  have HIS : Hid (InsI ltE S x ((enF all A).drop (i + 1)) i (S ++ x :: (enF all A).drop (i + 1))) := hide (by have := InsI.start (lt := ltE) (S := S) (x := x) (rest := (enF all A).drop (i + 1)); rw [(unhide HSO).len] at this; exact this)
                  have HNE : Hid (∀ y ∈ S, keyP x.1 ≠ keyP y.1) := hide (by rw [hx]; exact (unhide HSO).ne (unhide HALND) (unhide HALOK) (unhide HKEY) hp)
                  obtain ⟨ab, hab⟩ : ∃ ab, ((a : Int) == 0) = ab := ⟨_, rfl⟩
                  have HAB : Hid (ab = true ↔ a = 0) := hide (by rw [← hab]; simp; try omega)
                  have hirow : i * 8 + 6 < n * 8 := by omega
                  clear hE hat c6 ha hx hEv hgv hp HES hirow
                  go_upto_if 226 with fail
                  go_cut [] (fun wz => Hid (EnR wz w.heap.size g n (S ++ x :: (enF all A).drop (i + 1)) []) ∧ Hid (w9.grownBy wz (some g)))
                  case first =>
                    cases ab with
                    | true =>
                      have HZ1 := hide (unhide HE3 ((unhide HAB).1 rfl))
                      clear HAB HE3 HEK
                      go_wp2
                      go_meet
                      exact ⟨HZ1, HG3⟩
                    | false =>
                      have HZ1 := hide (unhide HEK (fun h => by have := (unhide HAB).2 h; cases this))
                      clear HAB HE3 HEK
                      go_wp2
                      go_meet
                      exact ⟨HZ1, HGS⟩
                  case rest =>
                    rename World => wz
                    obtain ⟨HEZ, HGZ⟩ := hcut
                    clear HE3 HEK HG3 HAB hab c6' f6 HGS
                    go_wp2
                    go_loopw [25] (fun kv wq => ∃ (k : Nat) (ts : List (Po × Int × Int)), k ≤ i ∧ kv = .int .i64 (k : Int) ∧ Hid (InsI ltE S x ((enF all A).drop (i + 1)) k ts) ∧ Hid (EnR wq w.heap.size g n ts []) ∧ Hid (w9.grownBy wq (some g))) (fun kv _ => (intOf kv).toNat)
                    case atStart => exact ⟨i, _, Nat.le_refl _, rfl, HIS, HEZ, HGZ⟩
                    case round =>
                      obtain ⟨k, ts, hki, rfl, HIK, HEK, HGK⟩ := hrel
                      rename World => wq
                      clear HIS HEZ HGZ
                      cases k with
                      | zero =>
                        obtain ⟨S', hS1, hS2, hS3, hS4⟩ := (unhide HIK).fin ltE_tr (unhide HSO).ord (.inl rfl)
                        have HSN : Hid (SoI all A (i + 1) S') := hide ((unhide HSO).next (unhide HXF) hS2 hS3 hS4)
                        have HEN2 : Hid (EnR wq w.heap.size g n (S' ++ (enF all A).drop (i + 1)) []) := hide (by rw [← hS1]; exact unhide HEK)
                        clear hS1 hS2 hS3 hS4 HIK HEK
                        go_wp2_with fail
                        go_quiet (fail)
                        go_wp2
                        go_roundw
                        case rel => exact ⟨i + 1, S', by omega, by go_num, HSN, hide ((unhide HEN2).keep rfl), hide ⟨(unhide HGK).os, (unhide HGK).tape, (unhide HGK).output, (unhide HGK).size, (unhide HGK).block⟩⟩
                        case measure => simp only [intOf]; omega
                      | succ k1 =>
                        obtain ⟨k, hkd⟩ : ∃ k, k = k1 + 1 := ⟨_, rfl⟩
                        rw [← hkd] at hki HIK ⊢
                        have hk0 : (0 : Int) < (k : Int) := by omega
                        have hk0' : (0 : Int) ≤ (k : Int) := by omega
                        have hk1 : (k : Int) - 1 = (k1 : Int) := by omega
                        have wk1 : IntKind.i64.wrap (k1 : Int) = (k1 : Int) := by unfold IntKind.wrap; simp [IntKind.signed, IntKind.bits]; omega
                        have hk10 : (0 : Int) ≤ (k1 : Int) := by omega
                        have hkn : (k : Int) < (n : Int) := by omega
                        have hk1n : (k1 : Int) < (n : Int) := by omega
                        have hdk : decide ((0 : Int) < (k : Int)) = true := by simp; omega
                        have hdk2 : decide (0 < k) = true := by simp; omega
                        have hts : ts.length = n := by have := (unhide HEK).len; simp at this; omega
                        have hxk : ts[k]? = some x := (unhide HIK).at_
                        obtain ⟨a, ha⟩ : ∃ a, ts[k1]? = some a := ⟨_, List.getElem?_eq_getElem (by omega)⟩
                        have hHS : ∀ u, Below wq.heap.size wq u → (u.cell? ⟨g, k * 8, none⟩ = some (.int .i64 x.1.W) ∧ u.cell? ⟨g, k * 8 + 1, none⟩ = some (.int .i64 x.1.H) ∧ u.cell? ⟨g, k * 8 + 2, none⟩ = some (.string x.1.C) ∧ u.cell? ⟨g, k * 8 + 3, none⟩ = some (.int .i64 x.1.T) ∧ u.cell? ⟨g, k * 8 + 4, none⟩ = some (.string x.1.A) ∧ u.cell? ⟨g, k * 8 + 5, none⟩ = some (.string x.1.B) ∧ u.cell? ⟨g, k1 * 8, none⟩ = some (.int .i64 a.1.W) ∧ u.cell? ⟨g, k1 * 8 + 1, none⟩ = some (.int .i64 a.1.H) ∧ u.cell? ⟨g, k1 * 8 + 2, none⟩ = some (.string a.1.C) ∧ u.cell? ⟨g, k1 * 8 + 3, none⟩ = some (.int .i64 a.1.T) ∧ u.cell? ⟨g, k1 * 8 + 4, none⟩ = some (.string a.1.A) ∧ u.cell? ⟨g, k1 * 8 + 5, none⟩ = some (.string a.1.B) ∧ Below wq.heap.size wq u) := fun u hu => by
                          have hE := (unhide HEK).below hu
                          have e0 := (hE.cell hxk 0 (by omega)).1
                          have e1 := (hE.cell hxk 1 (by omega)).1
                          have e2 := (hE.cell hxk 2 (by omega)).1
                          have e3 := (hE.cell hxk 3 (by omega)).1
                          have e4 := (hE.cell hxk 4 (by omega)).1
                          have e5 := (hE.cell hxk 5 (by omega)).1
                          have y0 := (hE.cell ha 0 (by omega)).1
                          have y1 := (hE.cell ha 1 (by omega)).1
                          have y2 := (hE.cell ha 2 (by omega)).1
                          have y3 := (hE.cell ha 3 (by omega)).1
                          have y4 := (hE.cell ha 4 (by omega)).1
                          have y5 := (hE.cell ha 5 (by omega)).1
                          exact ⟨e0, e1, e2, e3, e4, e5, y0, y1, y2, y3, y4, y5, hu⟩
                        have HS60 := hide hHS
                        have HBF := hide (fun u => before_any x.1 a.1 u)
                        obtain ⟨B, hB⟩ : ∃ B, B = decide (cmpP x.1 a.1 < 0) := ⟨_, rfl⟩
                        rw [← hB] at HBF
                        have HB0 : Hid (Below wq.heap.size wq wq.drew) := hide (Below.refl _ _).drew
                        have HB := hide hB
                        have HA := hide ha
                        have HXK := hide hxk
                        have HKD := hide hkd
                        clear hHS hB ha hxk hts hkd
                        go_wp2_with fail
                        go_region_held3 (fun u => u.cell? ⟨g, k * 8, none⟩ = some (.int .i64 x.1.W) ∧ u.cell? ⟨g, k * 8 + 1, none⟩ = some (.int .i64 x.1.H) ∧ u.cell? ⟨g, k * 8 + 2, none⟩ = some (.string x.1.C) ∧ u.cell? ⟨g, k * 8 + 3, none⟩ = some (.int .i64 x.1.T) ∧ u.cell? ⟨g, k * 8 + 4, none⟩ = some (.string x.1.A) ∧ u.cell? ⟨g, k * 8 + 5, none⟩ = some (.string x.1.B) ∧ u.cell? ⟨g, k1 * 8, none⟩ = some (.int .i64 a.1.W) ∧ u.cell? ⟨g, k1 * 8 + 1, none⟩ = some (.int .i64 a.1.H) ∧ u.cell? ⟨g, k1 * 8 + 2, none⟩ = some (.string a.1.C) ∧ u.cell? ⟨g, k1 * 8 + 3, none⟩ = some (.int .i64 a.1.T) ∧ u.cell? ⟨g, k1 * 8 + 4, none⟩ = some (.string a.1.A) ∧ u.cell? ⟨g, k1 * 8 + 5, none⟩ = some (.string a.1.B) ∧ Below wq.heap.size wq u)
                          (first
                            | with_reducible exact unhide HS60 _ (unhide HB0)
                            | with_reducible exact unhide HS60 _ (unhide HX))
                          (first
                            | (go_at_call 21; (with_reducible refine (unhide HBF _).mono ?_); rintro e wx ⟨rfl, hbx⟩
                               have HX : Hid (Below wq.heap.size wq wx) := hide ((unhide HB0).trans (hbx.mono (unhide HB0).size))
                               clear hbx))
                        have hEx := (unhide HEK).below (unhide HX)
                        have HGX := hide (grown_below (unhide HGK) (unhide HX))
                        cases B with
                        | true =>
                          have hlt2 : ltE x a := by have := unhide HB; unfold ltE; exact of_decide_eq_true this.symm
                          have hIn : InsI ltE S x ((enF all A).drop (i + 1)) k1 ((ts.set k a).set k1 x) := by
                            have hi2 := unhide HIK
                            have hkd := unhide HKD
                            rw [hkd] at hi2 ⊢
                            exact hi2.step (unhide HA) hlt2
                          obtain ⟨hE1, hg1⟩ := hEx.whole (unhide HXK) a
                          obtain ⟨hE2, hg2⟩ := hE1.whole (i := k1) (e := a) (by rw [List.getElem?_set_ne (by have := unhide HKD; omega)]; exact unhide HA) x
                          have HI2 := hide hIn
                          have HE2 := hide hE2.drew
                          have HG2 := hide (grown_drew (grown_trans (grown_trans (unhide HGX) hg1) hg2))
                          obtain ⟨e0, z0⟩ := hEx.cell (unhide HXK) 0 (by omega)
                          obtain ⟨e1, z1⟩ := hEx.cell (unhide HXK) 1 (by omega)
                          obtain ⟨e2, z2⟩ := hEx.cell (unhide HXK) 2 (by omega)
                          obtain ⟨e3, z3⟩ := hEx.cell (unhide HXK) 3 (by omega)
                          obtain ⟨e4, z4⟩ := hEx.cell (unhide HXK) 4 (by omega)
                          obtain ⟨e5, z5⟩ := hEx.cell (unhide HXK) 5 (by omega)
                          obtain ⟨e6, z6⟩ := hEx.cell (unhide HXK) 6 (by omega)
                          obtain ⟨e7, z7⟩ := hEx.cell (unhide HXK) 7 (by omega)
                          obtain ⟨y0, q0⟩ := hEx.cell (unhide HA) 0 (by omega)
                          obtain ⟨y1, q1⟩ := hEx.cell (unhide HA) 1 (by omega)
                          obtain ⟨y2, q2⟩ := hEx.cell (unhide HA) 2 (by omega)
                          obtain ⟨y3, q3⟩ := hEx.cell (unhide HA) 3 (by omega)
                          obtain ⟨y4, q4⟩ := hEx.cell (unhide HA) 4 (by omega)
                          obtain ⟨y5, q5⟩ := hEx.cell (unhide HA) 5 (by omega)
                          obtain ⟨y6, q6⟩ := hEx.cell (unhide HA) 6 (by omega)
                          obtain ⟨y7, q7⟩ := hEx.cell (unhide HA) 7 (by omega)
                          rw [Nat.add_zero] at e0 z0 y0 q0
                          simp only [encE, List.getElem?_cons_zero, List.getElem?_cons_succ] at e0 e1 e2 e3 e4 e5 e6 e7 y0 y1 y2 y3 y4 y5 y6 y7
                          clear hEx hIn hE1 hg1 hE2 hg2 hlt2 HIK HEK HGK HS60 HBF HB0 HX HB HA HXK
                          go_wp2_with fail
                          go_region
                          go_wp2
                          go_roundw
                          case rel => exact ⟨k1, _, by omega, by go_num, HI2, HE2, HG2⟩
                          case measure => simp only [intOf]; have := unhide HKD; omega
                        | false =>
                          have hIK := unhide HIK
                          have hkd := unhide HKD
                          have haS : a ∈ S := by rw [hkd] at hIK; exact hIK.mem (unhide HA)
                          have hax : ltE a x := by
                            rcases ltE_or (x := x) (y := a) (unhide HNE a haS) with h | h
                            · have := unhide HB
                              unfold ltE at h
                              rw [decide_eq_true h] at this
                              cases this
                            · exact h
                          obtain ⟨S', hS1, hS2, hS3, hS4⟩ := hIK.fin ltE_tr (unhide HSO).ord (.inr ⟨a, by rw [hkd]; exact unhide HA, hax⟩)
                          have HSN : Hid (SoI all A (i + 1) S') := hide ((unhide HSO).next (unhide HXF) hS2 hS3 hS4)
                          have HEN2 : Hid (EnR wx w.heap.size g n (S' ++ (enF all A).drop (i + 1)) []) := hide (by rw [← hS1]; exact hEx)
                          clear hS1 hS2 hS3 hS4 hIK hkd haS hax hEx HIK HEK HGK HS60 HBF HB0 HX HB HA HXK
                          go_wp2
                          go_roundw
                          case rel => exact ⟨i + 1, S', by omega, by go_num, HSN, HEN2, HGX⟩
                          case measure => simp only [intOf]; omega

                · have hlti : ¬ (i : Int) < (n : Int) := by omega
                  obtain rfl : i = n := by omega
                  have HFIN : Hid (TdE nx ev s most w (.returned (.tuple #[.slice (some ⟨g, 0, none⟩) i i, .int .i64 0])) wr4) := hide (by
                    obtain ⟨D, hD, hfix⟩ := unhide HFX
                    have hE := unhide HES
                    have hdr : (enF all A).drop i = [] := List.drop_eq_nil_of_le (by rw [enF_len, unhide HALN]; exact Nat.le_refl _)
                    rw [hdr, List.append_nil] at hE
                    have hrow := hE.row
                    rw [List.append_nil] at hrow
                    have hsp := (unhide HSO).perm
                    rw [List.take_of_length_le (by rw [enF_len, unhide HALN]; exact Nat.le_refl _)] at hsp
                    have hAF : enF all (finR A) = enF all (finR (rds nxt v0 D)) := enF_cong (fun j hj => by
                      have := hfix j (by rw [← unhide HALN]; exact hj)
                      unfold finR
                      rw [unhide HAD, hD, this])
                    rw [hAF] at hsp
                    have hnx := unhide HNXT
                    have hvv := unhide HVV
                    have hal := unhide HALE
                    refine ⟨unhide HUP wr4 (unhide HFR wr4 (unhide HGS)).1.bw, .inr ⟨g, i, D, S, rfl, hrow, hnm, ?_, ?_, ?_, (unhide HSO).ord⟩⟩
                    · rw [← hal]; exact unhide HALN
                    · rw [← hal, ← hnx, ← hvv]; exact hfix
                    · rw [← hal, ← hnx, ← hvv]; exact hsp)
                  clear HSO HES HGS
                  go_wp2
                  refine bodyPost_ret (v := .tuple #[.slice (some ⟨g, 0, none⟩) i i, .int .i64 0]) (by simp [results, Tryz.results6, go_sem]) rfl ?_
                  exact unhide HFIN



end Go.Proofs.YtbijadnekoeofaaGreatDoor
