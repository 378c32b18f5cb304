/-
  gameref.Shows: the turn is the other one's.
  gameref.Shows at every number of moves.
-/
import Derived.Test.YtlogengkhlmcbaaGreatDoorJ40
import Derived.Test.YtlogengkhlmcbaaGreatDoorK7
namespace Go.Proofs.YtlogengkhlmcbaaGreatDoor
open Go.RowKit
attribute [local go_sem ↓] Go.wp_at_zero Go.wp_at_succ

set_option maxHeartbeats 8000000 in
set_option maxRecDepth 100000 in
theorem shows_all (v0 v1 v2 v3 v4 v5 v6 v7 v8 v9 v10 v11 v12 : Value) (win : Int) (d dk B : Nat) (p : Po) (L : List Mv) (beh : Mv → Po) (F : Po → Ct → Bool) (s : Bool) (f t : Int) (c : Nat) (no : Option Addr) (ks : List Ct) (nc : Nat) (w : World) (hd : d ≤ 8) (hT : (p.T == win) = false) (hll : L.length ≤ 4608) (hL0 : L ≠ []) (hB : B ≤ w.heap.size) (hks : isCts dk w B no nc ks)
    (hE : ∀ u, Below w.heap.size w u → Calls Tryz.prog 18 #[.agg #[v0, v1, v2, v3, v4, v5, v6, v7, v8, v9, v10, v11, v12], .agg #[.int .i64 p.W, .int .i64 p.H, .string p.C, .int .i64 p.T, .string p.A, .string p.B]] u fun e w' => e = .returned (.int .i64 0) ∧ Below u.heap.size u w')
    (hMO : ∀ u, Below w.heap.size w u → Calls Tryz.prog 19 #[.agg #[v0, v1, v2, v3, v4, v5, v6, v7, v8, v9, v10, v11, v12], .agg #[.int .i64 p.W, .int .i64 p.H, .string p.C, .int .i64 p.T, .string p.A, .string p.B]] u fun e w' => ∃ v, e = .returned v ∧ w'.ownsRow u.heap.size 29 3 v L.length (mvals L) ∧ Below u.heap.size u w')
    (hMA : ∀ m ∈ L, ∀ u, Below w.heap.size w u → Calls Tryz.prog 21 #[.agg #[v0, v1, v2, v3, v4, v5, v6, v7, v8, v9, v10, v11, v12], .agg #[.int .i64 p.W, .int .i64 p.H, .string p.C, .int .i64 p.T, .string p.A, .string p.B], .agg #[.int .i64 m.f, .int .i64 (m.t : Int), .int .u8 (m.c : Int)]] u fun e w' => e = .returned (.agg #[.int .i64 (beh m).W, .int .i64 (beh m).H, .string (beh m).C, .int .i64 (beh m).T, .string (beh m).A, .string (beh m).B]) ∧ Below u.heap.size u w')
    (hIH : ∀ m ∈ L, ∀ (x : Ct) (xo : Option Addr) (xc d' : Nat) (u : World), Below w.heap.size w u → isCts d' u B xo xc x.ks → x.c < 256 → Calls Tryz.prog 7 #[.agg #[v0, v1, v2, v3, v4, v5, v6, v7, v8, v9, v10, v11, v12], .agg #[.int .i64 (beh m).W, .int .i64 (beh m).H, .string (beh m).C, .int .i64 (beh m).T, .string (beh m).A, .string (beh m).B], .int .i64 (d : Int), .int .i64 win, .agg #[.bool x.s, .int .i64 x.f, .int .i64 x.t, .int .u8 (x.c : Int), .slice xo x.ks.length xc]] u fun e w' => e = .returned (.bool (F (beh m) x)) ∧ Below u.heap.size u w') :
    Calls Tryz.prog 7 #[.agg #[v0, v1, v2, v3, v4, v5, v6, v7, v8, v9, v10, v11, v12], .agg #[.int .i64 p.W, .int .i64 p.H, .string p.C, .int .i64 p.T, .string p.A, .string p.B], .int .i64 ((d + 1 : Nat) : Int), .int .i64 win, .agg #[.bool s, .int .i64 f, .int .i64 t, .int .u8 (c : Int), .slice no ks.length nc]] w fun e w' => e = .returned (.bool (bareB s f t c && shK F beh ks L)) ∧ Below w.heap.size w w' := by
  obtain ⟨kl, hkl⟩ : ∃ kl, kl = ks.length := ⟨_, rfl⟩
  rw [← hkl]
  obtain ⟨w1, hw1⟩ : ∃ w1, w1 = w.alloc (.cells #[v0, v1, v2, v3, v4, v5, v6, v7, v8, v9, v10, v11, v12] 27 (0, 0)) := ⟨_, rfl⟩
  obtain ⟨w2, hw2⟩ : ∃ w2, w2 = w1.alloc (.cells #[.int .i64 p.W, .int .i64 p.H, .string p.C, .int .i64 p.T, .string p.A, .string p.B] 24 (0, 0)) := ⟨_, rfl⟩
  obtain ⟨w3, hw3⟩ : ∃ w3, w3 = w2.alloc (.cells #[.bool s, .int .i64 f, .int .i64 t, .int .u8 (c : Int), .slice no kl nc] 32 (0, 0)) := ⟨_, rfl⟩
  have hb1 : Below w.heap.size w w1 := by rw [hw1]; exact (Below.refl _ _).alloc (Nat.le_refl _) _
  have hb2 : Below w1.heap.size w1 w2 := by rw [hw2]; exact (Below.refl _ _).alloc (Nat.le_refl _) _
  have hb3 : Below w2.heap.size w2 w3 := by rw [hw3]; exact (Below.refl _ _).alloc (Nat.le_refl _) _
  have s1 : w1.heap.size = w.heap.size + 1 := by rw [hw1]; simp
  have s2 : w2.heap.size = w.heap.size + 1 + 1 := by rw [hw2]; simp [s1]
  have s3 : w3.heap.size = w.heap.size + 1 + 1 + 1 := by rw [hw3]; simp [s2]
  have hrc3 : RC w v0 v1 v2 v3 v4 v5 v6 v7 v8 v9 v10 v11 v12 p s f t c (.slice no kl nc) w3 :=
    ⟨isRu.below (isRu.below (show isRu w1 w.heap.size v0 v1 v2 v3 v4 v5 v6 v7 v8 v9 v10 v11 v12 by rw [hw1]; exact heap_alloc_new w _) hb2 (by omega)) hb3 (by omega), isPb.below (show isPb w2 (w.heap.size + 1) p.W p.H p.T p.C p.A p.B by rw [hw2, ← s1]; exact heap_alloc_new w1 _) hb3 (by omega), by rw [hw3, ← s2]; exact heap_alloc_new w2 _, (hb1.trans (hb2.mono (by omega))).trans (hb3.mono (by omega)), by omega⟩
  have HRC := hide hrc3
  have HW1 := hide hw1
  have HW2 := hide hw2
  have HW3 := hide hw3
  clear hw1 hw2 hw3 hb1 hb2 hb3 s1 s2 s3 hrc3
  obtain ⟨b, hb⟩ : ∃ b, b = (decide (f = 0) && decide (t = 0) && decide (c = 0)) := ⟨_, rfl⟩
  have heq : ∀ u, (Op.equalIn 10000 29 (.agg #[.int .i64 f, .int .i64 t, .int .u8 (c : Int)]) (.agg #[.int .i64 0, .int .i64 0, .int .u8 0])).run Tryz.prog u = .ok b u := fun u => by
    rw [eqMove, hb]
    congr 1
    rw [Bool.eq_iff_iff]
    simp
  unfold bareB
  rw [← hb]
  clear hb
  obtain ⟨n, hn⟩ : ∃ n, n = L.length := ⟨_, rfl⟩
  rw [← hn] at hMO hll
  have hdz : (((d + 1 : Nat) : Int) == 0) = false := by simp; omega
  obtain ⟨D, hD⟩ : ∃ D : Nat, D = d + 1 := ⟨_, rfl⟩
  rw [← hD] at hdz ⊢
  have hD1 : (D : Int) - 1 = (d : Int) := by omega
  have wD : IntKind.i64.wrap (d : Int) = (d : Int) := wrapS (by omega) (by omega)
  have hn9 : n ≤ 9223372036854775807 := by omega
  have hn0 : n ≠ 0 := by
    rw [hn]
    intro e
    exact hL0 (List.length_eq_zero_iff.1 e)
  have HN := hide hn
  have HE := hide hE
  have HMO := hide hMO
  have HMA := hide hMA
  have HIH := hide hIH
  have HKS := hide hks
  have HKL := hide hkl
  obtain ⟨R, hR⟩ : ∃ R, R = shK F beh ks L := ⟨_, rfl⟩
  rw [← hR]
  have HR := hide hR
  clear hE hMO hMA hIH hn hD hks hkl hR hL0
  cases s with
  | true =>
    go_enter Tryz.func7, Tryz.ntmps7
    go_wp2_with fail
    rw [← unhide HW1, ← unhide HW2, ← unhide HW3]
    refine (unhide HE _ (unhide HRC).bw).mono ?_
    rintro e w4 ⟨rfl, hb4⟩
    have HRC4 := hide ((unhide HRC).step hb4)
    clear HRC HE HW1 HW2 HW3 hb4
    obtain ⟨c0, c1, c2, c3, c4⟩ := (unhide HRC4).cb.all
    obtain ⟨r0, r1, r2, r3, r4, r5, r6, r7, r8, r9, r10, r11, r12⟩ := (unhide HRC4).ru.cells
    obtain ⟨p0, p1, p2, p3, p4, p5⟩ := (unhide HRC4).pb.all
    go_wp2_with fail
    refine (unhide HMO _ (unhide HRC4).bw).mono ?_
    rintro e w5 ⟨v, rfl, hown, hb5⟩
    obtain ⟨lo1, lc1, rfl⟩ := row_len hown
    have hl5 : isMvs w5 (.slice lo1 n lc1) L := isMvs.of (by rw [← unhide HN]; exact hown)
    have HL5 := hide hl5
    have HRC5 := hide ((unhide HRC4).step hb5)
    clear HRC4 hb5 HMO hown hl5 r0 r1 r2 r3 r4 r5 r6 r7 r8 r9 r10 r11 r12 p0 p1 p2 p3 p4 p5 c0 c1 c2 c3 c4
    obtain ⟨c0, c1, c2, c3, c4⟩ := (unhide HRC5).cb.all
    obtain ⟨p0, p1, p2, p3, p4, p5⟩ := (unhide HRC5).pb.all
    go_wp2
    go_ret
    exact ⟨rfl, (unhide HRC5).bw⟩
  | false =>
    cases b with
    | false =>
      go_enter Tryz.func7, Tryz.ntmps7
      go_wp2_with fail
      rw [← unhide HW1, ← unhide HW2, ← unhide HW3]
      refine (unhide HE _ (unhide HRC).bw).mono ?_
      rintro e w4 ⟨rfl, hb4⟩
      have HRC4 := hide ((unhide HRC).step hb4)
      clear HRC HE HW1 HW2 HW3 hb4
      obtain ⟨c0, c1, c2, c3, c4⟩ := (unhide HRC4).cb.all
      obtain ⟨r0, r1, r2, r3, r4, r5, r6, r7, r8, r9, r10, r11, r12⟩ := (unhide HRC4).ru.cells
      obtain ⟨p0, p1, p2, p3, p4, p5⟩ := (unhide HRC4).pb.all
      go_wp2_with fail
      refine (unhide HMO _ (unhide HRC4).bw).mono ?_
      rintro e w5 ⟨v, rfl, hown, hb5⟩
      obtain ⟨lo1, lc1, rfl⟩ := row_len hown
      have hl5 : isMvs w5 (.slice lo1 n lc1) L := isMvs.of (by rw [← unhide HN]; exact hown)
      have HL5 := hide hl5
      have HRC5 := hide ((unhide HRC4).step hb5)
      clear HRC4 hb5 HMO hown hl5 r0 r1 r2 r3 r4 r5 r6 r7 r8 r9 r10 r11 r12 p0 p1 p2 p3 p4 p5 c0 c1 c2 c3 c4
      obtain ⟨c0, c1, c2, c3, c4⟩ := (unhide HRC5).cb.all
      obtain ⟨p0, p1, p2, p3, p4, p5⟩ := (unhide HRC5).pb.all
      go_wp2
      go_ret
      exact ⟨rfl, (unhide HRC5).bw⟩
    | true =>
      by_cases hab : n = kl
      · subst hab
        have hbe : ((n : Int) != (n : Int)) = false := by simp
        cases dk with
        | zero =>
          exfalso
          have := unhide HKL
          rw [(unhide HKS).1] at this
          exact hn0 this
        | succ dk =>
          obtain ⟨hkl, hkx, hkn, hkc⟩ := unhide HKS
          obtain ⟨g, off, eg, hg, hcc⟩ := hkc (by intro e; rw [e] at HKL; exact hn0 (unhide HKL))
          subst eg
          unfold maxLen at hkx
          have hak : n ≤ nc := by rw [unhide HKL]; exact hkl
          have HCC := hide hcc
          clear hkl hkn hkc hcc HKS
          go_enter Tryz.func7, Tryz.ntmps7
          go_wp2_with fail
          rw [← unhide HW1, ← unhide HW2, ← unhide HW3]
          refine (unhide HE _ (unhide HRC).bw).mono ?_
          rintro e w4 ⟨rfl, hb4⟩
          have HRC4 := hide ((unhide HRC).step hb4)
          clear HRC HE HW1 HW2 HW3 hb4
          obtain ⟨c0, c1, c2, c3, c4⟩ := (unhide HRC4).cb.all
          obtain ⟨r0, r1, r2, r3, r4, r5, r6, r7, r8, r9, r10, r11, r12⟩ := (unhide HRC4).ru.cells
          obtain ⟨p0, p1, p2, p3, p4, p5⟩ := (unhide HRC4).pb.all
          go_wp2_with fail
          refine (unhide HMO _ (unhide HRC4).bw).mono ?_
          rintro e w5 ⟨v, rfl, hown, hb5⟩
          obtain ⟨lo1, lc1, rfl⟩ := row_len hown
          have hl5 : isMvs w5 (.slice lo1 n lc1) L := isMvs.of (by rw [← unhide HN]; exact hown)
          have HL5 := hide hl5
          have HRC5 := hide ((unhide HRC4).step hb5)
          clear HRC4 hb5 HMO hown hl5 r0 r1 r2 r3 r4 r5 r6 r7 r8 r9 r10 r11 r12 p0 p1 p2 p3 p4 p5 c0 c1 c2 c3 c4
          obtain ⟨c0, c1, c2, c3, c4⟩ := (unhide HRC5).cb.all
          obtain ⟨p0, p1, p2, p3, p4, p5⟩ := (unhide HRC5).pb.all
          go_wp2_with fail
          go_loopw [14] (fun iv wr => ∃ i : Nat, iv = .int .i64 (i : Int) ∧ i ≤ n ∧ Hid (shK F beh (ks.drop i) (L.drop i) = R) ∧ Hid (Below w5.heap.size w5 wr)) (fun iv _ => n - (intOf iv).toNat)
          case atStart => exact ⟨0, rfl, Nat.zero_le _, hide (unhide HR).symm, hide (Below.refl _ _)⟩
          case round =>
            obtain ⟨i, rfl, hi, HRI, HB⟩ := hrel
            have hrcr := (unhide HRC5).step (unhide HB)
            clear c0 c1 c2 c3 c4 p0 p1 p2 p3 p4 p5
            by_cases hlt : i < n
            · have hlti : (i : Int) < (n : Int) := by omega
              have hi0 : (0 : Int) ≤ (i : Int) := by omega
              have hik : i < ks.length := by rw [← unhide HKL]; exact hlt
              have him : i < L.length := by rw [← unhide HN]; exact hlt
              obtain ⟨x, hx⟩ : ∃ x, x = ks[i] := ⟨_, rfl⟩
              obtain ⟨m, hm⟩ : ∃ m, m = L[i] := ⟨_, rfl⟩
              have hxi : ks[i]? = some x := by rw [hx]; exact List.getElem?_eq_getElem hik
              have hmi : L[i]? = some m := by rw [hm]; exact List.getElem?_eq_getElem him
              have hmem := List.mem_of_getElem? hmi
              have hst := unhide HRI
              rw [shK_drop hxi hmi] at hst
              obtain ⟨ao, cap, e1, hle, hmx, hcs⟩ := (unhide HL5).below (unhide HB)
              obtain ⟨gm, om, eg, hgk, d0, d1, d2⟩ := hcs i m hmi
              simp only [Value.slice.injEq] at e1
              obtain ⟨e1, e2, e3⟩ := e1
              subst eg
              subst e1
              subst e3
              unfold maxLen at hmx
              rw [← unhide HN] at hle
              obtain ⟨hx256, xo, xc, k0, k1, k2, k3, k4, k5⟩ := unhide HCC i x hxi
              have hbwr := hrcr.bw
              have HM1 := hide (unhide HMA m hmem)
              have HP1 := hide (fun u (hu : Below wr.heap.size wr u) => unhide HIH m hmem x xo xc dk u (hbwr.trans (hu.mono hbwr.size)) (isCts.below (hbwr.trans (hu.mono hbwr.size)) hB dk xo xc x.ks k5) hx256)
              obtain ⟨Q, hQ⟩ : ∃ Q, Q = beh m := ⟨_, rfl⟩
              rw [← hQ] at HM1 HP1 hst
              obtain ⟨r, hr⟩ : ∃ r, r = F Q x := ⟨_, rfl⟩
              rw [← hr] at HP1 hst
              obtain ⟨xl, hxl⟩ : ∃ xl, xl = x.ks.length := ⟨_, rfl⟩
              rw [← hxl] at HP1 k4
              have hHS : ∀ u, Below wr.heap.size wr u → (u.cell? ⟨w.heap.size, 0, none⟩ = some v0 ∧ u.cell? ⟨w.heap.size, 1, none⟩ = some v1 ∧ u.cell? ⟨w.heap.size, 2, none⟩ = some v2 ∧ u.cell? ⟨w.heap.size, 3, none⟩ = some v3 ∧ u.cell? ⟨w.heap.size, 4, none⟩ = some v4 ∧ u.cell? ⟨w.heap.size, 5, none⟩ = some v5 ∧ u.cell? ⟨w.heap.size, 6, none⟩ = some v6 ∧ u.cell? ⟨w.heap.size, 7, none⟩ = some v7 ∧ u.cell? ⟨w.heap.size, 8, none⟩ = some v8 ∧ u.cell? ⟨w.heap.size, 9, none⟩ = some v9 ∧ u.cell? ⟨w.heap.size, 10, none⟩ = some v10 ∧ u.cell? ⟨w.heap.size, 11, none⟩ = some v11 ∧ u.cell? ⟨w.heap.size, 12, none⟩ = some v12 ∧ u.cell? ⟨w.heap.size + 1, 0, none⟩ = some (.int .i64 p.W) ∧ u.cell? ⟨w.heap.size + 1, 1, none⟩ = some (.int .i64 p.H) ∧ u.cell? ⟨w.heap.size + 1, 2, none⟩ = some (.string p.C) ∧ u.cell? ⟨w.heap.size + 1, 3, none⟩ = some (.int .i64 p.T) ∧ u.cell? ⟨w.heap.size + 1, 4, none⟩ = some (.string p.A) ∧ u.cell? ⟨w.heap.size + 1, 5, none⟩ = some (.string p.B) ∧ u.cell? ⟨w.heap.size + 1 + 1, 0, none⟩ = some (.bool false) ∧ u.cell? ⟨w.heap.size + 1 + 1, 1, none⟩ = some (.int .i64 f) ∧ u.cell? ⟨w.heap.size + 1 + 1, 2, none⟩ = some (.int .i64 t) ∧ u.cell? ⟨w.heap.size + 1 + 1, 3, none⟩ = some (.int .u8 (c : Int)) ∧ u.cell? ⟨w.heap.size + 1 + 1, 4, none⟩ = some (.slice (some ⟨g, off, none⟩) n nc) ∧ u.cell? ⟨gm, om + i * 3, none⟩ = some (.int .i64 m.f) ∧ u.cell? ⟨gm, om + i * 3 + 1, none⟩ = some (.int .i64 (m.t : Int)) ∧ u.cell? ⟨gm, om + i * 3 + 2, none⟩ = some (.int .u8 (m.c : Int)) ∧ u.cell? ⟨g, off + i * 5, none⟩ = some (.bool x.s) ∧ u.cell? ⟨g, off + i * 5 + 1, none⟩ = some (.int .i64 x.f) ∧ u.cell? ⟨g, off + i * 5 + 2, none⟩ = some (.int .i64 x.t) ∧ u.cell? ⟨g, off + i * 5 + 3, none⟩ = some (.int .u8 (x.c : Int)) ∧ u.cell? ⟨g, off + i * 5 + 4, none⟩ = some (.slice xo xl xc) ∧ Below wr.heap.size wr u) := fun u hu => by
                have hrc := hrcr.step hu
                obtain ⟨x0, x1, x2, x3, x4, x5, x6, x7, x8, x9, x10, x11, x12⟩ := hrc.ru.cells
                obtain ⟨y0, y1, y2, y3, y4, y5⟩ := hrc.pb.all
                obtain ⟨z0, z1, z2, z3, z4⟩ := hrc.cb.all
                exact ⟨x0, x1, x2, x3, x4, x5, x6, x7, x8, x9, x10, x11, x12, y0, y1, y2, y3, y4, y5, z0, z1, z2, z3, z4, (hu.cell (p := ⟨gm, om + i * 3, none⟩) hgk).trans d0, (hu.cell (p := ⟨gm, om + i * 3 + 1, none⟩) hgk).trans d1, (hu.cell (p := ⟨gm, om + i * 3 + 2, none⟩) hgk).trans d2, ((hbwr.trans (hu.mono hbwr.size)).cell (p := ⟨g, off + i * 5, none⟩) (by dsimp only; omega)).trans k0, ((hbwr.trans (hu.mono hbwr.size)).cell (p := ⟨g, off + i * 5 + 1, none⟩) (by dsimp only; omega)).trans k1, ((hbwr.trans (hu.mono hbwr.size)).cell (p := ⟨g, off + i * 5 + 2, none⟩) (by dsimp only; omega)).trans k2, ((hbwr.trans (hu.mono hbwr.size)).cell (p := ⟨g, off + i * 5 + 3, none⟩) (by dsimp only; omega)).trans k3, ((hbwr.trans (hu.mono hbwr.size)).cell (p := ⟨g, off + i * 5 + 4, none⟩) (by dsimp only; omega)).trans k4, hu⟩
              have HS := hide hHS
              have HBW := hide (fun u (hu : Below wr.heap.size wr u) => hbwr.trans (hu.mono hbwr.size))
              have HB0 : Hid (Below wr.heap.size wr wr.drew) := hide (Below.refl _ _).drew
              have HST := hide hst
              clear hHS hx hm hxi hmi hmem hst hcs e2 hrcr hik him d0 d1 d2 k0 k1 k2 k3 k4 k5 hQ hr hxl hbwr HRI
              go_upto_region 13 with fail
              go_region_held3 (fun u => u.cell? ⟨w.heap.size, 0, none⟩ = some v0 ∧ u.cell? ⟨w.heap.size, 1, none⟩ = some v1 ∧ u.cell? ⟨w.heap.size, 2, none⟩ = some v2 ∧ u.cell? ⟨w.heap.size, 3, none⟩ = some v3 ∧ u.cell? ⟨w.heap.size, 4, none⟩ = some v4 ∧ u.cell? ⟨w.heap.size, 5, none⟩ = some v5 ∧ u.cell? ⟨w.heap.size, 6, none⟩ = some v6 ∧ u.cell? ⟨w.heap.size, 7, none⟩ = some v7 ∧ u.cell? ⟨w.heap.size, 8, none⟩ = some v8 ∧ u.cell? ⟨w.heap.size, 9, none⟩ = some v9 ∧ u.cell? ⟨w.heap.size, 10, none⟩ = some v10 ∧ u.cell? ⟨w.heap.size, 11, none⟩ = some v11 ∧ u.cell? ⟨w.heap.size, 12, none⟩ = some v12 ∧ u.cell? ⟨w.heap.size + 1, 0, none⟩ = some (.int .i64 p.W) ∧ u.cell? ⟨w.heap.size + 1, 1, none⟩ = some (.int .i64 p.H) ∧ u.cell? ⟨w.heap.size + 1, 2, none⟩ = some (.string p.C) ∧ u.cell? ⟨w.heap.size + 1, 3, none⟩ = some (.int .i64 p.T) ∧ u.cell? ⟨w.heap.size + 1, 4, none⟩ = some (.string p.A) ∧ u.cell? ⟨w.heap.size + 1, 5, none⟩ = some (.string p.B) ∧ u.cell? ⟨w.heap.size + 1 + 1, 0, none⟩ = some (.bool false) ∧ u.cell? ⟨w.heap.size + 1 + 1, 1, none⟩ = some (.int .i64 f) ∧ u.cell? ⟨w.heap.size + 1 + 1, 2, none⟩ = some (.int .i64 t) ∧ u.cell? ⟨w.heap.size + 1 + 1, 3, none⟩ = some (.int .u8 (c : Int)) ∧ u.cell? ⟨w.heap.size + 1 + 1, 4, none⟩ = some (.slice (some ⟨g, off, none⟩) n nc) ∧ u.cell? ⟨gm, om + i * 3, none⟩ = some (.int .i64 m.f) ∧ u.cell? ⟨gm, om + i * 3 + 1, none⟩ = some (.int .i64 (m.t : Int)) ∧ u.cell? ⟨gm, om + i * 3 + 2, none⟩ = some (.int .u8 (m.c : Int)) ∧ u.cell? ⟨g, off + i * 5, none⟩ = some (.bool x.s) ∧ u.cell? ⟨g, off + i * 5 + 1, none⟩ = some (.int .i64 x.f) ∧ u.cell? ⟨g, off + i * 5 + 2, none⟩ = some (.int .i64 x.t) ∧ u.cell? ⟨g, off + i * 5 + 3, none⟩ = some (.int .u8 (x.c : Int)) ∧ u.cell? ⟨g, off + i * 5 + 4, none⟩ = some (.slice xo xl xc) ∧ Below wr.heap.size wr u)
                (first
                  | with_reducible exact unhide HS _ (unhide HB0)
                  | with_reducible exact unhide HS _ (unhide HX)
                  | with_reducible exact unhide HS _ (unhide HY))
                (first
                  | (go_at_call 21; (with_reducible refine (unhide HM1 _ (unhide HBW _ (unhide HB0))).mono ?_); rintro e wx ⟨rfl, hbx⟩
                     have HX : Hid (Below wr.heap.size wr wx) := hide ((unhide HB0).trans (hbx.mono (unhide HB0).size))
                     clear hbx)
                  | (go_at_call 7; (with_reducible refine (unhide HP1 _ (unhide HX)).mono ?_); rintro e wy ⟨rfl, hby⟩
                     have HY : Hid (Below wr.heap.size wr wy) := hide ((unhide HX).trans (hby.mono (unhide HX).size))
                     clear hby))
              all_goals
                cases r with
                | true =>
                  have HST2 : Hid (shK F beh (ks.drop (i + 1)) (L.drop (i + 1)) = R) := hide (by have := unhide HST; simpa using this)
                  go_wp2
                  go_roundw
                  case rel => exact ⟨i + 1, by go_num, by omega, HST2, hide ((unhide HB).trans ((unhide HY).mono (unhide HB).size))⟩
                  case measure => simp only [intOf]; omega
                | false =>
                  have HRF : Hid (R = false) := hide (by have := unhide HST; simpa using this.symm)
                  go_wp2
                  go_ret
                  exact ⟨by rw [unhide HRF]; rfl, unhide HBW _ (unhide HY)⟩
            · have hlti : ¬ (i : Int) < (n : Int) := by omega
              have hRt : R = true := by
                have := unhide HRI
                rw [List.drop_eq_nil_of_le (by rw [← unhide HKL]; omega), List.drop_eq_nil_of_le (by rw [← unhide HN]; omega)] at this
                exact this.symm
              have HRT := hide hRt
              have HBF := hide hrcr.bw
              clear hRt hrcr
              go_wp2
              go_ret
              exact ⟨by rw [unhide HRT]; rfl, unhide HBF⟩
      · have hbe : ((kl : Int) != (n : Int)) = true := by simp; omega
        have hRf : R = false := by rw [unhide HR]; exact shK_len (by rw [← unhide HKL, ← unhide HN]; exact fun e => hab e.symm)
        have HRF := hide hRf
        clear hRf hab
        go_enter Tryz.func7, Tryz.ntmps7
        go_wp2_with fail
        rw [← unhide HW1, ← unhide HW2, ← unhide HW3]
        refine (unhide HE _ (unhide HRC).bw).mono ?_
        rintro e w4 ⟨rfl, hb4⟩
        have HRC4 := hide ((unhide HRC).step hb4)
        clear HRC HE HW1 HW2 HW3 hb4
        obtain ⟨c0, c1, c2, c3, c4⟩ := (unhide HRC4).cb.all
        obtain ⟨r0, r1, r2, r3, r4, r5, r6, r7, r8, r9, r10, r11, r12⟩ := (unhide HRC4).ru.cells
        obtain ⟨p0, p1, p2, p3, p4, p5⟩ := (unhide HRC4).pb.all
        go_wp2_with fail
        refine (unhide HMO _ (unhide HRC4).bw).mono ?_
        rintro e w5 ⟨v, rfl, hown, hb5⟩
        obtain ⟨lo1, lc1, rfl⟩ := row_len hown
        have hl5 : isMvs w5 (.slice lo1 n lc1) L := isMvs.of (by rw [← unhide HN]; exact hown)
        have HL5 := hide hl5
        have HRC5 := hide ((unhide HRC4).step hb5)
        clear HRC4 hb5 HMO hown hl5 r0 r1 r2 r3 r4 r5 r6 r7 r8 r9 r10 r11 r12 p0 p1 p2 p3 p4 p5 c0 c1 c2 c3 c4
        obtain ⟨c0, c1, c2, c3, c4⟩ := (unhide HRC5).cb.all
        obtain ⟨p0, p1, p2, p3, p4, p5⟩ := (unhide HRC5).pb.all
        go_wp2
        go_ret
        exact ⟨by rw [unhide HRF]; rfl, (unhide HRC5).bw⟩

end Go.Proofs.YtlogengkhlmcbaaGreatDoor

namespace Go.Proofs.YtlogengkhlmcbaaGreatDoor
open Go.RowKit

/-- gameref.Shows, at every number of moves. -/
theorem shows_walk (ok : Po → Prop) (L : Po → List Mv) (beh : Po → Mv → Po) (o : Po → Int) (v0 v1 v2 v3 v4 v5 v6 v7 v8 v9 v10 v11 v12 : Value) (win : Int) (w00 : World) (hwin : win = 0 ∨ win = 1) (hlen : ∀ p, ok p → (L p).length ≤ 4608)
    (hOL : ∀ p, ok p → (o p = 0 ↔ L p ≠ []))
    (hO : ∀ p, ok p → ∀ u, Below w00.heap.size w00 u → Calls Tryz.prog 18 #[.agg #[v0, v1, v2, v3, v4, v5, v6, v7, v8, v9, v10, v11, v12], .agg #[.int .i64 p.W, .int .i64 p.H, .string p.C, .int .i64 p.T, .string p.A, .string p.B]] u fun e w' => e = .returned (.int .i64 (o p)) ∧ Below u.heap.size u w')
    (hL : ∀ p, ok p → ∀ u, Below w00.heap.size w00 u → Calls Tryz.prog 19 #[.agg #[v0, v1, v2, v3, v4, v5, v6, v7, v8, v9, v10, v11, v12], .agg #[.int .i64 p.W, .int .i64 p.H, .string p.C, .int .i64 p.T, .string p.A, .string p.B]] u fun e w' => ∃ v, e = .returned v ∧ w'.ownsRow u.heap.size 29 3 v (L p).length (mvals (L p)) ∧ Below u.heap.size u w')
    (hB : ∀ p, ok p → ∀ m ∈ L p, ok (beh p m) ∧ ∀ u, Below w00.heap.size w00 u → Calls Tryz.prog 21 #[.agg #[v0, v1, v2, v3, v4, v5, v6, v7, v8, v9, v10, v11, v12], .agg #[.int .i64 p.W, .int .i64 p.H, .string p.C, .int .i64 p.T, .string p.A, .string p.B], .agg #[.int .i64 m.f, .int .i64 (m.t : Int), .int .u8 (m.c : Int)]] u fun e w' => e = .returned (.agg #[.int .i64 (beh p m).W, .int .i64 (beh p m).H, .string (beh p m).C, .int .i64 (beh p m).T, .string (beh p m).A, .string (beh p m).B]) ∧ Below u.heap.size u w') :
    ∀ (n : Nat), n ≤ 9 → ∀ p, ok p → ∀ (x : Ct) (no : Option Addr) (nc d B : Nat) (w : World), Below w00.heap.size w00 w → B ≤ w.heap.size → isCts d w B no nc x.ks → x.c < 256 →
      Calls Tryz.prog 7 #[.agg #[v0, v1, v2, v3, v4, v5, v6, v7, v8, v9, v10, v11, v12], .agg #[.int .i64 p.W, .int .i64 p.H, .string p.C, .int .i64 p.T, .string p.A, .string p.B], .int .i64 (n : Int), .int .i64 win, .agg #[.bool x.s, .int .i64 x.f, .int .i64 x.t, .int .u8 (x.c : Int), .slice no x.ks.length nc]] w fun e w' => e = .returned (.bool (shN L beh o win n p x)) ∧ Below w.heap.size w w' := by
  intro n
  induction n with
  | zero =>
    intro _ p hp x no nc d B w hw _ _ _
    rw [shN, show x.ks.isEmpty = decide (x.ks.length = 0) by cases x.ks <;> simp]
    exact shows_over v0 v1 v2 v3 v4 v5 v6 v7 v8 v9 v10 v11 v12 win (o p) 0 p x.s x.f x.t x.c no x.ks.length nc w hwin (Or.inr rfl) (fun u hu => hO p hp u (hw.trans (hu.mono hw.size)))
  | succ n ih =>
    intro hn p hp x no nc d B w hw hBw hks hxc
    have hup : ∀ u, Below w.heap.size w u → Below w00.heap.size w00 u := fun u hu => hw.trans (hu.mono hw.size)
    rw [shN]
    by_cases ho : o p = 0
    · have hL0 := (hOL p hp).1 ho
      have hE : ∀ u, Below w.heap.size w u → Calls Tryz.prog 18 #[.agg #[v0, v1, v2, v3, v4, v5, v6, v7, v8, v9, v10, v11, v12], .agg #[.int .i64 p.W, .int .i64 p.H, .string p.C, .int .i64 p.T, .string p.A, .string p.B]] u fun e w' => e = .returned (.int .i64 0) ∧ Below u.heap.size u w' := fun u hu => by
        have := hO p hp u (hup u hu)
        rw [ho] at this
        exact this
      rw [if_neg (show ¬ o p = win + 1 by omega), if_neg hL0]
      by_cases hT : p.T = win
      · rw [if_pos hT]
        exact shows_one v0 v1 v2 v3 v4 v5 v6 v7 v8 v9 v10 v11 v12 win n d B p (L p) (beh p) (shN L beh o win n) x.s x.f x.t x.c no x.ks nc w (by omega) (by simp [hT]) hBw hks hE (fun u hu => hL p hp u (hup u hu))
          (fun hin m hm u hu => by
            obtain ⟨h1, h2⟩ := in_nat hin
            have := (hB p hp m (by rw [hm]; exact h1)).2 u (hup u hu)
            rw [hm] at this ⊢
            simp only at this
            rw [← h2] at this
            exact this)
          (fun hin m hm y xo xc d' u hu hy hyc => ih (by omega) (beh p m) (hB p hp m (by rw [hm]; exact (in_nat hin).1)).1 y xo xc d' B u (hup u hu) (Nat.le_trans hBw hu.size) hy hyc)
      · rw [if_neg hT]
        exact shows_all v0 v1 v2 v3 v4 v5 v6 v7 v8 v9 v10 v11 v12 win n d B p (L p) (beh p) (shN L beh o win n) x.s x.f x.t x.c no x.ks nc w (by omega) (by simp [hT]) (hlen p hp) hL0 hBw hks hE (fun u hu => hL p hp u (hup u hu))
          (fun m hm u hu => (hB p hp m hm).2 u (hup u hu))
          (fun m hm y xo xc d' u hu hy hyc => ih (by omega) (beh p m) (hB p hp m hm).1 y xo xc d' B u (hup u hu) (Nat.le_trans hBw hu.size) hy hyc)
    · have hnil : L p = [] := Classical.byContradiction fun h => ho ((hOL p hp).2 h)
      have e : (if o p = win + 1 then bareB x.s x.f x.t x.c && x.ks.isEmpty else if L p = [] then false else if p.T = win then x.s && inM x.f x.t x.c (L p) && shK (shN L beh o win n) (beh p) x.ks [⟨x.f, x.t.toNat, x.c⟩] else bareB x.s x.f x.t x.c && shK (shN L beh o win n) (beh p) x.ks (L p)) = (decide (o p = win + 1) && (bareB x.s x.f x.t x.c && decide (x.ks.length = 0))) := by
        rw [if_pos hnil, show x.ks.isEmpty = decide (x.ks.length = 0) by cases x.ks <;> simp]
        by_cases h : o p = win + 1
        · rw [if_pos h, decide_eq_true h, Bool.true_and]
        · rw [if_neg h, decide_eq_false h, Bool.false_and]
      rw [e]
      exact shows_over v0 v1 v2 v3 v4 v5 v6 v7 v8 v9 v10 v11 v12 win (o p) _ p x.s x.f x.t x.c no x.ks.length nc w hwin (Or.inl ho) (fun u hu => hO p hp u (hup u hu))
end Go.Proofs.YtlogengkhlmcbaaGreatDoor
