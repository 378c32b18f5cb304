/-
  gameref.Shows: the turn is the winner's own.
-/
import Derived.Test.YtlogengkhlmcbaaGreatDoorJ40
import Derived.Deep.RegionHeld3
import Derived.Deep.QuietTactic
import Derived.BigQuiet
namespace Go.Proofs.YtlogengkhlmcbaaGreatDoor
open Go.RowKit
attribute [local go_sem ↓] Go.wp_at_zero Go.wp_at_succ

theorem entIn : ∀ args (u : World), (callFunc 20 args).run Tryz.prog u = .ok (.enter 20 args) u := enters_of Tryz.func20 (by kernel_rfl) rfl

set_option linter.unusedSimpArgs false in
set_option maxHeartbeats 8000000 in
set_option maxRecDepth 100000 in
theorem shows_one (v0 v1 v2 v3 v4 v5 v6 v7 v8 v9 v10 v11 v12 : Value) (win : Int) (d dk B : Nat) (p : Po) (L : List Mv) (beh : Mv → Po) (F : Po → Ct → Bool) (s : Bool) (f t : Int) (c : Nat) (no : Option Addr) (ks : List Ct) (nc : Nat) (w : World) (hd : d ≤ 8) (hT : (p.T == win) = true) (hB : B ≤ w.heap.size) (hks : isCts dk w B no nc ks)
    (hE : ∀ u, Below w.heap.size w u → Calls Tryz.prog 18 #[.agg #[v0, v1, v2, v3, v4, v5, v6, v7, v8, v9, v10, v11, v12], .agg #[.int .i64 p.W, .int .i64 p.H, .string p.C, .int .i64 p.T, .string p.A, .string p.B]] u fun e w' => e = .returned (.int .i64 0) ∧ Below u.heap.size u w')
    (hMO : ∀ u, Below w.heap.size w u → Calls Tryz.prog 19 #[.agg #[v0, v1, v2, v3, v4, v5, v6, v7, v8, v9, v10, v11, v12], .agg #[.int .i64 p.W, .int .i64 p.H, .string p.C, .int .i64 p.T, .string p.A, .string p.B]] u fun e w' => ∃ v, e = .returned v ∧ w'.ownsRow u.heap.size 29 3 v L.length (mvals L) ∧ Below u.heap.size u w')
    (hMA : inM f t c L = true → ∀ m, m = (⟨f, t.toNat, c⟩ : Mv) → ∀ u, Below w.heap.size w u → Calls Tryz.prog 21 #[.agg #[v0, v1, v2, v3, v4, v5, v6, v7, v8, v9, v10, v11, v12], .agg #[.int .i64 p.W, .int .i64 p.H, .string p.C, .int .i64 p.T, .string p.A, .string p.B], .agg #[.int .i64 f, .int .i64 t, .int .u8 (c : Int)]] u fun e w' => e = .returned (.agg #[.int .i64 (beh m).W, .int .i64 (beh m).H, .string (beh m).C, .int .i64 (beh m).T, .string (beh m).A, .string (beh m).B]) ∧ Below u.heap.size u w')
    (hIH : inM f t c L = true → ∀ m, m = (⟨f, t.toNat, c⟩ : Mv) → ∀ (x : Ct) (xo : Option Addr) (xc d' : Nat) (u : World), Below w.heap.size w u → isCts d' u B xo xc x.ks → x.c < 256 → Calls Tryz.prog 7 #[.agg #[v0, v1, v2, v3, v4, v5, v6, v7, v8, v9, v10, v11, v12], .agg #[.int .i64 (beh m).W, .int .i64 (beh m).H, .string (beh m).C, .int .i64 (beh m).T, .string (beh m).A, .string (beh m).B], .int .i64 (d : Int), .int .i64 win, .agg #[.bool x.s, .int .i64 x.f, .int .i64 x.t, .int .u8 (x.c : Int), .slice xo x.ks.length xc]] u fun e w' => e = .returned (.bool (F (beh m) x)) ∧ Below u.heap.size u w') :
    Calls Tryz.prog 7 #[.agg #[v0, v1, v2, v3, v4, v5, v6, v7, v8, v9, v10, v11, v12], .agg #[.int .i64 p.W, .int .i64 p.H, .string p.C, .int .i64 p.T, .string p.A, .string p.B], .int .i64 ((d + 1 : Nat) : Int), .int .i64 win, .agg #[.bool s, .int .i64 f, .int .i64 t, .int .u8 (c : Int), .slice no ks.length nc]] w fun e w' => e = .returned (.bool (s && inM f t c L && shK F beh ks [⟨f, t.toNat, c⟩])) ∧ Below w.heap.size w w' := by
  obtain ⟨kl, hkl⟩ : ∃ kl, kl = ks.length := ⟨_, rfl⟩
  rw [← hkl]
  obtain ⟨w1, hw1⟩ : ∃ w1, w1 = w.alloc (.cells #[v0, v1, v2, v3, v4, v5, v6, v7, v8, v9, v10, v11, v12] 27 (0, 0)) := ⟨_, rfl⟩
  obtain ⟨w2, hw2⟩ : ∃ w2, w2 = w1.alloc (.cells #[.int .i64 p.W, .int .i64 p.H, .string p.C, .int .i64 p.T, .string p.A, .string p.B] 24 (0, 0)) := ⟨_, rfl⟩
  obtain ⟨w3, hw3⟩ : ∃ w3, w3 = w2.alloc (.cells #[.bool s, .int .i64 f, .int .i64 t, .int .u8 (c : Int), .slice no kl nc] 32 (0, 0)) := ⟨_, rfl⟩
  have hb1 : Below w.heap.size w w1 := by rw [hw1]; exact (Below.refl _ _).alloc (Nat.le_refl _) _
  have hb2 : Below w1.heap.size w1 w2 := by rw [hw2]; exact (Below.refl _ _).alloc (Nat.le_refl _) _
  have hb3 : Below w2.heap.size w2 w3 := by rw [hw3]; exact (Below.refl _ _).alloc (Nat.le_refl _) _
  have s1 : w1.heap.size = w.heap.size + 1 := by rw [hw1]; simp
  have s2 : w2.heap.size = w.heap.size + 1 + 1 := by rw [hw2]; simp [s1]
  have s3 : w3.heap.size = w.heap.size + 1 + 1 + 1 := by rw [hw3]; simp [s2]
  have hrc3 : RC w v0 v1 v2 v3 v4 v5 v6 v7 v8 v9 v10 v11 v12 p s f t c (.slice no kl nc) w3 :=
    ⟨isRu.below (isRu.below (show isRu w1 w.heap.size v0 v1 v2 v3 v4 v5 v6 v7 v8 v9 v10 v11 v12 by rw [hw1]; exact heap_alloc_new w _) hb2 (by omega)) hb3 (by omega), isPb.below (show isPb w2 (w.heap.size + 1) p.W p.H p.T p.C p.A p.B by rw [hw2, ← s1]; exact heap_alloc_new w1 _) hb3 (by omega), by rw [hw3, ← s2]; exact heap_alloc_new w2 _, (hb1.trans (hb2.mono (by omega))).trans (hb3.mono (by omega)), by omega⟩
  have HRC := hide hrc3
  have HW1 := hide hw1
  have HW2 := hide hw2
  have HW3 := hide hw3
  clear hw1 hw2 hw3 hb1 hb2 hb3 s1 s2 s3 hrc3
  obtain ⟨b, hb⟩ : ∃ b, b = (decide (f = 0) && decide (t = 0) && decide (c = 0)) := ⟨_, rfl⟩
  have heq : ∀ u, (Op.equalIn 10000 29 (.agg #[.int .i64 f, .int .i64 t, .int .u8 (c : Int)]) (.agg #[.int .i64 0, .int .i64 0, .int .u8 0])).run Tryz.prog u = .ok b u := fun u => by
    rw [eqMove, hb]
    congr 1
    rw [Bool.eq_iff_iff]
    simp
  clear hb
  obtain ⟨n, hn⟩ : ∃ n, n = L.length := ⟨_, rfl⟩
  rw [← hn] at hMO
  have hdz : (((d + 1 : Nat) : Int) == 0) = false := by simp; omega
  obtain ⟨D, hD⟩ : ∃ D : Nat, D = d + 1 := ⟨_, rfl⟩
  rw [← hD] at hdz ⊢
  have hD1 : (D : Int) - 1 = (d : Int) := by omega
  have wD : IntKind.i64.wrap (d : Int) = (d : Int) := wrapS (by omega) (by omega)
  have HN := hide hn
  have HE := hide hE
  have HMO := hide hMO
  have HMA := hide hMA
  have HIH := hide hIH
  have HKS := hide hks
  have HKL := hide hkl
  clear hE hMO hMA hIH hn hD hks hkl
  cases s with
  | false =>
    go_enter Tryz.func7, Tryz.ntmps7
    go_wp2_with fail
    rw [← unhide HW1, ← unhide HW2, ← unhide HW3]
    refine (unhide HE _ (unhide HRC).bw).mono ?_
    rintro e w4 ⟨rfl, hb4⟩
    have HRC4 := hide ((unhide HRC).step hb4)
    clear HRC HE HW1 HW2 HW3 hb4
    obtain ⟨c0, c1, c2, c3, c4⟩ := (unhide HRC4).cb.all
    obtain ⟨r0, r1, r2, r3, r4, r5, r6, r7, r8, r9, r10, r11, r12⟩ := (unhide HRC4).ru.cells
    obtain ⟨p0, p1, p2, p3, p4, p5⟩ := (unhide HRC4).pb.all
    go_wp2_with fail
    refine (unhide HMO _ (unhide HRC4).bw).mono ?_
    rintro e w5 ⟨v, rfl, hown, hb5⟩
    obtain ⟨lo1, lc1, rfl⟩ := row_len hown
    have hl5 : isMvs w5 (.slice lo1 n lc1) L := isMvs.of (by rw [← unhide HN]; exact hown)
    have HL5 := hide hl5
    have HRC5 := hide ((unhide HRC4).step hb5)
    clear HRC4 hb5 HMO hown hl5 r0 r1 r2 r3 r4 r5 r6 r7 r8 r9 r10 r11 r12 p0 p1 p2 p3 p4 p5 c0 c1 c2 c3 c4
    obtain ⟨p0, p1, p2, p3, p4, p5⟩ := (unhide HRC5).pb.all
    obtain ⟨c0, c1, c2, c3, c4⟩ := (unhide HRC5).cb.all
    have HBF := hide (unhide HRC5).bw
    go_upto_region 7 with fail
    go_quiet (fail)
    go_wp2
    go_ret
    exact ⟨rfl, ⟨(unhide HBF).os, (unhide HBF).tape, (unhide HBF).output, (unhide HBF).size, (unhide HBF).block⟩⟩
  | true =>
    rw [Bool.true_and]
    by_cases hk1 : kl = 1
    · obtain ⟨q, hq⟩ : ∃ q, q = inM f t c L := ⟨_, rfl⟩
      have HQ := hide hq
      rw [← hq]
      obtain ⟨x, hx⟩ : ∃ x, ks = [x] := by
        have := unhide HKL
        rw [hk1] at this
        exact List.length_eq_one_iff.1 this.symm
      subst hk1
      cases dk with
      | zero =>
        exfalso
        have := (unhide HKS).1
        rw [hx] at this
        exact absurd this (by simp)
      | succ dk =>
        obtain ⟨hkl, hkx, hkn, hkc⟩ := unhide HKS
        obtain ⟨g, off, eg, hg, hcc⟩ := hkc (by rw [hx]; simp)
        subst eg
        obtain ⟨hx256, xo, xc, k0, k1, k2, k3, k4, k5⟩ := hcc 0 x (by rw [hx]; rfl)
        have hnc1 : 1 ≤ nc := by rw [hx] at hkl; exact hkl
        unfold maxLen at hkx
        simp only [Nat.zero_mul, Nat.add_zero] at k0 k1 k2 k3 k4
        rw [hx, shK, shK, Bool.and_true]
        obtain ⟨xl, hxl⟩ : ∃ xl, xl = x.ks.length := ⟨_, rfl⟩
        rw [← hxl] at k4
        cases q with
        | false =>
          clear hq hx hcc hkc hkn hkl hxl k0 k1 k2 k3 k4 k5
          go_enter Tryz.func7, Tryz.ntmps7
          go_wp2_with fail
          rw [← unhide HW1, ← unhide HW2, ← unhide HW3]
          refine (unhide HE _ (unhide HRC).bw).mono ?_
          rintro e w4 ⟨rfl, hb4⟩
          have HRC4 := hide ((unhide HRC).step hb4)
          clear HRC HE HW1 HW2 HW3 hb4
          obtain ⟨c0, c1, c2, c3, c4⟩ := (unhide HRC4).cb.all
          obtain ⟨r0, r1, r2, r3, r4, r5, r6, r7, r8, r9, r10, r11, r12⟩ := (unhide HRC4).ru.cells
          obtain ⟨p0, p1, p2, p3, p4, p5⟩ := (unhide HRC4).pb.all
          go_wp2_with fail
          refine (unhide HMO _ (unhide HRC4).bw).mono ?_
          rintro e w5 ⟨v, rfl, hown, hb5⟩
          obtain ⟨lo1, lc1, rfl⟩ := row_len hown
          have hl5 : isMvs w5 (.slice lo1 n lc1) L := isMvs.of (by rw [← unhide HN]; exact hown)
          have HL5 := hide hl5
          have HRC5 := hide ((unhide HRC4).step hb5)
          clear HRC4 hb5 HMO hown hl5 r0 r1 r2 r3 r4 r5 r6 r7 r8 r9 r10 r11 r12 p0 p1 p2 p3 p4 p5 c0 c1 c2 c3 c4
          obtain ⟨p0, p1, p2, p3, p4, p5⟩ := (unhide HRC5).pb.all
          have HIN := hide (fun u (hu : Below w5.heap.size w5 u) => rIn_any (.slice lo1 n lc1) L f t c u ((unhide HL5).below hu))
          rw [← unhide HQ] at HIN
          have HBW := hide (unhide HRC5).bw
          have HB0 : Hid (Below w5.heap.size w5 w5.drew) := hide (Below.refl _ _).drew
          have hS0 : (w5.drew.cell? ⟨w.heap.size + 1 + 1, 0, none⟩ = some (.bool true) ∧ w5.drew.cell? ⟨w.heap.size + 1 + 1, 1, none⟩ = some (.int .i64 f) ∧ w5.drew.cell? ⟨w.heap.size + 1 + 1, 2, none⟩ = some (.int .i64 t) ∧ w5.drew.cell? ⟨w.heap.size + 1 + 1, 3, none⟩ = some (.int .u8 (c : Int)) ∧ w5.drew.cell? ⟨w.heap.size + 1 + 1, 4, none⟩ = some (.slice (some ⟨g, off, none⟩) 1 nc)) := (unhide HRC5).cb.all
          go_upto_region 7 with fail
          refine wp_region_held_drew (S := fun u => u.cell? ⟨w.heap.size + 1 + 1, 0, none⟩ = some (.bool true) ∧ u.cell? ⟨w.heap.size + 1 + 1, 1, none⟩ = some (.int .i64 f) ∧ u.cell? ⟨w.heap.size + 1 + 1, 2, none⟩ = some (.int .i64 t) ∧ u.cell? ⟨w.heap.size + 1 + 1, 3, none⟩ = some (.int .u8 (c : Int)) ∧ u.cell? ⟨w.heap.size + 1 + 1, 4, none⟩ = some (.slice (some ⟨g, off, none⟩) 1 nc)) (by kernel_rfl) hS0 (fun hHeld => ?_)
          clear hS0
          refine wpAnyH_take (i := 0) (oi := _) (v := ?_) rfl (by kernel_rfl) (by kernel_rfl) (by kernel_rfl) (fun _ _ _ h => h) (Or.inl ⟨by rfl, ?_⟩) (by assumption) ?_
          rotate_left 1
          · intro u hSu
            (try dsimp only at hSu)
            go_simp
            first | done | with_reducible rfl | rfl
          simp only [Act.put, List.getElem_toArray, List.getElem_cons_zero, List.getElem_cons_succ, List.setIfInBounds_toArray, List.set_cons_zero, List.set_cons_succ]
          refine wpAnyH_take (i := 1) (oi := _) (v := ?_) rfl (by kernel_rfl) (by kernel_rfl) (by kernel_rfl) (fun _ _ _ h => h) (Or.inl ⟨by rfl, ?_⟩) (by assumption) ?_
          rotate_left 1
          · intro u hSu
            (try dsimp only at hSu)
            go_simp
            first | done | with_reducible rfl | rfl
          simp only [Act.put, List.getElem_toArray, List.getElem_cons_zero, List.getElem_cons_succ, List.setIfInBounds_toArray, List.set_cons_zero, List.set_cons_succ]
          refine wpAnyH_take (i := 2) (oi := _) (v := ?_) rfl (by kernel_rfl) (by kernel_rfl) (by kernel_rfl) (fun _ _ _ h => h) (Or.inl ⟨by rfl, ?_⟩) (by assumption) ?_
          rotate_left 1
          · intro u hSu
            (try dsimp only at hSu)
            go_simp
            first | done | with_reducible rfl | rfl
          simp only [Act.put, List.getElem_toArray, List.getElem_cons_zero, List.getElem_cons_succ, List.setIfInBounds_toArray, List.set_cons_zero, List.set_cons_succ]
          refine wpAnyH_take (i := 3) (oi := _) (v := ?_) rfl (by kernel_rfl) (by kernel_rfl) (by kernel_rfl) (fun _ _ _ h => h) (Or.inl ⟨by rfl, ?_⟩) (by assumption) ?_
          rotate_left 1
          · intro u hSu
            (try dsimp only at hSu)
            go_simp
            first | done | with_reducible rfl | rfl
          simp only [Act.put, List.getElem_toArray, List.getElem_cons_zero, List.getElem_cons_succ, List.setIfInBounds_toArray, List.set_cons_zero, List.set_cons_succ]
          refine wpAnyH_take (i := 4) (oi := _) (v := ?_) rfl (by kernel_rfl) (by kernel_rfl) (by kernel_rfl) (fun _ _ _ h => h) (Or.inl ⟨by rfl, ?_⟩) (by assumption) ?_
          rotate_left 1
          · intro u hSu
            (try dsimp only at hSu)
            go_simp
            first | done | with_reducible rfl | rfl
          simp only [Act.put, List.getElem_toArray, List.getElem_cons_zero, List.getElem_cons_succ, List.setIfInBounds_toArray, List.set_cons_zero, List.set_cons_succ]
          refine wpAnyH_take (i := 5) (oi := _) (v := ?_) rfl (by kernel_rfl) (by kernel_rfl) (by kernel_rfl) (fun _ _ _ h => h) (Or.inl ⟨by rfl, ?_⟩) (by assumption) ?_
          rotate_left 1
          · intro u hSu
            (try dsimp only at hSu)
            go_simp
            first | done | with_reducible rfl | rfl
          simp only [Act.put, List.getElem_toArray, List.getElem_cons_zero, List.getElem_cons_succ, List.setIfInBounds_toArray, List.set_cons_zero, List.set_cons_succ]
          refine wpAnyH_take (i := 6) (oi := _) (v := ?_) rfl (by kernel_rfl) (by kernel_rfl) (by kernel_rfl) (fun _ _ _ h => h) (Or.inl ⟨by rfl, ?_⟩) (by assumption) ?_
          rotate_left 1
          · intro u hSu
            (try dsimp only at hSu)
            go_simp
            first | done | with_reducible rfl | rfl
          simp only [Act.put, List.getElem_toArray, List.getElem_cons_zero, List.getElem_cons_succ, List.setIfInBounds_toArray, List.set_cons_zero, List.set_cons_succ]
          refine wpAnyH_take (i := 7) (oi := _) (v := ?_) rfl (by kernel_rfl) (by kernel_rfl) (by kernel_rfl) (fun _ _ _ h => h) (Or.inl ⟨by rfl, ?_⟩) (by assumption) ?_
          rotate_left 1
          · intro u hSu
            (try dsimp only at hSu)
            go_simp
            first | done | with_reducible rfl | rfl
          simp only [Act.put, List.getElem_toArray, List.getElem_cons_zero, List.getElem_cons_succ, List.setIfInBounds_toArray, List.set_cons_zero, List.set_cons_succ]
          refine wpAnyH_take (i := 8) (oi := _) (v := ?_) rfl (by kernel_rfl) (by kernel_rfl) (by kernel_rfl) (fun _ _ _ h => h) (Or.inl ⟨by rfl, ?_⟩) (by assumption) ?_
          rotate_left 1
          · intro u hSu
            (try dsimp only at hSu)
            go_simp
            first | done | with_reducible rfl | rfl
          simp only [Act.put, List.getElem_toArray, List.getElem_cons_zero, List.getElem_cons_succ, List.setIfInBounds_toArray, List.set_cons_zero, List.set_cons_succ]
          refine wpAnyH_take (i := 9) (oi := _) (v := ?_) rfl (by kernel_rfl) (by kernel_rfl) (by kernel_rfl) (fun _ _ _ h => h) (Or.inl ⟨by rfl, ?_⟩) (by assumption) ?_
          rotate_left 1
          · intro u hSu
            (try dsimp only at hSu)
            go_simp
            first | done | with_reducible rfl | rfl
          simp only [Act.put, List.getElem_toArray, List.getElem_cons_zero, List.getElem_cons_succ, List.setIfInBounds_toArray, List.set_cons_zero, List.set_cons_succ]
          refine wpAnyH_take (i := 10) (oi := _) (v := ?_) rfl (by kernel_rfl) (by kernel_rfl) (by kernel_rfl) (fun _ _ _ h => h) (Or.inl ⟨by rfl, ?_⟩) (by assumption) ?_
          rotate_left 1
          · intro u hSu
            (try dsimp only at hSu)
            go_simp
            first | done | with_reducible rfl | rfl
          simp only [Act.put, List.getElem_toArray, List.getElem_cons_zero, List.getElem_cons_succ, List.setIfInBounds_toArray, List.set_cons_zero, List.set_cons_succ]
          refine wpAnyH_take (i := 11) (oi := _) (v := ?_) rfl (by kernel_rfl) (by kernel_rfl) (by kernel_rfl) (fun _ _ _ h => h) (Or.inl ⟨by rfl, ?_⟩) (by assumption) ?_
          rotate_left 1
          · intro u hSu
            (try dsimp only at hSu)
            go_simp
            first | done | with_reducible rfl | rfl
          simp only [Act.put, List.getElem_toArray, List.getElem_cons_zero, List.getElem_cons_succ, List.setIfInBounds_toArray, List.set_cons_zero, List.set_cons_succ]
          refine wpAnyH_ready (rs := [12]) (by kernel_rfl) (by simp) ?_
          refine AllReadyH.cons (o := _) rfl (fun K hK => ?_) AllReadyH.nil
          refine step_callG (by rfl) 20 #[.tmp 62, .tmp 64] #[55, 29] rfl #[.slice lo1 n lc1, .agg #[.int .i64 f, .int .i64 t, .int .u8 (c : Int)]] (by simp [Act.eval]) entIn (unhide HIN _ (unhide HB0)) ?_
          rintro e wx ⟨rfl, hbx⟩
          refine ⟨_, rfl, ?_⟩
          have HX : Hid (Below w.heap.size w wx) := hide ((unhide HBW).trans (((unhide HB0).trans (hbx.mono (unhide HB0).size)).mono (unhide HBW).size))
          have hSx := ((unhide HRC5).step ((unhide HB0).trans (hbx.mono (unhide HB0).size))).cb.all
          clear hHeld
          refine hK.out _ _ hSx (fun hHeld => ?_)
          clear hK K hbx hSx
          simp only [Act.put, List.getElem_toArray, List.getElem_cons_zero, List.getElem_cons_succ, List.setIfInBounds_toArray, List.set_cons_zero, List.set_cons_succ]
          refine wpAnyH_take (i := 13) (oi := _) (v := ?_) rfl (by kernel_rfl) (by kernel_rfl) (by kernel_rfl) (fun _ _ _ h => h) (Or.inl ⟨by rfl, ?_⟩) (by assumption) ?_
          rotate_left 1
          · intro u hSu
            (try dsimp only at hSu)
            go_simp
            first | done | with_reducible rfl | rfl
          simp only [Act.put, List.getElem_toArray, List.getElem_cons_zero, List.getElem_cons_succ, List.setIfInBounds_toArray, List.set_cons_zero, List.set_cons_succ]
          refine wpAnyH_take (i := 14) (oi := _) (v := ?_) rfl (by kernel_rfl) (by kernel_rfl) (by kernel_rfl) (fun _ _ _ h => h) (Or.inl ⟨by rfl, ?_⟩) (by assumption) ?_
          rotate_left 1
          · intro u hSu
            (try dsimp only at hSu)
            go_simp
            first | done | with_reducible rfl | rfl
          simp only [Act.put, List.getElem_toArray, List.getElem_cons_zero, List.getElem_cons_succ, List.setIfInBounds_toArray, List.set_cons_zero, List.set_cons_succ]
          refine wpAnyH_take (i := 15) (oi := _) (v := undef) rfl (by kernel_rfl) (by kernel_rfl) (by kernel_rfl) (fun _ _ _ h => h) (Or.inr ⟨by rfl, rfl⟩) (by assumption) ?_
          simp only [Act.put, List.getElem_toArray, List.getElem_cons_zero, List.getElem_cons_succ, List.setIfInBounds_toArray, List.set_cons_zero, List.set_cons_succ]
          refine wpAnyH_take (i := 16) (oi := _) (v := undef) rfl (by kernel_rfl) (by kernel_rfl) (by kernel_rfl) (fun _ _ _ h => h) (Or.inr ⟨by rfl, rfl⟩) (by assumption) ?_
          simp only [Act.put, List.getElem_toArray, List.getElem_cons_zero, List.getElem_cons_succ, List.setIfInBounds_toArray, List.set_cons_zero, List.set_cons_succ]
          refine wpAnyH_take (i := 17) (oi := _) (v := undef) rfl (by kernel_rfl) (by kernel_rfl) (by kernel_rfl) (fun _ _ _ h => h) (Or.inr ⟨by rfl, rfl⟩) (by assumption) ?_
          simp only [Act.put, List.getElem_toArray, List.getElem_cons_zero, List.getElem_cons_succ, List.setIfInBounds_toArray, List.set_cons_zero, List.set_cons_succ]
          refine wpAnyH_take (i := 18) (oi := _) (v := undef) rfl (by kernel_rfl) (by kernel_rfl) (by kernel_rfl) (fun _ _ _ h => h) (Or.inr ⟨by rfl, rfl⟩) (by assumption) ?_
          simp only [Act.put, List.getElem_toArray, List.getElem_cons_zero, List.getElem_cons_succ, List.setIfInBounds_toArray, List.set_cons_zero, List.set_cons_succ]
          refine wpAnyH_take (i := 19) (oi := _) (v := undef) rfl (by kernel_rfl) (by kernel_rfl) (by kernel_rfl) (fun _ _ _ h => h) (Or.inr ⟨by rfl, rfl⟩) (by assumption) ?_
          simp only [Act.put, List.getElem_toArray, List.getElem_cons_zero, List.getElem_cons_succ, List.setIfInBounds_toArray, List.set_cons_zero, List.set_cons_succ]
          refine wpAnyH_take (i := 20) (oi := _) (v := undef) rfl (by kernel_rfl) (by kernel_rfl) (by kernel_rfl) (fun _ _ _ h => h) (Or.inr ⟨by rfl, rfl⟩) (by assumption) ?_
          simp only [Act.put, List.getElem_toArray, List.getElem_cons_zero, List.getElem_cons_succ, List.setIfInBounds_toArray, List.set_cons_zero, List.set_cons_succ]
          refine wpAnyH_take (i := 21) (oi := _) (v := undef) rfl (by kernel_rfl) (by kernel_rfl) (by kernel_rfl) (fun _ _ _ h => h) (Or.inr ⟨by rfl, rfl⟩) (by assumption) ?_
          simp only [Act.put, List.getElem_toArray, List.getElem_cons_zero, List.getElem_cons_succ, List.setIfInBounds_toArray, List.set_cons_zero, List.set_cons_succ]
          refine wpAnyH_take (i := 22) (oi := _) (v := undef) rfl (by kernel_rfl) (by kernel_rfl) (by kernel_rfl) (fun _ _ _ h => h) (Or.inr ⟨by rfl, rfl⟩) (by assumption) ?_
          simp only [Act.put, List.getElem_toArray, List.getElem_cons_zero, List.getElem_cons_succ, List.setIfInBounds_toArray, List.set_cons_zero, List.set_cons_succ]
          refine wpAnyH_take (i := 23) (oi := _) (v := undef) rfl (by kernel_rfl) (by kernel_rfl) (by kernel_rfl) (fun _ _ _ h => h) (Or.inr ⟨by rfl, rfl⟩) (by assumption) ?_
          simp only [Act.put, List.getElem_toArray, List.getElem_cons_zero, List.getElem_cons_succ, List.setIfInBounds_toArray, List.set_cons_zero, List.set_cons_succ]
          refine wpAnyH_take (i := 24) (oi := _) (v := undef) rfl (by kernel_rfl) (by kernel_rfl) (by kernel_rfl) (fun _ _ _ h => h) (Or.inr ⟨by rfl, rfl⟩) (by assumption) ?_
          simp only [Act.put, List.getElem_toArray, List.getElem_cons_zero, List.getElem_cons_succ, List.setIfInBounds_toArray, List.set_cons_zero, List.set_cons_succ]
          refine wpAnyH_take (i := 25) (oi := _) (v := undef) rfl (by kernel_rfl) (by kernel_rfl) (by kernel_rfl) (fun _ _ _ h => h) (Or.inr ⟨by rfl, rfl⟩) (by assumption) ?_
          simp only [Act.put, List.getElem_toArray, List.getElem_cons_zero, List.getElem_cons_succ, List.setIfInBounds_toArray, List.set_cons_zero, List.set_cons_succ]
          refine wpAnyH_take (i := 26) (oi := _) (v := undef) rfl (by kernel_rfl) (by kernel_rfl) (by kernel_rfl) (fun _ _ _ h => h) (Or.inr ⟨by rfl, rfl⟩) (by assumption) ?_
          simp only [Act.put, List.getElem_toArray, List.getElem_cons_zero, List.getElem_cons_succ, List.setIfInBounds_toArray, List.set_cons_zero, List.set_cons_succ]
          refine wpAnyH_take (i := 27) (oi := _) (v := undef) rfl (by kernel_rfl) (by kernel_rfl) (by kernel_rfl) (fun _ _ _ h => h) (Or.inr ⟨by rfl, rfl⟩) (by assumption) ?_
          simp only [Act.put, List.getElem_toArray, List.getElem_cons_zero, List.getElem_cons_succ, List.setIfInBounds_toArray, List.set_cons_zero, List.set_cons_succ]
          refine wpAnyH_take (i := 28) (oi := _) (v := undef) rfl (by kernel_rfl) (by kernel_rfl) (by kernel_rfl) (fun _ _ _ h => h) (Or.inr ⟨by rfl, rfl⟩) (by assumption) ?_
          simp only [Act.put, List.getElem_toArray, List.getElem_cons_zero, List.getElem_cons_succ, List.setIfInBounds_toArray, List.set_cons_zero, List.set_cons_succ]
          refine wpAnyH_take (i := 29) (oi := _) (v := ?_) rfl (by kernel_rfl) (by kernel_rfl) (by kernel_rfl) (fun _ _ _ h => h) (Or.inl ⟨by rfl, ?_⟩) (by assumption) ?_
          rotate_left 1
          · intro u hSu
            (try dsimp only at hSu)
            go_simp
            first | done | with_reducible rfl | rfl
          simp only [Act.put, List.getElem_toArray, List.getElem_cons_zero, List.getElem_cons_succ, List.setIfInBounds_toArray, List.set_cons_zero, List.set_cons_succ]
          refine wpAnyH_take (i := 30) (oi := _) (v := ?_) rfl (by kernel_rfl) (by kernel_rfl) (by kernel_rfl) (fun _ _ _ h => h) (Or.inl ⟨by rfl, ?_⟩) (by assumption) ?_
          rotate_left 1
          · intro u hSu
            (try dsimp only at hSu)
            go_simp
            first | done | with_reducible rfl | rfl
          simp only [Act.put, List.getElem_toArray, List.getElem_cons_zero, List.getElem_cons_succ, List.setIfInBounds_toArray, List.set_cons_zero, List.set_cons_succ]
          refine wpAnyH_done (by kernel_rfl) ?_ _
          go_wp2
          go_ret
          exact ⟨rfl, unhide HX⟩
        | true =>
          have HX5 := hide k5
          have HM1 := hide (unhide HMA hq.symm _ rfl)
          have HP1 := hide (unhide HIH hq.symm _ rfl x xo xc dk)
          obtain ⟨m, hm⟩ : ∃ m, m = (⟨f, t.toNat, c⟩ : Mv) := ⟨_, rfl⟩
          rw [← hm] at HM1 HP1 ⊢
          obtain ⟨Q, hQ⟩ : ∃ Q, Q = beh m := ⟨_, rfl⟩
          rw [← hQ] at HM1 HP1 ⊢
          obtain ⟨r, hr⟩ : ∃ r, r = F Q x := ⟨_, rfl⟩
          rw [← hr] at HP1 ⊢
          rw [← hxl] at HP1
          clear hq hx hcc hkc hkn hkl hQ hr hm hxl
          go_enter Tryz.func7, Tryz.ntmps7
          go_wp2_with fail
          rw [← unhide HW1, ← unhide HW2, ← unhide HW3]
          refine (unhide HE _ (unhide HRC).bw).mono ?_
          rintro e w4 ⟨rfl, hb4⟩
          have HRC4 := hide ((unhide HRC).step hb4)
          clear HRC HE HW1 HW2 HW3 hb4
          obtain ⟨c0, c1, c2, c3, c4⟩ := (unhide HRC4).cb.all
          obtain ⟨r0, r1, r2, r3, r4, r5, r6, r7, r8, r9, r10, r11, r12⟩ := (unhide HRC4).ru.cells
          obtain ⟨p0, p1, p2, p3, p4, p5⟩ := (unhide HRC4).pb.all
          go_wp2_with fail
          refine (unhide HMO _ (unhide HRC4).bw).mono ?_
          rintro e w5 ⟨v, rfl, hown, hb5⟩
          obtain ⟨lo1, lc1, rfl⟩ := row_len hown
          have hl5 : isMvs w5 (.slice lo1 n lc1) L := isMvs.of (by rw [← unhide HN]; exact hown)
          have HL5 := hide hl5
          have HRC5 := hide ((unhide HRC4).step hb5)
          clear HRC4 hb5 HMO hown hl5 r0 r1 r2 r3 r4 r5 r6 r7 r8 r9 r10 r11 r12 p0 p1 p2 p3 p4 p5 c0 c1 c2 c3 c4
          obtain ⟨p0, p1, p2, p3, p4, p5⟩ := (unhide HRC5).pb.all
          have HBW0 := hide (fun u (hu : Below w5.heap.size w5 u) => (unhide HRC5).bw.trans (hu.mono (unhide HRC5).bw.size))
          have hHS : ∀ u, Below w5.heap.size w5 u → (u.cell? ⟨w.heap.size, 0, none⟩ = some v0 ∧ u.cell? ⟨w.heap.size, 1, none⟩ = some v1 ∧ u.cell? ⟨w.heap.size, 2, none⟩ = some v2 ∧ u.cell? ⟨w.heap.size, 3, none⟩ = some v3 ∧ u.cell? ⟨w.heap.size, 4, none⟩ = some v4 ∧ u.cell? ⟨w.heap.size, 5, none⟩ = some v5 ∧ u.cell? ⟨w.heap.size, 6, none⟩ = some v6 ∧ u.cell? ⟨w.heap.size, 7, none⟩ = some v7 ∧ u.cell? ⟨w.heap.size, 8, none⟩ = some v8 ∧ u.cell? ⟨w.heap.size, 9, none⟩ = some v9 ∧ u.cell? ⟨w.heap.size, 10, none⟩ = some v10 ∧ u.cell? ⟨w.heap.size, 11, none⟩ = some v11 ∧ u.cell? ⟨w.heap.size, 12, none⟩ = some v12 ∧ u.cell? ⟨w.heap.size + 1, 0, none⟩ = some (.int .i64 p.W) ∧ u.cell? ⟨w.heap.size + 1, 1, none⟩ = some (.int .i64 p.H) ∧ u.cell? ⟨w.heap.size + 1, 2, none⟩ = some (.string p.C) ∧ u.cell? ⟨w.heap.size + 1, 3, none⟩ = some (.int .i64 p.T) ∧ u.cell? ⟨w.heap.size + 1, 4, none⟩ = some (.string p.A) ∧ u.cell? ⟨w.heap.size + 1, 5, none⟩ = some (.string p.B) ∧ u.cell? ⟨w.heap.size + 1 + 1, 0, none⟩ = some (.bool true) ∧ u.cell? ⟨w.heap.size + 1 + 1, 1, none⟩ = some (.int .i64 f) ∧ u.cell? ⟨w.heap.size + 1 + 1, 2, none⟩ = some (.int .i64 t) ∧ u.cell? ⟨w.heap.size + 1 + 1, 3, none⟩ = some (.int .u8 (c : Int)) ∧ u.cell? ⟨w.heap.size + 1 + 1, 4, none⟩ = some (.slice (some ⟨g, off, none⟩) 1 nc) ∧ u.cell? ⟨g, off, none⟩ = some (.bool x.s) ∧ u.cell? ⟨g, off + 1, none⟩ = some (.int .i64 x.f) ∧ u.cell? ⟨g, off + 2, none⟩ = some (.int .i64 x.t) ∧ u.cell? ⟨g, off + 3, none⟩ = some (.int .u8 (x.c : Int)) ∧ u.cell? ⟨g, off + 4, none⟩ = some (.slice xo xl xc) ∧ Below w5.heap.size w5 u) := fun u hu => by
            have hrc := (unhide HRC5).step hu
            obtain ⟨x0, x1, x2, x3, x4, x5, x6, x7, x8, x9, x10, x11, x12⟩ := hrc.ru.cells
            obtain ⟨y0, y1, y2, y3, y4, y5⟩ := hrc.pb.all
            obtain ⟨z0, z1, z2, z3, z4⟩ := hrc.cb.all
            exact ⟨x0, x1, x2, x3, x4, x5, x6, x7, x8, x9, x10, x11, x12, y0, y1, y2, y3, y4, y5, z0, z1, z2, z3, z4, ((unhide HBW0 u hu).cell (p := ⟨g, off, none⟩) (by dsimp only; omega)).trans k0, ((unhide HBW0 u hu).cell (p := ⟨g, off + 1, none⟩) (by dsimp only; omega)).trans k1, ((unhide HBW0 u hu).cell (p := ⟨g, off + 2, none⟩) (by dsimp only; omega)).trans k2, ((unhide HBW0 u hu).cell (p := ⟨g, off + 3, none⟩) (by dsimp only; omega)).trans k3, ((unhide HBW0 u hu).cell (p := ⟨g, off + 4, none⟩) (by dsimp only; omega)).trans k4, hu⟩
          have HS := hide hHS
          have HBW := hide (fun u (hu : Below w5.heap.size w5 u) => (unhide HRC5).bw.trans (hu.mono (unhide HRC5).bw.size))
          have HB0 : Hid (Below w5.heap.size w5 w5.drew) := hide (Below.refl _ _).drew
          clear hHS
          clear k0 k1 k2 k3 k4 k5
          have HIN := hide (fun u (hu : Below w5.heap.size w5 u) => rIn_any (.slice lo1 n lc1) L f t c u ((unhide HL5).below hu))
          rw [← unhide HQ] at HIN
          have HSH := hide (fun u (hu : Below w5.heap.size w5 u) => unhide HP1 u (unhide HBW u hu) (isCts.below (unhide HBW u hu) hB dk xo xc x.ks (unhide HX5)) hx256)
          go_upto_region 7 with fail
          go_region_held3 (fun u => u.cell? ⟨w.heap.size, 0, none⟩ = some v0 ∧ u.cell? ⟨w.heap.size, 1, none⟩ = some v1 ∧ u.cell? ⟨w.heap.size, 2, none⟩ = some v2 ∧ u.cell? ⟨w.heap.size, 3, none⟩ = some v3 ∧ u.cell? ⟨w.heap.size, 4, none⟩ = some v4 ∧ u.cell? ⟨w.heap.size, 5, none⟩ = some v5 ∧ u.cell? ⟨w.heap.size, 6, none⟩ = some v6 ∧ u.cell? ⟨w.heap.size, 7, none⟩ = some v7 ∧ u.cell? ⟨w.heap.size, 8, none⟩ = some v8 ∧ u.cell? ⟨w.heap.size, 9, none⟩ = some v9 ∧ u.cell? ⟨w.heap.size, 10, none⟩ = some v10 ∧ u.cell? ⟨w.heap.size, 11, none⟩ = some v11 ∧ u.cell? ⟨w.heap.size, 12, none⟩ = some v12 ∧ u.cell? ⟨w.heap.size + 1, 0, none⟩ = some (.int .i64 p.W) ∧ u.cell? ⟨w.heap.size + 1, 1, none⟩ = some (.int .i64 p.H) ∧ u.cell? ⟨w.heap.size + 1, 2, none⟩ = some (.string p.C) ∧ u.cell? ⟨w.heap.size + 1, 3, none⟩ = some (.int .i64 p.T) ∧ u.cell? ⟨w.heap.size + 1, 4, none⟩ = some (.string p.A) ∧ u.cell? ⟨w.heap.size + 1, 5, none⟩ = some (.string p.B) ∧ u.cell? ⟨w.heap.size + 1 + 1, 0, none⟩ = some (.bool true) ∧ u.cell? ⟨w.heap.size + 1 + 1, 1, none⟩ = some (.int .i64 f) ∧ u.cell? ⟨w.heap.size + 1 + 1, 2, none⟩ = some (.int .i64 t) ∧ u.cell? ⟨w.heap.size + 1 + 1, 3, none⟩ = some (.int .u8 (c : Int)) ∧ u.cell? ⟨w.heap.size + 1 + 1, 4, none⟩ = some (.slice (some ⟨g, off, none⟩) 1 nc) ∧ u.cell? ⟨g, off, none⟩ = some (.bool x.s) ∧ u.cell? ⟨g, off + 1, none⟩ = some (.int .i64 x.f) ∧ u.cell? ⟨g, off + 2, none⟩ = some (.int .i64 x.t) ∧ u.cell? ⟨g, off + 3, none⟩ = some (.int .u8 (x.c : Int)) ∧ u.cell? ⟨g, off + 4, none⟩ = some (.slice xo xl xc) ∧ Below w5.heap.size w5 u)
            (first
              | with_reducible exact unhide HS _ (unhide HB0)
              | with_reducible exact unhide HS _ (unhide HX)
              | with_reducible exact unhide HS _ (unhide HY)
              | with_reducible exact unhide HS _ (unhide HZ))
            (first
              | (go_at_call 20; (with_reducible refine (unhide HIN _ (unhide HB0)).mono ?_); rintro e wx ⟨rfl, hbx⟩
                 have HX : Hid (Below w5.heap.size w5 wx) := hide ((unhide HB0).trans (hbx.mono (unhide HB0).size))
                 clear hbx)
              | (go_at_call 21; (with_reducible refine (unhide HM1 _ (unhide HBW _ (unhide HX))).mono ?_); rintro e wy ⟨rfl, hby⟩
                 have HY : Hid (Below w5.heap.size w5 wy) := hide ((unhide HX).trans (hby.mono (unhide HX).size))
                 clear hby)
              | (go_at_call 7; (with_reducible refine (unhide HSH _ (unhide HY)).mono ?_); rintro e wz ⟨rfl, hbz⟩
                 have HZ : Hid (Below w5.heap.size w5 wz) := hide ((unhide HY).trans (hbz.mono (unhide HY).size))
                 clear hbz))
          all_goals
            go_wp2
            go_ret
            exact ⟨by simp, unhide HBW _ (unhide HZ)⟩
    · have hk1b : ((kl : Int) == 1) = false := by simp; omega
      have hk1d : decide ((kl : Int) = 1) = false := by simp; omega
      have hsh : shK F beh ks [⟨f, t.toNat, c⟩] = false := shK_len (by rw [← unhide HKL]; exact hk1)
      rw [hsh, Bool.and_false]
      clear hk1 hsh
      go_enter Tryz.func7, Tryz.ntmps7
      go_wp2_with fail
      rw [← unhide HW1, ← unhide HW2, ← unhide HW3]
      refine (unhide HE _ (unhide HRC).bw).mono ?_
      rintro e w4 ⟨rfl, hb4⟩
      have HRC4 := hide ((unhide HRC).step hb4)
      clear HRC HE HW1 HW2 HW3 hb4
      obtain ⟨c0, c1, c2, c3, c4⟩ := (unhide HRC4).cb.all
      obtain ⟨r0, r1, r2, r3, r4, r5, r6, r7, r8, r9, r10, r11, r12⟩ := (unhide HRC4).ru.cells
      obtain ⟨p0, p1, p2, p3, p4, p5⟩ := (unhide HRC4).pb.all
      go_wp2_with fail
      refine (unhide HMO _ (unhide HRC4).bw).mono ?_
      rintro e w5 ⟨v, rfl, hown, hb5⟩
      obtain ⟨lo1, lc1, rfl⟩ := row_len hown
      have hl5 : isMvs w5 (.slice lo1 n lc1) L := isMvs.of (by rw [← unhide HN]; exact hown)
      have HL5 := hide hl5
      have HRC5 := hide ((unhide HRC4).step hb5)
      clear HRC4 hb5 HMO hown hl5 r0 r1 r2 r3 r4 r5 r6 r7 r8 r9 r10 r11 r12 p0 p1 p2 p3 p4 p5 c0 c1 c2 c3 c4
      obtain ⟨p0, p1, p2, p3, p4, p5⟩ := (unhide HRC5).pb.all
      obtain ⟨c0, c1, c2, c3, c4⟩ := (unhide HRC5).cb.all
      have HBF := hide (unhide HRC5).bw
      go_upto_region 7 with fail
      go_quiet (fail)
      go_wp2
      go_ret
      exact ⟨rfl, ⟨(unhide HBF).os, (unhide HBF).tape, (unhide HBF).output, (unhide HBF).size, (unhide HBF).block⟩⟩
end Go.Proofs.YtlogengkhlmcbaaGreatDoor
