/-
  package proof, walked: cert, the winner's turn.
-/
import Derived.Test.YtlogengkhlmcbaaGreatDoorK25
namespace Go.Proofs.YtlogengkhlmcbaaGreatDoor
open Go.RowKit
attribute [local go_sem ↓] Go.wp_at_zero Go.wp_at_succ


theorem entCert : ∀ args (u : World), (callFunc 30 args).run Tryz.prog u = .ok (.enter 30 args) u := enters_of Tryz.func30 (by kernel_rfl) rfl
theorem need_is {ok : Po → Prop} {nx : Po → List Po} {wn turn : Po → Bool} (D : Duel ok nx wn turn) {q : Po} (hq : ok q) {n r : Nat} (hn : 1 ≤ n) (h : NeedR nx wn turn q (n - 1) r) : decide ((r : Int) < (n : Int)) = ownN nx wn turn (n - 1) q := by
  by_cases hr : r < n
  · rw [own_le D (show r ≤ n - 1 by omega) hq (h.1 (by omega)).1]
    exact decide_eq_true (by omega)
  · rw [h.2 (by omega)]
    exact decide_eq_false (by omega)

set_option maxHeartbeats 8000000 in
set_option maxRecDepth 100000 in
theorem cert_one {ok : Po → Prop} {nx : Po → List Po} {wn turn : Po → Bool} (D : Duel ok nx wn turn) (v0 v1 v2 v3 v4 v5 v6 v7 v8 v9 v10 v11 v12 : Value) (win : Int) (h g d most : Nat) (p : Po) (L : List Mv) (beh : Mv → Po) (F : Po → Nat → Bool → Prop) (sh : Po → Nat → Ct → Bool) (w00 w : World) (hm9 : most ≤ 9) (hp : ok p) (hT : p.T = win) (htt : turn p = true) (hwn : wn p = false) (hnx : nx p = L.map beh) (hL0 : L ≠ []) (hown : ownN nx wn turn most p = true) (hc8 : ∀ m ∈ L, m.c < 256)
    (hw : Below w00.heap.size w00 w) (hgb : w00.heap.size ≤ g) (hne : h ≠ g) (hH : isHu w h g v0 v1 v2 v3 v4 v5 v6 v7 v8 v9 v10 v11 v12 win) (hK : knows w g 262144 F)
    (hX : ∀ u, Below w00.heap.size w00 u → Calls Tryz.prog 28 #[.agg #[v0, v1, v2, v3, v4, v5, v6, v7, v8, v9, v10, v11, v12], .agg #[.int .i64 p.W, .int .i64 p.H, .string p.C, .int .i64 p.T, .string p.A, .string p.B]] u fun e w' => ∃ x y, e = .returned (.tuple #[x, y, .int .i64 0]) ∧ w'.ownsRow u.heap.size 29 3 x L.length (mvals L) ∧ w'.ownsRow u.heap.size 24 6 y L.length (povs (L.map beh)) ∧ Below u.heap.size u w')
    (hN : ∀ u, Below w00.heap.size w00 u → isHu u h g v0 v1 v2 v3 v4 v5 v6 v7 v8 v9 v10 v11 v12 win → knows u g 262144 F → Calls Tryz.prog 12 #[.pointer (some ⟨h, 0, none⟩), .agg #[.int .i64 p.W, .int .i64 p.H, .string p.C, .int .i64 p.T, .string p.A, .string p.B], .int .i64 (most : Int)] u (NeedP nx wn turn p most g F u))
    (hQ : ∀ m ∈ L, ∀ k : Nat, k + 1 ≤ most → ∀ u, Below w00.heap.size w00 u → isHu u h g v0 v1 v2 v3 v4 v5 v6 v7 v8 v9 v10 v11 v12 win → knows u g 262144 F → Calls Tryz.prog 12 #[.pointer (some ⟨h, 0, none⟩), .agg #[.int .i64 (beh m).W, .int .i64 (beh m).H, .string (beh m).C, .int .i64 (beh m).T, .string (beh m).A, .string (beh m).B], .int .i64 (k : Int)] u (NeedP nx wn turn (beh m) k g F u))
    (hC : ∀ m ∈ L, ∀ k : Nat, k + 1 ≤ most → ownN nx wn turn k (beh m) = true → ∀ u, Below w00.heap.size w00 u → isHu u h g v0 v1 v2 v3 v4 v5 v6 v7 v8 v9 v10 v11 v12 win → knows u g 262144 F → Calls Tryz.prog 13 #[.pointer (some ⟨h, 0, none⟩), .agg #[.int .i64 (beh m).W, .int .i64 (beh m).H, .string (beh m).C, .int .i64 (beh m).T, .string (beh m).A, .string (beh m).B], .int .i64 (k : Int)] u (CeP (sh (beh m)) (2 * k) g d F u))
    (hsh : ∀ m ∈ L, ∀ (x : Ct) (k : Nat), k + 1 ≤ most → (∀ n, 2 * k ≤ n → sh (beh m) n x = true) → ∀ n, 2 * most - 1 ≤ n → sh p n (.mk true m.f m.t m.c [x]) = true) :
    Calls Tryz.prog 13 #[.pointer (some ⟨h, 0, none⟩), .agg #[.int .i64 p.W, .int .i64 p.H, .string p.C, .int .i64 p.T, .string p.A, .string p.B], .int .i64 (most : Int)] w (CeP (sh p) (2 * most - 1) g (d + 1) F w) := by
  obtain ⟨N, hN0⟩ : ∃ N, N = L.length := ⟨_, rfl⟩
  have hN1 : N ≠ 0 := by rw [hN0]; exact fun e => hL0 (List.length_eq_zero_iff.1 e)
  rw [← hN0] at hX
  have hNz : ((N : Int) == 0) = false := by simp; omega
  have hTb : (p.T == win) = true := by simp [hT]
  have hmf : ∀ (fn : Fn) (first cap : Array Value) (u : World), (Instr.makeFunc fn first cap).run Tryz.prog u = .ok (.func fn first cap) u := fun _ _ _ _ => rfl
  have hgl := hK.lt
  obtain ⟨w1, hw1⟩ : ∃ w1, w1 = w.alloc (.cells #[.pointer (some ⟨h, 0, none⟩)] 43 (0, 0)) := ⟨_, rfl⟩
  obtain ⟨w2, hw2⟩ : ∃ w2, w2 = w1.alloc (.cells #[.int .i64 p.W, .int .i64 p.H, .string p.C, .int .i64 p.T, .string p.A, .string p.B] 24 (0, 0)) := ⟨_, rfl⟩
  obtain ⟨w3, hw3⟩ : ∃ w3, w3 = w2.alloc (.cells #[.bool false, .int .i64 0, .int .i64 0, .int .u8 0, .slice none 0 0] 32 (0, 0)) := ⟨_, rfl⟩
  have hcf : CF w h g v0 v1 v2 v3 v4 v5 v6 v7 v8 v9 v10 v11 v12 win p w3 := CF.start hH hgl hne (by rw [hw3, hw2, hw1])
  have hk3 : knows w3 g 262144 F := hK.of_block (by rw [hw3, Below.heap_alloc _ _ _ (by rw [hw2, hw1]; simp; omega), hw2, Below.heap_alloc _ _ _ (by rw [hw1]; simp; omega), hw1, Below.heap_alloc _ _ _ hgl])
  have HW1 := hide hw1
  have HW2 := hide hw2
  have HW3 := hide hw3
  have HS0 := hide (hcf.step (growD w3 _)).cells
  have HCF := hide hcf
  have HNX := hide (hX w3.drew (below_grown hw (hcf.step (growD w3 _)).gr hgb))
  have HK3 := hide hk3
  have HST : Hid (∀ u, Below w3.heap.size w3.drew u → CF w h g v0 v1 v2 v3 v4 v5 v6 v7 v8 v9 v10 v11 v12 win p u ∧ knows u g 262144 F) := hide (fun u hu => by
    have hgl3 : g < w3.heap.size := by have := hcf.sz; omega
    exact ⟨hcf.step (growT (growD w3 _) (growB hu _)), hk3.of_block (hu.block g hgl3)⟩)
  clear hw1 hw2 hw3 hcf hk3 hX hH hK
  have HN := hide hN
  have HQ := hide hQ
  have HC := hide hC
  have HSH := hide hsh
  have HLN := hide hN0
  have HOWN := hide hown
  have HWN := hide hwn
  have HNX0 := hide hnx
  have HC8 := hide hc8
  have HW := hide hw
  have HTT := hide htt
  have hg3 : g < w3.heap.size := by have := (unhide HCF).sz; omega
  have h3w : w.heap.size + 1 + 1 + 1 ≤ w3.heap.size := (unhide HCF).sz
  clear hN hQ hC hsh hN0 hown hwn hnx hc8 hw hT hL0 htt
  go_enter Tryz.func13, Tryz.ntmps13
  go_upto_region 1 with fail
  rw [← unhide HW1, ← unhide HW2, ← unhide HW3]
  clear HW1 HW2 HW3
  go_region_held3 (fun u => u.cell? ⟨w.heap.size, 0, none⟩ = some (.pointer (some ⟨h, 0, none⟩)) ∧ u.cell? ⟨h, 0, none⟩ = some v0 ∧ u.cell? ⟨h, 1, none⟩ = some v1 ∧ u.cell? ⟨h, 2, none⟩ = some v2 ∧ u.cell? ⟨h, 3, none⟩ = some v3 ∧ u.cell? ⟨h, 4, none⟩ = some v4 ∧ u.cell? ⟨h, 5, none⟩ = some v5 ∧ u.cell? ⟨h, 6, none⟩ = some v6 ∧ u.cell? ⟨h, 7, none⟩ = some v7 ∧ u.cell? ⟨h, 8, none⟩ = some v8 ∧ u.cell? ⟨h, 9, none⟩ = some v9 ∧ u.cell? ⟨h, 10, none⟩ = some v10 ∧ u.cell? ⟨h, 11, none⟩ = some v11 ∧ u.cell? ⟨h, 12, none⟩ = some v12 ∧ u.cell? ⟨h, 13, none⟩ = some (.int .i64 win) ∧ u.cell? ⟨w.heap.size + 1, 0, none⟩ = some (.int .i64 p.W) ∧ u.cell? ⟨w.heap.size + 1, 1, none⟩ = some (.int .i64 p.H) ∧ u.cell? ⟨w.heap.size + 1, 2, none⟩ = some (.string p.C) ∧ u.cell? ⟨w.heap.size + 1, 3, none⟩ = some (.int .i64 p.T) ∧ u.cell? ⟨w.heap.size + 1, 4, none⟩ = some (.string p.A) ∧ u.cell? ⟨w.heap.size + 1, 5, none⟩ = some (.string p.B))
    (first
      | with_reducible exact unhide HS0
      | with_reducible exact j4)
    (first | (go_at_call 28; (with_reducible refine (unhide HNX).mono ?_); rintro e w4 ⟨xv, yv, rfl, hxo, hyo, hb4⟩; obtain ⟨hc4, hk4⟩ := unhide HST w4 hb4; obtain ⟨ao, ac, rfl⟩ := row_len hxo; obtain ⟨bo, bc, rfl⟩ := row_len hyo; have j4 := hc4.cells; have HC4 := hide hc4; have HK4 := hide hk4; have HXO := hide hxo; have HYO := hide hyo; have HB4 := hide hb4; clear hc4 hk4 hxo hyo hb4))
  all_goals
    obtain ⟨ga, ca, ea, hga1, hga2, hca1, hca2, hca⟩ := row_mvs (unhide HXO) hN1
    obtain ⟨gy, cy, ey, hgy1, hgy2, hcy1, hcy2, hcy⟩ := row_pos (unhide HYO) hN1
    have e3 : w3.drew.heap.size = w3.heap.size := rfl
    rw [e3] at hga1 hgy1
    simp only [Value.slice.injEq, true_and] at ea ey
    obtain ⟨rfl, rfl⟩ := ea
    obtain ⟨rfl, rfl⟩ := ey
    unfold maxLen at hca2
    have HCA := hide hca
    have HCY := hide hcy
    have HCY2 := hide hcy2
    have HSD := hide ((unhide HC4).step (growD w4 _)).cells
    have HC4d := hide ((unhide HC4).step (growD w4 _))
    have HK4d : Hid (knows w4.drew g 262144 F) := hide (unhide HK4)
    clear j4 hca hcy hcy2 HC4 HK4 HXO HYO HB4 e3 HST HNX HS0
    go_upto_region 4 with fail
    go_region_held3 (fun u => u.cell? ⟨w.heap.size, 0, none⟩ = some (.pointer (some ⟨h, 0, none⟩)) ∧ u.cell? ⟨h, 0, none⟩ = some v0 ∧ u.cell? ⟨h, 1, none⟩ = some v1 ∧ u.cell? ⟨h, 2, none⟩ = some v2 ∧ u.cell? ⟨h, 3, none⟩ = some v3 ∧ u.cell? ⟨h, 4, none⟩ = some v4 ∧ u.cell? ⟨h, 5, none⟩ = some v5 ∧ u.cell? ⟨h, 6, none⟩ = some v6 ∧ u.cell? ⟨h, 7, none⟩ = some v7 ∧ u.cell? ⟨h, 8, none⟩ = some v8 ∧ u.cell? ⟨h, 9, none⟩ = some v9 ∧ u.cell? ⟨h, 10, none⟩ = some v10 ∧ u.cell? ⟨h, 11, none⟩ = some v11 ∧ u.cell? ⟨h, 12, none⟩ = some v12 ∧ u.cell? ⟨h, 13, none⟩ = some (.int .i64 win) ∧ u.cell? ⟨w.heap.size + 1, 0, none⟩ = some (.int .i64 p.W) ∧ u.cell? ⟨w.heap.size + 1, 1, none⟩ = some (.int .i64 p.H) ∧ u.cell? ⟨w.heap.size + 1, 2, none⟩ = some (.string p.C) ∧ u.cell? ⟨w.heap.size + 1, 3, none⟩ = some (.int .i64 p.T) ∧ u.cell? ⟨w.heap.size + 1, 4, none⟩ = some (.string p.A) ∧ u.cell? ⟨w.heap.size + 1, 5, none⟩ = some (.string p.B))
      (first
        | with_reducible exact unhide HSD)
      (fail)
    all_goals
      have HNE := hide (unhide HN w4.drew (below_grown (unhide HW) (unhide HC4d).gr hgb) (unhide HC4d).hu (unhide HK4d))
      obtain ⟨x0, y0, y1, y2, y3, y4, y5, y6, y7, y8, y9, y10, y11, y12, y13, z0, z1, z2, z3, z4, z5⟩ := unhide HSD
      go_wp2_with fail
      refine (unhide HNE).mono ?_
      rintro e w5 ⟨n, rfl, hR, hr, hk5, hg5⟩
      have hnm : n ≤ most := by
        rcases Nat.lt_or_ge most n with h1 | h1
        · have := hR.2 h1
          rw [unhide HOWN] at this
          exact absurd this (by simp)
        · exact h1
      have hnd := hR.1 hnm
      have hn1 : 1 ≤ n := by
        rcases Nat.eq_zero_or_pos n with e0 | e0
        · subst e0
          have := hnd.1
          rw [own_zero, unhide HWN] at this
          exact absurd this (by simp)
        · exact e0
      obtain ⟨w6, hw6⟩ : ∃ w6, w6 = w5.alloc (.cells #[.int .i64 (n : Int)] 3 (0, 0)) := ⟨_, rfl⟩
      have hg6 : w5.grownBy w6 (some g) := by rw [hw6]; exact growA _ _ _
      have hc5 := (unhide HC4d).step hg5
      have hc6 := hc5.step hg6
      have hk6 : knows w6 g 262144 F := hk5.of_block (by rw [hw6, Below.heap_alloc _ _ _ hk5.lt])
      have hn6 : w6.heap[w5.heap.size]? = some (.cells #[.int .i64 (n : Int)] 3 (0, 0)) := by rw [hw6]; exact heap_alloc_new w5 _
      have s6 : w6.heap.size = w5.heap.size + 1 := by rw [hw6]; simp
      have h45 : w4.heap.size ≤ w5.heap.size := hg5.size
      have hyb : ∀ u, w6.grownBy u (some g) → u.heap[gy]? = w4.heap[gy]? ∧ u.heap[ga]? = w4.heap[ga]? := fun u hu =>
        ⟨(hu.block gy (by omega) (by simp; omega)).trans ((hg6.block gy (by omega) (by simp; omega)).trans (hg5.block gy hgy2 (by simp; omega))), (hu.block ga (by omega) (by simp; omega)).trans ((hg6.block ga (by omega) (by simp; omega)).trans (hg5.block ga hga2 (by simp; omega)))⟩
      have hpn : ∀ u, w6.grownBy u (some g) → u.cell? ⟨w.heap.size, 0, none⟩ = some (.pointer (some ⟨h, 0, none⟩)) ∧ u.cell? ⟨w5.heap.size, 0, none⟩ = some (.int .i64 (n : Int)) := fun u hu => by
        refine ⟨(hc6.step hu).cells.1, ?_⟩
        have hb : u.heap[w5.heap.size]? = some (.cells #[.int .i64 (n : Int)] 3 (0, 0)) := (hu.block _ (by omega) (by simp; have := hk5.lt; omega)).trans hn6
        simp [World.cell?, hb]
      have hIX := IndexFunc_any (L.map beh) 30 #[.pointer (some ⟨w.heap.size, 0, none⟩), .pointer (some ⟨w5.heap.size, 0, none⟩)] (ownN nx wn turn (n - 1)) (some ⟨gy, 0, none⟩) bc (fun _ u => w6.grownBy u (some g) ∧ knows u g 262144 F) w6 entCert (by rw [List.length_map, ← unhide HLN]; exact hcy1) (unhide HCY2)
        (fun j q u hI hq => by
          obtain ⟨hj, hcell⟩ := unhide HCY j q hq
          obtain ⟨a0, a1, a2, a3, a4, a5⟩ := hcell u (hyb u hI.1).1
          exact ⟨gy, 0, rfl, by simpa using a0, by simpa using a1, by simpa using a2, by simpa using a3, by simpa using a4, by simpa using a5⟩)
        (fun j q u hq _ hI => by
          obtain ⟨m, hm, rfl⟩ := List.mem_map.1 (List.mem_of_getElem? hq)
          have hok := D.stay p hp (beh m) (by rw [unhide HNX0]; exact List.mem_map.2 ⟨m, hm, rfl⟩)
          obtain ⟨b0, b1⟩ := hpn u hI.1
          have hus := hI.1.size
          have hkl := hI.2.lt
          have hcu := hc6.step hI.1
          have hcl := certClose_walk nx wn turn (beh m) n h g w.heap.size w5.heap.size F u hn1 (by omega) b0 b1 (by have := hcu.sz; omega) (by omega) (by have := hcu.gl; omega) (by have := hk5.lt; omega) hkl
            (fun u' hu' => by
              have hgu : u.grownBy u' (some g) := ⟨hu'.os, hu'.tape, hu'.output, hu'.size, fun k hk _ => hu'.block k hk (by simp)⟩
              exact unhide HQ m hm (n - 1) (by omega) u' (below_grown (unhide HW) (hcu.step hgu).gr hgb) (hcu.step hgu).hu (hI.2.of_block (hu'.block g hkl (by simp))))
          refine hcl.mono ?_
          rintro e u' ⟨r, rfl, hR', hk', hg'⟩
          exact ⟨by rw [need_is D hok hn1 hR'], growT hI.1 hg', hk'⟩)
        ⟨growB (Below.refl _ _) _, hk6⟩
      rw [List.length_map, ← unhide HLN] at hIX
      have HIX := hide hIX
      have HW6 := hide hw6
      have HYB := hide hyb
      have HPN := hide hpn
      have HC6 := hide hc6
      have HND := hide hnd
      have S5 := hide (And.intro h45 s6)
      have HK5L := hide hk5.lt
      clear hIX hw6 hyb hpn hc6 hc5 hg6 hk6 hn6 s6 h45 hnd hR hk5 hg5 x0 y0 y1 y2 y3 y4 y5 y6 y7 y8 y9 y10 y11 y12 y13 z0 z1 z2 z3 z4 z5 HNE
      go_wp2_with fail
      rw [← unhide HW6]
      refine (unhide HIX).mono ?_
      rintro e w7 ⟨hout⟩
      rcases hout with ⟨j, q, hq, hst, -, rfl, hg7, hk7⟩ | ⟨hno, -, -⟩
      · obtain ⟨m, hm⟩ : ∃ m, L[j]? = some m := by
          rw [List.getElem?_map, Option.map_eq_some_iff] at hq
          obtain ⟨m, hm, -⟩ := hq
          exact ⟨m, hm⟩
        have hqm : q = beh m := by
          rw [List.getElem?_map, hm] at hq
          simpa using hq.symm
        have hmem := List.mem_of_getElem? hm
        obtain ⟨n1, hn1e⟩ : ∃ n1 : Nat, n1 = n - 1 := ⟨_, rfl⟩
        have hsub : (n : Int) - 1 = (n1 : Int) := by omega
        have wsub : IntKind.i64.wrap (n1 : Int) = (n1 : Int) := by unfold IntKind.wrap; simp [IntKind.signed, IntKind.bits]; omega
        obtain ⟨hjN, hcm⟩ := unhide HCA j m hm
        obtain ⟨-, hcq⟩ := unhide HCY j q hq
        have HS7 : Hid (∀ u, w7.grownBy u (some g) → u.cell? ⟨ga, j * 3, none⟩ = some (.int .i64 m.f) ∧ u.cell? ⟨ga, j * 3 + 1, none⟩ = some (.int .i64 (m.t : Int)) ∧ u.cell? ⟨ga, j * 3 + 2, none⟩ = some (.int .u8 (m.c : Int)) ∧ u.cell? ⟨w.heap.size, 0, none⟩ = some (.pointer (some ⟨h, 0, none⟩)) ∧ u.cell? ⟨w5.heap.size, 0, none⟩ = some (.int .i64 (n : Int)) ∧ u.cell? ⟨gy, j * 6, none⟩ = some (.int .i64 q.W) ∧ u.cell? ⟨gy, j * 6 + 1, none⟩ = some (.int .i64 q.H) ∧ u.cell? ⟨gy, j * 6 + 2, none⟩ = some (.string q.C) ∧ u.cell? ⟨gy, j * 6 + 3, none⟩ = some (.int .i64 q.T) ∧ u.cell? ⟨gy, j * 6 + 4, none⟩ = some (.string q.A) ∧ u.cell? ⟨gy, j * 6 + 5, none⟩ = some (.string q.B)) := hide (fun u hu => by
          have h67 := growT hg7 hu
          obtain ⟨e1, e2⟩ := unhide HYB u h67
          obtain ⟨b0, b1⟩ := unhide HPN u h67
          obtain ⟨m0, m1, m2⟩ := hcm u e2
          obtain ⟨q0, q1, q2, q3, q4, q5⟩ := hcq u e1
          exact ⟨m0, m1, m2, b0, b1, q0, q1, q2, q3, q4, q5⟩)
        have HC7 := hide ((unhide HC6).step hg7)
        have hk7d : knows w7.drew g 262144 F := hk7
        have hg7d : w7.grownBy w7.drew (some g) := growD _ _
        have HCE : Hid (Calls Tryz.prog 13 #[.pointer (some ⟨h, 0, none⟩), .agg #[.int .i64 q.W, .int .i64 q.H, .string q.C, .int .i64 q.T, .string q.A, .string q.B], .int .i64 (n1 : Int)] w7.drew (CeP (sh q) (2 * n1) g d F w7.drew)) := hide (by
          rw [hqm]
          exact unhide HC m hmem n1 (by omega) (by rw [hn1e, ← hqm]; exact hst) w7.drew (below_grown (unhide HW) ((unhide HC7).step hg7d).gr hgb) ((unhide HC7).step hg7d).hu hk7d)
        have HSHM : Hid (∀ x : Ct, (∀ n, 2 * n1 ≤ n → sh q n x = true) → ∀ n, 2 * most - 1 ≤ n → sh p n (.mk true m.f m.t m.c [x]) = true) := hide (fun x hx => unhide HSH m hmem x n1 (by omega) (fun n hn => by rw [← hqm]; exact hx n hn))
        have hmc : m.c < 256 := unhide HC8 m hmem
        have HMC := hide hmc
        have HG7d := hide hg7d
        have HSD7 := hide (unhide HS7 _ hg7d)
        have s5 := unhide S5
        have hw5w : w.heap.size + 1 + 1 + 1 ≤ w5.heap.size := by have := s5.1; omega
        have hj0 : (0 : Int) ≤ (j : Int) := by omega
        have hjNi : (j : Int) < (N : Int) := by omega
        have HSB : Hid (∀ v u : World, (v.cell? ⟨ga, j * 3, none⟩ = some (.int .i64 m.f) ∧ v.cell? ⟨ga, j * 3 + 1, none⟩ = some (.int .i64 (m.t : Int)) ∧ v.cell? ⟨ga, j * 3 + 2, none⟩ = some (.int .u8 (m.c : Int)) ∧ v.cell? ⟨w.heap.size, 0, none⟩ = some (.pointer (some ⟨h, 0, none⟩)) ∧ v.cell? ⟨w5.heap.size, 0, none⟩ = some (.int .i64 (n : Int)) ∧ v.cell? ⟨gy, j * 6, none⟩ = some (.int .i64 q.W) ∧ v.cell? ⟨gy, j * 6 + 1, none⟩ = some (.int .i64 q.H) ∧ v.cell? ⟨gy, j * 6 + 2, none⟩ = some (.string q.C) ∧ v.cell? ⟨gy, j * 6 + 3, none⟩ = some (.int .i64 q.T) ∧ v.cell? ⟨gy, j * 6 + 4, none⟩ = some (.string q.A) ∧ v.cell? ⟨gy, j * 6 + 5, none⟩ = some (.string q.B)) → (∀ k, k ≠ w.heap.size + 1 + 1 → u.heap[k]? = v.heap[k]?) → (u.cell? ⟨ga, j * 3, none⟩ = some (.int .i64 m.f) ∧ u.cell? ⟨ga, j * 3 + 1, none⟩ = some (.int .i64 (m.t : Int)) ∧ u.cell? ⟨ga, j * 3 + 2, none⟩ = some (.int .u8 (m.c : Int)) ∧ u.cell? ⟨w.heap.size, 0, none⟩ = some (.pointer (some ⟨h, 0, none⟩)) ∧ u.cell? ⟨w5.heap.size, 0, none⟩ = some (.int .i64 (n : Int)) ∧ u.cell? ⟨gy, j * 6, none⟩ = some (.int .i64 q.W) ∧ u.cell? ⟨gy, j * 6 + 1, none⟩ = some (.int .i64 q.H) ∧ u.cell? ⟨gy, j * 6 + 2, none⟩ = some (.string q.C) ∧ u.cell? ⟨gy, j * 6 + 3, none⟩ = some (.int .i64 q.T) ∧ u.cell? ⟨gy, j * 6 + 4, none⟩ = some (.string q.A) ∧ u.cell? ⟨gy, j * 6 + 5, none⟩ = some (.string q.B))) := hide (fun v u ⟨m0, m1, m2, b0, b1, q0, q1, q2, q3, q4, q5⟩ hk =>
          ⟨(World.cell?_of_block (a := ⟨ga, j * 3, none⟩) (hk ga (by omega))).trans m0, (World.cell?_of_block (a := ⟨ga, j * 3 + 1, none⟩) (hk ga (by omega))).trans m1, (World.cell?_of_block (a := ⟨ga, j * 3 + 2, none⟩) (hk ga (by omega))).trans m2, (World.cell?_of_block (a := ⟨w.heap.size, 0, none⟩) (hk w.heap.size (by omega))).trans b0, (World.cell?_of_block (a := ⟨w5.heap.size, 0, none⟩) (hk w5.heap.size (by omega))).trans b1, (World.cell?_of_block (a := ⟨gy, j * 6, none⟩) (hk gy (by omega))).trans q0, (World.cell?_of_block (a := ⟨gy, j * 6 + 1, none⟩) (hk gy (by omega))).trans q1, (World.cell?_of_block (a := ⟨gy, j * 6 + 2, none⟩) (hk gy (by omega))).trans q2, (World.cell?_of_block (a := ⟨gy, j * 6 + 3, none⟩) (hk gy (by omega))).trans q3, (World.cell?_of_block (a := ⟨gy, j * 6 + 4, none⟩) (hk gy (by omega))).trans q4, (World.cell?_of_block (a := ⟨gy, j * 6 + 5, none⟩) (hk gy (by omega))).trans q5⟩)
        have HN1E := hide hn1e
        clear hq hst hg7 hk7 hm hqm hmem hn1e hcm hcq hk7d hg7d hmc s5 HYB HPN HIX HW6 HQ HC HSH HC8 HNX0 HTT
        go_upto_region 7 with fail
        go_region_held3 (fun u => u.cell? ⟨ga, j * 3, none⟩ = some (.int .i64 m.f) ∧ u.cell? ⟨ga, j * 3 + 1, none⟩ = some (.int .i64 (m.t : Int)) ∧ u.cell? ⟨ga, j * 3 + 2, none⟩ = some (.int .u8 (m.c : Int)) ∧ u.cell? ⟨w.heap.size, 0, none⟩ = some (.pointer (some ⟨h, 0, none⟩)) ∧ u.cell? ⟨w5.heap.size, 0, none⟩ = some (.int .i64 (n : Int)) ∧ u.cell? ⟨gy, j * 6, none⟩ = some (.int .i64 q.W) ∧ u.cell? ⟨gy, j * 6 + 1, none⟩ = some (.int .i64 q.H) ∧ u.cell? ⟨gy, j * 6 + 2, none⟩ = some (.string q.C) ∧ u.cell? ⟨gy, j * 6 + 3, none⟩ = some (.int .i64 q.T) ∧ u.cell? ⟨gy, j * 6 + 4, none⟩ = some (.string q.A) ∧ u.cell? ⟨gy, j * 6 + 5, none⟩ = some (.string q.B))
          (first
            | with_reducible exact unhide HSD7
            | with_reducible exact j8
            | with_reducible exact j9
            | with_reducible exact j10 _ _ _ _ _)
          (first | (go_at_call 13; (with_reducible refine (unhide HCE).mono ?_); rintro e w8 ⟨x, no, nc, rfl, hxc, hco, hxs, hk8, hg8⟩
                    obtain ⟨w9, hw9⟩ : ∃ w9, w9 = w8.alloc (.cells #[.bool x.s, .int .i64 x.f, .int .i64 x.t, .int .u8 (x.c : Int), .slice no x.ks.length nc] 32 (0, 0)) := ⟨_, rfl⟩
                    have hg8' := growT (unhide HG7d) hg8
                    have hg9 : w8.grownBy w9 (some g) := by rw [hw9]; exact growA _ _ _
                    have hc9 := ((unhide HC7).step hg8').step hg9
                    have j8 := unhide HS7 w8 hg8'
                    have j9 := unhide HS7 w9 (growT hg8' hg9)
                    have j10 := fun (a0 a1 a2 a3 a4 : Value) => unhide HSB w9 (((((w9.setCell ⟨w.heap.size + 1 + 1, 0, none⟩ a0).setCell ⟨w.heap.size + 1 + 1, 1, none⟩ a1).setCell ⟨w.heap.size + 1 + 1, 2, none⟩ a2).setCell ⟨w.heap.size + 1 + 1, 3, none⟩ a3).setCell ⟨w.heap.size + 1 + 1, 4, none⟩ a4) j9 (set5 (a0 := a0) (a1 := a1) (a2 := a2) (a3 := a3) (a4 := a4) hc9.gr (hk8.of_block (by rw [hw9, Below.heap_alloc _ _ _ hk8.lt])) (b := w.heap.size + 1 + 1) (by omega) hc9.gl).2.2.2
                    have hk9 : knows w9 g 262144 F := hk8.of_block (by rw [hw9, Below.heap_alloc _ _ _ hk8.lt])
                    have hb9 : w9.heap[w8.heap.size]? = some (.cells #[.bool x.s, .int .i64 x.f, .int .i64 x.t, .int .u8 (x.c : Int), .slice no x.ks.length nc] 32 (0, 0)) := by rw [hw9]; exact heap_alloc_new w8 _
                    have s9 : w9.heap.size = w8.heap.size + 1 := by rw [hw9]; simp
                    have HC9 := hide hc9
                    have HK9 := hide hk9
                    have HB9 := hide hb9
                    have HS9 := hide s9
                    have HXC := hide hxc
                    have HCO : Hid (isCo d w9 w7.heap.size w8.heap.size no nc x.ks) := hide (isCo.keep (fun k _ hk => by rw [hw9, Below.heap_alloc _ _ _ hk]) _ _ _ _ hco)
                    have HXS := hide hxs
                    have H78 := hide hg8'.size
                    obtain ⟨c0, c1, c2, c3, c4⟩ := hc9.cb.all
                    have f0 := hc9.cb.frozen 0
                    have f1 := hc9.cb.frozen 1
                    have f2 := hc9.cb.frozen 2
                    have f3 := hc9.cb.frozen 3
                    have f4 := hc9.cb.frozen 4
                    rw [hw9] at j9 j10 c0 c1 c2 c3 c4 f0 f1 f2 f3 f4
                    have HW9 := hide hw9
                    clear hxc hco hxs hk8 hg8 hw9 hg8' hg9 hc9 hk9 hb9 s9))
        all_goals
          rw [← unhide HW9] at c0 c1 c2 c3 c4
          obtain ⟨r1, r2, r3, r4⟩ := set5 (a0 := .bool true) (a1 := .int .i64 m.f) (a2 := .int .i64 (m.t : Int)) (a3 := .int .u8 (m.c : Int)) (a4 := .slice (some ⟨w8.heap.size, 0, none⟩) 1 1) (unhide HC9).gr (unhide HK9) (b := w.heap.size + 1 + 1) (by omega) (unhide HC9).gl
          have HFIN : Hid (CeP (sh p) (2 * most - 1) g (d + 1) F w (.returned (.agg #[.bool true, .int .i64 m.f, .int .i64 (m.t : Int), .int .u8 (m.c : Int), .slice (some ⟨w8.heap.size, 0, none⟩) 1 1])) (((((w9.setCell ⟨w.heap.size + 1 + 1, 0, none⟩ (.bool true)).setCell ⟨w.heap.size + 1 + 1, 1, none⟩ (.int .i64 m.f)).setCell ⟨w.heap.size + 1 + 1, 2, none⟩ (.int .i64 (m.t : Int))).setCell ⟨w.heap.size + 1 + 1, 3, none⟩ (.int .u8 (m.c : Int))).setCell ⟨w.heap.size + 1 + 1, 4, none⟩ (.slice (some ⟨w8.heap.size, 0, none⟩) 1 1))) := hide (by
            have h78 := unhide H78
            have s9 := unhide HS9
            have h7s := (unhide HC7).sz
            generalize hw10 : ((((w9.setCell ⟨w.heap.size + 1 + 1, 0, none⟩ (.bool true)).setCell ⟨w.heap.size + 1 + 1, 1, none⟩ (.int .i64 m.f)).setCell ⟨w.heap.size + 1 + 1, 2, none⟩ (.int .i64 (m.t : Int))).setCell ⟨w.heap.size + 1 + 1, 3, none⟩ (.int .u8 (m.c : Int))).setCell ⟨w.heap.size + 1 + 1, 4, none⟩ (.slice (some ⟨w8.heap.size, 0, none⟩) 1 1) = w10 at r1 r2 r3 r4 ⊢
            have hco : isCo d w10 w.heap.size w10.heap.size no nc x.ks := isCo.wide (show w.heap.size ≤ w7.heap.size by omega) (show w8.heap.size ≤ w10.heap.size by omega) _ _ _ _ (isCo.keep (w := w9) (fun k hk _ => r4 k (by omega)) _ _ _ _ (unhide HCO))
            have hb10 : w10.heap[w8.heap.size]? = some (.cells #[.bool x.s, .int .i64 x.f, .int .i64 x.t, .int .u8 (x.c : Int), .slice no x.ks.length nc] 32 (0, 0)) := (r4 _ (by omega)).trans (unhide HB9)
            exact ⟨.mk true m.f m.t m.c [x], some ⟨w8.heap.size, 0, none⟩, 1, rfl, unhide HMC, isCo.one ⟨x, no, nc⟩ hb10 (by omega) (by omega) (unhide HXC) hco, unhide HSHM x (unhide HXS), r1, r2⟩)
          clear j8 j9 j10 r1 r2 r3 r4 f0 f1 f2 f3 f4
          go_wp2
          rw [← unhide HW9]
          refine bodyPost_ret (v := .agg #[.bool true, .int .i64 m.f, .int .i64 (m.t : Int), .int .u8 (m.c : Int), .slice (some ⟨w8.heap.size, 0, none⟩) 1 1]) (by simp [results, Tryz.results13, go_sem, c0, c1, c2, c3, c4]) rfl ?_
          exact unhide HFIN
      · exfalso
        obtain ⟨k, rfl⟩ : ∃ k, n = k + 1 := ⟨n - 1, by omega⟩
        have h1 := (unhide HND).1
        rw [need_one D hp (unhide HTT) (unhide HWN), List.any_eq_true] at h1
        obtain ⟨q, hq, hq2⟩ := h1
        rw [unhide HNX0] at hq
        have := hno q hq
        rw [show k + 1 - 1 = k by omega, hq2] at this
        exact absurd this (by simp)
end Go.Proofs.YtlogengkhlmcbaaGreatDoor
