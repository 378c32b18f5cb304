/-
  package proof, walked: needOfAll.
  package proof, walked: needOfOne.
-/
import Derived.Test.YtlogengkhlmcbaaGreatDoorJ15
namespace Go.Proofs.YtlogengkhlmcbaaGreatDoor
open Go.RowKit
attribute [local go_sem ↓] Go.wp_at_zero Go.wp_at_succ

/-- What is in cells is in no map. -/
theorem knows.ne_cell {w : World} {g N b o : Nat} {F : Po → Nat → Bool → Prop} {v : Value} (h : knows w g N F) (hc : w.cell? ⟨b, o, none⟩ = some v) : b ≠ g := by
  intro e
  subst e
  obtain ⟨D, ⟨es, clock, hb, -⟩, -⟩ := h
  simp [World.cell?, hb] at hc
theorem isMvs.grown {w w' : World} {g N : Nat} {F : Po → Nat → Bool → Prop} {v : Value} {L : List Mv} (h : isMvs w v L) (hK : knows w g N F) (hg : w.grownBy w' (some g)) : isMvs w' v L := by
  obtain ⟨ao, cap, h1, h2, h3, h4⟩ := h
  refine ⟨ao, cap, h1, h2, h3, fun i m hm => ?_⟩
  obtain ⟨b, off, e, hb, c0, c1, c2⟩ := h4 i m hm
  have hne := hK.ne_cell c0
  have hbk := hg.block b hb (by simpa using hne)
  exact ⟨b, off, e, Nat.lt_of_lt_of_le hb hg.size, (World.cell?_of_block (a := ⟨b, off + i * 3, none⟩) hbk).trans c0, (World.cell?_of_block (a := ⟨b, off + i * 3 + 1, none⟩) hbk).trans c1, (World.cell?_of_block (a := ⟨b, off + i * 3 + 2, none⟩) hbk).trans c2⟩
theorem isMb.grown {w w' : World} {b g : Nat} {f t c : Int} (h : isMb w b f t c) (hg : w.grownBy w' (some g)) (hne : b ≠ g) : isMb w' b f t c := (hg.block b h.lt (by simpa using hne)).trans h
theorem below_grown {w00 w w' : World} {g : Nat} (h : Below w00.heap.size w00 w) (hg : w.grownBy w' (some g)) (hgb : w00.heap.size ≤ g) : Below w00.heap.size w00 w' :=
  ⟨hg.os.trans h.os, hg.tape.trans h.tape, hg.output.trans h.output, Nat.le_trans h.size hg.size, fun k hk => (hg.block k (Nat.lt_of_lt_of_le hk h.size) (by simp; omega)).trans (h.block k hk)⟩

theorem isFb.frozen {w : World} {b : Nat} {n : Int} {s : Bool} (h : isFb w b n s) (k : Nat) : w.frozen? ⟨b, k, none⟩ = false := frozen_of_row w b k _ _ h
theorem grow_set {w u : World} {g b k : Nat} {v : Value} (h : w.grownBy u (some g)) (hb : w.heap.size ≤ b) : w.grownBy (u.setCell ⟨b, k, none⟩ v) (some g) :=
  ⟨h.os, h.tape, h.output, by simpa [World.setCell] using h.size, fun i hi hne => (Below.heap_setCell _ _ _ _ (by dsimp only; omega)).trans (h.block i hi hne)⟩
theorem knows.set {u : World} {g N b k : Nat} {F : Po → Nat → Bool → Prop} {v : Value} (h : knows u g N F) (hb : g ≠ b) : knows (u.setCell ⟨b, k, none⟩ v) g N F := h.of_block (Below.heap_setCell _ _ _ _ hb)

/-- What needOfAll and needOfOne hand back. -/
def FndP (nx : Po → List Po) (wn turn : Po → Bool) (p : Po) (most g : Nat) (F : Po → Nat → Bool → Prop) (w : World) (e : Ending) (w' : World) : Prop := ∃ (n : Nat) (s : Bool), e = .returned (.agg #[.int .i64 (n : Int), .bool s]) ∧ fndOK nx wn turn p n s ∧ NeedR nx wn turn p most n ∧ knows w' g 262144 F ∧ w.grownBy w' (some g)

set_option maxHeartbeats 8000000 in
set_option maxRecDepth 100000 in
theorem needOfAll_walk {ok : Po → Prop} {nx : Po → List Po} {wn turn : Po → Bool} (D : Duel ok nx wn turn) (v0 v1 v2 v3 v4 v5 v6 v7 v8 v9 v10 v11 v12 : Value) (win : Int) (h g most : Nat) (p : Po) (L : List Mv) (beh : Mv → Po) (F : Po → Nat → Bool → Prop) (mv : Value) (w00 w : World) (hm1 : 1 ≤ most) (hm9 : most ≤ 9) (hp : ok p) (ht : turn p = false) (hwn : wn p = false) (hnx : nx p = L.map beh) (hL0 : L ≠ []) (hll : L.length ≤ 4608)
    (hw : Below w00.heap.size w00 w) (hgb : w00.heap.size ≤ g) (hne : h ≠ g) (hH : isHu w h g v0 v1 v2 v3 v4 v5 v6 v7 v8 v9 v10 v11 v12 win) (hK : knows w g 262144 F) (hmv : isMvs w mv L)
    (hB : ∀ m ∈ L, ∀ u, Below w00.heap.size w00 u → Calls Tryz.prog 49 #[.agg #[v0, v1, v2, v3, v4, v5, v6, v7, v8, v9, v10, v11, v12], .agg #[.int .i64 p.W, .int .i64 p.H, .string p.C, .int .i64 p.T, .string p.A, .string p.B], .agg #[.int .i64 m.f, .int .i64 (m.t : Int), .int .u8 (m.c : Int)]] u fun e w' => e = .returned (.agg #[.int .i64 (beh m).W, .int .i64 (beh m).H, .string (beh m).C, .int .i64 (beh m).T, .string (beh m).A, .string (beh m).B]) ∧ Below u.heap.size u w')
    (hN : ∀ m ∈ L, ∀ u, Below w00.heap.size w00 u → isHu u h g v0 v1 v2 v3 v4 v5 v6 v7 v8 v9 v10 v11 v12 win → knows u g 262144 F → Calls Tryz.prog 12 #[.pointer (some ⟨h, 0, none⟩), .agg #[.int .i64 (beh m).W, .int .i64 (beh m).H, .string (beh m).C, .int .i64 (beh m).T, .string (beh m).A, .string (beh m).B], .int .i64 (most : Int)] u fun e w' => ∃ r : Nat, e = .returned (.int .i64 (r : Int)) ∧ NeedR nx wn turn (beh m) most r ∧ r ≤ 1000 ∧ knows w' g 262144 F ∧ u.grownBy w' (some g)) :
    Calls Tryz.prog 26 #[.pointer (some ⟨h, 0, none⟩), .agg #[.int .i64 p.W, .int .i64 p.H, .string p.C, .int .i64 p.T, .string p.A, .string p.B], mv, .int .i64 (most : Int)] w (FndP nx wn turn p most g F w) := by
  obtain ⟨w1, hw1⟩ : ∃ w1, w1 = w.alloc (.cells #[.int .i64 p.W, .int .i64 p.H, .string p.C, .int .i64 p.T, .string p.A, .string p.B] 24 (0, 0)) := ⟨_, rfl⟩
  obtain ⟨w2, hw2⟩ : ∃ w2, w2 = w1.alloc (.cells #[.int .i64 0, .bool false] 64 (0, 0)) := ⟨_, rfl⟩
  have hg1 : w.grownBy w1 (some g) := by rw [hw1]; exact growA _ _ _
  have hg2 : w1.grownBy w2 (some g) := by rw [hw2]; exact growA _ _ _
  have s1 : w1.heap.size = w.heap.size + 1 := by rw [hw1]; simp
  have s2 : w2.heap.size = w.heap.size + 1 + 1 := by rw [hw2]; simp [s1]
  have hgl := hK.lt
  have hHl := hH.lt
  have hpb : isPb w2 w.heap.size p.W p.H p.T p.C p.A p.B := isPb.grown (show isPb w1 w.heap.size p.W p.H p.T p.C p.A p.B by rw [hw1]; exact heap_alloc_new w _) hg2 (by omega)
  have hfb : isFb w2 (w.heap.size + 1) 0 false := by rw [hw2, ← s1]; exact heap_alloc_new w1 _
  have hH2 := (hH.grown hg1 hne).grown hg2 hne
  have hK2 : knows w2 g 262144 F := by
    refine hK.of_block ?_
    rw [hw2, Below.heap_alloc _ _ _ (by omega), hw1, Below.heap_alloc _ _ _ (by omega)]
  have hgw := growT hg1 hg2
  have hmv2 := hmv.grown hK hgw
  obtain ⟨mo, mc, rfl, hml, hmx, hmc⟩ := hmv2
  obtain ⟨n, hn⟩ : ∃ n, n = L.length := ⟨_, rfl⟩
  rw [← hn] at hml hll ⊢
  have hn9 : n ≤ 9223372036854775807 := by omega
  unfold maxLen at hmx
  have HN := hide hn
  have HMC := hide hmc
  have HH2 := hide hH2
  have HPB := hide hpb
  have HFB := hide hfb
  have HK2 := hide hK2
  have HGW := hide hgw
  have HBE := hide hB
  have HNE := hide hN
  have HW := hide hw
  have HW1 := hide hw1
  have HW2 := hide hw2
  have HS2 := hide s2
  have HNX := hide hnx
  have hw1m : IntKind.i64.wrap ((most : Int) + 1) = (most : Int) + 1 := by unfold IntKind.wrap; simp [IntKind.signed, IntKind.bits]; omega
  clear hw1 hw2 hg1 hg2 s1 s2 hpb hfb hH2 hK2 hgw hmv hmc hH hK hB hN hw hn hnx
  go_enter Tryz.func26, Tryz.ntmps26
  go_wp2_with fail
  rw [← unhide HW1, ← unhide HW2]
  clear HW1 HW2
  go_loopw [9, 14] (fun lv iv wr => ∃ l i : Nat, lv = .int .i64 (l : Int) ∧ iv = .int .i64 (i : Int) ∧ i ≤ n ∧ l ≤ most ∧ Hid (allI nx wn turn (L.map beh) i l) ∧ Hid (knows wr g 262144 F) ∧ Hid (w2.grownBy wr (some g))) (fun _ iv _ => n - (intOf iv).toNat)
  case atStart => exact ⟨0, 0, rfl, rfl, Nat.zero_le _, Nat.zero_le _, hide (allI_zero _), HK2, hide (growB (Below.refl _ _) _)⟩
  case round =>
    obtain ⟨l, i, rfl, rfl, hi, hlm, HAI, HKR, HGR⟩ := hrel
    have hs2 := unhide HS2
    have hsr := (unhide HGR).size
    have hbr := below_grown (unhide HW) (growT (unhide HGW) (unhide HGR)) hgb
    by_cases hlt : i < n
    · have hlti : (i : Int) < (n : Int) := by omega
      have hi0 : (0 : Int) ≤ (i : Int) := by omega
      have him : i < L.length := by rw [← unhide HN]; exact hlt
      obtain ⟨m, hm⟩ : ∃ m, m = L[i] := ⟨_, rfl⟩
      have hmi : L[i]? = some m := by rw [hm]; exact List.getElem?_eq_getElem him
      have hmem := List.mem_of_getElem? hmi
      obtain ⟨gm, om, eg, hgm, c0, c1, c2⟩ := unhide HMC i m hmi
      subst eg
      have hgmne := (unhide HK2).ne_cell c0
      have hbk := (unhide HGR).block gm hgm (by simpa using hgmne)
      have d0 := (World.cell?_of_block (a := ⟨gm, om + i * 3, none⟩) hbk).trans c0
      have d1 := (World.cell?_of_block (a := ⟨gm, om + i * 3 + 1, none⟩) hbk).trans c1
      have d2 := (World.cell?_of_block (a := ⟨gm, om + i * 3 + 2, none⟩) hbk).trans c2
      obtain ⟨wi, hwi⟩ : ∃ wi, wi = wr.alloc (.cells #[.int .i64 m.f, .int .i64 (m.t : Int), .int .u8 (m.c : Int)] 29 (0, 0)) := ⟨_, rfl⟩
      have hgi : wr.grownBy wi (some g) := by rw [hwi]; exact growA _ _ _
      have hgi2 := growT (unhide HGR) hgi
      have hmbi : isMb wi wr.heap.size m.f m.t m.c := by rw [hwi]; exact heap_alloc_new wr _
      have hglr := (unhide HKR).lt
      have hKi : knows wi g 262144 F := (unhide HKR).of_block (by rw [hwi, Below.heap_alloc _ _ _ hglr])
      have hbi := below_grown hbr hgi hgb
      have hHi := (unhide HH2).grown hgi2 hne
      have hpbi := (unhide HPB).grown hgi2 (by omega)
      have HM1 := hide (unhide HBE m hmem)
      have HP1 := hide (unhide HNE m hmem)
      obtain ⟨Q, hQ⟩ : ∃ Q, Q = beh m := ⟨_, rfl⟩
      have hqi : (L.map beh)[i]? = some Q := by rw [List.getElem?_map, hmi, hQ]; rfl
      rw [← hQ] at HM1 HP1
      have HQI := hide hqi
      have HS : Hid (∀ u : World, wi.grownBy u (some g) → (u.cell? ⟨h, 0, none⟩ = some v0 ∧ u.cell? ⟨h, 1, none⟩ = some v1 ∧ u.cell? ⟨h, 2, none⟩ = some v2 ∧ u.cell? ⟨h, 3, none⟩ = some v3 ∧ u.cell? ⟨h, 4, none⟩ = some v4 ∧ u.cell? ⟨h, 5, none⟩ = some v5 ∧ u.cell? ⟨h, 6, none⟩ = some v6 ∧ u.cell? ⟨h, 7, none⟩ = some v7 ∧ u.cell? ⟨h, 8, none⟩ = some v8 ∧ u.cell? ⟨h, 9, none⟩ = some v9 ∧ u.cell? ⟨h, 10, none⟩ = some v10 ∧ u.cell? ⟨h, 11, none⟩ = some v11 ∧ u.cell? ⟨h, 12, none⟩ = some v12 ∧ u.cell? ⟨w.heap.size, 0, none⟩ = some (.int .i64 p.W) ∧ u.cell? ⟨w.heap.size, 1, none⟩ = some (.int .i64 p.H) ∧ u.cell? ⟨w.heap.size, 2, none⟩ = some (.string p.C) ∧ u.cell? ⟨w.heap.size, 3, none⟩ = some (.int .i64 p.T) ∧ u.cell? ⟨w.heap.size, 4, none⟩ = some (.string p.A) ∧ u.cell? ⟨w.heap.size, 5, none⟩ = some (.string p.B) ∧ u.cell? ⟨wr.heap.size, 0, none⟩ = some (.int .i64 m.f) ∧ u.cell? ⟨wr.heap.size, 1, none⟩ = some (.int .i64 (m.t : Int)) ∧ u.cell? ⟨wr.heap.size, 2, none⟩ = some (.int .u8 (m.c : Int)))) := hide (fun u hu => by
        obtain ⟨y0, y1, y2, y3, y4, y5, y6, y7, y8, y9, y10, y11, y12, -, -, -⟩ := (hHi.grown hu hne).all
        obtain ⟨z0, z1, z2, z3, z4, z5⟩ := (hpbi.grown hu (by omega)).all
        obtain ⟨n0, n1, n2⟩ := (hmbi.grown hu (by omega)).all
        exact ⟨y0, y1, y2, y3, y4, y5, y6, y7, y8, y9, y10, y11, y12, z0, z1, z2, z3, z4, z5, n0, n1, n2⟩)
      have HHI := hide (fun (u : World) (hu : wi.grownBy u (some g)) => hHi.grown hu hne)
      have HBI := hide (fun (u : World) (hu : wi.grownBy u (some g)) => below_grown hbi hu hgb)
      have HKI := hide hKi
      have HG0 : Hid (wi.grownBy wi.drew (some g)) := hide (growD _ _)
      have HGI2 := hide hgi2
      have HWI := hide hwi
      have hglt : g < wi.heap.size := hKi.lt
      clear hm hmi hmem c0 c1 c2 hbk hwi hgi hgi2 hmbi hKi hbi hHi hpbi hQ hqi him hbr HKR
      go_upto_region 5 with fail
      rw [← unhide HWI]
      clear HWI d0 d1 d2
      go_region_held3 (fun u => u.cell? ⟨h, 0, none⟩ = some v0 ∧ u.cell? ⟨h, 1, none⟩ = some v1 ∧ u.cell? ⟨h, 2, none⟩ = some v2 ∧ u.cell? ⟨h, 3, none⟩ = some v3 ∧ u.cell? ⟨h, 4, none⟩ = some v4 ∧ u.cell? ⟨h, 5, none⟩ = some v5 ∧ u.cell? ⟨h, 6, none⟩ = some v6 ∧ u.cell? ⟨h, 7, none⟩ = some v7 ∧ u.cell? ⟨h, 8, none⟩ = some v8 ∧ u.cell? ⟨h, 9, none⟩ = some v9 ∧ u.cell? ⟨h, 10, none⟩ = some v10 ∧ u.cell? ⟨h, 11, none⟩ = some v11 ∧ u.cell? ⟨h, 12, none⟩ = some v12 ∧ u.cell? ⟨w.heap.size, 0, none⟩ = some (.int .i64 p.W) ∧ u.cell? ⟨w.heap.size, 1, none⟩ = some (.int .i64 p.H) ∧ u.cell? ⟨w.heap.size, 2, none⟩ = some (.string p.C) ∧ u.cell? ⟨w.heap.size, 3, none⟩ = some (.int .i64 p.T) ∧ u.cell? ⟨w.heap.size, 4, none⟩ = some (.string p.A) ∧ u.cell? ⟨w.heap.size, 5, none⟩ = some (.string p.B) ∧ u.cell? ⟨wr.heap.size, 0, none⟩ = some (.int .i64 m.f) ∧ u.cell? ⟨wr.heap.size, 1, none⟩ = some (.int .i64 (m.t : Int)) ∧ u.cell? ⟨wr.heap.size, 2, none⟩ = some (.int .u8 (m.c : Int)))
        (first
          | with_reducible exact unhide HS _ (unhide HG0)
          | with_reducible exact unhide HS _ (unhide HX)
          | with_reducible exact unhide HS _ (unhide HY))
        (first
          | (go_at_call 49; (with_reducible refine (unhide HM1 _ (unhide HBI _ (unhide HG0))).mono ?_); rintro e wx ⟨rfl, hbx⟩
             have HX : Hid (wi.grownBy wx (some g)) := hide (growT (unhide HG0) (growB hbx _))
             have HKX : Hid (knows wx g 262144 F) := hide ((unhide HKI).of_block ((hbx.block g hglt).trans rfl))
             clear hbx)
          | (go_at_call 12; (with_reducible refine (unhide HP1 _ (unhide HBI _ (unhide HX)) (unhide HHI _ (unhide HX)) (unhide HKX)).mono ?_); rintro e wy ⟨r, rfl, hNR, hr1, hKY, hgy⟩
             have HY : Hid (wi.grownBy wy (some g)) := hide (growT (unhide HX) hgy)
             have HNR := hide hNR
             have HKY := hide hKY
             clear hNR hKY hgy))
      all_goals
        have hfby := (unhide HFB).grown (growT (unhide HGI2) (unhide HY)) (by omega)
        have fz0 := hfby.frozen 0
        have fz1 := hfby.frozen 1
        obtain ⟨f0, f1⟩ := hfby.all
        by_cases hrm : r ≤ most
        · obtain ⟨l', hl'⟩ : ∃ l', l' = max l r := ⟨_, rfl⟩
          have hmax : max (l : Int) (r : Int) = (l' : Int) := by omega
          have hle : ¬ (most : Int) < (l' : Int) := by omega
          have HAI2 : Hid (allI nx wn turn (L.map beh) (i + 1) l') := hide (by rw [hl']; exact allI_step D (fun q hq => D.stay p hp q (by rw [unhide HNX]; exact hq)) (unhide HAI) (unhide HQI) (unhide HNR) hrm)
          have hl9 : l' ≤ most := by omega
          clear hl'
          go_wp2
          go_roundw
          case rel => exact ⟨l', i + 1, by first | rfl | rw [hmax], by go_num, by omega, hl9, HAI2, HKY, hide (growT (unhide HGI2) (unhide HY))⟩
          case measure => simp only [intOf]; omega
        · have hgt : (most : Int) < max (l : Int) (r : Int) := by omega
          have hmem2 : Q ∈ nx p := by rw [unhide HNX]; exact List.mem_of_getElem? (unhide HQI)
          obtain ⟨e1, e2⟩ := fnd_more (by omega) (all_more D hp ht hwn hmem2 hm1 (unhide HNR) (by omega))
          have HE := hide (And.intro e1 e2)
          clear e1 e2 hmem2 hfby
          go_wp2
          refine bodyPost_ret (v := .agg #[.int .i64 ((most : Int) + 1), .bool false]) (by simp [results, Tryz.results26, go_sem, f0, f1]) rfl ?_
          exact ⟨most + 1, false, rfl, (unhide HE).1, (unhide HE).2, ((unhide HKY).set (by omega)).set (by omega), grow_set (grow_set (growT (unhide HGW) (growT (unhide HGI2) (unhide HY))) (by omega)) (by omega)⟩
    · have hlti : ¬ (i : Int) < (n : Int) := by omega
      have hfby := (unhide HFB).grown (unhide HGR) (by omega)
      have fz0 := hfby.frozen 0
      have fz1 := hfby.frozen 1
      obtain ⟨f0, f1⟩ := hfby.all
      have hne0 : nx p ≠ [] := by rw [unhide HNX]; simpa using hL0
      have hai := unhide HAI
      rw [← unhide HNX] at hai
      have hend := all_end D hp ht hwn hne0 (by rw [unhide HNX, List.length_map, ← unhide HN]; omega) hai
      have HE := hide (fnd_just (show most ≤ 900 by omega) hlm hend)
      clear hne0 hai hend hfby hbr
      go_wp2
      refine bodyPost_ret (v := .agg #[.int .i64 (l : Int), .bool true]) (by simp [results, Tryz.results26, go_sem, f0, f1]) rfl ?_
      exact ⟨l, true, rfl, (unhide HE).1, (unhide HE).2, ((unhide HKR).set (by omega)).set (by omega), grow_set (grow_set (growT (unhide HGW) (unhide HGR)) (by omega)) (by omega)⟩
end Go.Proofs.YtlogengkhlmcbaaGreatDoor

namespace Go.Proofs.YtlogengkhlmcbaaGreatDoor
open Go.RowKit
attribute [local go_sem ↓] Go.wp_at_zero Go.wp_at_succ

set_option maxHeartbeats 8000000 in
set_option maxRecDepth 100000 in
theorem needOfOne_walk {ok : Po → Prop} {nx : Po → List Po} {wn turn : Po → Bool} (D : Duel ok nx wn turn) (v0 v1 v2 v3 v4 v5 v6 v7 v8 v9 v10 v11 v12 : Value) (win : Int) (h g least most : Nat) (p : Po) (L : List Mv) (beh : Mv → Po) (F : Po → Nat → Bool → Prop) (mv : Value) (w00 w : World) (hl1 : 1 ≤ least) (hlm : least ≤ most) (hm9 : most ≤ 9) (hp : ok p) (ht : turn p = true) (hwn : wn p = false) (hnx : nx p = L.map beh) (hlow : ∀ k, k < least → ownN nx wn turn k p = false) (hll : L.length ≤ 4608)
    (hw : Below w00.heap.size w00 w) (hgb : w00.heap.size ≤ g) (hne : h ≠ g) (hH : isHu w h g v0 v1 v2 v3 v4 v5 v6 v7 v8 v9 v10 v11 v12 win) (hK : knows w g 262144 F) (hmv : isMvs w mv L)
    (hB : ∀ m ∈ L, ∀ u, Below w00.heap.size w00 u → Calls Tryz.prog 49 #[.agg #[v0, v1, v2, v3, v4, v5, v6, v7, v8, v9, v10, v11, v12], .agg #[.int .i64 p.W, .int .i64 p.H, .string p.C, .int .i64 p.T, .string p.A, .string p.B], .agg #[.int .i64 m.f, .int .i64 (m.t : Int), .int .u8 (m.c : Int)]] u fun e w' => e = .returned (.agg #[.int .i64 (beh m).W, .int .i64 (beh m).H, .string (beh m).C, .int .i64 (beh m).T, .string (beh m).A, .string (beh m).B]) ∧ Below u.heap.size u w')
    (hN : ∀ m ∈ L, ∀ k : Nat, k + 1 ≤ most → ∀ u, Below w00.heap.size w00 u → isHu u h g v0 v1 v2 v3 v4 v5 v6 v7 v8 v9 v10 v11 v12 win → knows u g 262144 F → Calls Tryz.prog 12 #[.pointer (some ⟨h, 0, none⟩), .agg #[.int .i64 (beh m).W, .int .i64 (beh m).H, .string (beh m).C, .int .i64 (beh m).T, .string (beh m).A, .string (beh m).B], .int .i64 (k : Int)] u fun e w' => ∃ r : Nat, e = .returned (.int .i64 (r : Int)) ∧ NeedR nx wn turn (beh m) k r ∧ r ≤ 1000 ∧ knows w' g 262144 F ∧ u.grownBy w' (some g)) :
    Calls Tryz.prog 25 #[.pointer (some ⟨h, 0, none⟩), .agg #[.int .i64 p.W, .int .i64 p.H, .string p.C, .int .i64 p.T, .string p.A, .string p.B], mv, .int .i64 (least : Int), .int .i64 (most : Int)] w (FndP nx wn turn p most g F w) := by
  obtain ⟨w1, hw1⟩ : ∃ w1, w1 = w.alloc (.cells #[.int .i64 p.W, .int .i64 p.H, .string p.C, .int .i64 p.T, .string p.A, .string p.B] 24 (0, 0)) := ⟨_, rfl⟩
  obtain ⟨w2, hw2⟩ : ∃ w2, w2 = w1.alloc (.cells #[.int .i64 0, .bool false] 64 (0, 0)) := ⟨_, rfl⟩
  have hg1 : w.grownBy w1 (some g) := by rw [hw1]; exact growA _ _ _
  have hg2 : w1.grownBy w2 (some g) := by rw [hw2]; exact growA _ _ _
  have s1 : w1.heap.size = w.heap.size + 1 := by rw [hw1]; simp
  have s2 : w2.heap.size = w.heap.size + 1 + 1 := by rw [hw2]; simp [s1]
  have hgl := hK.lt
  have hHl := hH.lt
  have hpb : isPb w2 w.heap.size p.W p.H p.T p.C p.A p.B := isPb.grown (show isPb w1 w.heap.size p.W p.H p.T p.C p.A p.B by rw [hw1]; exact heap_alloc_new w _) hg2 (by omega)
  have hfb : isFb w2 (w.heap.size + 1) 0 false := by rw [hw2, ← s1]; exact heap_alloc_new w1 _
  have hH2 := (hH.grown hg1 hne).grown hg2 hne
  have hK2 : knows w2 g 262144 F := by
    refine hK.of_block ?_
    rw [hw2, Below.heap_alloc _ _ _ (by omega), hw1, Below.heap_alloc _ _ _ (by omega)]
  have hgw := growT hg1 hg2
  have hmv2 := hmv.grown hK hgw
  obtain ⟨mo, mc, rfl, hml, hmx, hmc⟩ := hmv2
  obtain ⟨ll, hn⟩ : ∃ ll, ll = L.length := ⟨_, rfl⟩
  rw [← hn] at hml hll ⊢
  have hn9 : ll ≤ 9223372036854775807 := by omega
  unfold maxLen at hmx
  have HN := hide hn
  have HMC := hide hmc
  have HH2 := hide hH2
  have HPB := hide hpb
  have HFB := hide hfb
  have HK2 := hide hK2
  have HGW := hide hgw
  have HBE := hide hB
  have HNE := hide hN
  have HW := hide hw
  have HW1 := hide hw1
  have HW2 := hide hw2
  have HS2 := hide s2
  have HNX := hide hnx
  have hw1m : IntKind.i64.wrap ((most : Int) + 1) = (most : Int) + 1 := by unfold IntKind.wrap; simp [IntKind.signed, IntKind.bits]; omega
  have HLOW := hide hlow
  clear hlow hw1 hw2 hg1 hg2 s1 s2 hpb hfb hH2 hK2 hgw hmv hmc hH hK hB hN hw hn hnx
  go_enter Tryz.func25, Tryz.ntmps25
  go_wp2_with fail
  rw [← unhide HW1, ← unhide HW2]
  clear HW1 HW2
  go_loopw [11] (fun nv wo => ∃ n : Nat, nv = .int .i64 (n : Int) ∧ least ≤ n ∧ n ≤ most + 1 ∧ Hid (∀ k, k < n → ownN nx wn turn k p = false) ∧ Hid (knows wo g 262144 F) ∧ Hid (w2.grownBy wo (some g))) (fun nv _ => most + 1 - (intOf nv).toNat)
  case atStart => exact ⟨least, rfl, Nat.le_refl _, by omega, HLOW, HK2, hide (growB (Below.refl _ _) _)⟩
  case round =>
    obtain ⟨n, rfl, hnl, hnm, HLN, HKO, HGO⟩ := hrel
    have hs2 := unhide HS2
    by_cases hnle : n ≤ most
    · have hnlei : (n : Int) ≤ (most : Int) := by omega
      obtain ⟨n1, hn1⟩ : ∃ n1 : Nat, n1 = n - 1 := ⟨_, rfl⟩
      have hsub : (n : Int) - 1 = (n1 : Int) := by omega
      have hn1m : n1 < most := by omega
      have HN1 := hide hn1
      have wsub : IntKind.i64.wrap (n1 : Int) = (n1 : Int) := by unfold IntKind.wrap; simp [IntKind.signed, IntKind.bits]; omega
      clear hn1
      go_wp2_with fail
      go_loopw [22] (fun iv wr => ∃ i : Nat, iv = .int .i64 (i : Int) ∧ i ≤ ll ∧ Hid (∀ q ∈ (L.map beh).take i, ownN nx wn turn n1 q = false) ∧ Hid (knows wr g 262144 F) ∧ Hid (w2.grownBy wr (some g))) (fun iv _ => ll - (intOf iv).toNat)
      case atStart => exact ⟨0, rfl, Nat.zero_le _, hide (fun q hq => by simp at hq), HKO, HGO⟩
      case round =>
        obtain ⟨i, rfl, hi, HNO, HKR, HGR⟩ := hrel
        have hsr := (unhide HGR).size
        have hbr := below_grown (unhide HW) (growT (unhide HGW) (unhide HGR)) hgb
        by_cases hlt : i < ll
        · have hlti : (i : Int) < (ll : Int) := by omega
          have hi0 : (0 : Int) ≤ (i : Int) := by omega
          have him : i < L.length := by rw [← unhide HN]; exact hlt
          obtain ⟨m, hm⟩ : ∃ m, m = L[i] := ⟨_, rfl⟩
          have hmi : L[i]? = some m := by rw [hm]; exact List.getElem?_eq_getElem him
          have hmem := List.mem_of_getElem? hmi
          obtain ⟨gm, om, eg, hgm, c0, c1, c2⟩ := unhide HMC i m hmi
          subst eg
          have hgmne := (unhide HK2).ne_cell c0
          have hbk := (unhide HGR).block gm hgm (by simpa using hgmne)
          have d0 := (World.cell?_of_block (a := ⟨gm, om + i * 3, none⟩) hbk).trans c0
          have d1 := (World.cell?_of_block (a := ⟨gm, om + i * 3 + 1, none⟩) hbk).trans c1
          have d2 := (World.cell?_of_block (a := ⟨gm, om + i * 3 + 2, none⟩) hbk).trans c2
          obtain ⟨wi, hwi⟩ : ∃ wi, wi = wr.alloc (.cells #[.int .i64 m.f, .int .i64 (m.t : Int), .int .u8 (m.c : Int)] 29 (0, 0)) := ⟨_, rfl⟩
          have hgi : wr.grownBy wi (some g) := by rw [hwi]; exact growA _ _ _
          have hgi2 := growT (unhide HGR) hgi
          have hmbi : isMb wi wr.heap.size m.f m.t m.c := by rw [hwi]; exact heap_alloc_new wr _
          have hglr := (unhide HKR).lt
          have hKi : knows wi g 262144 F := (unhide HKR).of_block (by rw [hwi, Below.heap_alloc _ _ _ hglr])
          have hbi := below_grown hbr hgi hgb
          have hHi := (unhide HH2).grown hgi2 hne
          have hpbi := (unhide HPB).grown hgi2 (by omega)
          have HM1 := hide (unhide HBE m hmem)
          have HP1 := hide (unhide HNE m hmem n1 (by omega))
          obtain ⟨Q, hQ⟩ : ∃ Q, Q = beh m := ⟨_, rfl⟩
          have hqi : (L.map beh)[i]? = some Q := by rw [List.getElem?_map, hmi, hQ]; rfl
          rw [← hQ] at HM1 HP1
          have HQI := hide hqi
          have HS : Hid (∀ u : World, wi.grownBy u (some g) → (u.cell? ⟨h, 0, none⟩ = some v0 ∧ u.cell? ⟨h, 1, none⟩ = some v1 ∧ u.cell? ⟨h, 2, none⟩ = some v2 ∧ u.cell? ⟨h, 3, none⟩ = some v3 ∧ u.cell? ⟨h, 4, none⟩ = some v4 ∧ u.cell? ⟨h, 5, none⟩ = some v5 ∧ u.cell? ⟨h, 6, none⟩ = some v6 ∧ u.cell? ⟨h, 7, none⟩ = some v7 ∧ u.cell? ⟨h, 8, none⟩ = some v8 ∧ u.cell? ⟨h, 9, none⟩ = some v9 ∧ u.cell? ⟨h, 10, none⟩ = some v10 ∧ u.cell? ⟨h, 11, none⟩ = some v11 ∧ u.cell? ⟨h, 12, none⟩ = some v12 ∧ u.cell? ⟨w.heap.size, 0, none⟩ = some (.int .i64 p.W) ∧ u.cell? ⟨w.heap.size, 1, none⟩ = some (.int .i64 p.H) ∧ u.cell? ⟨w.heap.size, 2, none⟩ = some (.string p.C) ∧ u.cell? ⟨w.heap.size, 3, none⟩ = some (.int .i64 p.T) ∧ u.cell? ⟨w.heap.size, 4, none⟩ = some (.string p.A) ∧ u.cell? ⟨w.heap.size, 5, none⟩ = some (.string p.B) ∧ u.cell? ⟨wr.heap.size, 0, none⟩ = some (.int .i64 m.f) ∧ u.cell? ⟨wr.heap.size, 1, none⟩ = some (.int .i64 (m.t : Int)) ∧ u.cell? ⟨wr.heap.size, 2, none⟩ = some (.int .u8 (m.c : Int)))) := hide (fun u hu => by
            obtain ⟨y0, y1, y2, y3, y4, y5, y6, y7, y8, y9, y10, y11, y12, -, -, -⟩ := (hHi.grown hu hne).all
            obtain ⟨z0, z1, z2, z3, z4, z5⟩ := (hpbi.grown hu (by omega)).all
            obtain ⟨n0, n1, n2⟩ := (hmbi.grown hu (by omega)).all
            exact ⟨y0, y1, y2, y3, y4, y5, y6, y7, y8, y9, y10, y11, y12, z0, z1, z2, z3, z4, z5, n0, n1, n2⟩)
          have HHI := hide (fun (u : World) (hu : wi.grownBy u (some g)) => hHi.grown hu hne)
          have HBI := hide (fun (u : World) (hu : wi.grownBy u (some g)) => below_grown hbi hu hgb)
          have HKI := hide hKi
          have HG0 : Hid (wi.grownBy wi.drew (some g)) := hide (growD _ _)
          have HGI2 := hide hgi2
          have HWI := hide hwi
          have hglt : g < wi.heap.size := hKi.lt
          clear hm hmi hmem c0 c1 c2 hbk hwi hgi hgi2 hmbi hKi hbi hHi hpbi hQ hqi him hbr HKR
          go_upto_region 7 with fail
          rw [← unhide HWI]
          clear HWI d0 d1 d2
          go_region_held3 (fun u => u.cell? ⟨h, 0, none⟩ = some v0 ∧ u.cell? ⟨h, 1, none⟩ = some v1 ∧ u.cell? ⟨h, 2, none⟩ = some v2 ∧ u.cell? ⟨h, 3, none⟩ = some v3 ∧ u.cell? ⟨h, 4, none⟩ = some v4 ∧ u.cell? ⟨h, 5, none⟩ = some v5 ∧ u.cell? ⟨h, 6, none⟩ = some v6 ∧ u.cell? ⟨h, 7, none⟩ = some v7 ∧ u.cell? ⟨h, 8, none⟩ = some v8 ∧ u.cell? ⟨h, 9, none⟩ = some v9 ∧ u.cell? ⟨h, 10, none⟩ = some v10 ∧ u.cell? ⟨h, 11, none⟩ = some v11 ∧ u.cell? ⟨h, 12, none⟩ = some v12 ∧ u.cell? ⟨w.heap.size, 0, none⟩ = some (.int .i64 p.W) ∧ u.cell? ⟨w.heap.size, 1, none⟩ = some (.int .i64 p.H) ∧ u.cell? ⟨w.heap.size, 2, none⟩ = some (.string p.C) ∧ u.cell? ⟨w.heap.size, 3, none⟩ = some (.int .i64 p.T) ∧ u.cell? ⟨w.heap.size, 4, none⟩ = some (.string p.A) ∧ u.cell? ⟨w.heap.size, 5, none⟩ = some (.string p.B) ∧ u.cell? ⟨wr.heap.size, 0, none⟩ = some (.int .i64 m.f) ∧ u.cell? ⟨wr.heap.size, 1, none⟩ = some (.int .i64 (m.t : Int)) ∧ u.cell? ⟨wr.heap.size, 2, none⟩ = some (.int .u8 (m.c : Int)))
            (first
              | with_reducible exact unhide HS _ (unhide HG0)
              | with_reducible exact unhide HS _ (unhide HX)
              | with_reducible exact unhide HS _ (unhide HY))
            (first
              | (go_at_call 49; (with_reducible refine (unhide HM1 _ (unhide HBI _ (unhide HG0))).mono ?_); rintro e wx ⟨rfl, hbx⟩
                 have HX : Hid (wi.grownBy wx (some g)) := hide (growT (unhide HG0) (growB hbx _))
                 have HKX : Hid (knows wx g 262144 F) := hide ((unhide HKI).of_block ((hbx.block g hglt).trans rfl))
                 clear hbx)
              | (go_at_call 12; (with_reducible refine (unhide HP1 _ (unhide HBI _ (unhide HX)) (unhide HHI _ (unhide HX)) (unhide HKX)).mono ?_); rintro e wy ⟨r, rfl, hNR, hr1, hKY, hgy⟩
                 have HY : Hid (wi.grownBy wy (some g)) := hide (growT (unhide HX) hgy)
                 have HNR := hide hNR
                 have HKY := hide hKY
                 clear hNR hKY hgy))
          all_goals
            have hfby := (unhide HFB).grown (growT (unhide HGI2) (unhide HY)) (by omega)
            have fz0 := hfby.frozen 0
            have fz1 := hfby.frozen 1
            obtain ⟨f0, f1⟩ := hfby.all
            by_cases hrn : r < n
            · have hrni : (r : Int) < (n : Int) := by omega
              have hmem2 : Q ∈ nx p := by rw [unhide HNX]; exact List.mem_of_getElem? (unhide HQI)
              have HE := hide (fnd_just (show most ≤ 900 by omega) hnle (one_found D hp ht hwn hmem2 (by omega) (unhide HLN) (by rw [← unhide HN1]; exact unhide HNR) hrn))
              clear hmem2 hfby
              go_wp2
              refine bodyPost_ret (v := .agg #[.int .i64 (n : Int), .bool true]) (by simp [results, Tryz.results25, go_sem, f0, f1]) rfl ?_
              exact ⟨n, true, rfl, (unhide HE).1, (unhide HE).2, ((unhide HKY).set (by omega)).set (by omega), grow_set (grow_set (growT (unhide HGW) (growT (unhide HGI2) (unhide HY))) (by omega)) (by omega)⟩
            · have hrni : ¬ (r : Int) < (n : Int) := by omega
              have HNO2 : Hid (∀ q ∈ (L.map beh).take (i + 1), ownN nx wn turn n1 q = false) := hide (fun q hq => by
                rw [List.take_add_one, unhide HQI] at hq
                simp only [Option.toList_some, List.mem_append, List.mem_singleton] at hq
                rcases hq with hq | rfl
                · exact unhide HNO q hq
                · rw [unhide HN1]
                  exact one_step (by omega) (by rw [← unhide HN1]; exact unhide HNR) hrn)
              clear hfby
              go_wp2
              go_roundw
              case rel => exact ⟨i + 1, by go_num, by omega, HNO2, HKY, hide (growT (unhide HGI2) (unhide HY))⟩
              case measure => simp only [intOf]; omega
        · have hlti : ¬ (i : Int) < (ll : Int) := by omega
          have HLN2 : Hid (∀ k, k < n + 1 → ownN nx wn turn k p = false) := hide (one_none D hp ht hwn (by omega) (unhide HLN) (fun q hq => by
            rw [← unhide HN1]
            refine unhide HNO q ?_
            rw [List.take_of_length_le (by rw [List.length_map, ← unhide HN]; omega), ← unhide HNX]
            exact hq))
          clear hbr
          go_wp2
          go_roundw
          case rel => exact ⟨n + 1, by go_num, by omega, by omega, HLN2, HKR, HGR⟩
          case measure => simp only [intOf]; omega
    · have hnlei : ¬ (n : Int) ≤ (most : Int) := by omega
      have hnn : n = most + 1 := by omega
      have hfby := (unhide HFB).grown (unhide HGO) (by omega)
      have fz0 := hfby.frozen 0
      have fz1 := hfby.frozen 1
      obtain ⟨f0, f1⟩ := hfby.all
      have hln := unhide HLN
      rw [hnn] at hln
      have HE := hide (fnd_more (show most ≤ 900 by omega) hln)
      clear hln hfby hnn
      go_wp2
      refine bodyPost_ret (v := .agg #[.int .i64 ((most : Int) + 1), .bool false]) (by simp [results, Tryz.results25, go_sem, f0, f1]) rfl ?_
      exact ⟨most + 1, false, rfl, (unhide HE).1, (unhide HE).2, ((unhide HKO).set (by omega)).set (by omega), grow_set (grow_set (growT (unhide HGW) (unhide HGO)) (by omega)) (by omega)⟩
end Go.Proofs.YtlogengkhlmcbaaGreatDoor
