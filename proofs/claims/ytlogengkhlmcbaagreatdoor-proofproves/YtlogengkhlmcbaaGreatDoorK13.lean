/-
  package proof, walked: need.
-/
import Derived.Test.YtlogengkhlmcbaaGreatDoorJ16
namespace Go.Proofs.YtlogengkhlmcbaaGreatDoor
open Go.Maps (Keyed)
open Go.RowKit
attribute [local go_sem ↓] Go.wp_at_zero Go.wp_at_succ

/-- 'm[k]', in every world in which the map is the same. -/
theorem knows.look_all {w : World} {b N : Nat} {F : Po → Nat → Bool → Prop} (h : knows w b N F) {p : Po} (hp : p.ok) : ∃ (n : Nat) (s : Bool), F p n s ∧ ∀ u : World, u.heap[b]? = w.heap[b]? → (Instr.lookup 60 (.map (some b)) (.agg #[.int .i64 p.W, .int .i64 p.H, .string p.C, .int .i64 p.T, .string p.A, .string p.B]) false).run Tryz.prog u = .ok (.agg #[.int .i64 (n : Int), .bool s]) u := by
  obtain ⟨D, hown, h2⟩ := h
  obtain ⟨n, s, hat, hF⟩ := h2 p hp
  refine ⟨n, s, hF, fun u hu => ?_⟩
  obtain ⟨es, clock, h3, h4⟩ := hown
  have hu' : u.ownsMap Tryz.prog 24 fndR b N D := ⟨es, clock, hu.trans h3, h4⟩
  obtain ⟨v, ps, hrun, hv⟩ := hu'.lookup (Keyed.of_law posLaw) fndMap (fndZ u) (zd := .lit (.int .i64 0)) (zp := []) (fndR_of 0 false) ((poKey posT posKT posD).key p hp)
  have hat' : D.atKey ((poKey posT posKT posD).lit p) (.lit (.int .i64 0)) = .lit (.int .i64 (2 * (n : Int) + if s then 1 else 0)) := hat
  rw [hat'] at hv
  obtain ⟨n', s', rfl, hd⟩ := fndR_inv hv
  simp only [DataW.lit.injEq, Lit.int.injEq, true_and] at hd
  have : n' = (n : Int) ∧ s' = s := by
    cases s <;> cases s' <;> simp at hd ⊢ <;> omega
  rw [this.1, this.2] at hrun
  exact hrun
/-- What need hands back. -/
def NeedP (nx : Po → List Po) (wn turn : Po → Bool) (p : Po) (most g : Nat) (F : Po → Nat → Bool → Prop) (w : World) (e : Ending) (w' : World) : Prop := ∃ r : Nat, e = .returned (.int .i64 (r : Int)) ∧ NeedR nx wn turn p most r ∧ r ≤ 1000 ∧ knows w' g 262144 F ∧ w.grownBy w' (some g)
/-- What is known in need's own worlds. -/
structure NF (w : World) (h g : Nat) (v0 v1 v2 v3 v4 v5 v6 v7 v8 v9 v10 v11 v12 : Value) (win : Int) (p : Po) (F : Po → Nat → Bool → Prop) (u : World) : Prop where
  hu : isHu u h g v0 v1 v2 v3 v4 v5 v6 v7 v8 v9 v10 v11 v12 win
  pb : isPb u w.heap.size p.W p.H p.T p.C p.A p.B
  kn : knows u g 262144 F
  gr : w.grownBy u (some g)
  ne : h ≠ g
  gl : g < w.heap.size
theorem NF.grown {w : World} {h g : Nat} {v0 v1 v2 v3 v4 v5 v6 v7 v8 v9 v10 v11 v12 : Value} {win : Int} {p : Po} {F : Po → Nat → Bool → Prop} {u u' : World} (H : NF w h g v0 v1 v2 v3 v4 v5 v6 v7 v8 v9 v10 v11 v12 win p F u) (hg : u.grownBy u' (some g)) (hk : knows u' g 262144 F) : NF w h g v0 v1 v2 v3 v4 v5 v6 v7 v8 v9 v10 v11 v12 win p F u' :=
  ⟨H.hu.grown hg H.ne, H.pb.grown hg (by have := H.gl; omega), hk, growT H.gr hg, H.ne, H.gl⟩
theorem NF.step {w : World} {h g : Nat} {v0 v1 v2 v3 v4 v5 v6 v7 v8 v9 v10 v11 v12 : Value} {win : Int} {p : Po} {F : Po → Nat → Bool → Prop} {u u' : World} (H : NF w h g v0 v1 v2 v3 v4 v5 v6 v7 v8 v9 v10 v11 v12 win p F u) (hb : Below u.heap.size u u') : NF w h g v0 v1 v2 v3 v4 v5 v6 v7 v8 v9 v10 v11 v12 win p F u' :=
  H.grown (growB hb _) (H.kn.of_block (hb.block g H.kn.lt))
theorem NF.cells {w : World} {h g : Nat} {v0 v1 v2 v3 v4 v5 v6 v7 v8 v9 v10 v11 v12 : Value} {win : Int} {p : Po} {F : Po → Nat → Bool → Prop} {u : World} (H : NF w h g v0 v1 v2 v3 v4 v5 v6 v7 v8 v9 v10 v11 v12 win p F u) : u.cell? ⟨h, 0, none⟩ = some v0 ∧ u.cell? ⟨h, 1, none⟩ = some v1 ∧ u.cell? ⟨h, 2, none⟩ = some v2 ∧ u.cell? ⟨h, 3, none⟩ = some v3 ∧ u.cell? ⟨h, 4, none⟩ = some v4 ∧ u.cell? ⟨h, 5, none⟩ = some v5 ∧ u.cell? ⟨h, 6, none⟩ = some v6 ∧ u.cell? ⟨h, 7, none⟩ = some v7 ∧ u.cell? ⟨h, 8, none⟩ = some v8 ∧ u.cell? ⟨h, 9, none⟩ = some v9 ∧ u.cell? ⟨h, 10, none⟩ = some v10 ∧ u.cell? ⟨h, 11, none⟩ = some v11 ∧ u.cell? ⟨h, 12, none⟩ = some v12 ∧ u.cell? ⟨h, 13, none⟩ = some (.int .i64 win) ∧ u.cell? ⟨h, 14, none⟩ = some (.map (some g)) ∧ u.cell? ⟨w.heap.size, 0, none⟩ = some (.int .i64 p.W) ∧ u.cell? ⟨w.heap.size, 1, none⟩ = some (.int .i64 p.H) ∧ u.cell? ⟨w.heap.size, 2, none⟩ = some (.string p.C) ∧ u.cell? ⟨w.heap.size, 3, none⟩ = some (.int .i64 p.T) ∧ u.cell? ⟨w.heap.size, 4, none⟩ = some (.string p.A) ∧ u.cell? ⟨w.heap.size, 5, none⟩ = some (.string p.B) := by
  obtain ⟨y0, y1, y2, y3, y4, y5, y6, y7, y8, y9, y10, y11, y12, y13, y14, -⟩ := H.hu.all
  obtain ⟨z0, z1, z2, z3, z4, z5⟩ := H.pb.all
  exact ⟨y0, y1, y2, y3, y4, y5, y6, y7, y8, y9, y10, y11, y12, y13, y14, z0, z1, z2, z3, z4, z5⟩
theorem NF.below {w00 w : World} {h g : Nat} {v0 v1 v2 v3 v4 v5 v6 v7 v8 v9 v10 v11 v12 : Value} {win : Int} {p : Po} {F : Po → Nat → Bool → Prop} {u : World} (H : NF w h g v0 v1 v2 v3 v4 v5 v6 v7 v8 v9 v10 v11 v12 win p F u) (hw : Below w00.heap.size w00 w) (hgb : w00.heap.size ≤ g) : Below w00.heap.size w00 u := below_grown hw H.gr hgb

theorem isFb.put0 {w : World} {b : Nat} {n : Int} {s : Bool} (h : isFb w b n s) (n' : Int) : isFb (w.setCell ⟨b, 0, none⟩ (.int .i64 n')) b n' s := by
  unfold isFb at h ⊢; simp [World.setCell, Array.getElem?_modify, h]
theorem isFb.put1 {w : World} {b : Nat} {n : Int} {s : Bool} (h : isFb w b n s) (s' : Bool) : isFb (w.setCell ⟨b, 1, none⟩ (.bool s')) b n s' := by
  unfold isFb at h ⊢; simp [World.setCell, Array.getElem?_modify, h]
theorem NF.set {w : World} {h g : Nat} {v0 v1 v2 v3 v4 v5 v6 v7 v8 v9 v10 v11 v12 : Value} {win : Int} {p : Po} {F : Po → Nat → Bool → Prop} {u : World} {b k : Nat} {v : Value} (H : NF w h g v0 v1 v2 v3 v4 v5 v6 v7 v8 v9 v10 v11 v12 win p F u) (h1 : h ≠ b) (h2 : g ≠ b) (h3 : w.heap.size < b) : NF w h g v0 v1 v2 v3 v4 v5 v6 v7 v8 v9 v10 v11 v12 win p F (u.setCell ⟨b, k, none⟩ v) :=
  ⟨(Below.heap_setCell _ _ _ _ h1).trans H.hu, (Below.heap_setCell _ _ _ _ (by dsimp only; omega)).trans H.pb, H.kn.set h2, grow_set H.gr (by omega), H.ne, H.gl⟩

set_option maxHeartbeats 4000000 in
set_option maxRecDepth 100000 in
theorem need_quick {nx : Po → List Po} {wn turn : Po → Bool} (v0 v1 v2 v3 v4 v5 v6 v7 v8 v9 v10 v11 v12 : Value) (win : Int) (h g most : Nat) (p : Po) (F : Po → Nat → Bool → Prop) (q : Bool) (w : World) (hq : q = wn p) (hqm : q = true ∨ most = 0)
    (hne : h ≠ g) (hH : isHu w h g v0 v1 v2 v3 v4 v5 v6 v7 v8 v9 v10 v11 v12 win) (hK : knows w g 262144 F)
    (hW : ∀ u, w.grownBy u (some g) → Calls Tryz.prog 23 #[.agg #[v0, v1, v2, v3, v4, v5, v6, v7, v8, v9, v10, v11, v12, .int .i64 win], .agg #[.int .i64 p.W, .int .i64 p.H, .string p.C, .int .i64 p.T, .string p.A, .string p.B]] u fun e w' => e = .returned (.bool q) ∧ Below u.heap.size u w') :
    Calls Tryz.prog 12 #[.pointer (some ⟨h, 0, none⟩), .agg #[.int .i64 p.W, .int .i64 p.H, .string p.C, .int .i64 p.T, .string p.A, .string p.B], .int .i64 (most : Int)] w (NeedP nx wn turn p most g F w) := by
  obtain ⟨w1, hw1⟩ : ∃ w1, w1 = w.alloc (.cells #[.int .i64 p.W, .int .i64 p.H, .string p.C, .int .i64 p.T, .string p.A, .string p.B] 24 (0, 0)) := ⟨_, rfl⟩
  have hnf1 : NF w h g v0 v1 v2 v3 v4 v5 v6 v7 v8 v9 v10 v11 v12 win p F w1 := by
    have hg1 : w.grownBy w1 (some g) := by rw [hw1]; exact growA _ _ _
    exact ⟨hH.grown hg1 hne, by rw [hw1]; exact heap_alloc_new w _, hK.of_block (by rw [hw1]; exact Below.heap_alloc _ _ _ hK.lt), hg1, hne, hK.lt⟩
  have HNF1 := hide hnf1
  have HS : Hid (∀ u : World, NF w h g v0 v1 v2 v3 v4 v5 v6 v7 v8 v9 v10 v11 v12 win p F u → (u.cell? ⟨h, 0, none⟩ = some v0 ∧ u.cell? ⟨h, 1, none⟩ = some v1 ∧ u.cell? ⟨h, 2, none⟩ = some v2 ∧ u.cell? ⟨h, 3, none⟩ = some v3 ∧ u.cell? ⟨h, 4, none⟩ = some v4 ∧ u.cell? ⟨h, 5, none⟩ = some v5 ∧ u.cell? ⟨h, 6, none⟩ = some v6 ∧ u.cell? ⟨h, 7, none⟩ = some v7 ∧ u.cell? ⟨h, 8, none⟩ = some v8 ∧ u.cell? ⟨h, 9, none⟩ = some v9 ∧ u.cell? ⟨h, 10, none⟩ = some v10 ∧ u.cell? ⟨h, 11, none⟩ = some v11 ∧ u.cell? ⟨h, 12, none⟩ = some v12 ∧ u.cell? ⟨h, 13, none⟩ = some (.int .i64 win) ∧ u.cell? ⟨h, 14, none⟩ = some (.map (some g)) ∧ u.cell? ⟨w.heap.size, 0, none⟩ = some (.int .i64 p.W) ∧ u.cell? ⟨w.heap.size, 1, none⟩ = some (.int .i64 p.H) ∧ u.cell? ⟨w.heap.size, 2, none⟩ = some (.string p.C) ∧ u.cell? ⟨w.heap.size, 3, none⟩ = some (.int .i64 p.T) ∧ u.cell? ⟨w.heap.size, 4, none⟩ = some (.string p.A) ∧ u.cell? ⟨w.heap.size, 5, none⟩ = some (.string p.B))) := hide (fun u hu => hu.cells)
  have HD0 : Hid (NF w h g v0 v1 v2 v3 v4 v5 v6 v7 v8 v9 v10 v11 v12 win p F w1.drew) := hide (hnf1.step (Below.refl _ _).drew)
  have HWO := hide (hW w1.drew (unhide HD0).gr)
  have HW1 := hide hw1
  clear hw1 hnf1 hH hK hW
  cases q with
  | true =>
    have HE : Hid (NeedR nx wn turn p most 0) := hide (need_won hq.symm most)
    clear hq hqm
    go_enter Tryz.func12, Tryz.ntmps12
    go_upto_region 1 with fail
    rw [← unhide HW1]
    clear HW1
    go_region_held3 (fun u => u.cell? ⟨h, 0, none⟩ = some v0 ∧ u.cell? ⟨h, 1, none⟩ = some v1 ∧ u.cell? ⟨h, 2, none⟩ = some v2 ∧ u.cell? ⟨h, 3, none⟩ = some v3 ∧ u.cell? ⟨h, 4, none⟩ = some v4 ∧ u.cell? ⟨h, 5, none⟩ = some v5 ∧ u.cell? ⟨h, 6, none⟩ = some v6 ∧ u.cell? ⟨h, 7, none⟩ = some v7 ∧ u.cell? ⟨h, 8, none⟩ = some v8 ∧ u.cell? ⟨h, 9, none⟩ = some v9 ∧ u.cell? ⟨h, 10, none⟩ = some v10 ∧ u.cell? ⟨h, 11, none⟩ = some v11 ∧ u.cell? ⟨h, 12, none⟩ = some v12 ∧ u.cell? ⟨h, 13, none⟩ = some (.int .i64 win) ∧ u.cell? ⟨h, 14, none⟩ = some (.map (some g)) ∧ u.cell? ⟨w.heap.size, 0, none⟩ = some (.int .i64 p.W) ∧ u.cell? ⟨w.heap.size, 1, none⟩ = some (.int .i64 p.H) ∧ u.cell? ⟨w.heap.size, 2, none⟩ = some (.string p.C) ∧ u.cell? ⟨w.heap.size, 3, none⟩ = some (.int .i64 p.T) ∧ u.cell? ⟨w.heap.size, 4, none⟩ = some (.string p.A) ∧ u.cell? ⟨w.heap.size, 5, none⟩ = some (.string p.B))
      (first
        | with_reducible exact unhide HS _ (unhide HD0)
        | with_reducible exact unhide HS _ (unhide HX))
      (first
        | (go_at_call 23; (with_reducible refine (unhide HWO).mono ?_); rintro e wx ⟨rfl, hbx⟩
           have HX : Hid (NF w h g v0 v1 v2 v3 v4 v5 v6 v7 v8 v9 v10 v11 v12 win p F wx) := hide ((unhide HD0).step hbx)
           clear hbx))
    all_goals
      go_wp2
      go_ret
      exact ⟨0, rfl, unhide HE, by omega, (unhide HX).kn, (unhide HX).gr⟩
  | false =>
    have hm0 : most = 0 := by
      rcases hqm with h | h
      · exact absurd h (by simp)
      · exact h
    subst hm0
    have HE : Hid (NeedR nx wn turn p 0 1) := hide (need_not hq.symm)
    clear hq hqm
    go_enter Tryz.func12, Tryz.ntmps12
    go_upto_region 1 with fail
    rw [← unhide HW1]
    clear HW1
    go_region_held3 (fun u => u.cell? ⟨h, 0, none⟩ = some v0 ∧ u.cell? ⟨h, 1, none⟩ = some v1 ∧ u.cell? ⟨h, 2, none⟩ = some v2 ∧ u.cell? ⟨h, 3, none⟩ = some v3 ∧ u.cell? ⟨h, 4, none⟩ = some v4 ∧ u.cell? ⟨h, 5, none⟩ = some v5 ∧ u.cell? ⟨h, 6, none⟩ = some v6 ∧ u.cell? ⟨h, 7, none⟩ = some v7 ∧ u.cell? ⟨h, 8, none⟩ = some v8 ∧ u.cell? ⟨h, 9, none⟩ = some v9 ∧ u.cell? ⟨h, 10, none⟩ = some v10 ∧ u.cell? ⟨h, 11, none⟩ = some v11 ∧ u.cell? ⟨h, 12, none⟩ = some v12 ∧ u.cell? ⟨h, 13, none⟩ = some (.int .i64 win) ∧ u.cell? ⟨h, 14, none⟩ = some (.map (some g)) ∧ u.cell? ⟨w.heap.size, 0, none⟩ = some (.int .i64 p.W) ∧ u.cell? ⟨w.heap.size, 1, none⟩ = some (.int .i64 p.H) ∧ u.cell? ⟨w.heap.size, 2, none⟩ = some (.string p.C) ∧ u.cell? ⟨w.heap.size, 3, none⟩ = some (.int .i64 p.T) ∧ u.cell? ⟨w.heap.size, 4, none⟩ = some (.string p.A) ∧ u.cell? ⟨w.heap.size, 5, none⟩ = some (.string p.B))
      (first
        | with_reducible exact unhide HS _ (unhide HD0)
        | with_reducible exact unhide HS _ (unhide HX))
      (first
        | (go_at_call 23; (with_reducible refine (unhide HWO).mono ?_); rintro e wx ⟨rfl, hbx⟩
           have HX : Hid (NF w h g v0 v1 v2 v3 v4 v5 v6 v7 v8 v9 v10 v11 v12 win p F wx) := hide ((unhide HD0).step hbx)
           clear hbx))
    all_goals
      go_wp2
      go_ret
      exact ⟨1, rfl, unhide HE, by omega, (unhide HX).kn, (unhide HX).gr⟩

set_option maxHeartbeats 4000000 in
set_option maxRecDepth 100000 in
theorem need_look {nx : Po → List Po} {wn turn : Po → Bool} (L : List Mv) (v0 v1 v2 v3 v4 v5 v6 v7 v8 v9 v10 v11 v12 : Value) (win : Int) (h g most : Nat) (p : Po) (F : Po → Nat → Bool → Prop) (w : World) (hm1 : 1 ≤ most) (hm9 : most ≤ 9) (hpo : p.ok) (hwn : wn p = false) (hL0 : L = [] → nx p = [])
    (hFin : ∀ n s, F p n s → fndOK nx wn turn p n s) (hFout : ∀ n s, fndOK nx wn turn p n s → F p n s) (h00 : ∀ q : Po, q.ok → F q 0 false)
    (hne : h ≠ g) (hH : isHu w h g v0 v1 v2 v3 v4 v5 v6 v7 v8 v9 v10 v11 v12 win) (hK : knows w g 262144 F)
    (hW : ∀ u, w.grownBy u (some g) → Calls Tryz.prog 23 #[.agg #[v0, v1, v2, v3, v4, v5, v6, v7, v8, v9, v10, v11, v12, .int .i64 win], .agg #[.int .i64 p.W, .int .i64 p.H, .string p.C, .int .i64 p.T, .string p.A, .string p.B]] u fun e w' => e = .returned (.bool false) ∧ Below u.heap.size u w')
    (hMo : ∀ u, w.grownBy u (some g) → Calls Tryz.prog 24 #[.agg #[v0, v1, v2, v3, v4, v5, v6, v7, v8, v9, v10, v11, v12], .agg #[.int .i64 p.W, .int .i64 p.H, .string p.C, .int .i64 p.T, .string p.A, .string p.B]] u fun e w' => ∃ v, e = .returned (.tuple #[v, .int .i64 0]) ∧ w'.ownsRow u.heap.size 29 3 v L.length (mvals L) ∧ Below u.heap.size u w')
    (hOne : L ≠ [] → p.T = win → ∀ least : Nat, 1 ≤ least → least ≤ most → (∀ k, k < least → ownN nx wn turn k p = false) → ∀ mv u, w.grownBy u (some g) → isHu u h g v0 v1 v2 v3 v4 v5 v6 v7 v8 v9 v10 v11 v12 win → knows u g 262144 F → isMvs u mv L → Calls Tryz.prog 25 #[.pointer (some ⟨h, 0, none⟩), .agg #[.int .i64 p.W, .int .i64 p.H, .string p.C, .int .i64 p.T, .string p.A, .string p.B], mv, .int .i64 (least : Int), .int .i64 (most : Int)] u (FndP nx wn turn p most g F u))
    (hAll : L ≠ [] → p.T ≠ win → ∀ mv u, w.grownBy u (some g) → isHu u h g v0 v1 v2 v3 v4 v5 v6 v7 v8 v9 v10 v11 v12 win → knows u g 262144 F → isMvs u mv L → Calls Tryz.prog 26 #[.pointer (some ⟨h, 0, none⟩), .agg #[.int .i64 p.W, .int .i64 p.H, .string p.C, .int .i64 p.T, .string p.A, .string p.B], mv, .int .i64 (most : Int)] u (FndP nx wn turn p most g F u)) :
    Calls Tryz.prog 12 #[.pointer (some ⟨h, 0, none⟩), .agg #[.int .i64 p.W, .int .i64 p.H, .string p.C, .int .i64 p.T, .string p.A, .string p.B], .int .i64 (most : Int)] w (NeedP nx wn turn p most g F w) := by
  have hmz : ((most : Int) == 0) = false := by simp; omega
  obtain ⟨ln, hln⟩ : ∃ ln, ln = L.length := ⟨_, rfl⟩
  rw [← hln] at hMo
  have HLN := hide hln
  have HMO := hide hMo
  have HON := hide hOne
  have HAL := hide hAll
  have HFI := hide hFin
  have HFO := hide hFout
  have H00 := hide h00
  have wm1 : IntKind.i64.wrap ((most : Int) + 1) = (most : Int) + 1 := by unfold IntKind.wrap; simp [IntKind.signed, IntKind.bits]; omega
  clear hln hMo hOne hAll hFin hFout h00
  obtain ⟨w1, hw1⟩ : ∃ w1, w1 = w.alloc (.cells #[.int .i64 p.W, .int .i64 p.H, .string p.C, .int .i64 p.T, .string p.A, .string p.B] 24 (0, 0)) := ⟨_, rfl⟩
  have hnf1 : NF w h g v0 v1 v2 v3 v4 v5 v6 v7 v8 v9 v10 v11 v12 win p F w1 := by
    have hg1 : w.grownBy w1 (some g) := by rw [hw1]; exact growA _ _ _
    exact ⟨hH.grown hg1 hne, by rw [hw1]; exact heap_alloc_new w _, hK.of_block (by rw [hw1]; exact Below.heap_alloc _ _ _ hK.lt), hg1, hne, hK.lt⟩
  have HNF1 := hide hnf1
  have HS : Hid (∀ u : World, NF w h g v0 v1 v2 v3 v4 v5 v6 v7 v8 v9 v10 v11 v12 win p F u → (u.cell? ⟨h, 0, none⟩ = some v0 ∧ u.cell? ⟨h, 1, none⟩ = some v1 ∧ u.cell? ⟨h, 2, none⟩ = some v2 ∧ u.cell? ⟨h, 3, none⟩ = some v3 ∧ u.cell? ⟨h, 4, none⟩ = some v4 ∧ u.cell? ⟨h, 5, none⟩ = some v5 ∧ u.cell? ⟨h, 6, none⟩ = some v6 ∧ u.cell? ⟨h, 7, none⟩ = some v7 ∧ u.cell? ⟨h, 8, none⟩ = some v8 ∧ u.cell? ⟨h, 9, none⟩ = some v9 ∧ u.cell? ⟨h, 10, none⟩ = some v10 ∧ u.cell? ⟨h, 11, none⟩ = some v11 ∧ u.cell? ⟨h, 12, none⟩ = some v12 ∧ u.cell? ⟨h, 13, none⟩ = some (.int .i64 win) ∧ u.cell? ⟨h, 14, none⟩ = some (.map (some g)) ∧ u.cell? ⟨w.heap.size, 0, none⟩ = some (.int .i64 p.W) ∧ u.cell? ⟨w.heap.size, 1, none⟩ = some (.int .i64 p.H) ∧ u.cell? ⟨w.heap.size, 2, none⟩ = some (.string p.C) ∧ u.cell? ⟨w.heap.size, 3, none⟩ = some (.int .i64 p.T) ∧ u.cell? ⟨w.heap.size, 4, none⟩ = some (.string p.A) ∧ u.cell? ⟨w.heap.size, 5, none⟩ = some (.string p.B))) := hide (fun u hu => hu.cells)
  have HD0 : Hid (NF w h g v0 v1 v2 v3 v4 v5 v6 v7 v8 v9 v10 v11 v12 win p F w1.drew) := hide (hnf1.step (Below.refl _ _).drew)
  have HWO := hide (hW w1.drew (unhide HD0).gr)
  have HW1 := hide hw1
  clear hw1 hnf1 hH hK hW
  go_enter Tryz.func12, Tryz.ntmps12
  go_upto_region 1 with fail
  rw [← unhide HW1]
  clear HW1
  go_region_held3 (fun u => u.cell? ⟨h, 0, none⟩ = some v0 ∧ u.cell? ⟨h, 1, none⟩ = some v1 ∧ u.cell? ⟨h, 2, none⟩ = some v2 ∧ u.cell? ⟨h, 3, none⟩ = some v3 ∧ u.cell? ⟨h, 4, none⟩ = some v4 ∧ u.cell? ⟨h, 5, none⟩ = some v5 ∧ u.cell? ⟨h, 6, none⟩ = some v6 ∧ u.cell? ⟨h, 7, none⟩ = some v7 ∧ u.cell? ⟨h, 8, none⟩ = some v8 ∧ u.cell? ⟨h, 9, none⟩ = some v9 ∧ u.cell? ⟨h, 10, none⟩ = some v10 ∧ u.cell? ⟨h, 11, none⟩ = some v11 ∧ u.cell? ⟨h, 12, none⟩ = some v12 ∧ u.cell? ⟨h, 13, none⟩ = some (.int .i64 win) ∧ u.cell? ⟨h, 14, none⟩ = some (.map (some g)) ∧ u.cell? ⟨w.heap.size, 0, none⟩ = some (.int .i64 p.W) ∧ u.cell? ⟨w.heap.size, 1, none⟩ = some (.int .i64 p.H) ∧ u.cell? ⟨w.heap.size, 2, none⟩ = some (.string p.C) ∧ u.cell? ⟨w.heap.size, 3, none⟩ = some (.int .i64 p.T) ∧ u.cell? ⟨w.heap.size, 4, none⟩ = some (.string p.A) ∧ u.cell? ⟨w.heap.size, 5, none⟩ = some (.string p.B))
    (first
      | with_reducible exact unhide HS _ (unhide HD0)
      | with_reducible exact unhide HS _ (unhide HX))
    (first
      | (go_at_call 23; (with_reducible refine (unhide HWO).mono ?_); rintro e wx ⟨rfl, hbx⟩
         have HX : Hid (NF w h g v0 v1 v2 v3 v4 v5 v6 v7 v8 v9 v10 v11 v12 win p F wx) := hide ((unhide HD0).step hbx)
         clear hbx))
  all_goals
    obtain ⟨n, s, hF, hlook⟩ := (unhide HX).kn.look_all hpo
    have HLK : Hid (∀ u : World, u.heap[g]? = wx.heap[g]? → NF w h g v0 v1 v2 v3 v4 v5 v6 v7 v8 v9 v10 v11 v12 win p F u → (u.cell? ⟨h, 0, none⟩ = some v0 ∧ u.cell? ⟨h, 1, none⟩ = some v1 ∧ u.cell? ⟨h, 2, none⟩ = some v2 ∧ u.cell? ⟨h, 3, none⟩ = some v3 ∧ u.cell? ⟨h, 4, none⟩ = some v4 ∧ u.cell? ⟨h, 5, none⟩ = some v5 ∧ u.cell? ⟨h, 6, none⟩ = some v6 ∧ u.cell? ⟨h, 7, none⟩ = some v7 ∧ u.cell? ⟨h, 8, none⟩ = some v8 ∧ u.cell? ⟨h, 9, none⟩ = some v9 ∧ u.cell? ⟨h, 10, none⟩ = some v10 ∧ u.cell? ⟨h, 11, none⟩ = some v11 ∧ u.cell? ⟨h, 12, none⟩ = some v12 ∧ u.cell? ⟨h, 13, none⟩ = some (.int .i64 win) ∧ u.cell? ⟨h, 14, none⟩ = some (.map (some g)) ∧ u.cell? ⟨w.heap.size, 0, none⟩ = some (.int .i64 p.W) ∧ u.cell? ⟨w.heap.size, 1, none⟩ = some (.int .i64 p.H) ∧ u.cell? ⟨w.heap.size, 2, none⟩ = some (.string p.C) ∧ u.cell? ⟨w.heap.size, 3, none⟩ = some (.int .i64 p.T) ∧ u.cell? ⟨w.heap.size, 4, none⟩ = some (.string p.A) ∧ u.cell? ⟨w.heap.size, 5, none⟩ = some (.string p.B) ∧ (Instr.lookup 60 (.map (some g)) (.agg #[.int .i64 p.W, .int .i64 p.H, .string p.C, .int .i64 p.T, .string p.A, .string p.B]) false).run Tryz.prog u = .ok (.agg #[.int .i64 (n : Int), .bool s]) u)) := hide (fun u hu1 hu => by
      obtain ⟨y0, y1, y2, y3, y4, y5, y6, y7, y8, y9, y10, y11, y12, y13, y14, z0, z1, z2, z3, z4, z5⟩ := hu.cells
      exact ⟨y0, y1, y2, y3, y4, y5, y6, y7, y8, y9, y10, y11, y12, y13, y14, z0, z1, z2, z3, z4, z5, hlook u hu1⟩)
    have HXD : Hid (NF w h g v0 v1 v2 v3 v4 v5 v6 v7 v8 v9 v10 v11 v12 win p F wx.drew) := hide ((unhide HX).step (Below.refl _ _).drew)
    have HF := hide hF
    have hgx := (unhide HX).kn.lt
    have HXA : Hid (((wx.alloc (.cells #[.int .i64 0, .bool false] 64 (0, 0))).drew).heap[g]? = wx.heap[g]? ∧ NF w h g v0 v1 v2 v3 v4 v5 v6 v7 v8 v9 v10 v11 v12 win p F (wx.alloc (.cells #[.int .i64 0, .bool false] 64 (0, 0))).drew) := hide ⟨Below.heap_alloc _ _ _ hgx, ((unhide HX).step ((Below.refl _ _).alloc (Nat.le_refl _) _)).step (Below.refl _ _).drew⟩
    obtain ⟨w5, hw5⟩ : ∃ w5 : World, w5 = (wx.alloc (.cells #[.int .i64 (n : Int), .bool s] 64 (0, 0))).drew := ⟨_, rfl⟩
    have hb5 : Below wx.heap.size wx w5 := by rw [hw5]; exact ((Below.refl _ _).alloc (Nat.le_refl _) _).drew
    have HX5 : Hid (w5.heap[g]? = wx.heap[g]? ∧ NF w h g v0 v1 v2 v3 v4 v5 v6 v7 v8 v9 v10 v11 v12 win p F w5) := hide ⟨hb5.block g hgx, (unhide HX).step hb5⟩
    have HFB5 : Hid (isFb w5 wx.heap.size (n : Int) s) := hide (by rw [hw5]; exact heap_alloc_new wx _)
    have HW5 := hide hw5
    clear hF hlook hw5 hb5
  all_goals
    go_upto_region 5 with fail
    go_region_held3 (fun u => u.cell? ⟨h, 0, none⟩ = some v0 ∧ u.cell? ⟨h, 1, none⟩ = some v1 ∧ u.cell? ⟨h, 2, none⟩ = some v2 ∧ u.cell? ⟨h, 3, none⟩ = some v3 ∧ u.cell? ⟨h, 4, none⟩ = some v4 ∧ u.cell? ⟨h, 5, none⟩ = some v5 ∧ u.cell? ⟨h, 6, none⟩ = some v6 ∧ u.cell? ⟨h, 7, none⟩ = some v7 ∧ u.cell? ⟨h, 8, none⟩ = some v8 ∧ u.cell? ⟨h, 9, none⟩ = some v9 ∧ u.cell? ⟨h, 10, none⟩ = some v10 ∧ u.cell? ⟨h, 11, none⟩ = some v11 ∧ u.cell? ⟨h, 12, none⟩ = some v12 ∧ u.cell? ⟨h, 13, none⟩ = some (.int .i64 win) ∧ u.cell? ⟨h, 14, none⟩ = some (.map (some g)) ∧ u.cell? ⟨w.heap.size, 0, none⟩ = some (.int .i64 p.W) ∧ u.cell? ⟨w.heap.size, 1, none⟩ = some (.int .i64 p.H) ∧ u.cell? ⟨w.heap.size, 2, none⟩ = some (.string p.C) ∧ u.cell? ⟨w.heap.size, 3, none⟩ = some (.int .i64 p.T) ∧ u.cell? ⟨w.heap.size, 4, none⟩ = some (.string p.A) ∧ u.cell? ⟨w.heap.size, 5, none⟩ = some (.string p.B) ∧ (Instr.lookup 60 (.map (some g)) (.agg #[.int .i64 p.W, .int .i64 p.H, .string p.C, .int .i64 p.T, .string p.A, .string p.B]) false).run Tryz.prog u = .ok (.agg #[.int .i64 (n : Int), .bool s]) u)
      (first
        | with_reducible exact unhide HLK _ rfl (unhide HXD)
        | with_reducible exact unhide HLK _ (unhide HXA).1 (unhide HXA).2
        | (rw [← unhide HW5]; with_reducible exact unhide HLK _ (unhide HX5).1 (unhide HX5).2))
      (fail)
    all_goals
      rw [← unhide HW5]
      obtain ⟨hn9, hfs, hfn⟩ := unhide HFI n s (unhide HF)
      have HNF5 := hide (unhide HX5).2
      have HFD := hide (unhide HFI n s (unhide HF))
      obtain ⟨f0, f1⟩ := (unhide HFB5).all
      clear HW5 HXA HXD HLK HX5 HF hfs hfn
      cases s with
      | true =>
        have HE : Hid (NeedR nx wn turn p most n) := hide (need_known (unhide HFD) (.inl rfl))
        go_wp2
        go_ret
        exact ⟨n, rfl, unhide HE, hn9, (unhide HNF5).kn, (unhide HNF5).gr⟩
      | false =>
        by_cases hnm : most < n
        · have hnmi : (most : Int) < (n : Int) := by omega
          have HE : Hid (NeedR nx wn turn p most n) := hide (need_known (unhide HFD) (.inr hnm))
          go_wp2
          go_ret
          exact ⟨n, rfl, unhide HE, hn9, (unhide HNF5).kn, (unhide HNF5).gr⟩
        · have hnmi : ¬ (most : Int) < (n : Int) := by omega
          have HD5 : Hid (NF w h g v0 v1 v2 v3 v4 v5 v6 v7 v8 v9 v10 v11 v12 win p F w5.drew) := hide ((unhide HNF5).step (Below.refl _ _).drew)
          have HM1 := hide (unhide HMO w5.drew (unhide HD5).gr)
          go_upto_region 8 with fail
          go_region_held3 (fun u => u.cell? ⟨h, 0, none⟩ = some v0 ∧ u.cell? ⟨h, 1, none⟩ = some v1 ∧ u.cell? ⟨h, 2, none⟩ = some v2 ∧ u.cell? ⟨h, 3, none⟩ = some v3 ∧ u.cell? ⟨h, 4, none⟩ = some v4 ∧ u.cell? ⟨h, 5, none⟩ = some v5 ∧ u.cell? ⟨h, 6, none⟩ = some v6 ∧ u.cell? ⟨h, 7, none⟩ = some v7 ∧ u.cell? ⟨h, 8, none⟩ = some v8 ∧ u.cell? ⟨h, 9, none⟩ = some v9 ∧ u.cell? ⟨h, 10, none⟩ = some v10 ∧ u.cell? ⟨h, 11, none⟩ = some v11 ∧ u.cell? ⟨h, 12, none⟩ = some v12 ∧ u.cell? ⟨h, 13, none⟩ = some (.int .i64 win) ∧ u.cell? ⟨h, 14, none⟩ = some (.map (some g)) ∧ u.cell? ⟨w.heap.size, 0, none⟩ = some (.int .i64 p.W) ∧ u.cell? ⟨w.heap.size, 1, none⟩ = some (.int .i64 p.H) ∧ u.cell? ⟨w.heap.size, 2, none⟩ = some (.string p.C) ∧ u.cell? ⟨w.heap.size, 3, none⟩ = some (.int .i64 p.T) ∧ u.cell? ⟨w.heap.size, 4, none⟩ = some (.string p.A) ∧ u.cell? ⟨w.heap.size, 5, none⟩ = some (.string p.B))
            (first
              | with_reducible exact unhide HS _ (unhide HD5)
              | with_reducible exact unhide HS _ (unhide HY))
            (first
              | (go_at_call 24; (with_reducible refine (unhide HM1).mono ?_); rintro e wy ⟨v, rfl, hown, hby⟩
                 obtain ⟨lo1, lc1, rfl⟩ := row_len hown
                 have HL5 : Hid (isMvs wy (.slice lo1 ln lc1) L) := hide (isMvs.of (by rw [← unhide HLN]; exact hown))
                 have HY : Hid (NF w h g v0 v1 v2 v3 v4 v5 v6 v7 v8 v9 v10 v11 v12 win p F wy) := hide ((unhide HD5).step hby)
                 have HFY : Hid (isFb wy wx.heap.size (n : Int) false) := hide ((unhide HFB5).grown (growT (growD w5 (some g)) (growB hby _)) (by have := (unhide HX).kn.lt; omega))
                 clear hown hby))
          all_goals
            by_cases hL : L = []
            · have hk0 : ((ln : Int) == 0) = true := by rw [unhide HLN, hL]; rfl
              have HE : Hid (NeedR nx wn turn p most (most + 1)) := hide (need_stuck (hL0 hL) hwn most)
              clear hL
              go_wp2
              go_ret
              exact ⟨most + 1, rfl, unhide HE, by omega, (unhide HY).kn, (unhide HY).gr⟩
            · have hk0 : ((ln : Int) == 0) = false := by
                rw [unhide HLN]
                cases L with
                | nil => exact absurd rfl hL
                | cons a r => simp; omega
              have HYD : Hid (NF w h g v0 v1 v2 v3 v4 v5 v6 v7 v8 v9 v10 v11 v12 win p F wy.drew) := hide ((unhide HY).step (Below.refl _ _).drew)
              have HFYD : Hid (isFb wy.drew wx.heap.size (n : Int) false) := HFY
              have hgl := (unhide HYD).gl
              have hhl := (unhide HX).hu.lt
              have hgx := (unhide HX).kn.lt
              have hsx : w.heap.size < wx.heap.size := (unhide HX).pb.lt
              obtain ⟨-, -, -, -, -, -, -, -, -, -, -, -, -, -, -, p0, p1, p2, p3, p4, p5⟩ := (unhide HYD).cells
              clear f0 f1
              obtain ⟨f0, f1⟩ := (unhide HFYD).all
              by_cases hT : p.T = win
              · have hTb : (p.T == win) = true := by simp [hT]
                obtain ⟨lst, hlst⟩ : ∃ lst, lst = max 1 n := ⟨_, rfl⟩
                have hmax : max (1 : Int) (n : Int) = (lst : Int) := by omega
                have HO1 := hide (unhide HON hL hT lst (by omega) (by omega) (by rw [hlst]; exact low_start hwn (unhide HFD) rfl) (.slice lo1 ln lc1) wy.drew (unhide HYD).gr (unhide HYD).hu (unhide HYD).kn ((unhide HL5).below (Below.refl _ _).drew))
                clear hT hL hlst
                go_upto_region 12 with fail
                go_region_held3 (fun u => u.cell? ⟨h, 0, none⟩ = some v0 ∧ u.cell? ⟨h, 1, none⟩ = some v1 ∧ u.cell? ⟨h, 2, none⟩ = some v2 ∧ u.cell? ⟨h, 3, none⟩ = some v3 ∧ u.cell? ⟨h, 4, none⟩ = some v4 ∧ u.cell? ⟨h, 5, none⟩ = some v5 ∧ u.cell? ⟨h, 6, none⟩ = some v6 ∧ u.cell? ⟨h, 7, none⟩ = some v7 ∧ u.cell? ⟨h, 8, none⟩ = some v8 ∧ u.cell? ⟨h, 9, none⟩ = some v9 ∧ u.cell? ⟨h, 10, none⟩ = some v10 ∧ u.cell? ⟨h, 11, none⟩ = some v11 ∧ u.cell? ⟨h, 12, none⟩ = some v12 ∧ u.cell? ⟨h, 13, none⟩ = some (.int .i64 win) ∧ u.cell? ⟨h, 14, none⟩ = some (.map (some g)) ∧ u.cell? ⟨w.heap.size, 0, none⟩ = some (.int .i64 p.W) ∧ u.cell? ⟨w.heap.size, 1, none⟩ = some (.int .i64 p.H) ∧ u.cell? ⟨w.heap.size, 2, none⟩ = some (.string p.C) ∧ u.cell? ⟨w.heap.size, 3, none⟩ = some (.int .i64 p.T) ∧ u.cell? ⟨w.heap.size, 4, none⟩ = some (.string p.A) ∧ u.cell? ⟨w.heap.size, 5, none⟩ = some (.string p.B))
                  (first
                    | with_reducible exact unhide HS _ (unhide HYD))
                  (fail)
                all_goals
                  go_wp2_with fail
                  refine (unhide HO1).mono ?_
                  rintro e wz ⟨n2, s2, rfl, hfo, hnr, hkz, hgz⟩
                  have hnfz := (unhide HYD).grown hgz hkz
                  have hfbz := (unhide HFYD).grown hgz (by omega)
                  have fz0 := hfbz.frozen 0
                  have fz1 := hfbz.frozen 1
                  obtain ⟨w6, hw6⟩ : ∃ w6, w6 = (wz.setCell ⟨wx.heap.size, 0, none⟩ (.int .i64 (n2 : Int))).setCell ⟨wx.heap.size, 1, none⟩ (.bool s2) := ⟨_, rfl⟩
                  have hfb6 : isFb w6 wx.heap.size (n2 : Int) s2 := by rw [hw6]; exact (hfbz.put0 _).put1 _
                  have hnf6 : NF w h g v0 v1 v2 v3 v4 v5 v6 v7 v8 v9 v10 v11 v12 win p F w6 := by rw [hw6]; exact (hnfz.set (by omega) (by omega) (by omega)).set (by omega) (by omega) (by omega)
                  have HKE := hide (keep_any v0 v1 v2 v3 v4 v5 v6 v7 v8 v9 v10 v11 v12 win h g p n2 s2 F w6 hnf6.hu hnf6.kn hne (unhide H00) hpo (unhide HFO n2 s2 hfo))
                  have HNF6 := hide hnf6
                  have HFB6 := hide hfb6
                  have HFIN := hide (And.intro hfo.1 hnr)
                  obtain ⟨-, -, -, -, -, -, -, -, -, -, -, -, -, -, -, z0, z1, z2, z3, z4, z5⟩ := hnf6.cells
                  obtain ⟨q0, q1⟩ := hfb6.all
                  obtain ⟨b0, b1⟩ := hfbz.all
                  rw [hw6] at z0 z1 z2 z3 z4 z5 q0 q1
                  have HW6 := hide hw6
                  clear hw6 hfb6 hnf6 hfbz hnfz hfo hnr hkz hgz p0 p1 p2 p3 p4 p5 f0 f1
                  go_wp2_with fail
                  rw [← unhide HW6]
                  refine (unhide HKE).mono ?_
                  rintro e w7 ⟨rfl, hk7, hg7⟩
                  obtain ⟨a0, a1⟩ := ((unhide HFB6).grown hg7 (by omega)).all
                  have HG7 := hide (growT (unhide HNF6).gr hg7)
                  have HK7 := hide hk7
                  clear hk7 hg7 z0 z1 z2 z3 z4 z5 q0 q1 b0 b1 HW6
                  go_wp2
                  go_ret
                  exact ⟨n2, rfl, (unhide HFIN).2, (unhide HFIN).1, unhide HK7, unhide HG7⟩
              · have hTb : (p.T == win) = false := by simp [hT]
                have HO1 := hide (unhide HAL hL hT (.slice lo1 ln lc1) wy.drew (unhide HYD).gr (unhide HYD).hu (unhide HYD).kn ((unhide HL5).below (Below.refl _ _).drew))
                clear hT hL
                go_upto_region 12 with fail
                go_region_held3 (fun u => u.cell? ⟨h, 0, none⟩ = some v0 ∧ u.cell? ⟨h, 1, none⟩ = some v1 ∧ u.cell? ⟨h, 2, none⟩ = some v2 ∧ u.cell? ⟨h, 3, none⟩ = some v3 ∧ u.cell? ⟨h, 4, none⟩ = some v4 ∧ u.cell? ⟨h, 5, none⟩ = some v5 ∧ u.cell? ⟨h, 6, none⟩ = some v6 ∧ u.cell? ⟨h, 7, none⟩ = some v7 ∧ u.cell? ⟨h, 8, none⟩ = some v8 ∧ u.cell? ⟨h, 9, none⟩ = some v9 ∧ u.cell? ⟨h, 10, none⟩ = some v10 ∧ u.cell? ⟨h, 11, none⟩ = some v11 ∧ u.cell? ⟨h, 12, none⟩ = some v12 ∧ u.cell? ⟨h, 13, none⟩ = some (.int .i64 win) ∧ u.cell? ⟨h, 14, none⟩ = some (.map (some g)) ∧ u.cell? ⟨w.heap.size, 0, none⟩ = some (.int .i64 p.W) ∧ u.cell? ⟨w.heap.size, 1, none⟩ = some (.int .i64 p.H) ∧ u.cell? ⟨w.heap.size, 2, none⟩ = some (.string p.C) ∧ u.cell? ⟨w.heap.size, 3, none⟩ = some (.int .i64 p.T) ∧ u.cell? ⟨w.heap.size, 4, none⟩ = some (.string p.A) ∧ u.cell? ⟨w.heap.size, 5, none⟩ = some (.string p.B))
                  (first
                    | with_reducible exact unhide HS _ (unhide HYD))
                  (fail)
                all_goals
                  go_wp2_with fail
                  refine (unhide HO1).mono ?_
                  rintro e wz ⟨n2, s2, rfl, hfo, hnr, hkz, hgz⟩
                  have hnfz := (unhide HYD).grown hgz hkz
                  have hfbz := (unhide HFYD).grown hgz (by omega)
                  have fz0 := hfbz.frozen 0
                  have fz1 := hfbz.frozen 1
                  obtain ⟨w6, hw6⟩ : ∃ w6, w6 = (wz.setCell ⟨wx.heap.size, 0, none⟩ (.int .i64 (n2 : Int))).setCell ⟨wx.heap.size, 1, none⟩ (.bool s2) := ⟨_, rfl⟩
                  have hfb6 : isFb w6 wx.heap.size (n2 : Int) s2 := by rw [hw6]; exact (hfbz.put0 _).put1 _
                  have hnf6 : NF w h g v0 v1 v2 v3 v4 v5 v6 v7 v8 v9 v10 v11 v12 win p F w6 := by rw [hw6]; exact (hnfz.set (by omega) (by omega) (by omega)).set (by omega) (by omega) (by omega)
                  have HKE := hide (keep_any v0 v1 v2 v3 v4 v5 v6 v7 v8 v9 v10 v11 v12 win h g p n2 s2 F w6 hnf6.hu hnf6.kn hne (unhide H00) hpo (unhide HFO n2 s2 hfo))
                  have HNF6 := hide hnf6
                  have HFB6 := hide hfb6
                  have HFIN := hide (And.intro hfo.1 hnr)
                  obtain ⟨-, -, -, -, -, -, -, -, -, -, -, -, -, -, -, z0, z1, z2, z3, z4, z5⟩ := hnf6.cells
                  obtain ⟨q0, q1⟩ := hfb6.all
                  obtain ⟨b0, b1⟩ := hfbz.all
                  rw [hw6] at z0 z1 z2 z3 z4 z5 q0 q1
                  have HW6 := hide hw6
                  clear hw6 hfb6 hnf6 hfbz hnfz hfo hnr hkz hgz p0 p1 p2 p3 p4 p5 f0 f1
                  go_wp2_with fail
                  rw [← unhide HW6]
                  refine (unhide HKE).mono ?_
                  rintro e w7 ⟨rfl, hk7, hg7⟩
                  obtain ⟨a0, a1⟩ := ((unhide HFB6).grown hg7 (by omega)).all
                  have HG7 := hide (growT (unhide HNF6).gr hg7)
                  have HK7 := hide hk7
                  clear hk7 hg7 z0 z1 z2 z3 z4 z5 q0 q1 b0 b1 HW6
                  go_wp2
                  go_ret
                  exact ⟨n2, rfl, (unhide HFIN).2, (unhide HFIN).1, unhide HK7, unhide HG7⟩
end Go.Proofs.YtlogengkhlmcbaaGreatDoor
