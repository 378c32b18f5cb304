/-
  package house, walked: Take, Save.
  gameref's house, walked: Take.
-/
import Derived.Test.YtihojhfpepbjhaaGreatDoorHo7
import Derived.Test.YtihojhfpepbjhaaGreatDoorJ0
import Derived.Test.YtihojhfpepbjhaaGreatDoorHoF
namespace Go.Proofs.YtihojhfpepbjhaaGreatDoor
open Go.RowKit
attribute [local go_sem ↓] Go.wp_at_zero Go.wp_at_succ

theorem block_ltH {w : World} {b : Nat} {o : Obj} (h : w.heap[b]? = some o) : b < w.heap.size := (Array.getElem?_eq_some_iff.1 h).1
/-- What Take answers. -/
def Gm.reply (G : Gm) (TX : Po → ByteArray) (r : Ho × Int) : Value := .agg #[.int .i64 r.2, .int .i64 r.1.ply, .int .i64 (G.ended r.1), .string (TX r.1.p)]
set_option maxHeartbeats 4000000 in
set_option maxRecDepth 100000 in
theorem hTake_any (G : Gm) (ok : Po → Prop) (hG : G.Ok ok) (TX : Po → ByteArray) (b S : Nat) (v0 v1 v2 v3 v4 v5 v6 v7 v8 v9 v10 v11 : Value) (w00 w : World) (hc : Hc G ok TX S w00 v0 v1 v2 v3 v4 v5 v6 v7 v8 v9 v10 v11) (x : Ho) (m : Ms) (hx : HoI G ok x) (hma : m.at_ < 9223372036854775808) (h : isHo w b v0 v1 v2 v3 v4 v5 v6 v7 v8 v9 v10 v11 (.int .i64 G.pl) x (G.ended x)) (hS : S ≤ b) (h00 : Below S w00 w) :
    Calls Tryz.prog 11 #[.pointer (some ⟨b, 0, none⟩), .agg #[.int .i64 m.seat, .int .i64 m.ply, .string m.mv, .int .i64 m.at_]] w fun e w' => e = .returned (G.reply TX (G.step x m)) ∧ isHo w' b v0 v1 v2 v3 v4 v5 v6 v7 v8 v9 v10 v11 (.int .i64 G.pl) (G.step x m).1 (G.ended (G.step x m).1) ∧ Ex b w.heap.size w w' := by
  have hbl := isH.lt h
  obtain ⟨w1, hw1⟩ : ∃ w1, w1 = w.alloc (.cells #[.int .i64 m.seat, .int .i64 m.ply, .string m.mv, .int .i64 m.at_] 43 (0, 0)) := ⟨_, rfl⟩
  obtain ⟨w2, hw2⟩ : ∃ w2, w2 = w1.alloc (.cells #[.int .i64 0, .int .i64 0, .int .i64 0, .string ⟨#[]⟩] 40 (0, 0)) := ⟨_, rfl⟩
  have hb1 : Below w.heap.size w w1 := by rw [hw1]; exact (Below.refl _ _).alloc (Nat.le_refl _) _
  have hb2 : Below w1.heap.size w1 w2 := by rw [hw2]; exact (Below.refl _ _).alloc (Nat.le_refl _) _
  have s1 : w1.heap.size = w.heap.size + 1 := by rw [hw1]; simp
  have h2 : isHo w2 b v0 v1 v2 v3 v4 v5 v6 v7 v8 v9 v10 v11 (.int .i64 G.pl) x (G.ended x) := isH.below (isH.below h hb1 hbl) hb2 (by omega)
  have hg2 : isG w2 w.heap.size m := isG.below (by rw [hw1]; exact isG.new w m) hb2 (by omega)
  have hb02 : Below w.heap.size w w2 := hb1.trans (hb2.mono (by omega))
  have hr2 : w2.heap[w.heap.size + 1]? = some (.cells #[.int .i64 0, .int .i64 0, .int .i64 0, .string ⟨#[]⟩] 40 (0, 0)) := by rw [hw2, ← s1]; exact heap_alloc_new w1 _
  have h02 : Below S w00 w2 := h00.trans (hb02.mono (by omega))
  have hpl := hG.pl.1
  have hTk := hTk_any G ok hG TX b S v0 v1 v2 v3 v4 v5 v6 v7 v8 v9 v10 v11 w00 w2 hc x m hx hma h2 hS h02
  have hstI := hx.step hG hma
  have hWr := hc.W _ hstI.p
  obtain ⟨R, hR⟩ : ∃ R, R = G.step x m := ⟨_, rfl⟩
  rw [← hR] at hTk hstI hWr ⊢
  have HTK := hide hTk
  have HWR := hide hWr
  have H2 := hide h2
  have HB02 := hide hb02
  have HR2 := hide hr2
  have HW := hide (And.intro hw1 hw2)
  have HPL := hide hpl
  have HBL := hide hbl
  obtain ⟨g0, g1, g2, g3⟩ := hg2.cells
  clear hTk hWr hR h2 hg2 hb02 hr2 hw1 hw2 hb1 hb2 s1 h02 hc hG h00 h hx hstI hpl
  go_enter Tryz.func11, Tryz.ntmps11
  go_upto_region 1 with fail
  rw [← (unhide HW).1, ← (unhide HW).2]
  clear HW
  go_wp2_with fail
  refine (hasGame_any b v0 v1 v2 v3 v4 v5 v6 v7 v8 v9 v10 v11 G.pl x _ w2 (unhide H2) (by have := unhide HPL; omega)).mono ?_
  rintro e u ⟨rfl, hu⟩
  rw [hu]
  clear hu
  go_wp2_with fail
  refine (unhide HTK).mono ?_
  rintro e w3 ⟨rfl, h3, hx3⟩
  have hr3 : w3.heap[w.heap.size + 1]? = _ := (hx3.block (w.heap.size + 1) (block_ltH (unhide HR2)) (by have := unhide HBL; omega)).trans (unhide HR2)
  have hx03 : Ex b w.heap.size w w3 := (Ex.of (unhide HB02)).trans (hx3.mono (unhide HB02).size)
  have H3 := hide h3
  have HR3 := hide hr3
  have HX03 := hide hx03
  have q := (isH.cells h3).2.2.1
  obtain ⟨p0, p1, p2, p3, p4, p5⟩ := q
  clear h3 hx3 hr3 hx03 H2 HR2 HB02 HTK g0 g1 g2 g3
  go_wp2_with fail
  refine (unhide HWR w3).mono ?_
  rintro e w4 ⟨rfl, hb4⟩
  have h4 := isH.below (unhide H3) hb4 (isH.lt (unhide H3))
  have hr4 := (hb4.block _ (block_ltH (unhide HR3))).trans (unhide HR3)
  have HX04 := hide ((unhide HX03).more hb4 (unhide HX03).size)
  have H4 := hide h4
  have HR4 := hide hr4
  obtain ⟨-, -, -, hy, ho, -⟩ := isH.cells h4
  have z0 := frozen_of_row w4 (w.heap.size + 1) 0 _ _ hr4
  have z1 := frozen_of_row w4 (w.heap.size + 1) 1 _ _ hr4
  have z2 := frozen_of_row w4 (w.heap.size + 1) 2 _ _ hr4
  have z3 := frozen_of_row w4 (w.heap.size + 1) 3 _ _ hr4
  have c0 : w4.cell? ⟨w.heap.size + 1, 0, none⟩ = some (.int .i64 0) := by unfold World.cell?; rw [hr4]; rfl
  have c1 : w4.cell? ⟨w.heap.size + 1, 1, none⟩ = some (.int .i64 0) := by unfold World.cell?; rw [hr4]; rfl
  have c2 : w4.cell? ⟨w.heap.size + 1, 2, none⟩ = some (.int .i64 0) := by unfold World.cell?; rw [hr4]; rfl
  have c3 : w4.cell? ⟨w.heap.size + 1, 3, none⟩ = some (.string ⟨#[]⟩) := by unfold World.cell?; rw [hr4]; rfl
  clear h4 hr4 hb4 H3 HR3 HX03 HWR p0 p1 p2 p3 p4 p5
  go_wp2_with fail
  go_region
  have hfin : ∀ (a b' c : Int) (t : ByteArray), ∃ w5, w5 = ((((w4.setCell ⟨w.heap.size + 1, 0, none⟩ (.int .i64 a)).setCell ⟨w.heap.size + 1, 1, none⟩ (.int .i64 b')).setCell ⟨w.heap.size + 1, 2, none⟩ (.int .i64 c)).setCell ⟨w.heap.size + 1, 3, none⟩ (.string t)).drew ∧
      isHo w5 b v0 v1 v2 v3 v4 v5 v6 v7 v8 v9 v10 v11 (.int .i64 G.pl) R.1 (G.ended R.1) ∧ Ex b w.heap.size w w5 ∧ w5.cell? ⟨w.heap.size + 1, 0, none⟩ = some (.int .i64 a) ∧ w5.cell? ⟨w.heap.size + 1, 1, none⟩ = some (.int .i64 b') ∧ w5.cell? ⟨w.heap.size + 1, 2, none⟩ = some (.int .i64 c) ∧ w5.cell? ⟨w.heap.size + 1, 3, none⟩ = some (.string t) := fun a b' c t => by
    have h4 := unhide H4
    have hr4 := unhide HR4
    have hx4 := unhide HX04
    refine ⟨_, rfl, ?_, ?_, ?_⟩
    · refine isH.of_block h4 ?_
      have := unhide HBL
      exact ((((Ex.refl (w.heap.size + 1) (b + 1) w4).set 0 (.int .i64 a)).set 1 (.int .i64 b')).set 2 (.int .i64 c)).set 3 (.string t) |>.block b (by omega) (by omega)
    · exact ((((hx4.far _ 0 _ (by omega)).far _ 1 _ (by omega)).far _ 2 _ (by omega)).far _ 3 _ (by omega)).drew
    · simp [World.cell?, World.setCell, World.drew, Array.getElem?_modify, hr4]
  obtain ⟨w5, hw5, h5, hx5, k0, k1, k2, k3⟩ := hfin R.2 R.1.ply (G.ended R.1) (TX R.1.p)
  rw [← hw5]
  have H5 := hide h5
  have HX5 := hide hx5
  clear hfin hw5 h5 hx5 H4 HR4 HX04 z0 z1 z2 z3 c0 c1 c2 c3 hy ho
  go_wp2
  exact bodyPost_ret (v := .agg #[.int .i64 R.2, .int .i64 R.1.ply, .int .i64 (G.ended R.1), .string (TX R.1.p)]) (by simp [results, Tryz.results11, go_sem, k0, k1, k2, k3]) rfl ⟨rfl, unhide H5, unhide HX5⟩
set_option maxHeartbeats 4000000 in
set_option maxRecDepth 100000 in
theorem hSave_any (G : Gm) (b : Nat) (v0 v1 v2 v3 v4 v5 v6 v7 v8 v9 v10 v11 : Value) (w : World) (x : Ho) (o : Int) (h : isHo w b v0 v1 v2 v3 v4 v5 v6 v7 v8 v9 v10 v11 (.int .i64 G.pl) x o) (hpl : 0 < G.pl) (ht : x.tx.size ≤ 100000) :
    Calls Tryz.prog 10 #[.pointer (some ⟨b, 0, none⟩)] w fun e w' => e = .returned (.string x.tx) ∧ Below w.heap.size w w' := by
  have HCL := hide (Clone_any x.tx w (by unfold maxLen; omega) (by omega))
  have hT := (isH.cells h).2.2.2.2.2
  have H := hide h
  clear h
  go_enter Tryz.func10, Tryz.ntmps10
  go_wp2_with fail
  refine (hasGame_any b v0 v1 v2 v3 v4 v5 v6 v7 v8 v9 v10 v11 G.pl x _ w (unhide H) hpl).mono ?_
  rintro e u ⟨rfl, hu⟩
  rw [hu]
  clear hu
  go_wp2_with fail
  refine (unhide HCL).mono ?_
  rintro e w2 ⟨rfl, hb⟩
  have HB := hide hb
  clear hb hT H
  go_wp2
  go_ret
  exact ⟨rfl, unhide HB⟩
end Go.Proofs.YtihojhfpepbjhaaGreatDoor

namespace Go.Proofs.YtihojhfpepbjhaaGreatDoor
open Go.RowKit
attribute [local go_sem ↓] Go.wp_at_zero Go.wp_at_succ

theorem entREnded : ∀ args (u : World), (callFunc 39 args).run Tryz.prog u = .ok (.enter 39 args) u := enters_of Tryz.func39 (by kernel_rfl) rfl
theorem entRText : ∀ args (u : World), (callFunc 40 args).run Tryz.prog u = .ok (.enter 40 args) u := enters_of Tryz.func40 (by kernel_rfl) rfl
set_option maxHeartbeats 4000000 in
set_option maxRecDepth 100000 in
theorem rTake_any (G : Gm) (ok : Po → Prop) (hG : G.Ok ok) (TX : Po → ByteArray) (b S : Nat) (v0 v1 v2 v3 v4 v5 v6 v7 v8 v9 v10 v11 : Value) (w00 w : World) (hc : Rc G ok TX S w00 v0 v1 v2 v3 v4 v5 v6 v7 v8 v9 v10 v11) (x : Ho) (m : Ms) (hx : HoI G ok x) (hma : m.at_ < 9223372036854775808) (h : isRo w b v0 v1 v2 v3 v4 v5 v6 v7 v8 v9 v10 v11 (.int .i64 G.pl) x) (hS : S ≤ b) (h00 : Below S w00 w) :
    Calls Tryz.prog 12 #[.pointer (some ⟨b, 0, none⟩), .agg #[.int .i64 m.seat, .int .i64 m.ply, .string m.mv, .int .i64 m.at_]] w fun e w' => e = .returned (G.reply TX (G.step x m)) ∧ isRo w' b v0 v1 v2 v3 v4 v5 v6 v7 v8 v9 v10 v11 (.int .i64 G.pl) (G.step x m).1 ∧ Ex b w.heap.size w w' := by
  have hbl := isR.lt h
  obtain ⟨w1, hw1⟩ : ∃ w1, w1 = w.alloc (.cells #[.int .i64 m.seat, .int .i64 m.ply, .string m.mv, .int .i64 m.at_] 43 (0, 0)) := ⟨_, rfl⟩
  obtain ⟨w2, hw2⟩ : ∃ w2, w2 = w1.alloc (.cells #[.int .i64 0, .int .i64 0, .int .i64 0, .string ⟨#[]⟩] 40 (0, 0)) := ⟨_, rfl⟩
  have hb1 : Below w.heap.size w w1 := by rw [hw1]; exact (Below.refl _ _).alloc (Nat.le_refl _) _
  have hb2 : Below w1.heap.size w1 w2 := by rw [hw2]; exact (Below.refl _ _).alloc (Nat.le_refl _) _
  have s1 : w1.heap.size = w.heap.size + 1 := by rw [hw1]; simp
  have h2 : isRo w2 b v0 v1 v2 v3 v4 v5 v6 v7 v8 v9 v10 v11 (.int .i64 G.pl) x := isR.below (isR.below h hb1 hbl) hb2 (by omega)
  have hg2 : isG w2 w.heap.size m := isG.below (by rw [hw1]; exact isG.new w m) hb2 (by omega)
  have hb02 : Below w.heap.size w w2 := hb1.trans (hb2.mono (by omega))
  have hr2 : w2.heap[w.heap.size + 1]? = some (.cells #[.int .i64 0, .int .i64 0, .int .i64 0, .string ⟨#[]⟩] 40 (0, 0)) := by rw [hw2, ← s1]; exact heap_alloc_new w1 _
  have h02 : Below S w00 w2 := h00.trans (hb02.mono (by omega))
  have hTk := rKind_any G ok hG TX b S v0 v1 v2 v3 v4 v5 v6 v7 v8 v9 v10 v11 w00 w2 hc x m hx hma h2 hS h02
  have hstI := hx.step hG hma
  have hTx := hc.T _ hstI.p
  obtain ⟨R, hR⟩ : ∃ R, R = G.step x m := ⟨_, rfl⟩
  rw [← hR] at hTk hstI hTx ⊢
  have HEN := hide (fun (u : World) (hu : isRo u b v0 v1 v2 v3 v4 v5 v6 v7 v8 v9 v10 v11 (.int .i64 G.pl) R.1) (h0 : Below S w00 u) => rEnded_any G ok TX b S v0 v1 v2 v3 v4 v5 v6 v7 v8 v9 v10 v11 w00 u hc R.1 hstI.p hu h0)
  have HTK := hide hTk
  have HTX := hide hTx
  have H2 := hide h2
  have HB02 := hide hb02
  have HR2 := hide hr2
  have HW := hide (And.intro hw1 hw2)
  have HBL := hide hbl
  have HSS := hide hS
  have H02 := hide h02
  obtain ⟨g0, g1, g2, g3⟩ := hg2.cells
  clear hTk hR h2 hg2 hb02 hr2 hw1 hw2 hb1 hb2 s1 h02 hc hG h00 h hx hstI hS hTx
  go_enter Tryz.func12, Tryz.ntmps12
  go_upto_region 1 with fail
  rw [← (unhide HW).1, ← (unhide HW).2]
  clear HW
  go_wp2_with fail
  refine (unhide HTK).mono ?_
  rintro e w3 ⟨rfl, h3, hx3⟩
  have hr3 : w3.heap[w.heap.size + 1]? = _ := (hx3.block (w.heap.size + 1) (block_ltH (unhide HR2)) (by have := unhide HBL; omega)).trans (unhide HR2)
  have hx03 : Ex b w.heap.size w w3 := (Ex.of (unhide HB02)).trans (hx3.mono (unhide HB02).size)
  have h03 : Below S w00 w3 := (unhide H02).trans (hx3.fresh (unhide HSS) (by have := isR.lt (unhide H2); have := unhide HSS; omega))
  have H3 := hide h3
  have HR3 := hide hr3
  have HX03 := hide hx03
  have H03 := hide h03
  have HS : Hid (∀ u, Below w3.heap.size w3 u → (fun u => (u.cell? ⟨b, 13, none⟩ = some (.int .i64 R.1.p.W) ∧ u.cell? ⟨b, 14, none⟩ = some (.int .i64 R.1.p.H) ∧ u.cell? ⟨b, 15, none⟩ = some (.string R.1.p.C) ∧ u.cell? ⟨b, 16, none⟩ = some (.int .i64 R.1.p.T) ∧ u.cell? ⟨b, 17, none⟩ = some (.string R.1.p.A) ∧ u.cell? ⟨b, 18, none⟩ = some (.string R.1.p.B)) ∧ u.cell? ⟨b, 19, none⟩ = some (.int .i64 R.1.ply)) u) := hide fun u hu => by
    have c := isR.cells (isR.below h3 hu (isR.lt h3))
    exact ⟨c.2.1, c.2.2.1⟩
  clear h3 hx3 hr3 hx03 h03 H2 HR2 HB02 HTK g0 g1 g2 g3 H02
  go_upto_region 2 with fail
  obtain ⟨wd, hwd⟩ : ∃ wd, wd = w3.drew := ⟨_, rfl⟩
  have hbd : Below w3.heap.size w3 wd := by rw [hwd]; exact (Below.refl _ _).drew
  refine wp_region_v [13] (fun u => (u.cell? ⟨b, 13, none⟩ = some (.int .i64 R.1.p.W) ∧ u.cell? ⟨b, 14, none⟩ = some (.int .i64 R.1.p.H) ∧ u.cell? ⟨b, 15, none⟩ = some (.string R.1.p.C) ∧ u.cell? ⟨b, 16, none⟩ = some (.int .i64 R.1.p.T) ∧ u.cell? ⟨b, 17, none⟩ = some (.string R.1.p.A) ∧ u.cell? ⟨b, 18, none⟩ = some (.string R.1.p.B)) ∧ u.cell? ⟨b, 19, none⟩ = some (.int .i64 R.1.ply)) (by kernel_rfl) ?_
  rw [← hwd]
  clear hwd
  have hHeld := unhide HS wd hbd
  refine wpAnyV_tk (i := 0) (oi := _) (v := ?_) rfl (by kernel_rfl) (by kernel_rfl) (by kernel_rfl) (by kernel_rfl) (fun _ _ _ h => h) (Or.inl ⟨by rfl, ?_⟩) (by assumption) ?_
  rotate_left 1
  · (intro u hSu; (try dsimp only at hSu); go_simp; first | done | with_reducible rfl | rfl)
  simp only [Act.put, List.getElem_toArray, List.getElem_cons_zero, List.setIfInBounds_toArray, List.set_cons_zero, List.set_cons_succ]
  refine wpAnyV_tk (i := 1) (oi := _) (v := ?_) rfl (by kernel_rfl) (by kernel_rfl) (by kernel_rfl) (by kernel_rfl) (fun _ _ _ h => h) (Or.inl ⟨by rfl, ?_⟩) (by assumption) ?_
  rotate_left 1
  · (intro u hSu; (try dsimp only at hSu); go_simp; first | done | with_reducible rfl | rfl)
  simp only [Act.put, List.getElem_toArray, List.getElem_cons_zero, List.getElem_cons_succ, List.setIfInBounds_toArray, List.set_cons_zero, List.set_cons_succ]
  refine wpAnyV_tk (i := 2) (oi := _) (v := ?_) rfl (by kernel_rfl) (by kernel_rfl) (by kernel_rfl) (by kernel_rfl) (fun _ _ _ h => h) (Or.inl ⟨by rfl, ?_⟩) (by assumption) ?_
  rotate_left 1
  · (intro u hSu; (try dsimp only at hSu); go_simp; first | done | with_reducible rfl | rfl)
  simp only [Act.put, List.getElem_toArray, List.getElem_cons_zero, List.getElem_cons_succ, List.setIfInBounds_toArray, List.set_cons_zero, List.set_cons_succ]
  refine wpAnyV_tk (i := 3) (oi := _) (v := ?_) rfl (by kernel_rfl) (by kernel_rfl) (by kernel_rfl) (by kernel_rfl) (fun _ _ _ h => h) (Or.inl ⟨by rfl, ?_⟩) (by assumption) ?_
  rotate_left 1
  · (intro u hSu; (try dsimp only at hSu); go_simp; first | done | with_reducible rfl | rfl)
  simp only [Act.put, List.getElem_toArray, List.getElem_cons_zero, List.getElem_cons_succ, List.setIfInBounds_toArray, List.set_cons_zero, List.set_cons_succ]
  refine wpAnyV_tk (i := 4) (oi := _) (v := ?_) rfl (by kernel_rfl) (by kernel_rfl) (by kernel_rfl) (by kernel_rfl) (fun _ _ _ h => h) (Or.inl ⟨by rfl, ?_⟩) (by assumption) ?_
  rotate_left 1
  · (intro u hSu; (try dsimp only at hSu); go_simp; first | done | with_reducible rfl | rfl)
  simp only [Act.put, List.getElem_toArray, List.getElem_cons_zero, List.getElem_cons_succ, List.setIfInBounds_toArray, List.set_cons_zero, List.set_cons_succ]
  refine wpAnyV_tk (i := 5) (oi := _) (v := ?_) rfl (by kernel_rfl) (by kernel_rfl) (by kernel_rfl) (by kernel_rfl) (fun _ _ _ h => h) (Or.inl ⟨by rfl, ?_⟩) (by assumption) ?_
  rotate_left 1
  · (intro u hSu; (try dsimp only at hSu); go_simp; first | done | with_reducible rfl | rfl)
  simp only [Act.put, List.getElem_toArray, List.getElem_cons_zero, List.getElem_cons_succ, List.setIfInBounds_toArray, List.set_cons_zero, List.set_cons_succ]
  refine wpAnyV_tk (i := 7) (oi := _) (v := ?_) rfl (by kernel_rfl) (by kernel_rfl) (by kernel_rfl) (by kernel_rfl) (fun _ _ _ h => h) (Or.inl ⟨by rfl, ?_⟩) (by assumption) ?_
  rotate_left 1
  · (intro u hSu; (try dsimp only at hSu); go_simp; first | done | with_reducible rfl | rfl)
  simp only [Act.put, List.getElem_toArray, List.getElem_cons_zero, List.getElem_cons_succ, List.setIfInBounds_toArray, List.set_cons_zero, List.set_cons_succ]
  refine wpAnyV_tk (i := 8) (oi := _) (v := ?_) rfl (by kernel_rfl) (by kernel_rfl) (by kernel_rfl) (by kernel_rfl) (fun _ _ _ h => h) (Or.inl ⟨by rfl, ?_⟩) (by assumption) ?_
  rotate_left 1
  · (intro u hSu; (try dsimp only at hSu); go_simp; first | done | with_reducible rfl | rfl)
  simp only [Act.put, List.getElem_toArray, List.getElem_cons_zero, List.getElem_cons_succ, List.setIfInBounds_toArray, List.set_cons_zero, List.set_cons_succ]
  refine wpAnyV_tk (i := 9) (oi := _) (v := ?_) rfl (by kernel_rfl) (by kernel_rfl) (by kernel_rfl) (by kernel_rfl) (fun _ _ _ h => h) (Or.inl ⟨by rfl, ?_⟩) (by assumption) ?_
  rotate_left 1
  · (intro u hSu; (try dsimp only at hSu); go_simp; first | done | with_reducible rfl | rfl)
  simp only [Act.put, List.getElem_toArray, List.getElem_cons_zero, List.getElem_cons_succ, List.setIfInBounds_toArray, List.set_cons_zero, List.set_cons_succ]
  refine wpAnyV_tk (i := 10) (oi := _) (v := ?_) rfl (by kernel_rfl) (by kernel_rfl) (by kernel_rfl) (by kernel_rfl) (fun _ _ _ h => h) (Or.inl ⟨by rfl, ?_⟩) (by assumption) ?_
  rotate_left 1
  · (intro u hSu; (try dsimp only at hSu); go_simp; first | done | with_reducible rfl | rfl)
  simp only [Act.put, List.getElem_toArray, List.getElem_cons_zero, List.getElem_cons_succ, List.setIfInBounds_toArray, List.set_cons_zero, List.set_cons_succ]
  clear hHeld
  refine wpAnyV_ready (rs := [6]) (by kernel_rfl) (by simp) ?_
  refine ReadyV.cons (o := _) rfl (fun K hK => ?_) ReadyV.nil
  refine step_callH (by rfl) 39 _ _ rfl #[.pointer (some ⟨b, 0, none⟩)] (by simp [Act.eval]) entREnded (unhide HEN wd (isR.below (unhide H3) hbd (isR.lt (unhide H3))) ((unhide H03).trans (hbd.mono (by have := isR.lt (unhide H3); have := unhide HSS; omega)))) ?_
  rintro e w4 ⟨rfl, hb4⟩
  refine ⟨_, rfl, ?_⟩
  have hr4 : Below w3.heap.size w3 w4 := hbd.trans (hb4.mono hbd.size)
  have hHeld := unhide HS w4 hr4
  refine hK.out _ _ (fun _ => hHeld) ?_
  clear hK K hb4
  try simp only [Act.put, List.getElem_toArray, List.getElem_cons_zero, List.getElem_cons_succ, List.setIfInBounds_toArray, List.set_cons_zero, List.set_cons_succ]
  clear hHeld
  refine wpAnyV_ready (rs := [11]) (by kernel_rfl) (by simp) ?_
  refine ReadyV.cons (o := _) rfl (fun K hK => ?_) ReadyV.nil
  refine step_callH (by rfl) 40 _ _ rfl #[.agg #[.int .i64 R.1.p.W, .int .i64 R.1.p.H, .string R.1.p.C, .int .i64 R.1.p.T, .string R.1.p.A, .string R.1.p.B]] (by simp [Act.eval]) entRText (unhide HTX w4) ?_
  rintro e w5 ⟨rfl, hb5⟩
  refine ⟨_, rfl, ?_⟩
  have hr5 : Below w3.heap.size w3 w5 := hr4.trans (hb5.mono hr4.size)
  have hHeld := unhide HS w5 hr5
  refine hK.out _ _ (fun _ => hHeld) ?_
  clear hK K hb5
  try simp only [Act.put, List.getElem_toArray, List.getElem_cons_zero, List.getElem_cons_succ, List.setIfInBounds_toArray, List.set_cons_zero, List.set_cons_succ]
  refine wpAnyV_pure (i := 12) (oi := _) (v := ?_) rfl (by kernel_rfl) (by kernel_rfl) (by kernel_rfl) (by kernel_rfl) (fun _ _ _ h => h) (Or.inl ⟨by rfl, ?_⟩) (by first | exact fun _ => hHeld | (intro h; exact absurd h (by decide))) ?_
  rotate_left 1
  · (intro u _; go_simp; first | done | with_reducible rfl | rfl)
  simp only [Act.put, List.getElem_toArray, List.getElem_cons_zero, List.getElem_cons_succ, List.setIfInBounds_toArray, List.set_cons_zero, List.set_cons_succ]
  clear hHeld
  have h5 := isR.below (unhide H3) hr5 (isR.lt (unhide H3))
  have hrr := (hr5.block _ (block_ltH (unhide HR3))).trans (unhide HR3)
  have hx5 := (unhide HX03).more hr5 (unhide HX03).size
  have z0 := frozen_of_row w5 (w.heap.size + 1) 0 _ _ hrr
  have z1 := frozen_of_row w5 (w.heap.size + 1) 1 _ _ hrr
  have z2 := frozen_of_row w5 (w.heap.size + 1) 2 _ _ hrr
  have z3 := frozen_of_row w5 (w.heap.size + 1) 3 _ _ hrr
  have c0 : w5.cell? ⟨w.heap.size + 1, 0, none⟩ = some (.int .i64 0) := by unfold World.cell?; rw [hrr]; rfl
  have c1 : w5.cell? ⟨w.heap.size + 1, 1, none⟩ = some (.int .i64 0) := by unfold World.cell?; rw [hrr]; rfl
  have c2 : w5.cell? ⟨w.heap.size + 1, 2, none⟩ = some (.int .i64 0) := by unfold World.cell?; rw [hrr]; rfl
  have c3 : w5.cell? ⟨w.heap.size + 1, 3, none⟩ = some (.string ⟨#[]⟩) := by unfold World.cell?; rw [hrr]; rfl
  refine wpAnyV_ready (rs := [13]) (by kernel_rfl) (by simp) ?_
  refine ReadyV.cons (o := _) rfl (fun K hK => ?_) ReadyV.nil
  go_simp
  refine hK.out _ _ (fun h => absurd h (by decide)) ?_
  clear hK K z0 z1 z2 z3 c0 c1 c2 c3
  try simp only [Act.put, List.getElem_toArray, List.getElem_cons_zero, List.getElem_cons_succ, List.setIfInBounds_toArray, List.set_cons_zero, List.set_cons_succ]
  refine wpAnyV_done (by kernel_rfl) ?_ _
  have hfin : ∀ (a b' c : Int) (t : ByteArray), ∃ w6, w6 = (((w5.setCell ⟨w.heap.size + 1, 0, none⟩ (.int .i64 a)).setCell ⟨w.heap.size + 1, 1, none⟩ (.int .i64 b')).setCell ⟨w.heap.size + 1, 2, none⟩ (.int .i64 c)).setCell ⟨w.heap.size + 1, 3, none⟩ (.string t) ∧
      isRo w6 b v0 v1 v2 v3 v4 v5 v6 v7 v8 v9 v10 v11 (.int .i64 G.pl) R.1 ∧ Ex b w.heap.size w w6 ∧ w6.cell? ⟨w.heap.size + 1, 0, none⟩ = some (.int .i64 a) ∧ w6.cell? ⟨w.heap.size + 1, 1, none⟩ = some (.int .i64 b') ∧ w6.cell? ⟨w.heap.size + 1, 2, none⟩ = some (.int .i64 c) ∧ w6.cell? ⟨w.heap.size + 1, 3, none⟩ = some (.string t) := fun a b' c t => by
    refine ⟨_, rfl, ?_, ?_, ?_⟩
    · refine isR.of_block h5 ?_
      have := unhide HBL
      exact ((((Ex.refl (w.heap.size + 1) (b + 1) w5).set 0 (.int .i64 a)).set 1 (.int .i64 b')).set 2 (.int .i64 c)).set 3 (.string t) |>.block b (by omega) (by omega)
    · exact (((hx5.far _ 0 _ (by omega)).far _ 1 _ (by omega)).far _ 2 _ (by omega)).far _ 3 _ (by omega)
    · simp [World.cell?, World.setCell, Array.getElem?_modify, hrr]
  obtain ⟨w6, hw6, h6, hx6, k0, k1, k2, k3⟩ := hfin R.2 R.1.ply (G.ended R.1) (TX R.1.p)
  rw [← hw6]
  have HE := hide (And.intro h6 hx6)
  clear hfin hw6 h6 hx6 h5 hrr hx5 hr5 hr4 hbd HS H3 HR3 HX03 H03 HEN HTX
  go_wp2
  exact bodyPost_ret (v := .agg #[.int .i64 R.2, .int .i64 R.1.ply, .int .i64 (G.ended R.1), .string (TX R.1.p)]) (by simp [results, Tryz.results12, go_sem, k0, k1, k2, k3]) rfl ⟨rfl, (unhide HE).1, (unhide HE).2⟩
end Go.Proofs.YtihojhfpepbjhaaGreatDoor
