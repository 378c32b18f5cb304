/-
  package house, walked: comeTo.
  package house, walked: move.
-/
import Derived.Test.YtihojhfpepbjhaaGreatDoorHo3
import Derived.Test.YtihojhfpepbjhaaGreatDoorJ25
import Derived.Deep.CutRange
import Derived.Test.YtihojhfpepbjhaaGreatDoorJ12
namespace Go.Proofs.YtihojhfpepbjhaaGreatDoor
open Go.RowKit
attribute [local go_sem ↓] Go.wp_at_zero Go.wp_at_succ

theorem entOut : ∀ args (u : World), (callFunc 60 args).run Tryz.prog u = .ok (.enter 60 args) u := enters_of Tryz.func60 (by kernel_rfl) rfl
/-- What the outcome says once a position has come. -/
def Gm.said (G : Gm) (p : Po) (y : Int) : Int := if G.O p = 0 ∧ y = G.pl then 3 else G.O p
set_option maxHeartbeats 4000000 in
set_option maxRecDepth 100000 in
theorem comeTo_any (G : Gm) (b S : Nat) (v0 v1 v2 v3 v4 v5 v6 v7 v8 v9 v10 v11 : Value) (x : Ho) (o : Int) (p : Po) (w00 w : World) (h : isHo w b v0 v1 v2 v3 v4 v5 v6 v7 v8 v9 v10 v11 (.int .i64 G.pl) x o) (hS : S ≤ b) (h00 : Below S w00 w)
    (hO : ∀ u, Below S w00 u → Calls Tryz.prog 60 #[.agg #[v0, v1, v2, v3, v4, v5, v6, v7, v8, v9, v10, v11, .int .i64 G.pl], .agg #[.int .i64 p.W, .int .i64 p.H, .string p.C, .int .i64 p.T, .string p.A, .string p.B]] u fun e u' => e = .returned (.tuple #[.int .i64 (G.O p), .int .i64 0]) ∧ Below u.heap.size u u') :
    Calls Tryz.prog 29 #[.pointer (some ⟨b, 0, none⟩), .agg #[.int .i64 p.W, .int .i64 p.H, .string p.C, .int .i64 p.T, .string p.A, .string p.B]] w fun e w' => e = .returned (.tuple #[]) ∧ isHo w' b v0 v1 v2 v3 v4 v5 v6 v7 v8 v9 v10 v11 (.int .i64 G.pl) { x with p := p } (G.said p x.ply) ∧ Ex b w.heap.size w w' := by
  obtain ⟨O, hOe⟩ : ∃ O, O = G.O p := ⟨_, rfl⟩
  have hsd : G.said p x.ply = if O = 0 ∧ x.ply = G.pl then 3 else O := by rw [hOe]; rfl
  rw [← hOe] at hO
  have HSD := hide hsd
  have HO := hide hO
  clear hOe hsd hO
  generalize G.said p x.ply = Z at HSD ⊢
  generalize G.pl = pl at *
  have hbl := isH.lt h
  obtain ⟨w1, hw1⟩ : ∃ w1, w1 = w.alloc (.cells #[.int .i64 p.W, .int .i64 p.H, .string p.C, .int .i64 p.T, .string p.A, .string p.B] 24 (0, 0)) := ⟨_, rfl⟩
  have hb1 : Below w.heap.size w w1 := by rw [hw1]; exact (Below.refl _ _).alloc (Nat.le_refl _) _
  have s1 : w1.heap.size = w.heap.size + 1 := by rw [hw1]; simp
  have h1 : isHo w1 b v0 v1 v2 v3 v4 v5 v6 v7 v8 v9 v10 v11 (.int .i64 pl) x o := isH.below h hb1 hbl
  have hq1 : isPb w1 w.heap.size p.W p.H p.T p.C p.A p.B := by rw [hw1]; exact heap_alloc_new w _
  obtain ⟨w2, hw2⟩ : ∃ w2, w2 = (((((w1.setCell ⟨b, 16, none⟩ (.int .i64 p.W)).setCell ⟨b, 17, none⟩ (.int .i64 p.H)).setCell ⟨b, 18, none⟩ (.string p.C)).setCell ⟨b, 19, none⟩ (.int .i64 p.T)).setCell ⟨b, 20, none⟩ (.string p.A)).setCell ⟨b, 21, none⟩ (.string p.B) := ⟨_, rfl⟩
  have h2 : isHo w2 b v0 v1 v2 v3 v4 v5 v6 v7 v8 v9 v10 v11 (.int .i64 pl) { x with p := p } o := by rw [hw2]; exact isH.setP h1 _ _ _ _ _ _
  have x2 : Ex b w1.heap.size w1 w2 := by rw [hw2]; exact ((((((Ex.refl _ _ _).set _ _).set _ _).set _ _).set _ _).set _ _).set _ _
  have s2 : w1.heap.size ≤ w2.heap.size := x2.size
  have hq2 : isPb w2 w.heap.size p.W p.H p.T p.C p.A p.B := (x2.block _ (by omega) (by omega)).trans hq1
  have x02 : Ex b w.heap.size w w2 := (Ex.of hb1).trans (x2.mono (by omega))
  have hz := fun k => isH.frozen h1 k
  have z0 := hz 16
  have z1 := hz 17
  have z2 := hz 18
  have z3 := hz 19
  have z4 := hz 20
  have z5 := hz 21
  have HW1 := hide hw1
  have HW2 := hide hw2
  have H2 := hide h2
  have HQ2 := hide hq2
  have X02 := hide x02
  have B00 : Hid (Below S w00 w2.drew) := hide (h00.trans (x02.drew.fresh hS (by omega)))
  have HSB := hide hS
  obtain ⟨q0, q1, q2, q3, q4, q5⟩ := hq1.all
  obtain ⟨⟨l0, l1, l2⟩, ⟨r0, r1, r2, r3, r4, r5, r6, r7, r8, r9, r10, r11, r12⟩, ⟨p0, p1, p2, p3, p4, p5⟩, hy, ho, ht⟩ := isH.cells h1
  clear h h00 hbl hb1 s1 h1 hq1 h2 x2 s2 hq2 x02 hz hw1 hw2 hS
  go_enter Tryz.func29, Tryz.ntmps29
  go_upto_region 1 with fail
  rw [← unhide HW1]
  go_upto_region 2 with fail
  rw [← unhide HW2]
  clear l0 l1 l2 r0 r1 r2 r3 r4 r5 r6 r7 r8 r9 r10 r11 r12 p0 p1 p2 p3 p4 p5 hy ho ht q0 q1 q2 q3 q4 q5 z0 z1 z2 z3 z4 z5 HW1 HW2
  refine wp_region_v [12] (fun u => (u.cell? ⟨b, 3, none⟩ = some v0 ∧ u.cell? ⟨b, 4, none⟩ = some v1 ∧ u.cell? ⟨b, 5, none⟩ = some v2 ∧ u.cell? ⟨b, 6, none⟩ = some v3 ∧ u.cell? ⟨b, 7, none⟩ = some v4 ∧ u.cell? ⟨b, 8, none⟩ = some v5 ∧ u.cell? ⟨b, 9, none⟩ = some v6 ∧ u.cell? ⟨b, 10, none⟩ = some v7 ∧ u.cell? ⟨b, 11, none⟩ = some v8 ∧ u.cell? ⟨b, 12, none⟩ = some v9 ∧ u.cell? ⟨b, 13, none⟩ = some v10 ∧ u.cell? ⟨b, 14, none⟩ = some v11 ∧ u.cell? ⟨b, 15, none⟩ = some (.int .i64 pl)) ∧ u.cell? ⟨w.heap.size, 0, none⟩ = some (.int .i64 p.W) ∧ u.cell? ⟨w.heap.size, 1, none⟩ = some (.int .i64 p.H) ∧ u.cell? ⟨w.heap.size, 2, none⟩ = some (.string p.C) ∧ u.cell? ⟨w.heap.size, 3, none⟩ = some (.int .i64 p.T) ∧ u.cell? ⟨w.heap.size, 4, none⟩ = some (.string p.A) ∧ u.cell? ⟨w.heap.size, 5, none⟩ = some (.string p.B)) (by kernel_rfl) ?_
  have hHeld : (fun u => (u.cell? ⟨b, 3, none⟩ = some v0 ∧ u.cell? ⟨b, 4, none⟩ = some v1 ∧ u.cell? ⟨b, 5, none⟩ = some v2 ∧ u.cell? ⟨b, 6, none⟩ = some v3 ∧ u.cell? ⟨b, 7, none⟩ = some v4 ∧ u.cell? ⟨b, 8, none⟩ = some v5 ∧ u.cell? ⟨b, 9, none⟩ = some v6 ∧ u.cell? ⟨b, 10, none⟩ = some v7 ∧ u.cell? ⟨b, 11, none⟩ = some v8 ∧ u.cell? ⟨b, 12, none⟩ = some v9 ∧ u.cell? ⟨b, 13, none⟩ = some v10 ∧ u.cell? ⟨b, 14, none⟩ = some v11 ∧ u.cell? ⟨b, 15, none⟩ = some (.int .i64 pl)) ∧ u.cell? ⟨w.heap.size, 0, none⟩ = some (.int .i64 p.W) ∧ u.cell? ⟨w.heap.size, 1, none⟩ = some (.int .i64 p.H) ∧ u.cell? ⟨w.heap.size, 2, none⟩ = some (.string p.C) ∧ u.cell? ⟨w.heap.size, 3, none⟩ = some (.int .i64 p.T) ∧ u.cell? ⟨w.heap.size, 4, none⟩ = some (.string p.A) ∧ u.cell? ⟨w.heap.size, 5, none⟩ = some (.string p.B)) w2.drew := ⟨(isH.cells (unhide H2)).2.1, (unhide HQ2).all⟩
  refine wpAnyV_tk (i := 0) (oi := _) (v := ?_) rfl (by kernel_rfl) (by kernel_rfl) (by kernel_rfl) (by kernel_rfl) (fun _ _ _ h => h) (Or.inl ⟨by rfl, ?_⟩) (by assumption) ?_
  rotate_left 1
  · (intro u hSu; (try dsimp only at hSu); go_simp; first | done | with_reducible rfl | rfl)
  simp only [Act.put, List.getElem_toArray, List.getElem_cons_zero, List.setIfInBounds_toArray, List.set_cons_zero, List.set_cons_succ]
  refine wpAnyV_tk (i := 1) (oi := _) (v := ?_) rfl (by kernel_rfl) (by kernel_rfl) (by kernel_rfl) (by kernel_rfl) (fun _ _ _ h => h) (Or.inl ⟨by rfl, ?_⟩) (by assumption) ?_
  rotate_left 1
  · (intro u hSu; (try dsimp only at hSu); go_simp; first | done | with_reducible rfl | rfl)
  simp only [Act.put, List.getElem_toArray, List.getElem_cons_zero, List.getElem_cons_succ, List.setIfInBounds_toArray, List.set_cons_zero, List.set_cons_succ]
  refine wpAnyV_tk (i := 2) (oi := _) (v := ?_) rfl (by kernel_rfl) (by kernel_rfl) (by kernel_rfl) (by kernel_rfl) (fun _ _ _ h => h) (Or.inl ⟨by rfl, ?_⟩) (by assumption) ?_
  rotate_left 1
  · (intro u hSu; (try dsimp only at hSu); go_simp; first | done | with_reducible rfl | rfl)
  simp only [Act.put, List.getElem_toArray, List.getElem_cons_zero, List.getElem_cons_succ, List.setIfInBounds_toArray, List.set_cons_zero, List.set_cons_succ]
  refine wpAnyV_tk (i := 3) (oi := _) (v := ?_) rfl (by kernel_rfl) (by kernel_rfl) (by kernel_rfl) (by kernel_rfl) (fun _ _ _ h => h) (Or.inl ⟨by rfl, ?_⟩) (by assumption) ?_
  rotate_left 1
  · (intro u hSu; (try dsimp only at hSu); go_simp; first | done | with_reducible rfl | rfl)
  simp only [Act.put, List.getElem_toArray, List.getElem_cons_zero, List.getElem_cons_succ, List.setIfInBounds_toArray, List.set_cons_zero, List.set_cons_succ]
  refine wpAnyV_tk (i := 4) (oi := _) (v := ?_) rfl (by kernel_rfl) (by kernel_rfl) (by kernel_rfl) (by kernel_rfl) (fun _ _ _ h => h) (Or.inl ⟨by rfl, ?_⟩) (by assumption) ?_
  rotate_left 1
  · (intro u hSu; (try dsimp only at hSu); go_simp; first | done | with_reducible rfl | rfl)
  simp only [Act.put, List.getElem_toArray, List.getElem_cons_zero, List.getElem_cons_succ, List.setIfInBounds_toArray, List.set_cons_zero, List.set_cons_succ]
  refine wpAnyV_tk (i := 5) (oi := _) (v := ?_) rfl (by kernel_rfl) (by kernel_rfl) (by kernel_rfl) (by kernel_rfl) (fun _ _ _ h => h) (Or.inl ⟨by rfl, ?_⟩) (by assumption) ?_
  rotate_left 1
  · (intro u hSu; (try dsimp only at hSu); go_simp; first | done | with_reducible rfl | rfl)
  simp only [Act.put, List.getElem_toArray, List.getElem_cons_zero, List.getElem_cons_succ, List.setIfInBounds_toArray, List.set_cons_zero, List.set_cons_succ]
  refine wpAnyV_ready (rs := [6]) (by kernel_rfl) (by simp) ?_
  refine ReadyV.cons (o := _) rfl (fun K hK => ?_) ReadyV.nil
  refine step_callH (by rfl) 60 #[.tmp 13, .tmp 14] #[27, 24] rfl #[.agg #[v0, v1, v2, v3, v4, v5, v6, v7, v8, v9, v10, v11, .int .i64 pl], .agg #[.int .i64 p.W, .int .i64 p.H, .string p.C, .int .i64 p.T, .string p.A, .string p.B]] (by simp [Act.eval]) entOut (unhide HO _ (unhide B00)) ?_
  rintro e w3 ⟨rfl, hb3⟩
  refine ⟨_, rfl, ?_⟩
  have hb3' : Below w2.heap.size w2 w3 := ⟨hb3.os, hb3.tape, hb3.output, hb3.size, hb3.block⟩
  have h3 : isHo w3 b v0 v1 v2 v3 v4 v5 v6 v7 v8 v9 v10 v11 (.int .i64 pl) { x with p := p } o := isH.below (unhide H2) hb3' (isH.lt (unhide H2))
  have hq3 := (unhide HQ2).below hb3' (unhide HQ2).lt
  have x3 : Ex b w.heap.size w w3 := (unhide X02).more hb3' (unhide X02).size
  have hHeld3 : (fun u => (u.cell? ⟨b, 3, none⟩ = some v0 ∧ u.cell? ⟨b, 4, none⟩ = some v1 ∧ u.cell? ⟨b, 5, none⟩ = some v2 ∧ u.cell? ⟨b, 6, none⟩ = some v3 ∧ u.cell? ⟨b, 7, none⟩ = some v4 ∧ u.cell? ⟨b, 8, none⟩ = some v5 ∧ u.cell? ⟨b, 9, none⟩ = some v6 ∧ u.cell? ⟨b, 10, none⟩ = some v7 ∧ u.cell? ⟨b, 11, none⟩ = some v8 ∧ u.cell? ⟨b, 12, none⟩ = some v9 ∧ u.cell? ⟨b, 13, none⟩ = some v10 ∧ u.cell? ⟨b, 14, none⟩ = some v11 ∧ u.cell? ⟨b, 15, none⟩ = some (.int .i64 pl)) ∧ u.cell? ⟨w.heap.size, 0, none⟩ = some (.int .i64 p.W) ∧ u.cell? ⟨w.heap.size, 1, none⟩ = some (.int .i64 p.H) ∧ u.cell? ⟨w.heap.size, 2, none⟩ = some (.string p.C) ∧ u.cell? ⟨w.heap.size, 3, none⟩ = some (.int .i64 p.T) ∧ u.cell? ⟨w.heap.size, 4, none⟩ = some (.string p.A) ∧ u.cell? ⟨w.heap.size, 5, none⟩ = some (.string p.B)) w3 := ⟨(isH.cells h3).2.1, hq3.all⟩
  clear hHeld
  have hHeld := hHeld3
  refine hK.out _ _ (fun _ => hHeld) ?_
  clear hK K hHeld3 hb3 hq3
  try simp only [Act.put, List.getElem_toArray, List.getElem_cons_zero, List.getElem_cons_succ, List.setIfInBounds_toArray, List.set_cons_zero, List.set_cons_succ]
  refine wpAnyV_pure (i := 7) (oi := _) (v := ?_) rfl (by kernel_rfl) (by kernel_rfl) (by kernel_rfl) (by kernel_rfl) (fun _ _ _ h => h) (Or.inl ⟨by rfl, ?_⟩) (by first | exact fun _ => hHeld | (intro h; exact absurd h (by decide))) ?_
  rotate_left 1
  · (intro u _; go_simp; first | done | with_reducible rfl | rfl)
  simp only [Act.put, List.getElem_toArray, List.getElem_cons_zero, List.getElem_cons_succ, List.setIfInBounds_toArray, List.set_cons_zero, List.set_cons_succ]
  refine wpAnyV_pure (i := 8) (oi := _) (v := ?_) rfl (by kernel_rfl) (by kernel_rfl) (by kernel_rfl) (by kernel_rfl) (fun _ _ _ h => h) (Or.inl ⟨by rfl, ?_⟩) (by first | exact fun _ => hHeld | (intro h; exact absurd h (by decide))) ?_
  rotate_left 1
  · (intro u _; go_simp; first | done | with_reducible rfl | rfl)
  simp only [Act.put, List.getElem_toArray, List.getElem_cons_zero, List.getElem_cons_succ, List.setIfInBounds_toArray, List.set_cons_zero, List.set_cons_succ]
  refine wpAnyV_pure (i := 9) (oi := _) (v := ?_) rfl (by kernel_rfl) (by kernel_rfl) (by kernel_rfl) (by kernel_rfl) (fun _ _ _ h => h) (Or.inl ⟨by rfl, ?_⟩) (by first | exact fun _ => hHeld | (intro h; exact absurd h (by decide))) ?_
  rotate_left 1
  · (intro u _; go_simp; first | done | with_reducible rfl | rfl)
  simp only [Act.put, List.getElem_toArray, List.getElem_cons_zero, List.getElem_cons_succ, List.setIfInBounds_toArray, List.set_cons_zero, List.set_cons_succ]
  refine wpAnyV_pure (i := 10) (oi := _) (v := ?_) rfl (by kernel_rfl) (by kernel_rfl) (by kernel_rfl) (by kernel_rfl) (fun _ _ _ h => h) (Or.inl ⟨by rfl, ?_⟩) (by first | exact fun _ => hHeld | (intro h; exact absurd h (by decide))) ?_
  rotate_left 1
  · (intro u _; go_simp; first | done | with_reducible rfl | rfl)
  simp only [Act.put, List.getElem_toArray, List.getElem_cons_zero, List.getElem_cons_succ, List.setIfInBounds_toArray, List.set_cons_zero, List.set_cons_succ]
  refine wpAnyV_pure (i := 11) (oi := _) (v := ?_) rfl (by kernel_rfl) (by kernel_rfl) (by kernel_rfl) (by kernel_rfl) (fun _ _ _ h => h) (Or.inl ⟨by rfl, ?_⟩) (by first | exact fun _ => hHeld | (intro h; exact absurd h (by decide))) ?_
  rotate_left 1
  · (intro u _; go_simp; first | done | with_reducible rfl | rfl)
  simp only [Act.put, List.getElem_toArray, List.getElem_cons_zero, List.getElem_cons_succ, List.setIfInBounds_toArray, List.set_cons_zero, List.set_cons_succ]
  clear hHeld
  have h4 : isHo (w3.setCell ⟨b, 23, none⟩ (.int .i64 O)) b v0 v1 v2 v3 v4 v5 v6 v7 v8 v9 v10 v11 (.int .i64 pl) { x with p := p } O := isH.set23 h3 O
  have x4 := x3.set 23 (.int .i64 O)
  have c23 := (isH.cells h3).2.2.2.2.1
  have f23 := isH.frozen h3 23
  refine wpAnyV_ready (rs := [12]) (by kernel_rfl) (by simp) ?_
  refine ReadyV.cons (o := _) rfl (fun K hK => ?_) ReadyV.nil
  go_simp
  refine hK.out _ _ (fun h => absurd h (by decide)) ?_
  clear hK K c23 f23 hb3' h3 x3
  try simp only [Act.put, List.getElem_toArray, List.getElem_cons_zero, List.getElem_cons_succ, List.setIfInBounds_toArray, List.set_cons_zero, List.set_cons_succ]
  refine wpAnyV_done (by kernel_rfl) ?_ _
  generalize w3.setCell ⟨b, 23, none⟩ (.int .i64 O) = w4 at h4 x4 ⊢
  have H4 := hide h4
  have X4 := hide x4
  have f23 := isH.frozen h4 23
  obtain ⟨⟨-, -, -⟩, ⟨-, -, -, -, -, -, -, -, -, -, -, -, r12⟩, -, hy, ho, -⟩ := isH.cells h4
  clear h4 x4 H2 HQ2 X02 HO
  by_cases hO0 : O = 0
  · by_cases hyp : x.ply = pl
    · have hZ : Hid (Z = 3) := hide (by rw [unhide HSD, if_pos ⟨hO0, hyp⟩])
      have e1 : (O == 0) = true := by simp [hO0]
      have e2 : (x.ply == pl) = true := by simp [hyp]
      clear HSD hyp
      go_wp2
      go_region
      go_wp2
      go_end0
      rw [unhide hZ]
      exact ⟨rfl, isH.set23 (unhide H4) 3, (unhide X4).drew.set _ _⟩
    · have hZ : Hid (Z = O) := hide (by rw [unhide HSD, if_neg (fun h => hyp h.2)])
      have e1 : (O == 0) = true := by simp [hO0]
      have e2 : (x.ply == pl) = false := by simp [hyp]
      clear HSD
      go_wp2
      go_region
      go_wp2
      go_end0
      rw [unhide hZ]
      exact ⟨rfl, unhide H4, (unhide X4).drew⟩
  · have hZ : Hid (Z = O) := hide (by rw [unhide HSD, if_neg (fun h => hO0 h.1)])
    have e1 : (O == 0) = false := by simp [hO0]
    clear HSD
    go_wp2
    go_region
    go_wp2
    go_end0
    rw [unhide hZ]
    exact ⟨rfl, unhide H4, (unhide X4).drew⟩
end Go.Proofs.YtihojhfpepbjhaaGreatDoor

namespace Go.Proofs.YtihojhfpepbjhaaGreatDoor
open Go.RowKit
attribute [local go_sem ↓] Go.wp_at_zero Go.wp_at_succ

theorem entRead : ∀ args (u : World), (callFunc 104 args).run Tryz.prog u = .ok (.enter 104 args) u := enters_of Tryz.func104 (by kernel_rfl) rfl
theorem entApply : ∀ args (u : World), (callFunc 105 args).run Tryz.prog u = .ok (.enter 105 args) u := enters_of Tryz.func105 (by kernel_rfl) rfl
theorem entLine : ∀ args (u : World), (callFunc 80 args).run Tryz.prog u = .ok (.enter 80 args) u := enters_of Tryz.func80 (by kernel_rfl) rfl
theorem cutForH (R : Nat → World → Prop) {T : Nat → World → Prop} {G : Prop} (k : Hid (∀ b v, R b v → T b v) → G) (p : ∀ b v, R b v → T b v) : G := k (hide p)
theorem isMb.frozenH {w : World} {b : Nat} {f t c : Int} (h : isMb w b f t c) (k : Nat) : w.frozen? ⟨b, k, none⟩ = false := frozen_of_row w b k _ _ h
theorem isMb.setAllH {w : World} {b : Nat} {f t c : Int} (h : isMb w b f t c) (f' t' c' : Int) : isMb (((w.setCell ⟨b, 0, none⟩ (.int .i64 f')).setCell ⟨b, 1, none⟩ (.int .i64 t')).setCell ⟨b, 2, none⟩ (.int .u8 c')) b f' t' c' := by
  unfold isMb at h ⊢; simp [World.setCell, Array.getElem?_modify, h]
theorem below_set3H {B : Nat} {w u : World} {b : Nat} (h : Below B w u) (hb : B ≤ b) (x y z : Value) : Below B w (((u.setCell ⟨b, 0, none⟩ x).setCell ⟨b, 1, none⟩ y).setCell ⟨b, 2, none⟩ z) := ((h.setCell (p := ⟨b, 0, none⟩) hb x).setCell (p := ⟨b, 1, none⟩) hb y).setCell (p := ⟨b, 2, none⟩) hb z
set_option maxHeartbeats 4000000 in
set_option maxRecDepth 100000 in
/-- move: up to where the move was read. -/
theorem move_read (G : Gm) (b S : Nat) (v0 v1 v2 v3 v4 v5 v6 v7 v8 v9 v10 v11 : Value) (x : Ho) (o : Int) (s : ByteArray) (m : Mv) (E : Int) (w00 w : World) (h : isHo w b v0 v1 v2 v3 v4 v5 v6 v7 v8 v9 v10 v11 (.int .i64 G.pl) x o) (hS : S ≤ b) (h00 : Below S w00 w)
    (hR : ∀ u, Below S w00 u → Calls Tryz.prog 104 #[.agg #[v0, v1, v2, v3, v4, v5, v6, v7, v8, v9, v10, v11, .int .i64 G.pl], .agg #[.int .i64 x.p.W, .int .i64 x.p.H, .string x.p.C, .int .i64 x.p.T, .string x.p.A, .string x.p.B], .string s] u fun e u' => e = .returned (.tuple #[.agg #[.int .i64 m.f, .int .i64 (m.t : Int), .int .u8 (m.c : Int)], .int .i64 E]) ∧ Below u.heap.size u u') (hE : E = 5) :
    Calls Tryz.prog 68 #[.pointer (some ⟨b, 0, none⟩), .string s] w fun e w' => e = .returned (.bool false) ∧ Below w.heap.size w w' := by
  have HR := hide hR
  clear hR
  generalize G.pl = pl at *
  have HK : Hid (∀ u, Below w.heap.size w u → Below S w00 u) := hide fun u hu => h00.trans (hu.mono (Nat.le_trans hS (Nat.le_of_lt (isH.lt h))))
  have HS : Hid (∀ u, Below w.heap.size w u → (fun u => (u.cell? ⟨b, 3, none⟩ = some v0 ∧ u.cell? ⟨b, 4, none⟩ = some v1 ∧ u.cell? ⟨b, 5, none⟩ = some v2 ∧ u.cell? ⟨b, 6, none⟩ = some v3 ∧ u.cell? ⟨b, 7, none⟩ = some v4 ∧ u.cell? ⟨b, 8, none⟩ = some v5 ∧ u.cell? ⟨b, 9, none⟩ = some v6 ∧ u.cell? ⟨b, 10, none⟩ = some v7 ∧ u.cell? ⟨b, 11, none⟩ = some v8 ∧ u.cell? ⟨b, 12, none⟩ = some v9 ∧ u.cell? ⟨b, 13, none⟩ = some v10 ∧ u.cell? ⟨b, 14, none⟩ = some v11 ∧ u.cell? ⟨b, 15, none⟩ = some (.int .i64 pl)) ∧ u.cell? ⟨b, 16, none⟩ = some (.int .i64 x.p.W) ∧ u.cell? ⟨b, 17, none⟩ = some (.int .i64 x.p.H) ∧ u.cell? ⟨b, 18, none⟩ = some (.string x.p.C) ∧ u.cell? ⟨b, 19, none⟩ = some (.int .i64 x.p.T) ∧ u.cell? ⟨b, 20, none⟩ = some (.string x.p.A) ∧ u.cell? ⟨b, 21, none⟩ = some (.string x.p.B)) u) := hide fun u hu => by
    have c := isH.cells (isH.below h hu (isH.lt h))
    exact ⟨c.2.1, c.2.2.1⟩
  obtain ⟨wd, hwd⟩ : ∃ wd, wd = w.drew := ⟨_, rfl⟩
  have HB : Hid (Below w.heap.size w wd) := hide (by rw [hwd]; exact (Below.refl _ _).drew)
  have HWD := hide hwd
  clear hwd
  clear h h00 hS
  go_enter Tryz.func68, Tryz.ntmps68
  go_upto_region 1 with fail
  apply cutForH (fun g v => isMb v g m.f m.t m.c ∧ Below w.heap.size w v ∧ w.heap.size ≤ g)
  case k =>
    intro key
    refine wp_region_v [14] (fun u => (u.cell? ⟨b, 3, none⟩ = some v0 ∧ u.cell? ⟨b, 4, none⟩ = some v1 ∧ u.cell? ⟨b, 5, none⟩ = some v2 ∧ u.cell? ⟨b, 6, none⟩ = some v3 ∧ u.cell? ⟨b, 7, none⟩ = some v4 ∧ u.cell? ⟨b, 8, none⟩ = some v5 ∧ u.cell? ⟨b, 9, none⟩ = some v6 ∧ u.cell? ⟨b, 10, none⟩ = some v7 ∧ u.cell? ⟨b, 11, none⟩ = some v8 ∧ u.cell? ⟨b, 12, none⟩ = some v9 ∧ u.cell? ⟨b, 13, none⟩ = some v10 ∧ u.cell? ⟨b, 14, none⟩ = some v11 ∧ u.cell? ⟨b, 15, none⟩ = some (.int .i64 pl)) ∧ u.cell? ⟨b, 16, none⟩ = some (.int .i64 x.p.W) ∧ u.cell? ⟨b, 17, none⟩ = some (.int .i64 x.p.H) ∧ u.cell? ⟨b, 18, none⟩ = some (.string x.p.C) ∧ u.cell? ⟨b, 19, none⟩ = some (.int .i64 x.p.T) ∧ u.cell? ⟨b, 20, none⟩ = some (.string x.p.A) ∧ u.cell? ⟨b, 21, none⟩ = some (.string x.p.B)) (by kernel_rfl) ?_
    rw [← unhide HWD]
    have hHeld := unhide HS _ (unhide HB)
    refine wpAnyV_tk (i := 0) (oi := _) (v := ?_) rfl (by kernel_rfl) (by kernel_rfl) (by kernel_rfl) (by kernel_rfl) (fun _ _ _ h => h) (Or.inl ⟨by rfl, ?_⟩) (by assumption) ?_
    rotate_left 1
    · (intro u hSu; (try dsimp only at hSu); go_simp; first | done | with_reducible rfl | rfl)
    simp only [Act.put, List.getElem_toArray, List.getElem_cons_zero, List.setIfInBounds_toArray, List.set_cons_zero, List.set_cons_succ]
    refine wpAnyV_tk (i := 1) (oi := _) (v := ?_) rfl (by kernel_rfl) (by kernel_rfl) (by kernel_rfl) (by kernel_rfl) (fun _ _ _ h => h) (Or.inl ⟨by rfl, ?_⟩) (by assumption) ?_
    rotate_left 1
    · (intro u hSu; (try dsimp only at hSu); go_simp; first | done | with_reducible rfl | rfl)
    simp only [Act.put, List.getElem_toArray, List.getElem_cons_zero, List.getElem_cons_succ, List.setIfInBounds_toArray, List.set_cons_zero, List.set_cons_succ]
    refine wpAnyV_tk (i := 2) (oi := _) (v := ?_) rfl (by kernel_rfl) (by kernel_rfl) (by kernel_rfl) (by kernel_rfl) (fun _ _ _ h => h) (Or.inl ⟨by rfl, ?_⟩) (by assumption) ?_
    rotate_left 1
    · (intro u hSu; (try dsimp only at hSu); go_simp; first | done | with_reducible rfl | rfl)
    simp only [Act.put, List.getElem_toArray, List.getElem_cons_zero, List.getElem_cons_succ, List.setIfInBounds_toArray, List.set_cons_zero, List.set_cons_succ]
    refine wpAnyV_tk (i := 3) (oi := _) (v := ?_) rfl (by kernel_rfl) (by kernel_rfl) (by kernel_rfl) (by kernel_rfl) (fun _ _ _ h => h) (Or.inl ⟨by rfl, ?_⟩) (by assumption) ?_
    rotate_left 1
    · (intro u hSu; (try dsimp only at hSu); go_simp; first | done | with_reducible rfl | rfl)
    simp only [Act.put, List.getElem_toArray, List.getElem_cons_zero, List.getElem_cons_succ, List.setIfInBounds_toArray, List.set_cons_zero, List.set_cons_succ]
    refine wpAnyV_tk (i := 4) (oi := _) (v := ?_) rfl (by kernel_rfl) (by kernel_rfl) (by kernel_rfl) (by kernel_rfl) (fun _ _ _ h => h) (Or.inl ⟨by rfl, ?_⟩) (by assumption) ?_
    rotate_left 1
    · (intro u hSu; (try dsimp only at hSu); go_simp; first | done | with_reducible rfl | rfl)
    simp only [Act.put, List.getElem_toArray, List.getElem_cons_zero, List.getElem_cons_succ, List.setIfInBounds_toArray, List.set_cons_zero, List.set_cons_succ]
    refine wpAnyV_tk (i := 5) (oi := _) (v := ?_) rfl (by kernel_rfl) (by kernel_rfl) (by kernel_rfl) (by kernel_rfl) (fun _ _ _ h => h) (Or.inl ⟨by rfl, ?_⟩) (by assumption) ?_
    rotate_left 1
    · (intro u hSu; (try dsimp only at hSu); go_simp; first | done | with_reducible rfl | rfl)
    simp only [Act.put, List.getElem_toArray, List.getElem_cons_zero, List.getElem_cons_succ, List.setIfInBounds_toArray, List.set_cons_zero, List.set_cons_succ]
    refine wpAnyV_tk (i := 6) (oi := _) (v := ?_) rfl (by kernel_rfl) (by kernel_rfl) (by kernel_rfl) (by kernel_rfl) (fun _ _ _ h => h) (Or.inl ⟨by rfl, ?_⟩) (by assumption) ?_
    rotate_left 1
    · (intro u hSu; (try dsimp only at hSu); go_simp; first | done | with_reducible rfl | rfl)
    simp only [Act.put, List.getElem_toArray, List.getElem_cons_zero, List.getElem_cons_succ, List.setIfInBounds_toArray, List.set_cons_zero, List.set_cons_succ]
    refine wpAnyV_tk (i := 7) (oi := _) (v := ?_) rfl (by kernel_rfl) (by kernel_rfl) (by kernel_rfl) (by kernel_rfl) (fun _ _ _ h => h) (Or.inl ⟨by rfl, ?_⟩) (by assumption) ?_
    rotate_left 1
    · (intro u hSu; (try dsimp only at hSu); go_simp; first | done | with_reducible rfl | rfl)
    simp only [Act.put, List.getElem_toArray, List.getElem_cons_zero, List.getElem_cons_succ, List.setIfInBounds_toArray, List.set_cons_zero, List.set_cons_succ]
    refine wpAnyV_tk (i := 8) (oi := _) (v := ?_) rfl (by kernel_rfl) (by kernel_rfl) (by kernel_rfl) (by kernel_rfl) (fun _ _ _ h => h) (Or.inl ⟨by rfl, ?_⟩) (by assumption) ?_
    rotate_left 1
    · (intro u hSu; (try dsimp only at hSu); go_simp; first | done | with_reducible rfl | rfl)
    simp only [Act.put, List.getElem_toArray, List.getElem_cons_zero, List.getElem_cons_succ, List.setIfInBounds_toArray, List.set_cons_zero, List.set_cons_succ]
    refine wpAnyV_ready (rs := [9, 13]) (by kernel_rfl) (by simp) ?_
    refine ReadyV.cons (o := _) rfl (fun K hK => ?_) (ReadyV.cons (o := _) rfl (fun K hK => ?_) ReadyV.nil)
    · clear hHeld
      -- wd world at hand (Below w wd is HB), w3 world behind
      refine step_callH (by rfl) 104 #[.tmp 13, .tmp 17, .tmp 18] #[27, 24, 9] rfl #[.agg #[v0, v1, v2, v3, v4, v5, v6, v7, v8, v9, v10, v11, .int .i64 pl], .agg #[.int .i64 x.p.W, .int .i64 x.p.H, .string x.p.C, .int .i64 x.p.T, .string x.p.A, .string x.p.B], .string s] (by simp [Act.eval]) entRead (unhide HR _ (unhide HK _ (unhide HB))) ?_
      rintro e w3 ⟨rfl, bw3⟩
      refine ⟨_, rfl, ?_⟩
      have hww3 : Below w.heap.size w w3 := (unhide HB).trans (bw3.mono (unhide HB).size)
      have hHeld := unhide HS _ hww3
      refine hK.out _ _ (fun _ => hHeld) ?_
      clear hK K
      try simp only [Act.put, List.getElem_toArray, List.getElem_cons_zero, List.getElem_cons_succ, List.setIfInBounds_toArray, List.set_cons_zero, List.set_cons_succ]
      have HB3 := hide hww3
      refine wpAnyV_pure (i := 10) (oi := _) (v := ?_) rfl (by kernel_rfl) (by kernel_rfl) (by kernel_rfl) (by kernel_rfl) (fun _ _ _ h => h) (Or.inl ⟨by rfl, ?_⟩) (by first | exact fun _ => hHeld | (intro h; exact absurd h (by decide))) ?_
      rotate_left 1
      · (intro u _; go_simp; first | done | with_reducible rfl | rfl)
      simp only [Act.put, List.getElem_toArray, List.getElem_cons_zero, List.getElem_cons_succ, List.setIfInBounds_toArray, List.set_cons_zero, List.set_cons_succ]
      refine wpAnyV_pure (i := 11) (oi := _) (v := ?_) rfl (by kernel_rfl) (by kernel_rfl) (by kernel_rfl) (by kernel_rfl) (fun _ _ _ h => h) (Or.inl ⟨by rfl, ?_⟩) (by first | exact fun _ => hHeld | (intro h; exact absurd h (by decide))) ?_
      rotate_left 1
      · (intro u _; go_simp; first | done | with_reducible rfl | rfl)
      simp only [Act.put, List.getElem_toArray, List.getElem_cons_zero, List.getElem_cons_succ, List.setIfInBounds_toArray, List.set_cons_zero, List.set_cons_succ]
      refine wpAnyV_pure (i := 12) (oi := _) (v := ?_) rfl (by kernel_rfl) (by kernel_rfl) (by kernel_rfl) (by kernel_rfl) (fun _ _ _ h => h) (Or.inl ⟨by rfl, ?_⟩) (by first | exact fun _ => hHeld | (intro h; exact absurd h (by decide))) ?_
      rotate_left 1
      · (intro u _; go_simp; first | done | with_reducible rfl | rfl)
      simp only [Act.put, List.getElem_toArray, List.getElem_cons_zero, List.getElem_cons_succ, List.setIfInBounds_toArray, List.set_cons_zero, List.set_cons_succ]
      refine wpAnyV_ready (rs := [13]) (by kernel_rfl) (by simp) ?_
      refine ReadyV.cons (o := _) rfl (fun K hK => ?_) ReadyV.nil
      clear hHeld
      -- w3 world at hand (Below w w3 is HB3, held -), w4 world behind
      go_simp
      obtain ⟨w4, hw4⟩ : ∃ u, u = (w3).alloc (.cells #[.int .i64 0, .int .i64 0, .int .u8 0] 61 (0, 0)) := ⟨_, rfl⟩
      have bw4 : Below (w3).heap.size (w3) w4 := by rw [hw4]; exact (Below.refl _ _).alloc (Nat.le_refl _) _
      have hmw4 : isMb w4 (w3).heap.size 0 0 0 := by rw [hw4]; exact heap_alloc_new _ _
      rw [← hw4]
      have hww4 : Below w.heap.size w w4 := (unhide HB3).trans (bw4.mono (unhide HB3).size)
      have hHeld := unhide HS _ hww4
      refine hK.out _ _ (fun _ => hHeld) ?_
      clear hK K hw4
      try simp only [Act.put, List.getElem_toArray, List.getElem_cons_zero, List.getElem_cons_succ, List.setIfInBounds_toArray, List.set_cons_zero, List.set_cons_succ]
      clear hHeld
      have hfin := And.intro (isMb.setAllH hmw4 m.f m.t m.c) (And.intro (below_set3H hww4 hww3.size (.int .i64 m.f) (.int .i64 (m.t : Int)) (.int .u8 (m.c : Int))) hww3.size)
      obtain ⟨c0, c1, c2⟩ := hmw4.all
      have z0 := hmw4.frozenH 0
      have z1 := hmw4.frozenH 1
      have z2 := hmw4.frozenH 2
      refine wpAnyV_ready (rs := [14]) (by kernel_rfl) (by simp) ?_
      refine ReadyV.cons (o := _) rfl (fun K hK => ?_) ReadyV.nil
      go_simp
      refine hK.out _ _ (fun h => absurd h (by decide)) ?_
      try simp only [Act.put, List.getElem_toArray, List.getElem_cons_zero, List.getElem_cons_succ, List.setIfInBounds_toArray, List.set_cons_zero, List.set_cons_succ]
      refine wpAnyV_pure (i := 15) (oi := _) (v := ?_) rfl (by kernel_rfl) (by kernel_rfl) (by kernel_rfl) (by kernel_rfl) (fun _ _ _ h => h) (Or.inl ⟨by rfl, ?_⟩) (by first | exact fun _ => hHeld | (intro h; exact absurd h (by decide))) ?_
      rotate_left 1
      · (intro u _; go_simp; first | done | with_reducible rfl | rfl)
      simp only [Act.put, List.getElem_toArray, List.getElem_cons_zero, List.getElem_cons_succ, List.setIfInBounds_toArray, List.set_cons_zero, List.set_cons_succ]
      refine wpAnyV_done (by kernel_rfl) ?_ _
      clear hK K c0 c1 c2 z0 z1 z2 hmw4 hww4 bw4 hww3 bw3
      generalize w3.heap.size = g at hfin ⊢
      generalize ((w4.setCell ⟨g, 0, none⟩ (.int .i64 m.f)).setCell ⟨g, 1, none⟩ (.int .i64 (m.t : Int))).setCell ⟨g, 2, none⟩ (.int .u8 (m.c : Int)) = v at hfin ⊢
      exact unhide key g v hfin
    · clear hHeld
      -- wd world at hand (Below w wd is HB, held -), w3 world behind
      go_simp
      obtain ⟨w3, hw3⟩ : ∃ u, u = (wd).alloc (.cells #[.int .i64 0, .int .i64 0, .int .u8 0] 61 (0, 0)) := ⟨_, rfl⟩
      have bw3 : Below (wd).heap.size (wd) w3 := by rw [hw3]; exact (Below.refl _ _).alloc (Nat.le_refl _) _
      have hmw3 : isMb w3 (wd).heap.size 0 0 0 := by rw [hw3]; exact heap_alloc_new _ _
      rw [← hw3]
      have hww3 : Below w.heap.size w w3 := (unhide HB).trans (bw3.mono (unhide HB).size)
      have hHeld := unhide HS _ hww3
      refine hK.out _ _ (fun _ => hHeld) ?_
      clear hK K hw3
      try simp only [Act.put, List.getElem_toArray, List.getElem_cons_zero, List.getElem_cons_succ, List.setIfInBounds_toArray, List.set_cons_zero, List.set_cons_succ]
      have HB3 := hide hww3
      refine wpAnyV_ready (rs := [9]) (by kernel_rfl) (by simp) ?_
      refine ReadyV.cons (o := _) rfl (fun K hK => ?_) ReadyV.nil
      clear hHeld
      -- w3 world at hand (Below w w3 is HB3), w4 world behind
      refine step_callH (by rfl) 104 #[.tmp 13, .tmp 17, .tmp 18] #[27, 24, 9] rfl #[.agg #[v0, v1, v2, v3, v4, v5, v6, v7, v8, v9, v10, v11, .int .i64 pl], .agg #[.int .i64 x.p.W, .int .i64 x.p.H, .string x.p.C, .int .i64 x.p.T, .string x.p.A, .string x.p.B], .string s] (by simp [Act.eval]) entRead (unhide HR _ (unhide HK _ (unhide HB3))) ?_
      rintro e w4 ⟨rfl, bw4⟩
      refine ⟨_, rfl, ?_⟩
      have hww4 : Below w.heap.size w w4 := (unhide HB3).trans (bw4.mono (unhide HB3).size)
      have hHeld := unhide HS _ hww4
      refine hK.out _ _ (fun _ => hHeld) ?_
      clear hK K
      try simp only [Act.put, List.getElem_toArray, List.getElem_cons_zero, List.getElem_cons_succ, List.setIfInBounds_toArray, List.set_cons_zero, List.set_cons_succ]
      refine wpAnyV_pure (i := 10) (oi := _) (v := ?_) rfl (by kernel_rfl) (by kernel_rfl) (by kernel_rfl) (by kernel_rfl) (fun _ _ _ h => h) (Or.inl ⟨by rfl, ?_⟩) (by first | exact fun _ => hHeld | (intro h; exact absurd h (by decide))) ?_
      rotate_left 1
      · (intro u _; go_simp; first | done | with_reducible rfl | rfl)
      simp only [Act.put, List.getElem_toArray, List.getElem_cons_zero, List.getElem_cons_succ, List.setIfInBounds_toArray, List.set_cons_zero, List.set_cons_succ]
      refine wpAnyV_pure (i := 11) (oi := _) (v := ?_) rfl (by kernel_rfl) (by kernel_rfl) (by kernel_rfl) (by kernel_rfl) (fun _ _ _ h => h) (Or.inl ⟨by rfl, ?_⟩) (by first | exact fun _ => hHeld | (intro h; exact absurd h (by decide))) ?_
      rotate_left 1
      · (intro u _; go_simp; first | done | with_reducible rfl | rfl)
      simp only [Act.put, List.getElem_toArray, List.getElem_cons_zero, List.getElem_cons_succ, List.setIfInBounds_toArray, List.set_cons_zero, List.set_cons_succ]
      refine wpAnyV_pure (i := 12) (oi := _) (v := ?_) rfl (by kernel_rfl) (by kernel_rfl) (by kernel_rfl) (by kernel_rfl) (fun _ _ _ h => h) (Or.inl ⟨by rfl, ?_⟩) (by first | exact fun _ => hHeld | (intro h; exact absurd h (by decide))) ?_
      rotate_left 1
      · (intro u _; go_simp; first | done | with_reducible rfl | rfl)
      simp only [Act.put, List.getElem_toArray, List.getElem_cons_zero, List.getElem_cons_succ, List.setIfInBounds_toArray, List.set_cons_zero, List.set_cons_succ]
      clear hHeld
      have hm4 := hmw3.below bw4 hmw3.lt
      have hsz : w.heap.size ≤ wd.heap.size := (unhide HB).size
      have hfin := And.intro (isMb.setAllH hm4 m.f m.t m.c) (And.intro (below_set3H hww4 hsz (.int .i64 m.f) (.int .i64 (m.t : Int)) (.int .u8 (m.c : Int))) hsz)
      obtain ⟨c0, c1, c2⟩ := hm4.all
      have z0 := hm4.frozenH 0
      have z1 := hm4.frozenH 1
      have z2 := hm4.frozenH 2
      refine wpAnyV_ready (rs := [14]) (by kernel_rfl) (by simp) ?_
      refine ReadyV.cons (o := _) rfl (fun K hK => ?_) ReadyV.nil
      go_simp
      refine hK.out _ _ (fun h => absurd h (by decide)) ?_
      try simp only [Act.put, List.getElem_toArray, List.getElem_cons_zero, List.getElem_cons_succ, List.setIfInBounds_toArray, List.set_cons_zero, List.set_cons_succ]
      refine wpAnyV_pure (i := 15) (oi := _) (v := ?_) rfl (by kernel_rfl) (by kernel_rfl) (by kernel_rfl) (by kernel_rfl) (fun _ _ _ h => h) (Or.inl ⟨by rfl, ?_⟩) (by first | exact fun _ => hHeld | (intro h; exact absurd h (by decide))) ?_
      rotate_left 1
      · (intro u _; go_simp; first | done | with_reducible rfl | rfl)
      simp only [Act.put, List.getElem_toArray, List.getElem_cons_zero, List.getElem_cons_succ, List.setIfInBounds_toArray, List.set_cons_zero, List.set_cons_succ]
      refine wpAnyV_done (by kernel_rfl) ?_ _
      clear hK K c0 c1 c2 z0 z1 z2 hmw3 hm4 hww4 bw4 hww3 bw3 hsz
      generalize wd.heap.size = g at hfin ⊢
      generalize ((w4.setCell ⟨g, 0, none⟩ (.int .i64 m.f)).setCell ⟨g, 1, none⟩ (.int .i64 (m.t : Int))).setCell ⟨g, 2, none⟩ (.int .u8 (m.c : Int)) = v at hfin ⊢
      exact unhide key g v hfin
  rintro g v ⟨hmb, hbv, hg⟩
  subst hE
  go_wp2
  go_ret
  exact ⟨rfl, hbv⟩
end Go.Proofs.YtihojhfpepbjhaaGreatDoor
