/-
  package house, walked: comeTo.
-/
import Derived.Test.YtihojhfpepbjhaaGreatDoorJ12
import Derived.Test.YtihojhfpepbjhaaGreatDoorHoR
import Derived.Deep.CutRange
namespace Go.Proofs.YtihojhfpepbjhaaGreatDoor
open Go.RowKit
attribute [local go_sem ↓] Go.wp_at_zero Go.wp_at_succ

theorem entOut : ∀ args (u : World), (callFunc 60 args).run Tryz.prog u = .ok (.enter 60 args) u := enters_of Tryz.func60 (by kernel_rfl) rfl
/-- What the outcome says once a position has come. -/
def Gm.said (G : Gm) (p : Po) (y : Int) : Int := if G.O p = 0 ∧ y = G.pl then 3 else G.O p
set_option maxHeartbeats 4000000 in
set_option maxRecDepth 100000 in
theorem comeTo_any (G : Gm) (b S : Nat) (v0 v1 v2 v3 v4 v5 v6 v7 v8 v9 v10 v11 : Value) (x : Ho) (o : Int) (p : Po) (w00 w : World) (h : isHo w b v0 v1 v2 v3 v4 v5 v6 v7 v8 v9 v10 v11 (.int .i64 G.pl) x o) (hS : S ≤ b) (h00 : Below S w00 w)
    (hO : ∀ u, Below S w00 u → Calls Tryz.prog 60 #[.agg #[v0, v1, v2, v3, v4, v5, v6, v7, v8, v9, v10, v11, .int .i64 G.pl], .agg #[.int .i64 p.W, .int .i64 p.H, .string p.C, .int .i64 p.T, .string p.A, .string p.B]] u fun e u' => e = .returned (.tuple #[.int .i64 (G.O p), .int .i64 0]) ∧ Below u.heap.size u u') :
    Calls Tryz.prog 29 #[.pointer (some ⟨b, 0, none⟩), .agg #[.int .i64 p.W, .int .i64 p.H, .string p.C, .int .i64 p.T, .string p.A, .string p.B]] w fun e w' => e = .returned (.tuple #[]) ∧ isHo w' b v0 v1 v2 v3 v4 v5 v6 v7 v8 v9 v10 v11 (.int .i64 G.pl) { x with p := p } (G.said p x.ply) ∧ Ex b w.heap.size w w' := by
  obtain ⟨O, hOe⟩ : ∃ O, O = G.O p := ⟨_, rfl⟩
  have hsd : G.said p x.ply = if O = 0 ∧ x.ply = G.pl then 3 else O := by rw [hOe]; rfl
  rw [← hOe] at hO
  have HSD := hide hsd
  have HO := hide hO
  clear hOe hsd hO
  generalize G.said p x.ply = Z at HSD ⊢
  generalize G.pl = pl at *
  have hbl := isH.lt h
  obtain ⟨w1, hw1⟩ : ∃ w1, w1 = w.alloc (.cells #[.int .i64 p.W, .int .i64 p.H, .string p.C, .int .i64 p.T, .string p.A, .string p.B] 24 (0, 0)) := ⟨_, rfl⟩
  have hb1 : Below w.heap.size w w1 := by rw [hw1]; exact (Below.refl _ _).alloc (Nat.le_refl _) _
  have s1 : w1.heap.size = w.heap.size + 1 := by rw [hw1]; simp
  have h1 : isHo w1 b v0 v1 v2 v3 v4 v5 v6 v7 v8 v9 v10 v11 (.int .i64 pl) x o := isH.below h hb1 hbl
  have hq1 : isPb w1 w.heap.size p.W p.H p.T p.C p.A p.B := by rw [hw1]; exact heap_alloc_new w _
  obtain ⟨w2, hw2⟩ : ∃ w2, w2 = (((((w1.setCell ⟨b, 16, none⟩ (.int .i64 p.W)).setCell ⟨b, 17, none⟩ (.int .i64 p.H)).setCell ⟨b, 18, none⟩ (.string p.C)).setCell ⟨b, 19, none⟩ (.int .i64 p.T)).setCell ⟨b, 20, none⟩ (.string p.A)).setCell ⟨b, 21, none⟩ (.string p.B) := ⟨_, rfl⟩
  have h2 : isHo w2 b v0 v1 v2 v3 v4 v5 v6 v7 v8 v9 v10 v11 (.int .i64 pl) { x with p := p } o := by rw [hw2]; exact isH.setP h1 _ _ _ _ _ _
  have x2 : Ex b w1.heap.size w1 w2 := by rw [hw2]; exact ((((((Ex.refl _ _ _).set _ _).set _ _).set _ _).set _ _).set _ _).set _ _
  have s2 : w1.heap.size ≤ w2.heap.size := x2.size
  have hq2 : isPb w2 w.heap.size p.W p.H p.T p.C p.A p.B := (x2.block _ (by omega) (by omega)).trans hq1
  have x02 : Ex b w.heap.size w w2 := (Ex.of hb1).trans (x2.mono (by omega))
  have hz := fun k => isH.frozen h1 k
  have z0 := hz 16
  have z1 := hz 17
  have z2 := hz 18
  have z3 := hz 19
  have z4 := hz 20
  have z5 := hz 21
  have HW1 := hide hw1
  have HW2 := hide hw2
  have H2 := hide h2
  have HQ2 := hide hq2
  have X02 := hide x02
  have B00 : Hid (Below S w00 w2.drew) := hide (h00.trans (x02.drew.fresh hS (by omega)))
  have HSB := hide hS
  obtain ⟨q0, q1, q2, q3, q4, q5⟩ := hq1.all
  obtain ⟨⟨l0, l1, l2⟩, ⟨r0, r1, r2, r3, r4, r5, r6, r7, r8, r9, r10, r11, r12⟩, ⟨p0, p1, p2, p3, p4, p5⟩, hy, ho, ht⟩ := isH.cells h1
  clear h h00 hbl hb1 s1 h1 hq1 h2 x2 s2 hq2 x02 hz hw1 hw2 hS
  go_enter Tryz.func29, Tryz.ntmps29
  go_upto_region 1 with fail
  rw [← unhide HW1]
  go_upto_region 2 with fail
  rw [← unhide HW2]
  clear l0 l1 l2 r0 r1 r2 r3 r4 r5 r6 r7 r8 r9 r10 r11 r12 p0 p1 p2 p3 p4 p5 hy ho ht q0 q1 q2 q3 q4 q5 z0 z1 z2 z3 z4 z5 HW1 HW2
  refine wp_region_v [12] (fun u => (u.cell? ⟨b, 3, none⟩ = some v0 ∧ u.cell? ⟨b, 4, none⟩ = some v1 ∧ u.cell? ⟨b, 5, none⟩ = some v2 ∧ u.cell? ⟨b, 6, none⟩ = some v3 ∧ u.cell? ⟨b, 7, none⟩ = some v4 ∧ u.cell? ⟨b, 8, none⟩ = some v5 ∧ u.cell? ⟨b, 9, none⟩ = some v6 ∧ u.cell? ⟨b, 10, none⟩ = some v7 ∧ u.cell? ⟨b, 11, none⟩ = some v8 ∧ u.cell? ⟨b, 12, none⟩ = some v9 ∧ u.cell? ⟨b, 13, none⟩ = some v10 ∧ u.cell? ⟨b, 14, none⟩ = some v11 ∧ u.cell? ⟨b, 15, none⟩ = some (.int .i64 pl)) ∧ u.cell? ⟨w.heap.size, 0, none⟩ = some (.int .i64 p.W) ∧ u.cell? ⟨w.heap.size, 1, none⟩ = some (.int .i64 p.H) ∧ u.cell? ⟨w.heap.size, 2, none⟩ = some (.string p.C) ∧ u.cell? ⟨w.heap.size, 3, none⟩ = some (.int .i64 p.T) ∧ u.cell? ⟨w.heap.size, 4, none⟩ = some (.string p.A) ∧ u.cell? ⟨w.heap.size, 5, none⟩ = some (.string p.B)) (by kernel_rfl) ?_
  have hHeld : (fun u => (u.cell? ⟨b, 3, none⟩ = some v0 ∧ u.cell? ⟨b, 4, none⟩ = some v1 ∧ u.cell? ⟨b, 5, none⟩ = some v2 ∧ u.cell? ⟨b, 6, none⟩ = some v3 ∧ u.cell? ⟨b, 7, none⟩ = some v4 ∧ u.cell? ⟨b, 8, none⟩ = some v5 ∧ u.cell? ⟨b, 9, none⟩ = some v6 ∧ u.cell? ⟨b, 10, none⟩ = some v7 ∧ u.cell? ⟨b, 11, none⟩ = some v8 ∧ u.cell? ⟨b, 12, none⟩ = some v9 ∧ u.cell? ⟨b, 13, none⟩ = some v10 ∧ u.cell? ⟨b, 14, none⟩ = some v11 ∧ u.cell? ⟨b, 15, none⟩ = some (.int .i64 pl)) ∧ u.cell? ⟨w.heap.size, 0, none⟩ = some (.int .i64 p.W) ∧ u.cell? ⟨w.heap.size, 1, none⟩ = some (.int .i64 p.H) ∧ u.cell? ⟨w.heap.size, 2, none⟩ = some (.string p.C) ∧ u.cell? ⟨w.heap.size, 3, none⟩ = some (.int .i64 p.T) ∧ u.cell? ⟨w.heap.size, 4, none⟩ = some (.string p.A) ∧ u.cell? ⟨w.heap.size, 5, none⟩ = some (.string p.B)) w2.drew := ⟨(isH.cells (unhide H2)).2.1, (unhide HQ2).all⟩
  refine wpAnyV_tk (i := 0) (oi := _) (v := ?_) rfl (by kernel_rfl) (by kernel_rfl) (by kernel_rfl) (by kernel_rfl) (fun _ _ _ h => h) (Or.inl ⟨by rfl, ?_⟩) (by assumption) ?_
  rotate_left 1
  · (intro u hSu; (try dsimp only at hSu); go_simp; first | done | with_reducible rfl | rfl)
  simp only [Act.put, List.getElem_toArray, List.getElem_cons_zero, List.setIfInBounds_toArray, List.set_cons_zero, List.set_cons_succ]
  refine wpAnyV_tk (i := 1) (oi := _) (v := ?_) rfl (by kernel_rfl) (by kernel_rfl) (by kernel_rfl) (by kernel_rfl) (fun _ _ _ h => h) (Or.inl ⟨by rfl, ?_⟩) (by assumption) ?_
  rotate_left 1
  · (intro u hSu; (try dsimp only at hSu); go_simp; first | done | with_reducible rfl | rfl)
  simp only [Act.put, List.getElem_toArray, List.getElem_cons_zero, List.getElem_cons_succ, List.setIfInBounds_toArray, List.set_cons_zero, List.set_cons_succ]
  refine wpAnyV_tk (i := 2) (oi := _) (v := ?_) rfl (by kernel_rfl) (by kernel_rfl) (by kernel_rfl) (by kernel_rfl) (fun _ _ _ h => h) (Or.inl ⟨by rfl, ?_⟩) (by assumption) ?_
  rotate_left 1
  · (intro u hSu; (try dsimp only at hSu); go_simp; first | done | with_reducible rfl | rfl)
  simp only [Act.put, List.getElem_toArray, List.getElem_cons_zero, List.getElem_cons_succ, List.setIfInBounds_toArray, List.set_cons_zero, List.set_cons_succ]
  refine wpAnyV_tk (i := 3) (oi := _) (v := ?_) rfl (by kernel_rfl) (by kernel_rfl) (by kernel_rfl) (by kernel_rfl) (fun _ _ _ h => h) (Or.inl ⟨by rfl, ?_⟩) (by assumption) ?_
  rotate_left 1
  · (intro u hSu; (try dsimp only at hSu); go_simp; first | done | with_reducible rfl | rfl)
  simp only [Act.put, List.getElem_toArray, List.getElem_cons_zero, List.getElem_cons_succ, List.setIfInBounds_toArray, List.set_cons_zero, List.set_cons_succ]
  refine wpAnyV_tk (i := 4) (oi := _) (v := ?_) rfl (by kernel_rfl) (by kernel_rfl) (by kernel_rfl) (by kernel_rfl) (fun _ _ _ h => h) (Or.inl ⟨by rfl, ?_⟩) (by assumption) ?_
  rotate_left 1
  · (intro u hSu; (try dsimp only at hSu); go_simp; first | done | with_reducible rfl | rfl)
  simp only [Act.put, List.getElem_toArray, List.getElem_cons_zero, List.getElem_cons_succ, List.setIfInBounds_toArray, List.set_cons_zero, List.set_cons_succ]
  refine wpAnyV_tk (i := 5) (oi := _) (v := ?_) rfl (by kernel_rfl) (by kernel_rfl) (by kernel_rfl) (by kernel_rfl) (fun _ _ _ h => h) (Or.inl ⟨by rfl, ?_⟩) (by assumption) ?_
  rotate_left 1
  · (intro u hSu; (try dsimp only at hSu); go_simp; first | done | with_reducible rfl | rfl)
  simp only [Act.put, List.getElem_toArray, List.getElem_cons_zero, List.getElem_cons_succ, List.setIfInBounds_toArray, List.set_cons_zero, List.set_cons_succ]
  refine wpAnyV_ready (rs := [6]) (by kernel_rfl) (by simp) ?_
  refine ReadyV.cons (o := _) rfl (fun K hK => ?_) ReadyV.nil
  refine step_callH (by rfl) 60 #[.tmp 13, .tmp 14] #[27, 24] rfl #[.agg #[v0, v1, v2, v3, v4, v5, v6, v7, v8, v9, v10, v11, .int .i64 pl], .agg #[.int .i64 p.W, .int .i64 p.H, .string p.C, .int .i64 p.T, .string p.A, .string p.B]] (by simp [Act.eval]) entOut (unhide HO _ (unhide B00)) ?_
  rintro e w3 ⟨rfl, hb3⟩
  refine ⟨_, rfl, ?_⟩
  have hb3' : Below w2.heap.size w2 w3 := ⟨hb3.os, hb3.tape, hb3.output, hb3.size, hb3.block⟩
  have h3 : isHo w3 b v0 v1 v2 v3 v4 v5 v6 v7 v8 v9 v10 v11 (.int .i64 pl) { x with p := p } o := isH.below (unhide H2) hb3' (isH.lt (unhide H2))
  have hq3 := (unhide HQ2).below hb3' (unhide HQ2).lt
  have x3 : Ex b w.heap.size w w3 := (unhide X02).more hb3' (unhide X02).size
  have hHeld3 : (fun u => (u.cell? ⟨b, 3, none⟩ = some v0 ∧ u.cell? ⟨b, 4, none⟩ = some v1 ∧ u.cell? ⟨b, 5, none⟩ = some v2 ∧ u.cell? ⟨b, 6, none⟩ = some v3 ∧ u.cell? ⟨b, 7, none⟩ = some v4 ∧ u.cell? ⟨b, 8, none⟩ = some v5 ∧ u.cell? ⟨b, 9, none⟩ = some v6 ∧ u.cell? ⟨b, 10, none⟩ = some v7 ∧ u.cell? ⟨b, 11, none⟩ = some v8 ∧ u.cell? ⟨b, 12, none⟩ = some v9 ∧ u.cell? ⟨b, 13, none⟩ = some v10 ∧ u.cell? ⟨b, 14, none⟩ = some v11 ∧ u.cell? ⟨b, 15, none⟩ = some (.int .i64 pl)) ∧ u.cell? ⟨w.heap.size, 0, none⟩ = some (.int .i64 p.W) ∧ u.cell? ⟨w.heap.size, 1, none⟩ = some (.int .i64 p.H) ∧ u.cell? ⟨w.heap.size, 2, none⟩ = some (.string p.C) ∧ u.cell? ⟨w.heap.size, 3, none⟩ = some (.int .i64 p.T) ∧ u.cell? ⟨w.heap.size, 4, none⟩ = some (.string p.A) ∧ u.cell? ⟨w.heap.size, 5, none⟩ = some (.string p.B)) w3 := ⟨(isH.cells h3).2.1, hq3.all⟩
  clear hHeld
  have hHeld := hHeld3
  refine hK.out _ _ (fun _ => hHeld) ?_
  clear hK K hHeld3 hb3 hq3
  try simp only [Act.put, List.getElem_toArray, List.getElem_cons_zero, List.getElem_cons_succ, List.setIfInBounds_toArray, List.set_cons_zero, List.set_cons_succ]
  refine wpAnyV_pure (i := 7) (oi := _) (v := ?_) rfl (by kernel_rfl) (by kernel_rfl) (by kernel_rfl) (by kernel_rfl) (fun _ _ _ h => h) (Or.inl ⟨by rfl, ?_⟩) (by first | exact fun _ => hHeld | (intro h; exact absurd h (by decide))) ?_
  rotate_left 1
  · (intro u _; go_simp; first | done | with_reducible rfl | rfl)
  simp only [Act.put, List.getElem_toArray, List.getElem_cons_zero, List.getElem_cons_succ, List.setIfInBounds_toArray, List.set_cons_zero, List.set_cons_succ]
  refine wpAnyV_pure (i := 8) (oi := _) (v := ?_) rfl (by kernel_rfl) (by kernel_rfl) (by kernel_rfl) (by kernel_rfl) (fun _ _ _ h => h) (Or.inl ⟨by rfl, ?_⟩) (by first | exact fun _ => hHeld | (intro h; exact absurd h (by decide))) ?_
  rotate_left 1
  · (intro u _; go_simp; first | done | with_reducible rfl | rfl)
  simp only [Act.put, List.getElem_toArray, List.getElem_cons_zero, List.getElem_cons_succ, List.setIfInBounds_toArray, List.set_cons_zero, List.set_cons_succ]
  refine wpAnyV_pure (i := 9) (oi := _) (v := ?_) rfl (by kernel_rfl) (by kernel_rfl) (by kernel_rfl) (by kernel_rfl) (fun _ _ _ h => h) (Or.inl ⟨by rfl, ?_⟩) (by first | exact fun _ => hHeld | (intro h; exact absurd h (by decide))) ?_
  rotate_left 1
  · (intro u _; go_simp; first | done | with_reducible rfl | rfl)
  simp only [Act.put, List.getElem_toArray, List.getElem_cons_zero, List.getElem_cons_succ, List.setIfInBounds_toArray, List.set_cons_zero, List.set_cons_succ]
  refine wpAnyV_pure (i := 10) (oi := _) (v := ?_) rfl (by kernel_rfl) (by kernel_rfl) (by kernel_rfl) (by kernel_rfl) (fun _ _ _ h => h) (Or.inl ⟨by rfl, ?_⟩) (by first | exact fun _ => hHeld | (intro h; exact absurd h (by decide))) ?_
  rotate_left 1
  · (intro u _; go_simp; first | done | with_reducible rfl | rfl)
  simp only [Act.put, List.getElem_toArray, List.getElem_cons_zero, List.getElem_cons_succ, List.setIfInBounds_toArray, List.set_cons_zero, List.set_cons_succ]
  refine wpAnyV_pure (i := 11) (oi := _) (v := ?_) rfl (by kernel_rfl) (by kernel_rfl) (by kernel_rfl) (by kernel_rfl) (fun _ _ _ h => h) (Or.inl ⟨by rfl, ?_⟩) (by first | exact fun _ => hHeld | (intro h; exact absurd h (by decide))) ?_
  rotate_left 1
  · (intro u _; go_simp; first | done | with_reducible rfl | rfl)
  simp only [Act.put, List.getElem_toArray, List.getElem_cons_zero, List.getElem_cons_succ, List.setIfInBounds_toArray, List.set_cons_zero, List.set_cons_succ]
  clear hHeld
  have h4 : isHo (w3.setCell ⟨b, 23, none⟩ (.int .i64 O)) b v0 v1 v2 v3 v4 v5 v6 v7 v8 v9 v10 v11 (.int .i64 pl) { x with p := p } O := isH.set23 h3 O
  have x4 := x3.set 23 (.int .i64 O)
  have c23 := (isH.cells h3).2.2.2.2.1
  have f23 := isH.frozen h3 23
  refine wpAnyV_ready (rs := [12]) (by kernel_rfl) (by simp) ?_
  refine ReadyV.cons (o := _) rfl (fun K hK => ?_) ReadyV.nil
  go_simp
  refine hK.out _ _ (fun h => absurd h (by decide)) ?_
  clear hK K c23 f23 hb3' h3 x3
  try simp only [Act.put, List.getElem_toArray, List.getElem_cons_zero, List.getElem_cons_succ, List.setIfInBounds_toArray, List.set_cons_zero, List.set_cons_succ]
  refine wpAnyV_done (by kernel_rfl) ?_ _
  generalize w3.setCell ⟨b, 23, none⟩ (.int .i64 O) = w4 at h4 x4 ⊢
  have H4 := hide h4
  have X4 := hide x4
  have f23 := isH.frozen h4 23
  obtain ⟨⟨-, -, -⟩, ⟨-, -, -, -, -, -, -, -, -, -, -, -, r12⟩, -, hy, ho, -⟩ := isH.cells h4
  clear h4 x4 H2 HQ2 X02 HO
  by_cases hO0 : O = 0
  · by_cases hyp : x.ply = pl
    · have hZ : Hid (Z = 3) := hide (by rw [unhide HSD, if_pos ⟨hO0, hyp⟩])
      have e1 : (O == 0) = true := by simp [hO0]
      have e2 : (x.ply == pl) = true := by simp [hyp]
      clear HSD hyp
      go_wp2
      go_region
      go_wp2
      go_end0
      rw [unhide hZ]
      exact ⟨rfl, isH.set23 (unhide H4) 3, (unhide X4).drew.set _ _⟩
    · have hZ : Hid (Z = O) := hide (by rw [unhide HSD, if_neg (fun h => hyp h.2)])
      have e1 : (O == 0) = true := by simp [hO0]
      have e2 : (x.ply == pl) = false := by simp [hyp]
      clear HSD
      go_wp2
      go_region
      go_wp2
      go_end0
      rw [unhide hZ]
      exact ⟨rfl, unhide H4, (unhide X4).drew⟩
  · have hZ : Hid (Z = O) := hide (by rw [unhide HSD, if_neg (fun h => hO0 h.1)])
    have e1 : (O == 0) = false := by simp [hO0]
    clear HSD
    go_wp2
    go_region
    go_wp2
    go_end0
    rw [unhide hZ]
    exact ⟨rfl, unhide H4, (unhide X4).drew⟩
end Go.Proofs.YtihojhfpepbjhaaGreatDoor
