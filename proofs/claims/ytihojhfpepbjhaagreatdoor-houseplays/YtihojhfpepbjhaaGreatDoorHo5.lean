/-
  package house, walked: move.
-/
import Derived.Test.YtihojhfpepbjhaaGreatDoorHo4
import Derived.Test.YtihojhfpepbjhaaGreatDoorV20
namespace Go.Proofs.YtihojhfpepbjhaaGreatDoor
open Go.RowKit
attribute [local go_sem ↓] Go.wp_at_zero Go.wp_at_succ

theorem entRead : ∀ args (u : World), (callFunc 104 args).run Tryz.prog u = .ok (.enter 104 args) u := enters_of Tryz.func104 (by kernel_rfl) rfl
theorem entApply : ∀ args (u : World), (callFunc 105 args).run Tryz.prog u = .ok (.enter 105 args) u := enters_of Tryz.func105 (by kernel_rfl) rfl
theorem entLine : ∀ args (u : World), (callFunc 80 args).run Tryz.prog u = .ok (.enter 80 args) u := enters_of Tryz.func80 (by kernel_rfl) rfl
theorem cutForH (R : Nat → World → Prop) {T : Nat → World → Prop} {G : Prop} (k : Hid (∀ b v, R b v → T b v) → G) (p : ∀ b v, R b v → T b v) : G := k (hide p)
theorem undrew {S : Nat} {w w' : World} (h : Below S w.drew w') : Below S w w' := ⟨h.os, h.tape, h.output, h.size, h.block⟩
theorem isMb.frozenH {w : World} {b : Nat} {f t c : Int} (h : isMb w b f t c) (k : Nat) : w.frozen? ⟨b, k, none⟩ = false := frozen_of_row w b k _ _ h
theorem isMb.setAllH {w : World} {b : Nat} {f t c : Int} (h : isMb w b f t c) (f' t' c' : Int) : isMb (((w.setCell ⟨b, 0, none⟩ (.int .i64 f')).setCell ⟨b, 1, none⟩ (.int .i64 t')).setCell ⟨b, 2, none⟩ (.int .u8 c')) b f' t' c' := by
  unfold isMb at h ⊢; simp [World.setCell, Array.getElem?_modify, h]
theorem below_set3H {B : Nat} {w u : World} {b : Nat} (h : Below B w u) (hb : B ≤ b) (x y z : Value) : Below B w (((u.setCell ⟨b, 0, none⟩ x).setCell ⟨b, 1, none⟩ y).setCell ⟨b, 2, none⟩ z) := ((h.setCell (p := ⟨b, 0, none⟩) hb x).setCell (p := ⟨b, 1, none⟩) hb y).setCell (p := ⟨b, 2, none⟩) hb z
set_option maxHeartbeats 4000000 in
set_option maxRecDepth 100000 in
/-- move: up to where the move was read. -/
theorem move_read (G : Gm) (b S : Nat) (v0 v1 v2 v3 v4 v5 v6 v7 v8 v9 v10 v11 : Value) (x : Ho) (o : Int) (s : ByteArray) (m : Mv) (E : Int) (w00 w : World) (h : isHo w b v0 v1 v2 v3 v4 v5 v6 v7 v8 v9 v10 v11 (.int .i64 G.pl) x o) (hS : S ≤ b) (h00 : Below S w00 w)
    (hR : ∀ u, Below S w00 u → Calls Tryz.prog 104 #[.agg #[v0, v1, v2, v3, v4, v5, v6, v7, v8, v9, v10, v11, .int .i64 G.pl], .agg #[.int .i64 x.p.W, .int .i64 x.p.H, .string x.p.C, .int .i64 x.p.T, .string x.p.A, .string x.p.B], .string s] u fun e u' => e = .returned (.tuple #[.agg #[.int .i64 m.f, .int .i64 (m.t : Int), .int .u8 (m.c : Int)], .int .i64 E]) ∧ Below u.heap.size u u') (hE : E = 5) :
    Calls Tryz.prog 68 #[.pointer (some ⟨b, 0, none⟩), .string s] w fun e w' => e = .returned (.bool false) ∧ Below w.heap.size w w' := by
  have HR := hide hR
  clear hR
  generalize G.pl = pl at *
  have HK : Hid (∀ u, Below w.heap.size w u → Below S w00 u) := hide fun u hu => h00.trans (hu.mono (Nat.le_trans hS (Nat.le_of_lt (isH.lt h))))
  have HS : Hid (∀ u, Below w.heap.size w u → (fun u => (u.cell? ⟨b, 3, none⟩ = some v0 ∧ u.cell? ⟨b, 4, none⟩ = some v1 ∧ u.cell? ⟨b, 5, none⟩ = some v2 ∧ u.cell? ⟨b, 6, none⟩ = some v3 ∧ u.cell? ⟨b, 7, none⟩ = some v4 ∧ u.cell? ⟨b, 8, none⟩ = some v5 ∧ u.cell? ⟨b, 9, none⟩ = some v6 ∧ u.cell? ⟨b, 10, none⟩ = some v7 ∧ u.cell? ⟨b, 11, none⟩ = some v8 ∧ u.cell? ⟨b, 12, none⟩ = some v9 ∧ u.cell? ⟨b, 13, none⟩ = some v10 ∧ u.cell? ⟨b, 14, none⟩ = some v11 ∧ u.cell? ⟨b, 15, none⟩ = some (.int .i64 pl)) ∧ u.cell? ⟨b, 16, none⟩ = some (.int .i64 x.p.W) ∧ u.cell? ⟨b, 17, none⟩ = some (.int .i64 x.p.H) ∧ u.cell? ⟨b, 18, none⟩ = some (.string x.p.C) ∧ u.cell? ⟨b, 19, none⟩ = some (.int .i64 x.p.T) ∧ u.cell? ⟨b, 20, none⟩ = some (.string x.p.A) ∧ u.cell? ⟨b, 21, none⟩ = some (.string x.p.B)) u) := hide fun u hu => by
    have c := isH.cells (isH.below h hu (isH.lt h))
    exact ⟨c.2.1, c.2.2.1⟩
  obtain ⟨wd, hwd⟩ : ∃ wd, wd = w.drew := ⟨_, rfl⟩
  have HB : Hid (Below w.heap.size w wd) := hide (by rw [hwd]; exact (Below.refl _ _).drew)
  have HWD := hide hwd
  clear hwd
  clear h h00 hS
  go_enter Tryz.func68, Tryz.ntmps68
  go_upto_region 1 with fail
  apply cutForH (fun g v => isMb v g m.f m.t m.c ∧ Below w.heap.size w v ∧ w.heap.size ≤ g)
  case k =>
    intro key
    refine wp_region_v [14] (fun u => (u.cell? ⟨b, 3, none⟩ = some v0 ∧ u.cell? ⟨b, 4, none⟩ = some v1 ∧ u.cell? ⟨b, 5, none⟩ = some v2 ∧ u.cell? ⟨b, 6, none⟩ = some v3 ∧ u.cell? ⟨b, 7, none⟩ = some v4 ∧ u.cell? ⟨b, 8, none⟩ = some v5 ∧ u.cell? ⟨b, 9, none⟩ = some v6 ∧ u.cell? ⟨b, 10, none⟩ = some v7 ∧ u.cell? ⟨b, 11, none⟩ = some v8 ∧ u.cell? ⟨b, 12, none⟩ = some v9 ∧ u.cell? ⟨b, 13, none⟩ = some v10 ∧ u.cell? ⟨b, 14, none⟩ = some v11 ∧ u.cell? ⟨b, 15, none⟩ = some (.int .i64 pl)) ∧ u.cell? ⟨b, 16, none⟩ = some (.int .i64 x.p.W) ∧ u.cell? ⟨b, 17, none⟩ = some (.int .i64 x.p.H) ∧ u.cell? ⟨b, 18, none⟩ = some (.string x.p.C) ∧ u.cell? ⟨b, 19, none⟩ = some (.int .i64 x.p.T) ∧ u.cell? ⟨b, 20, none⟩ = some (.string x.p.A) ∧ u.cell? ⟨b, 21, none⟩ = some (.string x.p.B)) (by kernel_rfl) ?_
    rw [← unhide HWD]
    have hHeld : (fun u => (u.cell? ⟨b, 3, none⟩ = some v0 ∧ u.cell? ⟨b, 4, none⟩ = some v1 ∧ u.cell? ⟨b, 5, none⟩ = some v2 ∧ u.cell? ⟨b, 6, none⟩ = some v3 ∧ u.cell? ⟨b, 7, none⟩ = some v4 ∧ u.cell? ⟨b, 8, none⟩ = some v5 ∧ u.cell? ⟨b, 9, none⟩ = some v6 ∧ u.cell? ⟨b, 10, none⟩ = some v7 ∧ u.cell? ⟨b, 11, none⟩ = some v8 ∧ u.cell? ⟨b, 12, none⟩ = some v9 ∧ u.cell? ⟨b, 13, none⟩ = some v10 ∧ u.cell? ⟨b, 14, none⟩ = some v11 ∧ u.cell? ⟨b, 15, none⟩ = some (.int .i64 pl)) ∧ u.cell? ⟨b, 16, none⟩ = some (.int .i64 x.p.W) ∧ u.cell? ⟨b, 17, none⟩ = some (.int .i64 x.p.H) ∧ u.cell? ⟨b, 18, none⟩ = some (.string x.p.C) ∧ u.cell? ⟨b, 19, none⟩ = some (.int .i64 x.p.T) ∧ u.cell? ⟨b, 20, none⟩ = some (.string x.p.A) ∧ u.cell? ⟨b, 21, none⟩ = some (.string x.p.B)) wd := unhide HS _ (unhide HB)
    refine wpAnyV_tk (i := 0) (oi := _) (v := ?_) rfl (by kernel_rfl) (by kernel_rfl) (by kernel_rfl) (by kernel_rfl) (fun _ _ _ h => h) (Or.inl ⟨by rfl, ?_⟩) (by assumption) ?_
    rotate_left 1
    · (intro u hSu; (try dsimp only at hSu); go_simp; first | done | with_reducible rfl | rfl)
    simp only [Act.put, List.getElem_toArray, List.getElem_cons_zero, List.setIfInBounds_toArray, List.set_cons_zero, List.set_cons_succ]
    refine wpAnyV_tk (i := 1) (oi := _) (v := ?_) rfl (by kernel_rfl) (by kernel_rfl) (by kernel_rfl) (by kernel_rfl) (fun _ _ _ h => h) (Or.inl ⟨by rfl, ?_⟩) (by assumption) ?_
    rotate_left 1
    · (intro u hSu; (try dsimp only at hSu); go_simp; first | done | with_reducible rfl | rfl)
    simp only [Act.put, List.getElem_toArray, List.getElem_cons_zero, List.getElem_cons_succ, List.setIfInBounds_toArray, List.set_cons_zero, List.set_cons_succ]
    refine wpAnyV_tk (i := 2) (oi := _) (v := ?_) rfl (by kernel_rfl) (by kernel_rfl) (by kernel_rfl) (by kernel_rfl) (fun _ _ _ h => h) (Or.inl ⟨by rfl, ?_⟩) (by assumption) ?_
    rotate_left 1
    · (intro u hSu; (try dsimp only at hSu); go_simp; first | done | with_reducible rfl | rfl)
    simp only [Act.put, List.getElem_toArray, List.getElem_cons_zero, List.getElem_cons_succ, List.setIfInBounds_toArray, List.set_cons_zero, List.set_cons_succ]
    refine wpAnyV_tk (i := 3) (oi := _) (v := ?_) rfl (by kernel_rfl) (by kernel_rfl) (by kernel_rfl) (by kernel_rfl) (fun _ _ _ h => h) (Or.inl ⟨by rfl, ?_⟩) (by assumption) ?_
    rotate_left 1
    · (intro u hSu; (try dsimp only at hSu); go_simp; first | done | with_reducible rfl | rfl)
    simp only [Act.put, List.getElem_toArray, List.getElem_cons_zero, List.getElem_cons_succ, List.setIfInBounds_toArray, List.set_cons_zero, List.set_cons_succ]
    refine wpAnyV_tk (i := 4) (oi := _) (v := ?_) rfl (by kernel_rfl) (by kernel_rfl) (by kernel_rfl) (by kernel_rfl) (fun _ _ _ h => h) (Or.inl ⟨by rfl, ?_⟩) (by assumption) ?_
    rotate_left 1
    · (intro u hSu; (try dsimp only at hSu); go_simp; first | done | with_reducible rfl | rfl)
    simp only [Act.put, List.getElem_toArray, List.getElem_cons_zero, List.getElem_cons_succ, List.setIfInBounds_toArray, List.set_cons_zero, List.set_cons_succ]
    refine wpAnyV_tk (i := 5) (oi := _) (v := ?_) rfl (by kernel_rfl) (by kernel_rfl) (by kernel_rfl) (by kernel_rfl) (fun _ _ _ h => h) (Or.inl ⟨by rfl, ?_⟩) (by assumption) ?_
    rotate_left 1
    · (intro u hSu; (try dsimp only at hSu); go_simp; first | done | with_reducible rfl | rfl)
    simp only [Act.put, List.getElem_toArray, List.getElem_cons_zero, List.getElem_cons_succ, List.setIfInBounds_toArray, List.set_cons_zero, List.set_cons_succ]
    refine wpAnyV_tk (i := 6) (oi := _) (v := ?_) rfl (by kernel_rfl) (by kernel_rfl) (by kernel_rfl) (by kernel_rfl) (fun _ _ _ h => h) (Or.inl ⟨by rfl, ?_⟩) (by assumption) ?_
    rotate_left 1
    · (intro u hSu; (try dsimp only at hSu); go_simp; first | done | with_reducible rfl | rfl)
    simp only [Act.put, List.getElem_toArray, List.getElem_cons_zero, List.getElem_cons_succ, List.setIfInBounds_toArray, List.set_cons_zero, List.set_cons_succ]
    refine wpAnyV_tk (i := 7) (oi := _) (v := ?_) rfl (by kernel_rfl) (by kernel_rfl) (by kernel_rfl) (by kernel_rfl) (fun _ _ _ h => h) (Or.inl ⟨by rfl, ?_⟩) (by assumption) ?_
    rotate_left 1
    · (intro u hSu; (try dsimp only at hSu); go_simp; first | done | with_reducible rfl | rfl)
    simp only [Act.put, List.getElem_toArray, List.getElem_cons_zero, List.getElem_cons_succ, List.setIfInBounds_toArray, List.set_cons_zero, List.set_cons_succ]
    refine wpAnyV_tk (i := 8) (oi := _) (v := ?_) rfl (by kernel_rfl) (by kernel_rfl) (by kernel_rfl) (by kernel_rfl) (fun _ _ _ h => h) (Or.inl ⟨by rfl, ?_⟩) (by assumption) ?_
    rotate_left 1
    · (intro u hSu; (try dsimp only at hSu); go_simp; first | done | with_reducible rfl | rfl)
    simp only [Act.put, List.getElem_toArray, List.getElem_cons_zero, List.getElem_cons_succ, List.setIfInBounds_toArray, List.set_cons_zero, List.set_cons_succ]
    refine wpAnyV_ready (rs := [9, 13]) (by kernel_rfl) (by simp) ?_
    refine ReadyV.cons (o := _) rfl (fun K hK => ?_) (ReadyV.cons (o := _) rfl (fun K hK => ?_) ReadyV.nil)
    · clear hHeld
      -- wd world at hand (Below w wd is HB), w3 world behind
      refine step_callH (by rfl) 104 #[.tmp 13, .tmp 17, .tmp 18] #[27, 24, 9] rfl #[.agg #[v0, v1, v2, v3, v4, v5, v6, v7, v8, v9, v10, v11, .int .i64 pl], .agg #[.int .i64 x.p.W, .int .i64 x.p.H, .string x.p.C, .int .i64 x.p.T, .string x.p.A, .string x.p.B], .string s] (by simp [Act.eval]) entRead (unhide HR _ (unhide HK _ (unhide HB))) ?_
      rintro e w3 ⟨rfl, bw3⟩
      refine ⟨_, rfl, ?_⟩
      have hww3 : Below w.heap.size w w3 := (unhide HB).trans (bw3.mono (unhide HB).size)
      have hHeld : (fun u => (u.cell? ⟨b, 3, none⟩ = some v0 ∧ u.cell? ⟨b, 4, none⟩ = some v1 ∧ u.cell? ⟨b, 5, none⟩ = some v2 ∧ u.cell? ⟨b, 6, none⟩ = some v3 ∧ u.cell? ⟨b, 7, none⟩ = some v4 ∧ u.cell? ⟨b, 8, none⟩ = some v5 ∧ u.cell? ⟨b, 9, none⟩ = some v6 ∧ u.cell? ⟨b, 10, none⟩ = some v7 ∧ u.cell? ⟨b, 11, none⟩ = some v8 ∧ u.cell? ⟨b, 12, none⟩ = some v9 ∧ u.cell? ⟨b, 13, none⟩ = some v10 ∧ u.cell? ⟨b, 14, none⟩ = some v11 ∧ u.cell? ⟨b, 15, none⟩ = some (.int .i64 pl)) ∧ u.cell? ⟨b, 16, none⟩ = some (.int .i64 x.p.W) ∧ u.cell? ⟨b, 17, none⟩ = some (.int .i64 x.p.H) ∧ u.cell? ⟨b, 18, none⟩ = some (.string x.p.C) ∧ u.cell? ⟨b, 19, none⟩ = some (.int .i64 x.p.T) ∧ u.cell? ⟨b, 20, none⟩ = some (.string x.p.A) ∧ u.cell? ⟨b, 21, none⟩ = some (.string x.p.B)) w3 := unhide HS _ hww3
      refine hK.out _ _ (fun _ => hHeld) ?_
      clear hK K
      try simp only [Act.put, List.getElem_toArray, List.getElem_cons_zero, List.getElem_cons_succ, List.setIfInBounds_toArray, List.set_cons_zero, List.set_cons_succ]
      have HB3 := hide hww3
      refine wpAnyV_pure (i := 10) (oi := _) (v := ?_) rfl (by kernel_rfl) (by kernel_rfl) (by kernel_rfl) (by kernel_rfl) (fun _ _ _ h => h) (Or.inl ⟨by rfl, ?_⟩) (by first | exact fun _ => hHeld | (intro h; exact absurd h (by decide))) ?_
      rotate_left 1
      · (intro u _; go_simp; first | done | with_reducible rfl | rfl)
      simp only [Act.put, List.getElem_toArray, List.getElem_cons_zero, List.getElem_cons_succ, List.setIfInBounds_toArray, List.set_cons_zero, List.set_cons_succ]
      refine wpAnyV_pure (i := 11) (oi := _) (v := ?_) rfl (by kernel_rfl) (by kernel_rfl) (by kernel_rfl) (by kernel_rfl) (fun _ _ _ h => h) (Or.inl ⟨by rfl, ?_⟩) (by first | exact fun _ => hHeld | (intro h; exact absurd h (by decide))) ?_
      rotate_left 1
      · (intro u _; go_simp; first | done | with_reducible rfl | rfl)
      simp only [Act.put, List.getElem_toArray, List.getElem_cons_zero, List.getElem_cons_succ, List.setIfInBounds_toArray, List.set_cons_zero, List.set_cons_succ]
      refine wpAnyV_pure (i := 12) (oi := _) (v := ?_) rfl (by kernel_rfl) (by kernel_rfl) (by kernel_rfl) (by kernel_rfl) (fun _ _ _ h => h) (Or.inl ⟨by rfl, ?_⟩) (by first | exact fun _ => hHeld | (intro h; exact absurd h (by decide))) ?_
      rotate_left 1
      · (intro u _; go_simp; first | done | with_reducible rfl | rfl)
      simp only [Act.put, List.getElem_toArray, List.getElem_cons_zero, List.getElem_cons_succ, List.setIfInBounds_toArray, List.set_cons_zero, List.set_cons_succ]
      refine wpAnyV_ready (rs := [13]) (by kernel_rfl) (by simp) ?_
      refine ReadyV.cons (o := _) rfl (fun K hK => ?_) ReadyV.nil
      clear hHeld
      -- w3 world at hand (Below w w3 is HB3, held -), w4 world behind
      go_simp
      obtain ⟨w4, hw4⟩ : ∃ u, u = (w3).alloc (.cells #[.int .i64 0, .int .i64 0, .int .u8 0] 61 (0, 0)) := ⟨_, rfl⟩
      have bw4 : Below (w3).heap.size (w3) w4 := by rw [hw4]; exact (Below.refl _ _).alloc (Nat.le_refl _) _
      have hmw4 : isMb w4 (w3).heap.size 0 0 0 := by rw [hw4]; exact heap_alloc_new _ _
      rw [← hw4]
      have hww4 : Below w.heap.size w w4 := (unhide HB3).trans (bw4.mono (unhide HB3).size)
      have hHeld : (fun u => (u.cell? ⟨b, 3, none⟩ = some v0 ∧ u.cell? ⟨b, 4, none⟩ = some v1 ∧ u.cell? ⟨b, 5, none⟩ = some v2 ∧ u.cell? ⟨b, 6, none⟩ = some v3 ∧ u.cell? ⟨b, 7, none⟩ = some v4 ∧ u.cell? ⟨b, 8, none⟩ = some v5 ∧ u.cell? ⟨b, 9, none⟩ = some v6 ∧ u.cell? ⟨b, 10, none⟩ = some v7 ∧ u.cell? ⟨b, 11, none⟩ = some v8 ∧ u.cell? ⟨b, 12, none⟩ = some v9 ∧ u.cell? ⟨b, 13, none⟩ = some v10 ∧ u.cell? ⟨b, 14, none⟩ = some v11 ∧ u.cell? ⟨b, 15, none⟩ = some (.int .i64 pl)) ∧ u.cell? ⟨b, 16, none⟩ = some (.int .i64 x.p.W) ∧ u.cell? ⟨b, 17, none⟩ = some (.int .i64 x.p.H) ∧ u.cell? ⟨b, 18, none⟩ = some (.string x.p.C) ∧ u.cell? ⟨b, 19, none⟩ = some (.int .i64 x.p.T) ∧ u.cell? ⟨b, 20, none⟩ = some (.string x.p.A) ∧ u.cell? ⟨b, 21, none⟩ = some (.string x.p.B)) w4 := unhide HS _ hww4
      refine hK.out _ _ (fun _ => hHeld) ?_
      clear hK K hw4
      try simp only [Act.put, List.getElem_toArray, List.getElem_cons_zero, List.getElem_cons_succ, List.setIfInBounds_toArray, List.set_cons_zero, List.set_cons_succ]
      clear hHeld
      have hfin := And.intro (isMb.setAllH hmw4 m.f m.t m.c) (And.intro (below_set3H hww4 hww3.size (.int .i64 m.f) (.int .i64 (m.t : Int)) (.int .u8 (m.c : Int))) hww3.size)
      obtain ⟨c0, c1, c2⟩ := hmw4.all
      have z0 := hmw4.frozenH 0
      have z1 := hmw4.frozenH 1
      have z2 := hmw4.frozenH 2
      refine wpAnyV_ready (rs := [14]) (by kernel_rfl) (by simp) ?_
      refine ReadyV.cons (o := _) rfl (fun K hK => ?_) ReadyV.nil
      go_simp
      refine hK.out _ _ (fun h => absurd h (by decide)) ?_
      try simp only [Act.put, List.getElem_toArray, List.getElem_cons_zero, List.getElem_cons_succ, List.setIfInBounds_toArray, List.set_cons_zero, List.set_cons_succ]
      refine wpAnyV_pure (i := 15) (oi := _) (v := ?_) rfl (by kernel_rfl) (by kernel_rfl) (by kernel_rfl) (by kernel_rfl) (fun _ _ _ h => h) (Or.inl ⟨by rfl, ?_⟩) (by first | exact fun _ => hHeld | (intro h; exact absurd h (by decide))) ?_
      rotate_left 1
      · (intro u _; go_simp; first | done | with_reducible rfl | rfl)
      simp only [Act.put, List.getElem_toArray, List.getElem_cons_zero, List.getElem_cons_succ, List.setIfInBounds_toArray, List.set_cons_zero, List.set_cons_succ]
      refine wpAnyV_done (by kernel_rfl) ?_ _
      clear hK K c0 c1 c2 z0 z1 z2 hmw4 hww4 bw4 hww3 bw3
      generalize w3.heap.size = g at hfin ⊢
      generalize ((w4.setCell ⟨g, 0, none⟩ (.int .i64 m.f)).setCell ⟨g, 1, none⟩ (.int .i64 (m.t : Int))).setCell ⟨g, 2, none⟩ (.int .u8 (m.c : Int)) = v at hfin ⊢
      exact unhide key g v hfin
    · clear hHeld
      -- wd world at hand (Below w wd is HB, held -), w3 world behind
      go_simp
      obtain ⟨w3, hw3⟩ : ∃ u, u = (wd).alloc (.cells #[.int .i64 0, .int .i64 0, .int .u8 0] 61 (0, 0)) := ⟨_, rfl⟩
      have bw3 : Below (wd).heap.size (wd) w3 := by rw [hw3]; exact (Below.refl _ _).alloc (Nat.le_refl _) _
      have hmw3 : isMb w3 (wd).heap.size 0 0 0 := by rw [hw3]; exact heap_alloc_new _ _
      rw [← hw3]
      have hww3 : Below w.heap.size w w3 := (unhide HB).trans (bw3.mono (unhide HB).size)
      have hHeld : (fun u => (u.cell? ⟨b, 3, none⟩ = some v0 ∧ u.cell? ⟨b, 4, none⟩ = some v1 ∧ u.cell? ⟨b, 5, none⟩ = some v2 ∧ u.cell? ⟨b, 6, none⟩ = some v3 ∧ u.cell? ⟨b, 7, none⟩ = some v4 ∧ u.cell? ⟨b, 8, none⟩ = some v5 ∧ u.cell? ⟨b, 9, none⟩ = some v6 ∧ u.cell? ⟨b, 10, none⟩ = some v7 ∧ u.cell? ⟨b, 11, none⟩ = some v8 ∧ u.cell? ⟨b, 12, none⟩ = some v9 ∧ u.cell? ⟨b, 13, none⟩ = some v10 ∧ u.cell? ⟨b, 14, none⟩ = some v11 ∧ u.cell? ⟨b, 15, none⟩ = some (.int .i64 pl)) ∧ u.cell? ⟨b, 16, none⟩ = some (.int .i64 x.p.W) ∧ u.cell? ⟨b, 17, none⟩ = some (.int .i64 x.p.H) ∧ u.cell? ⟨b, 18, none⟩ = some (.string x.p.C) ∧ u.cell? ⟨b, 19, none⟩ = some (.int .i64 x.p.T) ∧ u.cell? ⟨b, 20, none⟩ = some (.string x.p.A) ∧ u.cell? ⟨b, 21, none⟩ = some (.string x.p.B)) w3 := unhide HS _ hww3
      refine hK.out _ _ (fun _ => hHeld) ?_
      clear hK K hw3
      try simp only [Act.put, List.getElem_toArray, List.getElem_cons_zero, List.getElem_cons_succ, List.setIfInBounds_toArray, List.set_cons_zero, List.set_cons_succ]
      have HB3 := hide hww3
      refine wpAnyV_ready (rs := [9]) (by kernel_rfl) (by simp) ?_
      refine ReadyV.cons (o := _) rfl (fun K hK => ?_) ReadyV.nil
      clear hHeld
      -- w3 world at hand (Below w w3 is HB3), w4 world behind
      refine step_callH (by rfl) 104 #[.tmp 13, .tmp 17, .tmp 18] #[27, 24, 9] rfl #[.agg #[v0, v1, v2, v3, v4, v5, v6, v7, v8, v9, v10, v11, .int .i64 pl], .agg #[.int .i64 x.p.W, .int .i64 x.p.H, .string x.p.C, .int .i64 x.p.T, .string x.p.A, .string x.p.B], .string s] (by simp [Act.eval]) entRead (unhide HR _ (unhide HK _ (unhide HB3))) ?_
      rintro e w4 ⟨rfl, bw4⟩
      refine ⟨_, rfl, ?_⟩
      have hww4 : Below w.heap.size w w4 := (unhide HB3).trans (bw4.mono (unhide HB3).size)
      have hHeld : (fun u => (u.cell? ⟨b, 3, none⟩ = some v0 ∧ u.cell? ⟨b, 4, none⟩ = some v1 ∧ u.cell? ⟨b, 5, none⟩ = some v2 ∧ u.cell? ⟨b, 6, none⟩ = some v3 ∧ u.cell? ⟨b, 7, none⟩ = some v4 ∧ u.cell? ⟨b, 8, none⟩ = some v5 ∧ u.cell? ⟨b, 9, none⟩ = some v6 ∧ u.cell? ⟨b, 10, none⟩ = some v7 ∧ u.cell? ⟨b, 11, none⟩ = some v8 ∧ u.cell? ⟨b, 12, none⟩ = some v9 ∧ u.cell? ⟨b, 13, none⟩ = some v10 ∧ u.cell? ⟨b, 14, none⟩ = some v11 ∧ u.cell? ⟨b, 15, none⟩ = some (.int .i64 pl)) ∧ u.cell? ⟨b, 16, none⟩ = some (.int .i64 x.p.W) ∧ u.cell? ⟨b, 17, none⟩ = some (.int .i64 x.p.H) ∧ u.cell? ⟨b, 18, none⟩ = some (.string x.p.C) ∧ u.cell? ⟨b, 19, none⟩ = some (.int .i64 x.p.T) ∧ u.cell? ⟨b, 20, none⟩ = some (.string x.p.A) ∧ u.cell? ⟨b, 21, none⟩ = some (.string x.p.B)) w4 := unhide HS _ hww4
      refine hK.out _ _ (fun _ => hHeld) ?_
      clear hK K
      try simp only [Act.put, List.getElem_toArray, List.getElem_cons_zero, List.getElem_cons_succ, List.setIfInBounds_toArray, List.set_cons_zero, List.set_cons_succ]
      refine wpAnyV_pure (i := 10) (oi := _) (v := ?_) rfl (by kernel_rfl) (by kernel_rfl) (by kernel_rfl) (by kernel_rfl) (fun _ _ _ h => h) (Or.inl ⟨by rfl, ?_⟩) (by first | exact fun _ => hHeld | (intro h; exact absurd h (by decide))) ?_
      rotate_left 1
      · (intro u _; go_simp; first | done | with_reducible rfl | rfl)
      simp only [Act.put, List.getElem_toArray, List.getElem_cons_zero, List.getElem_cons_succ, List.setIfInBounds_toArray, List.set_cons_zero, List.set_cons_succ]
      refine wpAnyV_pure (i := 11) (oi := _) (v := ?_) rfl (by kernel_rfl) (by kernel_rfl) (by kernel_rfl) (by kernel_rfl) (fun _ _ _ h => h) (Or.inl ⟨by rfl, ?_⟩) (by first | exact fun _ => hHeld | (intro h; exact absurd h (by decide))) ?_
      rotate_left 1
      · (intro u _; go_simp; first | done | with_reducible rfl | rfl)
      simp only [Act.put, List.getElem_toArray, List.getElem_cons_zero, List.getElem_cons_succ, List.setIfInBounds_toArray, List.set_cons_zero, List.set_cons_succ]
      refine wpAnyV_pure (i := 12) (oi := _) (v := ?_) rfl (by kernel_rfl) (by kernel_rfl) (by kernel_rfl) (by kernel_rfl) (fun _ _ _ h => h) (Or.inl ⟨by rfl, ?_⟩) (by first | exact fun _ => hHeld | (intro h; exact absurd h (by decide))) ?_
      rotate_left 1
      · (intro u _; go_simp; first | done | with_reducible rfl | rfl)
      simp only [Act.put, List.getElem_toArray, List.getElem_cons_zero, List.getElem_cons_succ, List.setIfInBounds_toArray, List.set_cons_zero, List.set_cons_succ]
      clear hHeld
      have hm4 := hmw3.below bw4 hmw3.lt
      have hsz : w.heap.size ≤ wd.heap.size := (unhide HB).size
      have hfin := And.intro (isMb.setAllH hm4 m.f m.t m.c) (And.intro (below_set3H hww4 hsz (.int .i64 m.f) (.int .i64 (m.t : Int)) (.int .u8 (m.c : Int))) hsz)
      obtain ⟨c0, c1, c2⟩ := hm4.all
      have z0 := hm4.frozenH 0
      have z1 := hm4.frozenH 1
      have z2 := hm4.frozenH 2
      refine wpAnyV_ready (rs := [14]) (by kernel_rfl) (by simp) ?_
      refine ReadyV.cons (o := _) rfl (fun K hK => ?_) ReadyV.nil
      go_simp
      refine hK.out _ _ (fun h => absurd h (by decide)) ?_
      try simp only [Act.put, List.getElem_toArray, List.getElem_cons_zero, List.getElem_cons_succ, List.setIfInBounds_toArray, List.set_cons_zero, List.set_cons_succ]
      refine wpAnyV_pure (i := 15) (oi := _) (v := ?_) rfl (by kernel_rfl) (by kernel_rfl) (by kernel_rfl) (by kernel_rfl) (fun _ _ _ h => h) (Or.inl ⟨by rfl, ?_⟩) (by first | exact fun _ => hHeld | (intro h; exact absurd h (by decide))) ?_
      rotate_left 1
      · (intro u _; go_simp; first | done | with_reducible rfl | rfl)
      simp only [Act.put, List.getElem_toArray, List.getElem_cons_zero, List.getElem_cons_succ, List.setIfInBounds_toArray, List.set_cons_zero, List.set_cons_succ]
      refine wpAnyV_done (by kernel_rfl) ?_ _
      clear hK K c0 c1 c2 z0 z1 z2 hmw3 hm4 hww4 bw4 hww3 bw3 hsz
      generalize wd.heap.size = g at hfin ⊢
      generalize ((w4.setCell ⟨g, 0, none⟩ (.int .i64 m.f)).setCell ⟨g, 1, none⟩ (.int .i64 (m.t : Int))).setCell ⟨g, 2, none⟩ (.int .u8 (m.c : Int)) = v at hfin ⊢
      exact unhide key g v hfin
  rintro g v ⟨hmb, hbv, hg⟩
  subst hE
  go_wp2
  go_ret
  exact ⟨rfl, hbv⟩
end Go.Proofs.YtihojhfpepbjhaaGreatDoor
