/-
  package house, walked: move, where it is one.
-/
import Derived.Test.YtihojhfpepbjhaaGreatDoorJ27
namespace Go.Proofs.YtihojhfpepbjhaaGreatDoor
open Go.RowKit
attribute [local go_sem ↓] Go.wp_at_zero Go.wp_at_succ

theorem isPb.setAllH {w : World} {b : Nat} {W H T : Int} {C A B : ByteArray} (h : isPb w b W H T C A B) (W' H' T' : Int) (C' A' B' : ByteArray) : isPb ((((((w.setCell ⟨b, 0, none⟩ (.int .i64 W')).setCell ⟨b, 1, none⟩ (.int .i64 H')).setCell ⟨b, 2, none⟩ (.string C')).setCell ⟨b, 3, none⟩ (.int .i64 T')).setCell ⟨b, 4, none⟩ (.string A')).setCell ⟨b, 5, none⟩ (.string B')) b W' H' T' C' A' B' := by
  unfold isPb at h ⊢; simp [World.setCell, Array.getElem?_modify, h]
theorem isPb.frozenH {w : World} {b : Nat} {W H T : Int} {C A B : ByteArray} (h : isPb w b W H T C A B) (k : Nat) : w.frozen? ⟨b, k, none⟩ = false := frozen_of_row w b k _ _ h
theorem below_set6H {B : Nat} {w u : World} {b : Nat} (h : Below B w u) (hb : B ≤ b) (x0 x1 x2 x3 x4 x5 : Value) : Below B w ((((((u.setCell ⟨b, 0, none⟩ x0).setCell ⟨b, 1, none⟩ x1).setCell ⟨b, 2, none⟩ x2).setCell ⟨b, 3, none⟩ x3).setCell ⟨b, 4, none⟩ x4).setCell ⟨b, 5, none⟩ x5) := (((((h.setCell (p := ⟨b, 0, none⟩) hb x0).setCell (p := ⟨b, 1, none⟩) hb x1).setCell (p := ⟨b, 2, none⟩) hb x2).setCell (p := ⟨b, 3, none⟩) hb x3).setCell (p := ⟨b, 4, none⟩) hb x4).setCell (p := ⟨b, 5, none⟩) hb x5
set_option maxHeartbeats 4000000 in
set_option maxRecDepth 100000 in
/-- move, where it is a move. -/
theorem move_yes (G : Gm) (b S : Nat) (v0 v1 v2 v3 v4 v5 v6 v7 v8 v9 v10 v11 : Value) (x : Ho) (o : Int) (s : ByteArray) (m : Mv) (p : Po) (w00 w : World) (h : isHo w b v0 v1 v2 v3 v4 v5 v6 v7 v8 v9 v10 v11 (.int .i64 G.pl) x o) (hS : S ≤ b) (h00 : Below S w00 w)
    (hR : ∀ u, Below S w00 u → Calls Tryz.prog 104 #[.agg #[v0, v1, v2, v3, v4, v5, v6, v7, v8, v9, v10, v11, .int .i64 G.pl], .agg #[.int .i64 x.p.W, .int .i64 x.p.H, .string x.p.C, .int .i64 x.p.T, .string x.p.A, .string x.p.B], .string s] u fun e u' => e = .returned (.tuple #[.agg #[.int .i64 m.f, .int .i64 (m.t : Int), .int .u8 (m.c : Int)], .int .i64 0]) ∧ Below u.heap.size u u')
    (hA : ∀ u, Below S w00 u → Calls Tryz.prog 105 #[.agg #[v0, v1, v2, v3, v4, v5, v6, v7, v8, v9, v10, v11, .int .i64 G.pl], .agg #[.int .i64 x.p.W, .int .i64 x.p.H, .string x.p.C, .int .i64 x.p.T, .string x.p.A, .string x.p.B], .agg #[.int .i64 m.f, .int .i64 (m.t : Int), .int .u8 (m.c : Int)]] u fun e u' => e = .returned (.tuple #[.agg #[.int .i64 p.W, .int .i64 p.H, .string p.C, .int .i64 p.T, .string p.A, .string p.B], .int .i64 0]) ∧ Below u.heap.size u u')
    (hO : ∀ u, Below S w00 u → Calls Tryz.prog 60 #[.agg #[v0, v1, v2, v3, v4, v5, v6, v7, v8, v9, v10, v11, .int .i64 G.pl], .agg #[.int .i64 p.W, .int .i64 p.H, .string p.C, .int .i64 p.T, .string p.A, .string p.B]] u fun e u' => e = .returned (.tuple #[.int .i64 (G.O p), .int .i64 0]) ∧ Below u.heap.size u u')
    (hTab : ∀ u, Below S w00 u → isTab u) (hy : 0 ≤ x.ply ∧ x.ply ≤ 1000) (hn : 0 ≤ x.now ∧ x.now < 9223372036854775808) (hs10 : s.size ≤ 10) (htx : (x.tx.size : Int) ≤ 100 * x.ply) :
    Calls Tryz.prog 68 #[.pointer (some ⟨b, 0, none⟩), .string s] w fun e w' => e = .returned (.bool true) ∧ isHo w' b v0 v1 v2 v3 v4 v5 v6 v7 v8 v9 v10 v11 (.int .i64 G.pl) { x with p := p, ply := x.ply + 1, tx := x.tx ++ lineX x.ply x.now s } (G.said p (x.ply + 1)) ∧ Ex b w.heap.size w w' := by
  have HA := hide hA
  have HLN := hide (fun u (hu : Below S w00 u) => lineOf_any x.ply x.now s u ⟨hy.1, by omega⟩ hn hs10 (hTab u hu))
  have HLL := lineX_len (ply := x.ply) (now := x.now) (mv := s) ⟨hy.1, by omega⟩ hn hs10
  have HCT := hide (fun (x' : Ho) (o' : Int) (u : World) (hu : isHo u b v0 v1 v2 v3 v4 v5 v6 v7 v8 v9 v10 v11 (.int .i64 G.pl) x' o') (hb : Below S w00 u) => comeTo_any G b S v0 v1 v2 v3 v4 v5 v6 v7 v8 v9 v10 v11 x' o' p w00 u hu hS hb hO)
  have H0 := hide h
  obtain ⟨LN, hLN⟩ : ∃ LN, LN = lineX x.ply x.now s := ⟨_, rfl⟩
  rw [← hLN] at HLN HLL ⊢
  have hwrap : IntKind.i64.wrap (x.ply + 1) = x.ply + 1 := IntWalk.i64_in _ (by omega)
  have hcat : ¬ 9223372036854775807 < x.tx.size + LN.size := by omega
  have HYN := hide hy
  have hSb := hide hS
  clear hA hO hTab hLN HLL hs10 htx hn hy
  generalize hsaid : G.said p = SD at *
  clear hsaid
  have HR := hide hR
  clear hR
  generalize G.pl = pl at *
  have HK : Hid (∀ u, Below w.heap.size w u → Below S w00 u) := hide fun u hu => h00.trans (hu.mono (Nat.le_trans hS (Nat.le_of_lt (isH.lt h))))
  have HS : Hid (∀ u, Below w.heap.size w u → (fun u => (u.cell? ⟨b, 3, none⟩ = some v0 ∧ u.cell? ⟨b, 4, none⟩ = some v1 ∧ u.cell? ⟨b, 5, none⟩ = some v2 ∧ u.cell? ⟨b, 6, none⟩ = some v3 ∧ u.cell? ⟨b, 7, none⟩ = some v4 ∧ u.cell? ⟨b, 8, none⟩ = some v5 ∧ u.cell? ⟨b, 9, none⟩ = some v6 ∧ u.cell? ⟨b, 10, none⟩ = some v7 ∧ u.cell? ⟨b, 11, none⟩ = some v8 ∧ u.cell? ⟨b, 12, none⟩ = some v9 ∧ u.cell? ⟨b, 13, none⟩ = some v10 ∧ u.cell? ⟨b, 14, none⟩ = some v11 ∧ u.cell? ⟨b, 15, none⟩ = some (.int .i64 pl)) ∧ u.cell? ⟨b, 16, none⟩ = some (.int .i64 x.p.W) ∧ u.cell? ⟨b, 17, none⟩ = some (.int .i64 x.p.H) ∧ u.cell? ⟨b, 18, none⟩ = some (.string x.p.C) ∧ u.cell? ⟨b, 19, none⟩ = some (.int .i64 x.p.T) ∧ u.cell? ⟨b, 20, none⟩ = some (.string x.p.A) ∧ u.cell? ⟨b, 21, none⟩ = some (.string x.p.B)) u) := hide fun u hu => by
    have c := isH.cells (isH.below h hu (isH.lt h))
    exact ⟨c.2.1, c.2.2.1⟩
  obtain ⟨wd, hwd⟩ : ∃ wd, wd = w.drew := ⟨_, rfl⟩
  have HB : Hid (Below w.heap.size w wd) := hide (by rw [hwd]; exact (Below.refl _ _).drew)
  have HWD := hide hwd
  clear hwd
  clear h h00 hS
  go_enter Tryz.func68, Tryz.ntmps68
  go_upto_region 1 with fail
  apply cutForH (fun g v => isMb v g m.f m.t m.c ∧ Below w.heap.size w v ∧ w.heap.size ≤ g)
  case k =>
    intro key
    refine wp_region_v [14] (fun u => (u.cell? ⟨b, 3, none⟩ = some v0 ∧ u.cell? ⟨b, 4, none⟩ = some v1 ∧ u.cell? ⟨b, 5, none⟩ = some v2 ∧ u.cell? ⟨b, 6, none⟩ = some v3 ∧ u.cell? ⟨b, 7, none⟩ = some v4 ∧ u.cell? ⟨b, 8, none⟩ = some v5 ∧ u.cell? ⟨b, 9, none⟩ = some v6 ∧ u.cell? ⟨b, 10, none⟩ = some v7 ∧ u.cell? ⟨b, 11, none⟩ = some v8 ∧ u.cell? ⟨b, 12, none⟩ = some v9 ∧ u.cell? ⟨b, 13, none⟩ = some v10 ∧ u.cell? ⟨b, 14, none⟩ = some v11 ∧ u.cell? ⟨b, 15, none⟩ = some (.int .i64 pl)) ∧ u.cell? ⟨b, 16, none⟩ = some (.int .i64 x.p.W) ∧ u.cell? ⟨b, 17, none⟩ = some (.int .i64 x.p.H) ∧ u.cell? ⟨b, 18, none⟩ = some (.string x.p.C) ∧ u.cell? ⟨b, 19, none⟩ = some (.int .i64 x.p.T) ∧ u.cell? ⟨b, 20, none⟩ = some (.string x.p.A) ∧ u.cell? ⟨b, 21, none⟩ = some (.string x.p.B)) (by kernel_rfl) ?_
    rw [← unhide HWD]
    have hHeld := unhide HS _ (unhide HB)
    refine wpAnyV_tk (i := 0) (oi := _) (v := ?_) rfl (by kernel_rfl) (by kernel_rfl) (by kernel_rfl) (by kernel_rfl) (fun _ _ _ h => h) (Or.inl ⟨by rfl, ?_⟩) (by assumption) ?_
    rotate_left 1
    · (intro u hSu; (try dsimp only at hSu); go_simp; first | done | with_reducible rfl | rfl)
    simp only [Act.put, List.getElem_toArray, List.getElem_cons_zero, List.setIfInBounds_toArray, List.set_cons_zero, List.set_cons_succ]
    refine wpAnyV_tk (i := 1) (oi := _) (v := ?_) rfl (by kernel_rfl) (by kernel_rfl) (by kernel_rfl) (by kernel_rfl) (fun _ _ _ h => h) (Or.inl ⟨by rfl, ?_⟩) (by assumption) ?_
    rotate_left 1
    · (intro u hSu; (try dsimp only at hSu); go_simp; first | done | with_reducible rfl | rfl)
    simp only [Act.put, List.getElem_toArray, List.getElem_cons_zero, List.getElem_cons_succ, List.setIfInBounds_toArray, List.set_cons_zero, List.set_cons_succ]
    refine wpAnyV_tk (i := 2) (oi := _) (v := ?_) rfl (by kernel_rfl) (by kernel_rfl) (by kernel_rfl) (by kernel_rfl) (fun _ _ _ h => h) (Or.inl ⟨by rfl, ?_⟩) (by assumption) ?_
    rotate_left 1
    · (intro u hSu; (try dsimp only at hSu); go_simp; first | done | with_reducible rfl | rfl)
    simp only [Act.put, List.getElem_toArray, List.getElem_cons_zero, List.getElem_cons_succ, List.setIfInBounds_toArray, List.set_cons_zero, List.set_cons_succ]
    refine wpAnyV_tk (i := 3) (oi := _) (v := ?_) rfl (by kernel_rfl) (by kernel_rfl) (by kernel_rfl) (by kernel_rfl) (fun _ _ _ h => h) (Or.inl ⟨by rfl, ?_⟩) (by assumption) ?_
    rotate_left 1
    · (intro u hSu; (try dsimp only at hSu); go_simp; first | done | with_reducible rfl | rfl)
    simp only [Act.put, List.getElem_toArray, List.getElem_cons_zero, List.getElem_cons_succ, List.setIfInBounds_toArray, List.set_cons_zero, List.set_cons_succ]
    refine wpAnyV_tk (i := 4) (oi := _) (v := ?_) rfl (by kernel_rfl) (by kernel_rfl) (by kernel_rfl) (by kernel_rfl) (fun _ _ _ h => h) (Or.inl ⟨by rfl, ?_⟩) (by assumption) ?_
    rotate_left 1
    · (intro u hSu; (try dsimp only at hSu); go_simp; first | done | with_reducible rfl | rfl)
    simp only [Act.put, List.getElem_toArray, List.getElem_cons_zero, List.getElem_cons_succ, List.setIfInBounds_toArray, List.set_cons_zero, List.set_cons_succ]
    refine wpAnyV_tk (i := 5) (oi := _) (v := ?_) rfl (by kernel_rfl) (by kernel_rfl) (by kernel_rfl) (by kernel_rfl) (fun _ _ _ h => h) (Or.inl ⟨by rfl, ?_⟩) (by assumption) ?_
    rotate_left 1
    · (intro u hSu; (try dsimp only at hSu); go_simp; first | done | with_reducible rfl | rfl)
    simp only [Act.put, List.getElem_toArray, List.getElem_cons_zero, List.getElem_cons_succ, List.setIfInBounds_toArray, List.set_cons_zero, List.set_cons_succ]
    refine wpAnyV_tk (i := 6) (oi := _) (v := ?_) rfl (by kernel_rfl) (by kernel_rfl) (by kernel_rfl) (by kernel_rfl) (fun _ _ _ h => h) (Or.inl ⟨by rfl, ?_⟩) (by assumption) ?_
    rotate_left 1
    · (intro u hSu; (try dsimp only at hSu); go_simp; first | done | with_reducible rfl | rfl)
    simp only [Act.put, List.getElem_toArray, List.getElem_cons_zero, List.getElem_cons_succ, List.setIfInBounds_toArray, List.set_cons_zero, List.set_cons_succ]
    refine wpAnyV_tk (i := 7) (oi := _) (v := ?_) rfl (by kernel_rfl) (by kernel_rfl) (by kernel_rfl) (by kernel_rfl) (fun _ _ _ h => h) (Or.inl ⟨by rfl, ?_⟩) (by assumption) ?_
    rotate_left 1
    · (intro u hSu; (try dsimp only at hSu); go_simp; first | done | with_reducible rfl | rfl)
    simp only [Act.put, List.getElem_toArray, List.getElem_cons_zero, List.getElem_cons_succ, List.setIfInBounds_toArray, List.set_cons_zero, List.set_cons_succ]
    refine wpAnyV_tk (i := 8) (oi := _) (v := ?_) rfl (by kernel_rfl) (by kernel_rfl) (by kernel_rfl) (by kernel_rfl) (fun _ _ _ h => h) (Or.inl ⟨by rfl, ?_⟩) (by assumption) ?_
    rotate_left 1
    · (intro u hSu; (try dsimp only at hSu); go_simp; first | done | with_reducible rfl | rfl)
    simp only [Act.put, List.getElem_toArray, List.getElem_cons_zero, List.getElem_cons_succ, List.setIfInBounds_toArray, List.set_cons_zero, List.set_cons_succ]
    refine wpAnyV_ready (rs := [9, 13]) (by kernel_rfl) (by simp) ?_
    refine ReadyV.cons (o := _) rfl (fun K hK => ?_) (ReadyV.cons (o := _) rfl (fun K hK => ?_) ReadyV.nil)
    · clear hHeld
      -- wd world at hand (Below w wd is HB), w3 world behind
      refine step_callH (by rfl) 104 #[.tmp 13, .tmp 17, .tmp 18] #[27, 24, 9] rfl #[.agg #[v0, v1, v2, v3, v4, v5, v6, v7, v8, v9, v10, v11, .int .i64 pl], .agg #[.int .i64 x.p.W, .int .i64 x.p.H, .string x.p.C, .int .i64 x.p.T, .string x.p.A, .string x.p.B], .string s] (by simp [Act.eval]) entRead (unhide HR _ (unhide HK _ (unhide HB))) ?_
      rintro e w3 ⟨rfl, bw3⟩
      refine ⟨_, rfl, ?_⟩
      have hww3 : Below w.heap.size w w3 := (unhide HB).trans (bw3.mono (unhide HB).size)
      have hHeld := unhide HS _ hww3
      refine hK.out _ _ (fun _ => hHeld) ?_
      clear hK K
      try simp only [Act.put, List.getElem_toArray, List.getElem_cons_zero, List.getElem_cons_succ, List.setIfInBounds_toArray, List.set_cons_zero, List.set_cons_succ]
      have HB3 := hide hww3
      refine wpAnyV_pure (i := 10) (oi := _) (v := ?_) rfl (by kernel_rfl) (by kernel_rfl) (by kernel_rfl) (by kernel_rfl) (fun _ _ _ h => h) (Or.inl ⟨by rfl, ?_⟩) (by first | exact fun _ => hHeld | (intro h; exact absurd h (by decide))) ?_
      rotate_left 1
      · (intro u _; go_simp; first | done | with_reducible rfl | rfl)
      simp only [Act.put, List.getElem_toArray, List.getElem_cons_zero, List.getElem_cons_succ, List.setIfInBounds_toArray, List.set_cons_zero, List.set_cons_succ]
      refine wpAnyV_pure (i := 11) (oi := _) (v := ?_) rfl (by kernel_rfl) (by kernel_rfl) (by kernel_rfl) (by kernel_rfl) (fun _ _ _ h => h) (Or.inl ⟨by rfl, ?_⟩) (by first | exact fun _ => hHeld | (intro h; exact absurd h (by decide))) ?_
      rotate_left 1
      · (intro u _; go_simp; first | done | with_reducible rfl | rfl)
      simp only [Act.put, List.getElem_toArray, List.getElem_cons_zero, List.getElem_cons_succ, List.setIfInBounds_toArray, List.set_cons_zero, List.set_cons_succ]
      refine wpAnyV_pure (i := 12) (oi := _) (v := ?_) rfl (by kernel_rfl) (by kernel_rfl) (by kernel_rfl) (by kernel_rfl) (fun _ _ _ h => h) (Or.inl ⟨by rfl, ?_⟩) (by first | exact fun _ => hHeld | (intro h; exact absurd h (by decide))) ?_
      rotate_left 1
      · (intro u _; go_simp; first | done | with_reducible rfl | rfl)
      simp only [Act.put, List.getElem_toArray, List.getElem_cons_zero, List.getElem_cons_succ, List.setIfInBounds_toArray, List.set_cons_zero, List.set_cons_succ]
      refine wpAnyV_ready (rs := [13]) (by kernel_rfl) (by simp) ?_
      refine ReadyV.cons (o := _) rfl (fun K hK => ?_) ReadyV.nil
      clear hHeld
      -- w3 world at hand (Below w w3 is HB3, held -), w4 world behind
      go_simp
      obtain ⟨w4, hw4⟩ : ∃ u, u = (w3).alloc (.cells #[.int .i64 0, .int .i64 0, .int .u8 0] 61 (0, 0)) := ⟨_, rfl⟩
      have bw4 : Below (w3).heap.size (w3) w4 := by rw [hw4]; exact (Below.refl _ _).alloc (Nat.le_refl _) _
      have hmw4 : isMb w4 (w3).heap.size 0 0 0 := by rw [hw4]; exact heap_alloc_new _ _
      rw [← hw4]
      have hww4 : Below w.heap.size w w4 := (unhide HB3).trans (bw4.mono (unhide HB3).size)
      have hHeld := unhide HS _ hww4
      refine hK.out _ _ (fun _ => hHeld) ?_
      clear hK K hw4
      try simp only [Act.put, List.getElem_toArray, List.getElem_cons_zero, List.getElem_cons_succ, List.setIfInBounds_toArray, List.set_cons_zero, List.set_cons_succ]
      clear hHeld
      have hfin := And.intro (isMb.setAllH hmw4 m.f m.t m.c) (And.intro (below_set3H hww4 hww3.size (.int .i64 m.f) (.int .i64 (m.t : Int)) (.int .u8 (m.c : Int))) hww3.size)
      obtain ⟨c0, c1, c2⟩ := hmw4.all
      have z0 := hmw4.frozenH 0
      have z1 := hmw4.frozenH 1
      have z2 := hmw4.frozenH 2
      refine wpAnyV_ready (rs := [14]) (by kernel_rfl) (by simp) ?_
      refine ReadyV.cons (o := _) rfl (fun K hK => ?_) ReadyV.nil
      go_simp
      refine hK.out _ _ (fun h => absurd h (by decide)) ?_
      try simp only [Act.put, List.getElem_toArray, List.getElem_cons_zero, List.getElem_cons_succ, List.setIfInBounds_toArray, List.set_cons_zero, List.set_cons_succ]
      refine wpAnyV_pure (i := 15) (oi := _) (v := ?_) rfl (by kernel_rfl) (by kernel_rfl) (by kernel_rfl) (by kernel_rfl) (fun _ _ _ h => h) (Or.inl ⟨by rfl, ?_⟩) (by first | exact fun _ => hHeld | (intro h; exact absurd h (by decide))) ?_
      rotate_left 1
      · (intro u _; go_simp; first | done | with_reducible rfl | rfl)
      simp only [Act.put, List.getElem_toArray, List.getElem_cons_zero, List.getElem_cons_succ, List.setIfInBounds_toArray, List.set_cons_zero, List.set_cons_succ]
      refine wpAnyV_done (by kernel_rfl) ?_ _
      clear hK K c0 c1 c2 z0 z1 z2 hmw4 hww4 bw4 hww3 bw3
      generalize w3.heap.size = g at hfin ⊢
      generalize ((w4.setCell ⟨g, 0, none⟩ (.int .i64 m.f)).setCell ⟨g, 1, none⟩ (.int .i64 (m.t : Int))).setCell ⟨g, 2, none⟩ (.int .u8 (m.c : Int)) = v at hfin ⊢
      exact unhide key g v hfin
    · clear hHeld
      -- wd world at hand (Below w wd is HB, held -), w3 world behind
      go_simp
      obtain ⟨w3, hw3⟩ : ∃ u, u = (wd).alloc (.cells #[.int .i64 0, .int .i64 0, .int .u8 0] 61 (0, 0)) := ⟨_, rfl⟩
      have bw3 : Below (wd).heap.size (wd) w3 := by rw [hw3]; exact (Below.refl _ _).alloc (Nat.le_refl _) _
      have hmw3 : isMb w3 (wd).heap.size 0 0 0 := by rw [hw3]; exact heap_alloc_new _ _
      rw [← hw3]
      have hww3 : Below w.heap.size w w3 := (unhide HB).trans (bw3.mono (unhide HB).size)
      have hHeld := unhide HS _ hww3
      refine hK.out _ _ (fun _ => hHeld) ?_
      clear hK K hw3
      try simp only [Act.put, List.getElem_toArray, List.getElem_cons_zero, List.getElem_cons_succ, List.setIfInBounds_toArray, List.set_cons_zero, List.set_cons_succ]
      have HB3 := hide hww3
      refine wpAnyV_ready (rs := [9]) (by kernel_rfl) (by simp) ?_
      refine ReadyV.cons (o := _) rfl (fun K hK => ?_) ReadyV.nil
      clear hHeld
      -- w3 world at hand (Below w w3 is HB3), w4 world behind
      refine step_callH (by rfl) 104 #[.tmp 13, .tmp 17, .tmp 18] #[27, 24, 9] rfl #[.agg #[v0, v1, v2, v3, v4, v5, v6, v7, v8, v9, v10, v11, .int .i64 pl], .agg #[.int .i64 x.p.W, .int .i64 x.p.H, .string x.p.C, .int .i64 x.p.T, .string x.p.A, .string x.p.B], .string s] (by simp [Act.eval]) entRead (unhide HR _ (unhide HK _ (unhide HB3))) ?_
      rintro e w4 ⟨rfl, bw4⟩
      refine ⟨_, rfl, ?_⟩
      have hww4 : Below w.heap.size w w4 := (unhide HB3).trans (bw4.mono (unhide HB3).size)
      have hHeld := unhide HS _ hww4
      refine hK.out _ _ (fun _ => hHeld) ?_
      clear hK K
      try simp only [Act.put, List.getElem_toArray, List.getElem_cons_zero, List.getElem_cons_succ, List.setIfInBounds_toArray, List.set_cons_zero, List.set_cons_succ]
      refine wpAnyV_pure (i := 10) (oi := _) (v := ?_) rfl (by kernel_rfl) (by kernel_rfl) (by kernel_rfl) (by kernel_rfl) (fun _ _ _ h => h) (Or.inl ⟨by rfl, ?_⟩) (by first | exact fun _ => hHeld | (intro h; exact absurd h (by decide))) ?_
      rotate_left 1
      · (intro u _; go_simp; first | done | with_reducible rfl | rfl)
      simp only [Act.put, List.getElem_toArray, List.getElem_cons_zero, List.getElem_cons_succ, List.setIfInBounds_toArray, List.set_cons_zero, List.set_cons_succ]
      refine wpAnyV_pure (i := 11) (oi := _) (v := ?_) rfl (by kernel_rfl) (by kernel_rfl) (by kernel_rfl) (by kernel_rfl) (fun _ _ _ h => h) (Or.inl ⟨by rfl, ?_⟩) (by first | exact fun _ => hHeld | (intro h; exact absurd h (by decide))) ?_
      rotate_left 1
      · (intro u _; go_simp; first | done | with_reducible rfl | rfl)
      simp only [Act.put, List.getElem_toArray, List.getElem_cons_zero, List.getElem_cons_succ, List.setIfInBounds_toArray, List.set_cons_zero, List.set_cons_succ]
      refine wpAnyV_pure (i := 12) (oi := _) (v := ?_) rfl (by kernel_rfl) (by kernel_rfl) (by kernel_rfl) (by kernel_rfl) (fun _ _ _ h => h) (Or.inl ⟨by rfl, ?_⟩) (by first | exact fun _ => hHeld | (intro h; exact absurd h (by decide))) ?_
      rotate_left 1
      · (intro u _; go_simp; first | done | with_reducible rfl | rfl)
      simp only [Act.put, List.getElem_toArray, List.getElem_cons_zero, List.getElem_cons_succ, List.setIfInBounds_toArray, List.set_cons_zero, List.set_cons_succ]
      clear hHeld
      have hm4 := hmw3.below bw4 hmw3.lt
      have hsz : w.heap.size ≤ wd.heap.size := (unhide HB).size
      have hfin := And.intro (isMb.setAllH hm4 m.f m.t m.c) (And.intro (below_set3H hww4 hsz (.int .i64 m.f) (.int .i64 (m.t : Int)) (.int .u8 (m.c : Int))) hsz)
      obtain ⟨c0, c1, c2⟩ := hm4.all
      have z0 := hm4.frozenH 0
      have z1 := hm4.frozenH 1
      have z2 := hm4.frozenH 2
      refine wpAnyV_ready (rs := [14]) (by kernel_rfl) (by simp) ?_
      refine ReadyV.cons (o := _) rfl (fun K hK => ?_) ReadyV.nil
      go_simp
      refine hK.out _ _ (fun h => absurd h (by decide)) ?_
      try simp only [Act.put, List.getElem_toArray, List.getElem_cons_zero, List.getElem_cons_succ, List.setIfInBounds_toArray, List.set_cons_zero, List.set_cons_succ]
      refine wpAnyV_pure (i := 15) (oi := _) (v := ?_) rfl (by kernel_rfl) (by kernel_rfl) (by kernel_rfl) (by kernel_rfl) (fun _ _ _ h => h) (Or.inl ⟨by rfl, ?_⟩) (by first | exact fun _ => hHeld | (intro h; exact absurd h (by decide))) ?_
      rotate_left 1
      · (intro u _; go_simp; first | done | with_reducible rfl | rfl)
      simp only [Act.put, List.getElem_toArray, List.getElem_cons_zero, List.getElem_cons_succ, List.setIfInBounds_toArray, List.set_cons_zero, List.set_cons_succ]
      refine wpAnyV_done (by kernel_rfl) ?_ _
      clear hK K c0 c1 c2 z0 z1 z2 hmw3 hm4 hww4 bw4 hww3 bw3 hsz
      generalize wd.heap.size = g at hfin ⊢
      generalize ((w4.setCell ⟨g, 0, none⟩ (.int .i64 m.f)).setCell ⟨g, 1, none⟩ (.int .i64 (m.t : Int))).setCell ⟨g, 2, none⟩ (.int .u8 (m.c : Int)) = v at hfin ⊢
      exact unhide key g v hfin
  rintro g v ⟨hmb, hbv, hg⟩
  have hv0 := isH.below (unhide H0) hbv (isH.lt (unhide H0))
  have hbv' := hbv
  have HMB := hide hmb
  have HBV := hide hbv
  have HKv : Hid (∀ u, Below v.heap.size v u → Below S w00 u) := hide fun u hu => unhide HK u (hbv'.trans (hu.mono hbv'.size))
  have HS4 : Hid (∀ u, Below v.heap.size v u → (fun u => (u.cell? ⟨b, 3, none⟩ = some v0 ∧ u.cell? ⟨b, 4, none⟩ = some v1 ∧ u.cell? ⟨b, 5, none⟩ = some v2 ∧ u.cell? ⟨b, 6, none⟩ = some v3 ∧ u.cell? ⟨b, 7, none⟩ = some v4 ∧ u.cell? ⟨b, 8, none⟩ = some v5 ∧ u.cell? ⟨b, 9, none⟩ = some v6 ∧ u.cell? ⟨b, 10, none⟩ = some v7 ∧ u.cell? ⟨b, 11, none⟩ = some v8 ∧ u.cell? ⟨b, 12, none⟩ = some v9 ∧ u.cell? ⟨b, 13, none⟩ = some v10 ∧ u.cell? ⟨b, 14, none⟩ = some v11 ∧ u.cell? ⟨b, 15, none⟩ = some (.int .i64 pl)) ∧ (u.cell? ⟨b, 16, none⟩ = some (.int .i64 x.p.W) ∧ u.cell? ⟨b, 17, none⟩ = some (.int .i64 x.p.H) ∧ u.cell? ⟨b, 18, none⟩ = some (.string x.p.C) ∧ u.cell? ⟨b, 19, none⟩ = some (.int .i64 x.p.T) ∧ u.cell? ⟨b, 20, none⟩ = some (.string x.p.A) ∧ u.cell? ⟨b, 21, none⟩ = some (.string x.p.B)) ∧ u.cell? ⟨g, 0, none⟩ = some (.int .i64 m.f) ∧ u.cell? ⟨g, 1, none⟩ = some (.int .i64 (m.t : Int)) ∧ u.cell? ⟨g, 2, none⟩ = some (.int .u8 (m.c : Int))) u) := hide fun u hu => by
    have c := isH.cells (isH.below hv0 hu (isH.lt hv0))
    exact ⟨c.2.1, c.2.2.1, (hmb.below hu hmb.lt).all⟩
  have HV := hide hv0
  clear hmb hbv hbv' hv0 hg HS HWD HB HR
  go_upto_region 4 with fail
  obtain ⟨vd, hvd⟩ : ∃ vd, vd = v.drew := ⟨_, rfl⟩
  have HB : Hid (Below v.heap.size v vd) := hide (by rw [hvd]; exact (Below.refl _ _).drew)
  have HVD := hide hvd
  clear hvd
  apply cutForH (fun q z => isPb z q p.W p.H p.T p.C p.A p.B ∧ Below v.heap.size v z ∧ v.heap.size ≤ q)
  case k =>
    intro key
    refine wp_region_v [14] (fun u => (u.cell? ⟨b, 3, none⟩ = some v0 ∧ u.cell? ⟨b, 4, none⟩ = some v1 ∧ u.cell? ⟨b, 5, none⟩ = some v2 ∧ u.cell? ⟨b, 6, none⟩ = some v3 ∧ u.cell? ⟨b, 7, none⟩ = some v4 ∧ u.cell? ⟨b, 8, none⟩ = some v5 ∧ u.cell? ⟨b, 9, none⟩ = some v6 ∧ u.cell? ⟨b, 10, none⟩ = some v7 ∧ u.cell? ⟨b, 11, none⟩ = some v8 ∧ u.cell? ⟨b, 12, none⟩ = some v9 ∧ u.cell? ⟨b, 13, none⟩ = some v10 ∧ u.cell? ⟨b, 14, none⟩ = some v11 ∧ u.cell? ⟨b, 15, none⟩ = some (.int .i64 pl)) ∧ (u.cell? ⟨b, 16, none⟩ = some (.int .i64 x.p.W) ∧ u.cell? ⟨b, 17, none⟩ = some (.int .i64 x.p.H) ∧ u.cell? ⟨b, 18, none⟩ = some (.string x.p.C) ∧ u.cell? ⟨b, 19, none⟩ = some (.int .i64 x.p.T) ∧ u.cell? ⟨b, 20, none⟩ = some (.string x.p.A) ∧ u.cell? ⟨b, 21, none⟩ = some (.string x.p.B)) ∧ u.cell? ⟨g, 0, none⟩ = some (.int .i64 m.f) ∧ u.cell? ⟨g, 1, none⟩ = some (.int .i64 (m.t : Int)) ∧ u.cell? ⟨g, 2, none⟩ = some (.int .u8 (m.c : Int))) (by kernel_rfl) ?_
    rw [← unhide HVD]
    have hHeld := unhide HS4 _ (unhide HB)
    refine wpAnyV_tk (i := 0) (oi := _) (v := ?_) rfl (by kernel_rfl) (by kernel_rfl) (by kernel_rfl) (by kernel_rfl) (fun _ _ _ h => h) (Or.inl ⟨by rfl, ?_⟩) (by assumption) ?_
    rotate_left 1
    · (intro u hSu; (try dsimp only at hSu); go_simp; first | done | with_reducible rfl | rfl)
    simp only [Act.put, List.getElem_toArray, List.getElem_cons_zero, List.setIfInBounds_toArray, List.set_cons_zero, List.set_cons_succ]
    refine wpAnyV_tk (i := 1) (oi := _) (v := ?_) rfl (by kernel_rfl) (by kernel_rfl) (by kernel_rfl) (by kernel_rfl) (fun _ _ _ h => h) (Or.inl ⟨by rfl, ?_⟩) (by assumption) ?_
    rotate_left 1
    · (intro u hSu; (try dsimp only at hSu); go_simp; first | done | with_reducible rfl | rfl)
    simp only [Act.put, List.getElem_toArray, List.getElem_cons_zero, List.getElem_cons_succ, List.setIfInBounds_toArray, List.set_cons_zero, List.set_cons_succ]
    refine wpAnyV_tk (i := 2) (oi := _) (v := ?_) rfl (by kernel_rfl) (by kernel_rfl) (by kernel_rfl) (by kernel_rfl) (fun _ _ _ h => h) (Or.inl ⟨by rfl, ?_⟩) (by assumption) ?_
    rotate_left 1
    · (intro u hSu; (try dsimp only at hSu); go_simp; first | done | with_reducible rfl | rfl)
    simp only [Act.put, List.getElem_toArray, List.getElem_cons_zero, List.getElem_cons_succ, List.setIfInBounds_toArray, List.set_cons_zero, List.set_cons_succ]
    refine wpAnyV_tk (i := 3) (oi := _) (v := ?_) rfl (by kernel_rfl) (by kernel_rfl) (by kernel_rfl) (by kernel_rfl) (fun _ _ _ h => h) (Or.inl ⟨by rfl, ?_⟩) (by assumption) ?_
    rotate_left 1
    · (intro u hSu; (try dsimp only at hSu); go_simp; first | done | with_reducible rfl | rfl)
    simp only [Act.put, List.getElem_toArray, List.getElem_cons_zero, List.getElem_cons_succ, List.setIfInBounds_toArray, List.set_cons_zero, List.set_cons_succ]
    refine wpAnyV_tk (i := 4) (oi := _) (v := ?_) rfl (by kernel_rfl) (by kernel_rfl) (by kernel_rfl) (by kernel_rfl) (fun _ _ _ h => h) (Or.inl ⟨by rfl, ?_⟩) (by assumption) ?_
    rotate_left 1
    · (intro u hSu; (try dsimp only at hSu); go_simp; first | done | with_reducible rfl | rfl)
    simp only [Act.put, List.getElem_toArray, List.getElem_cons_zero, List.getElem_cons_succ, List.setIfInBounds_toArray, List.set_cons_zero, List.set_cons_succ]
    refine wpAnyV_tk (i := 5) (oi := _) (v := ?_) rfl (by kernel_rfl) (by kernel_rfl) (by kernel_rfl) (by kernel_rfl) (fun _ _ _ h => h) (Or.inl ⟨by rfl, ?_⟩) (by assumption) ?_
    rotate_left 1
    · (intro u hSu; (try dsimp only at hSu); go_simp; first | done | with_reducible rfl | rfl)
    simp only [Act.put, List.getElem_toArray, List.getElem_cons_zero, List.getElem_cons_succ, List.setIfInBounds_toArray, List.set_cons_zero, List.set_cons_succ]
    refine wpAnyV_tk (i := 6) (oi := _) (v := ?_) rfl (by kernel_rfl) (by kernel_rfl) (by kernel_rfl) (by kernel_rfl) (fun _ _ _ h => h) (Or.inl ⟨by rfl, ?_⟩) (by assumption) ?_
    rotate_left 1
    · (intro u hSu; (try dsimp only at hSu); go_simp; first | done | with_reducible rfl | rfl)
    simp only [Act.put, List.getElem_toArray, List.getElem_cons_zero, List.getElem_cons_succ, List.setIfInBounds_toArray, List.set_cons_zero, List.set_cons_succ]
    refine wpAnyV_tk (i := 7) (oi := _) (v := ?_) rfl (by kernel_rfl) (by kernel_rfl) (by kernel_rfl) (by kernel_rfl) (fun _ _ _ h => h) (Or.inl ⟨by rfl, ?_⟩) (by assumption) ?_
    rotate_left 1
    · (intro u hSu; (try dsimp only at hSu); go_simp; first | done | with_reducible rfl | rfl)
    simp only [Act.put, List.getElem_toArray, List.getElem_cons_zero, List.getElem_cons_succ, List.setIfInBounds_toArray, List.set_cons_zero, List.set_cons_succ]
    refine wpAnyV_tk (i := 8) (oi := _) (v := ?_) rfl (by kernel_rfl) (by kernel_rfl) (by kernel_rfl) (by kernel_rfl) (fun _ _ _ h => h) (Or.inl ⟨by rfl, ?_⟩) (by assumption) ?_
    rotate_left 1
    · (intro u hSu; (try dsimp only at hSu); go_simp; first | done | with_reducible rfl | rfl)
    simp only [Act.put, List.getElem_toArray, List.getElem_cons_zero, List.getElem_cons_succ, List.setIfInBounds_toArray, List.set_cons_zero, List.set_cons_succ]
    refine wpAnyV_ready (rs := [9, 13]) (by kernel_rfl) (by simp) ?_
    refine ReadyV.cons (o := _) rfl (fun K hK => ?_) (ReadyV.cons (o := _) rfl (fun K hK => ?_) ReadyV.nil)
    · clear hHeld
      refine step_callH (by rfl) 105 #[.tmp 28, .tmp 32, .tmp 33] #[27, 24, 61] rfl #[.agg #[v0, v1, v2, v3, v4, v5, v6, v7, v8, v9, v10, v11, .int .i64 pl], .agg #[.int .i64 x.p.W, .int .i64 x.p.H, .string x.p.C, .int .i64 x.p.T, .string x.p.A, .string x.p.B], .agg #[.int .i64 m.f, .int .i64 (m.t : Int), .int .u8 (m.c : Int)]] (by simp [Act.eval]) entApply (unhide HA _ (unhide HKv _ (unhide HB))) ?_
      rintro e w3 ⟨rfl, bw3⟩
      refine ⟨_, rfl, ?_⟩
      have hww3 : Below v.heap.size v w3 := (unhide HB).trans (bw3.mono (unhide HB).size)
      have hHeld := unhide HS4 _ hww3
      refine hK.out _ _ (fun _ => hHeld) ?_
      clear hK K
      try simp only [Act.put, List.getElem_toArray, List.getElem_cons_zero, List.getElem_cons_succ, List.setIfInBounds_toArray, List.set_cons_zero, List.set_cons_succ]
      have HB3 := hide hww3
      refine wpAnyV_pure (i := 10) (oi := _) (v := ?_) rfl (by kernel_rfl) (by kernel_rfl) (by kernel_rfl) (by kernel_rfl) (fun _ _ _ h => h) (Or.inl ⟨by rfl, ?_⟩) (by first | exact fun _ => hHeld | (intro h; exact absurd h (by decide))) ?_
      rotate_left 1
      · (intro u _; go_simp; first | done | with_reducible rfl | rfl)
      simp only [Act.put, List.getElem_toArray, List.getElem_cons_zero, List.getElem_cons_succ, List.setIfInBounds_toArray, List.set_cons_zero, List.set_cons_succ]
      refine wpAnyV_pure (i := 11) (oi := _) (v := ?_) rfl (by kernel_rfl) (by kernel_rfl) (by kernel_rfl) (by kernel_rfl) (fun _ _ _ h => h) (Or.inl ⟨by rfl, ?_⟩) (by first | exact fun _ => hHeld | (intro h; exact absurd h (by decide))) ?_
      rotate_left 1
      · (intro u _; go_simp; first | done | with_reducible rfl | rfl)
      simp only [Act.put, List.getElem_toArray, List.getElem_cons_zero, List.getElem_cons_succ, List.setIfInBounds_toArray, List.set_cons_zero, List.set_cons_succ]
      refine wpAnyV_pure (i := 12) (oi := _) (v := ?_) rfl (by kernel_rfl) (by kernel_rfl) (by kernel_rfl) (by kernel_rfl) (fun _ _ _ h => h) (Or.inl ⟨by rfl, ?_⟩) (by first | exact fun _ => hHeld | (intro h; exact absurd h (by decide))) ?_
      rotate_left 1
      · (intro u _; go_simp; first | done | with_reducible rfl | rfl)
      simp only [Act.put, List.getElem_toArray, List.getElem_cons_zero, List.getElem_cons_succ, List.setIfInBounds_toArray, List.set_cons_zero, List.set_cons_succ]
      refine wpAnyV_ready (rs := [13]) (by kernel_rfl) (by simp) ?_
      refine ReadyV.cons (o := _) rfl (fun K hK => ?_) ReadyV.nil
      clear hHeld
      go_simp
      obtain ⟨w4, hw4⟩ : ∃ u, u = (w3).alloc (.cells #[.int .i64 0, .int .i64 0, .string ⟨#[]⟩, .int .i64 0, .string ⟨#[]⟩, .string ⟨#[]⟩] 24 (0, 0)) := ⟨_, rfl⟩
      have bw4 : Below (w3).heap.size (w3) w4 := by rw [hw4]; exact (Below.refl _ _).alloc (Nat.le_refl _) _
      have hmw4 : isPb w4 (w3).heap.size 0 0 0 ⟨#[]⟩ ⟨#[]⟩ ⟨#[]⟩ := by rw [hw4]; exact heap_alloc_new _ _
      rw [← hw4]
      have hww4 : Below v.heap.size v w4 := (unhide HB3).trans (bw4.mono (unhide HB3).size)
      have hHeld := unhide HS4 _ hww4
      refine hK.out _ _ (fun _ => hHeld) ?_
      clear hK K hw4
      try simp only [Act.put, List.getElem_toArray, List.getElem_cons_zero, List.getElem_cons_succ, List.setIfInBounds_toArray, List.set_cons_zero, List.set_cons_succ]
      clear hHeld
      have hfin := And.intro (isPb.setAllH hmw4 p.W p.H p.T p.C p.A p.B) (And.intro (below_set6H hww4 hww3.size (.int .i64 p.W) (.int .i64 p.H) (.string p.C) (.int .i64 p.T) (.string p.A) (.string p.B)) hww3.size)
      obtain ⟨c0, c1, c2, c3, c4, c5⟩ := hmw4.all
      have z0 := isPb.frozenH hmw4 0
      have z1 := isPb.frozenH hmw4 1
      have z2 := isPb.frozenH hmw4 2
      have z3 := isPb.frozenH hmw4 3
      have z4 := isPb.frozenH hmw4 4
      have z5 := isPb.frozenH hmw4 5
      refine wpAnyV_ready (rs := [14]) (by kernel_rfl) (by simp) ?_
      refine ReadyV.cons (o := _) rfl (fun K hK => ?_) ReadyV.nil
      go_simp
      refine hK.out _ _ (fun h => absurd h (by decide)) ?_
      try simp only [Act.put, List.getElem_toArray, List.getElem_cons_zero, List.getElem_cons_succ, List.setIfInBounds_toArray, List.set_cons_zero, List.set_cons_succ]
      refine wpAnyV_pure (i := 15) (oi := _) (v := ?_) rfl (by kernel_rfl) (by kernel_rfl) (by kernel_rfl) (by kernel_rfl) (fun _ _ _ h => h) (Or.inl ⟨by rfl, ?_⟩) (by first | exact fun _ => hHeld | (intro h; exact absurd h (by decide))) ?_
      rotate_left 1
      · (intro u _; go_simp; first | done | with_reducible rfl | rfl)
      simp only [Act.put, List.getElem_toArray, List.getElem_cons_zero, List.getElem_cons_succ, List.setIfInBounds_toArray, List.set_cons_zero, List.set_cons_succ]
      refine wpAnyV_done (by kernel_rfl) ?_ _
      clear hK K c0 c1 c2 c3 c4 c5 z0 z1 z2 z3 z4 z5 hmw4 hww4 bw4 hww3 bw3
      generalize w3.heap.size = q at hfin ⊢
      generalize ((((((w4.setCell ⟨q, 0, none⟩ (.int .i64 p.W)).setCell ⟨q, 1, none⟩ (.int .i64 p.H)).setCell ⟨q, 2, none⟩ (.string p.C)).setCell ⟨q, 3, none⟩ (.int .i64 p.T)).setCell ⟨q, 4, none⟩ (.string p.A)).setCell ⟨q, 5, none⟩ (.string p.B)) = z at hfin ⊢
      exact unhide key q z hfin
    · clear hHeld
      go_simp
      obtain ⟨w3, hw3⟩ : ∃ u, u = (vd).alloc (.cells #[.int .i64 0, .int .i64 0, .string ⟨#[]⟩, .int .i64 0, .string ⟨#[]⟩, .string ⟨#[]⟩] 24 (0, 0)) := ⟨_, rfl⟩
      have bw3 : Below (vd).heap.size (vd) w3 := by rw [hw3]; exact (Below.refl _ _).alloc (Nat.le_refl _) _
      have hmw3 : isPb w3 (vd).heap.size 0 0 0 ⟨#[]⟩ ⟨#[]⟩ ⟨#[]⟩ := by rw [hw3]; exact heap_alloc_new _ _
      rw [← hw3]
      have hww3 : Below v.heap.size v w3 := (unhide HB).trans (bw3.mono (unhide HB).size)
      have hHeld := unhide HS4 _ hww3
      refine hK.out _ _ (fun _ => hHeld) ?_
      clear hK K hw3
      try simp only [Act.put, List.getElem_toArray, List.getElem_cons_zero, List.getElem_cons_succ, List.setIfInBounds_toArray, List.set_cons_zero, List.set_cons_succ]
      have HB3 := hide hww3
      refine wpAnyV_ready (rs := [9]) (by kernel_rfl) (by simp) ?_
      refine ReadyV.cons (o := _) rfl (fun K hK => ?_) ReadyV.nil
      clear hHeld
      refine step_callH (by rfl) 105 #[.tmp 28, .tmp 32, .tmp 33] #[27, 24, 61] rfl #[.agg #[v0, v1, v2, v3, v4, v5, v6, v7, v8, v9, v10, v11, .int .i64 pl], .agg #[.int .i64 x.p.W, .int .i64 x.p.H, .string x.p.C, .int .i64 x.p.T, .string x.p.A, .string x.p.B], .agg #[.int .i64 m.f, .int .i64 (m.t : Int), .int .u8 (m.c : Int)]] (by simp [Act.eval]) entApply (unhide HA _ (unhide HKv _ (unhide HB3))) ?_
      rintro e w4 ⟨rfl, bw4⟩
      refine ⟨_, rfl, ?_⟩
      have hww4 : Below v.heap.size v w4 := (unhide HB3).trans (bw4.mono (unhide HB3).size)
      have hHeld := unhide HS4 _ hww4
      refine hK.out _ _ (fun _ => hHeld) ?_
      clear hK K
      try simp only [Act.put, List.getElem_toArray, List.getElem_cons_zero, List.getElem_cons_succ, List.setIfInBounds_toArray, List.set_cons_zero, List.set_cons_succ]
      refine wpAnyV_pure (i := 10) (oi := _) (v := ?_) rfl (by kernel_rfl) (by kernel_rfl) (by kernel_rfl) (by kernel_rfl) (fun _ _ _ h => h) (Or.inl ⟨by rfl, ?_⟩) (by first | exact fun _ => hHeld | (intro h; exact absurd h (by decide))) ?_
      rotate_left 1
      · (intro u _; go_simp; first | done | with_reducible rfl | rfl)
      simp only [Act.put, List.getElem_toArray, List.getElem_cons_zero, List.getElem_cons_succ, List.setIfInBounds_toArray, List.set_cons_zero, List.set_cons_succ]
      refine wpAnyV_pure (i := 11) (oi := _) (v := ?_) rfl (by kernel_rfl) (by kernel_rfl) (by kernel_rfl) (by kernel_rfl) (fun _ _ _ h => h) (Or.inl ⟨by rfl, ?_⟩) (by first | exact fun _ => hHeld | (intro h; exact absurd h (by decide))) ?_
      rotate_left 1
      · (intro u _; go_simp; first | done | with_reducible rfl | rfl)
      simp only [Act.put, List.getElem_toArray, List.getElem_cons_zero, List.getElem_cons_succ, List.setIfInBounds_toArray, List.set_cons_zero, List.set_cons_succ]
      refine wpAnyV_pure (i := 12) (oi := _) (v := ?_) rfl (by kernel_rfl) (by kernel_rfl) (by kernel_rfl) (by kernel_rfl) (fun _ _ _ h => h) (Or.inl ⟨by rfl, ?_⟩) (by first | exact fun _ => hHeld | (intro h; exact absurd h (by decide))) ?_
      rotate_left 1
      · (intro u _; go_simp; first | done | with_reducible rfl | rfl)
      simp only [Act.put, List.getElem_toArray, List.getElem_cons_zero, List.getElem_cons_succ, List.setIfInBounds_toArray, List.set_cons_zero, List.set_cons_succ]
      clear hHeld
      have hm4 := hmw3.below bw4 hmw3.lt
      have hsz : v.heap.size ≤ vd.heap.size := (unhide HB).size
      have hfin := And.intro (isPb.setAllH hm4 p.W p.H p.T p.C p.A p.B) (And.intro (below_set6H hww4 hsz (.int .i64 p.W) (.int .i64 p.H) (.string p.C) (.int .i64 p.T) (.string p.A) (.string p.B)) hsz)
      obtain ⟨c0, c1, c2, c3, c4, c5⟩ := hm4.all
      have z0 := isPb.frozenH hm4 0
      have z1 := isPb.frozenH hm4 1
      have z2 := isPb.frozenH hm4 2
      have z3 := isPb.frozenH hm4 3
      have z4 := isPb.frozenH hm4 4
      have z5 := isPb.frozenH hm4 5
      refine wpAnyV_ready (rs := [14]) (by kernel_rfl) (by simp) ?_
      refine ReadyV.cons (o := _) rfl (fun K hK => ?_) ReadyV.nil
      go_simp
      refine hK.out _ _ (fun h => absurd h (by decide)) ?_
      try simp only [Act.put, List.getElem_toArray, List.getElem_cons_zero, List.getElem_cons_succ, List.setIfInBounds_toArray, List.set_cons_zero, List.set_cons_succ]
      refine wpAnyV_pure (i := 15) (oi := _) (v := ?_) rfl (by kernel_rfl) (by kernel_rfl) (by kernel_rfl) (by kernel_rfl) (fun _ _ _ h => h) (Or.inl ⟨by rfl, ?_⟩) (by first | exact fun _ => hHeld | (intro h; exact absurd h (by decide))) ?_
      rotate_left 1
      · (intro u _; go_simp; first | done | with_reducible rfl | rfl)
      simp only [Act.put, List.getElem_toArray, List.getElem_cons_zero, List.getElem_cons_succ, List.setIfInBounds_toArray, List.set_cons_zero, List.set_cons_succ]
      refine wpAnyV_done (by kernel_rfl) ?_ _
      clear hK K c0 c1 c2 c3 c4 c5 z0 z1 z2 z3 z4 z5 hmw3 hm4 hww4 bw4 hww3 bw3 hsz
      generalize vd.heap.size = q at hfin ⊢
      generalize ((((((w4.setCell ⟨q, 0, none⟩ (.int .i64 p.W)).setCell ⟨q, 1, none⟩ (.int .i64 p.H)).setCell ⟨q, 2, none⟩ (.string p.C)).setCell ⟨q, 3, none⟩ (.int .i64 p.T)).setCell ⟨q, 4, none⟩ (.string p.A)).setCell ⟨q, 5, none⟩ (.string p.B)) = z at hfin ⊢
      exact unhide key q z hfin
  rintro q z ⟨hpb, hbz, hq⟩
  clear HB HVD HS4 HA HMB
  have hz0 := isH.below (unhide HV) hbz (isH.lt (unhide HV))
  have hKz := unhide HKv z hbz
  have hwz : Below w.heap.size w z := (unhide HBV).trans (hbz.mono (unhide HBV).size)
  have hqb : b < q := by have := isH.lt (unhide HV); omega
  clear HV HBV HKv HK
  have HQ := hide hpb
  have HZ := hide hz0
  have HKZ := hide hKz
  have HWZ := hide hwz
  have HQB := hide hqb
  clear hpb hz0 hKz hwz hbz hq hqb
  go_upto_region 5 with fail
  refine wp_region_v [18] (fun u => u.cell? ⟨b, 24, none⟩ = some (.string x.tx) ∧ u.cell? ⟨b, 22, none⟩ = some (.int .i64 x.ply) ∧ u.cell? ⟨b, 2, none⟩ = some (.int .i64 x.now)) (by kernel_rfl) ?_
  have hHeld : (fun u => u.cell? ⟨b, 24, none⟩ = some (.string x.tx) ∧ u.cell? ⟨b, 22, none⟩ = some (.int .i64 x.ply) ∧ u.cell? ⟨b, 2, none⟩ = some (.int .i64 x.now)) z.drew := ⟨(isH.cells (unhide HZ)).2.2.2.2.2, (isH.cells (unhide HZ)).2.2.2.1, (isH.cells (unhide HZ)).1.2.2⟩
  obtain ⟨zd, hzd⟩ : ∃ zd, zd = z.drew := ⟨_, rfl⟩
  have hbd : Below z.heap.size z zd := by rw [hzd]; exact (Below.refl _ _).drew
  rw [← hzd] at hHeld ⊢
  clear hzd
  refine wpAnyV_tk (i := 0) (oi := _) (v := ?_) rfl (by kernel_rfl) (by kernel_rfl) (by kernel_rfl) (by kernel_rfl) (fun _ _ _ h => h) (Or.inl ⟨by rfl, ?_⟩) (by assumption) ?_
  rotate_left 1
  · (intro u hSu; (try dsimp only at hSu); go_simp; first | done | with_reducible rfl | rfl)
  simp only [Act.put, List.getElem_toArray, List.getElem_cons_zero, List.setIfInBounds_toArray, List.set_cons_zero, List.set_cons_succ]
  refine wpAnyV_tk (i := 1) (oi := _) (v := ?_) rfl (by kernel_rfl) (by kernel_rfl) (by kernel_rfl) (by kernel_rfl) (fun _ _ _ h => h) (Or.inl ⟨by rfl, ?_⟩) (by assumption) ?_
  rotate_left 1
  · (intro u hSu; (try dsimp only at hSu); go_simp; first | done | with_reducible rfl | rfl)
  simp only [Act.put, List.getElem_toArray, List.getElem_cons_zero, List.getElem_cons_succ, List.setIfInBounds_toArray, List.set_cons_zero, List.set_cons_succ]
  refine wpAnyV_tk (i := 2) (oi := _) (v := ?_) rfl (by kernel_rfl) (by kernel_rfl) (by kernel_rfl) (by kernel_rfl) (fun _ _ _ h => h) (Or.inl ⟨by rfl, ?_⟩) (by assumption) ?_
  rotate_left 1
  · (intro u hSu; (try dsimp only at hSu); go_simp; first | done | with_reducible rfl | rfl)
  simp only [Act.put, List.getElem_toArray, List.getElem_cons_zero, List.getElem_cons_succ, List.setIfInBounds_toArray, List.set_cons_zero, List.set_cons_succ]
  refine wpAnyV_tk (i := 3) (oi := _) (v := ?_) rfl (by kernel_rfl) (by kernel_rfl) (by kernel_rfl) (by kernel_rfl) (fun _ _ _ h => h) (Or.inl ⟨by rfl, ?_⟩) (by assumption) ?_
  rotate_left 1
  · (intro u hSu; (try dsimp only at hSu); go_simp; first | done | with_reducible rfl | rfl)
  simp only [Act.put, List.getElem_toArray, List.getElem_cons_zero, List.getElem_cons_succ, List.setIfInBounds_toArray, List.set_cons_zero, List.set_cons_succ]
  refine wpAnyV_tk (i := 4) (oi := _) (v := ?_) rfl (by kernel_rfl) (by kernel_rfl) (by kernel_rfl) (by kernel_rfl) (fun _ _ _ h => h) (Or.inl ⟨by rfl, ?_⟩) (by assumption) ?_
  rotate_left 1
  · (intro u hSu; (try dsimp only at hSu); go_simp; first | done | with_reducible rfl | rfl)
  simp only [Act.put, List.getElem_toArray, List.getElem_cons_zero, List.getElem_cons_succ, List.setIfInBounds_toArray, List.set_cons_zero, List.set_cons_succ]
  refine wpAnyV_tk (i := 5) (oi := _) (v := ?_) rfl (by kernel_rfl) (by kernel_rfl) (by kernel_rfl) (by kernel_rfl) (fun _ _ _ h => h) (Or.inl ⟨by rfl, ?_⟩) (by assumption) ?_
  rotate_left 1
  · (intro u hSu; (try dsimp only at hSu); go_simp; first | done | with_reducible rfl | rfl)
  simp only [Act.put, List.getElem_toArray, List.getElem_cons_zero, List.getElem_cons_succ, List.setIfInBounds_toArray, List.set_cons_zero, List.set_cons_succ]
  refine wpAnyV_tk (i := 6) (oi := _) (v := ?_) rfl (by kernel_rfl) (by kernel_rfl) (by kernel_rfl) (by kernel_rfl) (fun _ _ _ h => h) (Or.inl ⟨by rfl, ?_⟩) (by assumption) ?_
  rotate_left 1
  · (intro u hSu; (try dsimp only at hSu); go_simp; first | done | with_reducible rfl | rfl)
  simp only [Act.put, List.getElem_toArray, List.getElem_cons_zero, List.getElem_cons_succ, List.setIfInBounds_toArray, List.set_cons_zero, List.set_cons_succ]
  refine wpAnyV_tk (i := 7) (oi := _) (v := ?_) rfl (by kernel_rfl) (by kernel_rfl) (by kernel_rfl) (by kernel_rfl) (fun _ _ _ h => h) (Or.inl ⟨by rfl, ?_⟩) (by assumption) ?_
  rotate_left 1
  · (intro u hSu; (try dsimp only at hSu); go_simp; first | done | with_reducible rfl | rfl)
  simp only [Act.put, List.getElem_toArray, List.getElem_cons_zero, List.getElem_cons_succ, List.setIfInBounds_toArray, List.set_cons_zero, List.set_cons_succ]
  refine wpAnyV_tk (i := 8) (oi := _) (v := ?_) rfl (by kernel_rfl) (by kernel_rfl) (by kernel_rfl) (by kernel_rfl) (fun _ _ _ h => h) (Or.inl ⟨by rfl, ?_⟩) (by assumption) ?_
  rotate_left 1
  · (intro u hSu; (try dsimp only at hSu); go_simp; first | done | with_reducible rfl | rfl)
  simp only [Act.put, List.getElem_toArray, List.getElem_cons_zero, List.getElem_cons_succ, List.setIfInBounds_toArray, List.set_cons_zero, List.set_cons_succ]
  refine wpAnyV_tk (i := 9) (oi := _) (v := ?_) rfl (by kernel_rfl) (by kernel_rfl) (by kernel_rfl) (by kernel_rfl) (fun _ _ _ h => h) (Or.inl ⟨by rfl, ?_⟩) (by assumption) ?_
  rotate_left 1
  · (intro u hSu; (try dsimp only at hSu); go_simp; first | done | with_reducible rfl | rfl)
  simp only [Act.put, List.getElem_toArray, List.getElem_cons_zero, List.getElem_cons_succ, List.setIfInBounds_toArray, List.set_cons_zero, List.set_cons_succ]
  refine wpAnyV_tk (i := 10) (oi := _) (v := ?_) rfl (by kernel_rfl) (by kernel_rfl) (by kernel_rfl) (by kernel_rfl) (fun _ _ _ h => h) (Or.inl ⟨by rfl, ?_⟩) (by assumption) ?_
  rotate_left 1
  · (intro u hSu; (try dsimp only at hSu); go_simp; first | done | with_reducible rfl | rfl)
  simp only [Act.put, List.getElem_toArray, List.getElem_cons_zero, List.getElem_cons_succ, List.setIfInBounds_toArray, List.set_cons_zero, List.set_cons_succ]
  refine wpAnyV_tk (i := 11) (oi := _) (v := ?_) rfl (by kernel_rfl) (by kernel_rfl) (by kernel_rfl) (by kernel_rfl) (fun _ _ _ h => h) (Or.inl ⟨by rfl, ?_⟩) (by assumption) ?_
  rotate_left 1
  · (intro u hSu; (try dsimp only at hSu); go_simp; first | done | with_reducible rfl | rfl)
  simp only [Act.put, List.getElem_toArray, List.getElem_cons_zero, List.getElem_cons_succ, List.setIfInBounds_toArray, List.set_cons_zero, List.set_cons_succ]
  refine wpAnyV_tk (i := 12) (oi := _) (v := ?_) rfl (by kernel_rfl) (by kernel_rfl) (by kernel_rfl) (by kernel_rfl) (fun _ _ _ h => h) (Or.inl ⟨by rfl, ?_⟩) (by assumption) ?_
  rotate_left 1
  · (intro u hSu; (try dsimp only at hSu); go_simp; first | done | with_reducible rfl | rfl)
  simp only [Act.put, List.getElem_toArray, List.getElem_cons_zero, List.getElem_cons_succ, List.setIfInBounds_toArray, List.set_cons_zero, List.set_cons_succ]
  refine wpAnyV_tk (i := 13) (oi := _) (v := ?_) rfl (by kernel_rfl) (by kernel_rfl) (by kernel_rfl) (by kernel_rfl) (fun _ _ _ h => h) (Or.inl ⟨by rfl, ?_⟩) (by assumption) ?_
  rotate_left 1
  · (intro u hSu; (try dsimp only at hSu); go_simp; first | done | with_reducible rfl | rfl)
  simp only [Act.put, List.getElem_toArray, List.getElem_cons_zero, List.getElem_cons_succ, List.setIfInBounds_toArray, List.set_cons_zero, List.set_cons_succ]
  clear hHeld
  refine wpAnyV_ready (rs := [14]) (by kernel_rfl) (by simp) ?_
  refine ReadyV.cons (o := _) rfl (fun K hK => ?_) ReadyV.nil
  refine step_callH (by rfl) 80 #[.tmp 44, .tmp 49, .tmp 50] #[3, 3, 9] rfl #[.int .i64 x.ply, .int .i64 x.now, .string s] (by simp [Act.eval]) entLine (unhide HLN _ ((unhide HKZ).trans (hbd.mono (by have := (isH.lt (unhide HZ)); have := unhide hSb; omega)))) ?_
  rintro e y ⟨rfl, hby⟩
  refine ⟨_, rfl, ?_⟩
  have hzy : Below z.heap.size z y := hbd.trans (hby.mono hbd.size)
  have hy0 := isH.below (unhide HZ) hzy (isH.lt (unhide HZ))
  have hyq := (unhide HQ).below hzy (unhide HQ).lt
  have hHeld : (fun u => u.cell? ⟨b, 24, none⟩ = some (.string x.tx) ∧ u.cell? ⟨b, 22, none⟩ = some (.int .i64 x.ply) ∧ u.cell? ⟨b, 2, none⟩ = some (.int .i64 x.now)) y := ⟨(isH.cells hy0).2.2.2.2.2, (isH.cells hy0).2.2.2.1, (isH.cells hy0).1.2.2⟩
  refine hK.out _ _ (fun _ => hHeld) ?_
  clear hK K hby hbd
  try simp only [Act.put, List.getElem_toArray, List.getElem_cons_zero, List.getElem_cons_succ, List.setIfInBounds_toArray, List.set_cons_zero, List.set_cons_succ]
  refine wpAnyV_pure (i := 15) (oi := _) (v := ?_) rfl (by kernel_rfl) (by kernel_rfl) (by kernel_rfl) (by kernel_rfl) (fun _ _ _ h => h) (Or.inl ⟨by rfl, ?_⟩) (by first | exact fun _ => hHeld | (intro h; exact absurd h (by decide))) ?_
  rotate_left 1
  · (intro u _; go_simp; first | done | with_reducible rfl | rfl)
  simp only [Act.put, List.getElem_toArray, List.getElem_cons_zero, List.getElem_cons_succ, List.setIfInBounds_toArray, List.set_cons_zero, List.set_cons_succ]
  refine wpAnyV_pure (i := 16) (oi := _) (v := ?_) rfl (by kernel_rfl) (by kernel_rfl) (by kernel_rfl) (by kernel_rfl) (fun _ _ _ h => h) (Or.inl ⟨by rfl, ?_⟩) (by first | exact fun _ => hHeld | (intro h; exact absurd h (by decide))) ?_
  rotate_left 1
  · (intro u _; go_simp; first | done | with_reducible rfl | rfl)
  simp only [Act.put, List.getElem_toArray, List.getElem_cons_zero, List.getElem_cons_succ, List.setIfInBounds_toArray, List.set_cons_zero, List.set_cons_succ]
  refine wpAnyV_pure (i := 17) (oi := _) (v := ?_) rfl (by kernel_rfl) (by kernel_rfl) (by kernel_rfl) (by kernel_rfl) (fun _ _ _ h => h) (Or.inl ⟨by rfl, ?_⟩) (by first | exact fun _ => hHeld | (intro h; exact absurd h (by decide))) ?_
  rotate_left 1
  · (intro u _; go_simp; first | done | with_reducible rfl | rfl)
  simp only [Act.put, List.getElem_toArray, List.getElem_cons_zero, List.getElem_cons_succ, List.setIfInBounds_toArray, List.set_cons_zero, List.set_cons_succ]
  clear hHeld
  have c24 := (isH.cells hy0).2.2.2.2.2
  have f24 := isH.frozen hy0 24
  refine wpAnyV_ready (rs := [18]) (by kernel_rfl) (by simp) ?_
  refine ReadyV.cons (o := _) rfl (fun K hK => ?_) ReadyV.nil
  go_simp
  refine hK.out _ _ (fun h => absurd h (by decide)) ?_
  clear hK K c24 f24
  try simp only [Act.put, List.getElem_toArray, List.getElem_cons_zero, List.getElem_cons_succ, List.setIfInBounds_toArray, List.set_cons_zero, List.set_cons_succ]
  refine wpAnyV_done (by kernel_rfl) ?_ _
  have hy1 := isH.set24 hy0 (x.tx ++ LN)
  have hx1 : Ex b w.heap.size w (y.setCell ⟨b, 24, none⟩ (.string (x.tx ++ LN))) := ((Ex.of (unhide HWZ)).more hzy (unhide HWZ).size).set 24 _
  have hq1 : isPb (y.setCell ⟨b, 24, none⟩ (.string (x.tx ++ LN))) q p.W p.H p.T p.C p.A p.B := ((Ex.refl b (q + 1) y).set 24 (.string (x.tx ++ LN))).block q (by omega) (by have := unhide HQB; omega) |>.trans hyq
  have hk1 : Below S w00 (y.setCell ⟨b, 24, none⟩ (.string (x.tx ++ LN))) := ((unhide HKZ).trans (hzy.mono (by have := isH.lt (unhide HZ); have := unhide hSb; omega))).trans (((Ex.refl b y.heap.size y).set 24 (.string (x.tx ++ LN))).fresh (unhide hSb) (by have := isH.lt hy0; have := unhide hSb; omega))
  generalize y.setCell ⟨b, 24, none⟩ (.string (x.tx ++ LN)) = y1 at hy1 hx1 hq1 hk1 ⊢
  have HY1 := hide hy1
  have hy2 := isH.set22 hy1 (x.ply + 1)
  have hx2 := hx1.set 22 (.int .i64 (x.ply + 1))
  have hq2 : isPb (y1.setCell ⟨b, 22, none⟩ (.int .i64 (x.ply + 1))) q p.W p.H p.T p.C p.A p.B := ((Ex.refl b (q + 1) y1).set 22 (.int .i64 (x.ply + 1))).block q (by omega) (by have := unhide HQB; omega) |>.trans hq1
  have hk2 : Below S w00 (y1.setCell ⟨b, 22, none⟩ (.int .i64 (x.ply + 1))) := hk1.trans (((Ex.refl b y1.heap.size y1).set 22 (.int .i64 (x.ply + 1))).fresh (unhide hSb) (by have := isH.lt hy1; have := unhide hSb; omega))
  have c22 := (isH.cells hy1).2.2.2.1
  have f22 := isH.frozen hy1 22
  obtain ⟨y2, hye⟩ : ∃ y2, y2 = y1.setCell ⟨b, 22, none⟩ (.int .i64 (x.ply + 1)) := ⟨_, rfl⟩
  rw [← hye] at hy2 hx2 hq2 hk2
  have HYE := hide hye
  have HY2 : Hid (isHo y2 b v0 v1 v2 v3 v4 v5 v6 v7 v8 v9 v10 v11 (.int .i64 pl) { x with ply := x.ply + 1, tx := x.tx ++ LN } o) := hide hy2
  have HX2 := hide hx2
  have HK2 := hide hk2
  have hpp := hq2.all
  clear hye hy2 hx2 hk2 hy1 hx1 hq1 hk1 HY1 HZ HKZ HWZ HQ hzy hy0 hyq
  have hplyb := unhide HYN
  go_upto_region 7 with fail
  rw [← unhide HYE]
  clear c22 f22 hwrap hcat
  obtain ⟨q0, q1, q2, q3, q4, q5⟩ := hpp
  go_wp2_with fail
  refine (unhide HCT _ _ _ (unhide HY2) (unhide HK2)).mono ?_
  rintro e y3 ⟨rfl, hy3, hx3⟩
  have HX3 := hide ((unhide HX2).trans (hx3.mono (unhide HX2).size))
  have HY3 := hide hy3
  clear hy3 hx3 HX2 HY2 HK2 HYE HCT q0 q1 q2 q3 q4 q5 hq2
  go_wp2
  go_ret
  exact ⟨rfl, unhide HY3, unhide HX3⟩
end Go.Proofs.YtihojhfpepbjhaaGreatDoor
