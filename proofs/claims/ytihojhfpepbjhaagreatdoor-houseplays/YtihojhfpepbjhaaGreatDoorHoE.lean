/-
  gameref's house, walked: Ended.
-/
import Derived.Test.YtihojhfpepbjhaaGreatDoorHo7
namespace Go.Proofs.YtihojhfpepbjhaaGreatDoor
open Go.RowKit
attribute [local go_sem ↓] Go.wp_at_zero Go.wp_at_succ

/-- What is known of the document's answers, where a house's rules lie. -/
structure Rc (G : Gm) (ok : Po → Prop) (TX : Po → ByteArray) (S : Nat) (w00 : World) (v0 v1 v2 v3 v4 v5 v6 v7 v8 v9 v10 v11 : Value) : Prop where
  E : ∀ p, ok p → ∀ u, Below S w00 u → Calls Tryz.prog 77 #[.agg #[v0, v1, v2, v3, v4, v5, v6, v7, v8, v9, v10, v11, .int .i64 G.pl], .agg #[.int .i64 p.W, .int .i64 p.H, .string p.C, .int .i64 p.T, .string p.A, .string p.B]] u fun e u' => e = .returned (.int .i64 (G.O p)) ∧ Below u.heap.size u u'
  M : ∀ p, ok p → ∀ u, Below S w00 u → Calls Tryz.prog 73 #[.agg #[v0, v1, v2, v3, v4, v5, v6, v7, v8, v9, v10, v11, .int .i64 G.pl], .agg #[.int .i64 p.W, .int .i64 p.H, .string p.C, .int .i64 p.T, .string p.A, .string p.B]] u fun e u' => ∃ v, e = .returned v ∧ u'.ownsRow u.heap.size 61 3 v (G.L p).length (mvals (G.L p)) ∧ Below u.heap.size u u'
  X : ∀ p, ok p → ∀ m ∈ G.L p, ∀ u, Calls Tryz.prog 74 #[.agg #[.int .i64 p.W, .int .i64 p.H, .string p.C, .int .i64 p.T, .string p.A, .string p.B], .agg #[.int .i64 m.f, .int .i64 (m.t : Int), .int .u8 (m.c : Int)]] u fun e u' => e = .returned (.string ⟨(G.tx p m).toArray⟩) ∧ Below u.heap.size u u'
  D : ∀ p, ok p → ∀ m ∈ G.L p, ∀ u, Calls Tryz.prog 76 #[.agg #[v0, v1, v2, v3, v4, v5, v6, v7, v8, v9, v10, v11, .int .i64 G.pl], .agg #[.int .i64 p.W, .int .i64 p.H, .string p.C, .int .i64 p.T, .string p.A, .string p.B], .agg #[.int .i64 m.f, .int .i64 (m.t : Int), .int .u8 (m.c : Int)]] u fun e u' => e = .returned (.agg #[.int .i64 (G.beh p m).W, .int .i64 (G.beh p m).H, .string (G.beh p m).C, .int .i64 (G.beh p m).T, .string (G.beh p m).A, .string (G.beh p m).B]) ∧ Below u.heap.size u u'
  T : ∀ p, ok p → ∀ u, Calls Tryz.prog 40 #[.agg #[.int .i64 p.W, .int .i64 p.H, .string p.C, .int .i64 p.T, .string p.A, .string p.B]] u fun e u' => e = .returned (.string (TX p)) ∧ Below u.heap.size u u'
  len : ∀ p, ok p → (G.L p).length ≤ 100000
  tab : ∀ u, Below S w00 u → isTab u
theorem entEnds : ∀ args (u : World), (callFunc 77 args).run Tryz.prog u = .ok (.enter 77 args) u := enters_of Tryz.func77 (by kernel_rfl) rfl
set_option maxHeartbeats 4000000 in
set_option maxRecDepth 100000 in
theorem rEnded_any (G : Gm) (ok : Po → Prop) (TX : Po → ByteArray) (b S : Nat) (v0 v1 v2 v3 v4 v5 v6 v7 v8 v9 v10 v11 : Value) (w00 w : World) (hc : Rc G ok TX S w00 v0 v1 v2 v3 v4 v5 v6 v7 v8 v9 v10 v11) (x : Ho) (hx : ok x.p) (h : isRo w b v0 v1 v2 v3 v4 v5 v6 v7 v8 v9 v10 v11 (.int .i64 G.pl) x) (h00 : Below S w00 w) :
    Calls Tryz.prog 39 #[.pointer (some ⟨b, 0, none⟩)] w fun e w' => e = .returned (.int .i64 (G.ended x)) ∧ Below w.heap.size w w' := by
  have HE := hide (hc.E _ hx _ h00.drew)
  obtain ⟨Z, hZ⟩ : ∃ Z, Z = G.ended x := ⟨_, rfl⟩
  rw [← hZ]
  have hZ2 : Z = if 0 < x.flag then x.flag else if G.O x.p = 0 ∧ x.ply = G.pl then 3 else G.O x.p := hZ
  have HZ := hide hZ2
  clear hZ hZ2 hc hx h00
  generalize G.O x.p = O at HE HZ
  generalize G.pl = pl at HE HZ h
  have H := hide h
  clear h
  go_enter Tryz.func39, Tryz.ntmps39
  go_upto_region 1 with fail
  refine wp_region_v [8] (fun u => (u.cell? ⟨b, 0, none⟩ = some v0 ∧ u.cell? ⟨b, 1, none⟩ = some v1 ∧ u.cell? ⟨b, 2, none⟩ = some v2 ∧ u.cell? ⟨b, 3, none⟩ = some v3 ∧ u.cell? ⟨b, 4, none⟩ = some v4 ∧ u.cell? ⟨b, 5, none⟩ = some v5 ∧ u.cell? ⟨b, 6, none⟩ = some v6 ∧ u.cell? ⟨b, 7, none⟩ = some v7 ∧ u.cell? ⟨b, 8, none⟩ = some v8 ∧ u.cell? ⟨b, 9, none⟩ = some v9 ∧ u.cell? ⟨b, 10, none⟩ = some v10 ∧ u.cell? ⟨b, 11, none⟩ = some v11 ∧ u.cell? ⟨b, 12, none⟩ = some (.int .i64 pl)) ∧ u.cell? ⟨b, 13, none⟩ = some (.int .i64 x.p.W) ∧ u.cell? ⟨b, 14, none⟩ = some (.int .i64 x.p.H) ∧ u.cell? ⟨b, 15, none⟩ = some (.string x.p.C) ∧ u.cell? ⟨b, 16, none⟩ = some (.int .i64 x.p.T) ∧ u.cell? ⟨b, 17, none⟩ = some (.string x.p.A) ∧ u.cell? ⟨b, 18, none⟩ = some (.string x.p.B)) (by kernel_rfl) ?_
  have hHeld : (fun u => (u.cell? ⟨b, 0, none⟩ = some v0 ∧ u.cell? ⟨b, 1, none⟩ = some v1 ∧ u.cell? ⟨b, 2, none⟩ = some v2 ∧ u.cell? ⟨b, 3, none⟩ = some v3 ∧ u.cell? ⟨b, 4, none⟩ = some v4 ∧ u.cell? ⟨b, 5, none⟩ = some v5 ∧ u.cell? ⟨b, 6, none⟩ = some v6 ∧ u.cell? ⟨b, 7, none⟩ = some v7 ∧ u.cell? ⟨b, 8, none⟩ = some v8 ∧ u.cell? ⟨b, 9, none⟩ = some v9 ∧ u.cell? ⟨b, 10, none⟩ = some v10 ∧ u.cell? ⟨b, 11, none⟩ = some v11 ∧ u.cell? ⟨b, 12, none⟩ = some (.int .i64 pl)) ∧ u.cell? ⟨b, 13, none⟩ = some (.int .i64 x.p.W) ∧ u.cell? ⟨b, 14, none⟩ = some (.int .i64 x.p.H) ∧ u.cell? ⟨b, 15, none⟩ = some (.string x.p.C) ∧ u.cell? ⟨b, 16, none⟩ = some (.int .i64 x.p.T) ∧ u.cell? ⟨b, 17, none⟩ = some (.string x.p.A) ∧ u.cell? ⟨b, 18, none⟩ = some (.string x.p.B)) w.drew := ⟨(isR.cells (unhide H)).1, (isR.cells (unhide H)).2.1⟩
  refine wpAnyV_tk (i := 0) (oi := _) (v := ?_) rfl (by kernel_rfl) (by kernel_rfl) (by kernel_rfl) (by kernel_rfl) (fun _ _ _ h => h) (Or.inl ⟨by rfl, ?_⟩) (by assumption) ?_
  rotate_left 1
  · (intro u hSu; (try dsimp only at hSu); go_simp; first | done | with_reducible rfl | rfl)
  simp only [Act.put, List.getElem_toArray, List.getElem_cons_zero, List.setIfInBounds_toArray, List.set_cons_zero, List.set_cons_succ]
  refine wpAnyV_tk (i := 1) (oi := _) (v := ?_) rfl (by kernel_rfl) (by kernel_rfl) (by kernel_rfl) (by kernel_rfl) (fun _ _ _ h => h) (Or.inl ⟨by rfl, ?_⟩) (by assumption) ?_
  rotate_left 1
  · (intro u hSu; (try dsimp only at hSu); go_simp; first | done | with_reducible rfl | rfl)
  simp only [Act.put, List.getElem_toArray, List.getElem_cons_zero, List.getElem_cons_succ, List.setIfInBounds_toArray, List.set_cons_zero, List.set_cons_succ]
  refine wpAnyV_tk (i := 2) (oi := _) (v := ?_) rfl (by kernel_rfl) (by kernel_rfl) (by kernel_rfl) (by kernel_rfl) (fun _ _ _ h => h) (Or.inl ⟨by rfl, ?_⟩) (by assumption) ?_
  rotate_left 1
  · (intro u hSu; (try dsimp only at hSu); go_simp; first | done | with_reducible rfl | rfl)
  simp only [Act.put, List.getElem_toArray, List.getElem_cons_zero, List.getElem_cons_succ, List.setIfInBounds_toArray, List.set_cons_zero, List.set_cons_succ]
  refine wpAnyV_tk (i := 3) (oi := _) (v := ?_) rfl (by kernel_rfl) (by kernel_rfl) (by kernel_rfl) (by kernel_rfl) (fun _ _ _ h => h) (Or.inl ⟨by rfl, ?_⟩) (by assumption) ?_
  rotate_left 1
  · (intro u hSu; (try dsimp only at hSu); go_simp; first | done | with_reducible rfl | rfl)
  simp only [Act.put, List.getElem_toArray, List.getElem_cons_zero, List.getElem_cons_succ, List.setIfInBounds_toArray, List.set_cons_zero, List.set_cons_succ]
  refine wpAnyV_tk (i := 4) (oi := _) (v := ?_) rfl (by kernel_rfl) (by kernel_rfl) (by kernel_rfl) (by kernel_rfl) (fun _ _ _ h => h) (Or.inl ⟨by rfl, ?_⟩) (by assumption) ?_
  rotate_left 1
  · (intro u hSu; (try dsimp only at hSu); go_simp; first | done | with_reducible rfl | rfl)
  simp only [Act.put, List.getElem_toArray, List.getElem_cons_zero, List.getElem_cons_succ, List.setIfInBounds_toArray, List.set_cons_zero, List.set_cons_succ]
  refine wpAnyV_tk (i := 5) (oi := _) (v := ?_) rfl (by kernel_rfl) (by kernel_rfl) (by kernel_rfl) (by kernel_rfl) (fun _ _ _ h => h) (Or.inl ⟨by rfl, ?_⟩) (by assumption) ?_
  rotate_left 1
  · (intro u hSu; (try dsimp only at hSu); go_simp; first | done | with_reducible rfl | rfl)
  simp only [Act.put, List.getElem_toArray, List.getElem_cons_zero, List.getElem_cons_succ, List.setIfInBounds_toArray, List.set_cons_zero, List.set_cons_succ]
  refine wpAnyV_tk (i := 6) (oi := _) (v := ?_) rfl (by kernel_rfl) (by kernel_rfl) (by kernel_rfl) (by kernel_rfl) (fun _ _ _ h => h) (Or.inl ⟨by rfl, ?_⟩) (by assumption) ?_
  rotate_left 1
  · (intro u hSu; (try dsimp only at hSu); go_simp; first | done | with_reducible rfl | rfl)
  simp only [Act.put, List.getElem_toArray, List.getElem_cons_zero, List.getElem_cons_succ, List.setIfInBounds_toArray, List.set_cons_zero, List.set_cons_succ]
  refine wpAnyV_tk (i := 7) (oi := _) (v := ?_) rfl (by kernel_rfl) (by kernel_rfl) (by kernel_rfl) (by kernel_rfl) (fun _ _ _ h => h) (Or.inl ⟨by rfl, ?_⟩) (by assumption) ?_
  rotate_left 1
  · (intro u hSu; (try dsimp only at hSu); go_simp; first | done | with_reducible rfl | rfl)
  simp only [Act.put, List.getElem_toArray, List.getElem_cons_zero, List.getElem_cons_succ, List.setIfInBounds_toArray, List.set_cons_zero, List.set_cons_succ]
  clear hHeld
  refine wpAnyV_ready (rs := [8]) (by kernel_rfl) (by simp) ?_
  refine ReadyV.cons (o := _) rfl (fun K hK => ?_) ReadyV.nil
  refine step_callH (by rfl) 77 _ _ rfl #[.agg #[v0, v1, v2, v3, v4, v5, v6, v7, v8, v9, v10, v11, .int .i64 pl], .agg #[.int .i64 x.p.W, .int .i64 x.p.H, .string x.p.C, .int .i64 x.p.T, .string x.p.A, .string x.p.B]] (by simp [Act.eval]) entEnds (unhide HE) ?_
  rintro e w1 ⟨rfl, hb⟩
  have hb1 := undrew hb
  refine ⟨_, rfl, ?_⟩
  refine hK.out _ _ (fun h => absurd h (by decide)) ?_
  clear hK K hb HE
  try simp only [Act.put, List.getElem_toArray, List.getElem_cons_zero, List.getElem_cons_succ, List.setIfInBounds_toArray, List.set_cons_zero, List.set_cons_succ]
  refine wpAnyV_pure (i := 9) (oi := _) (v := ?_) rfl (by kernel_rfl) (by kernel_rfl) (by kernel_rfl) (by kernel_rfl) (fun _ _ _ h => h) (Or.inl ⟨by rfl, ?_⟩) (by first | exact fun _ => hHeld | (intro h; exact absurd h (by decide))) ?_
  rotate_left 1
  · (intro u _; go_simp; first | done | with_reducible rfl | rfl)
  simp only [Act.put, List.getElem_toArray, List.getElem_cons_zero, List.getElem_cons_succ, List.setIfInBounds_toArray, List.set_cons_zero, List.set_cons_succ]
  refine wpAnyV_done (by kernel_rfl) ?_ _
  have h1 := isR.below (unhide H) hb1 (isR.lt (unhide H))
  have HB := hide hb1
  obtain ⟨⟨-, -, -, -, -, -, -, -, -, -, -, -, r12⟩, -, hy, -, -, -, hfl, -⟩ := isR.cells h1
  clear h1 hb1 H
  by_cases hf : 0 < x.flag
  · have hZ : Hid (Z = x.flag) := hide (by rw [unhide HZ, if_pos hf])
    go_wp2
    go_ret
    rw [unhide hZ]
    exact ⟨rfl, unhide HB⟩
  · by_cases hO : O = 0
    · by_cases hp : x.ply = pl
      · have hZ : Hid (Z = 3) := hide (by rw [unhide HZ, if_neg hf, if_pos ⟨hO, hp⟩])
        have e1 : (O == 0) = true := by simp [hO]
        have e2 : (x.ply == pl) = true := by simp [hp]
        clear hp
        go_wp2_with fail
        go_region
        go_wp2
        go_ret
        rw [unhide hZ]
        exact ⟨rfl, (unhide HB).drew⟩
      · have hZ : Hid (Z = 0) := hide (by rw [unhide HZ, if_neg hf, if_neg (fun h => hp h.2), hO])
        have e1 : (O == 0) = true := by simp [hO]
        have e2 : (x.ply == pl) = false := by simp [hp]
        go_wp2_with fail
        go_region
        go_wp2
        go_ret
        rw [unhide hZ]
        exact ⟨rfl, (unhide HB).drew⟩
    · have hZ : Hid (Z = O) := hide (by rw [unhide HZ, if_neg hf, if_neg (fun h => hO h.1)])
      have e1 : (O == 0) = false := by simp [hO]
      go_wp2_with fail
      go_region
      go_wp2
      go_ret
      rw [unhide hZ]
      exact ⟨rfl, (unhide HB).drew⟩
end Go.Proofs.YtihojhfpepbjhaaGreatDoor
