/-
  package house, walked: a line is read.
-/
import Derived.Test.YtihojhfpepbjhaaGreatDoorShelfC
import Derived.Test.YtihojhfpepbjhaaGreatDoorJ25
import Derived.Test.YtihojhfpepbjhaaGreatDoorJ29
import Derived.BigQuiet
namespace Go.Proofs.YtihojhfpepbjhaaGreatDoor
open Go.RowKit
attribute [local go_sem ↓] Go.wp_at_zero Go.wp_at_succ

/-- The library's two errors lie there. -/
def isEr (w : World) : Prop := ∃ t1 p1 t2 p2 y1 z1 y2 z2, w.heap[1]? = some (.cells #[.iface t1 p1] y1 z1) ∧ w.heap[2]? = some (.cells #[.iface t2 p2] y2 z2)
theorem isEr.below {w w' : World} {S : Nat} (h : isEr w) (hb : Below S w w') (hS : 2 < S) : isEr w' := by
  obtain ⟨t1, p1, t2, p2, y1, z1, y2, z2, h1, h2⟩ := h
  exact ⟨t1, p1, t2, p2, y1, z1, y2, z2, (hb.block 1 (by omega)).trans h1, (hb.block 2 hS).trans h2⟩
theorem isEr.lt {w : World} (h : isEr w) : 2 < w.heap.size := by
  obtain ⟨t1, p1, t2, p2, y1, z1, y2, z2, h1, h2⟩ := h
  exact (Array.getElem?_eq_some_iff.1 h2).1
theorem glob1 : Tryz.prog.globalNamed "strconv.ErrSyntax" = some 1 := by kernel_rfl
theorem glob2 : Tryz.prog.globalNamed "strconv.ErrRange" = some 2 := by kernel_rfl
theorem bytes_belowU (w : World) (t : ByteArray) : Below w.heap.size w (Lib.bytesWorld w 5 t) := by
  unfold Lib.bytesWorld
  have h0 : Below w.heap.size w w.drew := (Below.refl _ _).drew
  have h1 := h0.alloc (Nat.le_refl w.heap.size) (.cells (Lib.bytesCells w 5 t) 5)
  exact Lib.below_freeze (p := ⟨w.heap.size, (Lib.bytesCells w 5 t).size, none⟩) h1 (Nat.le_refl w.heap.size) 1
theorem isG.setAll {w : World} {b : Nat} {m : Ms} (h : isG w b m) (x0 x1 : Int) (x2 : ByteArray) (x3 : Int) : isG ((((w.setCell ⟨b, 0, none⟩ (.int .i64 x0)).setCell ⟨b, 1, none⟩ (.int .i64 x1)).setCell ⟨b, 2, none⟩ (.string x2)).setCell ⟨b, 3, none⟩ (.int .i64 x3)) b ⟨x0, x1, x2, x3⟩ := by
  unfold isG at h ⊢; simp [World.setCell, Array.getElem?_modify, h]
/-- Atoi of whatever text. -/
theorem atoi_anyU (s : ByteArray) (hs : s.size ≤ 4294967296) (w : World) (hE : isEr w) :
    Calls Tryz.prog 45 #[.string s] w fun e w' => ∃ v er, e = .returned (.tuple #[.int .i64 v, er]) ∧ ((er = .nilIface ∧ Lib.atoiAll s.data.toList = .ok v) ∨ ((∃ N, er = .iface 169 (.pointer (some ⟨N, 0, none⟩))) ∧ ∀ v', Lib.atoiAll s.data.toList ≠ .ok v')) ∧ Below w.heap.size w w' := by
  obtain ⟨t1, p1, t2, p2, y1, z1, y2, z2, h1, h2⟩ := hE
  cases h : Lib.atoiAll s.data.toList with
  | ok v =>
    refine (Tryz.strconv_Atoi_ok s (by omega) v h w).mono ?_
    rintro e w' ⟨rfl, hw⟩
    refine ⟨v, _, rfl, Or.inl ⟨rfl, rfl⟩, ?_⟩
    rcases hw with rfl | ⟨t, rfl⟩
    · exact Below.refl _ _
    · exact bytes_belowU w t
  | «syntax» =>
    refine (Tryz.strconv_Atoi_syntax_var s (by omega) h t1 p1 w (by unfold World.var?; rw [glob1]; simp [h1])).mono ?_
    rintro e w' ⟨N, rfl, -, -, hb⟩
    exact ⟨0, _, rfl, Or.inr ⟨⟨N, rfl⟩, fun v' hv => by cases hv⟩, hb⟩
  | range =>
    refine (Tryz.strconv_Atoi_range_var s (by omega) h t2 p2 w (by unfold World.var?; rw [glob2]; simp [h2])).mono ?_
    rintro e w' ⟨N, rfl, -, -, hb⟩
    exact ⟨_, _, rfl, Or.inr ⟨⟨N, rfl⟩, fun v' hv => by cases hv⟩, hb⟩
theorem cut1_le (l sep : List UInt8) : (Lib.cut l sep).1.length ≤ l.length ∧ (Lib.cut l sep).2.1.length ≤ l.length := by
  unfold Lib.cut
  split
  · simp [List.length_take, List.length_drop]
    exact Nat.min_le_right _ _
  · simp
set_option maxHeartbeats 4000000 in
set_option maxRecDepth 100000 in
theorem messageOf_any (s : ByteArray) (hs : s.size ≤ 4294967280) (mx : Int) (w : World) (hm : w.cell? ⟨0, 0, none⟩ = some (.int .i64 mx)) (hE : isEr w) :
    Calls Tryz.prog 79 #[.string s] w fun e w' => (∃ p a mv, e = .returned (.tuple #[.agg #[.int .i64 0, .int .i64 p, .string ⟨mv.toArray⟩, .int .i64 a], .bool (msgOf s.data.toList).isSome]) ∧ ∀ t, msgOf s.data.toList = some t → t = (p, a, mv)) ∧ Below w.heap.size w w' := by
  have K1 := fun u (hu : u.cell? ⟨0, 0, none⟩ = some (.int .i64 mx)) => Tryz.strings_Cut s ⟨#[32]⟩ mx u (by omega) hu
  obtain ⟨L, hL⟩ : ∃ L, L = s.data.toList := ⟨_, rfl⟩
  have hLs : L.length = s.size := by rw [hL]; exact Array.length_toList
  have c1 := cut1_le L [32]
  rw [← hL] at K1 ⊢
  have e32 : (⟨#[32]⟩ : ByteArray).data.toList = [32] := rfl
  rw [e32] at K1
  obtain ⟨l1, l2, l3, hl⟩ : ∃ l1 l2 l3, Lib.cut L [32] = (l1, l2, l3) := ⟨_, _, _, rfl⟩
  rw [hl] at K1 c1
  have K2 := fun u (hu : u.cell? ⟨0, 0, none⟩ = some (.int .i64 mx)) => Tryz.strings_Cut ⟨l2.toArray⟩ ⟨#[32]⟩ mx u (by show l2.toArray.size < _; rw [List.size_toArray]; have := c1.2; dsimp only at this; omega) hu
  have c2 := cut1_le l2 [32]
  rw [e32] at K2
  obtain ⟨m1, m2, m3, hl2⟩ : ∃ m1 m2 m3, Lib.cut l2 [32] = (m1, m2, m3) := ⟨_, _, _, rfl⟩
  rw [show (⟨l2.toArray⟩ : ByteArray).data.toList = l2 from rfl] at K2
  rw [hl2] at K2 c2
  have A1 := fun u hu => atoi_anyU ⟨l1.toArray⟩ (by show l1.toArray.size ≤ _; rw [List.size_toArray]; have := c1.1; dsimp only at this; omega) u hu
  have A2 := fun u hu => atoi_anyU ⟨m1.toArray⟩ (by show m1.toArray.size ≤ _; rw [List.size_toArray]; have := c1.2; have := c2.1; dsimp only at *; omega) u hu
  rw [show (⟨l1.toArray⟩ : ByteArray).data.toList = l1 from rfl] at A1
  rw [show (⟨m1.toArray⟩ : ByteArray).data.toList = m1 from rfl] at A2
  have hM : msgOf L = match Lib.atoiAll l1 with
    | .ok p => match Lib.atoiAll m1 with
      | .ok a => some (p, a, m2)
      | _ => none
    | _ => none := by unfold msgOf; rw [hl]; dsimp only; rw [hl2]; rcases Lib.atoiAll l1 with _ | _ | _ <;> rcases Lib.atoiAll m1 with _ | _ | _ <;> rfl
  obtain ⟨R, hR⟩ : ∃ R, R = msgOf L := ⟨_, rfl⟩
  rw [← hR] at hM ⊢
  have HM := hide hM
  have HK1 := hide K1
  have HK2 := hide K2
  have HA1 := hide A1
  have HA2 := hide A2
  have hp := hE.lt
  have HE := hide hE
  clear K1 K2 A1 A2 hM hR hl hl2 c1 c2 hE hL hLs hs e32
  have hm0 := hide hm
  go_enter Tryz.func79, Tryz.ntmps79
  go_wp2_with fail
  obtain ⟨w1, hw1⟩ : ∃ w1, w1 = w.alloc (.cells #[.int .i64 0, .int .i64 0, .string ⟨#[]⟩, .int .i64 0] 43) := ⟨_, rfl⟩
  rw [← hw1]
  have hb1 : Below w.heap.size w w1 := by rw [hw1]; exact (Below.refl _ _).alloc (Nat.le_refl _) _
  have hg1 : w1.heap[w.heap.size]? = some (.cells #[.int .i64 0, .int .i64 0, .string ⟨#[]⟩, .int .i64 0] 43 (0, 0)) := by rw [hw1]; exact heap_alloc_new w _
  have hm1 : w1.cell? ⟨0, 0, none⟩ = some (.int .i64 mx) := by unfold World.cell? at hm ⊢; rw [hb1.block 0 (by omega)]; exact hm
  have hs1 : w.heap.size < w1.heap.size := (Array.getElem?_eq_some_iff.1 hg1).1
  have HE1 := hide ((unhide HE).below hb1 hp)
  have HB1 := hide hb1
  have HG1 := hide hg1
  clear hw1 hb1 hg1 hm0
  refine (unhide HK1 _ hm1).mono ?_
  rintro e w2 ⟨rfl, n, hw2⟩
  have hb2 : Below w1.heap.size w1 w2 := by rw [hw2]; exact ⟨rfl, rfl, rfl, Nat.le_refl _, fun _ _ => rfl⟩
  have hz2 : w2.heap = w1.heap := by rw [hw2]; rfl
  have hm2 : w2.cell? ⟨0, 0, none⟩ = some (.int .i64 mx) := by unfold World.cell? at hm1 ⊢; rw [hz2]; exact hm1
  have HZ2 := hide hz2
  have HB2 := hide hb2
  clear hw2 hz2 hb2 hm1 HK1
  go_wp2_with fail
  refine (unhide HK2 _ hm2).mono ?_
  rintro e w3 ⟨rfl, n3, hw3⟩
  have hz3 : w3.heap = w1.heap := by rw [hw3]; exact unhide HZ2
  have hb3 : Below w1.heap.size w1 w3 := by
    refine (unhide HB2).trans ?_
    rw [hw3]
    exact ⟨rfl, rfl, rfl, Nat.le_refl _, fun _ _ => rfl⟩
  have HE3 := hide ((unhide HE1).below hb3 (by omega))
  have HZ3 := hide hz3
  have HB3 := hide ((unhide HB1).trans (hb3.mono (by omega)))
  have HG3 := hide ((hb3.block _ hs1).trans (unhide HG1))
  clear hw3 hz3 hb3 hm2 HK2 HZ2 HB2
  go_wp2_with fail
  refine (unhide HA1 _ (unhide HE3)).mono ?_
  rintro e w4 ⟨p, er, rfl, hp4, hb4⟩
  have hz : w3.heap.size = w1.heap.size := by rw [unhide HZ3]
  have HE4 := hide ((unhide HE3).below hb4 (by omega))
  have HB4 := hide ((unhide HB3).trans (hb4.mono (by omega)))
  have HG4 := hide ((hb4.block _ (by omega)).trans (unhide HG3))
  have HS4 := hide (show w1.heap.size ≤ w4.heap.size by have := hb4.size; omega)
  have HP4 := hide hp4
  clear hb4 hp4 HE3 HB3 HG3 HA1 hz HZ3
  go_wp2_with fail
  refine (unhide HA2 _ (unhide HE4)).mono ?_
  rintro e w5 ⟨q, er2, rfl, hp5, hb5⟩
  have HB5 := hide ((unhide HB4).trans (hb5.mono (by have := unhide HS4; omega)))
  have HG5 := hide ((hb5.block _ (by have := unhide HS4; omega)).trans (unhide HG4))
  have HP5 := hide hp5
  clear hb5 hp5 HE4 HB4 HG4 HA2
  go_upto_region 5 with fail
  refine wp_region_v [10] (fun _ => True) (by kernel_rfl) ?_
  have hHeld : (fun _ : World => True) w5.drew := trivial
  obtain ⟨zd, hzd⟩ : ∃ zd, zd = w5.drew := ⟨_, rfl⟩
  have HBD := hide (show Below w.heap.size w zd by rw [hzd]; exact (unhide HB5).drew)
  have hgd : isG zd w.heap.size ⟨0, 0, ⟨#[]⟩, 0⟩ := by rw [hzd]; exact unhide HG5
  have HGD := hide hgd
  rw [← hzd] at hHeld ⊢
  obtain ⟨c0, c1, c2, c3⟩ := hgd.cells
  have f0 := hgd.frozen 0
  have f1 := hgd.frozen 1
  have f2 := hgd.frozen 2
  have f3 := hgd.frozen 3
  clear hzd hgd HG5 HB5 HE HE1 HB1 HG1 HS4 hs1 hm hp
  refine wpAnyV_pure (i := 0) (oi := _) (v := ?_) rfl (by kernel_rfl) (by kernel_rfl) (by kernel_rfl) (by kernel_rfl) (fun _ _ _ h => h) (Or.inl ⟨by rfl, ?_⟩) (by first | exact fun _ => hHeld | (intro h; exact absurd h (by decide))) ?_
  rotate_left 1
  · (intro u _; go_simp; first | done | with_reducible rfl | rfl)
  simp only [Act.put, List.getElem_toArray, List.getElem_cons_zero, List.setIfInBounds_toArray, List.set_cons_zero, List.set_cons_succ]
  refine wpAnyV_pure (i := 1) (oi := _) (v := ?_) rfl (by kernel_rfl) (by kernel_rfl) (by kernel_rfl) (by kernel_rfl) (fun _ _ _ h => h) (Or.inl ⟨by rfl, ?_⟩) (by first | exact fun _ => hHeld | (intro h; exact absurd h (by decide))) ?_
  rotate_left 1
  · (intro u _; go_simp; first | done | with_reducible rfl | rfl)
  simp only [Act.put, List.getElem_toArray, List.getElem_cons_zero, List.getElem_cons_succ, List.setIfInBounds_toArray, List.set_cons_zero, List.set_cons_succ]
  refine wpAnyV_pure (i := 2) (oi := _) (v := ?_) rfl (by kernel_rfl) (by kernel_rfl) (by kernel_rfl) (by kernel_rfl) (fun _ _ _ h => h) (Or.inl ⟨by rfl, ?_⟩) (by first | exact fun _ => hHeld | (intro h; exact absurd h (by decide))) ?_
  rotate_left 1
  · (intro u _; go_simp; first | done | with_reducible rfl | rfl)
  simp only [Act.put, List.getElem_toArray, List.getElem_cons_zero, List.getElem_cons_succ, List.setIfInBounds_toArray, List.set_cons_zero, List.set_cons_succ]
  refine wpAnyV_pure (i := 3) (oi := _) (v := ?_) rfl (by kernel_rfl) (by kernel_rfl) (by kernel_rfl) (by kernel_rfl) (fun _ _ _ h => h) (Or.inl ⟨by rfl, ?_⟩) (by first | exact fun _ => hHeld | (intro h; exact absurd h (by decide))) ?_
  rotate_left 1
  · (intro u _; go_simp; first | done | with_reducible rfl | rfl)
  simp only [Act.put, List.getElem_toArray, List.getElem_cons_zero, List.getElem_cons_succ, List.setIfInBounds_toArray, List.set_cons_zero, List.set_cons_succ]
  refine wpAnyV_pure (i := 4) (oi := _) (v := ?_) rfl (by kernel_rfl) (by kernel_rfl) (by kernel_rfl) (by kernel_rfl) (fun _ _ _ h => h) (Or.inl ⟨by rfl, ?_⟩) (by first | exact fun _ => hHeld | (intro h; exact absurd h (by decide))) ?_
  rotate_left 1
  · (intro u _; go_simp; first | done | with_reducible rfl | rfl)
  simp only [Act.put, List.getElem_toArray, List.getElem_cons_zero, List.getElem_cons_succ, List.setIfInBounds_toArray, List.set_cons_zero, List.set_cons_succ]
  rcases unhide HP4 with ⟨rfl, h4⟩ | ⟨⟨N, rfl⟩, h4⟩
  · rcases unhide HP5 with ⟨rfl, h5⟩ | ⟨⟨N, rfl⟩, h5⟩
    · have HR : Hid (R = some (p, q, m2)) := hide (by rw [unhide HM, h4, h5])
      clear h4 h5 HM HP4 HP5
      refine wpAnyV_pure (i := 5) (oi := _) (v := ?_) rfl (by kernel_rfl) (by kernel_rfl) (by kernel_rfl) (by kernel_rfl) (fun _ _ _ h => h) (Or.inl ⟨by rfl, ?_⟩) (by first | exact fun _ => hHeld | (intro h; exact absurd h (by decide))) ?_
      rotate_left 1
      · (intro u _; go_simp; first | done | with_reducible rfl | rfl)
      simp only [Act.put, List.getElem_toArray, List.getElem_cons_zero, List.getElem_cons_succ, List.setIfInBounds_toArray, List.set_cons_zero, List.set_cons_succ]
      refine wpAnyV_pure (i := 6) (oi := _) (v := ?_) rfl (by kernel_rfl) (by kernel_rfl) (by kernel_rfl) (by kernel_rfl) (fun _ _ _ h => h) (Or.inl ⟨by rfl, ?_⟩) (by first | exact fun _ => hHeld | (intro h; exact absurd h (by decide))) ?_
      rotate_left 1
      · (intro u _; go_simp; first | done | with_reducible rfl | rfl)
      simp only [Act.put, List.getElem_toArray, List.getElem_cons_zero, List.getElem_cons_succ, List.setIfInBounds_toArray, List.set_cons_zero, List.set_cons_succ]
      refine wpAnyV_pure (i := 7) (oi := _) (v := ?_) rfl (by kernel_rfl) (by kernel_rfl) (by kernel_rfl) (by kernel_rfl) (fun _ _ _ h => h) (Or.inl ⟨by rfl, ?_⟩) (by first | exact fun _ => hHeld | (intro h; exact absurd h (by decide))) ?_
      rotate_left 1
      · (intro u _; go_simp; first | done | with_reducible rfl | rfl)
      simp only [Act.put, List.getElem_toArray, List.getElem_cons_zero, List.getElem_cons_succ, List.setIfInBounds_toArray, List.set_cons_zero, List.set_cons_succ]
      refine wpAnyV_pure (i := 8) (oi := _) (v := ?_) rfl (by kernel_rfl) (by kernel_rfl) (by kernel_rfl) (by kernel_rfl) (fun _ _ _ h => h) (Or.inl ⟨by rfl, ?_⟩) (by first | exact fun _ => hHeld | (intro h; exact absurd h (by decide))) ?_
      rotate_left 1
      · (intro u _; go_simp; first | done | with_reducible rfl | rfl)
      simp only [Act.put, List.getElem_toArray, List.getElem_cons_zero, List.getElem_cons_succ, List.setIfInBounds_toArray, List.set_cons_zero, List.set_cons_succ]
      refine wpAnyV_pure (i := 9) (oi := _) (v := ?_) rfl (by kernel_rfl) (by kernel_rfl) (by kernel_rfl) (by kernel_rfl) (fun _ _ _ h => h) (Or.inl ⟨by rfl, ?_⟩) (by first | exact fun _ => hHeld | (intro h; exact absurd h (by decide))) ?_
      rotate_left 1
      · (intro u _; go_simp; first | done | with_reducible rfl | rfl)
      simp only [Act.put, List.getElem_toArray, List.getElem_cons_zero, List.getElem_cons_succ, List.setIfInBounds_toArray, List.set_cons_zero, List.set_cons_succ]
      clear hHeld
      refine wpAnyV_ready (rs := [10]) (by kernel_rfl) (by simp) ?_
      refine ReadyV.cons (o := _) rfl (fun K hK => ?_) ReadyV.nil
      go_simp
      refine hK.out _ _ (fun h => absurd h (by decide)) ?_
      clear hK K
      try simp only [Act.put, List.getElem_toArray, List.getElem_cons_zero, List.getElem_cons_succ, List.setIfInBounds_toArray, List.set_cons_zero, List.set_cons_succ]
      refine wpAnyV_pure (i := 11) (oi := _) (v := ?_) rfl (by kernel_rfl) (by kernel_rfl) (by kernel_rfl) (by kernel_rfl) (fun _ _ _ h => h) (Or.inl ⟨by rfl, ?_⟩) (by first | exact fun _ => hHeld | (intro h; exact absurd h (by decide))) ?_
      rotate_left 1
      · (intro u _; go_simp; first | done | with_reducible rfl | rfl)
      simp only [Act.put, List.getElem_toArray, List.getElem_cons_zero, List.getElem_cons_succ, List.setIfInBounds_toArray, List.set_cons_zero, List.set_cons_succ]
      refine wpAnyV_done (by kernel_rfl) ?_ _
      obtain ⟨ze, hze⟩ : ∃ ze, ze = (((zd.setCell ⟨w.heap.size, 0, none⟩ (.int .i64 0)).setCell ⟨w.heap.size, 1, none⟩ (.int .i64 p)).setCell ⟨w.heap.size, 2, none⟩ (.string ⟨m2.toArray⟩)).setCell ⟨w.heap.size, 3, none⟩ (.int .i64 q) := ⟨_, rfl⟩
      rw [← hze]
      have hge : isG ze w.heap.size ⟨0, p, ⟨m2.toArray⟩, q⟩ := by
        rw [hze]
        exact (unhide HGD).setAll 0 p ⟨m2.toArray⟩ q
      have hbe : Below w.heap.size w ze := by
        rw [hze]
        exact ((((unhide HBD).setCell (p := ⟨w.heap.size, 0, none⟩) (Nat.le_refl _) _).setCell (p := ⟨w.heap.size, 1, none⟩) (Nat.le_refl _) _).setCell (p := ⟨w.heap.size, 2, none⟩) (Nat.le_refl _) _).setCell (p := ⟨w.heap.size, 3, none⟩) (Nat.le_refl _) _
      obtain ⟨k0, k1, k2, k3⟩ := hge.cells
      clear hze
      go_wp2
      exact bodyPost_ret (v := .tuple #[.agg #[.int .i64 0, .int .i64 p, .string ⟨m2.toArray⟩, .int .i64 q], .bool true]) (by simp [results, Tryz.results79, go_sem, k0, k1, k2, k3]) rfl ⟨⟨p, q, m2, by rw [unhide HR]; rfl, fun t t' t'' h => by rw [unhide HR] at h; cases h; exact ⟨rfl, rfl, rfl⟩⟩, hbe⟩
    · have HR : Hid (R = none) := hide (by
        rw [unhide HM, h4]
        dsimp only
        split
        · rename_i a ha
          exact absurd ha (h5 a)
        · rfl)
      clear h4 h5 HM HP4 HP5
      refine wpAnyV_pure (i := 5) (oi := _) (v := ?_) rfl (by kernel_rfl) (by kernel_rfl) (by kernel_rfl) (by kernel_rfl) (fun _ _ _ h => h) (Or.inl ⟨by rfl, ?_⟩) (by first | exact fun _ => hHeld | (intro h; exact absurd h (by decide))) ?_
      rotate_left 1
      · (intro u _; go_simp; first | done | with_reducible rfl | rfl)
      simp only [Act.put, List.getElem_toArray, List.getElem_cons_zero, List.getElem_cons_succ, List.setIfInBounds_toArray, List.set_cons_zero, List.set_cons_succ]
      refine wpAnyV_pure (i := 6) (oi := _) (v := ?_) rfl (by kernel_rfl) (by kernel_rfl) (by kernel_rfl) (by kernel_rfl) (fun _ _ _ h => h) (Or.inl ⟨by rfl, ?_⟩) (by first | exact fun _ => hHeld | (intro h; exact absurd h (by decide))) ?_
      rotate_left 1
      · (intro u _; go_simp; first | done | with_reducible rfl | rfl)
      simp only [Act.put, List.getElem_toArray, List.getElem_cons_zero, List.getElem_cons_succ, List.setIfInBounds_toArray, List.set_cons_zero, List.set_cons_succ]
      refine wpAnyV_pure (i := 7) (oi := _) (v := ?_) rfl (by kernel_rfl) (by kernel_rfl) (by kernel_rfl) (by kernel_rfl) (fun _ _ _ h => h) (Or.inl ⟨by rfl, ?_⟩) (by first | exact fun _ => hHeld | (intro h; exact absurd h (by decide))) ?_
      rotate_left 1
      · (intro u _; go_simp; first | done | with_reducible rfl | rfl)
      simp only [Act.put, List.getElem_toArray, List.getElem_cons_zero, List.getElem_cons_succ, List.setIfInBounds_toArray, List.set_cons_zero, List.set_cons_succ]
      refine wpAnyV_pure (i := 8) (oi := _) (v := ?_) rfl (by kernel_rfl) (by kernel_rfl) (by kernel_rfl) (by kernel_rfl) (fun _ _ _ h => h) (Or.inl ⟨by rfl, ?_⟩) (by first | exact fun _ => hHeld | (intro h; exact absurd h (by decide))) ?_
      rotate_left 1
      · (intro u _; go_simp; first | done | with_reducible rfl | rfl)
      simp only [Act.put, List.getElem_toArray, List.getElem_cons_zero, List.getElem_cons_succ, List.setIfInBounds_toArray, List.set_cons_zero, List.set_cons_succ]
      refine wpAnyV_pure (i := 9) (oi := _) (v := ?_) rfl (by kernel_rfl) (by kernel_rfl) (by kernel_rfl) (by kernel_rfl) (fun _ _ _ h => h) (Or.inl ⟨by rfl, ?_⟩) (by first | exact fun _ => hHeld | (intro h; exact absurd h (by decide))) ?_
      rotate_left 1
      · (intro u _; go_simp; first | done | with_reducible rfl | rfl)
      simp only [Act.put, List.getElem_toArray, List.getElem_cons_zero, List.getElem_cons_succ, List.setIfInBounds_toArray, List.set_cons_zero, List.set_cons_succ]
      clear hHeld
      refine wpAnyV_ready (rs := [10]) (by kernel_rfl) (by simp) ?_
      refine ReadyV.cons (o := _) rfl (fun K hK => ?_) ReadyV.nil
      go_simp
      refine hK.out _ _ (fun h => absurd h (by decide)) ?_
      clear hK K
      try simp only [Act.put, List.getElem_toArray, List.getElem_cons_zero, List.getElem_cons_succ, List.setIfInBounds_toArray, List.set_cons_zero, List.set_cons_succ]
      refine wpAnyV_pure (i := 11) (oi := _) (v := ?_) rfl (by kernel_rfl) (by kernel_rfl) (by kernel_rfl) (by kernel_rfl) (fun _ _ _ h => h) (Or.inl ⟨by rfl, ?_⟩) (by first | exact fun _ => hHeld | (intro h; exact absurd h (by decide))) ?_
      rotate_left 1
      · (intro u _; go_simp; first | done | with_reducible rfl | rfl)
      simp only [Act.put, List.getElem_toArray, List.getElem_cons_zero, List.getElem_cons_succ, List.setIfInBounds_toArray, List.set_cons_zero, List.set_cons_succ]
      refine wpAnyV_done (by kernel_rfl) ?_ _
      obtain ⟨ze, hze⟩ : ∃ ze, ze = (((zd.setCell ⟨w.heap.size, 0, none⟩ (.int .i64 0)).setCell ⟨w.heap.size, 1, none⟩ (.int .i64 p)).setCell ⟨w.heap.size, 2, none⟩ (.string ⟨m2.toArray⟩)).setCell ⟨w.heap.size, 3, none⟩ (.int .i64 q) := ⟨_, rfl⟩
      rw [← hze]
      have hge : isG ze w.heap.size ⟨0, p, ⟨m2.toArray⟩, q⟩ := by
        rw [hze]
        exact (unhide HGD).setAll 0 p ⟨m2.toArray⟩ q
      have hbe : Below w.heap.size w ze := by
        rw [hze]
        exact ((((unhide HBD).setCell (p := ⟨w.heap.size, 0, none⟩) (Nat.le_refl _) _).setCell (p := ⟨w.heap.size, 1, none⟩) (Nat.le_refl _) _).setCell (p := ⟨w.heap.size, 2, none⟩) (Nat.le_refl _) _).setCell (p := ⟨w.heap.size, 3, none⟩) (Nat.le_refl _) _
      obtain ⟨k0, k1, k2, k3⟩ := hge.cells
      clear hze
      go_wp2
      exact bodyPost_ret (v := .tuple #[.agg #[.int .i64 0, .int .i64 p, .string ⟨m2.toArray⟩, .int .i64 q], .bool false]) (by simp [results, Tryz.results79, go_sem, k0, k1, k2, k3]) rfl ⟨⟨p, q, m2, by rw [unhide HR]; rfl, fun t t' t'' h => by rw [unhide HR] at h; cases h⟩, hbe⟩
  · have HR : Hid (R = none) := hide (by
      rw [unhide HM]
      split
      · rename_i a ha
        exact absurd ha (h4 a)
      · rfl)
    clear h4 HM HP4 HP5
    refine wpAnyV_pure (i := 5) (oi := _) (v := ?_) rfl (by kernel_rfl) (by kernel_rfl) (by kernel_rfl) (by kernel_rfl) (fun _ _ _ h => h) (Or.inl ⟨by rfl, ?_⟩) (by first | exact fun _ => hHeld | (intro h; exact absurd h (by decide))) ?_
    rotate_left 1
    · (intro u _; go_simp; first | done | with_reducible rfl | rfl)
    simp only [Act.put, List.getElem_toArray, List.getElem_cons_zero, List.getElem_cons_succ, List.setIfInBounds_toArray, List.set_cons_zero, List.set_cons_succ]
    refine wpAnyV_pure (i := 6) (oi := _) (v := ?_) rfl (by kernel_rfl) (by kernel_rfl) (by kernel_rfl) (by kernel_rfl) (fun _ _ _ h => h) (Or.inl ⟨by rfl, ?_⟩) (by first | exact fun _ => hHeld | (intro h; exact absurd h (by decide))) ?_
    rotate_left 1
    · (intro u _; go_simp; first | done | with_reducible rfl | rfl)
    simp only [Act.put, List.getElem_toArray, List.getElem_cons_zero, List.getElem_cons_succ, List.setIfInBounds_toArray, List.set_cons_zero, List.set_cons_succ]
    refine wpAnyV_pure (i := 7) (oi := _) (v := undef) rfl (by kernel_rfl) (by kernel_rfl) (by kernel_rfl) (by kernel_rfl) (fun _ _ _ h => h) (Or.inr ⟨by rfl, rfl⟩) (by first | exact fun _ => hHeld | (intro h; exact absurd h (by decide))) ?_
    simp only [Act.put, List.getElem_toArray, List.getElem_cons_zero, List.getElem_cons_succ, List.setIfInBounds_toArray, List.set_cons_zero, List.set_cons_succ]
    refine wpAnyV_pure (i := 8) (oi := _) (v := undef) rfl (by kernel_rfl) (by kernel_rfl) (by kernel_rfl) (by kernel_rfl) (fun _ _ _ h => h) (Or.inr ⟨by rfl, rfl⟩) (by first | exact fun _ => hHeld | (intro h; exact absurd h (by decide))) ?_
    simp only [Act.put, List.getElem_toArray, List.getElem_cons_zero, List.getElem_cons_succ, List.setIfInBounds_toArray, List.set_cons_zero, List.set_cons_succ]
    refine wpAnyV_pure (i := 9) (oi := _) (v := ?_) rfl (by kernel_rfl) (by kernel_rfl) (by kernel_rfl) (by kernel_rfl) (fun _ _ _ h => h) (Or.inl ⟨by rfl, ?_⟩) (by first | exact fun _ => hHeld | (intro h; exact absurd h (by decide))) ?_
    rotate_left 1
    · (intro u _; go_simp; first | done | with_reducible rfl | rfl)
    simp only [Act.put, List.getElem_toArray, List.getElem_cons_zero, List.getElem_cons_succ, List.setIfInBounds_toArray, List.set_cons_zero, List.set_cons_succ]
    clear hHeld
    refine wpAnyV_ready (rs := [10]) (by kernel_rfl) (by simp) ?_
    refine ReadyV.cons (o := _) rfl (fun K hK => ?_) ReadyV.nil
    go_simp
    refine hK.out _ _ (fun h => absurd h (by decide)) ?_
    clear hK K
    try simp only [Act.put, List.getElem_toArray, List.getElem_cons_zero, List.getElem_cons_succ, List.setIfInBounds_toArray, List.set_cons_zero, List.set_cons_succ]
    refine wpAnyV_pure (i := 11) (oi := _) (v := ?_) rfl (by kernel_rfl) (by kernel_rfl) (by kernel_rfl) (by kernel_rfl) (fun _ _ _ h => h) (Or.inl ⟨by rfl, ?_⟩) (by first | exact fun _ => hHeld | (intro h; exact absurd h (by decide))) ?_
    rotate_left 1
    · (intro u _; go_simp; first | done | with_reducible rfl | rfl)
    simp only [Act.put, List.getElem_toArray, List.getElem_cons_zero, List.getElem_cons_succ, List.setIfInBounds_toArray, List.set_cons_zero, List.set_cons_succ]
    refine wpAnyV_done (by kernel_rfl) ?_ _
    obtain ⟨ze, hze⟩ : ∃ ze, ze = (((zd.setCell ⟨w.heap.size, 0, none⟩ (.int .i64 0)).setCell ⟨w.heap.size, 1, none⟩ (.int .i64 p)).setCell ⟨w.heap.size, 2, none⟩ (.string ⟨m2.toArray⟩)).setCell ⟨w.heap.size, 3, none⟩ (.int .i64 q) := ⟨_, rfl⟩
    rw [← hze]
    have hge : isG ze w.heap.size ⟨0, p, ⟨m2.toArray⟩, q⟩ := by
      rw [hze]
      exact (unhide HGD).setAll 0 p ⟨m2.toArray⟩ q
    have hbe : Below w.heap.size w ze := by
      rw [hze]
      exact ((((unhide HBD).setCell (p := ⟨w.heap.size, 0, none⟩) (Nat.le_refl _) _).setCell (p := ⟨w.heap.size, 1, none⟩) (Nat.le_refl _) _).setCell (p := ⟨w.heap.size, 2, none⟩) (Nat.le_refl _) _).setCell (p := ⟨w.heap.size, 3, none⟩) (Nat.le_refl _) _
    obtain ⟨k0, k1, k2, k3⟩ := hge.cells
    clear hze
    go_wp2
    exact bodyPost_ret (v := .tuple #[.agg #[.int .i64 0, .int .i64 p, .string ⟨m2.toArray⟩, .int .i64 q], .bool false]) (by simp [results, Tryz.results79, go_sem, k0, k1, k2, k3]) rfl ⟨⟨p, q, m2, by rw [unhide HR]; rfl, fun t t' t'' h => by rw [unhide HR] at h; cases h⟩, hbe⟩
end Go.Proofs.YtihojhfpepbjhaaGreatDoor
