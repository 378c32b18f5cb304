/-
  package matrix, walked: Solve.
-/
import Derived.Test.YthplbfjpmnpjmaaDoorJ36
namespace Go.Proofs.YthplbfjpmnpjmaaDoor
open Go.RowKit Lp
attribute [local go_sem ↓] Go.wp_at_zero Go.wp_at_succ

theorem entFr : ∀ args (u : World), (callFunc 18 args).run Tryd.prog u = .ok (.enter 18 args) u := enters_of Tryd.func18 (by kernel_rfl) rfl
theorem entTx : ∀ args (u : World), (callFunc 19 args).run Tryd.prog u = .ok (.enter 19 args) u := enters_of Tryd.func19 (by kernel_rfl) rfl
/-- The first k numbers. -/
def fst6 (f : Nat → Int) (k : Nat) : List Int := (List.range k).map f
theorem fst6_len (f : Nat → Int) (k : Nat) : (fst6 f k).length = k := by simp [fst6]
theorem wl_fst {W : World} {b off : Nat} {f : Nat → Int} {k : Nat} (hk : k ≤ 6) (hb : b < W.heap.size) (hf : ∀ i, (f i).natAbs ≤ 1000000000000000) (hc : ∀ i, i < 6 → W.cell? ⟨b, off + i, none⟩ = some (.int .i64 (f i))) : isWl W W.heap.size (some ⟨b, off, none⟩) 6 (fst6 f k) := by
  refine ⟨by rw [fst6_len]; exact hk, by unfold maxLen; omega, (fun h => by cases h), fun x hx => ?_, fun _ => ⟨b, off, rfl, hb, fun i x hx => ?_⟩⟩
  · obtain ⟨i, -, rfl⟩ := List.mem_map.1 hx
    have := hf i
    unfold i64B
    omega
  · have hi : i < k := by
      have := (List.getElem?_eq_some_iff.1 hx).1
      rw [fst6_len] at this; exact this
    rw [hc i (by omega)]
    unfold fst6 at hx
    rw [List.getElem?_map, List.getElem?_range hi] at hx
    simp at hx
    rw [hx]
/-- What Solve leaves where there is a matrix. -/
structure SvE (m N : Nat) (A : Nat → Nat → Int) (w : World) (e : Ending) (w' : World) : Prop where
  bw : Below w.heap.size w w'
  out : ∃ (z : So) (t g1 g2 : Nat), z.t = (t : Int) ∧ 1 ≤ t ∧ SoK z ∧ (hol m N A z ∧ SoS m N z) ∧ e = .returned (.tuple #[.string (frS z.v t), .slice (some ⟨g1, 0, none⟩) m m, .slice (some ⟨g2, 0, none⟩) N N, .int .i64 0]) ∧ StR w' w.heap.size g1 ((fst6 z.x m).map fun n => frS n t) ∧ StR w' w.heap.size g2 ((fst6 z.y N).map fun n => frS n t)
theorem StR.base {u : World} {base base' g : Nat} {l : List ByteArray} (h : StR u base g l) (hb : base' ≤ base) : StR u base' g l := by
  refine ⟨h.row.1, ?_⟩
  rcases h.row.2 with e | ⟨g', cap, cur, e, h1, r⟩
  · exact .inl e
  · exact .inr ⟨g', cap, cur, e, by omega, r⟩

set_option maxRecDepth 100000 in
set_option maxHeartbeats 4000000 in
theorem Solve_bad (B : Nat) (ao : Option Addr) (cap : Nat) (G : List (List Int)) (w : World) (h : isMx w B ao cap G) (hb : mxB G = false) :
    Calls Tryd.prog 6 #[.slice ao G.length cap] w fun e w' => e = .returned (.tuple #[.string ⟨#[]⟩, .slice none 0 0, .slice none 0 0, .int .i64 1]) ∧ w' = w := by
  have hC := mCheck_any B ao cap G w h
  rw [hb] at hC
  simp only [Bool.false_eq_true, if_false] at hC
  have HC := hide hC
  clear hC
  go_enter Tryd.func6, Tryd.ntmps6
  go_wp2_with fail
  refine (unhide HC).mono ?_
  rintro e w' ⟨rfl, hw'⟩
  replace hw' := hw'.symm
  subst hw'
  go_wp2
  (try simp only [Exit.inBlock, Exit.then])
  refine bodyPost_ret (res4 rfl _ _ _) rfl ?_
  exact ⟨rfl, rfl⟩

set_option linter.unusedSimpArgs false in
set_option maxRecDepth 100000 in
set_option maxHeartbeats 8000000 in
theorem Solve_any (G : List (List Int)) (ao : Option Addr) (cap m N : Nat) (w : World) (hd : isDb w) (htab : isTab w) (h : isMx w w.heap.size ao cap G) (hmx : mxB G = true) (hm : G.length = m) (hm1 : 1 ≤ m) (hm6 : m ≤ 6) (hN1 : 1 ≤ N) (hN6 : N ≤ 6) (hrow : ∀ r ∈ G, r.length = N) (hA : ∀ i j, (atG G i j).natAbs ≤ 100) :
    Calls Tryd.prog 6 #[.slice ao m cap] w (SvE m N (atG G) w) := by
  have hC := mCheck_any w.heap.size ao cap G w h
  rw [hmx, hm] at hC
  simp only [if_true] at hC
  have hS := solutionOf_any G ao cap m N w hd h hm hm1 hm6 hN1 hN6 hrow hA
  have hcap1 := h.le
  have hcap2 := h.most
  rw [hm] at hcap1
  unfold maxLen at hcap2
  obtain ⟨g, off, rfl, hg, ⟨ro, rc, hc0⟩, -⟩ := mx_at h (fun e => by rw [e] at hm; simp at hm; omega) hrow
  obtain ⟨A, hAe⟩ : ∃ A, A = atG G := ⟨_, rfl⟩
  rw [← hAe] at hS ⊢
  have HC := hide hC
  have HS := hide hS
  have HTB := hide htab
  clear hC hS hAe hA hrow h hmx hm htab
  go_enter Tryd.func6, Tryd.ntmps6
  go_wp2_with fail
  refine (unhide HC).mono ?_
  rintro e w' ⟨rfl, hw'⟩
  replace hw' := hw'.symm
  subst hw'
  go_wp2_with fail
  refine (unhide HS).mono ?_
  rintro e w1 ⟨hb1, z, rfl, hkz, hh⟩
  obtain ⟨t, ht⟩ : ∃ t : Nat, z.t = (t : Int) := ⟨z.t.toNat, by have := hkz.pos; omega⟩
  have ht1 : 1 ≤ t := by
    have h1 := hh.1.1
    have h2 := hkz.pos
    omega
  have ht2 : t < 4611686018427387904 := by have := hkz.t; omega
  obtain ⟨B, hB⟩ : ∃ B, B = w1.heap.size := ⟨_, rfl⟩
  obtain ⟨W7, hW7⟩ : ∃ W7, W7 = w1.alloc (Obj.cells (soC z).toArray 48 (0, 0)) := ⟨_, rfl⟩
  have hs7 : W7.heap.size = B + 1 := by rw [hW7, hB]; simp
  have hso : isSo W7 B z := by rw [hW7, hB]; exact heap_alloc_new w1 _
  have hb7 : Below w.heap.size w W7 := by rw [hW7]; exact hb1.alloc hb1.size _
  have hwB : w.heap.size ≤ B := by rw [hB]; exact hb1.size
  have HSK : Hid (∀ u : World, Below W7.heap.size W7 u → (u.cell? ⟨B, 0, none⟩ = some (.int .i64 (z.v)) ∧ u.cell? ⟨B, 1, none⟩ = some (.int .i64 (z.t)) ∧ u.cell? ⟨B, 2, none⟩ = some (.int .i64 (z.x 0)) ∧ u.cell? ⟨B, 3, none⟩ = some (.int .i64 (z.x 1)) ∧ u.cell? ⟨B, 4, none⟩ = some (.int .i64 (z.x 2)) ∧ u.cell? ⟨B, 5, none⟩ = some (.int .i64 (z.x 3)) ∧ u.cell? ⟨B, 6, none⟩ = some (.int .i64 (z.x 4)) ∧ u.cell? ⟨B, 7, none⟩ = some (.int .i64 (z.x 5)) ∧ u.cell? ⟨B, 8, none⟩ = some (.int .i64 (z.y 0)) ∧ u.cell? ⟨B, 9, none⟩ = some (.int .i64 (z.y 1)) ∧ u.cell? ⟨B, 10, none⟩ = some (.int .i64 (z.y 2)) ∧ u.cell? ⟨B, 11, none⟩ = some (.int .i64 (z.y 3)) ∧ u.cell? ⟨B, 12, none⟩ = some (.int .i64 (z.y 4)) ∧ u.cell? ⟨B, 13, none⟩ = some (.int .i64 (z.y 5)) ∧ u.cell? ⟨g, off, none⟩ = some (.slice ro N rc))) := hide (fun u hu => by
    obtain ⟨c0, c1, c2, c3, c4, c5, c6, c7, c8, c9, c10, c11, c12, c13⟩ := (hso.keep (hu.block B (by omega))).all
    exact ⟨c0, c1, c2, c3, c4, c5, c6, c7, c8, c9, c10, c11, c12, c13, (hu.cell (p := ⟨g, off, none⟩) (by dsimp only; omega)).trans ((hb7.cell (p := ⟨g, off, none⟩) hg).trans hc0)⟩)
  have HFR : Hid (∀ u, Below W7.heap.size W7 u → Calls Tryd.prog 18 #[.int .i64 z.v, .int .i64 z.t] u fun e w' => e = .returned (.string (frS z.v t)) ∧ Below u.heap.size u w') := hide (fun u hu => by
    rw [ht]
    exact fraction_any z.v t (by have := hkz.v; omega) ht2 ht1 u ((unhide HTB).below (hb7.trans (hu.mono (by omega)))))
  have HTX : Hid (∀ u, Below W7.heap.size W7 u → Calls Tryd.prog 19 #[.agg #[.int .i64 (z.v), .int .i64 (z.t), .int .i64 (z.x 0), .int .i64 (z.x 1), .int .i64 (z.x 2), .int .i64 (z.x 3), .int .i64 (z.x 4), .int .i64 (z.x 5), .int .i64 (z.y 0), .int .i64 (z.y 1), .int .i64 (z.y 2), .int .i64 (z.y 3), .int .i64 (z.y 4), .int .i64 (z.y 5)], .slice (some ⟨B, 2, none⟩) m 6] u (TxE (fst6 z.x m) t u)) := hide (fun u hu => by
    have hsu := hso.keep (hu.block B (by omega))
    have hsz := hu.size
    have := texts_any z t ht ht1 ht2 (fst6 z.x m) (by rw [fst6_len]; exact hm6) (fun x hx => by
      obtain ⟨i, -, rfl⟩ := List.mem_map.1 hx
      have := (hkz.b i).1
      omega) (some ⟨B, 2, none⟩) 6 u ((unhide HTB).below (hb7.trans (hu.mono (by omega)))) (wl_fst hm6 (by omega) (fun i => (hkz.b i).1) hsu.cells.2.1)
    rw [fst6_len] at this
    exact this)
  have HTY : Hid (∀ u, Below W7.heap.size W7 u → Calls Tryd.prog 19 #[.agg #[.int .i64 (z.v), .int .i64 (z.t), .int .i64 (z.x 0), .int .i64 (z.x 1), .int .i64 (z.x 2), .int .i64 (z.x 3), .int .i64 (z.x 4), .int .i64 (z.x 5), .int .i64 (z.y 0), .int .i64 (z.y 1), .int .i64 (z.y 2), .int .i64 (z.y 3), .int .i64 (z.y 4), .int .i64 (z.y 5)], .slice (some ⟨B, 8, none⟩) N 6] u (TxE (fst6 z.y N) t u)) := hide (fun u hu => by
    have hsu := hso.keep (hu.block B (by omega))
    have hsz := hu.size
    have := texts_any z t ht ht1 ht2 (fst6 z.y N) (by rw [fst6_len]; exact hN6) (fun x hx => by
      obtain ⟨i, -, rfl⟩ := List.mem_map.1 hx
      have := (hkz.b i).2
      omega) (some ⟨B, 8, none⟩) 6 u ((unhide HTB).below (hb7.trans (hu.mono (by omega)))) (wl_fst hN6 (by omega) (fun i => (hkz.b i).2) hsu.cells.2.2.1)
    rw [fst6_len] at this
    exact this)
  have HB7 := hide hb7
  have HHO := hide hh
  have HKZ := hide hkz
  have HZT := hide ht
  obtain ⟨FV, hFV⟩ : ∃ FV, FV = frS z.v t := ⟨_, rfl⟩
  rw [← hFV] at HFR
  have HFV := hide hFV
  simp only [soC] at hW7
  have HW7 := hide hW7
  have HBE := hide hB
  clear hW7 hso hb7 hb1 hkz hh ht hFV hB HC HS
  unfold soV
  simp only [soC]
  have hm0 : (0 : Int) ≤ (m : Int) := by omega
  have hmI : (m : Int) ≤ 6 := by omega
  have hmp : (0 : Int) < (m : Int) := by omega
  have hmN : 0 < m := by omega
  have hn0 : (0 : Int) ≤ (N : Int) := by omega
  have hnI : (N : Int) ≤ 6 := by omega
  go_wp2_with fail
  rw [← unhide HW7, ← unhide HBE]
  clear HW7
  have hD7 : Below W7.heap.size W7 W7.drew := (Below.refl _ _).drew
  refine wp_region_held_drew (S := fun u => u.cell? ⟨B, 0, none⟩ = some (.int .i64 (z.v)) ∧ u.cell? ⟨B, 1, none⟩ = some (.int .i64 (z.t)) ∧ u.cell? ⟨B, 2, none⟩ = some (.int .i64 (z.x 0)) ∧ u.cell? ⟨B, 3, none⟩ = some (.int .i64 (z.x 1)) ∧ u.cell? ⟨B, 4, none⟩ = some (.int .i64 (z.x 2)) ∧ u.cell? ⟨B, 5, none⟩ = some (.int .i64 (z.x 3)) ∧ u.cell? ⟨B, 6, none⟩ = some (.int .i64 (z.x 4)) ∧ u.cell? ⟨B, 7, none⟩ = some (.int .i64 (z.x 5)) ∧ u.cell? ⟨B, 8, none⟩ = some (.int .i64 (z.y 0)) ∧ u.cell? ⟨B, 9, none⟩ = some (.int .i64 (z.y 1)) ∧ u.cell? ⟨B, 10, none⟩ = some (.int .i64 (z.y 2)) ∧ u.cell? ⟨B, 11, none⟩ = some (.int .i64 (z.y 3)) ∧ u.cell? ⟨B, 12, none⟩ = some (.int .i64 (z.y 4)) ∧ u.cell? ⟨B, 13, none⟩ = some (.int .i64 (z.y 5)) ∧ u.cell? ⟨g, off, none⟩ = some (.slice ro N rc)) rfl (unhide HSK _ hD7) (fun hHeld => ?_)
  refine wpAnyH_take (i := 0) (oi := _) (v := ?_) rfl (by kernel_rfl) (by kernel_rfl) (by kernel_rfl) (fun _ _ _ h => h) (Or.inl ⟨by rfl, ?_⟩) (by assumption) ?_
  rotate_left 1
  · intro u hSu
    obtain ⟨s0, s1, s2, s3, s4, s5, s6, s7, s8, s9, s10, s11, s12, s13, s14⟩ := hSu
    go_simp
    first | done | with_reducible rfl | rfl
  simp only [Act.put, List.getElem_toArray, List.getElem_cons_zero, List.getElem_cons_succ, List.setIfInBounds_toArray, List.set_cons_zero, List.set_cons_succ]
  refine wpAnyH_take (i := 1) (oi := _) (v := ?_) rfl (by kernel_rfl) (by kernel_rfl) (by kernel_rfl) (fun _ _ _ h => h) (Or.inl ⟨by rfl, ?_⟩) (by assumption) ?_
  rotate_left 1
  · intro u hSu
    obtain ⟨s0, s1, s2, s3, s4, s5, s6, s7, s8, s9, s10, s11, s12, s13, s14⟩ := hSu
    go_simp
    first | done | with_reducible rfl | rfl
  simp only [Act.put, List.getElem_toArray, List.getElem_cons_zero, List.getElem_cons_succ, List.setIfInBounds_toArray, List.set_cons_zero, List.set_cons_succ]
  refine wpAnyH_take (i := 2) (oi := _) (v := ?_) rfl (by kernel_rfl) (by kernel_rfl) (by kernel_rfl) (fun _ _ _ h => h) (Or.inl ⟨by rfl, ?_⟩) (by assumption) ?_
  rotate_left 1
  · intro u hSu
    obtain ⟨s0, s1, s2, s3, s4, s5, s6, s7, s8, s9, s10, s11, s12, s13, s14⟩ := hSu
    go_simp
    first | done | with_reducible rfl | rfl
  simp only [Act.put, List.getElem_toArray, List.getElem_cons_zero, List.getElem_cons_succ, List.setIfInBounds_toArray, List.set_cons_zero, List.set_cons_succ]
  refine wpAnyH_take (i := 3) (oi := _) (v := ?_) rfl (by kernel_rfl) (by kernel_rfl) (by kernel_rfl) (fun _ _ _ h => h) (Or.inl ⟨by rfl, ?_⟩) (by assumption) ?_
  rotate_left 1
  · intro u hSu
    obtain ⟨s0, s1, s2, s3, s4, s5, s6, s7, s8, s9, s10, s11, s12, s13, s14⟩ := hSu
    go_simp
    first | done | with_reducible rfl | rfl
  simp only [Act.put, List.getElem_toArray, List.getElem_cons_zero, List.getElem_cons_succ, List.setIfInBounds_toArray, List.set_cons_zero, List.set_cons_succ]
  refine wpAnyH_take (i := 5) (oi := _) (v := ?_) rfl (by kernel_rfl) (by kernel_rfl) (by kernel_rfl) (fun _ _ _ h => h) (Or.inl ⟨by rfl, ?_⟩) (by assumption) ?_
  rotate_left 1
  · intro u hSu
    obtain ⟨s0, s1, s2, s3, s4, s5, s6, s7, s8, s9, s10, s11, s12, s13, s14⟩ := hSu
    go_simp
    first | done | with_reducible rfl | rfl
  simp only [Act.put, List.getElem_toArray, List.getElem_cons_zero, List.getElem_cons_succ, List.setIfInBounds_toArray, List.set_cons_zero, List.set_cons_succ]
  refine wpAnyH_take (i := 6) (oi := _) (v := ?_) rfl (by kernel_rfl) (by kernel_rfl) (by kernel_rfl) (fun _ _ _ h => h) (Or.inl ⟨by rfl, ?_⟩) (by assumption) ?_
  rotate_left 1
  · intro u hSu
    obtain ⟨s0, s1, s2, s3, s4, s5, s6, s7, s8, s9, s10, s11, s12, s13, s14⟩ := hSu
    go_simp
    first | done | with_reducible rfl | rfl
  simp only [Act.put, List.getElem_toArray, List.getElem_cons_zero, List.getElem_cons_succ, List.setIfInBounds_toArray, List.set_cons_zero, List.set_cons_succ]
  refine wpAnyH_take (i := 7) (oi := _) (v := ?_) rfl (by kernel_rfl) (by kernel_rfl) (by kernel_rfl) (fun _ _ _ h => h) (Or.inl ⟨by rfl, ?_⟩) (by assumption) ?_
  rotate_left 1
  · intro u hSu
    obtain ⟨s0, s1, s2, s3, s4, s5, s6, s7, s8, s9, s10, s11, s12, s13, s14⟩ := hSu
    go_simp
    first | done | with_reducible rfl | rfl
  simp only [Act.put, List.getElem_toArray, List.getElem_cons_zero, List.getElem_cons_succ, List.setIfInBounds_toArray, List.set_cons_zero, List.set_cons_succ]
  refine wpAnyH_take (i := 8) (oi := _) (v := ?_) rfl (by kernel_rfl) (by kernel_rfl) (by kernel_rfl) (fun _ _ _ h => h) (Or.inl ⟨by rfl, ?_⟩) (by assumption) ?_
  rotate_left 1
  · intro u hSu
    obtain ⟨s0, s1, s2, s3, s4, s5, s6, s7, s8, s9, s10, s11, s12, s13, s14⟩ := hSu
    go_simp
    first | done | with_reducible rfl | rfl
  simp only [Act.put, List.getElem_toArray, List.getElem_cons_zero, List.getElem_cons_succ, List.setIfInBounds_toArray, List.set_cons_zero, List.set_cons_succ]
  refine wpAnyH_take (i := 9) (oi := _) (v := ?_) rfl (by kernel_rfl) (by kernel_rfl) (by kernel_rfl) (fun _ _ _ h => h) (Or.inl ⟨by rfl, ?_⟩) (by assumption) ?_
  rotate_left 1
  · intro u hSu
    obtain ⟨s0, s1, s2, s3, s4, s5, s6, s7, s8, s9, s10, s11, s12, s13, s14⟩ := hSu
    go_simp
    first | done | with_reducible rfl | rfl
  simp only [Act.put, List.getElem_toArray, List.getElem_cons_zero, List.getElem_cons_succ, List.setIfInBounds_toArray, List.set_cons_zero, List.set_cons_succ]
  refine wpAnyH_take (i := 11) (oi := _) (v := ?_) rfl (by kernel_rfl) (by kernel_rfl) (by kernel_rfl) (fun _ _ _ h => h) (Or.inl ⟨by rfl, ?_⟩) (by assumption) ?_
  rotate_left 1
  · intro u hSu
    obtain ⟨s0, s1, s2, s3, s4, s5, s6, s7, s8, s9, s10, s11, s12, s13, s14⟩ := hSu
    go_simp
    first | done | with_reducible rfl | rfl
  simp only [Act.put, List.getElem_toArray, List.getElem_cons_zero, List.getElem_cons_succ, List.setIfInBounds_toArray, List.set_cons_zero, List.set_cons_succ]
  refine wpAnyH_take (i := 12) (oi := _) (v := ?_) rfl (by kernel_rfl) (by kernel_rfl) (by kernel_rfl) (fun _ _ _ h => h) (Or.inl ⟨by rfl, ?_⟩) (by assumption) ?_
  rotate_left 1
  · intro u hSu
    obtain ⟨s0, s1, s2, s3, s4, s5, s6, s7, s8, s9, s10, s11, s12, s13, s14⟩ := hSu
    go_simp
    first | done | with_reducible rfl | rfl
  simp only [Act.put, List.getElem_toArray, List.getElem_cons_zero, List.getElem_cons_succ, List.setIfInBounds_toArray, List.set_cons_zero, List.set_cons_succ]
  refine wpAnyH_take (i := 13) (oi := _) (v := ?_) rfl (by kernel_rfl) (by kernel_rfl) (by kernel_rfl) (fun _ _ _ h => h) (Or.inl ⟨by rfl, ?_⟩) (by assumption) ?_
  rotate_left 1
  · intro u hSu
    obtain ⟨s0, s1, s2, s3, s4, s5, s6, s7, s8, s9, s10, s11, s12, s13, s14⟩ := hSu
    go_simp
    first | done | with_reducible rfl | rfl
  simp only [Act.put, List.getElem_toArray, List.getElem_cons_zero, List.getElem_cons_succ, List.setIfInBounds_toArray, List.set_cons_zero, List.set_cons_succ]
  refine wpAnyH_take (i := 14) (oi := _) (v := ?_) rfl (by kernel_rfl) (by kernel_rfl) (by kernel_rfl) (fun _ _ _ h => h) (Or.inl ⟨by rfl, ?_⟩) (by assumption) ?_
  rotate_left 1
  · intro u hSu
    obtain ⟨s0, s1, s2, s3, s4, s5, s6, s7, s8, s9, s10, s11, s12, s13, s14⟩ := hSu
    go_simp
    first | done | with_reducible rfl | rfl
  simp only [Act.put, List.getElem_toArray, List.getElem_cons_zero, List.getElem_cons_succ, List.setIfInBounds_toArray, List.set_cons_zero, List.set_cons_succ]
  refine wpAnyH_take (i := 15) (oi := _) (v := ?_) rfl (by kernel_rfl) (by kernel_rfl) (by kernel_rfl) (fun _ _ _ h => h) (Or.inl ⟨by rfl, ?_⟩) (by assumption) ?_
  rotate_left 1
  · intro u hSu
    obtain ⟨s0, s1, s2, s3, s4, s5, s6, s7, s8, s9, s10, s11, s12, s13, s14⟩ := hSu
    go_simp
    first | done | with_reducible rfl | rfl
  simp only [Act.put, List.getElem_toArray, List.getElem_cons_zero, List.getElem_cons_succ, List.setIfInBounds_toArray, List.set_cons_zero, List.set_cons_succ]
  refine wpAnyH_take (i := 16) (oi := _) (v := ?_) rfl (by kernel_rfl) (by kernel_rfl) (by kernel_rfl) (fun _ _ _ h => h) (Or.inl ⟨by rfl, ?_⟩) (by assumption) ?_
  rotate_left 1
  · intro u hSu
    obtain ⟨s0, s1, s2, s3, s4, s5, s6, s7, s8, s9, s10, s11, s12, s13, s14⟩ := hSu
    go_simp
    first | done | with_reducible rfl | rfl
  simp only [Act.put, List.getElem_toArray, List.getElem_cons_zero, List.getElem_cons_succ, List.setIfInBounds_toArray, List.set_cons_zero, List.set_cons_succ]
  refine wpAnyH_take (i := 17) (oi := _) (v := ?_) rfl (by kernel_rfl) (by kernel_rfl) (by kernel_rfl) (fun _ _ _ h => h) (Or.inl ⟨by rfl, ?_⟩) (by assumption) ?_
  rotate_left 1
  · intro u hSu
    obtain ⟨s0, s1, s2, s3, s4, s5, s6, s7, s8, s9, s10, s11, s12, s13, s14⟩ := hSu
    go_simp
    first | done | with_reducible rfl | rfl
  simp only [Act.put, List.getElem_toArray, List.getElem_cons_zero, List.getElem_cons_succ, List.setIfInBounds_toArray, List.set_cons_zero, List.set_cons_succ]
  refine wpAnyH_ready (rs := [4]) (by kernel_rfl) (by simp) ?_
  refine AllReadyH.cons (o := _) rfl (fun K hK => ?_) AllReadyH.nil
  refine step_call (by rfl) 18 #[.tmp 16, .tmp 18] #[2, 2] rfl #[.int .i64 z.v, .int .i64 z.t] (by simp [Act.eval]) entFr (unhide HFR _ hD7) ?_
  rintro e wa ⟨rfl, hba⟩
  refine ⟨_, rfl, ?_⟩
  have hDa : Below W7.heap.size W7 wa := hD7.trans (hba.mono hD7.size)
  clear hHeld
  refine hK.out _ _ (unhide HSK _ hDa) (fun hHeld => ?_)
  clear hK K
  simp only [Act.put, List.getElem_toArray, List.getElem_cons_zero, List.getElem_cons_succ, List.setIfInBounds_toArray, List.set_cons_zero, List.set_cons_succ]
  refine wpAnyH_ready (rs := [10]) (by kernel_rfl) (by simp) ?_
  refine AllReadyH.cons (o := _) rfl (fun K hK => ?_) AllReadyH.nil
  refine step_call (by rfl) 19 #[.tmp 20, .tmp 24] #[48, 52] rfl #[.agg #[.int .i64 (z.v), .int .i64 (z.t), .int .i64 (z.x 0), .int .i64 (z.x 1), .int .i64 (z.x 2), .int .i64 (z.x 3), .int .i64 (z.x 4), .int .i64 (z.x 5), .int .i64 (z.y 0), .int .i64 (z.y 1), .int .i64 (z.y 2), .int .i64 (z.y 3), .int .i64 (z.y 4), .int .i64 (z.y 5)], .slice (some ⟨B, 2, none⟩) m 6] (by simp [Act.eval]) entTx (unhide HTX _ hDa) ?_
  rintro e wb ⟨hbb, g1, rfl, hst1⟩
  rw [fst6_len]
  refine ⟨_, rfl, ?_⟩
  have hDb : Below W7.heap.size W7 wb := hDa.trans (hbb.mono hDa.size)
  clear hHeld
  refine hK.out _ _ (unhide HSK _ hDb) (fun hHeld => ?_)
  clear hK K
  simp only [Act.put, List.getElem_toArray, List.getElem_cons_zero, List.getElem_cons_succ, List.setIfInBounds_toArray, List.set_cons_zero, List.set_cons_succ]
  refine wpAnyH_ready (rs := [18]) (by kernel_rfl) (by simp) ?_
  refine AllReadyH.cons (o := _) rfl (fun K hK => ?_) AllReadyH.nil
  refine step_call (by rfl) 19 #[.tmp 26, .tmp 32] #[48, 52] rfl #[.agg #[.int .i64 (z.v), .int .i64 (z.t), .int .i64 (z.x 0), .int .i64 (z.x 1), .int .i64 (z.x 2), .int .i64 (z.x 3), .int .i64 (z.x 4), .int .i64 (z.x 5), .int .i64 (z.y 0), .int .i64 (z.y 1), .int .i64 (z.y 2), .int .i64 (z.y 3), .int .i64 (z.y 4), .int .i64 (z.y 5)], .slice (some ⟨B, 8, none⟩) N 6] (by simp [Act.eval]) entTx (unhide HTY _ hDb) ?_
  rintro e wc2 ⟨hbc, g2, rfl, hst2⟩
  rw [fst6_len]
  refine ⟨_, rfl, ?_⟩
  have hDc : Below W7.heap.size W7 wc2 := hDb.trans (hbc.mono hDb.size)
  have HE : Hid (SvE m N A w (.returned (.tuple #[.string FV, .slice (some ⟨g1, 0, none⟩) m m, .slice (some ⟨g2, 0, none⟩) N N, .int .i64 0])) wc2) := hide (by
    have h7 := (unhide HB7).size
    refine ⟨(unhide HB7).trans (hDc.mono h7), z, t, g1, g2, unhide HZT, ht1, unhide HKZ, unhide HHO, by rw [unhide HFV], ?_, hst2.base (by have := hDb.size; omega)⟩
    exact (hst1.keep (hbc.block g1 hst1.lt.2)).base (by have := hDa.size; omega))
  clear hHeld
  refine hK.out _ _ (unhide HSK _ hDc) (fun hHeld => ?_)
  clear hK K
  simp only [Act.put, List.getElem_toArray, List.getElem_cons_zero, List.getElem_cons_succ, List.setIfInBounds_toArray, List.set_cons_zero, List.set_cons_succ]
  refine wpAnyH_take (i := 19) (oi := _) (v := ?_) rfl (by kernel_rfl) (by kernel_rfl) (by kernel_rfl) (fun _ _ _ h => h) (Or.inl ⟨by rfl, ?_⟩) (by assumption) ?_
  rotate_left 1
  · intro u hSu
    obtain ⟨s0, s1, s2, s3, s4, s5, s6, s7, s8, s9, s10, s11, s12, s13, s14⟩ := hSu
    go_simp
    first | done | with_reducible rfl | rfl
  simp only [Act.put, List.getElem_toArray, List.getElem_cons_zero, List.getElem_cons_succ, List.setIfInBounds_toArray, List.set_cons_zero, List.set_cons_succ]
  refine wpAnyH_take (i := 20) (oi := _) (v := ?_) rfl (by kernel_rfl) (by kernel_rfl) (by kernel_rfl) (fun _ _ _ h => h) (Or.inl ⟨by rfl, ?_⟩) (by assumption) ?_
  rotate_left 1
  · intro u hSu
    obtain ⟨s0, s1, s2, s3, s4, s5, s6, s7, s8, s9, s10, s11, s12, s13, s14⟩ := hSu
    go_simp
    first | done | with_reducible rfl | rfl
  simp only [Act.put, List.getElem_toArray, List.getElem_cons_zero, List.getElem_cons_succ, List.setIfInBounds_toArray, List.set_cons_zero, List.set_cons_succ]
  refine wpAnyH_take (i := 21) (oi := _) (v := ?_) rfl (by kernel_rfl) (by kernel_rfl) (by kernel_rfl) (fun _ _ _ h => h) (Or.inl ⟨by rfl, ?_⟩) (by assumption) ?_
  rotate_left 1
  · intro u hSu
    obtain ⟨s0, s1, s2, s3, s4, s5, s6, s7, s8, s9, s10, s11, s12, s13, s14⟩ := hSu
    go_simp
    first | done | with_reducible rfl | rfl
  simp only [Act.put, List.getElem_toArray, List.getElem_cons_zero, List.getElem_cons_succ, List.setIfInBounds_toArray, List.set_cons_zero, List.set_cons_succ]
  refine wpAnyH_take (i := 22) (oi := _) (v := ?_) rfl (by kernel_rfl) (by kernel_rfl) (by kernel_rfl) (fun _ _ _ h => h) (Or.inl ⟨by rfl, ?_⟩) (by assumption) ?_
  rotate_left 1
  · intro u hSu
    obtain ⟨s0, s1, s2, s3, s4, s5, s6, s7, s8, s9, s10, s11, s12, s13, s14⟩ := hSu
    go_simp
    first | done | with_reducible rfl | rfl
  simp only [Act.put, List.getElem_toArray, List.getElem_cons_zero, List.getElem_cons_succ, List.setIfInBounds_toArray, List.set_cons_zero, List.set_cons_succ]
  refine wpAnyH_done (by kernel_rfl) ?_ _
  go_wp2
  (try simp only [Exit.inBlock, Exit.then])
  refine bodyPost_ret (res4 rfl _ _ _) rfl ?_
  exact unhide HE
end Go.Proofs.YthplbfjpmnpjmaaDoor
