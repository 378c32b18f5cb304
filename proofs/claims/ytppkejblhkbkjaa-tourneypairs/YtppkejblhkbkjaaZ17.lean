/-
  package tourney, walked: newTree.
-/
import Derived.Test.YtppkejblhkbkjaaZ16
namespace Go.Proofs.Ytppkejblhkbkjaa
open Go.RowKit Tu
attribute [local go_sem ↓] Go.wp_at_zero Go.wp_at_succ

theorem zero_tree : Try.zeroCells76 = (Value.pointer none :: Value.int .i64 0 :: (List.replicate 60 (Value.bool false) ++ (List.replicate 180 (Value.int .i64 0) ++ [Value.slice none 0 0]))).toArray := by kernel_rfl
/-- The bases when i have been laid. -/
def idB (i : Nat) : Nat → Nat := fun y => if y < i then y else 0
theorem idB_next (i : Nat) : updT (idB i) i i = idB (i + 1) := by
  funext y
  unfold idB
  by_cases e : y = i
  · subst e
    rw [updT_same, if_pos (by omega)]
  · rw [updT_other _ _ e]
    by_cases h : y < i
    · rw [if_pos h, if_pos (by omega)]
    · rw [if_neg h, if_neg (by omega)]
theorem tree_new (W : World) (g r : Nat) (W1 : World) (h : W1 = W.alloc (Obj.cells ((Try.zeroCells76.setIfInBounds 0 (Value.pointer (some ⟨g, 0, none⟩))).setIfInBounds 1 (Value.int .i64 (r : Int))) 76 (0, 0))) :
    isTe W1 W.heap.size g r (fun _ => false) (fun _ => .edge 0 0) (idB 0) (.slice none 0 0) := by
  obtain ⟨cs, hcs⟩ : ∃ cs, cs = (Try.zeroCells76.setIfInBounds 0 (Value.pointer (some ⟨g, 0, none⟩))).setIfInBounds 1 (Value.int .i64 (r : Int)) := ⟨_, rfl⟩
  rw [← hcs] at h
  have hblk : W1.heap[W.heap.size]? = some (Obj.cells cs 76 (0, 0)) := by rw [h]; exact heap_alloc_new _ _
  have hl : cs.toList = Value.pointer (some ⟨g, 0, none⟩) :: Value.int .i64 (r : Int) :: (List.replicate 60 (Value.bool false) ++ (List.replicate 180 (Value.int .i64 0) ++ [Value.slice none 0 0])) := by
    rw [hcs, zero_tree]
    simp only [List.setIfInBounds_toArray, List.set_cons_zero, List.set_cons_succ]
  have hc : ∀ j, cs[j]? = cs.toList[j]? := fun j => Array.getElem?_toList.symm
  have hcell : ∀ j, W1.cell? ⟨W.heap.size, j, none⟩ = cs.toList[j]? := fun j => by
    unfold World.cell?
    rw [hblk]
    exact hc j
  have hA : ∀ i, i < 60 → W1.cell? ⟨W.heap.size, 2 + i, none⟩ = some (.bool false) := fun i hi => by
    rw [hcell, hl, show 2 + i = i + 1 + 1 by omega, List.getElem?_cons_succ, List.getElem?_cons_succ, List.getElem?_append_left (by rw [List.length_replicate]; omega), List.getElem?_replicate, if_pos hi]
  have hB : ∀ i, i < 180 → W1.cell? ⟨W.heap.size, 62 + i, none⟩ = some (.int .i64 0) := fun i hi => by
    rw [hcell, hl, show 62 + i = (60 + i) + 1 + 1 by omega, List.getElem?_cons_succ, List.getElem?_cons_succ, List.getElem?_append_right (by rw [List.length_replicate]; omega), List.length_replicate, Nat.add_sub_cancel_left, List.getElem?_append_left (by rw [List.length_replicate]; omega), List.getElem?_replicate, if_pos hi]
  refine ⟨(Array.getElem?_eq_some_iff.1 hblk).1, fun o => by simp [World.frozen?, hblk], by rw [hcell, hl]; rfl, by rw [hcell, hl]; rfl, hA, fun i hi => ?_, fun i hi => ?_, fun i hi => ?_, ?_⟩
  · exact hB (i * 2) (by omega)
  · have := hB (i * 2 + 1) (by omega)
    rw [show 62 + (i * 2 + 1) = 63 + i * 2 by omega] at this
    exact this
  · have := hB (120 + i) (by omega)
    rw [show 62 + (120 + i) = 182 + i by omega] at this
    exact this
  · rw [hcell, hl, show (242 : Nat) = 60 + (180 + 0) + 1 + 1 from rfl, List.getElem?_cons_succ, List.getElem?_cons_succ, List.getElem?_append_right (by rw [List.length_replicate]; omega), List.length_replicate, Nat.add_sub_cancel_left, List.getElem?_append_right (by rw [List.length_replicate]; omega), List.length_replicate]
    rfl

set_option maxHeartbeats 4000000 in
set_option maxRecDepth 100000 in
theorem newTree_any (W : World) (g r : Nat) (hr : r < 60) :
    Calls Try.prog 28 #[.pointer (some ⟨g, 0, none⟩), .int .i64 (r : Int)] W fun e W' => e = .returned (.pointer (some ⟨W.heap.size, 0, none⟩)) ∧ Below W.heap.size W W' ∧ ∃ (tn : Nat → Tn) (qv : Value), isTq W' W.heap.size g r (fun x => x == r) tn id [r] qv ∧ Lb tn := by
  obtain ⟨W1, hW1⟩ : ∃ W1, W1 = W.alloc (Obj.cells ((Try.zeroCells76.setIfInBounds 0 (Value.pointer (some ⟨g, 0, none⟩))).setIfInBounds 1 (Value.int .i64 (r : Int))) 76 (0, 0)) := ⟨_, rfl⟩
  have ht1 := tree_new W g r W1 hW1
  have hb1 : Below W.heap.size W W1 := by rw [hW1]; exact (Below.refl _ _).alloc (Nat.le_refl _) _
  have HST : Hid (isTe W1 W.heap.size g r (fun _ => false) (fun _ => .edge 0 0) (idB 0) (.slice none 0 0) ∧ Below W.heap.size W W1) := hide ⟨ht1, hb1⟩
  have HW1 := hide hW1
  clear ht1 hb1 hW1
  go_enter Try.func28, Try.ntmps28
  go_upto_region 1 with fail
  go_wp2_with fail
  rw [← unhide HW1]
  clear HW1
  go_loopw [11] (fun iv wr => ∃ i : Nat, i ≤ 60 ∧ iv = .int .i64 (i : Int) ∧ Hid (isTe wr W.heap.size g r (fun _ => false) (fun _ => .edge 0 0) (idB i) (.slice none 0 0) ∧ Below W.heap.size W wr)) (fun iv _ => 60 - (intOf iv).toNat)
  case atStart => exact ⟨0, by omega, rfl, HST⟩
  case round =>
    obtain ⟨i, hi, rfl, HI⟩ := hrel
    rename World => wr
    clear HST
    by_cases hil : i < 60
    · have hii : (i : Int) < 60 := by omega
      have hi0 : (0 : Int) ≤ (i : Int) := by omega
      have c1 := (unhide HI).1.ba i hil
      have c2 := (unhide HI).1.fz (182 + i)
      have hB : idB i i = 0 := by unfold idB; rw [if_neg (by omega)]
      rw [hB] at c1
      have HN : Hid (isTe (wr.setCell ⟨W.heap.size, 182 + i, none⟩ (.int .i64 (i : Int))) W.heap.size g r (fun _ => false) (fun _ => .edge 0 0) (idB (i + 1)) (.slice none 0 0) ∧ Below W.heap.size W (wr.setCell ⟨W.heap.size, 182 + i, none⟩ (.int .i64 (i : Int)))) := hide (by
        have hg : Gb W.heap.size wr (wr.setCell ⟨W.heap.size, 182 + i, none⟩ (.int .i64 (i : Int))) := Gb.set _ _
        refine ⟨by rw [← idB_next]; exact (unhide HI).1.putB hil i, (unhide HI).2.trans ⟨hg.os, hg.tape, hg.output, hg.size, fun k hk => hg.block (by have := (unhide HI).1.lt; omega) (by omega)⟩⟩)
      clear hB
      go_wp2
      go_roundw
      case rel => exact ⟨i + 1, by omega, by go_num, HN⟩
      case measure => simp only [intOf]; omega
    · obtain rfl : i = 60 := by omega
      rw [show (((60 : Nat) : Int)) = 60 from rfl]
      have htq : isTq wr W.heap.size g r (fun _ => false) (fun _ => .edge 0 0) id [] (.slice none 0 0) := by
        refine isTq.bases (B := idB 60) ⟨(unhide HI).1, World.ownsRow_nil _ _ _ _, ⟨none, 0, rfl⟩⟩ fun i hi => ?_
        unfold idB
        rw [if_pos hi]; rfl
      have hRE := reach_any wr W.heap.size g r r .root _ _ _ [] _ htq hr (by simp)
      have f1 : tA .root = -1 := rfl
      have f2 : tB .root = -1 := rfl
      rw [f1, f2] at hRE
      have HRE := hide hRE
      clear hRE f1 f2 htq
      go_wp2_with fail
      refine (unhide HRE).mono ?_
      rintro e W2 ⟨rfl, qv, k1, k2, k3⟩
      have HE : Hid (Below W.heap.size W W2 ∧ ∃ (tn : Nat → Tn) (qv : Value), isTq W2 W.heap.size g r (fun x => x == r) tn id [r] qv ∧ Lb tn) := hide (by
        have hb := (unhide HI).2
        refine ⟨hb.trans ⟨k3.os, k3.tape, k3.output, k3.size, fun k hk => k3.block k (by have := hb.size; omega) (by omega) (by simp [Value.ownBlock])⟩, updT (fun _ => .edge 0 0) r .root, qv, ?_, ?_⟩
        · have hS : updT (fun _ => false) r true = fun x => x == r := by
            funext z
            by_cases e : z = r
            · subst e; rw [updT_same]; simp
            · rw [updT_other _ _ e]; simp [e]
          rw [hS] at k1
          exact k1
        · refine ⟨fun x a e => ?_, fun x a b e => ?_⟩
          · by_cases hx : x = r
            · subst hx; rw [updT_same] at e; cases e
            · rw [updT_other _ _ hx] at e; cases e
          · by_cases hx : x = r
            · subst hx; rw [updT_same] at e; cases e
            · rw [updT_other _ _ hx] at e; injection e with e1 e2; omega)
      clear k1 k2 k3 HRE
      go_wp2
      go_ret
      exact ⟨rfl, unhide HE⟩
end Go.Proofs.Ytppkejblhkbkjaa
