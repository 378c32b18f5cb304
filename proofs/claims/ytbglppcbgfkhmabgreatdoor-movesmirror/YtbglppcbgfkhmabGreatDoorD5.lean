/-
  movable; MovesMirror at a position that is not of the rules.
-/
import Derived.Test.YtbglppcbgfkhmabGreatDoorJ20
import Derived.Test.YtbglppcbgfkhmabGreatDoorC6
import Derived.Test.YtbglppcbgfkhmabGreatDoorD4
namespace Go.Proofs.YtbglppcbgfkhmabGreatDoor
open Go.RowKit
attribute [local go_sem ↓] Go.wp_at_zero Go.wp_at_succ

theorem king_at : atB 3 1 (⟨#[75, 46, 107]⟩ : ByteArray).data.toList 0 (⟨#[]⟩ : ByteArray).data.toList (⟨#[]⟩ : ByteArray).data.toList [⟨75, 0, [⟨1, 0, 1, 0⟩]⟩] 75 0 0 9 3 1 (⟨#[75, 46, 107]⟩ : ByteArray).data.toList 0 (⟨#[]⟩ : ByteArray).data.toList (⟨#[]⟩ : ByteArray).data.toList = true := by decide +kernel
theorem king_len : (movesL 3 1 0 ⟨#[75, 46, 107]⟩ ⟨#[]⟩ ⟨#[]⟩ [⟨75, 0, [⟨1, 0, 1, 0⟩]⟩] false 75 0 0).length = 1 := by decide +kernel
theorem king_f : AtF [⟨75, 0, [⟨1, 0, 1, 0⟩]⟩] 3 1 0 ⟨#[75, 46, 107]⟩ ⟨#[]⟩ ⟨#[]⟩ 3 1 0 :=
  ⟨rfl, rfl, rfl, by omega, by omega, by omega, rfl, by decide, by decide, fun p hp z hz => by
    simp only [List.mem_singleton] at hp
    subst hp
    simp only [List.mem_singleton] at hz
    subst hz
    decide⟩
theorem king_ends : (endsP [⟨75, 0, [⟨1, 0, 1, 0⟩]⟩] false 75 0 0 1 ⟨3, 1, ⟨#[75, 46, 107]⟩, 0, ⟨#[]⟩, ⟨#[]⟩⟩).length = 1 := by
  show ((movP [⟨75, 0, [⟨1, 0, 1, 0⟩]⟩] false 75 0 0 ⟨3, 1, ⟨#[75, 46, 107]⟩, 0, ⟨#[]⟩, ⟨#[]⟩⟩).map _ ++ []).length = 1
  rw [List.append_nil, List.length_map]
  exact king_len
theorem movable_any (mx : Int) (w : World) (hm : w.cell? ⟨0, 0, none⟩ = some (.int .i64 mx)) : Calls Tryz.prog 21 #[] w fun e w' => e = .returned (.bool true) ∧ Below w.heap.size w w' := by
  have hz : (⟨#[75, 46, 107]⟩ : ByteArray).size ≤ maxLen := by decide
  have he : (⟨#[]⟩ : ByteArray).size ≤ maxLen := by decide
  refine movable_walk w (fun ao cap u _ hp => ?_) (fun ao cap u hu hp => ?_)
  · have := Moves_ok 3 1 0 ⟨#[75, 46, 107]⟩ ⟨#[]⟩ ⟨#[]⟩ ao cap [⟨75, 0, [⟨1, 0, 1, 0⟩]⟩] false false 75 0 0 9 3 1 0 ⟨#[75, 46, 107]⟩ ⟨#[]⟩ ⟨#[]⟩ u hz he he (by omega) (by omega) hp hz he he king_at 3 1 0 king_f
    rw [king_len] at this
    refine this.mono fun e w' ⟨v, h1, h2, h3⟩ => ?_
    obtain ⟨uo, uc, rfl⟩ := row_len h2
    exact ⟨uo, uc, h1, h3⟩
  · have := Count_ok 3 1 0 ⟨#[75, 46, 107]⟩ ⟨#[]⟩ ⟨#[]⟩ ao cap [⟨75, 0, [⟨1, 0, 1, 0⟩]⟩] false false 75 0 0 9 3 1 0 ⟨#[75, 46, 107]⟩ ⟨#[]⟩ ⟨#[]⟩ 1 mx u ((hu.cell (p := ⟨0, 0, none⟩) (World.block_lt_of_cell? w ⟨0, 0, none⟩ hm)).trans hm) hz he he (by omega) (by omega) hp hz he he king_at ⟨3, 1, 0, king_f⟩ (by omega)
    refine this.mono fun e w' ⟨h1, h2⟩ => ?_
    rcases h2 with ⟨h2, _⟩ | ⟨_, i, hi, h3⟩
    · rw [king_ends] at h2
      exact ⟨h2, h1⟩
    · rcases (by omega : i = 0 ∨ i = 1) with rfl | rfl
      · simp [endsP] at h3
      · rw [king_ends] at h3
        omega

set_option maxHeartbeats 4000000 in
set_option maxRecDepth 100000 in
theorem mirror_no (v0 v1 v2 v3 v4 v5 v6 v7 v8 v9 v10 v11 v12 : Value) (W H T : Int) (C A B : ByteArray) (w : World)
    (hMv : ∀ u, Below w.heap.size w u → Calls Tryz.prog 21 #[] u fun e w' => e = .returned (.bool true) ∧ Below u.heap.size u w')
    (hM0 : ∀ u, Below w.heap.size w u → Calls Tryz.prog 7 #[.agg #[v0, v1, v2, v3, v4, v5, v6, v7, v8, v9, v10, v11, v12], .agg #[.int .i64 W, .int .i64 H, .string C, .int .i64 T, .string A, .string B]] u fun e w' => e = .returned (.tuple #[.slice none 0 0, .int .i64 1]) ∧ Below u.heap.size u w')
    (hO0 : ∀ u, Below w.heap.size w u → Calls Tryz.prog 8 #[.agg #[v0, v1, v2, v3, v4, v5, v6, v7, v8, v9, v10, v11, v12], .agg #[.int .i64 W, .int .i64 H, .string C, .int .i64 T, .string A, .string B]] u fun e w' => e = .returned (.tuple #[.int .i64 0, .int .i64 1]) ∧ Below u.heap.size u w') :
    Calls Tryz.prog 5 #[.agg #[v0, v1, v2, v3, v4, v5, v6, v7, v8, v9, v10, v11, v12], .agg #[.int .i64 W, .int .i64 H, .string C, .int .i64 T, .string A, .string B]] w fun e w' => e = .returned (.bool true) ∧ Below w.heap.size w w' := by
  obtain ⟨w1, hw1⟩ : ∃ w1, w1 = w.alloc (.cells #[v0, v1, v2, v3, v4, v5, v6, v7, v8, v9, v10, v11, v12] 27 (0, 0)) := ⟨_, rfl⟩
  obtain ⟨w2, hw2⟩ : ∃ w2, w2 = w1.alloc (.cells #[.int .i64 W, .int .i64 H, .string C, .int .i64 T, .string A, .string B] 24 (0, 0)) := ⟨_, rfl⟩
  have hb1 : Below w.heap.size w w1 := by rw [hw1]; exact (Below.refl _ _).alloc (Nat.le_refl _) _
  have hb2 : Below w1.heap.size w1 w2 := by rw [hw2]; exact (Below.refl _ _).alloc (Nat.le_refl _) _
  have s1 : w1.heap.size = w.heap.size + 1 := by rw [hw1]; simp
  have s2 : w2.heap.size = w.heap.size + 2 := by rw [hw2]; simp [s1]
  have hmf2 : MF w v0 v1 v2 v3 v4 v5 v6 v7 v8 v9 v10 v11 v12 W H T C A B w2 :=
    ⟨isRu.below (show isRu w1 w.heap.size v0 v1 v2 v3 v4 v5 v6 v7 v8 v9 v10 v11 v12 by rw [hw1]; exact heap_alloc_new w _) hb2 (by omega), by rw [hw2, ← s1]; exact heap_alloc_new w1 _, hb1.trans (hb2.mono (by omega)), by omega⟩
  have HMF := hide hmf2
  have HW1 := hide hw1
  have HW2 := hide hw2
  have HMV := hide hMv
  have HM0 := hide hM0
  have HO0 := hide hO0
  clear hw1 hw2 hb1 hb2 s1 s2 hmf2 hMv hM0 hO0
  go_enter Tryz.func5, Tryz.ntmps5
  go_wp2_with fail
  rw [← unhide HW1, ← unhide HW2]
  refine (unhide HMV _ (unhide HMF).bw).mono ?_
  rintro e w3 ⟨rfl, hb3⟩
  have HMF3 := hide ((unhide HMF).step hb3)
  clear HMF hb3 HW1 HW2 HMV
  obtain ⟨r0, r1, r2, r3, r4, r5, r6, r7, r8, r9, r10, r11, r12⟩ := (unhide HMF3).ru.cells
  obtain ⟨p0, p1, p2, p3, p4, p5⟩ := (unhide HMF3).pb.all
  go_wp2_with fail
  refine (unhide HM0 _ (unhide HMF3).bw).mono ?_
  rintro e w4 ⟨rfl, hb4⟩
  have HMF4 := hide ((unhide HMF3).step hb4)
  clear HMF3 hb4 HM0 r0 r1 r2 r3 r4 r5 r6 r7 r8 r9 r10 r11 r12 p0 p1 p2 p3 p4 p5
  obtain ⟨r0, r1, r2, r3, r4, r5, r6, r7, r8, r9, r10, r11, r12⟩ := (unhide HMF4).ru.cells
  obtain ⟨p0, p1, p2, p3, p4, p5⟩ := (unhide HMF4).pb.all
  go_wp2_with fail
  refine (unhide HO0 _ (unhide HMF4).bw).mono ?_
  rintro e w5 ⟨rfl, hb5⟩
  have HB5 := hide ((unhide HMF4).step hb5).bw
  clear HMF4 hb5 HO0 r0 r1 r2 r3 r4 r5 r6 r7 r8 r9 r10 r11 r12 p0 p1 p2 p3 p4 p5
  go_wp2
  go_ret
  exact ⟨rfl, unhide HB5⟩
end Go.Proofs.YtbglppcbgfkhmabGreatDoor
