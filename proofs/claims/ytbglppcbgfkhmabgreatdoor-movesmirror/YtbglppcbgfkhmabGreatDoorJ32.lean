/-
  movable; MovesMirror at a position that is not of the rules.
  Plain mathematics: a board the other way (Sym): its goals, its moves.
-/
import Derived.Test.YtbglppcbgfkhmabGreatDoorJ20
import Derived.Test.YtbglppcbgfkhmabGreatDoorC6
import Derived.Test.YtbglppcbgfkhmabGreatDoorD4
import Derived.Test.YtbglppcbgfkhmabGreatDoorM32
import Derived.Test.YtbglppcbgfkhmabGreatDoorJ25
namespace Go.Proofs.YtbglppcbgfkhmabGreatDoor
open Go.RowKit
attribute [local go_sem ↓] Go.wp_at_zero Go.wp_at_succ

theorem king_at : atB 3 1 (⟨#[75, 46, 107]⟩ : ByteArray).data.toList 0 (⟨#[]⟩ : ByteArray).data.toList (⟨#[]⟩ : ByteArray).data.toList [⟨75, 0, [⟨1, 0, 1, 0⟩]⟩] 75 0 0 9 3 1 (⟨#[75, 46, 107]⟩ : ByteArray).data.toList 0 (⟨#[]⟩ : ByteArray).data.toList (⟨#[]⟩ : ByteArray).data.toList = true := by decide +kernel
theorem king_len : (movesL 3 1 0 ⟨#[75, 46, 107]⟩ ⟨#[]⟩ ⟨#[]⟩ [⟨75, 0, [⟨1, 0, 1, 0⟩]⟩] false 75 0 0).length = 1 := by decide +kernel
theorem king_f : AtF [⟨75, 0, [⟨1, 0, 1, 0⟩]⟩] 3 1 0 ⟨#[75, 46, 107]⟩ ⟨#[]⟩ ⟨#[]⟩ 3 1 0 :=
  ⟨rfl, rfl, rfl, by omega, by omega, by omega, rfl, by decide, by decide, fun p hp z hz => by
    simp only [List.mem_singleton] at hp
    subst hp
    simp only [List.mem_singleton] at hz
    subst hz
    decide⟩
theorem king_ends : (endsP [⟨75, 0, [⟨1, 0, 1, 0⟩]⟩] false 75 0 0 1 ⟨3, 1, ⟨#[75, 46, 107]⟩, 0, ⟨#[]⟩, ⟨#[]⟩⟩).length = 1 := by
  show ((movP [⟨75, 0, [⟨1, 0, 1, 0⟩]⟩] false 75 0 0 ⟨3, 1, ⟨#[75, 46, 107]⟩, 0, ⟨#[]⟩, ⟨#[]⟩⟩).map _ ++ []).length = 1
  rw [List.append_nil, List.length_map]
  exact king_len
theorem movable_any (mx : Int) (w : World) (hm : w.cell? ⟨0, 0, none⟩ = some (.int .i64 mx)) : Calls Tryz.prog 21 #[] w fun e w' => e = .returned (.bool true) ∧ Below w.heap.size w w' := by
  have hz : (⟨#[75, 46, 107]⟩ : ByteArray).size ≤ maxLen := by decide
  have he : (⟨#[]⟩ : ByteArray).size ≤ maxLen := by decide
  refine movable_walk w (fun ao cap u _ hp => ?_) (fun ao cap u hu hp => ?_)
  · have := Moves_ok 3 1 0 ⟨#[75, 46, 107]⟩ ⟨#[]⟩ ⟨#[]⟩ ao cap [⟨75, 0, [⟨1, 0, 1, 0⟩]⟩] false false 75 0 0 9 3 1 0 ⟨#[75, 46, 107]⟩ ⟨#[]⟩ ⟨#[]⟩ u hz he he (by omega) (by omega) hp hz he he king_at 3 1 0 king_f
    rw [king_len] at this
    refine this.mono fun e w' ⟨v, h1, h2, h3⟩ => ?_
    obtain ⟨uo, uc, rfl⟩ := row_len h2
    exact ⟨uo, uc, h1, h3⟩
  · have := Count_ok 3 1 0 ⟨#[75, 46, 107]⟩ ⟨#[]⟩ ⟨#[]⟩ ao cap [⟨75, 0, [⟨1, 0, 1, 0⟩]⟩] false false 75 0 0 9 3 1 0 ⟨#[75, 46, 107]⟩ ⟨#[]⟩ ⟨#[]⟩ 1 mx u ((hu.cell (p := ⟨0, 0, none⟩) (World.block_lt_of_cell? w ⟨0, 0, none⟩ hm)).trans hm) hz he he (by omega) (by omega) hp hz he he king_at ⟨3, 1, 0, king_f⟩ (by omega)
    refine this.mono fun e w' ⟨h1, h2⟩ => ?_
    rcases h2 with ⟨h2, _⟩ | ⟨_, i, hi, h3⟩
    · rw [king_ends] at h2
      exact ⟨h2, h1⟩
    · rcases (by omega : i = 0 ∨ i = 1) with rfl | rfl
      · simp [endsP] at h3
      · rw [king_ends] at h3
        omega

set_option maxHeartbeats 4000000 in
set_option maxRecDepth 100000 in
theorem mirror_no (v0 v1 v2 v3 v4 v5 v6 v7 v8 v9 v10 v11 v12 : Value) (W H T : Int) (C A B : ByteArray) (w : World)
    (hMv : ∀ u, Below w.heap.size w u → Calls Tryz.prog 21 #[] u fun e w' => e = .returned (.bool true) ∧ Below u.heap.size u w')
    (hM0 : ∀ u, Below w.heap.size w u → Calls Tryz.prog 7 #[.agg #[v0, v1, v2, v3, v4, v5, v6, v7, v8, v9, v10, v11, v12], .agg #[.int .i64 W, .int .i64 H, .string C, .int .i64 T, .string A, .string B]] u fun e w' => e = .returned (.tuple #[.slice none 0 0, .int .i64 1]) ∧ Below u.heap.size u w')
    (hO0 : ∀ u, Below w.heap.size w u → Calls Tryz.prog 8 #[.agg #[v0, v1, v2, v3, v4, v5, v6, v7, v8, v9, v10, v11, v12], .agg #[.int .i64 W, .int .i64 H, .string C, .int .i64 T, .string A, .string B]] u fun e w' => e = .returned (.tuple #[.int .i64 0, .int .i64 1]) ∧ Below u.heap.size u w') :
    Calls Tryz.prog 5 #[.agg #[v0, v1, v2, v3, v4, v5, v6, v7, v8, v9, v10, v11, v12], .agg #[.int .i64 W, .int .i64 H, .string C, .int .i64 T, .string A, .string B]] w fun e w' => e = .returned (.bool true) ∧ Below w.heap.size w w' := by
  obtain ⟨w1, hw1⟩ : ∃ w1, w1 = w.alloc (.cells #[v0, v1, v2, v3, v4, v5, v6, v7, v8, v9, v10, v11, v12] 27 (0, 0)) := ⟨_, rfl⟩
  obtain ⟨w2, hw2⟩ : ∃ w2, w2 = w1.alloc (.cells #[.int .i64 W, .int .i64 H, .string C, .int .i64 T, .string A, .string B] 24 (0, 0)) := ⟨_, rfl⟩
  have hb1 : Below w.heap.size w w1 := by rw [hw1]; exact (Below.refl _ _).alloc (Nat.le_refl _) _
  have hb2 : Below w1.heap.size w1 w2 := by rw [hw2]; exact (Below.refl _ _).alloc (Nat.le_refl _) _
  have s1 : w1.heap.size = w.heap.size + 1 := by rw [hw1]; simp
  have s2 : w2.heap.size = w.heap.size + 2 := by rw [hw2]; simp [s1]
  have hmf2 : MF w v0 v1 v2 v3 v4 v5 v6 v7 v8 v9 v10 v11 v12 W H T C A B w2 :=
    ⟨isRu.below (show isRu w1 w.heap.size v0 v1 v2 v3 v4 v5 v6 v7 v8 v9 v10 v11 v12 by rw [hw1]; exact heap_alloc_new w _) hb2 (by omega), by rw [hw2, ← s1]; exact heap_alloc_new w1 _, hb1.trans (hb2.mono (by omega)), by omega⟩
  have HMF := hide hmf2
  have HW1 := hide hw1
  have HW2 := hide hw2
  have HMV := hide hMv
  have HM0 := hide hM0
  have HO0 := hide hO0
  clear hw1 hw2 hb1 hb2 s1 s2 hmf2 hMv hM0 hO0
  go_enter Tryz.func5, Tryz.ntmps5
  go_wp2_with fail
  rw [← unhide HW1, ← unhide HW2]
  refine (unhide HMV _ (unhide HMF).bw).mono ?_
  rintro e w3 ⟨rfl, hb3⟩
  have HMF3 := hide ((unhide HMF).step hb3)
  clear HMF hb3 HW1 HW2 HMV
  obtain ⟨r0, r1, r2, r3, r4, r5, r6, r7, r8, r9, r10, r11, r12⟩ := (unhide HMF3).ru.cells
  obtain ⟨p0, p1, p2, p3, p4, p5⟩ := (unhide HMF3).pb.all
  go_wp2_with fail
  refine (unhide HM0 _ (unhide HMF3).bw).mono ?_
  rintro e w4 ⟨rfl, hb4⟩
  have HMF4 := hide ((unhide HMF3).step hb4)
  clear HMF3 hb4 HM0 r0 r1 r2 r3 r4 r5 r6 r7 r8 r9 r10 r11 r12 p0 p1 p2 p3 p4 p5
  obtain ⟨r0, r1, r2, r3, r4, r5, r6, r7, r8, r9, r10, r11, r12⟩ := (unhide HMF4).ru.cells
  obtain ⟨p0, p1, p2, p3, p4, p5⟩ := (unhide HMF4).pb.all
  go_wp2_with fail
  refine (unhide HO0 _ (unhide HMF4).bw).mono ?_
  rintro e w5 ⟨rfl, hb5⟩
  have HB5 := hide ((unhide HMF4).step hb5).bw
  clear HMF4 hb5 HO0 r0 r1 r2 r3 r4 r5 r6 r7 r8 r9 r10 r11 r12 p0 p1 p2 p3 p4 p5
  go_wp2
  go_ret
  exact ⟨rfl, unhide HB5⟩
end Go.Proofs.YtbglppcbgfkhmabGreatDoor

namespace Go.Proofs.YtbglppcbgfkhmabGreatDoor

/-- The board the other way: left and right, or up and down with the players changed. -/
structure Sym (W H T T' : Nat) (C C' : ByteArray) (s : Nat → Nat) (ex ey : Int) : Prop where
  sx : ex = 1 ∨ ex = -1
  sy : ey = 1 ∨ ey = -1
  lt : ∀ i, i < W * H → s i < W * H
  inv : ∀ i, i < W * H → s (s i) = i
  dx : ∀ a b, a < W * H → b < W * H → dxI W (s a) (s b) = ex * dxI W a b
  dy : ∀ a b, a < W * H → b < W * H → dyI W (s a) (s b) = ey * dyI W a b
  e46 : ∀ i, i < W * H → (cellN C' (s i) = 46 ↔ cellN C i = 46)
  up : ∀ i, i < W * H → upN (cellN C' (s i)) = upN (cellN C i)
  own : ∀ i, i < W * H → ownB T' (cellN C' (s i)) = ownB T (cellN C i)
  oth : ∀ i, i < W * H → ownB (1 - T') (cellN C' (s i)) = ownB (1 - T) (cellN C i)
  st : ∀ k x y (d : Int × Int), 0 ≤ x → 0 ≤ y → d ∈ stepsL k x y T → (ex * d.1, ey * d.2) ∈ stepsL k x y T'
theorem Sym.ent {W H T T' : Nat} {C C' : ByteArray} {s : Nat → Nat} {ex ey : Int} (h : Sym W H T T' C C' s ex ey) (t : Int) {i : Nat} (hi : i < W * H) : entB t T' (cellN C' (s i)) = entB t T (cellN C i) := by
  unfold entB
  by_cases h46 : cellN C i = 46
  · rw [if_pos h46, if_pos ((h.e46 i hi).2 h46)]
  · rw [if_neg h46, if_neg (fun q => h46 ((h.e46 i hi).1 q)), h.oth i hi]
theorem Sym.free {W H T T' : Nat} {C C' : ByteArray} {s : Nat → Nat} {ex ey : Int} (h : Sym W H T T' C C' s ex ey) {fr c : Nat} {d1 d2 : Int} {j : Nat} (hW : 1 ≤ W) (hj : 1 ≤ j) (hf : fr < W * H) (hc : c < W * H) (e1 : dxI W fr c = (j : Int) * d1) (e2 : dyI W fr c = (j : Int) * d2) (hfree : freeB W C fr (dxI W fr c) (dyI W fr c) j j = true) :
    freeB W C' (s fr) (dxI W (s fr) (s c)) (dyI W (s fr) (s c)) j j = true := by
  rw [free_iff] at hfree ⊢
  intro i hi1 hij
  have q1 : dxI W (s fr) (s c) = (j : Int) * (ex * d1) := by rw [h.dx fr c hf hc, e1, ← Int.mul_assoc, Int.mul_comm ex, Int.mul_assoc]
  have q2 : dyI W (s fr) (s c) = (j : Int) * (ey * d2) := by rw [h.dy fr c hf hc, e2, ← Int.mul_assoc, Int.mul_comm ey, Int.mul_assoc]
  have hin := between (i := i) hW hf hc e1 e2 (by omega)
  obtain ⟨m, hm⟩ : ∃ m, m = ptN W d1 d2 ((fr % W : Nat) : Int) ((fr / W : Nat) : Int) i := ⟨_, rfl⟩
  have hml : m < W * H := by rw [hm]; exact (let ⟨q0, q1, q2, q3⟩ := hin; (cell_no q0 q1 q2 q3).2)
  obtain ⟨a1, a2⟩ := pt_at hW hin hm
  have hfm := hfree i hi1 hij
  rw [mid_pt W fr _ _ d1 d2 j i hj e1 e2, ← hm] at hfm
  rw [mid_pt W (s fr) _ _ (ex * d1) (ey * d2) j i hj q1 q2]
  have b1 : dxI W (s fr) (s m) = (i : Int) * (ex * d1) := by rw [h.dx fr m hf hml, a1, ← Int.mul_assoc, Int.mul_comm ex, Int.mul_assoc]
  have b2 : dyI W (s fr) (s m) = (i : Int) * (ey * d2) := by rw [h.dy fr m hf hml, a2, ← Int.mul_assoc, Int.mul_comm ey, Int.mul_assoc]
  rw [← pt_of b1 b2]
  exact (h.e46 m hml).2 hfm
theorem Sym.way {W H T T' : Nat} {C C' : ByteArray} {s : Nat → Nat} {ex ey : Int} (h : Sym W H T T' C C' s ex ey) {fr c : Nat} {z : Wy} (hW : 1 ≤ W) (hz : 0 ≤ z.x ∧ 0 ≤ z.y) (hf : fr < W * H) (hc : c < W * H) (hw : wayTo W H T C fr c z) : wayTo W H T' C' (s fr) (s c) z := by
  obtain ⟨d, hd, hr⟩ := hw
  obtain ⟨j, h1, h2, e1, e2, h3, h4⟩ := (ray_iff hW hf hc).1 hr
  refine ⟨(ex * d.1, ey * d.2), h.st z.k z.x z.y d hz.1 hz.2 hd, (ray_iff hW (h.lt fr hf) (h.lt c hc)).2 ⟨j, h1, h2, ?_, ?_, h3, h.free hW h1 hf hc e1 e2 h4⟩⟩
  · rw [h.dx fr c hf hc, e1, ← Int.mul_assoc, Int.mul_comm ex, Int.mul_assoc]
  · rw [h.dy fr c hf hc, e2, ← Int.mul_assoc, Int.mul_comm ey, Int.mul_assoc]
/-- Changed twice it is as it was. -/
theorem Sym.back {W H T T' : Nat} {C C' : ByteArray} {s : Nat → Nat} {ex ey : Int} (h : Sym W H T T' C C' s ex ey) (hst : ∀ k x y (d : Int × Int), 0 ≤ x → 0 ≤ y → d ∈ stepsL k x y T' → (ex * d.1, ey * d.2) ∈ stepsL k x y T) : Sym W H T' T C' C s ex ey := by
  have sqx : ∀ a : Int, ex * (ex * a) = a := fun a => by rcases h.sx with q | q <;> rw [q] <;> omega
  have sqy : ∀ a : Int, ey * (ey * a) = a := fun a => by rcases h.sy with q | q <;> rw [q] <;> omega
  refine ⟨h.sx, h.sy, h.lt, h.inv, h.dx, h.dy, fun i hi => ?_, fun i hi => ?_, fun i hi => ?_, fun i hi => ?_, hst⟩
  · have := h.e46 (s i) (h.lt i hi); rw [h.inv i hi] at this; exact this.symm
  · have := h.up (s i) (h.lt i hi); rw [h.inv i hi] at this; exact this.symm
  · have := h.own (s i) (h.lt i hi); rw [h.inv i hi] at this; exact this.symm
  · have := h.oth (s i) (h.lt i hi); rw [h.inv i hi] at this; exact this.symm
theorem Sym.goals {W H T T' : Nat} {C C' : ByteArray} {s : Nat → Nat} {ex ey : Int} (h : Sym W H T T' C C' s ex ey) (h' : Sym W H T' T C' C s ex ey) {ws : List Wy} (hok : ∀ z ∈ ws, z.ok = true) (hW : 1 ≤ W) {fr c : Nat} (hf : fr < W * H) (hc : c < W * H) :
    (goalsG W H T' C' (s fr) ws).testBit (s c) = (goalsG W H T C fr ws).testBit c := by
  have one : ∀ {T T' : Nat} {C C' : ByteArray} (_ : Sym W H T T' C C' s ex ey) {fr c : Nat}, fr < W * H → c < W * H → (goalsG W H T C fr ws).testBit c = true → (goalsG W H T' C' (s fr) ws).testBit (s c) = true := by
    intro T T' C C' g fr c hf hc hb
    obtain ⟨z, hz, h1, h2⟩ := (goals_bit W H T C fr c ws).1 hb
    obtain ⟨x0, -, y0, -⟩ := ok_of (hok z hz)
    exact (goals_bit W H T' C' (s fr) (s c) ws).2 ⟨z, hz, by rw [g.ent z.t hc]; exact h1, g.way hW ⟨x0, y0⟩ hf hc h2⟩
  rw [Bool.eq_iff_iff]
  constructor
  · intro hb
    have := one h' (h.lt fr hf) (h.lt c hc) hb
    rw [h.inv fr hf, h.inv c hc] at this
    exact this
  · exact one h hf hc
/-- A change of places of the cells is one of their list. -/
theorem range_perm {n : Nat} {s : Nat → Nat} (lt : ∀ i, i < n → s i < n) (inv : ∀ i, i < n → s (s i) = i) : ((List.range n).map s).Perm (List.range n) := by
  have hnd : ((List.range n).map s).Nodup := by
    unfold List.Nodup
    rw [List.pairwise_map]
    refine List.Pairwise.imp_of_mem (R := (· ≠ ·)) (fun {a b} ha hb hab => ?_) List.nodup_range
    intro e
    have h1 := inv a (List.mem_range.1 ha)
    have h2 := inv b (List.mem_range.1 hb)
    rw [e, h2] at h1
    exact hab h1.symm
  rw [List.perm_ext_iff_of_nodup hnd List.nodup_range]
  intro a
  constructor
  · intro h
    obtain ⟨i, hi, rfl⟩ := List.mem_map.1 h
    exact List.mem_range.2 (lt i (List.mem_range.1 hi))
  · intro h
    have ha := List.mem_range.1 h
    exact List.mem_map.2 ⟨s a, List.mem_range.2 (lt a ha), inv a ha⟩
theorem count_sym {n : Nat} {s : Nat → Nat} (lt : ∀ i, i < n → s i < n) (inv : ∀ i, i < n → s (s i) = i) {p q : Nat → Bool} (h : ∀ i, i < n → q (s i) = p i) : ((List.range n).filter q).length = ((List.range n).filter p).length := by
  rw [← List.countP_eq_length_filter, ← List.countP_eq_length_filter, ← (range_perm lt inv).countP_eq q, List.countP_map]
  exact List.countP_congr fun i hi => by simp only [Function.comp]; rw [h i (List.mem_range.1 hi)]
theorem flat_sym {α : Type} {n : Nat} {s : Nat → Nat} (lt : ∀ i, i < n → s i < n) (inv : ∀ i, i < n → s (s i) = i) {f g : Nat → List α} (h : ∀ i, i < n → (g (s i)).length = (f i).length) : ((List.range n).flatMap g).length = ((List.range n).flatMap f).length := by
  rw [← ((range_perm lt inv).flatMap_right g).length_eq, List.flatMap_map, List.length_flatMap, List.length_flatMap]
  congr 1
  exact List.map_congr_left fun i hi => h i (List.mem_range.1 hi)
/-- The move in the other board. -/
def mvS (s : Nat → Nat) (m : Mv) : Mv := ⟨if m.f < 0 then m.f else (s m.f.toNat : Nat), s m.t, m.c⟩
section
variable {W H T T' : Nat} {C C' : ByteArray} {s : Nat → Nat} {ex ey : Int}
theorem Sym.goesLen (h : Sym W H T T' C C' s ex ey) (h' : Sym W H T' T C' C s ex ey) {ps : List Pc} (hok : ∀ p ∈ ps, ∀ z ∈ p.ws, z.ok = true) (hW : 1 ≤ W) (hC : C.size = W * H) (hC' : C'.size = W * H) {fr : Nat} (hf : fr < W * H) :
    (goesAt W H T' C' ps (s fr)).length = (goesAt W H T C ps fr).length := by
  unfold goesAt
  rw [h.own fr hf, h.up fr hf, hC, hC']
  split
  · unfold goTo
    rw [List.length_map, List.length_map]
    exact count_sym h.lt h.inv fun i hi => h.goals h' ((waysP_ok hok)) hW hf hi
  · rfl
theorem Sym.possLen (h : Sym W H T T' C C' s ex ey) (h' : Sym W H T' T C' C s ex ey) {A B A' B' : ByteArray} {ps : List Pc} {dr : Bool} (hok : ∀ p ∈ ps, ∀ z ∈ p.ws, z.ok = true) (hW : 1 ≤ W) (hC : C.size = W * H) (hC' : C'.size = W * H) (hh : handOf T' A' B' = handOf T A B) :
    (possL W H T' C' A' B' ps dr).length = (possL W H T C A B ps dr).length := by
  unfold possL
  rw [List.length_append, List.length_append, hh, hC, hC']
  congr 1
  · cases dr
    · rfl
    · simp only [if_true]
      unfold dropsTo
      refine flat_sym h.lt h.inv fun i hi => ?_
      unfold dropAt
      by_cases h46 : cellN C i = 46
      · rw [if_pos h46, if_pos ((h.e46 i hi).2 h46)]; simp
      · rw [if_neg h46, if_neg (fun q => h46 ((h.e46 i hi).1 q))]
  · unfold goesTo
    exact flat_sym h.lt h.inv fun i hi => h.goesLen h' hok hW hC hC' hi
theorem Sym.possMem (h : Sym W H T T' C C' s ex ey) (h' : Sym W H T' T C' C s ex ey) {A B A' B' : ByteArray} {ps : List Pc} {dr : Bool} (hok : ∀ p ∈ ps, ∀ z ∈ p.ws, z.ok = true) (hW : 1 ≤ W) (hC : C.size = W * H) (hC' : C'.size = W * H) (hh : handOf T' A' B' = handOf T A B) {m : Mv} (hm : m ∈ possL W H T C A B ps dr) :
    mvS s m ∈ possL W H T' C' A' B' ps dr := by
  unfold possL at hm ⊢
  rw [hh, hC']
  rw [hC] at hm
  rcases List.mem_append.1 hm with hm | hm
  · refine List.mem_append_left _ ?_
    cases dr with
    | false => simp at hm
    | true =>
      simp only [if_true] at hm ⊢
      unfold dropsTo at hm ⊢
      obtain ⟨i, hi, hm⟩ := List.mem_flatMap.1 hm
      have hi' := List.mem_range.1 hi
      refine List.mem_flatMap.2 ⟨s i, List.mem_range.2 (h.lt i hi'), ?_⟩
      unfold dropAt at hm ⊢
      by_cases h46 : cellN C i = 46
      · rw [if_pos h46] at hm
        rw [if_pos ((h.e46 i hi').2 h46)]
        obtain ⟨c, hc, rfl⟩ := List.mem_map.1 hm
        exact List.mem_map.2 ⟨c, hc, by simp [mvS, mkD]⟩
      · rw [if_neg h46] at hm
        cases hm
  · refine List.mem_append_right _ ?_
    unfold goesTo at hm ⊢
    obtain ⟨i, hi, hm⟩ := List.mem_flatMap.1 hm
    have hi' := List.mem_range.1 hi
    refine List.mem_flatMap.2 ⟨s i, List.mem_range.2 (h.lt i hi'), ?_⟩
    unfold goesAt at hm ⊢
    rw [h.own i hi', h.up i hi', hC']
    rw [hC] at hm
    split at hm
    · rename_i ho
      rw [if_pos ho]
      unfold goTo at hm ⊢
      obtain ⟨to, hto, rfl⟩ := List.mem_map.1 hm
      obtain ⟨q1, q2⟩ := List.mem_filter.1 hto
      have hto' := List.mem_range.1 q1
      refine List.mem_map.2 ⟨s to, List.mem_filter.2 ⟨List.mem_range.2 (h.lt to hto'), by rw [h.goals h' ((waysP_ok hok)) hW hi' hto']; exact q2⟩, ?_⟩
      unfold mvS
      rw [if_neg (by simp only; omega)]
      rfl
    · cases hm
end
end Go.Proofs.YtbglppcbgfkhmabGreatDoor
