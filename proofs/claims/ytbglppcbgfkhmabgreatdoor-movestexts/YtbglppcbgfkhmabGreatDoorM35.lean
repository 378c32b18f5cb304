/-
  Plain mathematics: a board the other way (Sym): its goals, its moves.
-/
import Derived.Test.YtbglppcbgfkhmabGreatDoorM32
import Derived.Test.YtbglppcbgfkhmabGreatDoorJ25
namespace Go.Proofs.YtbglppcbgfkhmabGreatDoor

/-- The board the other way: left and right, or up and down with the players changed. -/
structure Sym (W H T T' : Nat) (C C' : ByteArray) (s : Nat → Nat) (ex ey : Int) : Prop where
  sx : ex = 1 ∨ ex = -1
  sy : ey = 1 ∨ ey = -1
  lt : ∀ i, i < W * H → s i < W * H
  inv : ∀ i, i < W * H → s (s i) = i
  dx : ∀ a b, a < W * H → b < W * H → dxI W (s a) (s b) = ex * dxI W a b
  dy : ∀ a b, a < W * H → b < W * H → dyI W (s a) (s b) = ey * dyI W a b
  e46 : ∀ i, i < W * H → (cellN C' (s i) = 46 ↔ cellN C i = 46)
  up : ∀ i, i < W * H → upN (cellN C' (s i)) = upN (cellN C i)
  own : ∀ i, i < W * H → ownB T' (cellN C' (s i)) = ownB T (cellN C i)
  oth : ∀ i, i < W * H → ownB (1 - T') (cellN C' (s i)) = ownB (1 - T) (cellN C i)
  st : ∀ k x y (d : Int × Int), 0 ≤ x → 0 ≤ y → d ∈ stepsL k x y T → (ex * d.1, ey * d.2) ∈ stepsL k x y T'
theorem Sym.ent {W H T T' : Nat} {C C' : ByteArray} {s : Nat → Nat} {ex ey : Int} (h : Sym W H T T' C C' s ex ey) (t : Int) {i : Nat} (hi : i < W * H) : entB t T' (cellN C' (s i)) = entB t T (cellN C i) := by
  unfold entB
  by_cases h46 : cellN C i = 46
  · rw [if_pos h46, if_pos ((h.e46 i hi).2 h46)]
  · rw [if_neg h46, if_neg (fun q => h46 ((h.e46 i hi).1 q)), h.oth i hi]
theorem Sym.free {W H T T' : Nat} {C C' : ByteArray} {s : Nat → Nat} {ex ey : Int} (h : Sym W H T T' C C' s ex ey) {fr c : Nat} {d1 d2 : Int} {j : Nat} (hW : 1 ≤ W) (hj : 1 ≤ j) (hf : fr < W * H) (hc : c < W * H) (e1 : dxI W fr c = (j : Int) * d1) (e2 : dyI W fr c = (j : Int) * d2) (hfree : freeB W C fr (dxI W fr c) (dyI W fr c) j j = true) :
    freeB W C' (s fr) (dxI W (s fr) (s c)) (dyI W (s fr) (s c)) j j = true := by
  rw [free_iff] at hfree ⊢
  intro i hi1 hij
  have q1 : dxI W (s fr) (s c) = (j : Int) * (ex * d1) := by rw [h.dx fr c hf hc, e1, ← Int.mul_assoc, Int.mul_comm ex, Int.mul_assoc]
  have q2 : dyI W (s fr) (s c) = (j : Int) * (ey * d2) := by rw [h.dy fr c hf hc, e2, ← Int.mul_assoc, Int.mul_comm ey, Int.mul_assoc]
  have hin := between (i := i) hW hf hc e1 e2 (by omega)
  obtain ⟨m, hm⟩ : ∃ m, m = ptN W d1 d2 ((fr % W : Nat) : Int) ((fr / W : Nat) : Int) i := ⟨_, rfl⟩
  have hml : m < W * H := by rw [hm]; exact (let ⟨q0, q1, q2, q3⟩ := hin; (cell_no q0 q1 q2 q3).2)
  obtain ⟨a1, a2⟩ := pt_at hW hin hm
  have hfm := hfree i hi1 hij
  rw [mid_pt W fr _ _ d1 d2 j i hj e1 e2, ← hm] at hfm
  rw [mid_pt W (s fr) _ _ (ex * d1) (ey * d2) j i hj q1 q2]
  have b1 : dxI W (s fr) (s m) = (i : Int) * (ex * d1) := by rw [h.dx fr m hf hml, a1, ← Int.mul_assoc, Int.mul_comm ex, Int.mul_assoc]
  have b2 : dyI W (s fr) (s m) = (i : Int) * (ey * d2) := by rw [h.dy fr m hf hml, a2, ← Int.mul_assoc, Int.mul_comm ey, Int.mul_assoc]
  rw [← pt_of b1 b2]
  exact (h.e46 m hml).2 hfm
theorem Sym.way {W H T T' : Nat} {C C' : ByteArray} {s : Nat → Nat} {ex ey : Int} (h : Sym W H T T' C C' s ex ey) {fr c : Nat} {z : Wy} (hW : 1 ≤ W) (hz : 0 ≤ z.x ∧ 0 ≤ z.y) (hf : fr < W * H) (hc : c < W * H) (hw : wayTo W H T C fr c z) : wayTo W H T' C' (s fr) (s c) z := by
  obtain ⟨d, hd, hr⟩ := hw
  obtain ⟨j, h1, h2, e1, e2, h3, h4⟩ := (ray_iff hW hf hc).1 hr
  refine ⟨(ex * d.1, ey * d.2), h.st z.k z.x z.y d hz.1 hz.2 hd, (ray_iff hW (h.lt fr hf) (h.lt c hc)).2 ⟨j, h1, h2, ?_, ?_, h3, h.free hW h1 hf hc e1 e2 h4⟩⟩
  · rw [h.dx fr c hf hc, e1, ← Int.mul_assoc, Int.mul_comm ex, Int.mul_assoc]
  · rw [h.dy fr c hf hc, e2, ← Int.mul_assoc, Int.mul_comm ey, Int.mul_assoc]
/-- Changed twice it is as it was. -/
theorem Sym.back {W H T T' : Nat} {C C' : ByteArray} {s : Nat → Nat} {ex ey : Int} (h : Sym W H T T' C C' s ex ey) (hst : ∀ k x y (d : Int × Int), 0 ≤ x → 0 ≤ y → d ∈ stepsL k x y T' → (ex * d.1, ey * d.2) ∈ stepsL k x y T) : Sym W H T' T C' C s ex ey := by
  have sqx : ∀ a : Int, ex * (ex * a) = a := fun a => by rcases h.sx with q | q <;> rw [q] <;> omega
  have sqy : ∀ a : Int, ey * (ey * a) = a := fun a => by rcases h.sy with q | q <;> rw [q] <;> omega
  refine ⟨h.sx, h.sy, h.lt, h.inv, h.dx, h.dy, fun i hi => ?_, fun i hi => ?_, fun i hi => ?_, fun i hi => ?_, hst⟩
  · have := h.e46 (s i) (h.lt i hi); rw [h.inv i hi] at this; exact this.symm
  · have := h.up (s i) (h.lt i hi); rw [h.inv i hi] at this; exact this.symm
  · have := h.own (s i) (h.lt i hi); rw [h.inv i hi] at this; exact this.symm
  · have := h.oth (s i) (h.lt i hi); rw [h.inv i hi] at this; exact this.symm
theorem Sym.goals {W H T T' : Nat} {C C' : ByteArray} {s : Nat → Nat} {ex ey : Int} (h : Sym W H T T' C C' s ex ey) (h' : Sym W H T' T C' C s ex ey) {ws : List Wy} (hok : ∀ z ∈ ws, z.ok = true) (hW : 1 ≤ W) {fr c : Nat} (hf : fr < W * H) (hc : c < W * H) :
    (goalsG W H T' C' (s fr) ws).testBit (s c) = (goalsG W H T C fr ws).testBit c := by
  have one : ∀ {T T' : Nat} {C C' : ByteArray} (_ : Sym W H T T' C C' s ex ey) {fr c : Nat}, fr < W * H → c < W * H → (goalsG W H T C fr ws).testBit c = true → (goalsG W H T' C' (s fr) ws).testBit (s c) = true := by
    intro T T' C C' g fr c hf hc hb
    obtain ⟨z, hz, h1, h2⟩ := (goals_bit W H T C fr c ws).1 hb
    obtain ⟨x0, -, y0, -⟩ := ok_of (hok z hz)
    exact (goals_bit W H T' C' (s fr) (s c) ws).2 ⟨z, hz, by rw [g.ent z.t hc]; exact h1, g.way hW ⟨x0, y0⟩ hf hc h2⟩
  rw [Bool.eq_iff_iff]
  constructor
  · intro hb
    have := one h' (h.lt fr hf) (h.lt c hc) hb
    rw [h.inv fr hf, h.inv c hc] at this
    exact this
  · exact one h hf hc
/-- A change of places of the cells is one of their list. -/
theorem range_perm {n : Nat} {s : Nat → Nat} (lt : ∀ i, i < n → s i < n) (inv : ∀ i, i < n → s (s i) = i) : ((List.range n).map s).Perm (List.range n) := by
  have hnd : ((List.range n).map s).Nodup := by
    unfold List.Nodup
    rw [List.pairwise_map]
    refine List.Pairwise.imp_of_mem (R := (· ≠ ·)) (fun {a b} ha hb hab => ?_) List.nodup_range
    intro e
    have h1 := inv a (List.mem_range.1 ha)
    have h2 := inv b (List.mem_range.1 hb)
    rw [e, h2] at h1
    exact hab h1.symm
  rw [List.perm_ext_iff_of_nodup hnd List.nodup_range]
  intro a
  constructor
  · intro h
    obtain ⟨i, hi, rfl⟩ := List.mem_map.1 h
    exact List.mem_range.2 (lt i (List.mem_range.1 hi))
  · intro h
    have ha := List.mem_range.1 h
    exact List.mem_map.2 ⟨s a, List.mem_range.2 (lt a ha), inv a ha⟩
theorem count_sym {n : Nat} {s : Nat → Nat} (lt : ∀ i, i < n → s i < n) (inv : ∀ i, i < n → s (s i) = i) {p q : Nat → Bool} (h : ∀ i, i < n → q (s i) = p i) : ((List.range n).filter q).length = ((List.range n).filter p).length := by
  rw [← List.countP_eq_length_filter, ← List.countP_eq_length_filter, ← (range_perm lt inv).countP_eq q, List.countP_map]
  exact List.countP_congr fun i hi => by simp only [Function.comp]; rw [h i (List.mem_range.1 hi)]
theorem flat_sym {α : Type} {n : Nat} {s : Nat → Nat} (lt : ∀ i, i < n → s i < n) (inv : ∀ i, i < n → s (s i) = i) {f g : Nat → List α} (h : ∀ i, i < n → (g (s i)).length = (f i).length) : ((List.range n).flatMap g).length = ((List.range n).flatMap f).length := by
  rw [← ((range_perm lt inv).flatMap_right g).length_eq, List.flatMap_map, List.length_flatMap, List.length_flatMap]
  congr 1
  exact List.map_congr_left fun i hi => h i (List.mem_range.1 hi)
/-- The move in the other board. -/
def mvS (s : Nat → Nat) (m : Mv) : Mv := ⟨if m.f < 0 then m.f else (s m.f.toNat : Nat), s m.t, m.c⟩
section
variable {W H T T' : Nat} {C C' : ByteArray} {s : Nat → Nat} {ex ey : Int}
theorem Sym.goesLen (h : Sym W H T T' C C' s ex ey) (h' : Sym W H T' T C' C s ex ey) {ps : List Pc} (hok : ∀ p ∈ ps, ∀ z ∈ p.ws, z.ok = true) (hW : 1 ≤ W) (hC : C.size = W * H) (hC' : C'.size = W * H) {fr : Nat} (hf : fr < W * H) :
    (goesAt W H T' C' ps (s fr)).length = (goesAt W H T C ps fr).length := by
  unfold goesAt
  rw [h.own fr hf, h.up fr hf, hC, hC']
  split
  · unfold goTo
    rw [List.length_map, List.length_map]
    exact count_sym h.lt h.inv fun i hi => h.goals h' ((waysP_ok hok)) hW hf hi
  · rfl
theorem Sym.possLen (h : Sym W H T T' C C' s ex ey) (h' : Sym W H T' T C' C s ex ey) {A B A' B' : ByteArray} {ps : List Pc} {dr : Bool} (hok : ∀ p ∈ ps, ∀ z ∈ p.ws, z.ok = true) (hW : 1 ≤ W) (hC : C.size = W * H) (hC' : C'.size = W * H) (hh : handOf T' A' B' = handOf T A B) :
    (possL W H T' C' A' B' ps dr).length = (possL W H T C A B ps dr).length := by
  unfold possL
  rw [List.length_append, List.length_append, hh, hC, hC']
  congr 1
  · cases dr
    · rfl
    · simp only [if_true]
      unfold dropsTo
      refine flat_sym h.lt h.inv fun i hi => ?_
      unfold dropAt
      by_cases h46 : cellN C i = 46
      · rw [if_pos h46, if_pos ((h.e46 i hi).2 h46)]; simp
      · rw [if_neg h46, if_neg (fun q => h46 ((h.e46 i hi).1 q))]
  · unfold goesTo
    exact flat_sym h.lt h.inv fun i hi => h.goesLen h' hok hW hC hC' hi
theorem Sym.possMem (h : Sym W H T T' C C' s ex ey) (h' : Sym W H T' T C' C s ex ey) {A B A' B' : ByteArray} {ps : List Pc} {dr : Bool} (hok : ∀ p ∈ ps, ∀ z ∈ p.ws, z.ok = true) (hW : 1 ≤ W) (hC : C.size = W * H) (hC' : C'.size = W * H) (hh : handOf T' A' B' = handOf T A B) {m : Mv} (hm : m ∈ possL W H T C A B ps dr) :
    mvS s m ∈ possL W H T' C' A' B' ps dr := by
  unfold possL at hm ⊢
  rw [hh, hC']
  rw [hC] at hm
  rcases List.mem_append.1 hm with hm | hm
  · refine List.mem_append_left _ ?_
    cases dr with
    | false => simp at hm
    | true =>
      simp only [if_true] at hm ⊢
      unfold dropsTo at hm ⊢
      obtain ⟨i, hi, hm⟩ := List.mem_flatMap.1 hm
      have hi' := List.mem_range.1 hi
      refine List.mem_flatMap.2 ⟨s i, List.mem_range.2 (h.lt i hi'), ?_⟩
      unfold dropAt at hm ⊢
      by_cases h46 : cellN C i = 46
      · rw [if_pos h46] at hm
        rw [if_pos ((h.e46 i hi').2 h46)]
        obtain ⟨c, hc, rfl⟩ := List.mem_map.1 hm
        exact List.mem_map.2 ⟨c, hc, by simp [mvS, mkD]⟩
      · rw [if_neg h46] at hm
        cases hm
  · refine List.mem_append_right _ ?_
    unfold goesTo at hm ⊢
    obtain ⟨i, hi, hm⟩ := List.mem_flatMap.1 hm
    have hi' := List.mem_range.1 hi
    refine List.mem_flatMap.2 ⟨s i, List.mem_range.2 (h.lt i hi'), ?_⟩
    unfold goesAt at hm ⊢
    rw [h.own i hi', h.up i hi', hC']
    rw [hC] at hm
    split at hm
    · rename_i ho
      rw [if_pos ho]
      unfold goTo at hm ⊢
      obtain ⟨to, hto, rfl⟩ := List.mem_map.1 hm
      obtain ⟨q1, q2⟩ := List.mem_filter.1 hto
      have hto' := List.mem_range.1 q1
      refine List.mem_map.2 ⟨s to, List.mem_filter.2 ⟨List.mem_range.2 (h.lt to hto'), by rw [h.goals h' ((waysP_ok hok)) hW hi' hto']; exact q2⟩, ?_⟩
      unfold mvS
      rw [if_neg (by simp only; omega)]
      rfl
    · cases hm
end
end Go.Proofs.YtbglppcbgfkhmabGreatDoor
