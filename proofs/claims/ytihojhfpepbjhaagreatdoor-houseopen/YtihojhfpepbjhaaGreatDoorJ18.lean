/-
  Plain mathematics: a board the other way (Sym): its goals, its moves.
  Plain mathematics: a board the other way: who has won there.
  board.Swapped, walked: the players changed, for every position; ErrArg else.
  Plain mathematics: the board in a mirror, and turned round for the other player, are such boards.
  Plain mathematics: the position in a mirror, and the one turned round for the other player, are of the rules.
-/
import Derived.Test.YtihojhfpepbjhaaGreatDoorJ10
import Derived.Test.YtihojhfpepbjhaaGreatDoorJ17
import Derived.Test.YtihojhfpepbjhaaGreatDoorJ12
import Derived.Test.YtihojhfpepbjhaaGreatDoorW6
namespace Go.Proofs.YtihojhfpepbjhaaGreatDoor

/-- The board the other way: left and right, or up and down with the players changed. -/
structure Sym (W H T T' : Nat) (C C' : ByteArray) (s : Nat → Nat) (ex ey : Int) : Prop where
  sx : ex = 1 ∨ ex = -1
  sy : ey = 1 ∨ ey = -1
  lt : ∀ i, i < W * H → s i < W * H
  inv : ∀ i, i < W * H → s (s i) = i
  dx : ∀ a b, a < W * H → b < W * H → dxI W (s a) (s b) = ex * dxI W a b
  dy : ∀ a b, a < W * H → b < W * H → dyI W (s a) (s b) = ey * dyI W a b
  e46 : ∀ i, i < W * H → (cellN C' (s i) = 46 ↔ cellN C i = 46)
  up : ∀ i, i < W * H → upN (cellN C' (s i)) = upN (cellN C i)
  own : ∀ i, i < W * H → ownB T' (cellN C' (s i)) = ownB T (cellN C i)
  oth : ∀ i, i < W * H → ownB (1 - T') (cellN C' (s i)) = ownB (1 - T) (cellN C i)
  st : ∀ k x y (d : Int × Int), 0 ≤ x → 0 ≤ y → d ∈ stepsL k x y T → (ex * d.1, ey * d.2) ∈ stepsL k x y T'
theorem Sym.ent {W H T T' : Nat} {C C' : ByteArray} {s : Nat → Nat} {ex ey : Int} (h : Sym W H T T' C C' s ex ey) (t : Int) {i : Nat} (hi : i < W * H) : entB t T' (cellN C' (s i)) = entB t T (cellN C i) := by
  unfold entB
  by_cases h46 : cellN C i = 46
  · rw [if_pos h46, if_pos ((h.e46 i hi).2 h46)]
  · rw [if_neg h46, if_neg (fun q => h46 ((h.e46 i hi).1 q)), h.oth i hi]
theorem Sym.free {W H T T' : Nat} {C C' : ByteArray} {s : Nat → Nat} {ex ey : Int} (h : Sym W H T T' C C' s ex ey) {fr c : Nat} {d1 d2 : Int} {j : Nat} (hW : 1 ≤ W) (hj : 1 ≤ j) (hf : fr < W * H) (hc : c < W * H) (e1 : dxI W fr c = (j : Int) * d1) (e2 : dyI W fr c = (j : Int) * d2) (hfree : freeB W C fr (dxI W fr c) (dyI W fr c) j j = true) :
    freeB W C' (s fr) (dxI W (s fr) (s c)) (dyI W (s fr) (s c)) j j = true := by
  rw [free_iff] at hfree ⊢
  intro i hi1 hij
  have q1 : dxI W (s fr) (s c) = (j : Int) * (ex * d1) := by rw [h.dx fr c hf hc, e1, ← Int.mul_assoc, Int.mul_comm ex, Int.mul_assoc]
  have q2 : dyI W (s fr) (s c) = (j : Int) * (ey * d2) := by rw [h.dy fr c hf hc, e2, ← Int.mul_assoc, Int.mul_comm ey, Int.mul_assoc]
  have hin := between (i := i) hW hf hc e1 e2 (by omega)
  obtain ⟨m, hm⟩ : ∃ m, m = ptN W d1 d2 ((fr % W : Nat) : Int) ((fr / W : Nat) : Int) i := ⟨_, rfl⟩
  have hml : m < W * H := by rw [hm]; exact (let ⟨q0, q1, q2, q3⟩ := hin; (cell_no q0 q1 q2 q3).2)
  obtain ⟨a1, a2⟩ := pt_at hW hin hm
  have hfm := hfree i hi1 hij
  rw [mid_pt W fr _ _ d1 d2 j i hj e1 e2, ← hm] at hfm
  rw [mid_pt W (s fr) _ _ (ex * d1) (ey * d2) j i hj q1 q2]
  have b1 : dxI W (s fr) (s m) = (i : Int) * (ex * d1) := by rw [h.dx fr m hf hml, a1, ← Int.mul_assoc, Int.mul_comm ex, Int.mul_assoc]
  have b2 : dyI W (s fr) (s m) = (i : Int) * (ey * d2) := by rw [h.dy fr m hf hml, a2, ← Int.mul_assoc, Int.mul_comm ey, Int.mul_assoc]
  rw [← pt_of b1 b2]
  exact (h.e46 m hml).2 hfm
theorem Sym.way {W H T T' : Nat} {C C' : ByteArray} {s : Nat → Nat} {ex ey : Int} (h : Sym W H T T' C C' s ex ey) {fr c : Nat} {z : Wy} (hW : 1 ≤ W) (hz : 0 ≤ z.x ∧ 0 ≤ z.y) (hf : fr < W * H) (hc : c < W * H) (hw : wayTo W H T C fr c z) : wayTo W H T' C' (s fr) (s c) z := by
  obtain ⟨d, hd, hr⟩ := hw
  obtain ⟨j, h1, h2, e1, e2, h3, h4⟩ := (ray_iff hW hf hc).1 hr
  refine ⟨(ex * d.1, ey * d.2), h.st z.k z.x z.y d hz.1 hz.2 hd, (ray_iff hW (h.lt fr hf) (h.lt c hc)).2 ⟨j, h1, h2, ?_, ?_, h3, h.free hW h1 hf hc e1 e2 h4⟩⟩
  · rw [h.dx fr c hf hc, e1, ← Int.mul_assoc, Int.mul_comm ex, Int.mul_assoc]
  · rw [h.dy fr c hf hc, e2, ← Int.mul_assoc, Int.mul_comm ey, Int.mul_assoc]
theorem Sym.goals {W H T T' : Nat} {C C' : ByteArray} {s : Nat → Nat} {ex ey : Int} (h : Sym W H T T' C C' s ex ey) (h' : Sym W H T' T C' C s ex ey) {ws : List Wy} (hok : ∀ z ∈ ws, z.ok = true) (hW : 1 ≤ W) {fr c : Nat} (hf : fr < W * H) (hc : c < W * H) :
    (goalsG W H T' C' (s fr) ws).testBit (s c) = (goalsG W H T C fr ws).testBit c := by
  have one : ∀ {T T' : Nat} {C C' : ByteArray} (_ : Sym W H T T' C C' s ex ey) {fr c : Nat}, fr < W * H → c < W * H → (goalsG W H T C fr ws).testBit c = true → (goalsG W H T' C' (s fr) ws).testBit (s c) = true := by
    intro T T' C C' g fr c hf hc hb
    obtain ⟨z, hz, h1, h2⟩ := (goals_bit W H T C fr c ws).1 hb
    obtain ⟨x0, -, y0, -⟩ := ok_of (hok z hz)
    exact (goals_bit W H T' C' (s fr) (s c) ws).2 ⟨z, hz, by rw [g.ent z.t hc]; exact h1, g.way hW ⟨x0, y0⟩ hf hc h2⟩
  rw [Bool.eq_iff_iff]
  constructor
  · intro hb
    have := one h' (h.lt fr hf) (h.lt c hc) hb
    rw [h.inv fr hf, h.inv c hc] at this
    exact this
  · exact one h hf hc
/-- A change of places of the cells is one of their list. -/
theorem range_perm {n : Nat} {s : Nat → Nat} (lt : ∀ i, i < n → s i < n) (inv : ∀ i, i < n → s (s i) = i) : ((List.range n).map s).Perm (List.range n) := by
  have hnd : ((List.range n).map s).Nodup := by
    unfold List.Nodup
    rw [List.pairwise_map]
    refine List.Pairwise.imp_of_mem (R := (· ≠ ·)) (fun {a b} ha hb hab => ?_) List.nodup_range
    intro e
    have h1 := inv a (List.mem_range.1 ha)
    have h2 := inv b (List.mem_range.1 hb)
    rw [e, h2] at h1
    exact hab h1.symm
  rw [List.perm_ext_iff_of_nodup hnd List.nodup_range]
  intro a
  constructor
  · intro h
    obtain ⟨i, hi, rfl⟩ := List.mem_map.1 h
    exact List.mem_range.2 (lt i (List.mem_range.1 hi))
  · intro h
    have ha := List.mem_range.1 h
    exact List.mem_map.2 ⟨s a, List.mem_range.2 (lt a ha), inv a ha⟩
theorem count_sym {n : Nat} {s : Nat → Nat} (lt : ∀ i, i < n → s i < n) (inv : ∀ i, i < n → s (s i) = i) {p q : Nat → Bool} (h : ∀ i, i < n → q (s i) = p i) : ((List.range n).filter q).length = ((List.range n).filter p).length := by
  rw [← List.countP_eq_length_filter, ← List.countP_eq_length_filter, ← (range_perm lt inv).countP_eq q, List.countP_map]
  exact List.countP_congr fun i hi => by simp only [Function.comp]; rw [h i (List.mem_range.1 hi)]
theorem flat_sym {α : Type} {n : Nat} {s : Nat → Nat} (lt : ∀ i, i < n → s i < n) (inv : ∀ i, i < n → s (s i) = i) {f g : Nat → List α} (h : ∀ i, i < n → (g (s i)).length = (f i).length) : ((List.range n).flatMap g).length = ((List.range n).flatMap f).length := by
  rw [← ((range_perm lt inv).flatMap_right g).length_eq, List.flatMap_map, List.length_flatMap, List.length_flatMap]
  congr 1
  exact List.map_congr_left fun i hi => h i (List.mem_range.1 hi)
/-- The move in the other board. -/
def mvS (s : Nat → Nat) (m : Mv) : Mv := ⟨if m.f < 0 then m.f else (s m.f.toNat : Nat), s m.t, m.c⟩
section
variable {W H T T' : Nat} {C C' : ByteArray} {s : Nat → Nat} {ex ey : Int}
theorem Sym.goesLen (h : Sym W H T T' C C' s ex ey) (h' : Sym W H T' T C' C s ex ey) {ps : List Pc} (hok : ∀ p ∈ ps, ∀ z ∈ p.ws, z.ok = true) (hW : 1 ≤ W) (hC : C.size = W * H) (hC' : C'.size = W * H) {fr : Nat} (hf : fr < W * H) :
    (goesAt W H T' C' ps (s fr)).length = (goesAt W H T C ps fr).length := by
  unfold goesAt
  rw [h.own fr hf, h.up fr hf, hC, hC']
  split
  · unfold goTo
    rw [List.length_map, List.length_map]
    exact count_sym h.lt h.inv fun i hi => h.goals h' ((waysP_ok hok)) hW hf hi
  · rfl
theorem Sym.possLen (h : Sym W H T T' C C' s ex ey) (h' : Sym W H T' T C' C s ex ey) {A B A' B' : ByteArray} {ps : List Pc} {dr : Bool} (hok : ∀ p ∈ ps, ∀ z ∈ p.ws, z.ok = true) (hW : 1 ≤ W) (hC : C.size = W * H) (hC' : C'.size = W * H) (hh : handOf T' A' B' = handOf T A B) :
    (possL W H T' C' A' B' ps dr).length = (possL W H T C A B ps dr).length := by
  unfold possL
  rw [List.length_append, List.length_append, hh, hC, hC']
  congr 1
  · cases dr
    · rfl
    · simp only [if_true]
      unfold dropsTo
      refine flat_sym h.lt h.inv fun i hi => ?_
      unfold dropAt
      by_cases h46 : cellN C i = 46
      · rw [if_pos h46, if_pos ((h.e46 i hi).2 h46)]; simp
      · rw [if_neg h46, if_neg (fun q => h46 ((h.e46 i hi).1 q))]
  · unfold goesTo
    exact flat_sym h.lt h.inv fun i hi => h.goesLen h' hok hW hC hC' hi
theorem Sym.possMem (h : Sym W H T T' C C' s ex ey) (h' : Sym W H T' T C' C s ex ey) {A B A' B' : ByteArray} {ps : List Pc} {dr : Bool} (hok : ∀ p ∈ ps, ∀ z ∈ p.ws, z.ok = true) (hW : 1 ≤ W) (hC : C.size = W * H) (hC' : C'.size = W * H) (hh : handOf T' A' B' = handOf T A B) {m : Mv} (hm : m ∈ possL W H T C A B ps dr) :
    mvS s m ∈ possL W H T' C' A' B' ps dr := by
  unfold possL at hm ⊢
  rw [hh, hC']
  rw [hC] at hm
  rcases List.mem_append.1 hm with hm | hm
  · refine List.mem_append_left _ ?_
    cases dr with
    | false => simp at hm
    | true =>
      simp only [if_true] at hm ⊢
      unfold dropsTo at hm ⊢
      obtain ⟨i, hi, hm⟩ := List.mem_flatMap.1 hm
      have hi' := List.mem_range.1 hi
      refine List.mem_flatMap.2 ⟨s i, List.mem_range.2 (h.lt i hi'), ?_⟩
      unfold dropAt at hm ⊢
      by_cases h46 : cellN C i = 46
      · rw [if_pos h46] at hm
        rw [if_pos ((h.e46 i hi').2 h46)]
        obtain ⟨c, hc, rfl⟩ := List.mem_map.1 hm
        exact List.mem_map.2 ⟨c, hc, by simp [mvS, mkD]⟩
      · rw [if_neg h46] at hm
        cases hm
  · refine List.mem_append_right _ ?_
    unfold goesTo at hm ⊢
    obtain ⟨i, hi, hm⟩ := List.mem_flatMap.1 hm
    have hi' := List.mem_range.1 hi
    refine List.mem_flatMap.2 ⟨s i, List.mem_range.2 (h.lt i hi'), ?_⟩
    unfold goesAt at hm ⊢
    rw [h.own i hi', h.up i hi', hC']
    rw [hC] at hm
    split at hm
    · rename_i ho
      rw [if_pos ho]
      unfold goTo at hm ⊢
      obtain ⟨to, hto, rfl⟩ := List.mem_map.1 hm
      obtain ⟨q1, q2⟩ := List.mem_filter.1 hto
      have hto' := List.mem_range.1 q1
      refine List.mem_map.2 ⟨s to, List.mem_filter.2 ⟨List.mem_range.2 (h.lt to hto'), by rw [h.goals h' ((waysP_ok hok)) hW hi' hto']; exact q2⟩, ?_⟩
      unfold mvS
      rw [if_neg (by simp only; omega)]
      rfl
    · cases hm
end
end Go.Proofs.YtihojhfpepbjhaaGreatDoor

namespace Go.Proofs.YtihojhfpepbjhaaGreatDoor

theorem let_own : ∀ l : Nat, l < 256 → capB (l : Int) = true → ∀ c : Nat, c < 256 → (c = letN 0 l ↔ (ownB 0 c = true ∧ upN c = l)) ∧ (c = letN 1 l ↔ (ownB 1 c = true ∧ upN c = l)) := by decide +kernel
theorem let_iff {P l c : Nat} (hP : P ≤ 1) (hl : l < 256) (hcap : capB (l : Int) = true) (hc : c < 256) : c = letN P l ↔ (ownB P c = true ∧ upN c = l) := by
  rcases (by omega : P = 0 ∨ P = 1) with rfl | rfl
  · exact (let_own l hl hcap c hc).1
  · exact (let_own l hl hcap c hc).2
theorem cellN_lt (C : ByteArray) (i : Nat) : cellN C i < 256 := UInt8.toNat_lt _
theorem has_iff (C : ByteArray) {n : Nat} (hn : n < 256) : hasN C.data.toList n = true ↔ ∃ i, i < C.size ∧ cellN C i = n := by
  unfold hasN
  rw [decide_eq_true_eq, index_mem]
  have hnn : n.toUInt8.toNat = n := by show n % 256 = n; omega
  constructor
  · intro h
    obtain ⟨i, hi⟩ := List.getElem?_of_mem h
    have hl : i < C.size := by
      have := (List.getElem?_eq_some_iff.1 hi).1
      simpa using this
    obtain ⟨q1, q2⟩ := cellN_list C i hl
    rw [q1] at hi
    exact ⟨i, hl, by rw [q2, Option.some.inj hi, hnn]⟩
  · rintro ⟨i, hi, h⟩
    obtain ⟨q1, q2⟩ := cellN_list C i hi
    have : C.get! i = n.toUInt8 := UInt8.toNat_inj.1 (by rw [← q2, h, hnn])
    rw [this] at q1
    exact List.mem_of_getElem? q1
theorem letN_256 {P l : Nat} (hl : l < 256) : letN P l < 256 := by
  unfold letN
  split
  · exact hl
  · exact Nat.or_lt_two_pow (n := 8) hl (by decide)
/-- A player's last row. -/
def lastN (H P : Nat) : Nat := if P = 1 then 0 else H - 1
theorem last_iff {W H P : Nat} {C : ByteArray} {n : Nat} (hW : 1 ≤ W) (hH : 1 ≤ H) (hC : C.size = W * H) (hn : n < 256) : hasN (lastR W P C) n = true ↔ ∃ i, i < W * H ∧ i / W = lastN H P ∧ cellN C i = n := by
  have hWC : W ≤ C.size := by rw [hC]; exact Nat.le_mul_of_pos_right _ hH
  have hnn : n.toUInt8.toNat = n := by show n % 256 = n; omega
  unfold hasN lastR lastN
  rw [decide_eq_true_eq, index_mem]
  have hcell : ∀ i, i < C.size → (C.data.toList[i]? = some n.toUInt8 ↔ cellN C i = n) := fun i hi => by
    obtain ⟨q1, q2⟩ := cellN_list C i hi
    rw [q1, q2]
    constructor
    · intro h; rw [Option.some.inj h, hnn]
    · intro h; rw [UInt8.toNat_inj.1 (show (C.get! i).toNat = n.toUInt8.toNat by rw [h, hnn])]
  split
  · constructor
    · intro h
      obtain ⟨i, hi⟩ := List.getElem?_of_mem h
      rw [List.getElem?_take] at hi
      split at hi
      · rename_i hiW
        exact ⟨i, by omega, Nat.div_eq_of_lt hiW, (hcell i (by omega)).1 hi⟩
      · cases hi
    · rintro ⟨i, hi, hd, h⟩
      have hiW : i < W := by
        have := Nat.div_add_mod i W
        rw [hd] at this
        have := Nat.mod_lt i hW
        omega
      refine List.mem_of_getElem? (i := i) ?_
      rw [List.getElem?_take, if_pos hiW]
      exact (hcell i (by omega)).2 h
  · have hsz : C.size - W = W * (H - 1) := by rw [hC, Nat.mul_sub, Nat.mul_one]
    constructor
    · intro h
      obtain ⟨i, hi⟩ := List.getElem?_of_mem h
      rw [List.getElem?_drop] at hi
      have hl : C.size - W + i < C.size := by
        have := (List.getElem?_eq_some_iff.1 hi).1
        simpa using this
      refine ⟨C.size - W + i, by omega, ?_, (hcell _ hl).1 hi⟩
      rw [hsz, Nat.mul_add_div (by omega), Nat.div_eq_of_lt (by omega)]; rfl
    · rintro ⟨i, hi, hd, h⟩
      have hge : C.size - W ≤ i := by
        rw [hsz, ← hd]
        exact Nat.mul_div_le i W
      refine List.mem_of_getElem? (i := i - (C.size - W)) ?_
      rw [List.getElem?_drop, show C.size - W + (i - (C.size - W)) = i by omega]
      exact (hcell i (by omega)).2 h
section
variable {W H T T' : Nat} {C C' : ByteArray} {s : Nat → Nat} {ex ey : Int}
/-- The same player in both boards. -/
structure Ply (W H : Nat) (C C' : ByteArray) (s : Nat → Nat) (P P' : Nat) : Prop where
  le : P ≤ 1
  le' : P' ≤ 1
  own : ∀ i, i < W * H → ownB P' (cellN C' (s i)) = ownB P (cellN C i)
  row : ∀ i, i < W * H → (s i / W = lastN H P' ↔ i / W = lastN H P)
theorem Sym.has (h : Sym W H T T' C C' s ex ey) {P P' l : Nat} (hp : Ply W H C C' s P P') (hC : C.size = W * H) (hC' : C'.size = W * H) (hl : l < 256) (hcap : capB (l : Int) = true) : hasN C'.data.toList (letN P' l) = hasN C.data.toList (letN P l) := by
  rw [Bool.eq_iff_iff, has_iff C' (letN_256 hl), has_iff C (letN_256 hl), hC, hC']
  have key : ∀ i, i < W * H → (cellN C' (s i) = letN P' l ↔ cellN C i = letN P l) := fun i hi => by
    rw [let_iff hp.le' hl hcap (cellN_lt _ _), let_iff hp.le hl hcap (cellN_lt _ _), hp.own i hi, h.up i hi]
  constructor
  · rintro ⟨i, hi, q⟩
    refine ⟨s i, h.lt i hi, (key (s i) (h.lt i hi)).1 ?_⟩
    rw [h.inv i hi]; exact q
  · rintro ⟨i, hi, q⟩
    exact ⟨s i, h.lt i hi, (key i hi).2 q⟩
theorem Sym.last (h : Sym W H T T' C C' s ex ey) {P P' l : Nat} (hp : Ply W H C C' s P P') (hW : 1 ≤ W) (hH : 1 ≤ H) (hC : C.size = W * H) (hC' : C'.size = W * H) (hl : l < 256) (hcap : capB (l : Int) = true) : hasN (lastR W P' C') (letN P' l) = hasN (lastR W P C) (letN P l) := by
  rw [Bool.eq_iff_iff, last_iff hW hH hC' (letN_256 hl), last_iff hW hH hC (letN_256 hl)]
  have key : ∀ i, i < W * H → ((s i / W = lastN H P' ∧ cellN C' (s i) = letN P' l) ↔ (i / W = lastN H P ∧ cellN C i = letN P l)) := fun i hi => by
    rw [let_iff hp.le' hl hcap (cellN_lt _ _), let_iff hp.le hl hcap (cellN_lt _ _), hp.own i hi, h.up i hi, hp.row i hi]
  constructor
  · rintro ⟨i, hi, q⟩
    obtain ⟨a, b⟩ := (key (s i) (h.lt i hi)).1 (by rw [h.inv i hi]; exact q)
    exact ⟨s i, h.lt i hi, a, b⟩
  · rintro ⟨i, hi, q⟩
    obtain ⟨a, b⟩ := (key i hi).2 q
    exact ⟨s i, h.lt i hi, a, b⟩
end
theorem row_iff {W H P : Nat} {C : ByteArray} {a n : Nat} {d1 d2 : Int} (hW : 1 ≤ W) (ha : a < W * H) : rowB W H P C ((a % W : Nat) : Int) ((a / W : Nat) : Int) d1 d2 n = true ↔ ∀ k : Nat, k < n → ∃ c, c < W * H ∧ dxI W a c = (k : Int) * d1 ∧ dyI W a c = (k : Int) * d2 ∧ rownI (cellN C c : Nat) = (P : Int) := by
  simp only [rowB, List.all_eq_true, List.mem_range, Bool.and_eq_true, decide_eq_true_eq]
  constructor
  · intro h k hk
    obtain ⟨h1, h2⟩ := h k hk
    obtain ⟨a1, a2⟩ := pt_at hW h1 rfl
    exact ⟨_, inP_pt h1, a1, a2, h2⟩
  · intro h k hk
    obtain ⟨c, hc, a1, a2, h2⟩ := h k hk
    refine ⟨between hW ha hc a1 a2 (Nat.le_refl _), ?_⟩
    rw [← pt_of a1 a2]; exact h2
theorem lined_iff {W H P : Nat} {C : ByteArray} {n : Nat} (hW : 1 ≤ W) : linedB W H P C n = true ↔ ∃ a, a < W * H ∧ ∃ d ∈ dirs4, rowB W H P C ((a % W : Nat) : Int) ((a / W : Nat) : Int) d.1 d.2 n = true := by
  unfold linedB lineAt
  simp only [List.any_eq_true, List.mem_range]
  constructor
  · rintro ⟨y, hy, x, hx, d, hd, h⟩
    have hc : y * W + x < W * H := by
      have : (y + 1) * W ≤ H * W := Nat.mul_le_mul_right _ (by omega)
      rw [Nat.add_mul, Nat.one_mul] at this
      rw [Nat.mul_comm W H]; omega
    have hm : (y * W + x) % W = x := by rw [Nat.mul_comm, Nat.mul_add_mod]; exact Nat.mod_eq_of_lt hx
    have hdv : (y * W + x) / W = y := by rw [Nat.mul_comm, Nat.mul_add_div (by omega), Nat.div_eq_of_lt hx]; rfl
    exact ⟨y * W + x, hc, d, hd, by rw [hm, hdv]; exact h⟩
  · rintro ⟨a, ha, d, hd, h⟩
    exact ⟨a / W, Nat.div_lt_of_lt_mul ha, a % W, Nat.mod_lt _ hW, d, hd, h⟩
theorem dirs_sym {ex ey : Int} (sx : ex = 1 ∨ ex = -1) (sy : ey = 1 ∨ ey = -1) : ∀ d ∈ dirs4, (ex * d.1, ey * d.2) ∈ dirs4 ∨ (-(ex * d.1), -(ey * d.2)) ∈ dirs4 := by
  intro d hd
  unfold dirs4 at hd ⊢
  simp only [List.mem_cons, List.not_mem_nil, or_false] at hd
  rcases sx with rfl | rfl <;> rcases sy with rfl | rfl <;> rcases hd with rfl | rfl | rfl | rfl <;> decide
section
variable {W H T T' : Nat} {C C' : ByteArray} {s : Nat → Nat} {ex ey : Int}
theorem Sym.line (h : Sym W H T T' C C' s ex ey) {P P' n : Nat} (hown : ∀ i, i < W * H → rownI (cellN C i : Nat) = (P : Int) → rownI (cellN C' (s i) : Nat) = (P' : Int)) (hW : 1 ≤ W) (hn : 1 ≤ n) (hl : linedB W H P C n = true) : linedB W H P' C' n = true := by
  rw [lined_iff hW] at hl ⊢
  obtain ⟨a, ha, d, hd, hr⟩ := hl
  rw [row_iff hW ha] at hr
  rcases dirs_sym h.sx h.sy d hd with hd' | hd'
  · refine ⟨s a, h.lt a ha, _, hd', ?_⟩
    rw [row_iff hW (h.lt a ha)]
    intro k hk
    obtain ⟨c, hc, e1, e2, e3⟩ := hr k hk
    refine ⟨s c, h.lt c hc, ?_, ?_, hown c hc e3⟩
    · rw [h.dx a c ha hc, e1, ← Int.mul_assoc, Int.mul_comm ex, Int.mul_assoc]
    · rw [h.dy a c ha hc, e2, ← Int.mul_assoc, Int.mul_comm ey, Int.mul_assoc]
  · obtain ⟨b, hb, b1, b2, -⟩ := hr (n - 1) (by omega)
    refine ⟨s b, h.lt b hb, _, hd', ?_⟩
    rw [row_iff hW (h.lt b hb)]
    intro k hk
    obtain ⟨c, hc, e1, e2, e3⟩ := hr (n - 1 - k) (by omega)
    have hk' : ((n - 1 - k : Nat) : Int) = ((n - 1 : Nat) : Int) - (k : Int) := by omega
    rw [hk', Int.sub_mul] at e1 e2
    have x1 : dxI W b c = -((k : Int) * d.1) := by
      unfold dxI at e1 b1 ⊢; omega
    have x2 : dyI W b c = -((k : Int) * d.2) := by
      unfold dyI at e2 b2 ⊢; omega
    refine ⟨s c, h.lt c hc, ?_, ?_, hown c hc e3⟩
    · rw [h.dx b c hb hc, x1, Int.mul_neg, Int.mul_neg, ← Int.mul_assoc, ← Int.mul_assoc, Int.mul_comm ex]
    · rw [h.dy b c hb hc, x2, Int.mul_neg, Int.mul_neg, ← Int.mul_assoc, ← Int.mul_assoc, Int.mul_comm ey]
theorem Sym.lineEq (h : Sym W H T T' C C' s ex ey) (h' : Sym W H T' T C' C s ex ey) {P P' n : Nat} (hp : Ply W H C C' s P P') (hW : 1 ≤ W) (hn : 1 ≤ n ∧ n ≤ 8) (hv : ∀ c, c < W * H → cellB (cellN C c : Nat) = true ∧ cellN C c < 256) (hv' : ∀ c, c < W * H → cellB (cellN C' c : Nat) = true ∧ cellN C' c < 256) : hasLineB W H P' C' n = hasLineB W H P C n := by
  have hown : ∀ i, i < W * H → (rownI (cellN C' (s i) : Nat) = (P' : Int) ↔ rownI (cellN C i : Nat) = (P : Int)) := fun i hi => by
    have q := hp.own i hi
    rw [own_rown _ (hv i hi).2 (hv i hi).1 P hp.le, own_rown _ (hv' _ (h.lt i hi)).2 (hv' _ (h.lt i hi)).1 P' hp.le'] at q
    rw [Bool.eq_iff_iff, decide_eq_true_eq, decide_eq_true_eq] at q
    exact q
  rw [lined_eq hp.le' hW hn hv', lined_eq hp.le hW hn hv, Bool.eq_iff_iff]
  constructor
  · refine h'.line (fun i hi q => ?_) hW hn.1
    have := hown (s i) (h.lt i hi)
    rw [h.inv i hi] at this
    exact this.1 q
  · exact h.line (fun i hi q => (hown i hi).2 q) hW hn.1
end
/-- What six questions say, if those are the winners. -/
def dch (e1 e2 e3 e4 e5 e6 : Bool) (vo vm : Int) : Int := if e1 then vo else if e2 then vm else if e3 then vo else if e4 then vm else if e5 then vo else if e6 then vm else 0
theorem decO_ch (W H T : Nat) (C : ByteArray) (lo : Nat) (li : Int) (re : Nat) : decO W H T C lo li re =
    dch (decide (lo ≠ 0) && !hasN C.data.toList (letN T lo)) (decide (lo ≠ 0) && !hasN C.data.toList (letN (1 - T) lo)) (decide (li ≠ 0) && hasLineB W H (1 - T) C li) (decide (li ≠ 0) && hasLineB W H T C li) (decide (re ≠ 0) && hasN (lastR W (1 - T) C) (letN (1 - T) re)) (decide (re ≠ 0) && hasN (lastR W T C) (letN T re)) (wonI (1 - (T : Int))) (wonI T) := by
  unfold decO dch
  simp only [Bool.and_eq_true, decide_eq_true_eq, Bool.not_eq_true']
theorem wonI_ne (t : Int) : wonI t = 1 ∨ wonI t = 2 := by unfold wonI; split <;> omega
theorem dch_swap (e1 e2 e3 e4 e5 e6 : Bool) (vo vm : Int) (ho : vo = 1 ∨ vo = 2) (hm : vm = 3 - vo) : dch e1 e2 e3 e4 e5 e6 vm vo = if dch e1 e2 e3 e4 e5 e6 vo vm = 0 then 0 else 3 - dch e1 e2 e3 e4 e5 e6 vo vm := by
  unfold dch
  cases e1 <;> cases e2 <;> cases e3 <;> cases e4 <;> cases e5 <;> cases e6 <;> simp <;> split <;> omega
section
variable {W H T T' : Nat} {C C' : ByteArray} {s : Nat → Nat} {ex ey : Int}
theorem Sym.dec (h : Sym W H T T' C C' s ex ey) (h' : Sym W H T' T C' C s ex ey) (hm : Ply W H C C' s T T') (ho : Ply W H C C' s (1 - T) (1 - T')) (hW : 1 ≤ W) (hH : 1 ≤ H) (hC : C.size = W * H) (hC' : C'.size = W * H) (hv : ∀ c, c < W * H → cellB (cellN C c : Nat) = true ∧ cellN C c < 256) (hv' : ∀ c, c < W * H → cellB (cellN C' c : Nat) = true ∧ cellN C' c < 256)
    {lo re : Nat} {li : Int} (hlo8 : lo < 256) (hre8 : re < 256) (hloc : lo ≠ 0 → capB (lo : Int) = true) (hrec : re ≠ 0 → capB (re : Int) = true) (hli : li = 0 ∨ (2 ≤ li ∧ li ≤ 8)) :
    decO W H T' C' lo li re = dch (decide (lo ≠ 0) && !hasN C.data.toList (letN T lo)) (decide (lo ≠ 0) && !hasN C.data.toList (letN (1 - T) lo)) (decide (li ≠ 0) && hasLineB W H (1 - T) C li) (decide (li ≠ 0) && hasLineB W H T C li) (decide (re ≠ 0) && hasN (lastR W (1 - T) C) (letN (1 - T) re)) (decide (re ≠ 0) && hasN (lastR W T C) (letN T re)) (wonI (1 - (T' : Int))) (wonI T') := by
  rw [decO_ch]
  have a1 : (decide (lo ≠ 0) && !hasN C'.data.toList (letN T' lo)) = (decide (lo ≠ 0) && !hasN C.data.toList (letN T lo)) := by
    by_cases q : lo = 0
    · simp [q]
    · rw [h.has hm hC hC' hlo8 (hloc q)]
  have a2 : (decide (lo ≠ 0) && !hasN C'.data.toList (letN (1 - T') lo)) = (decide (lo ≠ 0) && !hasN C.data.toList (letN (1 - T) lo)) := by
    by_cases q : lo = 0
    · simp [q]
    · rw [h.has ho hC hC' hlo8 (hloc q)]
  have ln : ∀ {P P' : Nat}, Ply W H C C' s P P' → (decide (li ≠ 0) && hasLineB W H P' C' li) = (decide (li ≠ 0) && hasLineB W H P C li) := fun hp => by
    by_cases q : li = 0
    · simp [q]
    · obtain ⟨l, rfl⟩ : ∃ l : Nat, li = l := ⟨li.toNat, by omega⟩
      rw [h.lineEq h' hp hW (by omega) hv hv']
  have a5 : (decide (re ≠ 0) && hasN (lastR W (1 - T') C') (letN (1 - T') re)) = (decide (re ≠ 0) && hasN (lastR W (1 - T) C) (letN (1 - T) re)) := by
    by_cases q : re = 0
    · simp [q]
    · rw [h.last ho hW hH hC hC' hre8 (hrec q)]
  have a6 : (decide (re ≠ 0) && hasN (lastR W T' C') (letN T' re)) = (decide (re ≠ 0) && hasN (lastR W T C) (letN T re)) := by
    by_cases q : re = 0
    · simp [q]
    · rw [h.last hm hW hH hC hC' hre8 (hrec q)]
  rw [a1, a2, ln ho, ln hm, a5, a6]
/-- What is said of the other board: the same, of the same player. -/
def oth3 (T T' : Nat) (o : Int) : Int := if T' = T then o else if o = 1 ∨ o = 2 then 3 - o else o
theorem Sym.decEq (h : Sym W H T T' C C' s ex ey) (h' : Sym W H T' T C' C s ex ey) (hm : Ply W H C C' s T T') (ho : Ply W H C C' s (1 - T) (1 - T')) (hW : 1 ≤ W) (hH : 1 ≤ H) (hC : C.size = W * H) (hC' : C'.size = W * H) (hv : ∀ c, c < W * H → cellB (cellN C c : Nat) = true ∧ cellN C c < 256) (hv' : ∀ c, c < W * H → cellB (cellN C' c : Nat) = true ∧ cellN C' c < 256)
    {lo re : Nat} {li : Int} (hlo8 : lo < 256) (hre8 : re < 256) (hloc : lo ≠ 0 → capB (lo : Int) = true) (hrec : re ≠ 0 → capB (re : Int) = true) (hli : li = 0 ∨ (2 ≤ li ∧ li ≤ 8)) :
    decO W H T' C' lo li re = oth3 T T' (decO W H T C lo li re) ∧ (decO W H T' C' lo li re = 0 ↔ decO W H T C lo li re = 0) ∧ (decO W H T C lo li re = 0 ∨ decO W H T C lo li re = 1 ∨ decO W H T C lo li re = 2) := by
  rw [h.dec h' hm ho hW hH hC hC' hv hv' hlo8 hre8 hloc hrec hli, decO_ch W H T C]
  generalize (decide (lo ≠ 0) && !hasN C.data.toList (letN T lo)) = e1
  generalize (decide (lo ≠ 0) && !hasN C.data.toList (letN (1 - T) lo)) = e2
  generalize (decide (li ≠ 0) && hasLineB W H (1 - T) C li) = e3
  generalize (decide (li ≠ 0) && hasLineB W H T C li) = e4
  generalize (decide (re ≠ 0) && hasN (lastR W (1 - T) C) (letN (1 - T) re)) = e5
  generalize (decide (re ≠ 0) && hasN (lastR W T C) (letN T re)) = e6
  have hT := hm.le
  have hT' := hm.le'
  have ho1 := wonI_ne (1 - (T : Int))
  have hwo : wonI (T : Int) = 3 - wonI (1 - (T : Int)) := by unfold wonI; split <;> split <;> omega
  have h012 : dch e1 e2 e3 e4 e5 e6 (wonI (1 - (T : Int))) (wonI T) = 0 ∨ dch e1 e2 e3 e4 e5 e6 (wonI (1 - (T : Int))) (wonI T) = 1 ∨ dch e1 e2 e3 e4 e5 e6 (wonI (1 - (T : Int))) (wonI T) = 2 := by
    rw [hwo]
    generalize wonI (1 - (T : Int)) = vo at *
    unfold dch
    cases e1 <;> cases e2 <;> cases e3 <;> cases e4 <;> cases e5 <;> cases e6 <;> simp <;> omega
  by_cases he : T' = T
  · subst he
    unfold oth3
    rw [if_pos rfl]
    exact ⟨rfl, Iff.rfl, h012⟩
  · have e1' : wonI (1 - (T' : Int)) = wonI (T : Int) := by
      have : (1 : Int) - (T' : Int) = (T : Int) := by omega
      rw [this]
    have e2' : wonI (T' : Int) = wonI (1 - (T : Int)) := by
      have : (T' : Int) = 1 - (T : Int) := by omega
      rw [this]
    rw [e1', e2', dch_swap _ _ _ _ _ _ _ _ ho1 hwo]
    unfold oth3
    rw [if_neg he]
    generalize dch e1 e2 e3 e4 e5 e6 (wonI (1 - (T : Int))) (wonI T) = o at *
    refine ⟨?_, ?_, h012⟩
    · split <;> split <;> omega
    · split <;> omega
theorem Sym.out (h : Sym W H T T' C C' s ex ey) (h' : Sym W H T' T C' C s ex ey) (hm : Ply W H C C' s T T') (ho : Ply W H C C' s (1 - T) (1 - T')) (hW : 1 ≤ W) (hH : 1 ≤ H) (hC : C.size = W * H) (hC' : C'.size = W * H) (hv : ∀ c, c < W * H → cellB (cellN C c : Nat) = true ∧ cellN C c < 256) (hv' : ∀ c, c < W * H → cellB (cellN C' c : Nat) = true ∧ cellN C' c < 256)
    {lo re : Nat} {li : Int} (hlo8 : lo < 256) (hre8 : re < 256) (hloc : lo ≠ 0 → capB (lo : Int) = true) (hrec : re ≠ 0 → capB (re : Int) = true) (hli : li = 0 ∨ (2 ≤ li ∧ li ≤ 8)) {A B A' B' : ByteArray} {ps : List Pc} {dr st : Bool} (hok : ∀ p ∈ ps, ∀ z ∈ p.ws, z.ok = true) (hh : handOf T' A' B' = handOf T A B) :
    outO W H T' C' A' B' ps dr st lo li re = oth3 T T' (outO W H T C A B ps dr st lo li re) ∧ (movesL W H T' C' A' B' ps dr lo li re).length = (movesL W H T C A B ps dr lo li re).length ∧ ∀ m ∈ movesL W H T C A B ps dr lo li re, mvS s m ∈ movesL W H T' C' A' B' ps dr lo li re := by
  obtain ⟨d1, d2, d3⟩ := h.decEq h' hm ho hW hH hC hC' hv hv' hlo8 hre8 hloc hrec hli
  have hpl := h.possLen h' (A := A) (B := B) (A' := A') (B' := B') (dr := dr) hok hW hC hC' hh
  have hT := hm.le
  have hT' := hm.le'
  unfold outO movesL
  by_cases h0 : decO W H T C lo li re = 0
  · rw [if_pos h0, if_pos h0, if_pos (d2.2 h0), if_pos (d2.2 h0), hpl]
    refine ⟨?_, rfl, fun m hmm => h.possMem h' hok hW hC hC' hh hmm⟩
    by_cases hl : (possL W H T C A B ps dr).length = 0
    · rw [if_pos hl, if_pos hl]
      unfold oth3
      cases st
      · simp only [Bool.false_eq_true, if_false]
        split <;> simp
      · simp only [if_true]
        have w1 : wonI (1 - (T : Int)) = 2 - (T : Int) := by unfold wonI; split <;> omega
        have w2 : wonI (1 - (T' : Int)) = 2 - (T' : Int) := by unfold wonI; split <;> omega
        rw [w1, w2]
        split
        · omega
        · rw [if_pos (by omega)]; omega
    · rw [if_neg hl, if_neg hl]
      unfold oth3
      split <;> simp
  · have h0' : ¬ decO W H T' C' lo li re = 0 := fun q => h0 (d2.1 q)
    rw [if_neg h0, if_neg h0, if_neg h0', if_neg h0']
    exact ⟨d1, rfl, fun m hmm => by cases hmm⟩
end
end Go.Proofs.YtihojhfpepbjhaaGreatDoor

namespace Go.Proofs.YtihojhfpepbjhaaGreatDoor
open Go.RowKit

end Go.Proofs.YtihojhfpepbjhaaGreatDoor

namespace Go.Proofs.YtihojhfpepbjhaaGreatDoor

end Go.Proofs.YtihojhfpepbjhaaGreatDoor

namespace Go.Proofs.YtihojhfpepbjhaaGreatDoor

theorem at_isPos {W0 H0 T0 : Int} {C0 A0 B0 : List UInt8} {ps : List Pc} {lo re : Nat} {li pl W H T : Int} {C A B : ByteArray} (h : atB W0 H0 C0 T0 A0 B0 ps lo li re pl W H C.data.toList T A.data.toList B.data.toList = true) {W' H' T' : Nat} (hf : AtF ps W H T C A B W' H' T') : IsPos W' H' C T' A B := by
  unfold atB posB at h
  simp only [Bool.and_eq_true] at h
  obtain ⟨⟨⟨⟨-, ⟨⟨⟨⟨-, -⟩, -, hcs⟩, -⟩, hA⟩, hB⟩, -⟩, -⟩, -⟩ := h
  exact ⟨hf.w1.1, hf.w1.2, hf.h1.1, hf.h1.2, hf.c, hcs, by have := hf.t1; omega, hA, hB⟩
end Go.Proofs.YtihojhfpepbjhaaGreatDoor
