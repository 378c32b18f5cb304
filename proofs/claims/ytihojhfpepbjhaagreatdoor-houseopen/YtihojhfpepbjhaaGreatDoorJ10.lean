/-
  Plain mathematics: the cells of rays, the sets of goals bit by bit, and whether a way leads from one cell to another one, as the document asks it.
  Plain mathematics: there are moves just where the player has something to drop and room for it, or a piece with a goal.
-/
import Derived.Test.YtihojhfpepbjhaaGreatDoorJ4
import Derived.Test.YtihojhfpepbjhaaGreatDoorV14
import Derived.Lib.IndexLaws
namespace Go.Proofs.YtihojhfpepbjhaaGreatDoor

/-- The i-th cell of a ray. -/
def ptN (W : Nat) (dx dy x y : Int) (i : Nat) : Nat := ((y + (i : Int) * dy) * W + (x + (i : Int) * dx)).toNat
/-- Is it on the board? -/
def inP (W H : Nat) (dx dy x y : Int) (i : Nat) : Prop := 0 ≤ x + (i : Int) * dx ∧ x + (i : Int) * dx < W ∧ 0 ≤ y + (i : Int) * dy ∧ y + (i : Int) * dy < H
theorem step_mul (x d : Int) (i : Nat) : x + d + (i : Int) * d = x + ((i + 1 : Nat) : Int) * d := by rw [Int.natCast_add, Int.add_mul, Int.natCast_one, Int.one_mul]; omega
theorem one_mulI (x d : Int) : x + ((1 : Nat) : Int) * d = x + d := by simp
theorem ptN_succ (W : Nat) (dx dy x y : Int) (i : Nat) : ptN W dx dy (x + dx) (y + dy) i = ptN W dx dy x y (i + 1) := by unfold ptN; rw [step_mul, step_mul]
theorem inP_succ (W H : Nat) (dx dy x y : Int) (i : Nat) : inP W H dx dy (x + dx) (y + dy) i ↔ inP W H dx dy x y (i + 1) := by unfold inP; rw [step_mul, step_mul]
theorem ptN_one (W : Nat) (dx dy x y : Int) : ptN W dx dy x y 1 = ((y + dy) * W + (x + dx)).toNat := by unfold ptN; rw [one_mulI, one_mulI]
theorem inP_one (W H : Nat) (dx dy x y : Int) : inP W H dx dy x y 1 ↔ (0 ≤ x + dx ∧ x + dx < W ∧ 0 ≤ y + dy ∧ y + dy < H) := by unfold inP; rw [one_mulI, one_mulI]
theorem mem_rayL (W H : Nat) (on : Nat → Bool) (dx dy : Int) (c : Nat) : ∀ (f : Nat) (x y : Int), c ∈ rayL W H on dx dy f x y ↔
    ∃ j, 1 ≤ j ∧ j ≤ f ∧ c = ptN W dx dy x y j ∧ (∀ i, 1 ≤ i → i ≤ j → inP W H dx dy x y i) ∧ (∀ i, 1 ≤ i → i < j → on (ptN W dx dy x y i) = true)
  | 0, x, y => by
    rw [rayL]
    constructor
    · intro h; cases h
    · rintro ⟨j, h1, h2, -⟩; omega
  | f + 1, x, y => by
    rw [rayL]
    have ih := mem_rayL W H on dx dy c f (x + dx) (y + dy)
    by_cases hin : 0 ≤ x + dx ∧ x + dx < W ∧ 0 ≤ y + dy ∧ y + dy < H
    · rw [if_pos hin, ← ptN_one]
      have hin1 := (inP_one W H dx dy x y).2 hin
      by_cases hon : on (ptN W dx dy x y 1) = true
      · rw [if_pos hon, List.mem_cons, ih]
        constructor
        · rintro (h | ⟨j, h1, h2, h3, h4, h5⟩)
          · exact ⟨1, by omega, by omega, h, fun i a b => by rw [show i = 1 by omega]; exact hin1, fun i a b => by omega⟩
          · refine ⟨j + 1, by omega, by omega, by rw [← ptN_succ]; exact h3, ?_, ?_⟩
            · intro i a b
              by_cases hi : i = 1
              · rw [hi]; exact hin1
              · obtain ⟨k, rfl⟩ : ∃ k, i = k + 1 := ⟨i - 1, by omega⟩
                exact (inP_succ ..).1 (h4 k (by omega) (by omega))
            · intro i a b
              by_cases hi : i = 1
              · rw [hi]; exact hon
              · obtain ⟨k, rfl⟩ : ∃ k, i = k + 1 := ⟨i - 1, by omega⟩
                rw [← ptN_succ]; exact h5 k (by omega) (by omega)
        · rintro ⟨j, h1, h2, h3, h4, h5⟩
          by_cases hj : j = 1
          · left; rw [h3, hj]
          · right
            obtain ⟨k, rfl⟩ : ∃ k, j = k + 1 := ⟨j - 1, by omega⟩
            refine ⟨k, by omega, by omega, by rw [ptN_succ]; exact h3, ?_, ?_⟩
            · intro i a b; exact (inP_succ ..).2 (h4 (i + 1) (by omega) (by omega))
            · intro i a b; rw [ptN_succ]; exact h5 (i + 1) (by omega) (by omega)
      · rw [if_neg hon, List.mem_singleton]
        constructor
        · intro h
          exact ⟨1, by omega, by omega, h, fun i a b => by rw [show i = 1 by omega]; exact hin1, fun i a b => by omega⟩
        · rintro ⟨j, h1, h2, h3, h4, h5⟩
          by_cases hj : j = 1
          · rw [h3, hj]
          · exact absurd (h5 1 (by omega) (by omega)) hon
    · rw [if_neg hin]
      constructor
      · intro h; cases h
      · rintro ⟨j, h1, h2, h3, h4, h5⟩
        exact absurd ((inP_one W H dx dy x y).1 (h4 1 (by omega) h1)) hin
theorem goalN_bit (t : Int) (T : Nat) (C : ByteArray) (G c d : Nat) : (goalN t T C G c).testBit d = (G.testBit d || (decide (d = c) && entB t T (cellN C d))) := by
  unfold goalN
  by_cases hd : d = c
  · subst hd
    split <;> rename_i h <;> simp [h, Nat.testBit_or]
  · have : ¬ c = d := fun e => hd e.symm
    split <;> simp [hd, this, Nat.testBit_or]
theorem fold_bit (t : Int) (T : Nat) (C : ByteArray) (d : Nat) : ∀ (l : List Nat) (G : Nat), (l.foldl (goalN t T C) G).testBit d = (G.testBit d || (decide (d ∈ l) && entB t T (cellN C d)))
  | [], G => by simp
  | c :: l, G => by
    rw [List.foldl_cons, fold_bit t T C d l, goalN_bit, Bool.eq_iff_iff]
    simp only [Bool.or_eq_true, Bool.and_eq_true, decide_eq_true_eq, List.mem_cons]
    constructor
    · rintro ((h | ⟨h, h'⟩) | ⟨h, h'⟩)
      · exact .inl h
      · exact .inr ⟨.inl h, h'⟩
      · exact .inr ⟨.inr h, h'⟩
    · rintro (h | ⟨h | h, h'⟩)
      · exact .inl (.inl h)
      · exact .inl (.inr ⟨h, h'⟩)
      · exact .inr ⟨h, h'⟩
/-- The cells that a step of a way comes to. -/
def rayC (W H : Nat) (k : Int) (C : ByteArray) (from_ : Nat) (d : Int × Int) : List Nat := rayL W H (fun c => decide (k = 2) && decide (cellN C c = 46)) d.1 d.2 8 ((from_ % W : Nat) : Int) ((from_ / W : Nat) : Int)
theorem stepsG_bit (W H T : Nat) (C : ByteArray) (from_ : Nat) (z : Wy) (c : Nat) : ∀ (ds : List (Int × Int)) (G : Nat), (stepsG W H T C from_ z G ds).testBit c = true ↔ (G.testBit c = true ∨ (entB z.t T (cellN C c) = true ∧ ∃ d ∈ ds, c ∈ rayC W H z.k C from_ d))
  | [], G => by simp [stepsG]
  | d :: ds, G => by
    have ih := stepsG_bit W H T C from_ z c ds (rayG W H z.k z.t T C from_ d.1 d.2 G)
    have e : stepsG W H T C from_ z G (d :: ds) = stepsG W H T C from_ z (rayG W H z.k z.t T C from_ d.1 d.2 G) ds := rfl
    rw [e, ih]
    unfold rayG
    rw [fold_bit]
    simp only [Bool.or_eq_true, Bool.and_eq_true, decide_eq_true_eq, List.mem_cons]
    constructor
    · rintro ((h | ⟨h, h'⟩) | ⟨h, d', h1, h2⟩)
      · exact .inl h
      · exact .inr ⟨h', d, .inl rfl, h⟩
      · exact .inr ⟨h, d', .inr h1, h2⟩
    · rintro (h | ⟨h, d', rfl | h1, h2⟩)
      · exact .inl (.inl h)
      · exact .inl (.inr ⟨h2, h⟩)
      · exact .inr ⟨h, d', h1, h2⟩
/-- Does a way lead from a cell to another one, whatever stands there? -/
def wayTo (W H T : Nat) (C : ByteArray) (from_ c : Nat) (z : Wy) : Prop := ∃ d ∈ stepsL z.k z.x z.y T, c ∈ rayC W H z.k C from_ d
theorem goals_bit' (W H T : Nat) (C : ByteArray) (from_ c : Nat) : ∀ (ws : List Wy) (G : Nat), (ws.foldl (wayG W H T C from_) G).testBit c = true ↔ (G.testBit c = true ∨ ∃ z ∈ ws, entB z.t T (cellN C c) = true ∧ wayTo W H T C from_ c z)
  | [], G => by simp
  | z :: ws, G => by
    rw [List.foldl_cons, goals_bit' W H T C from_ c ws]
    unfold wayG
    rw [stepsG_bit]
    unfold wayTo
    simp only [List.mem_cons]
    constructor
    · rintro ((h | h) | ⟨z', h1, h2⟩)
      · exact .inl h
      · exact .inr ⟨z, .inl rfl, h⟩
      · exact .inr ⟨z', .inr h1, h2⟩
    · rintro (h | ⟨z', rfl | h1, h2⟩)
      · exact .inl (.inl h)
      · exact .inl (.inr h2)
      · exact .inr ⟨z', h1, h2⟩
theorem goals_bit (W H T : Nat) (C : ByteArray) (from_ c : Nat) (ws : List Wy) : (goalsG W H T C from_ ws).testBit c = true ↔ ∃ z ∈ ws, entB z.t T (cellN C c) = true ∧ wayTo W H T C from_ c z := by
  unfold goalsG; rw [goals_bit']; simp
theorem goals_small {W H T : Nat} {C : ByteArray} {from_ c : Nat} {ws : List Wy} (h : (goalsG W H T C from_ ws).testBit c = true) : c < W * H := by
  obtain ⟨z, -, -, d, -, h⟩ := (goals_bit W H T C from_ c ws).1 h
  exact rayL_lt _ _ _ _ h
/-- The cell that the document's answer looks at. -/
def midN (W from_ : Nat) (dx dy : Int) (k i : Nat) : Nat := ((from_ : Int) + dx.tdiv k * i + dy.tdiv k * i * W).toNat
/-- Are the first n - 1 cells between free? -/
def freeB (W : Nat) (C : ByteArray) (from_ : Nat) (dx dy : Int) (k n : Nat) : Bool := (List.range' 1 (n - 1)).all fun i => decide (cellN C (midN W from_ dx dy k i) = 46)
def dxI (W from_ to : Nat) : Int := ((to % W : Nat) : Int) - ((from_ % W : Nat) : Int)
def dyI (W from_ to : Nat) : Int := ((to / W : Nat) : Int) - ((from_ / W : Nat) : Int)
theorem free_iff (W : Nat) (C : ByteArray) (from_ : Nat) (dx dy : Int) (k n : Nat) : freeB W C from_ dx dy k n = true ↔ ∀ i, 1 ≤ i → i < n → cellN C (midN W from_ dx dy k i) = 46 := by
  simp only [freeB, List.all_eq_true, decide_eq_true_eq, List.mem_range'_1]
  constructor
  · intro h i a b; exact h i ⟨a, by omega⟩
  · rintro h i ⟨a, b⟩; exact h i a (by omega)
/-- The cell between is the ray's. -/
theorem mid_pt (W from_ : Nat) (dx dy d1 d2 : Int) (k i : Nat) (hk : 1 ≤ k) (h1 : dx = (k : Int) * d1) (h2 : dy = (k : Int) * d2) : midN W from_ dx dy k i = ptN W d1 d2 ((from_ % W : Nat) : Int) ((from_ / W : Nat) : Int) i := by
  unfold midN ptN
  have hk0 : (k : Int) ≠ 0 := by omega
  rw [h1, h2, Int.mul_tdiv_cancel_left _ hk0, Int.mul_tdiv_cancel_left _ hk0]
  congr 1
  have hf : (from_ : Int) = ((from_ / W : Nat) : Int) * W + ((from_ % W : Nat) : Int) := by
    have := Nat.div_add_mod from_ W
    rw [Nat.mul_comm] at this
    rw [← Int.natCast_mul, ← Int.natCast_add, this]
  rw [Int.add_mul]
  have a1 : d1 * (i : Int) = (i : Int) * d1 := Int.mul_comm _ _
  have a2 : d2 * (i : Int) = (i : Int) * d2 := Int.mul_comm _ _
  rw [a1, a2]
  omega
/-- A cell's place. -/
theorem pt_at {W H : Nat} {d1 d2 : Int} {from_ c : Nat} {j : Nat} (hW : 1 ≤ W) (hin : inP W H d1 d2 ((from_ % W : Nat) : Int) ((from_ / W : Nat) : Int) j) (hc : c = ptN W d1 d2 ((from_ % W : Nat) : Int) ((from_ / W : Nat) : Int) j) :
    dxI W from_ c = (j : Int) * d1 ∧ dyI W from_ c = (j : Int) * d2 := by
  unfold inP at hin
  unfold ptN at hc
  unfold dxI dyI
  generalize hX : ((from_ % W : Nat) : Int) + (j : Int) * d1 = X at *
  generalize hY : ((from_ / W : Nat) : Int) + (j : Int) * d2 = Y at *
  obtain ⟨X', rfl⟩ : ∃ X' : Nat, X = X' := ⟨X.toNat, by omega⟩
  obtain ⟨Y', rfl⟩ : ∃ Y' : Nat, Y = Y' := ⟨Y.toNat, by omega⟩
  have hc' : c = Y' * W + X' := by
    have : (Y' : Int) * W + X' = ((Y' * W + X' : Nat) : Int) := by simp
    rw [this] at hc; exact hc
  have hm : c % W = X' := by rw [hc', Nat.mul_comm, Nat.mul_add_mod]; exact Nat.mod_eq_of_lt (by omega)
  have hd : c / W = Y' := by
    rw [hc', Nat.mul_comm, Nat.mul_add_div (by omega)]
    rw [Nat.div_eq_of_lt (by omega)]; rfl
  rw [hm, hd]
  omega
theorem ok_of {z : Wy} (h : z.ok = true) : 0 ≤ z.x ∧ z.x ≤ 7 ∧ 0 ≤ z.y ∧ z.y ≤ 7 ∧ ¬ (z.x = 0 ∧ z.y = 0) ∧ (z.k = 1 ∨ z.k = 2 ∨ z.k = 3) := by
  unfold Wy.ok inB at h
  simp only [Bool.and_eq_true, Bool.or_eq_true, Bool.not_eq_true', Bool.and_eq_false_iff, decide_eq_true_eq, decide_eq_false_iff_not] at h
  omega
/-- What lies between two cells of the board lies on it. -/
theorem between {W H : Nat} {d1 d2 : Int} {from_ c : Nat} {i j : Nat} (hW : 1 ≤ W) (hf : from_ < W * H) (hc : c < W * H) (h1 : dxI W from_ c = (j : Int) * d1) (h2 : dyI W from_ c = (j : Int) * d2) (hi : i ≤ j) : inP W H d1 d2 ((from_ % W : Nat) : Int) ((from_ / W : Nat) : Int) i := by
  unfold dxI at h1
  unfold dyI at h2
  have a1 : from_ % W < W := Nat.mod_lt _ hW
  have a2 : c % W < W := Nat.mod_lt _ hW
  have a3 : from_ / W < H := Nat.div_lt_of_lt_mul hf
  have a4 : c / W < H := Nat.div_lt_of_lt_mul hc
  have key : ∀ d : Int, (0 ≤ d → 0 ≤ (i : Int) * d ∧ (i : Int) * d ≤ (j : Int) * d) ∧ (d ≤ 0 → (i : Int) * d ≤ 0 ∧ (j : Int) * d ≤ (i : Int) * d) := by
    intro d
    constructor
    · intro h; exact ⟨Int.mul_nonneg (by omega) h, Int.mul_le_mul_of_nonneg_right (by omega) h⟩
    · intro h
      have q1 := Int.mul_nonneg (show (0 : Int) ≤ i by omega) (show 0 ≤ -d by omega)
      have q2 := Int.mul_le_mul_of_nonneg_right (show (i : Int) ≤ j by omega) (show 0 ≤ -d by omega)
      rw [Int.mul_neg] at q1 q2
      rw [Int.mul_neg] at q2
      omega
  have k1 := key d1
  have k2 := key d2
  unfold inP
  generalize (i : Int) * d1 = p1 at *
  generalize (j : Int) * d1 = p2 at *
  generalize (i : Int) * d2 = p3 at *
  generalize (j : Int) * d2 = p4 at *
  generalize from_ % W = q1 at *
  generalize from_ / W = q2 at *
  generalize c % W = q3 at *
  generalize c / W = q4 at *
  omega
theorem pt_of {W : Nat} {d1 d2 : Int} {from_ c : Nat} {j : Nat} (h1 : dxI W from_ c = (j : Int) * d1) (h2 : dyI W from_ c = (j : Int) * d2) : c = ptN W d1 d2 ((from_ % W : Nat) : Int) ((from_ / W : Nat) : Int) j := by
  unfold dxI at h1
  unfold dyI at h2
  unfold ptN
  rw [show ((from_ / W : Nat) : Int) + (j : Int) * d2 = ((c / W : Nat) : Int) by omega, show ((from_ % W : Nat) : Int) + (j : Int) * d1 = ((c % W : Nat) : Int) by omega]
  have hf : ((c / W : Nat) : Int) * W + ((c % W : Nat) : Int) = (c : Int) := by
    have := Nat.div_add_mod c W
    rw [Nat.mul_comm] at this
    rw [← Int.natCast_mul, ← Int.natCast_add, this]
  rw [hf]; rfl
/-- A ray's cells, by their distance. -/
theorem ray_iff {W H : Nat} {k : Int} {C : ByteArray} {from_ c : Nat} {d : Int × Int} (hW : 1 ≤ W) (hf : from_ < W * H) (hc : c < W * H) : c ∈ rayC W H k C from_ d ↔
    ∃ j : Nat, 1 ≤ j ∧ j ≤ 8 ∧ dxI W from_ c = (j : Int) * d.1 ∧ dyI W from_ c = (j : Int) * d.2 ∧ (j = 1 ∨ k = 2) ∧ freeB W C from_ (dxI W from_ c) (dyI W from_ c) j j = true := by
  unfold rayC
  rw [mem_rayL]
  constructor
  · rintro ⟨j, h1, h2, h3, h4, h5⟩
    obtain ⟨e1, e2⟩ := pt_at hW (h4 j h1 (Nat.le_refl _)) h3
    refine ⟨j, h1, h2, e1, e2, ?_, ?_⟩
    · by_cases hj : j = 1
      · exact .inl hj
      · have := h5 1 (by omega) (by omega)
        simp only [Bool.and_eq_true, decide_eq_true_eq] at this
        exact .inr this.1
    · rw [free_iff]
      intro i a b
      rw [mid_pt W from_ _ _ d.1 d.2 j i h1 e1 e2]
      have := h5 i a b
      simp only [Bool.and_eq_true, decide_eq_true_eq] at this
      exact this.2
  · rintro ⟨j, h1, h2, e1, e2, h3, h4⟩
    rw [free_iff] at h4
    refine ⟨j, h1, h2, pt_of e1 e2, fun i a b => between hW hf hc e1 e2 b, fun i a b => ?_⟩
    have := h4 i a b
    rw [mid_pt W from_ _ _ d.1 d.2 j i h1 e1 e2] at this
    simp only [Bool.and_eq_true, decide_eq_true_eq]
    exact ⟨by omega, this⟩
end Go.Proofs.YtihojhfpepbjhaaGreatDoor

namespace Go.Proofs.YtihojhfpepbjhaaGreatDoor

theorem index_mem (l : List UInt8) (c : UInt8) : 0 ≤ Lib.indexByte l c ↔ c ∈ l := by
  have hge := Lib.indexByte_ge l c
  constructor
  · intro h
    obtain ⟨o, ho⟩ : ∃ o : Nat, Lib.indexByte l c = o := ⟨(Lib.indexByte l c).toNat, by omega⟩
    exact List.mem_of_getElem? (Lib.indexByte_some ho).1
  · intro h
    by_cases h1 : Lib.indexByte l c = -1
    · obtain ⟨k, hk⟩ := List.getElem?_of_mem h
      exact absurd hk (Lib.indexByte_none h1 k)
    · omega
theorem cellN_list (C : ByteArray) (i : Nat) (h : i < C.size) : C.data.toList[i]? = some (C.get! i) ∧ cellN C i = (C.get! i).toNat := by
  refine ⟨?_, rfl⟩
  have hs : i < C.data.toList.length := by simpa using h
  rw [List.getElem?_eq_getElem hs]
  congr 1
  show C.data.toList[i] = C.data[i]!
  rw [getElem!_pos C.data i (by simpa using h)]
  simp
theorem has_empty (C : ByteArray) : hasN C.data.toList 46 = true ↔ ∃ i, i < C.size ∧ cellN C i = 46 := by
  unfold hasN
  rw [decide_eq_true_eq, index_mem]
  constructor
  · intro h
    obtain ⟨i, hi⟩ := List.getElem?_of_mem h
    have hl : i < C.size := by
      have := (List.getElem?_eq_some_iff.1 hi).1
      simpa using this
    refine ⟨i, hl, ?_⟩
    obtain ⟨q1, q2⟩ := cellN_list C i hl
    rw [q1] at hi
    rw [q2, Option.some.inj hi]; rfl
  · rintro ⟨i, hi, h⟩
    obtain ⟨q1, q2⟩ := cellN_list C i hi
    have : C.get! i = (46 : Nat).toUInt8 := by
      rw [q2] at h
      exact UInt8.toNat_inj.1 (by rw [h]; rfl)
    rw [this] at q1
    exact List.mem_of_getElem? q1
theorem cpt_ne (d : List UInt8) (m : Nat) : cptN d m = [] ↔ m = 0 := by
  constructor
  · intro h
    unfold cptN at h
    rw [List.map_eq_nil_iff, List.filter_eq_nil_iff] at h
    by_cases hm : m = 0
    · exact hm
    · exact absurd (show newB d 0 = true by simp [newB]) (h 0 (List.mem_range.2 (by omega)))
  · intro h; subst h; rfl
/-- Can the player move? -/
def goB (W H T : Nat) (C : ByteArray) (ps : List Pc) (fr : Nat) : Bool := ownB T (cellN C fr) && decide (goalsG W H T C fr (waysP (upN (cellN C fr)) ps) ≠ 0)
def dropB (T : Nat) (C A B : ByteArray) (dr : Bool) : Bool := dr && decide ((handOf T A B).size ≠ 0) && hasN C.data.toList 46
def canB (W H T : Nat) (C A B : ByteArray) (ps : List Pc) (dr : Bool) : Bool := dropB T C A B dr || (List.range C.size).any (goB W H T C ps)
theorem goes_nil (W H T : Nat) (C : ByteArray) (ps : List Pc) (fr : Nat) (hC : C.size = W * H) : goesAt W H T C ps fr = [] ↔ goB W H T C ps fr = false := by
  unfold goesAt goB
  cases ownB T (cellN C fr) with
  | false => simp
  | true =>
    simp only [if_true, Bool.true_and, decide_eq_false_iff_not, Decidable.not_not]
    generalize hS : goalsG W H T C fr (waysP (upN (cellN C fr)) ps) = S
    have hsm : ∀ c, S.testBit c = true → c < C.size := fun c h => by rw [hC]; rw [← hS] at h; exact goals_small h
    unfold goTo
    rw [List.map_eq_nil_iff, List.filter_eq_nil_iff]
    constructor
    · intro h
      refine Nat.eq_of_testBit_eq fun i => ?_
      rw [Nat.zero_testBit]
      cases hb : S.testBit i with
      | false => rfl
      | true => exact absurd hb (h i (List.mem_range.2 (hsm i hb)))
    · intro h i _; rw [h, Nat.zero_testBit]; simp
theorem can_len (W H T : Nat) (C A B : ByteArray) (ps : List Pc) (dr : Bool) (hC : C.size = W * H) : canB W H T C A B ps dr = decide ((possL W H T C A B ps dr).length ≠ 0) := by
  have h1 : goesTo W H T C ps C.size = [] ↔ (List.range C.size).any (goB W H T C ps) = false := by
    unfold goesTo
    rw [List.flatMap_eq_nil_iff, List.any_eq_false]
    constructor
    · intro h x hx; rw [(goes_nil W H T C ps x hC).1 (h x hx)]; simp
    · intro h x hx; exact (goes_nil W H T C ps x hC).2 (by simpa using h x hx)
  have h2 : (if dr then dropsTo C (cptN (handOf T A B).data.toList (handOf T A B).size) C.size else []) = [] ↔ dropB T C A B dr = false := by
    unfold dropB
    cases dr with
    | false => simp
    | true =>
      simp only [if_true, Bool.true_and]
      unfold dropsTo
      rw [List.flatMap_eq_nil_iff]
      constructor
      · intro h
        cases hb : (decide ((handOf T A B).size ≠ 0) && hasN C.data.toList 46) with
        | false => rfl
        | true =>
          rw [Bool.and_eq_true, decide_eq_true_eq, has_empty] at hb
          obtain ⟨hn, i, hi, hc⟩ := hb
          have := h i (List.mem_range.2 hi)
          unfold dropAt at this
          rw [if_pos hc, List.map_eq_nil_iff, cpt_ne] at this
          exact absurd this hn
      · intro h x hx
        unfold dropAt
        split
        · rename_i hc
          rw [List.map_eq_nil_iff, cpt_ne]
          by_cases h0 : (handOf T A B).size = 0
          · exact h0
          · have : hasN C.data.toList 46 = true := (has_empty C).2 ⟨x, List.mem_range.1 hx, hc⟩
            rw [this] at h
            simp [h0] at h
        · rfl
  have h3 : possL W H T C A B ps dr = [] ↔ canB W H T C A B ps dr = false := by
    unfold possL canB
    rw [List.append_eq_nil_iff, h1, h2, Bool.or_eq_false_iff]
  rw [Bool.eq_iff_iff, decide_eq_true_eq, Ne, List.length_eq_zero_iff, h3]
  simp
end Go.Proofs.YtihojhfpepbjhaaGreatDoor
