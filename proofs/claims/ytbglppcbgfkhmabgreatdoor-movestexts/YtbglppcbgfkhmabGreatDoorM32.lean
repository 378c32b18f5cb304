/-
  Plain mathematics: there are moves just where the player has something to drop and room for it, or a piece with a goal.
-/
import Derived.Test.YtbglppcbgfkhmabGreatDoorV14
import Derived.Test.YtbglppcbgfkhmabGreatDoorM31
import Derived.Lib.IndexLaws
namespace Go.Proofs.YtbglppcbgfkhmabGreatDoor

theorem index_mem (l : List UInt8) (c : UInt8) : 0 ≤ Lib.indexByte l c ↔ c ∈ l := by
  have hge := Lib.indexByte_ge l c
  constructor
  · intro h
    obtain ⟨o, ho⟩ : ∃ o : Nat, Lib.indexByte l c = o := ⟨(Lib.indexByte l c).toNat, by omega⟩
    exact List.mem_of_getElem? (Lib.indexByte_some ho).1
  · intro h
    by_cases h1 : Lib.indexByte l c = -1
    · obtain ⟨k, hk⟩ := List.getElem?_of_mem h
      exact absurd hk (Lib.indexByte_none h1 k)
    · omega
theorem cellN_list (C : ByteArray) (i : Nat) (h : i < C.size) : C.data.toList[i]? = some (C.get! i) ∧ cellN C i = (C.get! i).toNat := by
  refine ⟨?_, rfl⟩
  have hs : i < C.data.toList.length := by simpa using h
  rw [List.getElem?_eq_getElem hs]
  congr 1
  show C.data.toList[i] = C.data[i]!
  rw [getElem!_pos C.data i (by simpa using h)]
  simp
theorem has_empty (C : ByteArray) : hasN C.data.toList 46 = true ↔ ∃ i, i < C.size ∧ cellN C i = 46 := by
  unfold hasN
  rw [decide_eq_true_eq, index_mem]
  constructor
  · intro h
    obtain ⟨i, hi⟩ := List.getElem?_of_mem h
    have hl : i < C.size := by
      have := (List.getElem?_eq_some_iff.1 hi).1
      simpa using this
    refine ⟨i, hl, ?_⟩
    obtain ⟨q1, q2⟩ := cellN_list C i hl
    rw [q1] at hi
    rw [q2, Option.some.inj hi]; rfl
  · rintro ⟨i, hi, h⟩
    obtain ⟨q1, q2⟩ := cellN_list C i hi
    have : C.get! i = (46 : Nat).toUInt8 := by
      rw [q2] at h
      exact UInt8.toNat_inj.1 (by rw [h]; rfl)
    rw [this] at q1
    exact List.mem_of_getElem? q1
theorem cpt_ne (d : List UInt8) (m : Nat) : cptN d m = [] ↔ m = 0 := by
  constructor
  · intro h
    unfold cptN at h
    rw [List.map_eq_nil_iff, List.filter_eq_nil_iff] at h
    by_cases hm : m = 0
    · exact hm
    · exact absurd (show newB d 0 = true by simp [newB]) (h 0 (List.mem_range.2 (by omega)))
  · intro h; subst h; rfl
/-- Can the player move? -/
def goB (W H T : Nat) (C : ByteArray) (ps : List Pc) (fr : Nat) : Bool := ownB T (cellN C fr) && decide (goalsG W H T C fr (waysP (upN (cellN C fr)) ps) ≠ 0)
def dropB (T : Nat) (C A B : ByteArray) (dr : Bool) : Bool := dr && decide ((handOf T A B).size ≠ 0) && hasN C.data.toList 46
def canB (W H T : Nat) (C A B : ByteArray) (ps : List Pc) (dr : Bool) : Bool := dropB T C A B dr || (List.range C.size).any (goB W H T C ps)
theorem goes_nil (W H T : Nat) (C : ByteArray) (ps : List Pc) (fr : Nat) (hC : C.size = W * H) : goesAt W H T C ps fr = [] ↔ goB W H T C ps fr = false := by
  unfold goesAt goB
  cases ownB T (cellN C fr) with
  | false => simp
  | true =>
    simp only [if_true, Bool.true_and, decide_eq_false_iff_not, Decidable.not_not]
    generalize hS : goalsG W H T C fr (waysP (upN (cellN C fr)) ps) = S
    have hsm : ∀ c, S.testBit c = true → c < C.size := fun c h => by rw [hC]; rw [← hS] at h; exact goals_small h
    unfold goTo
    rw [List.map_eq_nil_iff, List.filter_eq_nil_iff]
    constructor
    · intro h
      refine Nat.eq_of_testBit_eq fun i => ?_
      rw [Nat.zero_testBit]
      cases hb : S.testBit i with
      | false => rfl
      | true => exact absurd hb (h i (List.mem_range.2 (hsm i hb)))
    · intro h i _; rw [h, Nat.zero_testBit]; simp
theorem can_len (W H T : Nat) (C A B : ByteArray) (ps : List Pc) (dr : Bool) (hC : C.size = W * H) : canB W H T C A B ps dr = decide ((possL W H T C A B ps dr).length ≠ 0) := by
  have h1 : goesTo W H T C ps C.size = [] ↔ (List.range C.size).any (goB W H T C ps) = false := by
    unfold goesTo
    rw [List.flatMap_eq_nil_iff, List.any_eq_false]
    constructor
    · intro h x hx; rw [(goes_nil W H T C ps x hC).1 (h x hx)]; simp
    · intro h x hx; exact (goes_nil W H T C ps x hC).2 (by simpa using h x hx)
  have h2 : (if dr then dropsTo C (cptN (handOf T A B).data.toList (handOf T A B).size) C.size else []) = [] ↔ dropB T C A B dr = false := by
    unfold dropB
    cases dr with
    | false => simp
    | true =>
      simp only [if_true, Bool.true_and]
      unfold dropsTo
      rw [List.flatMap_eq_nil_iff]
      constructor
      · intro h
        cases hb : (decide ((handOf T A B).size ≠ 0) && hasN C.data.toList 46) with
        | false => rfl
        | true =>
          rw [Bool.and_eq_true, decide_eq_true_eq, has_empty] at hb
          obtain ⟨hn, i, hi, hc⟩ := hb
          have := h i (List.mem_range.2 hi)
          unfold dropAt at this
          rw [if_pos hc, List.map_eq_nil_iff, cpt_ne] at this
          exact absurd this hn
      · intro h x hx
        unfold dropAt
        split
        · rename_i hc
          rw [List.map_eq_nil_iff, cpt_ne]
          by_cases h0 : (handOf T A B).size = 0
          · exact h0
          · have : hasN C.data.toList 46 = true := (has_empty C).2 ⟨x, List.mem_range.1 hx, hc⟩
            rw [this] at h
            simp [h0] at h
        · rfl
  have h3 : possL W H T C A B ps dr = [] ↔ canB W H T C A B ps dr = false := by
    unfold possL canB
    rw [List.append_eq_nil_iff, h1, h2, Bool.or_eq_false_iff]
  rw [Bool.eq_iff_iff, decide_eq_true_eq, Ne, List.length_eq_zero_iff, h3]
  simp
end Go.Proofs.YtbglppcbgfkhmabGreatDoor
