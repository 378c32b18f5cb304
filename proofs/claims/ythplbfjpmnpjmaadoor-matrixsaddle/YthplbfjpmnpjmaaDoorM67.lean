/-
  sets of rows and of columns as bits; cofactors by places, with their signs.
-/
import Derived.Test.YthplbfjpmnpjmaaDoorM66
namespace Go.Proofs.YthplbfjpmnpjmaaDoor.Lp
/-- The members of a set of six: its bits. -/
def mem (s : Nat) : List Nat := (List.range 6).filter fun i => s.testBit i
/-- The set of what is picked. -/
def bitsOf (p : Nat → Bool) : Nat → Nat
  | 0 => 0
  | n + 1 => bitsOf p n + if p n then 2 ^ n else 0
theorem bitsOf_lt (p : Nat → Bool) : ∀ n, bitsOf p n < 2 ^ n
  | 0 => by simp [bitsOf]
  | n + 1 => by
    have := bitsOf_lt p n
    rw [Nat.pow_succ]
    simp only [bitsOf]
    split <;> omega
theorem bitsOf_at (p : Nat → Bool) : ∀ (n i : Nat), (bitsOf p n).testBit i = (decide (i < n) && p i)
  | 0, i => by simp [bitsOf]
  | n + 1, i => by
    have hlt := bitsOf_lt p n
    simp only [bitsOf]
    by_cases hp : p n = true
    · rw [if_pos hp, Nat.add_comm]
      by_cases hi : i = n
      · subst hi
        rw [Nat.testBit_two_pow_add_eq, bitsOf_at p i i]
        simp [hp]
      · rcases Nat.lt_or_gt_of_ne hi with h | h
        · rw [Nat.testBit_two_pow_add_gt h, bitsOf_at p n i]
          have e1 : decide (i < n) = true := by simpa using h
          have e2 : decide (i < n + 1) = true := by simp; omega
          rw [e1, e2]
        · have e2 : decide (i < n + 1) = false := by simp; omega
          rw [e2, Bool.false_and]
          apply Nat.testBit_lt_two_pow
          have h3 : 2 ^ (n + 1) ≤ 2 ^ i := Nat.pow_le_pow_right (by omega) h
          rw [Nat.pow_succ] at h3
          omega
    · rw [if_neg hp, Nat.add_zero, bitsOf_at p n i]
      by_cases hi : i = n
      · subst hi
        have : p i = false := by simpa using hp
        simp [this]
      · have : decide (i < n) = decide (i < n + 1) := by
          apply decide_eq_decide.2; omega
        rw [this]
theorem mem_bits (p : Nat → Bool) (n : Nat) (hn : n ≤ 6) : mem (bitsOf p n) = (List.range n).filter p := by
  have e : List.range 6 = List.range n ++ (List.range (6 - n)).map (n + ·) := by
    have := List.range_add (n := n) (m := 6 - n)
    rw [show n + (6 - n) = 6 by omega] at this
    exact this
  unfold mem
  rw [e, List.filter_append]
  have h1 : (List.range n).filter (fun i => (bitsOf p n).testBit i) = (List.range n).filter p := by
    refine List.filter_congr fun i hi => ?_
    rw [bitsOf_at]
    have : i < n := List.mem_range.1 hi
    simp [this]
  have h2 : ((List.range (6 - n)).map (n + ·)).filter (fun i => (bitsOf p n).testBit i) = [] := by
    rw [List.filter_eq_nil_iff]
    intro i hi
    obtain ⟨k, _, rfl⟩ := List.mem_map.1 hi
    rw [bitsOf_at]
    have : ¬ n + k < n := by omega
    simp [this]
  rw [h1, h2, List.append_nil]
end Go.Proofs.YthplbfjpmnpjmaaDoor.Lp
