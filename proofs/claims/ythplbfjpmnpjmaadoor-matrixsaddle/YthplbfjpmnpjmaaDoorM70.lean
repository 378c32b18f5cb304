/-
  the members of a set one by one, the parts of a matrix one by one (plain mathematics).
-/
import Derived.Test.YthplbfjpmnpjmaaDoorM69
namespace Go.Proofs.YthplbfjpmnpjmaaDoor.Lp
abbrev MS (s : Nat) := { i : Nat // i < 6 ∧ s.testBit i = true }
theorem MS.lt {s N : Nat} (hs : s < 2 ^ N) (x : MS s) : x.1 < N := by
  rcases Nat.lt_or_ge x.1 N with h | h
  · exact h
  · have h1 : s < 2 ^ x.1 := Nat.lt_of_lt_of_le hs (Nat.pow_le_pow_right (by omega) h)
    have := Nat.testBit_lt_two_pow h1
    rw [x.2.2] at this
    cases this
/-- A part of a matrix: its rows, its columns. -/
def okP (m n : Nat) (p : Nat × Nat) : Prop := 1 ≤ p.1 ∧ p.1 < 2 ^ m ∧ 1 ≤ p.2 ∧ p.2 < 2 ^ n ∧ sz p.1 = sz p.2
instance (m n : Nat) (p : Nat × Nat) : Decidable (okP m n p) := by unfold okP; infer_instance
abbrev P6 (m n : Nat) := { p : Nat × Nat // okP m n p }
def toP (m n : Nat) (p : Nat × Nat) : Option (P6 m n) := if h : okP m n p then some ⟨p, h⟩ else none
/-- All places ahead of (r, c). -/
def plc (n r c : Nat) : List (Nat × Nat) := (List.range r).flatMap (fun i => (List.range (2 ^ n)).map fun j => (i, j)) ++ (List.range c).map fun j => (r, j)
def came (m n r c : Nat) : List (P6 m n) := (plc n r c).filterMap (toP m n)
theorem mem_plc (n r c : Nat) (p : Nat × Nat) : p ∈ plc n r c ↔ (p.1 < r ∧ p.2 < 2 ^ n) ∨ (p.1 = r ∧ p.2 < c) := by
  unfold plc
  simp only [List.mem_append, List.mem_flatMap, List.mem_range, List.mem_map]
  constructor
  · rintro (⟨i, hi, j, hj, rfl⟩ | ⟨j, hj, rfl⟩)
    · exact .inl ⟨hi, hj⟩
    · exact .inr ⟨rfl, hj⟩
  · rintro (⟨h1, h2⟩ | ⟨h1, h2⟩)
    · exact .inl ⟨p.1, h1, p.2, h2, rfl⟩
    · exact .inr ⟨p.2, h2, by rw [← h1]⟩
theorem mem_came {m n r c : Nat} {p : P6 m n} : p ∈ came m n r c ↔ (p.1.1 < r ∨ (p.1.1 = r ∧ p.1.2 < c)) := by
  unfold came
  rw [List.mem_filterMap]
  have hp := p.2
  constructor
  · rintro ⟨q, hq, e⟩
    unfold toP at e
    by_cases h : okP m n q
    · rw [dif_pos h] at e
      cases e
      rcases (mem_plc n r c q).1 hq with h1 | h1
      · exact .inl h1.1
      · exact .inr h1
    · rw [dif_neg h] at e; cases e
  · intro h
    refine ⟨p.1, (mem_plc n r c p.1).2 ?_, ?_⟩
    · rcases h with h | h
      · exact .inl ⟨h, hp.2.2.2.1⟩
      · exact .inr h
    · unfold toP; rw [dif_pos hp]
/-- All of them. -/
def allP (m n : Nat) : List (P6 m n) := came m n (2 ^ m) 0
theorem mem_allP {m n : Nat} (p : P6 m n) : p ∈ allP m n := mem_came.2 (.inl p.2.2.1)
end Go.Proofs.YthplbfjpmnpjmaaDoor.Lp
