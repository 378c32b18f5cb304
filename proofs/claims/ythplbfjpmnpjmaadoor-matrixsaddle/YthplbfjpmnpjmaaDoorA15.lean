/-
  the table of determinants while it is made (plain mathematics).
-/
import Derived.Test.YthplbfjpmnpjmaaDoorA14
namespace Go.Proofs.YthplbfjpmnpjmaaDoor
open Go.RowKit Lp

/-- What stands in the table. -/
def tabT {m N : Nat} (A : Nat → Nat → Int) (pre : List (P6 m N)) (r c : Nat) : Int := if (r == 0 && c == 0) || pre.any (fun p => p.1 == (r, c)) then mnI A (mem r) (mem c) else 0
def RT (m N : Nat) (A : Nat → Nat → Int) (pre : List (P6 m N)) (T : Nat → Nat → Int) : Prop := (∃ r c, pre = came m N r c) → ∀ r c, r < 64 → c < 64 → T r c = tabT A pre r c
/-- The whole table. -/
theorem RT.whole {m N : Nat} {A T : Nat → Nat → Int} (h : RT m N A (allP m N) T) {r c : Nat} (hr : r < 64) (hc : c < 64) (hs : (r = 0 ∧ c = 0) ∨ okP m N (r, c)) : T r c = mnI A (mem r) (mem c) := by
  rw [h ⟨_, _, rfl⟩ r c hr hc]
  unfold tabT
  rw [if_pos]
  rw [Bool.or_eq_true]
  rcases hs with ⟨rfl, rfl⟩ | hs
  · exact .inl rfl
  · exact .inr (List.any_eq_true.2 ⟨⟨(r, c), hs⟩, mem_allP _, by simp⟩)
end Go.Proofs.YthplbfjpmnpjmaaDoor
