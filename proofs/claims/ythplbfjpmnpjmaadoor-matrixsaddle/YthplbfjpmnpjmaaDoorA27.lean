/-
  gamelaw.MatrixSaddle, walked.
-/
import Derived.Test.YthplbfjpmnpjmaaDoorA26
namespace Go.Proofs.YthplbfjpmnpjmaaDoor
open Go.RowKit Lp
attribute [local go_sem ↓] Go.wp_at_zero Go.wp_at_succ

/-- What Saddle told. -/
def SadR (G : List (List Int)) (m N : Nat) (si sk : Int) (sb : Bool) : Prop := (sb = false ∧ si = 0 ∧ sk = 0 ∧ noneB G N m 0) ∨ (sb = true ∧ ∃ i j : Nat, si = (i : Int) ∧ sk = (j : Int) ∧ i < m ∧ j < N ∧ noneB G N i j ∧ saB G i j = true)
theorem SadR.none {G : List (List Int)} {m N : Nat} {si sk : Int} {sb : Bool} (h : SadR G m N si sk sb) (hn : noneB G N m 0) : sb = false ∧ si = 0 ∧ sk = 0 := by
  rcases h with ⟨h1, h2, h3, -⟩ | ⟨-, i, j, -, -, h4, h5, -, h7⟩
  · exact ⟨h1, h2, h3⟩
  · have := hn i j (.inl ⟨h4, h5⟩)
    rw [h7] at this; cases this

end Go.Proofs.YthplbfjpmnpjmaaDoor
