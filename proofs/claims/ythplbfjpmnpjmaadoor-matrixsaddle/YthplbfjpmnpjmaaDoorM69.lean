/-
  what level and holds reckon, in whole numbers; some part of a matrix holds.
-/
import Derived.Test.YthplbfjpmnpjmaaDoorM68
namespace Go.Proofs.YthplbfjpmnpjmaaDoor.Lp
/-- Without one. -/
def wo (s i : Nat) : Nat := if s.testBit i then s - 2 ^ i else s
def sz (s : Nat) : Nat := (mem s).length
set_option maxRecDepth 100000 in
theorem mem_range : ∀ n, n ≤ 6 → ∀ c, c < 2 ^ n → mem c = (List.range n).filter fun i => c.testBit i := by decide +kernel
/-- A solution: its value, total, rows, columns. -/
structure So where
  v : Int
  t : Int
  x : Nat → Int
  y : Nat → Int
end Go.Proofs.YthplbfjpmnpjmaaDoor.Lp
