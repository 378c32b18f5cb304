/-
  The small functions of package board, walked: what each returns, for every argument; the world stands.
-/
import Derived.Test.YthplbfjpmnpjmaaDoorProg
import Derived.WalkKit
import Derived.WalkSpells
import Derived.WalkLawsBesides
import Derived.Deep.QuietTactic
import Derived.BigQuiet
namespace Go.Proofs.YthplbfjpmnpjmaaDoor
open Go.RowKit

theorem hide {p : Prop} (h : p) : Hid p := h
theorem unhide {p : Prop} (h : Hid p) : p := h
theorem ret_bool {a b : Bool} (h : a = b) : Ending.returned (.bool a) = .returned (.bool b) := by rw [h]
theorem ret_int {k : IntKind} {a b : Int} (h : a = b) : Ending.returned (.int k a) = .returned (.int k b) := by rw [h]

/-- 'A' to 'Z'. -/
def capB (c : Int) : Bool := decide (65 ≤ c) && decide (c ≤ 90)
/-- '.', 'A' to 'Z', 'a' to 'z'. -/
def cellB (c : Int) : Bool := decide (c = 46) || capB c || (decide (97 ≤ c) && decide (c ≤ 122))
end Go.Proofs.YthplbfjpmnpjmaaDoor
