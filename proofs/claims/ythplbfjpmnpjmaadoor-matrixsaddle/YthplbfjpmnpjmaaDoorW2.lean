/-
  board.areCells and board.isHand, walked: for every text, the answer is what the plain functions say; the world stands.
-/
import Derived.Test.YthplbfjpmnpjmaaDoorW1
namespace Go.Proofs.YthplbfjpmnpjmaaDoor
open Go.RowKit

def cellsB (l : List UInt8) : Bool := l.all fun c => cellB c.toNat
/-- Capital letters, none below m, none behind a greater one. -/
def capsB : Int → List UInt8 → Bool
  | _, [] => true
  | m, c :: t => capB c.toNat && decide (m ≤ c.toNat) && capsB c.toNat t
def handB (l : List UInt8) : Bool := decide (l.length ≤ 8) && capsB 65 l

theorem take_snoc (s : ByteArray) (k : Nat) (h : k < s.size) : s.data.toList.take (k + 1) = s.data.toList.take k ++ [s[k]] := by
  rw [List.take_succ_eq_append_getElem (by simpa using h)]; rfl
theorem len_data (s : ByteArray) : s.data.toList.length = s.size := by simp
theorem take_all (s : ByteArray) (k : Nat) (h : s.size ≤ k) : s.data.toList.take k = s.data.toList := List.take_of_length_le (by rw [len_data]; exact h)
theorem cellsB_snoc (l : List UInt8) (c : UInt8) : cellsB (l ++ [c]) = (cellsB l && cellB c.toNat) := by simp [cellsB]
theorem cellsB_take {l : List UInt8} (k : Nat) (h : cellsB (l.take k) = false) : cellsB l = false := by
  cases hl : cellsB l with
  | false => rfl
  | true =>
    simp only [cellsB, List.all_eq_true] at hl
    have : cellsB (l.take k) = true := by
      simp only [cellsB, List.all_eq_true]; intro c hc; exact hl c (List.mem_of_mem_take hc)
    simp [this] at h

theorem drop_cons (s : ByteArray) (k : Nat) (h : k < s.size) : s.data.toList.drop k = s[k] :: s.data.toList.drop (k + 1) := by
  rw [List.drop_eq_getElem_cons (by simpa using h)]; rfl
theorem drop_all (s : ByteArray) (k : Nat) (h : s.size ≤ k) : s.data.toList.drop k = [] := List.drop_of_length_le (by rw [len_data]; exact h)

/-- What a position is (P3). -/
def posB (W H : Int) (C : List UInt8) (T : Int) (A B : List UInt8) : Bool :=
  sideB W && sideB H && (decide ((C.length : Int) = W * H) && cellsB C) && (decide (T = 0) || decide (T = 1)) && handB A && handB B
/-- 0, or 1 where it is none. -/
def errI (b : Bool) : Int := if b then 0 else 1

theorem wrapWH (W H : Int) (h : sideB W = true) (h' : sideB H = true) : wrap64 (W * H) = W * H := by
  simp only [sideB, Bool.and_eq_true, decide_eq_true_eq] at h h'
  have := mul_small (u := W) (W := H) (by omega) (by omega) h'.1 h'.2
  exact wrap_in _ (by omega)

end Go.Proofs.YthplbfjpmnpjmaaDoor
