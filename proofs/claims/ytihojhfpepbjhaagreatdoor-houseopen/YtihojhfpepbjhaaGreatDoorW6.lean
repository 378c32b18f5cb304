/-
  board.otherCase, walked: each letter's other case, for every text of at most 64 bytes; of what was there nothing has turned.
-/
import Derived.Test.YtihojhfpepbjhaaGreatDoorJ1
namespace Go.Proofs.YtihojhfpepbjhaaGreatDoor
open Go.RowKit

/-- A row of bytes as '[]byte(s)' lays it: one place behind it bears a mark. -/
def RowM (w : World) (g : Nat) (l : List UInt8) : Prop := ∃ (cur : Array Value) (m : Nat), w.heap[g]? = some (.cells cur 5 (m, m + 1)) ∧ cur.size = m ∧ cur.toList.take l.length = bvals l
theorem RowM.le {l : List UInt8} {cur : Array Value} (h : cur.toList.take l.length = bvals l) : l.length ≤ cur.size := by
  have := congrArg List.length h
  simp [bvals] at this
  omega
theorem RowM.cell {w : World} {g : Nat} {l : List UInt8} (h : RowM w g l) (j : Nat) (hj : j < l.length) : w.cell? ⟨g, j, none⟩ = some (.int .u8 (l[j].toNat : Int)) := by
  obtain ⟨cur, m, h1, h2, h3⟩ := h
  rw [cell_of_row w g j cur _ _ h1]
  have : (cur.toList.take l.length)[j]? = (bvals l)[j]? := by rw [h3]
  rw [List.getElem?_take, if_pos hj] at this
  simpa [bvals, hj] using this
theorem RowM.frozen {w : World} {g : Nat} {l : List UInt8} (h : RowM w g l) (j : Nat) (hj : j < l.length) : w.frozen? ⟨g, j, none⟩ = false := by
  obtain ⟨cur, m, h1, h2, h3⟩ := h
  have := RowM.le h3
  simp [World.frozen?, h1]
  omega
theorem RowM.set {w : World} {g : Nat} {l : List UInt8} (h : RowM w g l) (j : Nat) (c : UInt8) : RowM (w.setCell ⟨g, j, none⟩ (.int .u8 (c.toNat : Int))) g (l.set j c) := by
  obtain ⟨cur, m, h1, h2, h3⟩ := h
  refine ⟨cur.setIfInBounds j (.int .u8 (c.toNat : Int)), m, ?_, by simpa using h2, ?_⟩
  · rw [setCell_eq_setRow w g j cur _ _ _ h1]
    exact setRow_heap w g cur _ _ _ h1
  · rw [Array.toList_setIfInBounds, List.length_set, List.take_set, h3]
    simp [bvals, List.map_set]
theorem RowM.conv {w : World} {g cap n : Nat} {l : List UInt8} (h : RowM w g l) (hn : Hid (l.length = n)) :
    (convert 127 9 (.slice (some ⟨g, 0, none⟩) n cap)).run Tryz.prog w = .ok (.string ⟨l.toArray⟩) w := by
  have hn' := unhide hn
  subst hn'
  refine run_convert_bytes_back w 127 9 5 ⟨g, 0, none⟩ cap l Tryz.underlying127 Tryz.underlying5 Tryz.underlying9 fun j hj => ?_
  have e : (⟨g, 0, none⟩ : Addr).add j = ⟨g, 0 + j, none⟩ := by unfold Addr.add; split <;> simp_all
  rw [Nat.zero_add] at e
  rw [e, h.cell j hj]

/-- The other case; '.' stays. -/
def flipB (c : UInt8) : UInt8 := if c = 46 then 46 else c ^^^ 32
/-- The text when k of its bytes have been changed. -/
def flipTo (l : List UInt8) (k : Nat) : List UInt8 := (l.take k).map flipB ++ l.drop k
theorem rowM_new (w : World) (s : ByteArray) (cap : Nat) : RowM (w.alloc (.cells (bytesRow s cap) 5 ((bytesRow s cap).size, (bytesRow s cap).size + 1))) w.heap.size (flipTo s.data.toList 0) := by
  refine ⟨_, _, heap_alloc_new w _, rfl, ?_⟩
  have : flipTo s.data.toList 0 = s.data.toList := by simp [flipTo]
  rw [this]
  unfold bytesRow bvals
  rw [Array.toList_append, List.take_append_of_le_length (by simp), List.take_of_length_le (by simp)]
  simp

end Go.Proofs.YtihojhfpepbjhaaGreatDoor
