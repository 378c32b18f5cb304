/-
  Plain mathematics of records: the neighbours between which the blanks stand.
-/
import Derived.Test.YtdibjdpnleepmacDoorM28
import Derived.Lib.Join
namespace Go.Proofs.YtdibjdpnleepmacDoor
open Go.Lib
/-- A comment as a neighbour. -/
def cmP (cm : ByteArray) : List (List UInt8) := if cm.data.toList = [] then [] else [123 :: (cm.data.toList ++ [125])]
/-- One of the others. -/
def brkL (t : Nt) : List UInt8 := 40 :: (textL (foL [t]) ++ [41])
mutual
/-- The neighbours between which the blanks stand. -/
def partsN : Nt → List Nt → List (List UInt8)
  | .mk mv cm nx, l => mv.data.toList :: (cmP cm ++ (l.map brkL ++ partsL nx))
def partsL : List Nt → List (List UInt8)
  | [] => []
  | t :: l => partsN t l
end
theorem partsL_nil : partsL [] = [] := by rw [partsL]
theorem partsL_cons (mv cm : ByteArray) (nx l : List Nt) : partsL (.mk mv cm nx :: l) = mv.data.toList :: (cmP cm ++ (l.map brkL ++ partsL nx)) := by rw [partsL, partsN]
theorem tail_app (sep : List UInt8) (a b : List (List UInt8)) : joinTail sep (a ++ b) = joinTail sep a ++ joinTail sep b := by simp [joinTail]
theorem tail_cons (sep x : List UInt8) (b : List (List UInt8)) : joinTail sep (x :: b) = sep ++ x ++ joinTail sep b := by simp [joinTail]
theorem cm_tail (cm : ByteArray) : joinTail [32] (cmP cm) = cmT cm.data.toList := by
  unfold cmP cmT
  split <;> simp [joinTail]
theorem foL_one (mv cm : ByteArray) (nx : List Nt) : foL [.mk mv cm nx] = .cons mv cm (foL nx) .nil := by rw [foL_cons, foL_nil]
theorem textL_one (mv cm : ByteArray) (nx : Fo) : textL (.cons mv cm nx .nil) = mv.data.toList ++ (cmT cm.data.toList ++ nxT nx) := by rw [textL_cons, othersL_nil, List.nil_append]
theorem brk_tail : ∀ l : List Nt, joinTail [32] (l.map brkL) = othersL (foL l)
  | [] => by rw [foL_nil, othersL_nil]; rfl
  | .mk mv cm nx :: l => by
    rw [List.map_cons, tail_cons, brk_tail l, foL_cons, othersL_cons, brkL, foL_one, textL_one]
    simp
theorem nx_tail (l : List Nt) (h : join (partsL l) [32] = textL (foL l)) : joinTail [32] (partsL l) = nxT (foL l) := by
  cases l with
  | nil => rw [foL_nil, partsL_nil]; rfl
  | cons t l =>
    cases t with
    | mk mv cm nx =>
      have hn : nxT (foL (.mk mv cm nx :: l)) = 32 :: textL (foL (.mk mv cm nx :: l)) := by rw [foL_cons]; rfl
      rw [hn, ← h, partsL_cons, tail_cons, join_cons]
      simp
mutual
theorem parts_textN : ∀ (t : Nt) (l : List Nt), join (partsN t l) [32] = textL (foL (t :: l))
  | .mk mv cm nx, l => by
    have hn := nx_tail nx (parts_text nx)
    rw [partsN, join_cons, tail_app, tail_app, cm_tail, brk_tail, hn, foL_cons, textL_cons]
/-- The neighbours, and blanks between them, are the text. -/
theorem parts_text : ∀ l : List Nt, join (partsL l) [32] = textL (foL l)
  | [] => by rw [partsL_nil, foL_nil, textL]; rfl
  | t :: l => by rw [partsL]; exact parts_textN t l
end
theorem cmT_len (cm : List UInt8) : (cmT cm).length ≤ cm.length + 3 := by
  unfold cmT
  split
  · simp
  · simp
theorem text_len : ∀ F : Fo, OkF F → (textL F).length ≤ 900 * cnt F ∧ (othersL F).length ≤ 900 * cnt F ∧ (nxT F).length ≤ 900 * cnt F + 1
  | .nil, _ => by rw [textL, othersL_nil]; simp [nxT, Fo.isN]
  | .cons mv cm nx r, h => by
    obtain ⟨hok, h1, h2⟩ := h
    have hs := hok.size
    obtain ⟨a1, a2, a3⟩ := text_len nx h1
    obtain ⟨b1, b2, b3⟩ := text_len r h2
    have hc := cmT_len cm.data.toList
    rw [← size_eq] at hc
    have ht : (textL (.cons mv cm nx r)).length ≤ 900 * cnt (.cons mv cm nx r) := by
      rw [textL_cons, cnt]
      simp only [List.length_append, ← size_eq]
      omega
    refine ⟨ht, ?_, ?_⟩
    · rw [othersL_cons, cnt]
      simp only [List.length_append, List.length_cons, ← size_eq]
      omega
    · show (32 :: textL (.cons mv cm nx r)).length ≤ _
      rw [List.length_cons]; omega
/-- Of as many bytes each as there are in all. -/
theorem parts_len (l : List Nt) (x : List UInt8) (h : x ∈ partsL l) : x.length ≤ (textL (foL l)).length := by
  rw [← parts_text]
  generalize partsL l = L at h
  cases L with
  | nil => simp at h
  | cons a L =>
    rw [join_cons, List.length_append]
    rcases List.mem_cons.1 h with rfl | h
    · omega
    · have : x.length ≤ (joinTail [32] L).length := by
        obtain ⟨p, q, rfl⟩ := List.append_of_mem h
        rw [tail_app, tail_cons]
        simp only [List.length_append]
        omega
      omega
theorem parts_count (l : List Nt) : (partsL l).length ≤ (textL (foL l)).length + 1 := by
  rw [← parts_text]
  generalize partsL l = L
  cases L with
  | nil => simp
  | cons a L =>
    rw [join_cons, List.length_append, joinTail_length]
    simp only [List.length_cons, List.length_nil]
    omega
end Go.Proofs.YtdibjdpnleepmacDoor
