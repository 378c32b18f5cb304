/-
  gameref.before, walked: the same order as table.compare's.
-/
import Derived.Test.YtbijadnekoeofaaGreatDoorJ33
namespace Go.Proofs.YtbijadnekoeofaaGreatDoor
open Go.RowKit

theorem bytesLess_cb : ∀ a b : List UInt8, Op.bytesLess a b = decide (Lib.compareBytes a b < 0)
  | [], [] => by simp [Op.bytesLess, Lib.compareBytes]
  | [], _ :: _ => by simp [Op.bytesLess, Lib.compareBytes]
  | _ :: _, [] => by simp [Op.bytesLess, Lib.compareBytes]
  | a :: x, b :: y => by
    have ih := bytesLess_cb x y
    simp only [Op.bytesLess, Lib.compareBytes]
    by_cases h1 : a < b
    · simp [h1]
    · by_cases h2 : b < a
      · have h3 : ¬ a = b := by intro e; subst e; exact h1 h2
        simp [h1, h2]
        try simp [h3]
      · have e : a = b := UInt8.toNat_inj.1 (by simp only [UInt8.lt_iff_toNat_lt] at *; omega)
        subst e
        simp [h1, ih]
theorem ba_ne {a b : ByteArray} (h : a ≠ b) : Lib.compareBytes a.data.toList b.data.toList ≠ 0 := fun h0 => by
  have h1 := cb_one _ _ h0
  exact h (by cases a with | mk x => cases b with | mk y => simp only at h1; rw [Array.toList_inj.1 h1])
theorem ba_no {a b : ByteArray} (h : (!a.toList == b.toList) = true) : a ≠ b := fun e => by subst e; simp at h
theorem ba_yes {a b : ByteArray} (h : (!a.toList == b.toList) = false) : a = b := by
  simp only [Bool.not_eq_eq_eq_not, Bool.not_false, beq_iff_eq] at h
  rw [ByteArray.toList_eq, ByteArray.toList_eq] at h
  cases a with | mk x => cases b with | mk y => simp only at h; rw [Array.toList_inj.1 h]
theorem bf1 {p q : Po} (h : p.C ≠ q.C) : Op.bytesLess p.C.data.toList q.C.data.toList = decide (cmpP p q < 0) := by
  rw [bytesLess_cb, cmpP, orI, if_neg (ba_ne h)]
theorem bf2 {p q : Po} (h : p.C = q.C) (h' : p.T ≠ q.T) : decide (p.T < q.T) = decide (cmpP p q < 0) := by
  have h2 : Lib.compareInt p.T q.T ≠ 0 := fun h0 => h' (TO.int.one _ _ h0)
  rw [cmpP, orI, h, cb_same, if_pos rfl, orI, if_neg h2]
  unfold Lib.compareInt
  by_cases h1 : p.T < q.T
  · simp [h1]
  · simp [h1, show q.T < p.T by omega]
theorem bf3 {p q : Po} (h : p.C = q.C) (h' : p.T = q.T) (h3 : p.A ≠ q.A) : Op.bytesLess p.A.data.toList q.A.data.toList = decide (cmpP p q < 0) := by
  rw [bytesLess_cb, cmpP, orI, h, cb_same, if_pos rfl, orI, h', TO.int.same, if_pos rfl, orI, if_neg (ba_ne h3)]
theorem bf4 {p q : Po} (h : p.C = q.C) (h' : p.T = q.T) (h3 : p.A = q.A) : Op.bytesLess p.B.data.toList q.B.data.toList = decide (cmpP p q < 0) := by
  rw [bytesLess_cb, cmpP, orI, h, cb_same, if_pos rfl, orI, h', TO.int.same, if_pos rfl, orI, h3, cb_same, if_pos rfl, orI]
  by_cases h4 : Lib.compareBytes p.B.data.toList q.B.data.toList = 0
  · rw [if_pos h4, orI, h4]
  · rw [if_neg h4]

set_option maxHeartbeats 1000000 in
theorem before_any (p q : Po) (w : World) :
    Calls Tryz.prog 21 #[.agg #[.int .i64 p.W, .int .i64 p.H, .string p.C, .int .i64 p.T, .string p.A, .string p.B], .agg #[.int .i64 q.W, .int .i64 q.H, .string q.C, .int .i64 q.T, .string q.A, .string q.B]] w fun e w' =>
      e = .returned (.bool (decide (cmpP p q < 0))) ∧ Below w.heap.size w w' := by
  go_enter Tryz.func21, Tryz.ntmps21
  go_wp2
  all_goals go_ret
  all_goals refine ⟨ret_bool ?_, ((Below.refl _ _).alloc (Nat.le_refl _) _).alloc (by simp) _⟩
  · rw [ByteArray.toList_eq, ByteArray.toList_eq]
    exact bf1 (ba_no (by assumption : (!p.C.toList == q.C.toList) = true))
  · exact bf2 (ba_yes (by assumption : (!p.C.toList == q.C.toList) = false)) (by simpa using (by assumption : (p.T != q.T) = true))
  · rw [ByteArray.toList_eq, ByteArray.toList_eq]
    exact bf3 (ba_yes (by assumption : (!p.C.toList == q.C.toList) = false)) (by simpa using (by assumption : (p.T != q.T) = false)) (ba_no (by assumption : (!p.A.toList == q.A.toList) = true))
  · rw [ByteArray.toList_eq, ByteArray.toList_eq]
    exact bf4 (ba_yes (by assumption : (!p.C.toList == q.C.toList) = false)) (by simpa using (by assumption : (p.T != q.T) = false)) (ba_yes (by assumption : (!p.A.toList == q.A.toList) = false))
end Go.Proofs.YtbijadnekoeofaaGreatDoor
