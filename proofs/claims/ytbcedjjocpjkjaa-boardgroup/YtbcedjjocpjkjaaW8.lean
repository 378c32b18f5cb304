/-
  What board.compare is made of, walked: cmp.Compare of ints, strings.Compare, cmp.Or of three; board.compare itself: by W, then H, then Cells.
-/
import Derived.Test.YtbcedjjocpjkjaaW7
import Derived.Lib.Bytealg
namespace Go.Proofs.Ytbcedjjocpjkjaa
open Go.RowKit
attribute [local go_sem ↓] Go.wp_at_zero Go.wp_at_succ

def cmpI (a b : Int) : Int := if a < b then -1 else if b < a then 1 else 0
def orI (a b c : Int) : Int := if a = 0 then (if b = 0 then c else b) else a

set_option maxHeartbeats 400000 in
theorem isNaN_any (a : Int) (w : World) : Calls Try.prog 83 #[.int .i64 a] w fun e w' => e = .returned (.bool false) ∧ w' = w := by
  go_enter Try.func83, Try.ntmps83
  go_wp2
  go_ret
  exact ⟨ret_bool (by simp), rfl⟩

set_option maxHeartbeats 400000 in
theorem cmpInt_any (a b : Int) (w : World) : Calls Try.prog 63 #[.int .i64 a, .int .i64 b] w fun e w' => e = .returned (.int .i64 (cmpI a b)) ∧ w' = w := by
  go_enter Try.func63, Try.ntmps63
  go_wp2_with (go_at_call 83; refine (isNaN_any _ _).mono ?_; rintro e w' ⟨rfl, rfl⟩)
  all_goals go_ret
  all_goals refine ⟨ret_int ?_, rfl⟩
  all_goals (unfold cmpI; repeat' split) <;> omega

set_option maxHeartbeats 1000000 in
set_option maxRecDepth 100000 in
theorem liteCompare_any (a b : ByteArray) (w : World) :
    Calls Try.prog 84 #[.string a, .string b] w fun e w' => e = .returned (.int .i64 (Lib.compareBytes a.data.toList b.data.toList)) ∧ w' = w := by
  go_enter Try.func84, Try.ntmps84
  go_wp2
  rw [run_callFunc_extern Try.func95 (by kernel_rfl) (by kernel_rfl) (by kernel_rfl) (e := Extern.BytealgCompare.compare) (by kernel_rfl), Lib.run_compareString]
  simp only [Result.andThen]
  rw [Oper.upon_value]
  go_wp2
  go_ret
  exact ⟨rfl, rfl⟩

set_option maxHeartbeats 400000 in
theorem strCompare_any (a b : ByteArray) (w : World) :
    Calls Try.prog 64 #[.string a, .string b] w fun e w' => e = .returned (.int .i64 (Lib.compareBytes a.data.toList b.data.toList)) ∧ w' = w := by
  go_enter Try.func64, Try.ntmps64
  go_wp2_with (go_at_call 84; refine (liteCompare_any _ _ _).mono ?_; rintro e w' ⟨rfl, rfl⟩)
  go_ret
  exact ⟨rfl, rfl⟩

theorem or1 {a b c : Int} (h : (a != 0) = true) : a = orI a b c := by simp only [bne_iff_ne, ne_eq] at h; simp [orI, h]
theorem or2 {a b c : Int} (h : (a != 0) = false) (h' : (b != 0) = true) : b = orI a b c := by simp only [bne_iff_ne, ne_eq, bne_eq_false_iff_eq] at h h'; simp [orI, h, h']
theorem or3 {a b c : Int} (h : (a != 0) = false) (h' : (b != 0) = false) : c = orI a b c := by simp only [bne_eq_false_iff_eq] at h h'; simp [orI, h, h']

set_option maxHeartbeats 1000000 in
theorem or3_any (a b c : Int) (g cap : Nat) (w : World) (h0 : w.cell? ⟨g, 0, none⟩ = some (.int .i64 a)) (h1 : w.cell? ⟨g, 1, none⟩ = some (.int .i64 b)) (h2 : w.cell? ⟨g, 2, none⟩ = some (.int .i64 c)) :
    Calls Try.prog 62 #[.slice (some ⟨g, 0, none⟩) 3 cap] w fun e w' => e = .returned (.int .i64 (orI a b c)) ∧ w' = w := by
  go_enter Try.func62, Try.ntmps62
  go_wp2
  refine wp_loop_rounds 4 ?_
  rw [rounds_succ]
  go_wp2
  · go_ret
    exact ⟨ret_int (or1 (by assumption)), rfl⟩
  · rw [rounds_succ]
    go_wp2
    · go_ret
      exact ⟨ret_int (or2 (by assumption) (by assumption)), rfl⟩
    · rw [rounds_succ]
      go_wp2
      · go_ret
        exact ⟨ret_int (or3 (by assumption) (by assumption)), rfl⟩
      · have hc : (c != 0) = false := by assumption
        rw [rounds_succ]
        go_wp2
        go_ret
        exact ⟨ret_int (by rw [← or3 (a := a) (b := b) (by assumption) (by assumption)]; simp only [bne_eq_false_iff_eq] at hc; exact hc.symm), rfl⟩

theorem third3 (w : World) (o1 o2 : Obj) (t : TypeId) (cs : Array Value) (j : Nat) : (((w.alloc o1).alloc o2).alloc (.cells cs t)).drew.cell? ⟨w.heap.size + 1 + 1, j, none⟩ = cs[j]? := by
  have h : w.heap.size + 1 + 1 = ((w.alloc o1).alloc o2).heap.size := by simp
  rw [h]
  exact cell_of_row _ _ _ cs t (0, 0) (heap_alloc_new _ _)

set_option maxHeartbeats 2000000 in
set_option maxRecDepth 100000 in
theorem compare_any (W H T W' H' T' : Int) (C A B C' A' B' : ByteArray) (w : World) :
    Calls Try.prog 39 #[.agg #[.int .i64 W, .int .i64 H, .string C, .int .i64 T, .string A, .string B], .agg #[.int .i64 W', .int .i64 H', .string C', .int .i64 T', .string A', .string B']] w fun e w' =>
      e = .returned (.int .i64 (orI (cmpI W W') (cmpI H H') (Lib.compareBytes C.data.toList C'.data.toList))) ∧ Below w.heap.size w w' := by
  go_enter Try.func39, Try.ntmps39
  go_wp2_with fail
  have hb0 := ((Below.refl w.heap.size w).alloc (Nat.le_refl _) (.cells #[.int .i64 W, .int .i64 H, .string C, .int .i64 T, .string A, .string B] 24)).alloc (by simp) (.cells #[.int .i64 W', .int .i64 H', .string C', .int .i64 T', .string A', .string B'] 24)
  go_region_held3 (fun w' => w'.cell? ⟨w.heap.size, 0, none⟩ = some (.int .i64 W) ∧ w'.cell? ⟨w.heap.size, 1, none⟩ = some (.int .i64 H) ∧ w'.cell? ⟨w.heap.size, 2, none⟩ = some (.string C) ∧
      w'.cell? ⟨w.heap.size + 1, 0, none⟩ = some (.int .i64 W') ∧ w'.cell? ⟨w.heap.size + 1, 1, none⟩ = some (.int .i64 H') ∧ w'.cell? ⟨w.heap.size + 1, 2, none⟩ = some (.string C'))
    (go_keep)
    (first
      | (go_at_call 63; refine (cmpInt_any _ _ _).mono ?_; rintro e w' ⟨rfl, rfl⟩)
      | (go_at_call 64; refine (strCompare_any _ _ _).mono ?_; rintro e w' ⟨rfl, rfl⟩)
      | (go_at_call 62; refine (or3_any (cmpI W W') (cmpI H H') (Lib.compareBytes C.data.toList C'.data.toList) _ _ _ ?_ ?_ ?_).mono ?_; (exact third3 _ _ _ _ _ 0); (exact third3 _ _ _ _ _ 1); (exact third3 _ _ _ _ _ 2); rintro e w' ⟨rfl, rfl⟩))
  go_wp2
  go_ret
  exact ⟨rfl, (hb0.alloc (by simp; omega) _).drew⟩
end Go.Proofs.Ytbcedjjocpjkjaa
