/-
  package matrix, walked: sets of at most six (firsts, size, first, without, place).
-/
import Derived.Test.YthplbfjpmnpjmaaDoorJ20
import Derived.Test.YthplbfjpmnpjmaaDoorM69
import Derived.Lib.LaidTab
namespace Go.Proofs.YthplbfjpmnpjmaaDoor
open Go.RowKit Lp
attribute [local go_sem ↓] Go.wp_at_zero Go.wp_at_succ

/-- What is read of Go's table deBruijn64tab. -/
structure isDb (w : World) : Prop where
  lt : 2 < w.heap.size
  c0 : w.cell? ⟨2, 0, none⟩ = some (.int .u8 0)
  c1 : w.cell? ⟨2, 1, none⟩ = some (.int .u8 1)
  c2 : w.cell? ⟨2, 3, none⟩ = some (.int .u8 2)
  c3 : w.cell? ⟨2, 7, none⟩ = some (.int .u8 3)
  c4 : w.cell? ⟨2, 15, none⟩ = some (.int .u8 4)
  c5 : w.cell? ⟨2, 31, none⟩ = some (.int .u8 5)
theorem isDb.below {w w' : World} {B : Nat} (h : isDb w) (hb : Below B w w') (hB : 2 < B) : isDb w' :=
  ⟨Nat.lt_of_lt_of_le h.lt hb.size, (hb.cell (p := ⟨2, 0, none⟩) hB).trans h.c0, (hb.cell (p := ⟨2, 1, none⟩) hB).trans h.c1, (hb.cell (p := ⟨2, 3, none⟩) hB).trans h.c2, (hb.cell (p := ⟨2, 7, none⟩) hB).trans h.c3, (hb.cell (p := ⟨2, 15, none⟩) hB).trans h.c4, (hb.cell (p := ⟨2, 31, none⟩) hB).trans h.c5⟩

theorem firsts_any (n : Nat) (hn : n ≤ 6) (w : World) : Calls Tryd.prog 59 #[.int .i64 (n : Int)] w fun e w' => e = .returned (.int .u64 ((2 ^ n - 1 : Nat) : Int)) ∧ w' = w := by
  obtain rfl | rfl | rfl | rfl | rfl | rfl | rfl : n = 0 ∨ n = 1 ∨ n = 2 ∨ n = 3 ∨ n = 4 ∨ n = 5 ∨ n = 6 := by omega
  all_goals (go_enter Tryd.func59, Tryd.ntmps59; go_wp2; go_ret; exact ⟨rfl, rfl⟩)

theorem ones0 (w : World) : Calls Tryd.prog 96 #[.int .u64 0] w fun e w' => e = .returned (.int .i64 0) ∧ w' = w := by
  have h0 : bits .and .u64 0 6148914691236517205 = 0 := by decide +kernel
  have h1 : bits .and .u64 0 3689348814741910323 = 0 := by decide +kernel
  have h2 : bits .and .u64 0 1085102592571150095 = 0 := by decide +kernel
  have h3 : bits .and .i64 0 127 = 0 := by decide +kernel
  go_enter Tryd.func96, Tryd.ntmps96
  go_wp2
  go_ret
  exact ⟨rfl, rfl⟩
theorem ones1 (w : World) : Calls Tryd.prog 96 #[.int .u64 1] w fun e w' => e = .returned (.int .i64 1) ∧ w' = w := by
  have h0 : bits .and .u64 0 6148914691236517205 = 0 := by decide +kernel
  have h1 : bits .and .u64 1 6148914691236517205 = 1 := by decide +kernel
  have h2 : bits .and .u64 0 3689348814741910323 = 0 := by decide +kernel
  have h3 : bits .and .u64 1 3689348814741910323 = 1 := by decide +kernel
  have h4 : bits .and .u64 1 1085102592571150095 = 1 := by decide +kernel
  have h5 : bits .and .i64 1 127 = 1 := by decide +kernel
  go_enter Tryd.func96, Tryd.ntmps96
  go_wp2
  go_ret
  exact ⟨rfl, rfl⟩
theorem ones2 (w : World) : Calls Tryd.prog 96 #[.int .u64 2] w fun e w' => e = .returned (.int .i64 1) ∧ w' = w := by
  have h0 : bits .and .u64 1 6148914691236517205 = 1 := by decide +kernel
  have h1 : bits .and .u64 2 6148914691236517205 = 0 := by decide +kernel
  have h2 : bits .and .u64 0 3689348814741910323 = 0 := by decide +kernel
  have h3 : bits .and .u64 1 3689348814741910323 = 1 := by decide +kernel
  have h4 : bits .and .u64 1 1085102592571150095 = 1 := by decide +kernel
  have h5 : bits .and .i64 1 127 = 1 := by decide +kernel
  go_enter Tryd.func96, Tryd.ntmps96
  go_wp2
  go_ret
  exact ⟨rfl, rfl⟩
theorem ones3 (w : World) : Calls Tryd.prog 96 #[.int .u64 3] w fun e w' => e = .returned (.int .i64 2) ∧ w' = w := by
  have h0 : bits .and .u64 1 6148914691236517205 = 1 := by decide +kernel
  have h1 : bits .and .u64 3 6148914691236517205 = 1 := by decide +kernel
  have h2 : bits .and .u64 0 3689348814741910323 = 0 := by decide +kernel
  have h3 : bits .and .u64 2 3689348814741910323 = 2 := by decide +kernel
  have h4 : bits .and .u64 2 1085102592571150095 = 2 := by decide +kernel
  have h5 : bits .and .i64 2 127 = 2 := by decide +kernel
  go_enter Tryd.func96, Tryd.ntmps96
  go_wp2
  go_ret
  exact ⟨rfl, rfl⟩
theorem ones4 (w : World) : Calls Tryd.prog 96 #[.int .u64 4] w fun e w' => e = .returned (.int .i64 1) ∧ w' = w := by
  have h0 : bits .and .u64 2 6148914691236517205 = 0 := by decide +kernel
  have h1 : bits .and .u64 4 6148914691236517205 = 4 := by decide +kernel
  have h2 : bits .and .u64 1 3689348814741910323 = 1 := by decide +kernel
  have h3 : bits .and .u64 4 3689348814741910323 = 0 := by decide +kernel
  have h4 : bits .and .u64 1 1085102592571150095 = 1 := by decide +kernel
  have h5 : bits .and .i64 1 127 = 1 := by decide +kernel
  go_enter Tryd.func96, Tryd.ntmps96
  go_wp2
  go_ret
  exact ⟨rfl, rfl⟩
theorem ones5 (w : World) : Calls Tryd.prog 96 #[.int .u64 5] w fun e w' => e = .returned (.int .i64 2) ∧ w' = w := by
  have h0 : bits .and .u64 2 6148914691236517205 = 0 := by decide +kernel
  have h1 : bits .and .u64 5 6148914691236517205 = 5 := by decide +kernel
  have h2 : bits .and .u64 1 3689348814741910323 = 1 := by decide +kernel
  have h3 : bits .and .u64 5 3689348814741910323 = 1 := by decide +kernel
  have h4 : bits .and .u64 2 1085102592571150095 = 2 := by decide +kernel
  have h5 : bits .and .i64 2 127 = 2 := by decide +kernel
  go_enter Tryd.func96, Tryd.ntmps96
  go_wp2
  go_ret
  exact ⟨rfl, rfl⟩
theorem ones6 (w : World) : Calls Tryd.prog 96 #[.int .u64 6] w fun e w' => e = .returned (.int .i64 2) ∧ w' = w := by
  have h0 : bits .and .u64 3 6148914691236517205 = 1 := by decide +kernel
  have h1 : bits .and .u64 6 6148914691236517205 = 4 := by decide +kernel
  have h2 : bits .and .u64 1 3689348814741910323 = 1 := by decide +kernel
  have h3 : bits .and .u64 5 3689348814741910323 = 1 := by decide +kernel
  have h4 : bits .and .u64 2 1085102592571150095 = 2 := by decide +kernel
  have h5 : bits .and .i64 2 127 = 2 := by decide +kernel
  go_enter Tryd.func96, Tryd.ntmps96
  go_wp2
  go_ret
  exact ⟨rfl, rfl⟩
theorem ones7 (w : World) : Calls Tryd.prog 96 #[.int .u64 7] w fun e w' => e = .returned (.int .i64 3) ∧ w' = w := by
  have h0 : bits .and .u64 3 6148914691236517205 = 1 := by decide +kernel
  have h1 : bits .and .u64 7 6148914691236517205 = 5 := by decide +kernel
  have h2 : bits .and .u64 1 3689348814741910323 = 1 := by decide +kernel
  have h3 : bits .and .u64 6 3689348814741910323 = 2 := by decide +kernel
  have h4 : bits .and .u64 3 1085102592571150095 = 3 := by decide +kernel
  have h5 : bits .and .i64 3 127 = 3 := by decide +kernel
  go_enter Tryd.func96, Tryd.ntmps96
  go_wp2
  go_ret
  exact ⟨rfl, rfl⟩
theorem ones8 (w : World) : Calls Tryd.prog 96 #[.int .u64 8] w fun e w' => e = .returned (.int .i64 1) ∧ w' = w := by
  have h0 : bits .and .u64 4 6148914691236517205 = 4 := by decide +kernel
  have h1 : bits .and .u64 8 6148914691236517205 = 0 := by decide +kernel
  have h2 : bits .and .u64 1 3689348814741910323 = 1 := by decide +kernel
  have h3 : bits .and .u64 4 3689348814741910323 = 0 := by decide +kernel
  have h4 : bits .and .u64 1 1085102592571150095 = 1 := by decide +kernel
  have h5 : bits .and .i64 1 127 = 1 := by decide +kernel
  go_enter Tryd.func96, Tryd.ntmps96
  go_wp2
  go_ret
  exact ⟨rfl, rfl⟩
theorem ones9 (w : World) : Calls Tryd.prog 96 #[.int .u64 9] w fun e w' => e = .returned (.int .i64 2) ∧ w' = w := by
  have h0 : bits .and .u64 4 6148914691236517205 = 4 := by decide +kernel
  have h1 : bits .and .u64 9 6148914691236517205 = 1 := by decide +kernel
  have h2 : bits .and .u64 1 3689348814741910323 = 1 := by decide +kernel
  have h3 : bits .and .u64 5 3689348814741910323 = 1 := by decide +kernel
  have h4 : bits .and .u64 2 1085102592571150095 = 2 := by decide +kernel
  have h5 : bits .and .i64 2 127 = 2 := by decide +kernel
  go_enter Tryd.func96, Tryd.ntmps96
  go_wp2
  go_ret
  exact ⟨rfl, rfl⟩
theorem ones10 (w : World) : Calls Tryd.prog 96 #[.int .u64 10] w fun e w' => e = .returned (.int .i64 2) ∧ w' = w := by
  have h0 : bits .and .u64 5 6148914691236517205 = 5 := by decide +kernel
  have h1 : bits .and .u64 10 6148914691236517205 = 0 := by decide +kernel
  have h2 : bits .and .u64 1 3689348814741910323 = 1 := by decide +kernel
  have h3 : bits .and .u64 5 3689348814741910323 = 1 := by decide +kernel
  have h4 : bits .and .u64 2 1085102592571150095 = 2 := by decide +kernel
  have h5 : bits .and .i64 2 127 = 2 := by decide +kernel
  go_enter Tryd.func96, Tryd.ntmps96
  go_wp2
  go_ret
  exact ⟨rfl, rfl⟩
theorem ones11 (w : World) : Calls Tryd.prog 96 #[.int .u64 11] w fun e w' => e = .returned (.int .i64 3) ∧ w' = w := by
  have h0 : bits .and .u64 5 6148914691236517205 = 5 := by decide +kernel
  have h1 : bits .and .u64 11 6148914691236517205 = 1 := by decide +kernel
  have h2 : bits .and .u64 1 3689348814741910323 = 1 := by decide +kernel
  have h3 : bits .and .u64 6 3689348814741910323 = 2 := by decide +kernel
  have h4 : bits .and .u64 3 1085102592571150095 = 3 := by decide +kernel
  have h5 : bits .and .i64 3 127 = 3 := by decide +kernel
  go_enter Tryd.func96, Tryd.ntmps96
  go_wp2
  go_ret
  exact ⟨rfl, rfl⟩
theorem ones12 (w : World) : Calls Tryd.prog 96 #[.int .u64 12] w fun e w' => e = .returned (.int .i64 2) ∧ w' = w := by
  have h0 : bits .and .u64 6 6148914691236517205 = 4 := by decide +kernel
  have h1 : bits .and .u64 12 6148914691236517205 = 4 := by decide +kernel
  have h2 : bits .and .u64 2 3689348814741910323 = 2 := by decide +kernel
  have h3 : bits .and .u64 8 3689348814741910323 = 0 := by decide +kernel
  have h4 : bits .and .u64 2 1085102592571150095 = 2 := by decide +kernel
  have h5 : bits .and .i64 2 127 = 2 := by decide +kernel
  go_enter Tryd.func96, Tryd.ntmps96
  go_wp2
  go_ret
  exact ⟨rfl, rfl⟩
theorem ones13 (w : World) : Calls Tryd.prog 96 #[.int .u64 13] w fun e w' => e = .returned (.int .i64 3) ∧ w' = w := by
  have h0 : bits .and .u64 6 6148914691236517205 = 4 := by decide +kernel
  have h1 : bits .and .u64 13 6148914691236517205 = 5 := by decide +kernel
  have h2 : bits .and .u64 2 3689348814741910323 = 2 := by decide +kernel
  have h3 : bits .and .u64 9 3689348814741910323 = 1 := by decide +kernel
  have h4 : bits .and .u64 3 1085102592571150095 = 3 := by decide +kernel
  have h5 : bits .and .i64 3 127 = 3 := by decide +kernel
  go_enter Tryd.func96, Tryd.ntmps96
  go_wp2
  go_ret
  exact ⟨rfl, rfl⟩
theorem ones14 (w : World) : Calls Tryd.prog 96 #[.int .u64 14] w fun e w' => e = .returned (.int .i64 3) ∧ w' = w := by
  have h0 : bits .and .u64 7 6148914691236517205 = 5 := by decide +kernel
  have h1 : bits .and .u64 14 6148914691236517205 = 4 := by decide +kernel
  have h2 : bits .and .u64 2 3689348814741910323 = 2 := by decide +kernel
  have h3 : bits .and .u64 9 3689348814741910323 = 1 := by decide +kernel
  have h4 : bits .and .u64 3 1085102592571150095 = 3 := by decide +kernel
  have h5 : bits .and .i64 3 127 = 3 := by decide +kernel
  go_enter Tryd.func96, Tryd.ntmps96
  go_wp2
  go_ret
  exact ⟨rfl, rfl⟩
theorem ones15 (w : World) : Calls Tryd.prog 96 #[.int .u64 15] w fun e w' => e = .returned (.int .i64 4) ∧ w' = w := by
  have h0 : bits .and .u64 7 6148914691236517205 = 5 := by decide +kernel
  have h1 : bits .and .u64 15 6148914691236517205 = 5 := by decide +kernel
  have h2 : bits .and .u64 2 3689348814741910323 = 2 := by decide +kernel
  have h3 : bits .and .u64 10 3689348814741910323 = 2 := by decide +kernel
  have h4 : bits .and .u64 4 1085102592571150095 = 4 := by decide +kernel
  have h5 : bits .and .i64 4 127 = 4 := by decide +kernel
  go_enter Tryd.func96, Tryd.ntmps96
  go_wp2
  go_ret
  exact ⟨rfl, rfl⟩
theorem ones16 (w : World) : Calls Tryd.prog 96 #[.int .u64 16] w fun e w' => e = .returned (.int .i64 1) ∧ w' = w := by
  have h0 : bits .and .u64 8 6148914691236517205 = 0 := by decide +kernel
  have h1 : bits .and .u64 16 6148914691236517205 = 16 := by decide +kernel
  have h2 : bits .and .u64 4 3689348814741910323 = 0 := by decide +kernel
  have h3 : bits .and .u64 16 3689348814741910323 = 16 := by decide +kernel
  have h4 : bits .and .u64 17 1085102592571150095 = 1 := by decide +kernel
  have h5 : bits .and .i64 1 127 = 1 := by decide +kernel
  go_enter Tryd.func96, Tryd.ntmps96
  go_wp2
  go_ret
  exact ⟨rfl, rfl⟩
theorem ones17 (w : World) : Calls Tryd.prog 96 #[.int .u64 17] w fun e w' => e = .returned (.int .i64 2) ∧ w' = w := by
  have h0 : bits .and .u64 8 6148914691236517205 = 0 := by decide +kernel
  have h1 : bits .and .u64 17 6148914691236517205 = 17 := by decide +kernel
  have h2 : bits .and .u64 4 3689348814741910323 = 0 := by decide +kernel
  have h3 : bits .and .u64 17 3689348814741910323 = 17 := by decide +kernel
  have h4 : bits .and .u64 18 1085102592571150095 = 2 := by decide +kernel
  have h5 : bits .and .i64 2 127 = 2 := by decide +kernel
  go_enter Tryd.func96, Tryd.ntmps96
  go_wp2
  go_ret
  exact ⟨rfl, rfl⟩
theorem ones18 (w : World) : Calls Tryd.prog 96 #[.int .u64 18] w fun e w' => e = .returned (.int .i64 2) ∧ w' = w := by
  have h0 : bits .and .u64 9 6148914691236517205 = 1 := by decide +kernel
  have h1 : bits .and .u64 18 6148914691236517205 = 16 := by decide +kernel
  have h2 : bits .and .u64 4 3689348814741910323 = 0 := by decide +kernel
  have h3 : bits .and .u64 17 3689348814741910323 = 17 := by decide +kernel
  have h4 : bits .and .u64 18 1085102592571150095 = 2 := by decide +kernel
  have h5 : bits .and .i64 2 127 = 2 := by decide +kernel
  go_enter Tryd.func96, Tryd.ntmps96
  go_wp2
  go_ret
  exact ⟨rfl, rfl⟩
theorem ones19 (w : World) : Calls Tryd.prog 96 #[.int .u64 19] w fun e w' => e = .returned (.int .i64 3) ∧ w' = w := by
  have h0 : bits .and .u64 9 6148914691236517205 = 1 := by decide +kernel
  have h1 : bits .and .u64 19 6148914691236517205 = 17 := by decide +kernel
  have h2 : bits .and .u64 4 3689348814741910323 = 0 := by decide +kernel
  have h3 : bits .and .u64 18 3689348814741910323 = 18 := by decide +kernel
  have h4 : bits .and .u64 19 1085102592571150095 = 3 := by decide +kernel
  have h5 : bits .and .i64 3 127 = 3 := by decide +kernel
  go_enter Tryd.func96, Tryd.ntmps96
  go_wp2
  go_ret
  exact ⟨rfl, rfl⟩
theorem ones20 (w : World) : Calls Tryd.prog 96 #[.int .u64 20] w fun e w' => e = .returned (.int .i64 2) ∧ w' = w := by
  have h0 : bits .and .u64 10 6148914691236517205 = 0 := by decide +kernel
  have h1 : bits .and .u64 20 6148914691236517205 = 20 := by decide +kernel
  have h2 : bits .and .u64 5 3689348814741910323 = 1 := by decide +kernel
  have h3 : bits .and .u64 20 3689348814741910323 = 16 := by decide +kernel
  have h4 : bits .and .u64 18 1085102592571150095 = 2 := by decide +kernel
  have h5 : bits .and .i64 2 127 = 2 := by decide +kernel
  go_enter Tryd.func96, Tryd.ntmps96
  go_wp2
  go_ret
  exact ⟨rfl, rfl⟩
theorem ones21 (w : World) : Calls Tryd.prog 96 #[.int .u64 21] w fun e w' => e = .returned (.int .i64 3) ∧ w' = w := by
  have h0 : bits .and .u64 10 6148914691236517205 = 0 := by decide +kernel
  have h1 : bits .and .u64 21 6148914691236517205 = 21 := by decide +kernel
  have h2 : bits .and .u64 5 3689348814741910323 = 1 := by decide +kernel
  have h3 : bits .and .u64 21 3689348814741910323 = 17 := by decide +kernel
  have h4 : bits .and .u64 19 1085102592571150095 = 3 := by decide +kernel
  have h5 : bits .and .i64 3 127 = 3 := by decide +kernel
  go_enter Tryd.func96, Tryd.ntmps96
  go_wp2
  go_ret
  exact ⟨rfl, rfl⟩
theorem ones22 (w : World) : Calls Tryd.prog 96 #[.int .u64 22] w fun e w' => e = .returned (.int .i64 3) ∧ w' = w := by
  have h0 : bits .and .u64 11 6148914691236517205 = 1 := by decide +kernel
  have h1 : bits .and .u64 22 6148914691236517205 = 20 := by decide +kernel
  have h2 : bits .and .u64 5 3689348814741910323 = 1 := by decide +kernel
  have h3 : bits .and .u64 21 3689348814741910323 = 17 := by decide +kernel
  have h4 : bits .and .u64 19 1085102592571150095 = 3 := by decide +kernel
  have h5 : bits .and .i64 3 127 = 3 := by decide +kernel
  go_enter Tryd.func96, Tryd.ntmps96
  go_wp2
  go_ret
  exact ⟨rfl, rfl⟩
theorem ones23 (w : World) : Calls Tryd.prog 96 #[.int .u64 23] w fun e w' => e = .returned (.int .i64 4) ∧ w' = w := by
  have h0 : bits .and .u64 11 6148914691236517205 = 1 := by decide +kernel
  have h1 : bits .and .u64 23 6148914691236517205 = 21 := by decide +kernel
  have h2 : bits .and .u64 5 3689348814741910323 = 1 := by decide +kernel
  have h3 : bits .and .u64 22 3689348814741910323 = 18 := by decide +kernel
  have h4 : bits .and .u64 20 1085102592571150095 = 4 := by decide +kernel
  have h5 : bits .and .i64 4 127 = 4 := by decide +kernel
  go_enter Tryd.func96, Tryd.ntmps96
  go_wp2
  go_ret
  exact ⟨rfl, rfl⟩
theorem ones24 (w : World) : Calls Tryd.prog 96 #[.int .u64 24] w fun e w' => e = .returned (.int .i64 2) ∧ w' = w := by
  have h0 : bits .and .u64 12 6148914691236517205 = 4 := by decide +kernel
  have h1 : bits .and .u64 24 6148914691236517205 = 16 := by decide +kernel
  have h2 : bits .and .u64 5 3689348814741910323 = 1 := by decide +kernel
  have h3 : bits .and .u64 20 3689348814741910323 = 16 := by decide +kernel
  have h4 : bits .and .u64 18 1085102592571150095 = 2 := by decide +kernel
  have h5 : bits .and .i64 2 127 = 2 := by decide +kernel
  go_enter Tryd.func96, Tryd.ntmps96
  go_wp2
  go_ret
  exact ⟨rfl, rfl⟩
theorem ones25 (w : World) : Calls Tryd.prog 96 #[.int .u64 25] w fun e w' => e = .returned (.int .i64 3) ∧ w' = w := by
  have h0 : bits .and .u64 12 6148914691236517205 = 4 := by decide +kernel
  have h1 : bits .and .u64 25 6148914691236517205 = 17 := by decide +kernel
  have h2 : bits .and .u64 5 3689348814741910323 = 1 := by decide +kernel
  have h3 : bits .and .u64 21 3689348814741910323 = 17 := by decide +kernel
  have h4 : bits .and .u64 19 1085102592571150095 = 3 := by decide +kernel
  have h5 : bits .and .i64 3 127 = 3 := by decide +kernel
  go_enter Tryd.func96, Tryd.ntmps96
  go_wp2
  go_ret
  exact ⟨rfl, rfl⟩
theorem ones26 (w : World) : Calls Tryd.prog 96 #[.int .u64 26] w fun e w' => e = .returned (.int .i64 3) ∧ w' = w := by
  have h0 : bits .and .u64 13 6148914691236517205 = 5 := by decide +kernel
  have h1 : bits .and .u64 26 6148914691236517205 = 16 := by decide +kernel
  have h2 : bits .and .u64 5 3689348814741910323 = 1 := by decide +kernel
  have h3 : bits .and .u64 21 3689348814741910323 = 17 := by decide +kernel
  have h4 : bits .and .u64 19 1085102592571150095 = 3 := by decide +kernel
  have h5 : bits .and .i64 3 127 = 3 := by decide +kernel
  go_enter Tryd.func96, Tryd.ntmps96
  go_wp2
  go_ret
  exact ⟨rfl, rfl⟩
theorem ones27 (w : World) : Calls Tryd.prog 96 #[.int .u64 27] w fun e w' => e = .returned (.int .i64 4) ∧ w' = w := by
  have h0 : bits .and .u64 13 6148914691236517205 = 5 := by decide +kernel
  have h1 : bits .and .u64 27 6148914691236517205 = 17 := by decide +kernel
  have h2 : bits .and .u64 5 3689348814741910323 = 1 := by decide +kernel
  have h3 : bits .and .u64 22 3689348814741910323 = 18 := by decide +kernel
  have h4 : bits .and .u64 20 1085102592571150095 = 4 := by decide +kernel
  have h5 : bits .and .i64 4 127 = 4 := by decide +kernel
  go_enter Tryd.func96, Tryd.ntmps96
  go_wp2
  go_ret
  exact ⟨rfl, rfl⟩
theorem ones28 (w : World) : Calls Tryd.prog 96 #[.int .u64 28] w fun e w' => e = .returned (.int .i64 3) ∧ w' = w := by
  have h0 : bits .and .u64 14 6148914691236517205 = 4 := by decide +kernel
  have h1 : bits .and .u64 28 6148914691236517205 = 20 := by decide +kernel
  have h2 : bits .and .u64 6 3689348814741910323 = 2 := by decide +kernel
  have h3 : bits .and .u64 24 3689348814741910323 = 16 := by decide +kernel
  have h4 : bits .and .u64 19 1085102592571150095 = 3 := by decide +kernel
  have h5 : bits .and .i64 3 127 = 3 := by decide +kernel
  go_enter Tryd.func96, Tryd.ntmps96
  go_wp2
  go_ret
  exact ⟨rfl, rfl⟩
theorem ones29 (w : World) : Calls Tryd.prog 96 #[.int .u64 29] w fun e w' => e = .returned (.int .i64 4) ∧ w' = w := by
  have h0 : bits .and .u64 14 6148914691236517205 = 4 := by decide +kernel
  have h1 : bits .and .u64 29 6148914691236517205 = 21 := by decide +kernel
  have h2 : bits .and .u64 6 3689348814741910323 = 2 := by decide +kernel
  have h3 : bits .and .u64 25 3689348814741910323 = 17 := by decide +kernel
  have h4 : bits .and .u64 20 1085102592571150095 = 4 := by decide +kernel
  have h5 : bits .and .i64 4 127 = 4 := by decide +kernel
  go_enter Tryd.func96, Tryd.ntmps96
  go_wp2
  go_ret
  exact ⟨rfl, rfl⟩
theorem ones30 (w : World) : Calls Tryd.prog 96 #[.int .u64 30] w fun e w' => e = .returned (.int .i64 4) ∧ w' = w := by
  have h0 : bits .and .u64 15 6148914691236517205 = 5 := by decide +kernel
  have h1 : bits .and .u64 30 6148914691236517205 = 20 := by decide +kernel
  have h2 : bits .and .u64 6 3689348814741910323 = 2 := by decide +kernel
  have h3 : bits .and .u64 25 3689348814741910323 = 17 := by decide +kernel
  have h4 : bits .and .u64 20 1085102592571150095 = 4 := by decide +kernel
  have h5 : bits .and .i64 4 127 = 4 := by decide +kernel
  go_enter Tryd.func96, Tryd.ntmps96
  go_wp2
  go_ret
  exact ⟨rfl, rfl⟩
theorem ones31 (w : World) : Calls Tryd.prog 96 #[.int .u64 31] w fun e w' => e = .returned (.int .i64 5) ∧ w' = w := by
  have h0 : bits .and .u64 15 6148914691236517205 = 5 := by decide +kernel
  have h1 : bits .and .u64 31 6148914691236517205 = 21 := by decide +kernel
  have h2 : bits .and .u64 6 3689348814741910323 = 2 := by decide +kernel
  have h3 : bits .and .u64 26 3689348814741910323 = 18 := by decide +kernel
  have h4 : bits .and .u64 21 1085102592571150095 = 5 := by decide +kernel
  have h5 : bits .and .i64 5 127 = 5 := by decide +kernel
  go_enter Tryd.func96, Tryd.ntmps96
  go_wp2
  go_ret
  exact ⟨rfl, rfl⟩
theorem ones32 (w : World) : Calls Tryd.prog 96 #[.int .u64 32] w fun e w' => e = .returned (.int .i64 1) ∧ w' = w := by
  have h0 : bits .and .u64 16 6148914691236517205 = 16 := by decide +kernel
  have h1 : bits .and .u64 32 6148914691236517205 = 0 := by decide +kernel
  have h2 : bits .and .u64 4 3689348814741910323 = 0 := by decide +kernel
  have h3 : bits .and .u64 16 3689348814741910323 = 16 := by decide +kernel
  have h4 : bits .and .u64 17 1085102592571150095 = 1 := by decide +kernel
  have h5 : bits .and .i64 1 127 = 1 := by decide +kernel
  go_enter Tryd.func96, Tryd.ntmps96
  go_wp2
  go_ret
  exact ⟨rfl, rfl⟩
theorem ones33 (w : World) : Calls Tryd.prog 96 #[.int .u64 33] w fun e w' => e = .returned (.int .i64 2) ∧ w' = w := by
  have h0 : bits .and .u64 16 6148914691236517205 = 16 := by decide +kernel
  have h1 : bits .and .u64 33 6148914691236517205 = 1 := by decide +kernel
  have h2 : bits .and .u64 4 3689348814741910323 = 0 := by decide +kernel
  have h3 : bits .and .u64 17 3689348814741910323 = 17 := by decide +kernel
  have h4 : bits .and .u64 18 1085102592571150095 = 2 := by decide +kernel
  have h5 : bits .and .i64 2 127 = 2 := by decide +kernel
  go_enter Tryd.func96, Tryd.ntmps96
  go_wp2
  go_ret
  exact ⟨rfl, rfl⟩
theorem ones34 (w : World) : Calls Tryd.prog 96 #[.int .u64 34] w fun e w' => e = .returned (.int .i64 2) ∧ w' = w := by
  have h0 : bits .and .u64 17 6148914691236517205 = 17 := by decide +kernel
  have h1 : bits .and .u64 34 6148914691236517205 = 0 := by decide +kernel
  have h2 : bits .and .u64 4 3689348814741910323 = 0 := by decide +kernel
  have h3 : bits .and .u64 17 3689348814741910323 = 17 := by decide +kernel
  have h4 : bits .and .u64 18 1085102592571150095 = 2 := by decide +kernel
  have h5 : bits .and .i64 2 127 = 2 := by decide +kernel
  go_enter Tryd.func96, Tryd.ntmps96
  go_wp2
  go_ret
  exact ⟨rfl, rfl⟩
theorem ones35 (w : World) : Calls Tryd.prog 96 #[.int .u64 35] w fun e w' => e = .returned (.int .i64 3) ∧ w' = w := by
  have h0 : bits .and .u64 17 6148914691236517205 = 17 := by decide +kernel
  have h1 : bits .and .u64 35 6148914691236517205 = 1 := by decide +kernel
  have h2 : bits .and .u64 4 3689348814741910323 = 0 := by decide +kernel
  have h3 : bits .and .u64 18 3689348814741910323 = 18 := by decide +kernel
  have h4 : bits .and .u64 19 1085102592571150095 = 3 := by decide +kernel
  have h5 : bits .and .i64 3 127 = 3 := by decide +kernel
  go_enter Tryd.func96, Tryd.ntmps96
  go_wp2
  go_ret
  exact ⟨rfl, rfl⟩
theorem ones36 (w : World) : Calls Tryd.prog 96 #[.int .u64 36] w fun e w' => e = .returned (.int .i64 2) ∧ w' = w := by
  have h0 : bits .and .u64 18 6148914691236517205 = 16 := by decide +kernel
  have h1 : bits .and .u64 36 6148914691236517205 = 4 := by decide +kernel
  have h2 : bits .and .u64 5 3689348814741910323 = 1 := by decide +kernel
  have h3 : bits .and .u64 20 3689348814741910323 = 16 := by decide +kernel
  have h4 : bits .and .u64 18 1085102592571150095 = 2 := by decide +kernel
  have h5 : bits .and .i64 2 127 = 2 := by decide +kernel
  go_enter Tryd.func96, Tryd.ntmps96
  go_wp2
  go_ret
  exact ⟨rfl, rfl⟩
theorem ones37 (w : World) : Calls Tryd.prog 96 #[.int .u64 37] w fun e w' => e = .returned (.int .i64 3) ∧ w' = w := by
  have h0 : bits .and .u64 18 6148914691236517205 = 16 := by decide +kernel
  have h1 : bits .and .u64 37 6148914691236517205 = 5 := by decide +kernel
  have h2 : bits .and .u64 5 3689348814741910323 = 1 := by decide +kernel
  have h3 : bits .and .u64 21 3689348814741910323 = 17 := by decide +kernel
  have h4 : bits .and .u64 19 1085102592571150095 = 3 := by decide +kernel
  have h5 : bits .and .i64 3 127 = 3 := by decide +kernel
  go_enter Tryd.func96, Tryd.ntmps96
  go_wp2
  go_ret
  exact ⟨rfl, rfl⟩
theorem ones38 (w : World) : Calls Tryd.prog 96 #[.int .u64 38] w fun e w' => e = .returned (.int .i64 3) ∧ w' = w := by
  have h0 : bits .and .u64 19 6148914691236517205 = 17 := by decide +kernel
  have h1 : bits .and .u64 38 6148914691236517205 = 4 := by decide +kernel
  have h2 : bits .and .u64 5 3689348814741910323 = 1 := by decide +kernel
  have h3 : bits .and .u64 21 3689348814741910323 = 17 := by decide +kernel
  have h4 : bits .and .u64 19 1085102592571150095 = 3 := by decide +kernel
  have h5 : bits .and .i64 3 127 = 3 := by decide +kernel
  go_enter Tryd.func96, Tryd.ntmps96
  go_wp2
  go_ret
  exact ⟨rfl, rfl⟩
theorem ones39 (w : World) : Calls Tryd.prog 96 #[.int .u64 39] w fun e w' => e = .returned (.int .i64 4) ∧ w' = w := by
  have h0 : bits .and .u64 19 6148914691236517205 = 17 := by decide +kernel
  have h1 : bits .and .u64 39 6148914691236517205 = 5 := by decide +kernel
  have h2 : bits .and .u64 5 3689348814741910323 = 1 := by decide +kernel
  have h3 : bits .and .u64 22 3689348814741910323 = 18 := by decide +kernel
  have h4 : bits .and .u64 20 1085102592571150095 = 4 := by decide +kernel
  have h5 : bits .and .i64 4 127 = 4 := by decide +kernel
  go_enter Tryd.func96, Tryd.ntmps96
  go_wp2
  go_ret
  exact ⟨rfl, rfl⟩
theorem ones40 (w : World) : Calls Tryd.prog 96 #[.int .u64 40] w fun e w' => e = .returned (.int .i64 2) ∧ w' = w := by
  have h0 : bits .and .u64 20 6148914691236517205 = 20 := by decide +kernel
  have h1 : bits .and .u64 40 6148914691236517205 = 0 := by decide +kernel
  have h2 : bits .and .u64 5 3689348814741910323 = 1 := by decide +kernel
  have h3 : bits .and .u64 20 3689348814741910323 = 16 := by decide +kernel
  have h4 : bits .and .u64 18 1085102592571150095 = 2 := by decide +kernel
  have h5 : bits .and .i64 2 127 = 2 := by decide +kernel
  go_enter Tryd.func96, Tryd.ntmps96
  go_wp2
  go_ret
  exact ⟨rfl, rfl⟩
theorem ones41 (w : World) : Calls Tryd.prog 96 #[.int .u64 41] w fun e w' => e = .returned (.int .i64 3) ∧ w' = w := by
  have h0 : bits .and .u64 20 6148914691236517205 = 20 := by decide +kernel
  have h1 : bits .and .u64 41 6148914691236517205 = 1 := by decide +kernel
  have h2 : bits .and .u64 5 3689348814741910323 = 1 := by decide +kernel
  have h3 : bits .and .u64 21 3689348814741910323 = 17 := by decide +kernel
  have h4 : bits .and .u64 19 1085102592571150095 = 3 := by decide +kernel
  have h5 : bits .and .i64 3 127 = 3 := by decide +kernel
  go_enter Tryd.func96, Tryd.ntmps96
  go_wp2
  go_ret
  exact ⟨rfl, rfl⟩
theorem ones42 (w : World) : Calls Tryd.prog 96 #[.int .u64 42] w fun e w' => e = .returned (.int .i64 3) ∧ w' = w := by
  have h0 : bits .and .u64 21 6148914691236517205 = 21 := by decide +kernel
  have h1 : bits .and .u64 42 6148914691236517205 = 0 := by decide +kernel
  have h2 : bits .and .u64 5 3689348814741910323 = 1 := by decide +kernel
  have h3 : bits .and .u64 21 3689348814741910323 = 17 := by decide +kernel
  have h4 : bits .and .u64 19 1085102592571150095 = 3 := by decide +kernel
  have h5 : bits .and .i64 3 127 = 3 := by decide +kernel
  go_enter Tryd.func96, Tryd.ntmps96
  go_wp2
  go_ret
  exact ⟨rfl, rfl⟩
theorem ones43 (w : World) : Calls Tryd.prog 96 #[.int .u64 43] w fun e w' => e = .returned (.int .i64 4) ∧ w' = w := by
  have h0 : bits .and .u64 21 6148914691236517205 = 21 := by decide +kernel
  have h1 : bits .and .u64 43 6148914691236517205 = 1 := by decide +kernel
  have h2 : bits .and .u64 5 3689348814741910323 = 1 := by decide +kernel
  have h3 : bits .and .u64 22 3689348814741910323 = 18 := by decide +kernel
  have h4 : bits .and .u64 20 1085102592571150095 = 4 := by decide +kernel
  have h5 : bits .and .i64 4 127 = 4 := by decide +kernel
  go_enter Tryd.func96, Tryd.ntmps96
  go_wp2
  go_ret
  exact ⟨rfl, rfl⟩
theorem ones44 (w : World) : Calls Tryd.prog 96 #[.int .u64 44] w fun e w' => e = .returned (.int .i64 3) ∧ w' = w := by
  have h0 : bits .and .u64 22 6148914691236517205 = 20 := by decide +kernel
  have h1 : bits .and .u64 44 6148914691236517205 = 4 := by decide +kernel
  have h2 : bits .and .u64 6 3689348814741910323 = 2 := by decide +kernel
  have h3 : bits .and .u64 24 3689348814741910323 = 16 := by decide +kernel
  have h4 : bits .and .u64 19 1085102592571150095 = 3 := by decide +kernel
  have h5 : bits .and .i64 3 127 = 3 := by decide +kernel
  go_enter Tryd.func96, Tryd.ntmps96
  go_wp2
  go_ret
  exact ⟨rfl, rfl⟩
theorem ones45 (w : World) : Calls Tryd.prog 96 #[.int .u64 45] w fun e w' => e = .returned (.int .i64 4) ∧ w' = w := by
  have h0 : bits .and .u64 22 6148914691236517205 = 20 := by decide +kernel
  have h1 : bits .and .u64 45 6148914691236517205 = 5 := by decide +kernel
  have h2 : bits .and .u64 6 3689348814741910323 = 2 := by decide +kernel
  have h3 : bits .and .u64 25 3689348814741910323 = 17 := by decide +kernel
  have h4 : bits .and .u64 20 1085102592571150095 = 4 := by decide +kernel
  have h5 : bits .and .i64 4 127 = 4 := by decide +kernel
  go_enter Tryd.func96, Tryd.ntmps96
  go_wp2
  go_ret
  exact ⟨rfl, rfl⟩
theorem ones46 (w : World) : Calls Tryd.prog 96 #[.int .u64 46] w fun e w' => e = .returned (.int .i64 4) ∧ w' = w := by
  have h0 : bits .and .u64 23 6148914691236517205 = 21 := by decide +kernel
  have h1 : bits .and .u64 46 6148914691236517205 = 4 := by decide +kernel
  have h2 : bits .and .u64 6 3689348814741910323 = 2 := by decide +kernel
  have h3 : bits .and .u64 25 3689348814741910323 = 17 := by decide +kernel
  have h4 : bits .and .u64 20 1085102592571150095 = 4 := by decide +kernel
  have h5 : bits .and .i64 4 127 = 4 := by decide +kernel
  go_enter Tryd.func96, Tryd.ntmps96
  go_wp2
  go_ret
  exact ⟨rfl, rfl⟩
theorem ones47 (w : World) : Calls Tryd.prog 96 #[.int .u64 47] w fun e w' => e = .returned (.int .i64 5) ∧ w' = w := by
  have h0 : bits .and .u64 23 6148914691236517205 = 21 := by decide +kernel
  have h1 : bits .and .u64 47 6148914691236517205 = 5 := by decide +kernel
  have h2 : bits .and .u64 6 3689348814741910323 = 2 := by decide +kernel
  have h3 : bits .and .u64 26 3689348814741910323 = 18 := by decide +kernel
  have h4 : bits .and .u64 21 1085102592571150095 = 5 := by decide +kernel
  have h5 : bits .and .i64 5 127 = 5 := by decide +kernel
  go_enter Tryd.func96, Tryd.ntmps96
  go_wp2
  go_ret
  exact ⟨rfl, rfl⟩
theorem ones48 (w : World) : Calls Tryd.prog 96 #[.int .u64 48] w fun e w' => e = .returned (.int .i64 2) ∧ w' = w := by
  have h0 : bits .and .u64 24 6148914691236517205 = 16 := by decide +kernel
  have h1 : bits .and .u64 48 6148914691236517205 = 16 := by decide +kernel
  have h2 : bits .and .u64 8 3689348814741910323 = 0 := by decide +kernel
  have h3 : bits .and .u64 32 3689348814741910323 = 32 := by decide +kernel
  have h4 : bits .and .u64 34 1085102592571150095 = 2 := by decide +kernel
  have h5 : bits .and .i64 2 127 = 2 := by decide +kernel
  go_enter Tryd.func96, Tryd.ntmps96
  go_wp2
  go_ret
  exact ⟨rfl, rfl⟩
theorem ones49 (w : World) : Calls Tryd.prog 96 #[.int .u64 49] w fun e w' => e = .returned (.int .i64 3) ∧ w' = w := by
  have h0 : bits .and .u64 24 6148914691236517205 = 16 := by decide +kernel
  have h1 : bits .and .u64 49 6148914691236517205 = 17 := by decide +kernel
  have h2 : bits .and .u64 8 3689348814741910323 = 0 := by decide +kernel
  have h3 : bits .and .u64 33 3689348814741910323 = 33 := by decide +kernel
  have h4 : bits .and .u64 35 1085102592571150095 = 3 := by decide +kernel
  have h5 : bits .and .i64 3 127 = 3 := by decide +kernel
  go_enter Tryd.func96, Tryd.ntmps96
  go_wp2
  go_ret
  exact ⟨rfl, rfl⟩
theorem ones50 (w : World) : Calls Tryd.prog 96 #[.int .u64 50] w fun e w' => e = .returned (.int .i64 3) ∧ w' = w := by
  have h0 : bits .and .u64 25 6148914691236517205 = 17 := by decide +kernel
  have h1 : bits .and .u64 50 6148914691236517205 = 16 := by decide +kernel
  have h2 : bits .and .u64 8 3689348814741910323 = 0 := by decide +kernel
  have h3 : bits .and .u64 33 3689348814741910323 = 33 := by decide +kernel
  have h4 : bits .and .u64 35 1085102592571150095 = 3 := by decide +kernel
  have h5 : bits .and .i64 3 127 = 3 := by decide +kernel
  go_enter Tryd.func96, Tryd.ntmps96
  go_wp2
  go_ret
  exact ⟨rfl, rfl⟩
theorem ones51 (w : World) : Calls Tryd.prog 96 #[.int .u64 51] w fun e w' => e = .returned (.int .i64 4) ∧ w' = w := by
  have h0 : bits .and .u64 25 6148914691236517205 = 17 := by decide +kernel
  have h1 : bits .and .u64 51 6148914691236517205 = 17 := by decide +kernel
  have h2 : bits .and .u64 8 3689348814741910323 = 0 := by decide +kernel
  have h3 : bits .and .u64 34 3689348814741910323 = 34 := by decide +kernel
  have h4 : bits .and .u64 36 1085102592571150095 = 4 := by decide +kernel
  have h5 : bits .and .i64 4 127 = 4 := by decide +kernel
  go_enter Tryd.func96, Tryd.ntmps96
  go_wp2
  go_ret
  exact ⟨rfl, rfl⟩
theorem ones52 (w : World) : Calls Tryd.prog 96 #[.int .u64 52] w fun e w' => e = .returned (.int .i64 3) ∧ w' = w := by
  have h0 : bits .and .u64 26 6148914691236517205 = 16 := by decide +kernel
  have h1 : bits .and .u64 52 6148914691236517205 = 20 := by decide +kernel
  have h2 : bits .and .u64 9 3689348814741910323 = 1 := by decide +kernel
  have h3 : bits .and .u64 36 3689348814741910323 = 32 := by decide +kernel
  have h4 : bits .and .u64 35 1085102592571150095 = 3 := by decide +kernel
  have h5 : bits .and .i64 3 127 = 3 := by decide +kernel
  go_enter Tryd.func96, Tryd.ntmps96
  go_wp2
  go_ret
  exact ⟨rfl, rfl⟩
theorem ones53 (w : World) : Calls Tryd.prog 96 #[.int .u64 53] w fun e w' => e = .returned (.int .i64 4) ∧ w' = w := by
  have h0 : bits .and .u64 26 6148914691236517205 = 16 := by decide +kernel
  have h1 : bits .and .u64 53 6148914691236517205 = 21 := by decide +kernel
  have h2 : bits .and .u64 9 3689348814741910323 = 1 := by decide +kernel
  have h3 : bits .and .u64 37 3689348814741910323 = 33 := by decide +kernel
  have h4 : bits .and .u64 36 1085102592571150095 = 4 := by decide +kernel
  have h5 : bits .and .i64 4 127 = 4 := by decide +kernel
  go_enter Tryd.func96, Tryd.ntmps96
  go_wp2
  go_ret
  exact ⟨rfl, rfl⟩
theorem ones54 (w : World) : Calls Tryd.prog 96 #[.int .u64 54] w fun e w' => e = .returned (.int .i64 4) ∧ w' = w := by
  have h0 : bits .and .u64 27 6148914691236517205 = 17 := by decide +kernel
  have h1 : bits .and .u64 54 6148914691236517205 = 20 := by decide +kernel
  have h2 : bits .and .u64 9 3689348814741910323 = 1 := by decide +kernel
  have h3 : bits .and .u64 37 3689348814741910323 = 33 := by decide +kernel
  have h4 : bits .and .u64 36 1085102592571150095 = 4 := by decide +kernel
  have h5 : bits .and .i64 4 127 = 4 := by decide +kernel
  go_enter Tryd.func96, Tryd.ntmps96
  go_wp2
  go_ret
  exact ⟨rfl, rfl⟩
theorem ones55 (w : World) : Calls Tryd.prog 96 #[.int .u64 55] w fun e w' => e = .returned (.int .i64 5) ∧ w' = w := by
  have h0 : bits .and .u64 27 6148914691236517205 = 17 := by decide +kernel
  have h1 : bits .and .u64 55 6148914691236517205 = 21 := by decide +kernel
  have h2 : bits .and .u64 9 3689348814741910323 = 1 := by decide +kernel
  have h3 : bits .and .u64 38 3689348814741910323 = 34 := by decide +kernel
  have h4 : bits .and .u64 37 1085102592571150095 = 5 := by decide +kernel
  have h5 : bits .and .i64 5 127 = 5 := by decide +kernel
  go_enter Tryd.func96, Tryd.ntmps96
  go_wp2
  go_ret
  exact ⟨rfl, rfl⟩
theorem ones56 (w : World) : Calls Tryd.prog 96 #[.int .u64 56] w fun e w' => e = .returned (.int .i64 3) ∧ w' = w := by
  have h0 : bits .and .u64 28 6148914691236517205 = 20 := by decide +kernel
  have h1 : bits .and .u64 56 6148914691236517205 = 16 := by decide +kernel
  have h2 : bits .and .u64 9 3689348814741910323 = 1 := by decide +kernel
  have h3 : bits .and .u64 36 3689348814741910323 = 32 := by decide +kernel
  have h4 : bits .and .u64 35 1085102592571150095 = 3 := by decide +kernel
  have h5 : bits .and .i64 3 127 = 3 := by decide +kernel
  go_enter Tryd.func96, Tryd.ntmps96
  go_wp2
  go_ret
  exact ⟨rfl, rfl⟩
theorem ones57 (w : World) : Calls Tryd.prog 96 #[.int .u64 57] w fun e w' => e = .returned (.int .i64 4) ∧ w' = w := by
  have h0 : bits .and .u64 28 6148914691236517205 = 20 := by decide +kernel
  have h1 : bits .and .u64 57 6148914691236517205 = 17 := by decide +kernel
  have h2 : bits .and .u64 9 3689348814741910323 = 1 := by decide +kernel
  have h3 : bits .and .u64 37 3689348814741910323 = 33 := by decide +kernel
  have h4 : bits .and .u64 36 1085102592571150095 = 4 := by decide +kernel
  have h5 : bits .and .i64 4 127 = 4 := by decide +kernel
  go_enter Tryd.func96, Tryd.ntmps96
  go_wp2
  go_ret
  exact ⟨rfl, rfl⟩
theorem ones58 (w : World) : Calls Tryd.prog 96 #[.int .u64 58] w fun e w' => e = .returned (.int .i64 4) ∧ w' = w := by
  have h0 : bits .and .u64 29 6148914691236517205 = 21 := by decide +kernel
  have h1 : bits .and .u64 58 6148914691236517205 = 16 := by decide +kernel
  have h2 : bits .and .u64 9 3689348814741910323 = 1 := by decide +kernel
  have h3 : bits .and .u64 37 3689348814741910323 = 33 := by decide +kernel
  have h4 : bits .and .u64 36 1085102592571150095 = 4 := by decide +kernel
  have h5 : bits .and .i64 4 127 = 4 := by decide +kernel
  go_enter Tryd.func96, Tryd.ntmps96
  go_wp2
  go_ret
  exact ⟨rfl, rfl⟩
theorem ones59 (w : World) : Calls Tryd.prog 96 #[.int .u64 59] w fun e w' => e = .returned (.int .i64 5) ∧ w' = w := by
  have h0 : bits .and .u64 29 6148914691236517205 = 21 := by decide +kernel
  have h1 : bits .and .u64 59 6148914691236517205 = 17 := by decide +kernel
  have h2 : bits .and .u64 9 3689348814741910323 = 1 := by decide +kernel
  have h3 : bits .and .u64 38 3689348814741910323 = 34 := by decide +kernel
  have h4 : bits .and .u64 37 1085102592571150095 = 5 := by decide +kernel
  have h5 : bits .and .i64 5 127 = 5 := by decide +kernel
  go_enter Tryd.func96, Tryd.ntmps96
  go_wp2
  go_ret
  exact ⟨rfl, rfl⟩
theorem ones60 (w : World) : Calls Tryd.prog 96 #[.int .u64 60] w fun e w' => e = .returned (.int .i64 4) ∧ w' = w := by
  have h0 : bits .and .u64 30 6148914691236517205 = 20 := by decide +kernel
  have h1 : bits .and .u64 60 6148914691236517205 = 20 := by decide +kernel
  have h2 : bits .and .u64 10 3689348814741910323 = 2 := by decide +kernel
  have h3 : bits .and .u64 40 3689348814741910323 = 32 := by decide +kernel
  have h4 : bits .and .u64 36 1085102592571150095 = 4 := by decide +kernel
  have h5 : bits .and .i64 4 127 = 4 := by decide +kernel
  go_enter Tryd.func96, Tryd.ntmps96
  go_wp2
  go_ret
  exact ⟨rfl, rfl⟩
theorem ones61 (w : World) : Calls Tryd.prog 96 #[.int .u64 61] w fun e w' => e = .returned (.int .i64 5) ∧ w' = w := by
  have h0 : bits .and .u64 30 6148914691236517205 = 20 := by decide +kernel
  have h1 : bits .and .u64 61 6148914691236517205 = 21 := by decide +kernel
  have h2 : bits .and .u64 10 3689348814741910323 = 2 := by decide +kernel
  have h3 : bits .and .u64 41 3689348814741910323 = 33 := by decide +kernel
  have h4 : bits .and .u64 37 1085102592571150095 = 5 := by decide +kernel
  have h5 : bits .and .i64 5 127 = 5 := by decide +kernel
  go_enter Tryd.func96, Tryd.ntmps96
  go_wp2
  go_ret
  exact ⟨rfl, rfl⟩
theorem ones62 (w : World) : Calls Tryd.prog 96 #[.int .u64 62] w fun e w' => e = .returned (.int .i64 5) ∧ w' = w := by
  have h0 : bits .and .u64 31 6148914691236517205 = 21 := by decide +kernel
  have h1 : bits .and .u64 62 6148914691236517205 = 20 := by decide +kernel
  have h2 : bits .and .u64 10 3689348814741910323 = 2 := by decide +kernel
  have h3 : bits .and .u64 41 3689348814741910323 = 33 := by decide +kernel
  have h4 : bits .and .u64 37 1085102592571150095 = 5 := by decide +kernel
  have h5 : bits .and .i64 5 127 = 5 := by decide +kernel
  go_enter Tryd.func96, Tryd.ntmps96
  go_wp2
  go_ret
  exact ⟨rfl, rfl⟩
theorem ones63 (w : World) : Calls Tryd.prog 96 #[.int .u64 63] w fun e w' => e = .returned (.int .i64 6) ∧ w' = w := by
  have h0 : bits .and .u64 31 6148914691236517205 = 21 := by decide +kernel
  have h1 : bits .and .u64 63 6148914691236517205 = 21 := by decide +kernel
  have h2 : bits .and .u64 10 3689348814741910323 = 2 := by decide +kernel
  have h3 : bits .and .u64 42 3689348814741910323 = 34 := by decide +kernel
  have h4 : bits .and .u64 38 1085102592571150095 = 6 := by decide +kernel
  have h5 : bits .and .i64 6 127 = 6 := by decide +kernel
  go_enter Tryd.func96, Tryd.ntmps96
  go_wp2
  go_ret
  exact ⟨rfl, rfl⟩
theorem tz1 (w : World) (h : isDb w) : Calls Tryd.prog 94 #[.int .u64 1] w fun e w' => e = .returned (.int .i64 0) ∧ w' = w := by
  have c := h.c0
  have hb : bits .and .u64 1 18446744073709551615 = 1 := by decide +kernel
  have hn : IntKind.u64.wrap (-1) = 18446744073709551615 := by decide +kernel
  have hm : IntKind.u64.wrap 285870213051353865 = 285870213051353865 := by decide +kernel
  clear h
  go_enter Tryd.func94, Tryd.ntmps94
  go_wp2
  go_ret
  exact ⟨rfl, rfl⟩
theorem tz2 (w : World) (h : isDb w) : Calls Tryd.prog 94 #[.int .u64 2] w fun e w' => e = .returned (.int .i64 1) ∧ w' = w := by
  have c := h.c1
  have hb : bits .and .u64 2 18446744073709551614 = 2 := by decide +kernel
  have hn : IntKind.u64.wrap (-2) = 18446744073709551614 := by decide +kernel
  have hm : IntKind.u64.wrap 571740426102707730 = 571740426102707730 := by decide +kernel
  clear h
  go_enter Tryd.func94, Tryd.ntmps94
  go_wp2
  go_ret
  exact ⟨rfl, rfl⟩
theorem tz3 (w : World) (h : isDb w) : Calls Tryd.prog 94 #[.int .u64 3] w fun e w' => e = .returned (.int .i64 0) ∧ w' = w := by
  have c := h.c0
  have hb : bits .and .u64 3 18446744073709551613 = 1 := by decide +kernel
  have hn : IntKind.u64.wrap (-3) = 18446744073709551613 := by decide +kernel
  have hm : IntKind.u64.wrap 285870213051353865 = 285870213051353865 := by decide +kernel
  clear h
  go_enter Tryd.func94, Tryd.ntmps94
  go_wp2
  go_ret
  exact ⟨rfl, rfl⟩
theorem tz4 (w : World) (h : isDb w) : Calls Tryd.prog 94 #[.int .u64 4] w fun e w' => e = .returned (.int .i64 2) ∧ w' = w := by
  have c := h.c2
  have hb : bits .and .u64 4 18446744073709551612 = 4 := by decide +kernel
  have hn : IntKind.u64.wrap (-4) = 18446744073709551612 := by decide +kernel
  have hm : IntKind.u64.wrap 1143480852205415460 = 1143480852205415460 := by decide +kernel
  clear h
  go_enter Tryd.func94, Tryd.ntmps94
  go_wp2
  go_ret
  exact ⟨rfl, rfl⟩
theorem tz5 (w : World) (h : isDb w) : Calls Tryd.prog 94 #[.int .u64 5] w fun e w' => e = .returned (.int .i64 0) ∧ w' = w := by
  have c := h.c0
  have hb : bits .and .u64 5 18446744073709551611 = 1 := by decide +kernel
  have hn : IntKind.u64.wrap (-5) = 18446744073709551611 := by decide +kernel
  have hm : IntKind.u64.wrap 285870213051353865 = 285870213051353865 := by decide +kernel
  clear h
  go_enter Tryd.func94, Tryd.ntmps94
  go_wp2
  go_ret
  exact ⟨rfl, rfl⟩
theorem tz6 (w : World) (h : isDb w) : Calls Tryd.prog 94 #[.int .u64 6] w fun e w' => e = .returned (.int .i64 1) ∧ w' = w := by
  have c := h.c1
  have hb : bits .and .u64 6 18446744073709551610 = 2 := by decide +kernel
  have hn : IntKind.u64.wrap (-6) = 18446744073709551610 := by decide +kernel
  have hm : IntKind.u64.wrap 571740426102707730 = 571740426102707730 := by decide +kernel
  clear h
  go_enter Tryd.func94, Tryd.ntmps94
  go_wp2
  go_ret
  exact ⟨rfl, rfl⟩
theorem tz7 (w : World) (h : isDb w) : Calls Tryd.prog 94 #[.int .u64 7] w fun e w' => e = .returned (.int .i64 0) ∧ w' = w := by
  have c := h.c0
  have hb : bits .and .u64 7 18446744073709551609 = 1 := by decide +kernel
  have hn : IntKind.u64.wrap (-7) = 18446744073709551609 := by decide +kernel
  have hm : IntKind.u64.wrap 285870213051353865 = 285870213051353865 := by decide +kernel
  clear h
  go_enter Tryd.func94, Tryd.ntmps94
  go_wp2
  go_ret
  exact ⟨rfl, rfl⟩
theorem tz8 (w : World) (h : isDb w) : Calls Tryd.prog 94 #[.int .u64 8] w fun e w' => e = .returned (.int .i64 3) ∧ w' = w := by
  have c := h.c3
  have hb : bits .and .u64 8 18446744073709551608 = 8 := by decide +kernel
  have hn : IntKind.u64.wrap (-8) = 18446744073709551608 := by decide +kernel
  have hm : IntKind.u64.wrap 2286961704410830920 = 2286961704410830920 := by decide +kernel
  clear h
  go_enter Tryd.func94, Tryd.ntmps94
  go_wp2
  go_ret
  exact ⟨rfl, rfl⟩
theorem tz9 (w : World) (h : isDb w) : Calls Tryd.prog 94 #[.int .u64 9] w fun e w' => e = .returned (.int .i64 0) ∧ w' = w := by
  have c := h.c0
  have hb : bits .and .u64 9 18446744073709551607 = 1 := by decide +kernel
  have hn : IntKind.u64.wrap (-9) = 18446744073709551607 := by decide +kernel
  have hm : IntKind.u64.wrap 285870213051353865 = 285870213051353865 := by decide +kernel
  clear h
  go_enter Tryd.func94, Tryd.ntmps94
  go_wp2
  go_ret
  exact ⟨rfl, rfl⟩
theorem tz10 (w : World) (h : isDb w) : Calls Tryd.prog 94 #[.int .u64 10] w fun e w' => e = .returned (.int .i64 1) ∧ w' = w := by
  have c := h.c1
  have hb : bits .and .u64 10 18446744073709551606 = 2 := by decide +kernel
  have hn : IntKind.u64.wrap (-10) = 18446744073709551606 := by decide +kernel
  have hm : IntKind.u64.wrap 571740426102707730 = 571740426102707730 := by decide +kernel
  clear h
  go_enter Tryd.func94, Tryd.ntmps94
  go_wp2
  go_ret
  exact ⟨rfl, rfl⟩
theorem tz11 (w : World) (h : isDb w) : Calls Tryd.prog 94 #[.int .u64 11] w fun e w' => e = .returned (.int .i64 0) ∧ w' = w := by
  have c := h.c0
  have hb : bits .and .u64 11 18446744073709551605 = 1 := by decide +kernel
  have hn : IntKind.u64.wrap (-11) = 18446744073709551605 := by decide +kernel
  have hm : IntKind.u64.wrap 285870213051353865 = 285870213051353865 := by decide +kernel
  clear h
  go_enter Tryd.func94, Tryd.ntmps94
  go_wp2
  go_ret
  exact ⟨rfl, rfl⟩
theorem tz12 (w : World) (h : isDb w) : Calls Tryd.prog 94 #[.int .u64 12] w fun e w' => e = .returned (.int .i64 2) ∧ w' = w := by
  have c := h.c2
  have hb : bits .and .u64 12 18446744073709551604 = 4 := by decide +kernel
  have hn : IntKind.u64.wrap (-12) = 18446744073709551604 := by decide +kernel
  have hm : IntKind.u64.wrap 1143480852205415460 = 1143480852205415460 := by decide +kernel
  clear h
  go_enter Tryd.func94, Tryd.ntmps94
  go_wp2
  go_ret
  exact ⟨rfl, rfl⟩
theorem tz13 (w : World) (h : isDb w) : Calls Tryd.prog 94 #[.int .u64 13] w fun e w' => e = .returned (.int .i64 0) ∧ w' = w := by
  have c := h.c0
  have hb : bits .and .u64 13 18446744073709551603 = 1 := by decide +kernel
  have hn : IntKind.u64.wrap (-13) = 18446744073709551603 := by decide +kernel
  have hm : IntKind.u64.wrap 285870213051353865 = 285870213051353865 := by decide +kernel
  clear h
  go_enter Tryd.func94, Tryd.ntmps94
  go_wp2
  go_ret
  exact ⟨rfl, rfl⟩
theorem tz14 (w : World) (h : isDb w) : Calls Tryd.prog 94 #[.int .u64 14] w fun e w' => e = .returned (.int .i64 1) ∧ w' = w := by
  have c := h.c1
  have hb : bits .and .u64 14 18446744073709551602 = 2 := by decide +kernel
  have hn : IntKind.u64.wrap (-14) = 18446744073709551602 := by decide +kernel
  have hm : IntKind.u64.wrap 571740426102707730 = 571740426102707730 := by decide +kernel
  clear h
  go_enter Tryd.func94, Tryd.ntmps94
  go_wp2
  go_ret
  exact ⟨rfl, rfl⟩
theorem tz15 (w : World) (h : isDb w) : Calls Tryd.prog 94 #[.int .u64 15] w fun e w' => e = .returned (.int .i64 0) ∧ w' = w := by
  have c := h.c0
  have hb : bits .and .u64 15 18446744073709551601 = 1 := by decide +kernel
  have hn : IntKind.u64.wrap (-15) = 18446744073709551601 := by decide +kernel
  have hm : IntKind.u64.wrap 285870213051353865 = 285870213051353865 := by decide +kernel
  clear h
  go_enter Tryd.func94, Tryd.ntmps94
  go_wp2
  go_ret
  exact ⟨rfl, rfl⟩
theorem tz16 (w : World) (h : isDb w) : Calls Tryd.prog 94 #[.int .u64 16] w fun e w' => e = .returned (.int .i64 4) ∧ w' = w := by
  have c := h.c4
  have hb : bits .and .u64 16 18446744073709551600 = 16 := by decide +kernel
  have hn : IntKind.u64.wrap (-16) = 18446744073709551600 := by decide +kernel
  have hm : IntKind.u64.wrap 4573923408821661840 = 4573923408821661840 := by decide +kernel
  clear h
  go_enter Tryd.func94, Tryd.ntmps94
  go_wp2
  go_ret
  exact ⟨rfl, rfl⟩
theorem tz17 (w : World) (h : isDb w) : Calls Tryd.prog 94 #[.int .u64 17] w fun e w' => e = .returned (.int .i64 0) ∧ w' = w := by
  have c := h.c0
  have hb : bits .and .u64 17 18446744073709551599 = 1 := by decide +kernel
  have hn : IntKind.u64.wrap (-17) = 18446744073709551599 := by decide +kernel
  have hm : IntKind.u64.wrap 285870213051353865 = 285870213051353865 := by decide +kernel
  clear h
  go_enter Tryd.func94, Tryd.ntmps94
  go_wp2
  go_ret
  exact ⟨rfl, rfl⟩
theorem tz18 (w : World) (h : isDb w) : Calls Tryd.prog 94 #[.int .u64 18] w fun e w' => e = .returned (.int .i64 1) ∧ w' = w := by
  have c := h.c1
  have hb : bits .and .u64 18 18446744073709551598 = 2 := by decide +kernel
  have hn : IntKind.u64.wrap (-18) = 18446744073709551598 := by decide +kernel
  have hm : IntKind.u64.wrap 571740426102707730 = 571740426102707730 := by decide +kernel
  clear h
  go_enter Tryd.func94, Tryd.ntmps94
  go_wp2
  go_ret
  exact ⟨rfl, rfl⟩
theorem tz19 (w : World) (h : isDb w) : Calls Tryd.prog 94 #[.int .u64 19] w fun e w' => e = .returned (.int .i64 0) ∧ w' = w := by
  have c := h.c0
  have hb : bits .and .u64 19 18446744073709551597 = 1 := by decide +kernel
  have hn : IntKind.u64.wrap (-19) = 18446744073709551597 := by decide +kernel
  have hm : IntKind.u64.wrap 285870213051353865 = 285870213051353865 := by decide +kernel
  clear h
  go_enter Tryd.func94, Tryd.ntmps94
  go_wp2
  go_ret
  exact ⟨rfl, rfl⟩
theorem tz20 (w : World) (h : isDb w) : Calls Tryd.prog 94 #[.int .u64 20] w fun e w' => e = .returned (.int .i64 2) ∧ w' = w := by
  have c := h.c2
  have hb : bits .and .u64 20 18446744073709551596 = 4 := by decide +kernel
  have hn : IntKind.u64.wrap (-20) = 18446744073709551596 := by decide +kernel
  have hm : IntKind.u64.wrap 1143480852205415460 = 1143480852205415460 := by decide +kernel
  clear h
  go_enter Tryd.func94, Tryd.ntmps94
  go_wp2
  go_ret
  exact ⟨rfl, rfl⟩
theorem tz21 (w : World) (h : isDb w) : Calls Tryd.prog 94 #[.int .u64 21] w fun e w' => e = .returned (.int .i64 0) ∧ w' = w := by
  have c := h.c0
  have hb : bits .and .u64 21 18446744073709551595 = 1 := by decide +kernel
  have hn : IntKind.u64.wrap (-21) = 18446744073709551595 := by decide +kernel
  have hm : IntKind.u64.wrap 285870213051353865 = 285870213051353865 := by decide +kernel
  clear h
  go_enter Tryd.func94, Tryd.ntmps94
  go_wp2
  go_ret
  exact ⟨rfl, rfl⟩
theorem tz22 (w : World) (h : isDb w) : Calls Tryd.prog 94 #[.int .u64 22] w fun e w' => e = .returned (.int .i64 1) ∧ w' = w := by
  have c := h.c1
  have hb : bits .and .u64 22 18446744073709551594 = 2 := by decide +kernel
  have hn : IntKind.u64.wrap (-22) = 18446744073709551594 := by decide +kernel
  have hm : IntKind.u64.wrap 571740426102707730 = 571740426102707730 := by decide +kernel
  clear h
  go_enter Tryd.func94, Tryd.ntmps94
  go_wp2
  go_ret
  exact ⟨rfl, rfl⟩
theorem tz23 (w : World) (h : isDb w) : Calls Tryd.prog 94 #[.int .u64 23] w fun e w' => e = .returned (.int .i64 0) ∧ w' = w := by
  have c := h.c0
  have hb : bits .and .u64 23 18446744073709551593 = 1 := by decide +kernel
  have hn : IntKind.u64.wrap (-23) = 18446744073709551593 := by decide +kernel
  have hm : IntKind.u64.wrap 285870213051353865 = 285870213051353865 := by decide +kernel
  clear h
  go_enter Tryd.func94, Tryd.ntmps94
  go_wp2
  go_ret
  exact ⟨rfl, rfl⟩
theorem tz24 (w : World) (h : isDb w) : Calls Tryd.prog 94 #[.int .u64 24] w fun e w' => e = .returned (.int .i64 3) ∧ w' = w := by
  have c := h.c3
  have hb : bits .and .u64 24 18446744073709551592 = 8 := by decide +kernel
  have hn : IntKind.u64.wrap (-24) = 18446744073709551592 := by decide +kernel
  have hm : IntKind.u64.wrap 2286961704410830920 = 2286961704410830920 := by decide +kernel
  clear h
  go_enter Tryd.func94, Tryd.ntmps94
  go_wp2
  go_ret
  exact ⟨rfl, rfl⟩
theorem tz25 (w : World) (h : isDb w) : Calls Tryd.prog 94 #[.int .u64 25] w fun e w' => e = .returned (.int .i64 0) ∧ w' = w := by
  have c := h.c0
  have hb : bits .and .u64 25 18446744073709551591 = 1 := by decide +kernel
  have hn : IntKind.u64.wrap (-25) = 18446744073709551591 := by decide +kernel
  have hm : IntKind.u64.wrap 285870213051353865 = 285870213051353865 := by decide +kernel
  clear h
  go_enter Tryd.func94, Tryd.ntmps94
  go_wp2
  go_ret
  exact ⟨rfl, rfl⟩
theorem tz26 (w : World) (h : isDb w) : Calls Tryd.prog 94 #[.int .u64 26] w fun e w' => e = .returned (.int .i64 1) ∧ w' = w := by
  have c := h.c1
  have hb : bits .and .u64 26 18446744073709551590 = 2 := by decide +kernel
  have hn : IntKind.u64.wrap (-26) = 18446744073709551590 := by decide +kernel
  have hm : IntKind.u64.wrap 571740426102707730 = 571740426102707730 := by decide +kernel
  clear h
  go_enter Tryd.func94, Tryd.ntmps94
  go_wp2
  go_ret
  exact ⟨rfl, rfl⟩
theorem tz27 (w : World) (h : isDb w) : Calls Tryd.prog 94 #[.int .u64 27] w fun e w' => e = .returned (.int .i64 0) ∧ w' = w := by
  have c := h.c0
  have hb : bits .and .u64 27 18446744073709551589 = 1 := by decide +kernel
  have hn : IntKind.u64.wrap (-27) = 18446744073709551589 := by decide +kernel
  have hm : IntKind.u64.wrap 285870213051353865 = 285870213051353865 := by decide +kernel
  clear h
  go_enter Tryd.func94, Tryd.ntmps94
  go_wp2
  go_ret
  exact ⟨rfl, rfl⟩
theorem tz28 (w : World) (h : isDb w) : Calls Tryd.prog 94 #[.int .u64 28] w fun e w' => e = .returned (.int .i64 2) ∧ w' = w := by
  have c := h.c2
  have hb : bits .and .u64 28 18446744073709551588 = 4 := by decide +kernel
  have hn : IntKind.u64.wrap (-28) = 18446744073709551588 := by decide +kernel
  have hm : IntKind.u64.wrap 1143480852205415460 = 1143480852205415460 := by decide +kernel
  clear h
  go_enter Tryd.func94, Tryd.ntmps94
  go_wp2
  go_ret
  exact ⟨rfl, rfl⟩
theorem tz29 (w : World) (h : isDb w) : Calls Tryd.prog 94 #[.int .u64 29] w fun e w' => e = .returned (.int .i64 0) ∧ w' = w := by
  have c := h.c0
  have hb : bits .and .u64 29 18446744073709551587 = 1 := by decide +kernel
  have hn : IntKind.u64.wrap (-29) = 18446744073709551587 := by decide +kernel
  have hm : IntKind.u64.wrap 285870213051353865 = 285870213051353865 := by decide +kernel
  clear h
  go_enter Tryd.func94, Tryd.ntmps94
  go_wp2
  go_ret
  exact ⟨rfl, rfl⟩
theorem tz30 (w : World) (h : isDb w) : Calls Tryd.prog 94 #[.int .u64 30] w fun e w' => e = .returned (.int .i64 1) ∧ w' = w := by
  have c := h.c1
  have hb : bits .and .u64 30 18446744073709551586 = 2 := by decide +kernel
  have hn : IntKind.u64.wrap (-30) = 18446744073709551586 := by decide +kernel
  have hm : IntKind.u64.wrap 571740426102707730 = 571740426102707730 := by decide +kernel
  clear h
  go_enter Tryd.func94, Tryd.ntmps94
  go_wp2
  go_ret
  exact ⟨rfl, rfl⟩
theorem tz31 (w : World) (h : isDb w) : Calls Tryd.prog 94 #[.int .u64 31] w fun e w' => e = .returned (.int .i64 0) ∧ w' = w := by
  have c := h.c0
  have hb : bits .and .u64 31 18446744073709551585 = 1 := by decide +kernel
  have hn : IntKind.u64.wrap (-31) = 18446744073709551585 := by decide +kernel
  have hm : IntKind.u64.wrap 285870213051353865 = 285870213051353865 := by decide +kernel
  clear h
  go_enter Tryd.func94, Tryd.ntmps94
  go_wp2
  go_ret
  exact ⟨rfl, rfl⟩
theorem tz32 (w : World) (h : isDb w) : Calls Tryd.prog 94 #[.int .u64 32] w fun e w' => e = .returned (.int .i64 5) ∧ w' = w := by
  have c := h.c5
  have hb : bits .and .u64 32 18446744073709551584 = 32 := by decide +kernel
  have hn : IntKind.u64.wrap (-32) = 18446744073709551584 := by decide +kernel
  have hm : IntKind.u64.wrap 9147846817643323680 = 9147846817643323680 := by decide +kernel
  clear h
  go_enter Tryd.func94, Tryd.ntmps94
  go_wp2
  go_ret
  exact ⟨rfl, rfl⟩
theorem tz33 (w : World) (h : isDb w) : Calls Tryd.prog 94 #[.int .u64 33] w fun e w' => e = .returned (.int .i64 0) ∧ w' = w := by
  have c := h.c0
  have hb : bits .and .u64 33 18446744073709551583 = 1 := by decide +kernel
  have hn : IntKind.u64.wrap (-33) = 18446744073709551583 := by decide +kernel
  have hm : IntKind.u64.wrap 285870213051353865 = 285870213051353865 := by decide +kernel
  clear h
  go_enter Tryd.func94, Tryd.ntmps94
  go_wp2
  go_ret
  exact ⟨rfl, rfl⟩
theorem tz34 (w : World) (h : isDb w) : Calls Tryd.prog 94 #[.int .u64 34] w fun e w' => e = .returned (.int .i64 1) ∧ w' = w := by
  have c := h.c1
  have hb : bits .and .u64 34 18446744073709551582 = 2 := by decide +kernel
  have hn : IntKind.u64.wrap (-34) = 18446744073709551582 := by decide +kernel
  have hm : IntKind.u64.wrap 571740426102707730 = 571740426102707730 := by decide +kernel
  clear h
  go_enter Tryd.func94, Tryd.ntmps94
  go_wp2
  go_ret
  exact ⟨rfl, rfl⟩
theorem tz35 (w : World) (h : isDb w) : Calls Tryd.prog 94 #[.int .u64 35] w fun e w' => e = .returned (.int .i64 0) ∧ w' = w := by
  have c := h.c0
  have hb : bits .and .u64 35 18446744073709551581 = 1 := by decide +kernel
  have hn : IntKind.u64.wrap (-35) = 18446744073709551581 := by decide +kernel
  have hm : IntKind.u64.wrap 285870213051353865 = 285870213051353865 := by decide +kernel
  clear h
  go_enter Tryd.func94, Tryd.ntmps94
  go_wp2
  go_ret
  exact ⟨rfl, rfl⟩
theorem tz36 (w : World) (h : isDb w) : Calls Tryd.prog 94 #[.int .u64 36] w fun e w' => e = .returned (.int .i64 2) ∧ w' = w := by
  have c := h.c2
  have hb : bits .and .u64 36 18446744073709551580 = 4 := by decide +kernel
  have hn : IntKind.u64.wrap (-36) = 18446744073709551580 := by decide +kernel
  have hm : IntKind.u64.wrap 1143480852205415460 = 1143480852205415460 := by decide +kernel
  clear h
  go_enter Tryd.func94, Tryd.ntmps94
  go_wp2
  go_ret
  exact ⟨rfl, rfl⟩
theorem tz37 (w : World) (h : isDb w) : Calls Tryd.prog 94 #[.int .u64 37] w fun e w' => e = .returned (.int .i64 0) ∧ w' = w := by
  have c := h.c0
  have hb : bits .and .u64 37 18446744073709551579 = 1 := by decide +kernel
  have hn : IntKind.u64.wrap (-37) = 18446744073709551579 := by decide +kernel
  have hm : IntKind.u64.wrap 285870213051353865 = 285870213051353865 := by decide +kernel
  clear h
  go_enter Tryd.func94, Tryd.ntmps94
  go_wp2
  go_ret
  exact ⟨rfl, rfl⟩
theorem tz38 (w : World) (h : isDb w) : Calls Tryd.prog 94 #[.int .u64 38] w fun e w' => e = .returned (.int .i64 1) ∧ w' = w := by
  have c := h.c1
  have hb : bits .and .u64 38 18446744073709551578 = 2 := by decide +kernel
  have hn : IntKind.u64.wrap (-38) = 18446744073709551578 := by decide +kernel
  have hm : IntKind.u64.wrap 571740426102707730 = 571740426102707730 := by decide +kernel
  clear h
  go_enter Tryd.func94, Tryd.ntmps94
  go_wp2
  go_ret
  exact ⟨rfl, rfl⟩
theorem tz39 (w : World) (h : isDb w) : Calls Tryd.prog 94 #[.int .u64 39] w fun e w' => e = .returned (.int .i64 0) ∧ w' = w := by
  have c := h.c0
  have hb : bits .and .u64 39 18446744073709551577 = 1 := by decide +kernel
  have hn : IntKind.u64.wrap (-39) = 18446744073709551577 := by decide +kernel
  have hm : IntKind.u64.wrap 285870213051353865 = 285870213051353865 := by decide +kernel
  clear h
  go_enter Tryd.func94, Tryd.ntmps94
  go_wp2
  go_ret
  exact ⟨rfl, rfl⟩
theorem tz40 (w : World) (h : isDb w) : Calls Tryd.prog 94 #[.int .u64 40] w fun e w' => e = .returned (.int .i64 3) ∧ w' = w := by
  have c := h.c3
  have hb : bits .and .u64 40 18446744073709551576 = 8 := by decide +kernel
  have hn : IntKind.u64.wrap (-40) = 18446744073709551576 := by decide +kernel
  have hm : IntKind.u64.wrap 2286961704410830920 = 2286961704410830920 := by decide +kernel
  clear h
  go_enter Tryd.func94, Tryd.ntmps94
  go_wp2
  go_ret
  exact ⟨rfl, rfl⟩
theorem tz41 (w : World) (h : isDb w) : Calls Tryd.prog 94 #[.int .u64 41] w fun e w' => e = .returned (.int .i64 0) ∧ w' = w := by
  have c := h.c0
  have hb : bits .and .u64 41 18446744073709551575 = 1 := by decide +kernel
  have hn : IntKind.u64.wrap (-41) = 18446744073709551575 := by decide +kernel
  have hm : IntKind.u64.wrap 285870213051353865 = 285870213051353865 := by decide +kernel
  clear h
  go_enter Tryd.func94, Tryd.ntmps94
  go_wp2
  go_ret
  exact ⟨rfl, rfl⟩
theorem tz42 (w : World) (h : isDb w) : Calls Tryd.prog 94 #[.int .u64 42] w fun e w' => e = .returned (.int .i64 1) ∧ w' = w := by
  have c := h.c1
  have hb : bits .and .u64 42 18446744073709551574 = 2 := by decide +kernel
  have hn : IntKind.u64.wrap (-42) = 18446744073709551574 := by decide +kernel
  have hm : IntKind.u64.wrap 571740426102707730 = 571740426102707730 := by decide +kernel
  clear h
  go_enter Tryd.func94, Tryd.ntmps94
  go_wp2
  go_ret
  exact ⟨rfl, rfl⟩
theorem tz43 (w : World) (h : isDb w) : Calls Tryd.prog 94 #[.int .u64 43] w fun e w' => e = .returned (.int .i64 0) ∧ w' = w := by
  have c := h.c0
  have hb : bits .and .u64 43 18446744073709551573 = 1 := by decide +kernel
  have hn : IntKind.u64.wrap (-43) = 18446744073709551573 := by decide +kernel
  have hm : IntKind.u64.wrap 285870213051353865 = 285870213051353865 := by decide +kernel
  clear h
  go_enter Tryd.func94, Tryd.ntmps94
  go_wp2
  go_ret
  exact ⟨rfl, rfl⟩
theorem tz44 (w : World) (h : isDb w) : Calls Tryd.prog 94 #[.int .u64 44] w fun e w' => e = .returned (.int .i64 2) ∧ w' = w := by
  have c := h.c2
  have hb : bits .and .u64 44 18446744073709551572 = 4 := by decide +kernel
  have hn : IntKind.u64.wrap (-44) = 18446744073709551572 := by decide +kernel
  have hm : IntKind.u64.wrap 1143480852205415460 = 1143480852205415460 := by decide +kernel
  clear h
  go_enter Tryd.func94, Tryd.ntmps94
  go_wp2
  go_ret
  exact ⟨rfl, rfl⟩
theorem tz45 (w : World) (h : isDb w) : Calls Tryd.prog 94 #[.int .u64 45] w fun e w' => e = .returned (.int .i64 0) ∧ w' = w := by
  have c := h.c0
  have hb : bits .and .u64 45 18446744073709551571 = 1 := by decide +kernel
  have hn : IntKind.u64.wrap (-45) = 18446744073709551571 := by decide +kernel
  have hm : IntKind.u64.wrap 285870213051353865 = 285870213051353865 := by decide +kernel
  clear h
  go_enter Tryd.func94, Tryd.ntmps94
  go_wp2
  go_ret
  exact ⟨rfl, rfl⟩
theorem tz46 (w : World) (h : isDb w) : Calls Tryd.prog 94 #[.int .u64 46] w fun e w' => e = .returned (.int .i64 1) ∧ w' = w := by
  have c := h.c1
  have hb : bits .and .u64 46 18446744073709551570 = 2 := by decide +kernel
  have hn : IntKind.u64.wrap (-46) = 18446744073709551570 := by decide +kernel
  have hm : IntKind.u64.wrap 571740426102707730 = 571740426102707730 := by decide +kernel
  clear h
  go_enter Tryd.func94, Tryd.ntmps94
  go_wp2
  go_ret
  exact ⟨rfl, rfl⟩
theorem tz47 (w : World) (h : isDb w) : Calls Tryd.prog 94 #[.int .u64 47] w fun e w' => e = .returned (.int .i64 0) ∧ w' = w := by
  have c := h.c0
  have hb : bits .and .u64 47 18446744073709551569 = 1 := by decide +kernel
  have hn : IntKind.u64.wrap (-47) = 18446744073709551569 := by decide +kernel
  have hm : IntKind.u64.wrap 285870213051353865 = 285870213051353865 := by decide +kernel
  clear h
  go_enter Tryd.func94, Tryd.ntmps94
  go_wp2
  go_ret
  exact ⟨rfl, rfl⟩
theorem tz48 (w : World) (h : isDb w) : Calls Tryd.prog 94 #[.int .u64 48] w fun e w' => e = .returned (.int .i64 4) ∧ w' = w := by
  have c := h.c4
  have hb : bits .and .u64 48 18446744073709551568 = 16 := by decide +kernel
  have hn : IntKind.u64.wrap (-48) = 18446744073709551568 := by decide +kernel
  have hm : IntKind.u64.wrap 4573923408821661840 = 4573923408821661840 := by decide +kernel
  clear h
  go_enter Tryd.func94, Tryd.ntmps94
  go_wp2
  go_ret
  exact ⟨rfl, rfl⟩
theorem tz49 (w : World) (h : isDb w) : Calls Tryd.prog 94 #[.int .u64 49] w fun e w' => e = .returned (.int .i64 0) ∧ w' = w := by
  have c := h.c0
  have hb : bits .and .u64 49 18446744073709551567 = 1 := by decide +kernel
  have hn : IntKind.u64.wrap (-49) = 18446744073709551567 := by decide +kernel
  have hm : IntKind.u64.wrap 285870213051353865 = 285870213051353865 := by decide +kernel
  clear h
  go_enter Tryd.func94, Tryd.ntmps94
  go_wp2
  go_ret
  exact ⟨rfl, rfl⟩
theorem tz50 (w : World) (h : isDb w) : Calls Tryd.prog 94 #[.int .u64 50] w fun e w' => e = .returned (.int .i64 1) ∧ w' = w := by
  have c := h.c1
  have hb : bits .and .u64 50 18446744073709551566 = 2 := by decide +kernel
  have hn : IntKind.u64.wrap (-50) = 18446744073709551566 := by decide +kernel
  have hm : IntKind.u64.wrap 571740426102707730 = 571740426102707730 := by decide +kernel
  clear h
  go_enter Tryd.func94, Tryd.ntmps94
  go_wp2
  go_ret
  exact ⟨rfl, rfl⟩
theorem tz51 (w : World) (h : isDb w) : Calls Tryd.prog 94 #[.int .u64 51] w fun e w' => e = .returned (.int .i64 0) ∧ w' = w := by
  have c := h.c0
  have hb : bits .and .u64 51 18446744073709551565 = 1 := by decide +kernel
  have hn : IntKind.u64.wrap (-51) = 18446744073709551565 := by decide +kernel
  have hm : IntKind.u64.wrap 285870213051353865 = 285870213051353865 := by decide +kernel
  clear h
  go_enter Tryd.func94, Tryd.ntmps94
  go_wp2
  go_ret
  exact ⟨rfl, rfl⟩
theorem tz52 (w : World) (h : isDb w) : Calls Tryd.prog 94 #[.int .u64 52] w fun e w' => e = .returned (.int .i64 2) ∧ w' = w := by
  have c := h.c2
  have hb : bits .and .u64 52 18446744073709551564 = 4 := by decide +kernel
  have hn : IntKind.u64.wrap (-52) = 18446744073709551564 := by decide +kernel
  have hm : IntKind.u64.wrap 1143480852205415460 = 1143480852205415460 := by decide +kernel
  clear h
  go_enter Tryd.func94, Tryd.ntmps94
  go_wp2
  go_ret
  exact ⟨rfl, rfl⟩
theorem tz53 (w : World) (h : isDb w) : Calls Tryd.prog 94 #[.int .u64 53] w fun e w' => e = .returned (.int .i64 0) ∧ w' = w := by
  have c := h.c0
  have hb : bits .and .u64 53 18446744073709551563 = 1 := by decide +kernel
  have hn : IntKind.u64.wrap (-53) = 18446744073709551563 := by decide +kernel
  have hm : IntKind.u64.wrap 285870213051353865 = 285870213051353865 := by decide +kernel
  clear h
  go_enter Tryd.func94, Tryd.ntmps94
  go_wp2
  go_ret
  exact ⟨rfl, rfl⟩
theorem tz54 (w : World) (h : isDb w) : Calls Tryd.prog 94 #[.int .u64 54] w fun e w' => e = .returned (.int .i64 1) ∧ w' = w := by
  have c := h.c1
  have hb : bits .and .u64 54 18446744073709551562 = 2 := by decide +kernel
  have hn : IntKind.u64.wrap (-54) = 18446744073709551562 := by decide +kernel
  have hm : IntKind.u64.wrap 571740426102707730 = 571740426102707730 := by decide +kernel
  clear h
  go_enter Tryd.func94, Tryd.ntmps94
  go_wp2
  go_ret
  exact ⟨rfl, rfl⟩
theorem tz55 (w : World) (h : isDb w) : Calls Tryd.prog 94 #[.int .u64 55] w fun e w' => e = .returned (.int .i64 0) ∧ w' = w := by
  have c := h.c0
  have hb : bits .and .u64 55 18446744073709551561 = 1 := by decide +kernel
  have hn : IntKind.u64.wrap (-55) = 18446744073709551561 := by decide +kernel
  have hm : IntKind.u64.wrap 285870213051353865 = 285870213051353865 := by decide +kernel
  clear h
  go_enter Tryd.func94, Tryd.ntmps94
  go_wp2
  go_ret
  exact ⟨rfl, rfl⟩
theorem tz56 (w : World) (h : isDb w) : Calls Tryd.prog 94 #[.int .u64 56] w fun e w' => e = .returned (.int .i64 3) ∧ w' = w := by
  have c := h.c3
  have hb : bits .and .u64 56 18446744073709551560 = 8 := by decide +kernel
  have hn : IntKind.u64.wrap (-56) = 18446744073709551560 := by decide +kernel
  have hm : IntKind.u64.wrap 2286961704410830920 = 2286961704410830920 := by decide +kernel
  clear h
  go_enter Tryd.func94, Tryd.ntmps94
  go_wp2
  go_ret
  exact ⟨rfl, rfl⟩
theorem tz57 (w : World) (h : isDb w) : Calls Tryd.prog 94 #[.int .u64 57] w fun e w' => e = .returned (.int .i64 0) ∧ w' = w := by
  have c := h.c0
  have hb : bits .and .u64 57 18446744073709551559 = 1 := by decide +kernel
  have hn : IntKind.u64.wrap (-57) = 18446744073709551559 := by decide +kernel
  have hm : IntKind.u64.wrap 285870213051353865 = 285870213051353865 := by decide +kernel
  clear h
  go_enter Tryd.func94, Tryd.ntmps94
  go_wp2
  go_ret
  exact ⟨rfl, rfl⟩
theorem tz58 (w : World) (h : isDb w) : Calls Tryd.prog 94 #[.int .u64 58] w fun e w' => e = .returned (.int .i64 1) ∧ w' = w := by
  have c := h.c1
  have hb : bits .and .u64 58 18446744073709551558 = 2 := by decide +kernel
  have hn : IntKind.u64.wrap (-58) = 18446744073709551558 := by decide +kernel
  have hm : IntKind.u64.wrap 571740426102707730 = 571740426102707730 := by decide +kernel
  clear h
  go_enter Tryd.func94, Tryd.ntmps94
  go_wp2
  go_ret
  exact ⟨rfl, rfl⟩
theorem tz59 (w : World) (h : isDb w) : Calls Tryd.prog 94 #[.int .u64 59] w fun e w' => e = .returned (.int .i64 0) ∧ w' = w := by
  have c := h.c0
  have hb : bits .and .u64 59 18446744073709551557 = 1 := by decide +kernel
  have hn : IntKind.u64.wrap (-59) = 18446744073709551557 := by decide +kernel
  have hm : IntKind.u64.wrap 285870213051353865 = 285870213051353865 := by decide +kernel
  clear h
  go_enter Tryd.func94, Tryd.ntmps94
  go_wp2
  go_ret
  exact ⟨rfl, rfl⟩
theorem tz60 (w : World) (h : isDb w) : Calls Tryd.prog 94 #[.int .u64 60] w fun e w' => e = .returned (.int .i64 2) ∧ w' = w := by
  have c := h.c2
  have hb : bits .and .u64 60 18446744073709551556 = 4 := by decide +kernel
  have hn : IntKind.u64.wrap (-60) = 18446744073709551556 := by decide +kernel
  have hm : IntKind.u64.wrap 1143480852205415460 = 1143480852205415460 := by decide +kernel
  clear h
  go_enter Tryd.func94, Tryd.ntmps94
  go_wp2
  go_ret
  exact ⟨rfl, rfl⟩
theorem tz61 (w : World) (h : isDb w) : Calls Tryd.prog 94 #[.int .u64 61] w fun e w' => e = .returned (.int .i64 0) ∧ w' = w := by
  have c := h.c0
  have hb : bits .and .u64 61 18446744073709551555 = 1 := by decide +kernel
  have hn : IntKind.u64.wrap (-61) = 18446744073709551555 := by decide +kernel
  have hm : IntKind.u64.wrap 285870213051353865 = 285870213051353865 := by decide +kernel
  clear h
  go_enter Tryd.func94, Tryd.ntmps94
  go_wp2
  go_ret
  exact ⟨rfl, rfl⟩
theorem tz62 (w : World) (h : isDb w) : Calls Tryd.prog 94 #[.int .u64 62] w fun e w' => e = .returned (.int .i64 1) ∧ w' = w := by
  have c := h.c1
  have hb : bits .and .u64 62 18446744073709551554 = 2 := by decide +kernel
  have hn : IntKind.u64.wrap (-62) = 18446744073709551554 := by decide +kernel
  have hm : IntKind.u64.wrap 571740426102707730 = 571740426102707730 := by decide +kernel
  clear h
  go_enter Tryd.func94, Tryd.ntmps94
  go_wp2
  go_ret
  exact ⟨rfl, rfl⟩
theorem tz63 (w : World) (h : isDb w) : Calls Tryd.prog 94 #[.int .u64 63] w fun e w' => e = .returned (.int .i64 0) ∧ w' = w := by
  have c := h.c0
  have hb : bits .and .u64 63 18446744073709551553 = 1 := by decide +kernel
  have hn : IntKind.u64.wrap (-63) = 18446744073709551553 := by decide +kernel
  have hm : IntKind.u64.wrap 285870213051353865 = 285870213051353865 := by decide +kernel
  clear h
  go_enter Tryd.func94, Tryd.ntmps94
  go_wp2
  go_ret
  exact ⟨rfl, rfl⟩
set_option maxRecDepth 100000 in
theorem ones_any : ∀ (s : Nat), s < 64 → ∀ (w : World), Calls Tryd.prog 96 #[.int .u64 (s : Int)] w fun e w' => e = .returned (.int .i64 (sz s : Int)) ∧ w' = w
  | 0, _, w => by rw [show ((sz 0 : Nat) : Int) = 0 by decide +kernel]; exact ones0 w
  | 1, _, w => by rw [show ((sz 1 : Nat) : Int) = 1 by decide +kernel]; exact ones1 w
  | 2, _, w => by rw [show ((sz 2 : Nat) : Int) = 1 by decide +kernel]; exact ones2 w
  | 3, _, w => by rw [show ((sz 3 : Nat) : Int) = 2 by decide +kernel]; exact ones3 w
  | 4, _, w => by rw [show ((sz 4 : Nat) : Int) = 1 by decide +kernel]; exact ones4 w
  | 5, _, w => by rw [show ((sz 5 : Nat) : Int) = 2 by decide +kernel]; exact ones5 w
  | 6, _, w => by rw [show ((sz 6 : Nat) : Int) = 2 by decide +kernel]; exact ones6 w
  | 7, _, w => by rw [show ((sz 7 : Nat) : Int) = 3 by decide +kernel]; exact ones7 w
  | 8, _, w => by rw [show ((sz 8 : Nat) : Int) = 1 by decide +kernel]; exact ones8 w
  | 9, _, w => by rw [show ((sz 9 : Nat) : Int) = 2 by decide +kernel]; exact ones9 w
  | 10, _, w => by rw [show ((sz 10 : Nat) : Int) = 2 by decide +kernel]; exact ones10 w
  | 11, _, w => by rw [show ((sz 11 : Nat) : Int) = 3 by decide +kernel]; exact ones11 w
  | 12, _, w => by rw [show ((sz 12 : Nat) : Int) = 2 by decide +kernel]; exact ones12 w
  | 13, _, w => by rw [show ((sz 13 : Nat) : Int) = 3 by decide +kernel]; exact ones13 w
  | 14, _, w => by rw [show ((sz 14 : Nat) : Int) = 3 by decide +kernel]; exact ones14 w
  | 15, _, w => by rw [show ((sz 15 : Nat) : Int) = 4 by decide +kernel]; exact ones15 w
  | 16, _, w => by rw [show ((sz 16 : Nat) : Int) = 1 by decide +kernel]; exact ones16 w
  | 17, _, w => by rw [show ((sz 17 : Nat) : Int) = 2 by decide +kernel]; exact ones17 w
  | 18, _, w => by rw [show ((sz 18 : Nat) : Int) = 2 by decide +kernel]; exact ones18 w
  | 19, _, w => by rw [show ((sz 19 : Nat) : Int) = 3 by decide +kernel]; exact ones19 w
  | 20, _, w => by rw [show ((sz 20 : Nat) : Int) = 2 by decide +kernel]; exact ones20 w
  | 21, _, w => by rw [show ((sz 21 : Nat) : Int) = 3 by decide +kernel]; exact ones21 w
  | 22, _, w => by rw [show ((sz 22 : Nat) : Int) = 3 by decide +kernel]; exact ones22 w
  | 23, _, w => by rw [show ((sz 23 : Nat) : Int) = 4 by decide +kernel]; exact ones23 w
  | 24, _, w => by rw [show ((sz 24 : Nat) : Int) = 2 by decide +kernel]; exact ones24 w
  | 25, _, w => by rw [show ((sz 25 : Nat) : Int) = 3 by decide +kernel]; exact ones25 w
  | 26, _, w => by rw [show ((sz 26 : Nat) : Int) = 3 by decide +kernel]; exact ones26 w
  | 27, _, w => by rw [show ((sz 27 : Nat) : Int) = 4 by decide +kernel]; exact ones27 w
  | 28, _, w => by rw [show ((sz 28 : Nat) : Int) = 3 by decide +kernel]; exact ones28 w
  | 29, _, w => by rw [show ((sz 29 : Nat) : Int) = 4 by decide +kernel]; exact ones29 w
  | 30, _, w => by rw [show ((sz 30 : Nat) : Int) = 4 by decide +kernel]; exact ones30 w
  | 31, _, w => by rw [show ((sz 31 : Nat) : Int) = 5 by decide +kernel]; exact ones31 w
  | 32, _, w => by rw [show ((sz 32 : Nat) : Int) = 1 by decide +kernel]; exact ones32 w
  | 33, _, w => by rw [show ((sz 33 : Nat) : Int) = 2 by decide +kernel]; exact ones33 w
  | 34, _, w => by rw [show ((sz 34 : Nat) : Int) = 2 by decide +kernel]; exact ones34 w
  | 35, _, w => by rw [show ((sz 35 : Nat) : Int) = 3 by decide +kernel]; exact ones35 w
  | 36, _, w => by rw [show ((sz 36 : Nat) : Int) = 2 by decide +kernel]; exact ones36 w
  | 37, _, w => by rw [show ((sz 37 : Nat) : Int) = 3 by decide +kernel]; exact ones37 w
  | 38, _, w => by rw [show ((sz 38 : Nat) : Int) = 3 by decide +kernel]; exact ones38 w
  | 39, _, w => by rw [show ((sz 39 : Nat) : Int) = 4 by decide +kernel]; exact ones39 w
  | 40, _, w => by rw [show ((sz 40 : Nat) : Int) = 2 by decide +kernel]; exact ones40 w
  | 41, _, w => by rw [show ((sz 41 : Nat) : Int) = 3 by decide +kernel]; exact ones41 w
  | 42, _, w => by rw [show ((sz 42 : Nat) : Int) = 3 by decide +kernel]; exact ones42 w
  | 43, _, w => by rw [show ((sz 43 : Nat) : Int) = 4 by decide +kernel]; exact ones43 w
  | 44, _, w => by rw [show ((sz 44 : Nat) : Int) = 3 by decide +kernel]; exact ones44 w
  | 45, _, w => by rw [show ((sz 45 : Nat) : Int) = 4 by decide +kernel]; exact ones45 w
  | 46, _, w => by rw [show ((sz 46 : Nat) : Int) = 4 by decide +kernel]; exact ones46 w
  | 47, _, w => by rw [show ((sz 47 : Nat) : Int) = 5 by decide +kernel]; exact ones47 w
  | 48, _, w => by rw [show ((sz 48 : Nat) : Int) = 2 by decide +kernel]; exact ones48 w
  | 49, _, w => by rw [show ((sz 49 : Nat) : Int) = 3 by decide +kernel]; exact ones49 w
  | 50, _, w => by rw [show ((sz 50 : Nat) : Int) = 3 by decide +kernel]; exact ones50 w
  | 51, _, w => by rw [show ((sz 51 : Nat) : Int) = 4 by decide +kernel]; exact ones51 w
  | 52, _, w => by rw [show ((sz 52 : Nat) : Int) = 3 by decide +kernel]; exact ones52 w
  | 53, _, w => by rw [show ((sz 53 : Nat) : Int) = 4 by decide +kernel]; exact ones53 w
  | 54, _, w => by rw [show ((sz 54 : Nat) : Int) = 4 by decide +kernel]; exact ones54 w
  | 55, _, w => by rw [show ((sz 55 : Nat) : Int) = 5 by decide +kernel]; exact ones55 w
  | 56, _, w => by rw [show ((sz 56 : Nat) : Int) = 3 by decide +kernel]; exact ones56 w
  | 57, _, w => by rw [show ((sz 57 : Nat) : Int) = 4 by decide +kernel]; exact ones57 w
  | 58, _, w => by rw [show ((sz 58 : Nat) : Int) = 4 by decide +kernel]; exact ones58 w
  | 59, _, w => by rw [show ((sz 59 : Nat) : Int) = 5 by decide +kernel]; exact ones59 w
  | 60, _, w => by rw [show ((sz 60 : Nat) : Int) = 4 by decide +kernel]; exact ones60 w
  | 61, _, w => by rw [show ((sz 61 : Nat) : Int) = 5 by decide +kernel]; exact ones61 w
  | 62, _, w => by rw [show ((sz 62 : Nat) : Int) = 5 by decide +kernel]; exact ones62 w
  | 63, _, w => by rw [show ((sz 63 : Nat) : Int) = 6 by decide +kernel]; exact ones63 w
  | s + 64, h, _ => absurd h (by omega)
set_option maxRecDepth 100000 in
theorem tz_any : ∀ (s : Nat), s < 64 → 1 ≤ s → ∀ (w : World), isDb w → Calls Tryd.prog 94 #[.int .u64 (s : Int)] w fun e w' => e = .returned (.int .i64 (fs s : Int)) ∧ w' = w
  | 0, _, h, _, _ => absurd h (by omega)
  | 1, _, _, w, hd => by rw [show ((fs 1 : Nat) : Int) = 0 by decide +kernel]; exact tz1 w hd
  | 2, _, _, w, hd => by rw [show ((fs 2 : Nat) : Int) = 1 by decide +kernel]; exact tz2 w hd
  | 3, _, _, w, hd => by rw [show ((fs 3 : Nat) : Int) = 0 by decide +kernel]; exact tz3 w hd
  | 4, _, _, w, hd => by rw [show ((fs 4 : Nat) : Int) = 2 by decide +kernel]; exact tz4 w hd
  | 5, _, _, w, hd => by rw [show ((fs 5 : Nat) : Int) = 0 by decide +kernel]; exact tz5 w hd
  | 6, _, _, w, hd => by rw [show ((fs 6 : Nat) : Int) = 1 by decide +kernel]; exact tz6 w hd
  | 7, _, _, w, hd => by rw [show ((fs 7 : Nat) : Int) = 0 by decide +kernel]; exact tz7 w hd
  | 8, _, _, w, hd => by rw [show ((fs 8 : Nat) : Int) = 3 by decide +kernel]; exact tz8 w hd
  | 9, _, _, w, hd => by rw [show ((fs 9 : Nat) : Int) = 0 by decide +kernel]; exact tz9 w hd
  | 10, _, _, w, hd => by rw [show ((fs 10 : Nat) : Int) = 1 by decide +kernel]; exact tz10 w hd
  | 11, _, _, w, hd => by rw [show ((fs 11 : Nat) : Int) = 0 by decide +kernel]; exact tz11 w hd
  | 12, _, _, w, hd => by rw [show ((fs 12 : Nat) : Int) = 2 by decide +kernel]; exact tz12 w hd
  | 13, _, _, w, hd => by rw [show ((fs 13 : Nat) : Int) = 0 by decide +kernel]; exact tz13 w hd
  | 14, _, _, w, hd => by rw [show ((fs 14 : Nat) : Int) = 1 by decide +kernel]; exact tz14 w hd
  | 15, _, _, w, hd => by rw [show ((fs 15 : Nat) : Int) = 0 by decide +kernel]; exact tz15 w hd
  | 16, _, _, w, hd => by rw [show ((fs 16 : Nat) : Int) = 4 by decide +kernel]; exact tz16 w hd
  | 17, _, _, w, hd => by rw [show ((fs 17 : Nat) : Int) = 0 by decide +kernel]; exact tz17 w hd
  | 18, _, _, w, hd => by rw [show ((fs 18 : Nat) : Int) = 1 by decide +kernel]; exact tz18 w hd
  | 19, _, _, w, hd => by rw [show ((fs 19 : Nat) : Int) = 0 by decide +kernel]; exact tz19 w hd
  | 20, _, _, w, hd => by rw [show ((fs 20 : Nat) : Int) = 2 by decide +kernel]; exact tz20 w hd
  | 21, _, _, w, hd => by rw [show ((fs 21 : Nat) : Int) = 0 by decide +kernel]; exact tz21 w hd
  | 22, _, _, w, hd => by rw [show ((fs 22 : Nat) : Int) = 1 by decide +kernel]; exact tz22 w hd
  | 23, _, _, w, hd => by rw [show ((fs 23 : Nat) : Int) = 0 by decide +kernel]; exact tz23 w hd
  | 24, _, _, w, hd => by rw [show ((fs 24 : Nat) : Int) = 3 by decide +kernel]; exact tz24 w hd
  | 25, _, _, w, hd => by rw [show ((fs 25 : Nat) : Int) = 0 by decide +kernel]; exact tz25 w hd
  | 26, _, _, w, hd => by rw [show ((fs 26 : Nat) : Int) = 1 by decide +kernel]; exact tz26 w hd
  | 27, _, _, w, hd => by rw [show ((fs 27 : Nat) : Int) = 0 by decide +kernel]; exact tz27 w hd
  | 28, _, _, w, hd => by rw [show ((fs 28 : Nat) : Int) = 2 by decide +kernel]; exact tz28 w hd
  | 29, _, _, w, hd => by rw [show ((fs 29 : Nat) : Int) = 0 by decide +kernel]; exact tz29 w hd
  | 30, _, _, w, hd => by rw [show ((fs 30 : Nat) : Int) = 1 by decide +kernel]; exact tz30 w hd
  | 31, _, _, w, hd => by rw [show ((fs 31 : Nat) : Int) = 0 by decide +kernel]; exact tz31 w hd
  | 32, _, _, w, hd => by rw [show ((fs 32 : Nat) : Int) = 5 by decide +kernel]; exact tz32 w hd
  | 33, _, _, w, hd => by rw [show ((fs 33 : Nat) : Int) = 0 by decide +kernel]; exact tz33 w hd
  | 34, _, _, w, hd => by rw [show ((fs 34 : Nat) : Int) = 1 by decide +kernel]; exact tz34 w hd
  | 35, _, _, w, hd => by rw [show ((fs 35 : Nat) : Int) = 0 by decide +kernel]; exact tz35 w hd
  | 36, _, _, w, hd => by rw [show ((fs 36 : Nat) : Int) = 2 by decide +kernel]; exact tz36 w hd
  | 37, _, _, w, hd => by rw [show ((fs 37 : Nat) : Int) = 0 by decide +kernel]; exact tz37 w hd
  | 38, _, _, w, hd => by rw [show ((fs 38 : Nat) : Int) = 1 by decide +kernel]; exact tz38 w hd
  | 39, _, _, w, hd => by rw [show ((fs 39 : Nat) : Int) = 0 by decide +kernel]; exact tz39 w hd
  | 40, _, _, w, hd => by rw [show ((fs 40 : Nat) : Int) = 3 by decide +kernel]; exact tz40 w hd
  | 41, _, _, w, hd => by rw [show ((fs 41 : Nat) : Int) = 0 by decide +kernel]; exact tz41 w hd
  | 42, _, _, w, hd => by rw [show ((fs 42 : Nat) : Int) = 1 by decide +kernel]; exact tz42 w hd
  | 43, _, _, w, hd => by rw [show ((fs 43 : Nat) : Int) = 0 by decide +kernel]; exact tz43 w hd
  | 44, _, _, w, hd => by rw [show ((fs 44 : Nat) : Int) = 2 by decide +kernel]; exact tz44 w hd
  | 45, _, _, w, hd => by rw [show ((fs 45 : Nat) : Int) = 0 by decide +kernel]; exact tz45 w hd
  | 46, _, _, w, hd => by rw [show ((fs 46 : Nat) : Int) = 1 by decide +kernel]; exact tz46 w hd
  | 47, _, _, w, hd => by rw [show ((fs 47 : Nat) : Int) = 0 by decide +kernel]; exact tz47 w hd
  | 48, _, _, w, hd => by rw [show ((fs 48 : Nat) : Int) = 4 by decide +kernel]; exact tz48 w hd
  | 49, _, _, w, hd => by rw [show ((fs 49 : Nat) : Int) = 0 by decide +kernel]; exact tz49 w hd
  | 50, _, _, w, hd => by rw [show ((fs 50 : Nat) : Int) = 1 by decide +kernel]; exact tz50 w hd
  | 51, _, _, w, hd => by rw [show ((fs 51 : Nat) : Int) = 0 by decide +kernel]; exact tz51 w hd
  | 52, _, _, w, hd => by rw [show ((fs 52 : Nat) : Int) = 2 by decide +kernel]; exact tz52 w hd
  | 53, _, _, w, hd => by rw [show ((fs 53 : Nat) : Int) = 0 by decide +kernel]; exact tz53 w hd
  | 54, _, _, w, hd => by rw [show ((fs 54 : Nat) : Int) = 1 by decide +kernel]; exact tz54 w hd
  | 55, _, _, w, hd => by rw [show ((fs 55 : Nat) : Int) = 0 by decide +kernel]; exact tz55 w hd
  | 56, _, _, w, hd => by rw [show ((fs 56 : Nat) : Int) = 3 by decide +kernel]; exact tz56 w hd
  | 57, _, _, w, hd => by rw [show ((fs 57 : Nat) : Int) = 0 by decide +kernel]; exact tz57 w hd
  | 58, _, _, w, hd => by rw [show ((fs 58 : Nat) : Int) = 1 by decide +kernel]; exact tz58 w hd
  | 59, _, _, w, hd => by rw [show ((fs 59 : Nat) : Int) = 0 by decide +kernel]; exact tz59 w hd
  | 60, _, _, w, hd => by rw [show ((fs 60 : Nat) : Int) = 2 by decide +kernel]; exact tz60 w hd
  | 61, _, _, w, hd => by rw [show ((fs 61 : Nat) : Int) = 0 by decide +kernel]; exact tz61 w hd
  | 62, _, _, w, hd => by rw [show ((fs 62 : Nat) : Int) = 1 by decide +kernel]; exact tz62 w hd
  | 63, _, _, w, hd => by rw [show ((fs 63 : Nat) : Int) = 0 by decide +kernel]; exact tz63 w hd
  | s + 64, h, _, _, _ => absurd h (by omega)

theorem OnesCount_any (s : Nat) (hs : s < 64) (w : World) : Calls Tryd.prog 82 #[.int .u64 (s : Int)] w fun e w' => e = .returned (.int .i64 (sz s : Int)) ∧ w' = w := by
  have hC := ones_any s hs w
  generalize sz s = z at *
  go_enter Tryd.func82, Tryd.ntmps82
  go_wp2_with fail
  refine hC.mono ?_
  rintro e w' ⟨rfl, rfl⟩
  go_wp2
  go_ret
  exact ⟨rfl, rfl⟩
theorem TrailingZeros_any (s : Nat) (hs : s < 64) (h1 : 1 ≤ s) (w : World) (hd : isDb w) : Calls Tryd.prog 78 #[.int .u64 (s : Int)] w fun e w' => e = .returned (.int .i64 (fs s : Int)) ∧ w' = w := by
  have hC := tz_any s hs h1 w hd
  generalize fs s = z at *
  clear hd
  go_enter Tryd.func78, Tryd.ntmps78
  go_wp2_with fail
  refine hC.mono ?_
  rintro e w' ⟨rfl, rfl⟩
  go_wp2
  go_ret
  exact ⟨rfl, rfl⟩
theorem size_any (s : Nat) (hs : s < 64) (w : World) : Calls Tryd.prog 60 #[.int .u64 (s : Int)] w fun e w' => e = .returned (.int .i64 (sz s : Int)) ∧ w' = w := by
  have hC := OnesCount_any s hs w
  generalize sz s = z at *
  go_enter Tryd.func60, Tryd.ntmps60
  go_wp2_with fail
  refine hC.mono ?_
  rintro e w' ⟨rfl, rfl⟩
  go_wp2
  go_ret
  exact ⟨rfl, rfl⟩
theorem first_any (s : Nat) (hs : s < 64) (h1 : 1 ≤ s) (w : World) (hd : isDb w) : Calls Tryd.prog 55 #[.int .u64 (s : Int)] w fun e w' => e = .returned (.int .i64 (fs s : Int)) ∧ w' = w := by
  have hC := TrailingZeros_any s hs h1 w hd
  generalize fs s = z at *
  clear hd
  go_enter Tryd.func55, Tryd.ntmps55
  go_wp2_with fail
  refine hC.mono ?_
  rintro e w' ⟨rfl, rfl⟩
  go_wp2
  go_ret
  exact ⟨rfl, rfl⟩

set_option maxRecDepth 100000 in
theorem wob0 : ∀ s, s < 64 → bits .andNot .u64 ((s : Nat) : Int) 1 = ((wo s 0 : Nat) : Int) := by decide +kernel
set_option maxRecDepth 100000 in
theorem plb0 : ∀ s, s < 64 → bits .and .u64 ((s : Nat) : Int) 0 = ((s % 1 : Nat) : Int) ∧ sz (s % 1) = pl s 0 := by decide +kernel
set_option maxRecDepth 100000 in
theorem wob1 : ∀ s, s < 64 → bits .andNot .u64 ((s : Nat) : Int) 2 = ((wo s 1 : Nat) : Int) := by decide +kernel
set_option maxRecDepth 100000 in
theorem plb1 : ∀ s, s < 64 → bits .and .u64 ((s : Nat) : Int) 1 = ((s % 2 : Nat) : Int) ∧ sz (s % 2) = pl s 1 := by decide +kernel
set_option maxRecDepth 100000 in
theorem wob2 : ∀ s, s < 64 → bits .andNot .u64 ((s : Nat) : Int) 4 = ((wo s 2 : Nat) : Int) := by decide +kernel
set_option maxRecDepth 100000 in
theorem plb2 : ∀ s, s < 64 → bits .and .u64 ((s : Nat) : Int) 3 = ((s % 4 : Nat) : Int) ∧ sz (s % 4) = pl s 2 := by decide +kernel
set_option maxRecDepth 100000 in
theorem wob3 : ∀ s, s < 64 → bits .andNot .u64 ((s : Nat) : Int) 8 = ((wo s 3 : Nat) : Int) := by decide +kernel
set_option maxRecDepth 100000 in
theorem plb3 : ∀ s, s < 64 → bits .and .u64 ((s : Nat) : Int) 7 = ((s % 8 : Nat) : Int) ∧ sz (s % 8) = pl s 3 := by decide +kernel
set_option maxRecDepth 100000 in
theorem wob4 : ∀ s, s < 64 → bits .andNot .u64 ((s : Nat) : Int) 16 = ((wo s 4 : Nat) : Int) := by decide +kernel
set_option maxRecDepth 100000 in
theorem plb4 : ∀ s, s < 64 → bits .and .u64 ((s : Nat) : Int) 15 = ((s % 16 : Nat) : Int) ∧ sz (s % 16) = pl s 4 := by decide +kernel
set_option maxRecDepth 100000 in
theorem wob5 : ∀ s, s < 64 → bits .andNot .u64 ((s : Nat) : Int) 32 = ((wo s 5 : Nat) : Int) := by decide +kernel
set_option maxRecDepth 100000 in
theorem plb5 : ∀ s, s < 64 → bits .and .u64 ((s : Nat) : Int) 31 = ((s % 32 : Nat) : Int) ∧ sz (s % 32) = pl s 5 := by decide +kernel
theorem without_any (s i : Nat) (hs : s < 64) (hi : i < 6) (w : World) : Calls Tryd.prog 80 #[.int .u64 (s : Int), .int .i64 (i : Int)] w fun e w' => e = .returned (.int .u64 (wo s i : Int)) ∧ w' = w := by
  obtain rfl | rfl | rfl | rfl | rfl | rfl : i = 0 ∨ i = 1 ∨ i = 2 ∨ i = 3 ∨ i = 4 ∨ i = 5 := by omega
  · have hb := wob0 s hs
    generalize wo s 0 = z at *
    go_enter Tryd.func80, Tryd.ntmps80
    go_wp2
    go_ret
    exact ⟨rfl, rfl⟩
  · have hb := wob1 s hs
    generalize wo s 1 = z at *
    go_enter Tryd.func80, Tryd.ntmps80
    go_wp2
    go_ret
    exact ⟨rfl, rfl⟩
  · have hb := wob2 s hs
    generalize wo s 2 = z at *
    go_enter Tryd.func80, Tryd.ntmps80
    go_wp2
    go_ret
    exact ⟨rfl, rfl⟩
  · have hb := wob3 s hs
    generalize wo s 3 = z at *
    go_enter Tryd.func80, Tryd.ntmps80
    go_wp2
    go_ret
    exact ⟨rfl, rfl⟩
  · have hb := wob4 s hs
    generalize wo s 4 = z at *
    go_enter Tryd.func80, Tryd.ntmps80
    go_wp2
    go_ret
    exact ⟨rfl, rfl⟩
  · have hb := wob5 s hs
    generalize wo s 5 = z at *
    go_enter Tryd.func80, Tryd.ntmps80
    go_wp2
    go_ret
    exact ⟨rfl, rfl⟩
theorem place_any (s i : Nat) (hs : s < 64) (hi : i < 6) (w : World) : Calls Tryd.prog 81 #[.int .u64 (s : Int), .int .i64 (i : Int)] w fun e w' => e = .returned (.int .i64 (pl s i : Int)) ∧ w' = w := by
  obtain rfl | rfl | rfl | rfl | rfl | rfl : i = 0 ∨ i = 1 ∨ i = 2 ∨ i = 3 ∨ i = 4 ∨ i = 5 := by omega
  · obtain ⟨hb, hz⟩ := plb0 s hs
    have hF := firsts_any 0 (by omega) w
    have hC := size_any (s % 1) (by omega) w
    rw [hz] at hC
    generalize pl s 0 = z at *
    generalize s % 1 = q at *
    clear hz
    simp only [Nat.reducePow, Nat.reduceSub] at hF
    go_enter Tryd.func81, Tryd.ntmps81
    go_wp2_with fail
    refine hF.mono ?_
    rintro e w' ⟨rfl, rfl⟩
    go_wp2_with fail
    refine hC.mono ?_
    rintro e w' ⟨rfl, rfl⟩
    go_wp2
    go_ret
    exact ⟨rfl, rfl⟩
  · obtain ⟨hb, hz⟩ := plb1 s hs
    have hF := firsts_any 1 (by omega) w
    have hC := size_any (s % 2) (by omega) w
    rw [hz] at hC
    generalize pl s 1 = z at *
    generalize s % 2 = q at *
    clear hz
    simp only [Nat.reducePow, Nat.reduceSub] at hF
    go_enter Tryd.func81, Tryd.ntmps81
    go_wp2_with fail
    refine hF.mono ?_
    rintro e w' ⟨rfl, rfl⟩
    go_wp2_with fail
    refine hC.mono ?_
    rintro e w' ⟨rfl, rfl⟩
    go_wp2
    go_ret
    exact ⟨rfl, rfl⟩
  · obtain ⟨hb, hz⟩ := plb2 s hs
    have hF := firsts_any 2 (by omega) w
    have hC := size_any (s % 4) (by omega) w
    rw [hz] at hC
    generalize pl s 2 = z at *
    generalize s % 4 = q at *
    clear hz
    simp only [Nat.reducePow, Nat.reduceSub] at hF
    go_enter Tryd.func81, Tryd.ntmps81
    go_wp2_with fail
    refine hF.mono ?_
    rintro e w' ⟨rfl, rfl⟩
    go_wp2_with fail
    refine hC.mono ?_
    rintro e w' ⟨rfl, rfl⟩
    go_wp2
    go_ret
    exact ⟨rfl, rfl⟩
  · obtain ⟨hb, hz⟩ := plb3 s hs
    have hF := firsts_any 3 (by omega) w
    have hC := size_any (s % 8) (by omega) w
    rw [hz] at hC
    generalize pl s 3 = z at *
    generalize s % 8 = q at *
    clear hz
    simp only [Nat.reducePow, Nat.reduceSub] at hF
    go_enter Tryd.func81, Tryd.ntmps81
    go_wp2_with fail
    refine hF.mono ?_
    rintro e w' ⟨rfl, rfl⟩
    go_wp2_with fail
    refine hC.mono ?_
    rintro e w' ⟨rfl, rfl⟩
    go_wp2
    go_ret
    exact ⟨rfl, rfl⟩
  · obtain ⟨hb, hz⟩ := plb4 s hs
    have hF := firsts_any 4 (by omega) w
    have hC := size_any (s % 16) (by omega) w
    rw [hz] at hC
    generalize pl s 4 = z at *
    generalize s % 16 = q at *
    clear hz
    simp only [Nat.reducePow, Nat.reduceSub] at hF
    go_enter Tryd.func81, Tryd.ntmps81
    go_wp2_with fail
    refine hF.mono ?_
    rintro e w' ⟨rfl, rfl⟩
    go_wp2_with fail
    refine hC.mono ?_
    rintro e w' ⟨rfl, rfl⟩
    go_wp2
    go_ret
    exact ⟨rfl, rfl⟩
  · obtain ⟨hb, hz⟩ := plb5 s hs
    have hF := firsts_any 5 (by omega) w
    have hC := size_any (s % 32) (by omega) w
    rw [hz] at hC
    generalize pl s 5 = z at *
    generalize s % 32 = q at *
    clear hz
    simp only [Nat.reducePow, Nat.reduceSub] at hF
    go_enter Tryd.func81, Tryd.ntmps81
    go_wp2_with fail
    refine hF.mono ?_
    rintro e w' ⟨rfl, rfl⟩
    go_wp2_with fail
    refine hC.mono ?_
    rintro e w' ⟨rfl, rfl⟩
    go_wp2
    go_ret
    exact ⟨rfl, rfl⟩
end Go.Proofs.YthplbfjpmnpjmaaDoor
