/-
  package record, walked: runes of moves and of comments, sizes.
-/
import Derived.Test.YtdibjdpnleepmacDoorW3
namespace Go.Proofs.YtdibjdpnleepmacDoor
open Go.RowKit
attribute [local go_sem ↓] Go.wp_at_zero Go.wp_at_succ

/-- A rune that may stand in a move, in a comment (-1: the end; -2: no rune). -/
def mvR (c : Int) : Bool := !(decide (c = -1) || decide (c = -2) || decide (c = 32) || decide (c = 10) || decide (c = 40) || decide (c = 41) || decide (c = 123) || decide (c = 125))
def cmR (c : Int) : Bool := !(decide (c = -1) || decide (c = -2) || decide (c = 10) || decide (c = 123) || decide (c = 125))

set_option maxHeartbeats 1000000 in
theorem isOfMove_any (c : Int) (w : World) :
    Calls Tryd.prog 21 #[.int .i32 c] w fun e w' => e = .returned (.bool (mvR c)) ∧ w' = w := by
  obtain ⟨R, hR⟩ : ∃ R, R = mvR c := ⟨_, rfl⟩
  rw [← hR]
  have HR := hide hR
  clear hR
  go_enter Tryd.func21, Tryd.ntmps21
  go_wp2
  all_goals go_ret
  all_goals refine ⟨ret_bool ?_, rfl⟩
  all_goals rw [unhide HR]
  all_goals simp_all [mvR]
set_option maxHeartbeats 1000000 in
theorem isOfComment_any (c : Int) (w : World) :
    Calls Tryd.prog 28 #[.int .i32 c] w fun e w' => e = .returned (.bool (cmR c)) ∧ w' = w := by
  obtain ⟨R, hR⟩ : ∃ R, R = cmR c := ⟨_, rfl⟩
  rw [← hR]
  have HR := hide hR
  clear hR
  go_enter Tryd.func28, Tryd.ntmps28
  go_wp2
  all_goals go_ret
  all_goals refine ⟨ret_bool ?_, rfl⟩
  all_goals rw [unhide HR]
  all_goals simp_all [cmR]
set_option maxHeartbeats 1000000 in
theorem sizeAdd_any (g o : Nat) (n d k : Int) (w : World) (h0 : w.cell? ⟨g, o, none⟩ = some (.int .i64 n)) (h1 : w.cell? ⟨g, o + 1, none⟩ = some (.int .i64 d)) (f0 : w.frozen? ⟨g, o, none⟩ = false) (f1 : w.frozen? ⟨g, o + 1, none⟩ = false) (hn : -9223372036854775808 ≤ n + 1 ∧ n + 1 ≤ 9223372036854775807) :
    Calls Tryd.prog 26 #[.pointer (some ⟨g, o, none⟩), .int .i64 k] w fun e w' => e = .returned (.tuple #[]) ∧ w' = (w.setCell ⟨g, o, none⟩ (.int .i64 (n + 1))).setCell ⟨g, o + 1, none⟩ (.int .i64 (max d k)) := by
  go_enter Tryd.func26, Tryd.ntmps26
  go_wp2
  refine bodyPost_end (v := .tuple #[]) (by simp [results, Tryd.results26]) rfl ⟨rfl, rfl⟩
set_option maxHeartbeats 1000000 in
theorem sizeCheck_any (g o : Nat) (n d : Int) (w : World) (h0 : w.cell? ⟨g, o, none⟩ = some (.int .i64 n)) (h1 : w.cell? ⟨g, o + 1, none⟩ = some (.int .i64 d)) :
    Calls Tryd.prog 8 #[.pointer (some ⟨g, o, none⟩)] w fun e w' => e = .returned (.int .i64 (if n > 1000 ∨ d > 50 then 2 else 0)) ∧ w' = w := by
  go_enter Tryd.func8, Tryd.ntmps8
  by_cases hn : 1000 < n
  · rw [if_pos (Or.inl hn)]
    go_wp2
    go_ret
    exact ⟨rfl, rfl⟩
  · by_cases hd : 50 < d
    · rw [if_pos (Or.inr hd)]
      go_wp2
      go_ret
      exact ⟨rfl, rfl⟩
    · rw [if_neg (by omega)]
      go_wp2
      go_ret
      exact ⟨rfl, rfl⟩
end Go.Proofs.YtdibjdpnleepmacDoor
