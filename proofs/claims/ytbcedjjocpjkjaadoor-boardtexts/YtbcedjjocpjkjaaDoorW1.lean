/-
  The small functions of package board, walked: what each returns, for every argument; the world stands.
-/
import Derived.Test.YtbcedjjocpjkjaaDoorProg
import Derived.WalkKit
import Derived.WalkSpells
import Derived.WalkLawsBesides
import Derived.Deep.QuietTactic
import Derived.BigQuiet
namespace Go.Proofs.YtbcedjjocpjkjaaDoor
open Go.RowKit

theorem hide {p : Prop} (h : p) : Hid p := h
theorem unhide {p : Prop} (h : Hid p) : p := h
theorem ret_bool {a b : Bool} (h : a = b) : Ending.returned (.bool a) = .returned (.bool b) := by rw [h]
theorem ret_int {k : IntKind} {a b : Int} (h : a = b) : Ending.returned (.int k a) = .returned (.int k b) := by rw [h]

/-- 'A' to 'Z'. -/
def capB (c : Int) : Bool := decide (65 ≤ c) && decide (c ≤ 90)
/-- '.', 'A' to 'Z', 'a' to 'z'. -/
def cellB (c : Int) : Bool := decide (c = 46) || capB c || (decide (97 ≤ c) && decide (c ≤ 122))
def sideB (n : Int) : Bool := decide (1 ≤ n) && decide (n ≤ 8)
def turnB (n : Int) : Bool := decide (0 ≤ n) && decide (n < 8)

set_option maxHeartbeats 400000 in
theorem isCapital_any (c : Int) (w : World) :
    Calls Tryd.prog 31 #[.int .u8 c] w fun e w' => e = .returned (.bool (capB c)) ∧ w' = w := by
  go_enter Tryd.func31, Tryd.ntmps31
  go_wp2
  all_goals go_ret
  all_goals refine ⟨ret_bool ?_, rfl⟩
  all_goals (unfold capB; simp; try omega)

set_option maxHeartbeats 400000 in
theorem isSide_any (n : Int) (w : World) :
    Calls Tryd.prog 20 #[.int .i64 n] w fun e w' => e = .returned (.bool (sideB n)) ∧ w' = w := by
  go_enter Tryd.func20, Tryd.ntmps20
  go_wp2
  all_goals go_ret
  all_goals refine ⟨ret_bool ?_, rfl⟩
  all_goals (unfold sideB; simp; try omega)

theorem andNot_cap : ∀ c : Nat, c < 256 → (capB (bits .andNot .u8 (c : Int) 32) = (capB c || (decide (97 ≤ (c : Int)) && decide ((c : Int) ≤ 122)))) := by decide +kernel

set_option maxHeartbeats 400000 in
theorem Capital_any (c : Nat) (w : World) :
    Calls Tryd.prog 39 #[.int .u8 c] w fun e w' => e = .returned (.int .u8 (bits .andNot .u8 (c : Int) 32)) ∧ w' = w := by
  go_enter Tryd.func39, Tryd.ntmps39
  go_wp2
  go_ret
  exact ⟨rfl, rfl⟩

set_option maxHeartbeats 400000 in
theorem isCell_any (c : Nat) (w : World) (h1 : c < 256) :
    Calls Tryd.prog 30 #[.int .u8 c] w fun e w' => e = .returned (.bool (cellB c)) ∧ w' = w := by
  have hB := hide (andNot_cap c h1)
  by_cases h46 : (c : Int) = 46
  · obtain rfl : c = 46 := by omega
    go_enter Tryd.func30, Tryd.ntmps30
    go_wp2_with (first | (go_at_call 39; refine (Capital_any _ _).mono ?_; rintro e w' ⟨rfl, rfl⟩) | (go_at_call 31; refine (isCapital_any _ _).mono ?_; rintro e w' ⟨rfl, rfl⟩))
    go_ret
    exact ⟨ret_bool (by decide), rfl⟩
  · have hd : ((c : Int) == 46) = false := by simpa using h46
    go_enter Tryd.func30, Tryd.ntmps30
    go_wp2_with (first | (go_at_call 39; refine (Capital_any _ _).mono ?_; rintro e w' ⟨rfl, rfl⟩) | (go_at_call 31; refine (isCapital_any _ _).mono ?_; rintro e w' ⟨rfl, rfl⟩))
    go_ret
    exact ⟨ret_bool (by rw [unhide hB]; simp [cellB, h46]), rfl⟩

/-- Where the cell x, y of a board of W columns and H rows, turned by k, comes from. -/
def srcX (W : Int) (k : Nat) (x y : Int) : Int :=
  if k / 4 % 2 = 1 then (if k / 2 % 2 = 1 then W - 1 - y else y) else (if k % 2 = 1 then W - 1 - x else x)
def srcY (H : Int) (k : Nat) (x y : Int) : Int :=
  if k / 4 % 2 = 1 then (if k % 2 = 1 then H - 1 - x else x) else (if k / 2 % 2 = 1 then H - 1 - y else y)

theorem mul_small {u W : Int} (h0 : -8 ≤ u) (h1 : u ≤ 8) (hW0 : 1 ≤ W) (hW1 : W ≤ 8) : -64 ≤ u * W ∧ u * W ≤ 64 := by
  constructor
  · have h2 := Int.mul_le_mul_of_nonneg_right h0 (show (0 : Int) ≤ W by omega)
    omega
  · have h2 := Int.mul_le_mul_of_nonneg_right h1 (show (0 : Int) ≤ W by omega)
    omega
theorem wrap_in (n : Int) (h : -9223372036854775808 ≤ n ∧ n ≤ 9223372036854775807) : wrap64 n = n := by unfold wrap64; omega
theorem wrap_mul {u W v : Int} (h0 : -8 ≤ u) (h1 : u ≤ 8) (hW0 : 1 ≤ W) (hW1 : W ≤ 8) (v0 : -16 ≤ v) (v1 : v ≤ 16) : wrap64 (wrap64 (u * W) + v) = u * W + v := by
  have hm := mul_small h0 h1 hW0 hW1
  rw [wrap_in (u * W) (by omega), wrap_in _ (by omega)]

end Go.Proofs.YtbcedjjocpjkjaaDoor
