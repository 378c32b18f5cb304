/-
  package tourney, walked: isRating, change, unsigned; the document's Fair.
-/
import Derived.Test.YtdpjkfmhmjgokaaY12
import Derived.Test.YtdpjkfmhmjgokaaY1
namespace Go.Proofs.Ytdpjkfmhmjgokaa
open Go.RowKit
attribute [local go_sem ↓] Go.wp_at_zero Go.wp_at_succ

theorem ret_float {a b : Nat} (h : a = b) : Ending.returned (.float .f64 a) = .returned (.float .f64 b) := by rw [h]
theorem isRating_any (x : Nat) (w : World) : Calls Try.prog 22 #[.float .f64 x] w fun e w' => e = .returned (.bool (fairB x)) ∧ w' = w := by
  obtain ⟨O1, b1⟩ : ∃ O : Option Ordering, FloatKind.f64.format.order 13920209183539462144 x = O := ⟨_, rfl⟩
  obtain ⟨O2, b2⟩ : ∃ O : Option Ordering, FloatKind.f64.format.order x 4696837146684686336 = O := ⟨_, rfl⟩
  have HE : Hid (fairB x = ((O1 == some .lt || O1 == some .eq) && (O2 == some .lt || O2 == some .eq))) := hide (by rw [← b1, ← b2]; unfold fairB; rw [← fair_swap]; rfl)
  generalize fairB x = F at *
  go_enter Try.func22, Try.ntmps22
  rcases O1 with _ | (_ | _ | _) <;> rcases O2 with _ | (_ | _ | _) <;> (go_wp2; go_ret; exact ⟨ret_bool (unhide HE).symm, rfl⟩)
theorem Fair_any (x : Nat) (w : World) : Calls Try.prog 11 #[.float .f64 x] w fun e w' => e = .returned (.bool (fairB x)) ∧ w' = w := by
  obtain ⟨O1, b1⟩ : ∃ O : Option Ordering, FloatKind.f64.format.order x 13920209183539462144 = O := ⟨_, rfl⟩
  obtain ⟨O2, b2⟩ : ∃ O : Option Ordering, FloatKind.f64.format.order x 4696837146684686336 = O := ⟨_, rfl⟩
  have HE : Hid (fairB x = ((O1 == some .gt || O1 == some .eq) && (O2 == some .lt || O2 == some .eq))) := hide (by rw [← b1, ← b2]; rfl)
  generalize fairB x = F at *
  go_enter Try.func11, Try.ntmps11
  rcases O1 with _ | (_ | _ | _) <;> rcases O2 with _ | (_ | _ | _) <;> (go_wp2; go_ret; exact ⟨ret_bool (unhide HE).symm, rfl⟩)

theorem run_maxF {d : Nat} (h : NN d) (ts : Array TypeId) (t : TypeId) (u : World) : (Builtin.max_ ts t #[.float .f64 d, .float .f64 0]).run Try.prog u = .ok (.float .f64 (mxF d)) u := by
  obtain ⟨o, ho⟩ := nn_order h zero_word zero_lt'
  have ho' : FloatKind.f64.format.order d 0 = some o := ho
  unfold mxF
  rw [ho]
  cases o <;> simp [Builtin.max_, Builtin.max2, ho', FloatKind.decode] <;> rfl
theorem run_minF {d : Nat} (h : NN d) (ts : Array TypeId) (t : TypeId) (u : World) : (Builtin.min_ ts t #[.float .f64 d, .float .f64 4607182418800017408]).run Try.prog u = .ok (.float .f64 (mnF d)) u := by
  obtain ⟨o, ho⟩ := nn_order h one_word one_lt
  have ho' : FloatKind.f64.format.order d 4607182418800017408 = some o := ho
  unfold mnF
  rw [ho]
  cases o <;> simp [Builtin.min_, Builtin.min2, ho', FloatKind.decode] <;> rfl
theorem half_of {h : Int} (h0 : 0 ≤ h) (h2 : h ≤ 2) : floatBits .quo .f64 (floatOfInt .f64 h) 4611686018427387904 = some (sW h) := by
  have : h = 0 ∨ h = 1 ∨ h = 2 := by omega
  rcases this with rfl | rfl | rfl <;> decide +kernel

set_option maxHeartbeats 1000000 in
theorem change_any {a b k n : Nat} (ha : Fl a n) (hb : Fl b n) (h : Int) (h0 : 0 ≤ h) (h2 : h ≤ 2) (hk : Fl k 1000000) (hn0 : 0 < n) (hn : n < 2 ^ 52) (w : World) : Calls Try.prog 35 #[.float .f64 a, .float .f64 b, .int .i64 h, .float .f64 k] w fun e w' => e = .returned (.float .f64 (chg a b h k)) ∧ w' = w := by
  obtain ⟨d1, d2, d3, t, e1, e2, e3, n3, n4, e4, -, e5, -⟩ := chg_ok ha hb h hk hn0 hn
  have o1 : ∀ ty u, (binOp .sub ty (.float .f64 a) (.float .f64 b)).run Try.prog u = .ok (.float .f64 d1) u := fun ty u => run_float_arith u .sub ty .f64 _ _ _ e1
  have o2 : ∀ ty u, (binOp .quo ty (.float .f64 d1) (.float .f64 4650248090236747776)).run Try.prog u = .ok (.float .f64 d2) u := fun ty u => run_float_arith u .quo ty .f64 _ _ _ e2
  have o3 : ∀ ty u, (binOp .add ty (.float .f64 d2) (.float .f64 4602678819172646912)).run Try.prog u = .ok (.float .f64 d3) u := fun ty u => run_float_arith u .add ty .f64 _ _ _ e3
  have o4 : ∀ ts ty u, (Builtin.max_ ts ty #[.float .f64 d3, .float .f64 0]).run Try.prog u = .ok (.float .f64 (mxF d3)) u := fun ts ty u => run_maxF n3 ts ty u
  have o5 : ∀ ts ty u, (Builtin.min_ ts ty #[.float .f64 (mxF d3), .float .f64 4607182418800017408]).run Try.prog u = .ok (.float .f64 (mnF (mxF d3))) u := fun ts ty u => run_minF n4 ts ty u
  obtain ⟨fh, hfh⟩ : ∃ f, f = floatOfInt .f64 h := ⟨_, rfl⟩
  have o6 : ∀ u, (convert 3 24 (.int .i64 h)).run Try.prog u = .ok (.float .f64 fh) u := fun u => by rw [hfh]; exact run_convert_int_float u _ _ _ _ _ (by rw [Try.underlying3]; rfl) Try.underlying24
  have o7 : ∀ ty u, (binOp .quo ty (.float .f64 fh) (.float .f64 4611686018427387904)).run Try.prog u = .ok (.float .f64 (sW h)) u := fun ty u => run_float_arith u .quo ty .f64 _ _ _ (by rw [hfh]; exact half_of h0 h2)
  have o8 : ∀ ty u, (binOp .sub ty (.float .f64 (sW h)) (.float .f64 (mnF (mxF d3)))).run Try.prog u = .ok (.float .f64 t) u := fun ty u => run_float_arith u .sub ty .f64 _ _ _ e4
  have o9 : ∀ ty u, (binOp .mul ty (.float .f64 k) (.float .f64 t)).run Try.prog u = .ok (.float .f64 (chg a b h k)) u := fun ty u => run_float_arith u .mul ty .f64 _ _ _ e5
  generalize chg a b h k = c at *
  generalize mnF (mxF d3) = q at *
  generalize mxF d3 = m at *
  generalize sW h = s at *
  clear e1 e2 e3 e4 e5 n3 n4 ha hb hk hfh h0 h2 hn0 hn
  go_enter Try.func35, Try.ntmps35
  go_wp2
  go_ret
  exact ⟨rfl, rfl⟩
/-- 0 has no sign. -/
def unsF (x : Nat) : Nat := if (FloatKind.f64.format.order x 0 == some .eq) = true then 0 else x
theorem unsigned_any (x : Nat) (w : World) : Calls Try.prog 36 #[.float .f64 x] w fun e w' => e = .returned (.float .f64 (unsF x)) ∧ w' = w := by
  obtain ⟨O1, b1⟩ : ∃ O : Option Ordering, FloatKind.f64.format.order x 0 = O := ⟨_, rfl⟩
  have HE : Hid (unsF x = if (O1 == some .eq) = true then 0 else x) := hide (by unfold unsF; rw [b1])
  generalize unsF x = F at *
  go_enter Try.func36, Try.ntmps36
  rcases O1 with _ | (_ | _ | _) <;> (go_wp2; go_ret; exact ⟨ret_float (unhide HE).symm, rfl⟩)
theorem uns_same {x n : Nat} (h : Fl x n) : FloatKind.f64.format.order (unsF x) x = some .eq := by
  unfold unsF
  split
  · rename_i h1
    exact order_zero h1
  · exact order_self h
end Go.Proofs.Ytdpjkfmhmjgokaa
