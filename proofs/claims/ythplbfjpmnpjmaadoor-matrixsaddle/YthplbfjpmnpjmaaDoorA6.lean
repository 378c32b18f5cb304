/-
  package matrix, walked: divisor.
-/
import Derived.Test.YthplbfjpmnpjmaaDoorA5
namespace Go.Proofs.YthplbfjpmnpjmaaDoor
open Go.RowKit
attribute [local go_sem ↓] Go.wp_at_zero Go.wp_at_succ

theorem gcdT (a b : Nat) : Nat.gcd b (a % b) = Nat.gcd a b := by rw [Nat.gcd_comm b, ← Nat.gcd_rec, Nat.gcd_comm]

set_option maxHeartbeats 1000000 in
theorem mDivisor_any (a b : Nat) (w : World) (ha : a < 9223372036854775808) (hb : b < 9223372036854775808) :
    Calls Tryd.prog 35 #[.int .i64 (a : Int), .int .i64 (b : Int)] w fun e w' => e = .returned (.int .i64 ((Nat.gcd a b : Nat) : Int)) ∧ Below w.heap.size w w' := by
  obtain ⟨G, hG⟩ : ∃ G, Nat.gcd a b = G := ⟨_, rfl⟩
  rw [hG]
  have HG := hide hG
  clear hG
  go_enter Tryd.func35, Tryd.ntmps35
  go_wp2
  go_loopw [0, 1] (fun xv yv wq => ∃ x y : Nat, xv = .int .i64 (x : Int) ∧ yv = .int .i64 (y : Int) ∧ x < 9223372036854775808 ∧ y < 9223372036854775808 ∧ Nat.gcd x y = G ∧ Below w.heap.size w wq) (fun _ yv _ => (intOf yv).toNat)
  case atStart => exact ⟨a, b, rfl, rfl, ha, hb, unhide HG, Below.refl _ _⟩
  case round =>
    obtain ⟨x, y, rfl, rfl, hxs, hys, hgc, hbq⟩ := hrel
    by_cases hy0 : y = 0
    · subst hy0
      have hgx : x = G := by rw [← hgc, Nat.gcd_zero_right]
      have HGX := hide hgx
      clear hgx hgc
      go_wp2
      go_ret
      exact ⟨by rw [← unhide HGX]; rfl, hbq⟩
    · have hyi2 : ¬ (y : Int) = 0 := by omega
      obtain ⟨r, hr⟩ : ∃ r, r = x % y := ⟨_, rfl⟩
      have hri : (x : Int) % (y : Int) = (r : Int) := by rw [hr]; simp
      have hrt : (x : Int).tmod (y : Int) = (r : Int) := by rw [Int.tmod_eq_emod_of_nonneg (by omega)]; exact hri
      have hry : r < y := by rw [hr]; exact Nat.mod_lt _ (by omega)
      have hgr : Nat.gcd y r = G := by rw [hr, gcdT]; exact hgc
      have HGR := hide hgr
      clear hgr hgc hr
      go_wp2
      go_quiet (fail)
      go_wp2
      go_roundw
      case rel => exact ⟨y, r, rfl, by first | rfl | go_num, hys, by omega, unhide HGR, below_drewN hbq _⟩
      case measure => simp [intOf]; omega
end Go.Proofs.YthplbfjpmnpjmaaDoor
