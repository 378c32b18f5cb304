/-
  package gameref, walked: mark of any player.
-/
import Derived.Test.YtihojhfpepbjhaaGreatDoorJ14
import Derived.Test.YtihojhfpepbjhaaGreatDoorV22
namespace Go.Proofs.YtihojhfpepbjhaaGreatDoor
open Go.RowKit
attribute [local go_sem ↓] Go.wp_at_zero Go.wp_at_succ

theorem let_cap : ∀ c : Nat, c < 256 → capB (c : Int) = true → letN 1 c = c + 32 ∧ letN 0 c = c ∧ c + 32 < 256 := by decide +kernel
theorem rMarkN (P c : Nat) (w : World) (hP : P ≤ 1) (hc : c < 256) (hcap : capB (c : Int) = true) :
    Calls Tryz.prog 110 #[.int .u8 (c : Int), .int .i64 (P : Int)] w fun e w' => e = .returned (.string ⟨#[(letN P c).toUInt8]⟩) ∧ Below w.heap.size w w' := by
  obtain ⟨h1, h0, h32⟩ := let_cap c hc hcap
  have e : c.toUInt8.toNat = c := u8_back hc
  rcases (by omega : P = 0 ∨ P = 1) with rfl | rfl
  · have := rMark_0 c.toUInt8 w
    rw [e] at this
    rw [h0]; exact this
  · have := rMark_1 c.toUInt8 (c + 32).toUInt8 w (by rw [e, u8_back h32])
    rw [e] at this
    rw [h1]; exact this
end Go.Proofs.YtihojhfpepbjhaaGreatDoor
