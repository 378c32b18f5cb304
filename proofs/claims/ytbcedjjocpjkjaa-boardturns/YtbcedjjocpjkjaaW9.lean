/-
  board.areTurns, walked: whether a list of at least one holds turns alone.
-/
import Derived.Test.YtbcedjjocpjkjaaW8
namespace Go.Proofs.Ytbcedjjocpjkjaa
open Go.RowKit

set_option maxHeartbeats 400000 in
theorem areTurns_any (g off cap : Nat) (zs : List Int) (w : World) (hn : zs.length ≤ maxLen) (h0 : 0 < zs.length) (hc : ∀ j (h : j < zs.length), w.cell? ⟨g, off + j, none⟩ = some (.int .i64 zs[j])) :
    Calls Try.prog 38 #[.slice (some ⟨g, off, none⟩) zs.length cap] w fun e w' => e = .returned (.bool (zs.all turnB)) ∧ w' = w := by
  unfold maxLen at hn
  have HC := hide hc
  clear hc
  go_enter Try.func38, Try.ntmps38
  go_wp2
  go_loop [7] (fun i => ∃ k : Nat, k ≤ zs.length ∧ i = .int .i64 k ∧ (zs.take k).all turnB = true) (fun i => zs.length - (intOf i).toNat)
  case atStart => exact ⟨0, Nat.zero_le _, rfl, rfl⟩
  case round =>
    obtain ⟨k, hk, rfl, hall⟩ := hrel
    have HA := hide hall
    clear hall
    by_cases hlt : k < zs.length
    · have hck := unhide HC k hlt
      obtain ⟨z, hz⟩ : ∃ z, z = zs[k] := ⟨_, rfl⟩
      rw [← hz] at hck
      have HZ := hide hz
      clear hz
      go_wp2_with (go_at_call 35; refine (isTurn_any _ _).mono ?_; rintro e w' ⟨rfl, rfl⟩)
      · have hf : (!turnB z) = true := by assumption
        go_ret
        refine ⟨ret_bool ?_, rfl⟩
        symm
        rw [List.all_eq_false]
        exact ⟨zs[k], List.getElem_mem _, by rw [← unhide HZ]; simpa using hf⟩
      · have hf : (!turnB z) = false := by assumption
        go_round
        case rel => exact ⟨k + 1, by omega, by go_num, by rw [List.take_succ_eq_append_getElem hlt, List.all_append, unhide HA, ← unhide HZ]; simpa using hf⟩
        case measure => simp [intOf]; omega
    · go_wp2
      go_ret
      refine ⟨ret_bool ?_, rfl⟩
      have h1 := unhide HA
      rw [List.take_of_length_le (by omega)] at h1
      rw [h1]
end Go.Proofs.Ytbcedjjocpjkjaa
