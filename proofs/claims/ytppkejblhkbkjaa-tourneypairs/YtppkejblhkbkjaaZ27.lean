/-
  gamekeep.TourneyPairs, walked: wrong arguments; a barrier.
-/
import Derived.Test.YtppkejblhkbkjaaZ26
import Derived.Test.YtppkejblhkbkjaaZ24
namespace Go.Proofs.Ytppkejblhkbkjaa
open Go.RowKit Tu
attribute [local go_sem ↓] Go.wp_at_zero Go.wp_at_succ

set_option maxHeartbeats 4000000 in
set_option maxRecDepth 100000 in
theorem tp_no (n : Int) (l : List (Int × Int)) (ao : Option Addr) (cap : Nat) (w : World) (h : isTw w w.heap.size ao cap l) (hb : plB n l = false) :
    Calls Try.prog 4 #[.int .i64 n, .slice ao l.length cap] w fun e w' => e = .returned (.bool true) ∧ Below w.heap.size w w' := by
  have HP := hide (Pair_no n l ao cap w h hb)
  have HH := hide h
  have HPL : Hid (∀ u, Below w.heap.size w u → Calls Try.prog 15 #[.int .i64 n, .slice ao l.length cap] u fun e u' => e = .returned (.bool false) ∧ Below u.heap.size u u') := hide (fun u hu => by
    have h1 : isTw u u.heap.size ao cap l := h.keep (fun k hk => hu.block k hk) hu.size
    have := rPlayers_any n l ao cap u h1
    rw [hb] at this
    exact this)
  clear h hb
  go_enter Try.func4, Try.ntmps4
  go_wp2_with fail
  refine (unhide HP).mono ?_
  rintro e w1 ⟨rfl, hb1⟩
  have HP1 := hide (unhide HPL w1 hb1)
  have HB1 := hide hb1
  clear hb1 HP HPL
  go_wp2_with fail
  refine (unhide HP1).mono ?_
  rintro e w2 ⟨rfl, hb2⟩
  have HB2 := hide ((unhide HB1).trans (hb2.mono (unhide HB1).size))
  clear hb2 HP1
  go_wp2
  go_ret
  exact ⟨rfl, unhide HB2⟩
end Go.Proofs.Ytppkejblhkbkjaa
