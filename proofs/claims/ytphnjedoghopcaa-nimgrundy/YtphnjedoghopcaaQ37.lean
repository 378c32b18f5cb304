/-
  gamelaw.NimGrundy, walked whole.
-/
import Derived.Test.YtphnjedoghopcaaQ35
import Derived.Test.YtphnjedoghopcaaQ36
namespace Go.Proofs.Ytphnjedoghopcaa
open Go.RowKit

theorem nimGrundy_any (s : ByteArray) (n : Int) (r : List Int) (ho : Option Addr) (hc : Nat) (w : World) (hs : s.size ≤ maxLen) (hH : isIs w w.heap.size ho hc r) :
    Calls Try.prog 3 #[.string s, .int .i64 n, .slice ho r.length hc] w fun e w' => e = .returned (.bool true) ∧ Below w.heap.size w w' := by
  cases hcd : codeB s with
  | false => exact nimGrundy_no s n r ho hc w hs hH hcd
  | true =>
    by_cases hok : r.length ≤ 20 ∧ r.all heapB = true
    · obtain ⟨hr, h400⟩ := heaps_nat hok.2
      have hl : (r.map Int.toNat).length ≤ 20 := by rw [List.length_map]; exact hok.1
      cases hw : winO (digs (dig s)) (r.map Int.toNat) with
      | none => exact nimGrundy_zero s n r ho hc w hs hH hcd _ hr hl h400 hw
      | some p => exact nimGrundy_won s n r ho hc w hs hH hcd _ hr hl h400 p.1 p.2 hw
    · exact nimGrundy_bad s n r ho hc w hs hH hcd hok
end Go.Proofs.Ytphnjedoghopcaa
