/-
  gamekeep.NimTrue, walked whole.
-/
import Derived.Test.YtphnjedoghopcaaQ44
namespace Go.Proofs.Ytphnjedoghopcaa
open Go.RowKit

theorem nimTrue_any (s : ByteArray) (r : List Int) (ho : Option Addr) (hc : Nat) (w : World) (hs : s.size ≤ maxLen) (hH : isIs w w.heap.size ho hc r) :
    Calls Try.prog 5 #[.string s, .slice ho r.length hc] w fun e w' => e = .returned (.bool true) ∧ Below w.heap.size w w' := by
  cases hcd : codeB s with
  | false => exact nimTrue_err s r ho hc w hs hH (.inl hcd)
  | true =>
    by_cases hok : r.length ≤ 20 ∧ r.all heapB = true
    · obtain ⟨hr, h400⟩ := heaps_nat hok.2
      have hl : (r.map Int.toNat).length ≤ 20 := by rw [List.length_map]; exact hok.1
      have hlen : r.length = (r.map Int.toNat).length := by rw [List.length_map]
      rw [hr] at hH
      rw [hlen]
      cases hw : winO (digs (dig s)) (r.map Int.toNat) with
      | none => exact nimTrue_lost s _ ho hc w hs hH hcd hl h400 hw
      | some p => exact nimTrue_won s _ ho hc w hs hH hcd hl h400 p.1 p.2 hw
    · exact nimTrue_err s r ho hc w hs hH (.inr ⟨hcd, hok⟩)
end Go.Proofs.Ytphnjedoghopcaa
