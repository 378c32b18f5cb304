/-
  gamekeep.NimTrue, walked: errors; heaps that are lost.
-/
import Derived.Test.YtphnjedoghopcaaQ41
namespace Go.Proofs.Ytphnjedoghopcaa
open Go.RowKit
attribute [local go_sem ↓] Go.wp_at_zero Go.wp_at_succ

theorem lit_code : codeB ⟨#[48, 46, 51]⟩ = true := by first | kernel_rfl | rfl | decide +kernel
theorem entAfter : ∀ args (u : World), (callFunc 17 args).run Try.prog u = .ok (.enter 17 args) u := enters_of Try.func17 (by kernel_rfl) rfl
theorem after_lost {D hs : List Nat} (h : winO D hs = none) {k n : Nat} (hn : hs[k]? = some n) {x : List Nat} (hx : x ∈ tks D n) : (winO D (aft hs k x)).isSome = true := by
  cases h2 : winO D (aft hs k x) with
  | some p => rfl
  | none =>
    exfalso
    have h3 := winO_none.1 h2
    rw [grs_aft hn, winO_none.1 h, Nat.zero_xor] at h3
    have h4 := xor_zero_of h3
    have : gr D n ∈ (tks D n).map (grs D) := List.mem_map.2 ⟨x, hx, h4.symm⟩
    rw [gr_eq] at this
    exact mex_no _ this

set_option maxHeartbeats 4000000 in
set_option maxRecDepth 100000 in
theorem nimTrue_err (s : ByteArray) (r : List Int) (ho : Option Addr) (hc : Nat) (w : World) (hsz : s.size ≤ maxLen) (hH : isIs w w.heap.size ho hc r) (hbad : codeB s = false ∨ (codeB s = true ∧ ¬ (r.length ≤ 20 ∧ r.all heapB = true))) :
    Calls Try.prog 5 #[.string s, .slice ho r.length hc] w fun e w' => e = .returned (.bool true) ∧ Below w.heap.size w w' := by
  obtain ⟨w1, hw1⟩ : ∃ w1, w1 = w.alloc (.cells #[.string s] 9 (0, 0)) := ⟨_, rfl⟩
  obtain ⟨w2, hw2⟩ : ∃ w2, w2 = w1.alloc (.cells #[.slice ho r.length hc] 22 (0, 0)) := ⟨_, rfl⟩
  have hb1 : Below w.heap.size w w1 := by rw [hw1]; exact (Below.refl _ _).alloc (Nat.le_refl _) _
  have hb2 : Below w.heap.size w w2 := by rw [hw2]; exact hb1.alloc hb1.size _
  have hs1 : w1.heap.size = w.heap.size + 1 := by rw [hw1]; simp
  have q3 : isSb w2 (w.heap.size + 1) (.slice ho r.length hc) 22 := by rw [hw2, ← hs1]; exact heap_alloc_new w1 _
  have q2 : isSb w2 w.heap.size (.string s) 9 := by
    rw [hw2]; refine (Below.heap_alloc _ _ _ (by omega)).trans ?_; rw [hw1]; exact heap_alloc_new w _
  obtain ⟨c2, -⟩ := q2.cell
  obtain ⟨c3, -⟩ := q3.cell
  have HWN := hide (Win_any s r ho hc w2 hsz (hH.up hb2))
  have HFORM : Hid (∀ e w3, WiEnd s r w2 e w3 → ∃ E : Int, (E != 0) = true ∧ e = .returned (.tuple #[.bool false, .agg #[.int .i64 0, .slice none 0 0], .int .i64 E]) ∧ Below w.heap.size w w3) := hide (fun e w3 h => by
    rcases hbad with hb | ⟨h1, h2⟩
    · exact ⟨3, rfl, h.code hb, hb2.trans (h.low.mono hb2.size)⟩
    · exact ⟨4, rfl, h.range h1 h2, hb2.trans (h.low.mono hb2.size)⟩)
  have HW1 := hide hw1
  have HW2 := hide hw2
  clear hw1 hw2 hb1 hb2 hs1 q2 q3 hH hsz hbad
  go_enter Try.func5, Try.ntmps5
  go_upto_region 1 with fail
  rw [← unhide HW1, ← unhide HW2]
  go_wp2_with fail
  refine (unhide HWN).mono ?_
  rintro e w3 hwi
  obtain ⟨E, hE, rfl, hb3⟩ := unhide HFORM e w3 hwi
  have HB3 := hide hb3
  clear hb3 hwi
  go_wp2
  go_ret
  exact ⟨rfl, (unhide HB3).alloc (unhide HB3).size _⟩
end Go.Proofs.Ytphnjedoghopcaa
