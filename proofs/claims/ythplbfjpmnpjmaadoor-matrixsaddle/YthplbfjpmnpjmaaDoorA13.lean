/-
  package matrix, walked: the determinants in memory; cofactor.
-/
import Derived.Test.YthplbfjpmnpjmaaDoorA12
import Derived.Deep.QuietTactic
namespace Go.Proofs.YthplbfjpmnpjmaaDoor
open Go.RowKit Lp
attribute [local go_sem ↓] Go.wp_at_zero Go.wp_at_succ

/-- A block of 64 times 64 whole numbers. -/
structure isMn (W : World) (b : Nat) (T : Nat → Nat → Int) : Prop where
  blk : ∃ arr : Array Value, W.heap[b]? = some (.cells arr 90 (0, 0)) ∧ arr.size = 4096 ∧ ∀ r c, r < 64 → c < 64 → arr[r * 64 + c]? = some (.int .i64 (T r c))
theorem isMn.cell {W : World} {b : Nat} {T : Nat → Nat → Int} (h : isMn W b T) {r c : Nat} (hr : r < 64) (hc : c < 64) : W.cell? ⟨b, r * 64 + c, none⟩ = some (.int .i64 (T r c)) ∧ W.frozen? ⟨b, r * 64 + c, none⟩ = false := by
  obtain ⟨arr, h1, h2, h3⟩ := h.blk
  have h4 := h3 r c hr hc
  exact ⟨by unfold World.cell?; rw [h1]; simpa using h4, by simp [World.frozen?, h1]⟩
theorem isMn.lt {W : World} {b : Nat} {T : Nat → Nat → Int} (h : isMn W b T) : b < W.heap.size := by
  obtain ⟨arr, h1, -⟩ := h.blk
  exact (Array.getElem?_eq_some_iff.1 h1).1
theorem isMn.keep {W W' : World} {b : Nat} {T : Nat → Nat → Int} (h : isMn W b T) (hk : W'.heap[b]? = W.heap[b]?) : isMn W' b T := by
  obtain ⟨arr, h1, h2⟩ := h.blk
  exact ⟨arr, hk.trans h1, h2⟩
/-- One place turned. -/
def setT (T : Nat → Nat → Int) (r c : Nat) (v : Int) : Nat → Nat → Int := fun i j => if i = r ∧ j = c then v else T i j
theorem isMn.put {W : World} {b : Nat} {T : Nat → Nat → Int} (h : isMn W b T) {r c : Nat} (hr : r < 64) (hc : c < 64) (v : Int) : isMn (W.setCell ⟨b, r * 64 + c, none⟩ (.int .i64 v)) b (setT T r c v) := by
  obtain ⟨arr, h1, h2, h3⟩ := h.blk
  refine ⟨arr.setIfInBounds (r * 64 + c) (.int .i64 v), heap_setCell_same W b (r * 64 + c) _ _ _ h1, by simp [h2], fun i j hi hj => ?_⟩
  rw [Array.getElem?_setIfInBounds]
  unfold setT
  by_cases e : i = r ∧ j = c
  · obtain ⟨rfl, rfl⟩ := e
    rw [if_pos rfl, if_pos (by omega), if_pos ⟨rfl, rfl⟩]
  · rw [if_neg e, if_neg (by omega)]
    exact h3 i j hi hj
/-- The cofactor, as it is reckoned. -/
def cofT (T : Nat → Nat → Int) (r c i j : Nat) : Int := if (pl r i + pl c j) % 2 = 1 then wrap64 (- T (wo r i) (wo c j)) else T (wo r i) (wo c j)
set_option maxRecDepth 100000 in
theorem pl_le : ∀ s, s < 64 → ∀ i, i < 6 → pl s i ≤ 6 := by decide +kernel

set_option maxHeartbeats 2000000 in
theorem cofactor_any (b r c i j : Nat) (T : Nat → Nat → Int) (hr : r < 64) (hc : c < 64) (hi : i < 6) (hj : j < 6) (W : World) (hM : isMn W b T) :
    Calls Tryd.prog 57 #[.pointer (some ⟨b, 0, none⟩), .int .u64 (r : Int), .int .u64 (c : Int), .int .i64 (i : Int), .int .i64 (j : Int)] W fun e w' => e = .returned (.int .i64 (cofT T r c i j)) ∧ ∃ q, w' = W.drewN q := by
  have hw1 := wo_lt r hr i hi
  have hw2 := wo_lt c hc j hj
  obtain ⟨c0, -⟩ := hM.cell hw1 hw2
  have HW1 := hide (fun u => without_any r i hr hi u)
  have HW2 := hide (fun u => without_any c j hc hj u)
  have HP1 := hide (fun u => place_any r i hr hi u)
  have HP2 := hide (fun u => place_any c j hc hj u)
  have hp1 := pl_le r hr i hi
  have hp2 := pl_le c hc j hj
  unfold cofT
  generalize T (wo r i) (wo c j) = x at *
  generalize wo r i = R at *
  generalize wo c j = C at *
  generalize pl r i = p at *
  generalize pl c j = q at *
  obtain ⟨s, hs⟩ : ∃ s, p + q = s := ⟨_, rfl⟩
  have hsi : (p : Int) + (q : Int) = (s : Int) := by omega
  have hR0 : (0 : Int) ≤ (R : Int) := by omega
  have hC0 : (0 : Int) ≤ (C : Int) := by omega
  have hRi : (R : Int) < 64 := by omega
  have hCi : (C : Int) < 64 := by omega
  rw [hs]
  clear hM
  by_cases ho : s % 2 = 1
  · have hom : (s : Int).tmod 2 = 1 := by rw [Int.tmod_eq_emod_of_nonneg (by omega)]; omega
    have hse : s ≤ 12 := by omega
    rw [if_pos ho]
    clear hs ho hp1 hp2
    go_enter Tryd.func57, Tryd.ntmps57
    go_wp2_with fail
    go_quiet (first | (go_at_call 80; first | (with_reducible exact Calls.quiet_of_same (unhide HW1 _)) | (with_reducible exact Calls.quiet_of_same (unhide HW2 _))))
    go_wp2_with (first | (go_at_call 81; first | ((with_reducible refine (unhide HP1 _).mono ?_); clear HP1; rintro e w' ⟨rfl, rfl⟩) | ((with_reducible refine (unhide HP2 _).mono ?_); clear HP2; rintro e w' ⟨rfl, rfl⟩)))
    go_ret
    exact ⟨rfl, _, rfl⟩
  · have hom : (s : Int).tmod 2 = 0 := by rw [Int.tmod_eq_emod_of_nonneg (by omega)]; omega
    have hse : s ≤ 12 := by omega
    rw [if_neg ho]
    clear hs ho hp1 hp2
    go_enter Tryd.func57, Tryd.ntmps57
    go_wp2_with fail
    go_quiet (first | (go_at_call 80; first | (with_reducible exact Calls.quiet_of_same (unhide HW1 _)) | (with_reducible exact Calls.quiet_of_same (unhide HW2 _))))
    go_wp2_with (first | (go_at_call 81; first | ((with_reducible refine (unhide HP1 _).mono ?_); clear HP1; rintro e w' ⟨rfl, rfl⟩) | ((with_reducible refine (unhide HP2 _).mono ?_); clear HP2; rintro e w' ⟨rfl, rfl⟩)))
    go_ret
    exact ⟨rfl, _, rfl⟩
end Go.Proofs.YthplbfjpmnpjmaaDoor
