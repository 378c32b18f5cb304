/-
  package tourney, walked: ranksOf.
-/
import Derived.Test.YtdpjkfmhmjgokaaY2
namespace Go.Proofs.Ytdpjkfmhmjgokaa
open Go.RowKit Go.Sort
attribute [local go_sem ↓] Go.wp_at_zero Go.wp_at_succ

theorem row_keep {w w' : World} {base : Nat} {e : TypeId} {size n : Nat} {v : Value} {xs : List Value} (h : w.ownsRow base e size v n xs) (hk : ∀ g, v.ownBlock = some g → w'.heap[g]? = w.heap[g]?) : w'.ownsRow base e size v n xs := by
  obtain ⟨h1, h2⟩ := h
  refine ⟨h1, ?_⟩
  rcases h2 with h2 | ⟨g, cap, cur, e1, hb, hg', r⟩
  · exact .inl h2
  · refine .inr ⟨g, cap, cur, e1, hb, ?_, r⟩
    subst e1
    exact (hk g rfl).trans hg'
/-- A row of n ranks of the call's own. -/
structure RkR (u : World) (base g n : Nat) (f : Nat → Rk) : Prop where
  row : u.ownsRow base 34 3 (.slice (some ⟨g, 0, none⟩) n n) n (rvs ((List.range n).map f))
section
variable {u u' : World} {base g n : Nat} {f f' : Nat → Rk}
theorem RkR.lt (h : RkR u base g n f) : base ≤ g ∧ g < u.heap.size := row_block h.row rfl
theorem RkR.cell (h : RkR u base g n f) {i : Nat} (hi : i < n) (c : Nat) (hc : c < 3) : u.cell? ⟨g, i * 3 + c, none⟩ = (encR (f i))[c]? ∧ u.frozen? ⟨g, i * 3 + c, none⟩ = false := by
  refine ⟨?_, h.row.frozenAt _⟩
  rw [h.row.cellAt (i * 3 + c) (by omega)]
  exact fm_at (f := encR) (c := 3) (fun _ => rfl) _ i c (f i) (by simp [hi]) hc
theorem RkR.keep (h : RkR u base g n f) (hk : u'.heap[g]? = u.heap[g]?) : RkR u' base g n f := ⟨row_keep h.row fun k hg => by simp only [Value.ownBlock, Option.some.injEq] at hg; rw [← hg]; exact hk⟩
theorem RkR.below (h : RkR u base g n f) (hb : Below u.heap.size u u') : RkR u' base g n f := h.keep (hb.block g h.lt.2)
theorem RkR.congr (h : RkR u base g n f) (he : ∀ i, i < n → f i = f' i) : RkR u base g n f' := by
  refine ⟨?_⟩
  rw [show (List.range n).map f' = (List.range n).map f from List.map_congr_left fun i hi => (he i (List.mem_range.1 hi)).symm]
  exact h.row
theorem RkR.put (h : RkR u base g n f) {i : Nat} (hi : i < n) (c : Nat) (hc : c < 3) (v : Value) (x' : Rk) (hv : encR x' = (encR (f i)).set c v) : RkR (u.setCell ⟨g, i * 3 + c, none⟩ v) base g n (fun k => if k = i then x' else f k) ∧ u.grownBy (u.setCell ⟨g, i * 3 + c, none⟩ v) (some g) := by
  obtain ⟨h1, h2⟩ := h.row.stored (i * 3 + c) v
  refine ⟨⟨?_⟩, h2⟩
  rw [show (rvs ((List.range n).map f)).set (i * 3 + c) v = rvs (((List.range n).map f).set i x') from fm_set (f := encR) (c := 3) (fun _ => rfl) _ i c (f i) x' v (by simp [hi]) hc hv] at h1
  have e : ((List.range n).map f).set i x' = (List.range n).map fun k => if k = i then x' else f k := by
    apply List.ext_getElem?
    intro k
    by_cases hk : k < n
    · by_cases hki : i = k
      · subst hki
        rw [List.getElem?_set_self (by simp [hi])]
        simp [hk]
      · rw [List.getElem?_set_ne hki]
        simp [hk, show ¬ k = i by omega]
    · rw [List.getElem?_eq_none (by simp; omega), List.getElem?_eq_none (by simp; omega)]
  rw [← e]
  exact h1
end
theorem made_ranks (n : Nat) : (madeCells (Value.agg #[.int .i64 0, .int .i64 0, .int .i64 0]).cells (n * 3)).toList = rvs ((List.range n).map fun _ => ⟨0, 0, 0⟩) := by
  have hz : (Value.agg #[.int .i64 0, .int .i64 0, .int .i64 0]).cells = #[.int .i64 0, .int .i64 0, .int .i64 0] := rfl
  rw [hz]
  apply List.ext_getElem?
  intro j
  by_cases hj : j < n * 3
  · have hi : j / 3 < n := by omega
    have hm : j % 3 < 3 := by omega
    have e1 := fm_at (f := encR) (c := 3) (fun _ => rfl) ((List.range n).map fun _ => (⟨0, 0, 0⟩ : Rk)) (j / 3) (j % 3) ⟨0, 0, 0⟩ (by simp [hi]) hm
    rw [show j / 3 * 3 + j % 3 = j by omega] at e1
    unfold rvs
    rw [e1]
    simp only [madeCells, Array.toList_map, Array.toList_range, List.getElem?_map, List.getElem?_range hj, Option.map_some]
    have : j % 3 = 0 ∨ j % 3 = 1 ∨ j % 3 = 2 := by omega
    rcases this with e | e | e <;> simp [e, encR]
  · rw [List.getElem?_eq_none (by simp [madeCells]; omega), List.getElem?_eq_none (by rw [rvs_len]; simp; omega)]
theorem infoRk : (Try.prog.info? 34).map (fun i => (i.zero, i.size, i.bytes)) = some (some (.agg #[.int .i64 0, .int .i64 0, .int .i64 0]), 3, 24) := by kernel_rfl
theorem below_grown {w u u' : World} {g : Nat} (h : Below w.heap.size w u) (hg : u.grownBy u' (some g)) (hB : w.heap.size ≤ g) : Below w.heap.size w u' :=
  ⟨hg.os.trans h.os, hg.tape.trans h.tape, hg.output.trans h.output, Nat.le_trans h.size hg.size, fun k hk => (hg.block k (by have := h.size; omega) (by simp only [Option.some.injEq, ne_eq]; omega)).trans (h.block k hk)⟩
end Go.Proofs.Ytdpjkfmhmjgokaa
