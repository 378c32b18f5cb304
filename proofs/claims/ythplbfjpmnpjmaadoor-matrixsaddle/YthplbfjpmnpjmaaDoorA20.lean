/-
  package matrix, walked: holds.
-/
import Derived.Test.YthplbfjpmnpjmaaDoorA19
namespace Go.Proofs.YthplbfjpmnpjmaaDoor
open Go.RowKit Lp
attribute [local go_sem ↓] Go.wp_at_zero Go.wp_at_succ

theorem mx_row {G : List (List Int)} {w : World} {ao : Option Addr} {cap N : Nat} (h : isMx w w.heap.size ao cap G) (hne : G ≠ []) (hN : 1 ≤ N) (hrow : ∀ r ∈ G, r.length = N) : ∃ g off, ao = some ⟨g, off, none⟩ ∧ g < w.heap.size ∧ ∀ i, i < G.length → ∃ rg roff rci, rg < w.heap.size ∧ N ≤ rci ∧ rci ≤ maxLen ∧ w.cell? ⟨g, off + i, none⟩ = some (.slice (some ⟨rg, roff, none⟩) N rci) ∧ ∀ j, j < N → w.cell? ⟨rg, roff + j, none⟩ = some (.int .i64 (atG G i j)) := by
  obtain ⟨g, off, e, hg, -, hc⟩ := mx_at h hne hrow
  refine ⟨g, off, e, hg, fun i hi => ?_⟩
  obtain ⟨rg, roff, rci, h1, h2, h3, h4, -⟩ := hc i 0 hi (by omega)
  refine ⟨rg, roff, rci, h1, h2, h3, h4, fun j hj => ?_⟩
  obtain ⟨rg', roff', rci', -, -, -, h4', h5'⟩ := hc i j hi hj
  rw [h4] at h4'
  cases h4'
  exact h5'
/-- Six sums. -/
def isGa (W : World) (b : Nat) (g : Nat → Int) : Prop := W.heap[b]? = some (.cells #[.int .i64 (g 0), .int .i64 (g 1), .int .i64 (g 2), .int .i64 (g 3), .int .i64 (g 4), .int .i64 (g 5)] 46 (0, 0))
theorem isGa.cell {W : World} {b : Nat} {g : Nat → Int} (h : isGa W b g) {i : Nat} (hi : i < 6) : W.cell? ⟨b, i, none⟩ = some (.int .i64 (g i)) ∧ W.frozen? ⟨b, i, none⟩ = false := by
  unfold isGa at h
  refine ⟨?_, by simp [World.frozen?, h]⟩
  obtain rfl | rfl | rfl | rfl | rfl | rfl : i = 0 ∨ i = 1 ∨ i = 2 ∨ i = 3 ∨ i = 4 ∨ i = 5 := by omega
  all_goals simp [World.cell?, h]
theorem isGa.put {W : World} {b : Nat} {g : Nat → Int} (h : isGa W b g) {i : Nat} (hi : i < 6) (v : Int) : isGa (W.setCell ⟨b, i, none⟩ (.int .i64 v)) b (upd g i v) := by
  have := heap_setCell_same W b i _ _ (.int .i64 v) h
  unfold isGa
  rw [this]
  obtain rfl | rfl | rfl | rfl | rfl | rfl : i = 0 ∨ i = 1 ∨ i = 2 ∨ i = 3 ∨ i = 4 ∨ i = 5 := by omega
  all_goals simp [upd]
theorem isGa.congr {W : World} {b : Nat} {g g' : Nat → Int} (h : isGa W b g) (he : ∀ i, i < 6 → g i = g' i) : isGa W b g' := by
  unfold isGa at h ⊢
  rw [h, he 0 (by omega), he 1 (by omega), he 2 (by omega), he 3 (by omega), he 4 (by omega), he 5 (by omega)]
/-- What stays while a solution is looked at. -/
structure HoF (w W : World) (s : So) (g : Nat → Int) : Prop where
  bw : Below w.heap.size w W
  so : isSo W w.heap.size s
  ga : isGa W (w.heap.size + 1) g
theorem HoF.put {w W : World} {s : So} {g : Nat → Int} (h : HoF w W s g) {i : Nat} (hi : i < 6) (v : Int) : HoF w (W.setCell ⟨w.heap.size + 1, i, none⟩ (.int .i64 v)).drew s (upd g i v) := by
  have key : ∀ k, k ≠ w.heap.size + 1 → (W.setCell ⟨w.heap.size + 1, i, none⟩ (.int .i64 v)).drew.heap[k]? = W.heap[k]? := fun k hk => Below.heap_setCell _ _ _ _ hk
  have hb := h.bw.setCell (p := ⟨w.heap.size + 1, i, none⟩) (by dsimp only; omega) (.int .i64 v)
  exact ⟨hb.drew, h.so.keep (key _ (by omega)), (h.ga.put hi v : _)⟩
/-- Sums so far: all rows ahead of i, and of row i the places ahead of j. -/
def GA (A : Nat → Nat → Int) (x : Nat → Int) (i j k : Nat) : Int := lI (List.range i) (fun a => A a k * x a) + if k < j then A i k * x i else 0
theorem GA_next (A : Nat → Nat → Int) (x : Nat → Int) (i j k : Nat) : upd (GA A x i j) j (GA A x i j j + A i j * x i) k = GA A x i (j + 1) k := by
  unfold upd GA
  by_cases e : k = j
  · subst e
    rw [if_pos rfl, if_neg (by omega), if_pos (by omega)]
    omega
  · rw [if_neg e]
    by_cases h : k < j
    · rw [if_pos h, if_pos (by omega)]
    · rw [if_neg h, if_neg (by omega)]
theorem GA_row (A : Nat → Nat → Int) (x : Nat → Int) (i N k : Nat) (hk : k < N) : GA A x i N k = GA A x (i + 1) 0 k := by
  unfold GA
  rw [if_pos hk, if_neg (by omega), lI_range]
  omega
def HoB (s : So) : Prop := ∀ i, (s.x i).natAbs ≤ 1000000000000000 ∧ (s.y i).natAbs ≤ 1000000000000000
theorem mul_nab {a b : Int} (ha : a.natAbs ≤ 100) (hb : b.natAbs ≤ 1000000000000000) : (a * b).natAbs ≤ 100000000000000000 := by
  rw [Int.natAbs_mul]
  have := Nat.mul_le_mul ha hb
  omega
theorem GA_nab {A : Nat → Nat → Int} (hA : ∀ i j, (A i j).natAbs ≤ 100) {x : Nat → Int} (hx : ∀ i, (x i).natAbs ≤ 1000000000000000) {i : Nat} (hi : i ≤ 6) (j k : Nat) : (GA A x i j k).natAbs ≤ 700000000000000000 := by
  unfold GA
  have h1 := lI_nab (f := fun a => A a k * x a) (B := 100000000000000000) (L := List.range i) (fun a _ => mul_nab (hA a k) (hx a))
  rw [List.length_range] at h1
  have h2 : (if k < j then A i k * x i else 0).natAbs ≤ 100000000000000000 := by
    split
    · exact mul_nab (hA i k) (hx i)
    · decide
  have h3 := Int.natAbs_add_le (lI (List.range i) fun a => A a k * x a) (if k < j then A i k * x i else 0)
  omega
theorem lo_nab {A : Nat → Nat → Int} (hA : ∀ i j, (A i j).natAbs ≤ 100) {y : Nat → Int} (hy : ∀ i, (y i).natAbs ≤ 1000000000000000) (i : Nat) {j : Nat} (hj : j ≤ 6) : (lI (List.range j) (fun k => A i k * y k)).natAbs ≤ 600000000000000000 := by
  have h1 := lI_nab (f := fun k => A i k * y k) (B := 100000000000000000) (L := List.range j) (fun k _ => mul_nab (hA i k) (hy k))
  rw [List.length_range] at h1
  omega
/-- Six whole numbers of a solution as a list in memory. -/
theorem wl_six {W : World} {b off : Nat} {f : Nat → Int} (hb : b < W.heap.size) (hf : ∀ i, (f i).natAbs ≤ 1000000000000000) (hc : ∀ i, i < 6 → W.cell? ⟨b, off + i, none⟩ = some (.int .i64 (f i))) : isWl W W.heap.size (some ⟨b, off, none⟩) 6 [f 0, f 1, f 2, f 3, f 4, f 5] := by
  refine ⟨by simp, by unfold maxLen; omega, (fun h => by cases h), fun x hx => ?_, fun _ => ⟨b, off, rfl, hb, fun i x hx => ?_⟩⟩
  · simp only [List.mem_cons, List.not_mem_nil, or_false] at hx
    have h0 := hf 0
    have h1 := hf 1
    have h2 := hf 2
    have h3 := hf 3
    have h4 := hf 4
    have h5 := hf 5
    unfold i64B
    rcases hx with rfl | rfl | rfl | rfl | rfl | rfl <;> omega
  · have hi : i < 6 := by
      have := (List.getElem?_eq_some_iff.1 hx).1
      simpa using this
    rw [hc i hi]
    obtain rfl | rfl | rfl | rfl | rfl | rfl : i = 0 ∨ i = 1 ∨ i = 2 ∨ i = 3 ∨ i = 4 ∨ i = 5 := by omega
    all_goals (simp at hx; rw [hx])
theorem min_six (f : Nat → Int) : 0 ≤ minL [f 0, f 1, f 2, f 3, f 4, f 5] ↔ ∀ i, i < 6 → 0 ≤ f i := by
  constructor
  · intro h i hi
    refine Int.le_trans h (minL_le ?_)
    obtain rfl | rfl | rfl | rfl | rfl | rfl : i = 0 ∨ i = 1 ∨ i = 2 ∨ i = 3 ∨ i = 4 ∨ i = 5 := by omega
    all_goals simp
  · intro h
    have := minL_mem (l := [f 0, f 1, f 2, f 3, f 4, f 5]) (by simp)
    simp only [List.mem_cons, List.not_mem_nil, or_false] at this
    rcases this with e | e | e | e | e | e <;> rw [e] <;> exact h _ (by omega)
end Go.Proofs.YthplbfjpmnpjmaaDoor
