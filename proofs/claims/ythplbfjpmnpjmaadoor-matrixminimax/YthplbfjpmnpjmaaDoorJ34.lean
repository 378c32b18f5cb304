/-
  package matrix, walked: holds.
  package matrix, walked: holds.
-/
import Derived.Test.YthplbfjpmnpjmaaDoorA19
import Derived.Deep.Cut
namespace Go.Proofs.YthplbfjpmnpjmaaDoor
open Go.RowKit Lp
attribute [local go_sem ↓] Go.wp_at_zero Go.wp_at_succ

theorem mx_row {G : List (List Int)} {w : World} {ao : Option Addr} {cap N : Nat} (h : isMx w w.heap.size ao cap G) (hne : G ≠ []) (hN : 1 ≤ N) (hrow : ∀ r ∈ G, r.length = N) : ∃ g off, ao = some ⟨g, off, none⟩ ∧ g < w.heap.size ∧ ∀ i, i < G.length → ∃ rg roff rci, rg < w.heap.size ∧ N ≤ rci ∧ rci ≤ maxLen ∧ w.cell? ⟨g, off + i, none⟩ = some (.slice (some ⟨rg, roff, none⟩) N rci) ∧ ∀ j, j < N → w.cell? ⟨rg, roff + j, none⟩ = some (.int .i64 (atG G i j)) := by
  obtain ⟨g, off, e, hg, -, hc⟩ := mx_at h hne hrow
  refine ⟨g, off, e, hg, fun i hi => ?_⟩
  obtain ⟨rg, roff, rci, h1, h2, h3, h4, -⟩ := hc i 0 hi (by omega)
  refine ⟨rg, roff, rci, h1, h2, h3, h4, fun j hj => ?_⟩
  obtain ⟨rg', roff', rci', -, -, -, h4', h5'⟩ := hc i j hi hj
  rw [h4] at h4'
  cases h4'
  exact h5'
/-- Six sums. -/
def isGa (W : World) (b : Nat) (g : Nat → Int) : Prop := W.heap[b]? = some (.cells #[.int .i64 (g 0), .int .i64 (g 1), .int .i64 (g 2), .int .i64 (g 3), .int .i64 (g 4), .int .i64 (g 5)] 46 (0, 0))
theorem isGa.cell {W : World} {b : Nat} {g : Nat → Int} (h : isGa W b g) {i : Nat} (hi : i < 6) : W.cell? ⟨b, i, none⟩ = some (.int .i64 (g i)) ∧ W.frozen? ⟨b, i, none⟩ = false := by
  unfold isGa at h
  refine ⟨?_, by simp [World.frozen?, h]⟩
  obtain rfl | rfl | rfl | rfl | rfl | rfl : i = 0 ∨ i = 1 ∨ i = 2 ∨ i = 3 ∨ i = 4 ∨ i = 5 := by omega
  all_goals simp [World.cell?, h]
theorem isGa.put {W : World} {b : Nat} {g : Nat → Int} (h : isGa W b g) {i : Nat} (hi : i < 6) (v : Int) : isGa (W.setCell ⟨b, i, none⟩ (.int .i64 v)) b (upd g i v) := by
  have := heap_setCell_same W b i _ _ (.int .i64 v) h
  unfold isGa
  rw [this]
  obtain rfl | rfl | rfl | rfl | rfl | rfl : i = 0 ∨ i = 1 ∨ i = 2 ∨ i = 3 ∨ i = 4 ∨ i = 5 := by omega
  all_goals simp [upd]
theorem isGa.congr {W : World} {b : Nat} {g g' : Nat → Int} (h : isGa W b g) (he : ∀ i, i < 6 → g i = g' i) : isGa W b g' := by
  unfold isGa at h ⊢
  rw [h, he 0 (by omega), he 1 (by omega), he 2 (by omega), he 3 (by omega), he 4 (by omega), he 5 (by omega)]
/-- What stays while a solution is looked at. -/
structure HoF (w W : World) (s : So) (g : Nat → Int) : Prop where
  bw : Below w.heap.size w W
  so : isSo W w.heap.size s
  ga : isGa W (w.heap.size + 1) g
theorem HoF.put {w W : World} {s : So} {g : Nat → Int} (h : HoF w W s g) {i : Nat} (hi : i < 6) (v : Int) : HoF w (W.setCell ⟨w.heap.size + 1, i, none⟩ (.int .i64 v)).drew s (upd g i v) := by
  have key : ∀ k, k ≠ w.heap.size + 1 → (W.setCell ⟨w.heap.size + 1, i, none⟩ (.int .i64 v)).drew.heap[k]? = W.heap[k]? := fun k hk => Below.heap_setCell _ _ _ _ hk
  have hb := h.bw.setCell (p := ⟨w.heap.size + 1, i, none⟩) (by dsimp only; omega) (.int .i64 v)
  exact ⟨hb.drew, h.so.keep (key _ (by omega)), (h.ga.put hi v : _)⟩
/-- Sums so far: all rows ahead of i, and of row i the places ahead of j. -/
def GA (A : Nat → Nat → Int) (x : Nat → Int) (i j k : Nat) : Int := lI (List.range i) (fun a => A a k * x a) + if k < j then A i k * x i else 0
theorem GA_next (A : Nat → Nat → Int) (x : Nat → Int) (i j k : Nat) : upd (GA A x i j) j (GA A x i j j + A i j * x i) k = GA A x i (j + 1) k := by
  unfold upd GA
  by_cases e : k = j
  · subst e
    rw [if_pos rfl, if_neg (by omega), if_pos (by omega)]
    omega
  · rw [if_neg e]
    by_cases h : k < j
    · rw [if_pos h, if_pos (by omega)]
    · rw [if_neg h, if_neg (by omega)]
theorem GA_row (A : Nat → Nat → Int) (x : Nat → Int) (i N k : Nat) (hk : k < N) : GA A x i N k = GA A x (i + 1) 0 k := by
  unfold GA
  rw [if_pos hk, if_neg (by omega), lI_range]
  omega
def HoB (s : So) : Prop := ∀ i, (s.x i).natAbs ≤ 1000000000000000 ∧ (s.y i).natAbs ≤ 1000000000000000
theorem mul_nab {a b : Int} (ha : a.natAbs ≤ 100) (hb : b.natAbs ≤ 1000000000000000) : (a * b).natAbs ≤ 100000000000000000 := by
  rw [Int.natAbs_mul]
  have := Nat.mul_le_mul ha hb
  omega
theorem GA_nab {A : Nat → Nat → Int} (hA : ∀ i j, (A i j).natAbs ≤ 100) {x : Nat → Int} (hx : ∀ i, (x i).natAbs ≤ 1000000000000000) {i : Nat} (hi : i ≤ 6) (j k : Nat) : (GA A x i j k).natAbs ≤ 700000000000000000 := by
  unfold GA
  have h1 := lI_nab (f := fun a => A a k * x a) (B := 100000000000000000) (L := List.range i) (fun a _ => mul_nab (hA a k) (hx a))
  rw [List.length_range] at h1
  have h2 : (if k < j then A i k * x i else 0).natAbs ≤ 100000000000000000 := by
    split
    · exact mul_nab (hA i k) (hx i)
    · decide
  have h3 := Int.natAbs_add_le (lI (List.range i) fun a => A a k * x a) (if k < j then A i k * x i else 0)
  omega
theorem lo_nab {A : Nat → Nat → Int} (hA : ∀ i j, (A i j).natAbs ≤ 100) {y : Nat → Int} (hy : ∀ i, (y i).natAbs ≤ 1000000000000000) (i : Nat) {j : Nat} (hj : j ≤ 6) : (lI (List.range j) (fun k => A i k * y k)).natAbs ≤ 600000000000000000 := by
  have h1 := lI_nab (f := fun k => A i k * y k) (B := 100000000000000000) (L := List.range j) (fun k _ => mul_nab (hA i k) (hy k))
  rw [List.length_range] at h1
  omega
/-- Six whole numbers of a solution as a list in memory. -/
theorem wl_six {W : World} {b off : Nat} {f : Nat → Int} (hb : b < W.heap.size) (hf : ∀ i, (f i).natAbs ≤ 1000000000000000) (hc : ∀ i, i < 6 → W.cell? ⟨b, off + i, none⟩ = some (.int .i64 (f i))) : isWl W W.heap.size (some ⟨b, off, none⟩) 6 [f 0, f 1, f 2, f 3, f 4, f 5] := by
  refine ⟨by simp, by unfold maxLen; omega, (fun h => by cases h), fun x hx => ?_, fun _ => ⟨b, off, rfl, hb, fun i x hx => ?_⟩⟩
  · simp only [List.mem_cons, List.not_mem_nil, or_false] at hx
    have h0 := hf 0
    have h1 := hf 1
    have h2 := hf 2
    have h3 := hf 3
    have h4 := hf 4
    have h5 := hf 5
    unfold i64B
    rcases hx with rfl | rfl | rfl | rfl | rfl | rfl <;> omega
  · have hi : i < 6 := by
      have := (List.getElem?_eq_some_iff.1 hx).1
      simpa using this
    rw [hc i hi]
    obtain rfl | rfl | rfl | rfl | rfl | rfl : i = 0 ∨ i = 1 ∨ i = 2 ∨ i = 3 ∨ i = 4 ∨ i = 5 := by omega
    all_goals (simp at hx; rw [hx])
theorem min_six (f : Nat → Int) : 0 ≤ minL [f 0, f 1, f 2, f 3, f 4, f 5] ↔ ∀ i, i < 6 → 0 ≤ f i := by
  constructor
  · intro h i hi
    refine Int.le_trans h (minL_le ?_)
    obtain rfl | rfl | rfl | rfl | rfl | rfl : i = 0 ∨ i = 1 ∨ i = 2 ∨ i = 3 ∨ i = 4 ∨ i = 5 := by omega
    all_goals simp
  · intro h
    have := minL_mem (l := [f 0, f 1, f 2, f 3, f 4, f 5]) (by simp)
    simp only [List.mem_cons, List.not_mem_nil, or_false] at this
    rcases this with e | e | e | e | e | e <;> rw [e] <;> exact h _ (by omega)
end Go.Proofs.YthplbfjpmnpjmaaDoor

namespace Go.Proofs.YthplbfjpmnpjmaaDoor
open Go.RowKit Lp
attribute [local go_sem ↓] Go.wp_at_zero Go.wp_at_succ

theorem atG_out {G : List (List Int)} {N : Nat} (hrow : ∀ r ∈ G, r.length = N) {i k : Nat} (hi : i < G.length) (hk : N ≤ k) : atG G i k = 0 := by
  have hr := hrow _ (List.getElem_mem hi)
  have e : G.getD i [] = G[i] := by rw [List.getD_eq_getElem?_getD, List.getElem?_eq_getElem hi]; rfl
  unfold atG
  rw [e, List.getD_eq_getElem?_getD, List.getElem?_eq_none (by omega)]
  rfl
theorem HoF.drewN {w W : World} {s : So} {g : Nat → Int} (h : HoF w W s g) (q : Nat) : HoF w (W.drewN q) s g := ⟨⟨h.bw.os, h.bw.tape, h.bw.output, h.bw.size, h.bw.block⟩, h.so, h.ga⟩
/-- What holds leaves. -/
structure HoE (m N : Nat) (A : Nat → Nat → Int) (s : So) (w : World) (e : Ending) (w' : World) : Prop where
  bw : Below w.heap.size w w'
  out : ∃ B : Bool, e = .returned (.bool B) ∧ (B = true ↔ hol m N A s)

set_option maxRecDepth 100000 in
set_option maxHeartbeats 8000000 in
theorem holds_any (s : So) (hsb : HoB s) (G : List (List Int)) (ao : Option Addr) (cap m N : Nat) (w : World) (h : isMx w w.heap.size ao cap G) (hm : G.length = m) (hm1 : 1 ≤ m) (hm6 : m ≤ 6) (hN1 : 1 ≤ N) (hN6 : N ≤ 6) (hrow : ∀ r ∈ G, r.length = N) (hA : ∀ i j, (atG G i j).natAbs ≤ 100) :
    Calls Tryd.prog 34 #[soV s, .slice ao m cap] w (HoE m N (atG G) s w) := by
  have hcap1 := h.le
  have hcap2 := h.most
  rw [hm] at hcap1
  unfold maxLen at hcap2
  obtain ⟨g, off, rfl, hg, hcs⟩ := mx_row h (fun e => by rw [e] at hm; simp at hm; omega) hN1 hrow
  have hz0 : ∀ i k, i < m → N ≤ k → atG G i k = 0 := fun i k hi hk => atG_out hrow (by omega) hk
  rw [hm] at hcs
  obtain ⟨A, hAe⟩ : ∃ A, A = atG G := ⟨_, rfl⟩
  rw [← hAe] at hcs hA hz0 ⊢
  have HZ0 := hide hz0
  clear hz0
  have HCS := hide hcs
  have HA := hide hA
  have HSB := hide hsb
  clear h hm hrow hcs hA hAe hsb
  obtain ⟨W1, hW1⟩ : ∃ W1, W1 = w.alloc (Obj.cells (soC s).toArray 48 (0, 0)) := ⟨_, rfl⟩
  have hs1 : W1.heap.size = w.heap.size + 1 := by rw [hW1]; simp
  have hb1 : Below w.heap.size w W1 := by rw [hW1]; exact (Below.refl _ w).alloc (Nat.le_refl _) _
  have hso : isSo W1 w.heap.size s := by rw [hW1]; exact heap_alloc_new w _
  obtain ⟨⟨cv, ct⟩, cx, cy, -⟩ := hso.cells
  have hMx := Min64_any W1.heap.size (some ⟨w.heap.size, 2, none⟩) 6 _ W1 (wl_six (f := s.x) (by omega) (fun i => (unhide HSB i).1) cx) (by simp)
  have hMy := Min64_any W1.heap.size (some ⟨w.heap.size, 8, none⟩) 6 _ W1 (wl_six (f := s.y) (by omega) (fun i => (unhide HSB i).2) cy) (by simp)
  simp only [List.length_cons, List.length_nil, Nat.reduceAdd] at hMx hMy
  obtain ⟨mx, hmx⟩ : ∃ mx, mx = minL [s.x 0, s.x 1, s.x 2, s.x 3, s.x 4, s.x 5] := ⟨_, rfl⟩
  obtain ⟨my, hmy⟩ : ∃ my, my = minL [s.y 0, s.y 1, s.y 2, s.y 3, s.y 4, s.y 5] := ⟨_, rfl⟩
  rw [← hmx] at hMx
  rw [← hmy] at hMy
  have HX : Hid (0 ≤ mx ↔ ∀ i, i < 6 → 0 ≤ s.x i) := hide (by rw [hmx]; exact min_six s.x)
  have HY : Hid (0 ≤ my ↔ ∀ i, i < 6 → 0 ≤ s.y i) := hide (by rw [hmy]; exact min_six s.y)
  have HMX := hide hMx
  have HMY := hide hMy
  have HSO := hide hso
  have HB1 := hide hb1
  obtain ⟨st, hst⟩ : ∃ st, st = s.t := ⟨_, rfl⟩
  obtain ⟨sv, hsv⟩ : ∃ sv, sv = s.v := ⟨_, rfl⟩
  have HST := hide hst
  have HSV := hide hsv
  rw [← hst] at ct
  rw [← hsv] at cv
  have HNO : Hid (¬ hol m N A s → ∀ u, Below w.heap.size w u → HoE m N A s w (.returned (.bool false)) u) := hide (fun hn u hu => ⟨hu, false, rfl, by simp [hn]⟩)
  simp only [soC] at hW1
  have HW1 := hide hW1
  unfold soV
  simp only [soC]
  clear hW1 hMx hMy hmx hmy cx cy hso hb1 hst hsv
  obtain ⟨E, hE⟩ : ∃ E : Bool, (st == 0) = E := ⟨_, rfl⟩
  obtain ⟨PV, hPV⟩ : ∃ PV : Value, PV = .agg #[.int .i64 s.v, .int .i64 s.t, .int .i64 (s.x 0), .int .i64 (s.x 1), .int .i64 (s.x 2), .int .i64 (s.x 3), .int .i64 (s.x 4), .int .i64 (s.x 5), .int .i64 (s.y 0), .int .i64 (s.y 1), .int .i64 (s.y 2), .int .i64 (s.y 3), .int .i64 (s.y 4), .int .i64 (s.y 5)] := ⟨_, rfl⟩
  cases E
  rotate_left
  · have HC := hide (unhide HNO (fun hh => hh.1 (by rw [← unhide HST]; exact beq_iff_eq.1 hE)) W1 (unhide HB1))
    clear HNO HX HY HMX HMY HSO hPV
    go_enter Tryd.func34, Tryd.ntmps34
    go_upto_region 1 with fail
    rw [← unhide HW1]
    clear HW1
    go_wp2
    go_ret
    exact unhide HC
  have ht0 : s.t ≠ 0 := by rw [← unhide HST]; exact beq_eq_false_iff_ne.1 hE
  have HT0 := hide ht0
  clear ht0
  by_cases h1 : mx < 0
  · have HC := hide (unhide HNO (fun hh => by have := (unhide HX).2 hh.2.1; omega) W1 (unhide HB1))
    clear HNO HX HY HMY HSO hPV
    go_enter Tryd.func34, Tryd.ntmps34
    go_upto_region 1 with fail
    rw [← unhide HW1]
    clear HW1
    go_wp2_with fail
    refine (unhide HMX).mono ?_
    rintro e w' ⟨rfl, hw'⟩
    replace hw' := hw'.symm
    subst hw'
    go_wp2
    go_ret
    exact unhide HC
  by_cases h2 : my < 0
  · have HC := hide (unhide HNO (fun hh => by have := (unhide HY).2 hh.2.2.1; omega) W1 (unhide HB1))
    clear HNO HX HY HSO hPV
    go_enter Tryd.func34, Tryd.ntmps34
    go_upto_region 1 with fail
    rw [← unhide HW1]
    clear HW1
    go_wp2_with fail
    refine (unhide HMX).mono ?_
    rintro e w' ⟨rfl, hw'⟩
    replace hw' := hw'.symm
    subst hw'
    go_wp2_with fail
    refine (unhide HMY).mono ?_
    rintro e w' ⟨rfl, hw'⟩
    replace hw' := hw'.symm
    subst hw'
    go_wp2
    go_ret
    exact unhide HC
  have HPX : Hid (∀ i, i < 6 → 0 ≤ s.x i) := hide ((unhide HX).1 (by omega))
  have HPY : Hid (∀ i, i < 6 → 0 ≤ s.y i) := hide ((unhide HY).1 (by omega))
  clear HX HY
  obtain ⟨W2, hW2⟩ : ∃ W2, W2 = W1.alloc (Obj.cells #[.int .i64 0, .int .i64 0, .int .i64 0, .int .i64 0, .int .i64 0, .int .i64 0] 46 (0, 0)) := ⟨_, rfl⟩
  have hF2 : HoF w W2 s (GA A s.x 0 0) := by
    rw [hW2]
    refine ⟨(unhide HB1).alloc (by omega) _, (unhide HSO).keep (Below.heap_alloc _ _ _ (by omega)), ?_⟩
    have := heap_alloc_new W1 (Obj.cells #[.int .i64 0, .int .i64 0, .int .i64 0, .int .i64 0, .int .i64 0, .int .i64 0] 46 (0, 0))
    rw [hs1] at this
    exact isGa.congr (g := fun _ => 0) this (fun i _ => by simp [GA, lI])
  have HF2 := hide hF2
  have HW2 := hide hW2
  clear hF2 hW2 HSO HB1 hPV
  go_enter Tryd.func34, Tryd.ntmps34
  go_upto_region 1 with fail
  rw [← unhide HW1]
  clear HW1
  go_wp2_with fail
  refine (unhide HMX).mono ?_
  rintro e w' ⟨rfl, hw'⟩
  replace hw' := hw'.symm
  subst hw'
  go_wp2_with fail
  refine (unhide HMY).mono ?_
  rintro e w' ⟨rfl, hw'⟩
  replace hw' := hw'.symm
  subst hw'
  clear HMX HMY
  go_upto_region 4 with fail
  rw [← unhide HW2]
  clear HW2 cv ct
  go_wp2
  go_loopw [29] (fun iv wr => ∃ i : Nat, i ≤ m ∧ iv = .int .i64 (i : Int) ∧ Hid (HoF w wr s (GA A s.x i 0)) ∧ Hid (∀ a, a < i → lI (List.range N) (fun j => A a j * s.y j) ≤ sv)) (fun iv _ => m - (intOf iv).toNat)
  case atStart => exact ⟨0, Nat.zero_le _, rfl, HF2, hide (fun a ha => by omega)⟩
  case round =>
    obtain ⟨i, hi, rfl, HF, HLS⟩ := hrel
    rename World => wr
    clear HF2
    by_cases hlt : i < m
    · have hlti : (i : Int) < (m : Int) := by omega
      have hi0 : (0 : Int) ≤ (i : Int) := by omega
      obtain ⟨rg, roff, rci, hrg, hn1, hn2, hcr, hca⟩ := unhide HCS i hlt
      unfold maxLen at hn2
      have cr := ((unhide HF).bw.cell (p := ⟨g, off + i, none⟩) hg).trans hcr
      have HCA : Hid (∀ j, j < N → w.cell? ⟨rg, roff + j, none⟩ = some (.int .i64 (A i j))) := hide hca
      clear hcr hca
      go_wp2
      clear cr
      go_loopw [8, 36] (fun lv jv wq => ∃ j : Nat, j ≤ N ∧ jv = .int .i64 (j : Int) ∧ lv = .int .i64 (lI (List.range j) (fun k => A i k * s.y k)) ∧ Hid (HoF w wq s (GA A s.x i j))) (fun _ jv _ => N - (intOf jv).toNat)
      case atStart => exact ⟨0, Nat.zero_le _, rfl, by simp [lI], HF⟩
      case round =>
        obtain ⟨j, hj, rfl, rfl, HF2⟩ := hrel
        rename World => wq
        clear HF
        by_cases hltj : j < N
        · have hltji : (j : Int) < (N : Int) := by omega
          have hj0 : (0 : Int) ≤ (j : Int) := by omega
          have hj6 : (j : Int) < 6 := by omega
          have hi6 : (i : Int) < 6 := by omega
          have ca := ((unhide HF2).bw.cell (p := ⟨rg, roff + j, none⟩) hrg).trans (unhide HCA j hltj)
          obtain ⟨-, cx, cy, -⟩ := (unhide HF2).so.cells
          have c1 := cx i (by omega)
          have c2 := cy j (by omega)
          obtain ⟨c3, f3⟩ := (unhide HF2).ga.cell (i := j) (by omega)
          obtain ⟨a, ha⟩ : ∃ a, a = A i j := ⟨_, rfl⟩
          obtain ⟨x, hx⟩ : ∃ x, x = s.x i := ⟨_, rfl⟩
          obtain ⟨y, hy⟩ : ∃ y, y = s.y j := ⟨_, rfl⟩
          obtain ⟨ga, hga⟩ : ∃ ga, ga = GA A s.x i j j := ⟨_, rfl⟩
          obtain ⟨lo, hlo⟩ : ∃ lo, lo = lI (List.range j) (fun k => A i k * s.y k) := ⟨_, rfl⟩
          have b1 : (A i j * s.x i).natAbs ≤ 100000000000000000 := mul_nab (unhide HA i j) (unhide HSB i).1
          have b2 : (A i j * s.y j).natAbs ≤ 100000000000000000 := mul_nab (unhide HA i j) (unhide HSB j).2
          have b3 := GA_nab (unhide HA) (x := s.x) (fun k => (unhide HSB k).1) (i := i) (by omega) j j
          have b4 := lo_nab (unhide HA) (y := s.y) (fun k => (unhide HSB k).2) i (j := j) (by omega)
          have HN : Hid (∀ v, v = ga + a * x → HoF w (wq.setCell ⟨w.heap.size + 1, j, none⟩ (.int .i64 v)).drew s (GA A s.x i (j + 1))) := hide (fun v hv => by
            have hp := (unhide HF2).put (i := j) (by omega) v
            refine ⟨hp.bw, hp.so, hp.ga.congr fun k hk => ?_⟩
            rw [hv, hga, ha, hx]
            exact GA_next A s.x i j k)
          have HL : Hid (lI (List.range (j + 1)) (fun k => A i k * s.y k) = lo + a * y) := hide (by rw [lI_range, hlo, ha, hy])
          rw [← ha, ← hx] at b1
          rw [← ha, ← hy] at b2
          rw [← hga] at b3 c3
          rw [← hlo] at b4 ⊢
          rw [← ha] at ca
          rw [← hx] at c1
          rw [← hy] at c2
          have HSQ : Hid (∀ u : World, u.heap[w.heap.size]? = wq.heap[w.heap.size]? → u.cell? ⟨w.heap.size, 8 + j, none⟩ = some (.int .i64 y)) := hide (fun u hu => (cell_block hu _).trans c2)
          obtain ⟨p, hp⟩ : ∃ p, a * x = p := ⟨_, rfl⟩
          obtain ⟨q, hq⟩ : ∃ q, a * y = q := ⟨_, rfl⟩
          obtain ⟨g2, hg2⟩ : ∃ g2, ga + p = g2 := ⟨_, rfl⟩
          obtain ⟨l2, hl2⟩ : ∃ l2, lo + q = l2 := ⟨_, rfl⟩
          rw [hp] at b1
          rw [hq] at b2
          have w1 : IntKind.i64.wrap p = p := by rw [wrapI64]; exact wrap_id (by omega)
          have w2 : IntKind.i64.wrap q = q := by rw [wrapI64]; exact wrap_id (by omega)
          have w3 : IntKind.i64.wrap g2 = g2 := by rw [wrapI64]; exact wrap_id (by omega)
          have w4 : IntKind.i64.wrap l2 = l2 := by rw [wrapI64]; exact wrap_id (by omega)
          have v1 : wrap64 p = p := wrap_id (by omega)
          have v2 : wrap64 q = q := wrap_id (by omega)
          have v3 : wrap64 g2 = g2 := wrap_id (by omega)
          have v4 : wrap64 l2 = l2 := wrap_id (by omega)
          have HN2 := hide (unhide HN g2 (by rw [← hg2, hp]))
          have HL2 : Hid (lI (List.range (j + 1)) (fun k => A i k * s.y k) = l2) := hide (by rw [unhide HL, hq]; exact hl2)
          have c4 := unhide HSQ (wq.setCell ⟨w.heap.size + 1, j, none⟩ (.int .i64 g2)).drew (Below.heap_setCell _ _ _ _ (by dsimp only; omega))
          clear HN HL cx cy ha hx hy hga hlo b1 b2 b3 b4 HF2 HSQ c2
          go_upto_region 11 with fail
          go_region
          go_wp2
          go_roundw
          case rel => exact ⟨j + 1, by omega, by go_num, by rw [unhide HL2], HN2⟩
          case measure => simp only [intOf]; omega
        · have hltji : ¬ (j : Int) < (N : Int) := by omega
          obtain rfl : j = N := by omega
          obtain ⟨⟨cv, -⟩, -, -, -⟩ := (unhide HF2).so.cells
          rw [← unhide HSV] at cv
          obtain ⟨lo, hlo⟩ : ∃ lo, lo = lI (List.range j) (fun k => A i k * s.y k) := ⟨_, rfl⟩
          rw [← hlo]
          by_cases hgt : sv < lo
          · have HC := hide (unhide HNO (fun hh => by have := hh.2.2.2.1 i hlt; rw [← hlo, ← unhide HSV] at this; omega) wq (unhide HF2).bw)
            clear hlo HF2
            go_wp2
            go_ret
            exact unhide HC
          · have HFN : Hid (HoF w wq s (GA A s.x (i + 1) 0)) := hide ⟨(unhide HF2).bw, (unhide HF2).so, (unhide HF2).ga.congr fun k hk => by
              by_cases hkN : k < j
              · exact GA_row A s.x i j k hkN
              · unfold GA
                rw [if_neg hkN, if_neg (by omega), lI_range, unhide HZ0 i k hlt (by omega)]
                simp⟩
            have HLN : Hid (∀ a, a < i + 1 → lI (List.range j) (fun k => A a k * s.y k) ≤ sv) := hide (fun a ha => by
              by_cases e : a = i
              · subst e; rw [← hlo]; omega
              · exact unhide HLS a (by omega))
            clear hlo HF2 HLS
            go_wp2
            go_roundw
            case rel => exact ⟨i + 1, by omega, by go_num, HFN, HLN⟩
            case measure => simp only [intOf]; omega
    · have hlti : ¬ (i : Int) < (m : Int) := by omega
      obtain rfl : i = m := by omega
      obtain ⟨rg, roff, rci, hrg, hn1, hn2, hcr, -⟩ := unhide HCS 0 (by omega)
      rw [Nat.add_zero] at hcr
      have cr := ((unhide HF).bw.cell (p := ⟨g, off, none⟩) hg).trans hcr
      have hm0 : (0 : Int) < (i : Int) := by omega
      clear hcr
      go_wp2
      clear cr
      go_loopw [70] (fun jv wq => ∃ j : Nat, j ≤ N ∧ jv = .int .i64 (j : Int) ∧ Hid (HoF w wq s (GA A s.x i 0)) ∧ Hid (∀ k, k < j → sv ≤ lI (List.range i) (fun a => A a k * s.x a))) (fun jv _ => N - (intOf jv).toNat)
      case atStart => exact ⟨0, Nat.zero_le _, rfl, HF, hide (fun k hk => by omega)⟩
      case round =>
        obtain ⟨j, hj, rfl, HF2, HGS⟩ := hrel
        rename World => wq
        clear HF
        by_cases hltj : j < N
        · have hltji : (j : Int) < (N : Int) := by omega
          have hj0 : (0 : Int) ≤ (j : Int) := by omega
          have hj6 : (j : Int) < 6 := by omega
          obtain ⟨⟨cv, -⟩, -, -, -⟩ := (unhide HF2).so.cells
          rw [← unhide HSV] at cv
          obtain ⟨c3, -⟩ := (unhide HF2).ga.cell (i := j) (by omega)
          obtain ⟨ga, hga⟩ : ∃ ga, ga = GA A s.x i 0 j := ⟨_, rfl⟩
          rw [← hga] at c3
          have hga2 : ga = lI (List.range i) (fun a => A a j * s.x a) := by rw [hga]; unfold GA; rw [if_neg (by omega)]; omega
          by_cases hgt : ga < sv
          · have HC : Hid (∀ q, HoE i N A s w (.returned (.bool false)) (wq.drewN q)) := hide (fun q => unhide HNO (fun hh => by have := hh.2.2.2.2 j hltj; rw [← hga2, ← unhide HSV] at this; omega) _ ((unhide HF2).drewN q).bw)
            clear hga hga2 HF2 HGS
            go_wp2_with fail
            go_quiet (fail)
            go_wp2
            go_ret
            exact unhide HC _
          · have HFN : Hid (∀ q, HoF w (wq.drewN q) s (GA A s.x i 0)) := hide (fun q => (unhide HF2).drewN q)
            have HGN : Hid (∀ k, k < j + 1 → sv ≤ lI (List.range i) (fun a => A a k * s.x a)) := hide (fun k hk => by
              by_cases e : k = j
              · subst e; rw [← hga2]; omega
              · exact unhide HGS k (by omega))
            clear hga hga2 HF2 HGS
            go_wp2_with fail
            go_quiet (fail)
            go_wp2
            go_roundw
            case rel => exact ⟨j + 1, by omega, by go_num, hide (unhide HFN _), HGN⟩
            case measure => simp only [intOf]; omega
        · have hltji : ¬ (j : Int) < (N : Int) := by omega
          obtain rfl : j = N := by omega
          have HC : Hid (HoE i j A s w (.returned (.bool true)) wq) := hide ⟨(unhide HF2).bw, true, rfl, by
            simp only [true_iff]
            exact ⟨unhide HT0, unhide HPX, unhide HPY, fun a ha => by rw [← unhide HSV]; exact unhide HLS a ha, fun k hk => by rw [← unhide HSV]; exact unhide HGS k hk⟩⟩
          clear HF2 HGS
          go_wp2
          go_ret
          exact unhide HC
end Go.Proofs.YthplbfjpmnpjmaaDoor
