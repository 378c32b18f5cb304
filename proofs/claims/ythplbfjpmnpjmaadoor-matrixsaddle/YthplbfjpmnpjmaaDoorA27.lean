/-
  gamelaw.MatrixSaddle, walked.
-/
import Derived.Test.YthplbfjpmnpjmaaDoorA26
namespace Go.Proofs.YthplbfjpmnpjmaaDoor
open Go.RowKit Lp
attribute [local go_sem ↓] Go.wp_at_zero Go.wp_at_succ

theorem nb_nab {G : List (List Int)} (h : mxB G = true) (i j : Nat) : (atG G i j).natAbs ≤ 100 := by
  obtain ⟨m, -, -, -, -, hr, -⟩ := mxB_rows h
  unfold atG
  rcases Nat.lt_or_ge i G.length with hi | hi
  · have e : G.getD i [] = G[i] := by rw [List.getD_eq_getElem?_getD, List.getElem?_eq_getElem hi]; rfl
    rw [e]
    rcases Nat.lt_or_ge j (G[i]).length with hj | hj
    · rw [List.getD_eq_getElem?_getD, List.getElem?_eq_getElem hj]
      have := List.all_eq_true.1 (hr _ (List.getElem_mem hi)).2 _ (List.getElem_mem hj)
      unfold nbB at this
      simp only [Bool.and_eq_true, decide_eq_true_eq] at this
      simp only [Option.getD_some]
      omega
    · rw [List.getD_eq_getElem?_getD, List.getElem?_eq_none hj]; decide
  · have e : G.getD i [] = [] := by rw [List.getD_eq_getElem?_getD, List.getElem?_eq_none hi]; rfl
    rw [e]; simp
/-- A saddle, as the statement looks for it. -/
def okS (G : List (List Int)) (m N r c : Nat) : Bool := (List.range N).all (fun j => decide (atG G r c ≤ atG G r j)) && (List.range m).all (fun j => decide (atG G j c ≤ atG G r c))
theorem okS_is {G : List (List Int)} {m N r c : Nat} (hm : G.length = m) (hrow : ∀ q ∈ G, q.length = N) (hr : r < m) (hc : c < N) : okS G m N r c = saB G r c := by
  have hrG : r < G.length := by omega
  have e : G.getD r [] = G[r] := by rw [List.getD_eq_getElem?_getD, List.getElem?_eq_getElem hrG]; rfl
  have hl := hrow _ (List.getElem_mem hrG)
  have at_ : ∀ j, j < N → atG G r j ∈ G[r] := fun j hj => by
    unfold atG
    rw [e, List.getD_eq_getElem?_getD, List.getElem?_eq_getElem (by omega)]
    exact List.getElem_mem _
  unfold okS saB
  rw [e]
  congr 1
  · rw [Bool.eq_iff_iff, List.all_eq_true, decide_eq_true_eq]
    constructor
    · intro h
      have h1 := minL_le (at_ c hc)
      have h2 := minL_mem (l := G[r]) (fun e => by rw [e] at hl; simp at hl; omega)
      obtain ⟨k, hk, hke⟩ := List.getElem_of_mem h2
      have h3 := h k (List.mem_range.2 (by omega))
      simp only [decide_eq_true_eq] at h3
      have h4 : atG G r k = (G[r])[k] := by
        unfold atG
        rw [e, List.getD_eq_getElem?_getD, List.getElem?_eq_getElem hk]; rfl
      rw [h4, hke] at h3
      omega
    · intro h j hj
      simp only [decide_eq_true_eq]
      rw [h]
      exact minL_le (at_ j (List.mem_range.1 hj))
  · rw [Bool.eq_iff_iff, List.all_eq_true, List.all_eq_true]
    constructor
    · intro h q hq
      obtain ⟨k, hk, rfl⟩ := List.getElem_of_mem hq
      have := h k (List.mem_range.2 (by omega))
      simp only [decide_eq_true_eq] at this ⊢
      have e2 : G.getD k [] = G[k] := by rw [List.getD_eq_getElem?_getD, List.getElem?_eq_getElem hk]; rfl
      unfold atG at this ⊢
      rw [e2] at this
      exact this
    · intro h j hj
      have hjG : j < G.length := by have := List.mem_range.1 hj; omega
      have := h _ (List.getElem_mem hjG)
      simp only [decide_eq_true_eq] at this ⊢
      have e2 : G.getD j [] = G[j] := by rw [List.getD_eq_getElem?_getD, List.getElem?_eq_getElem hjG]; rfl
      unfold atG at this ⊢
      rw [e2]
      exact this
theorem all_range (f : Nat → Bool) (n : Nat) : (List.range (n + 1)).all f = ((List.range n).all f && f n) := by rw [List.range_succ, List.all_append]; simp
/-- What Saddle told. -/
def SadR (G : List (List Int)) (m N : Nat) (si sk : Int) (sb : Bool) : Prop := (sb = false ∧ si = 0 ∧ sk = 0 ∧ noneB G N m 0) ∨ (sb = true ∧ ∃ i j : Nat, si = (i : Int) ∧ sk = (j : Int) ∧ i < m ∧ j < N ∧ noneB G N i j ∧ saB G i j = true)
theorem SadR.here {G : List (List Int)} {m N : Nat} {si sk : Int} {sb : Bool} (h : SadR G m N si sk sb) {r c : Nat} (hr : r < m) (hc : c < N) (hn : noneB G N r c) (hs : saB G r c = true) : sb = true ∧ si = (r : Int) ∧ sk = (c : Int) := by
  rcases h with ⟨-, -, -, h4⟩ | ⟨h1, i, j, h2, h3, h4, h5, h6, h7⟩
  · have := h4 r c (.inl ⟨hr, hc⟩)
    rw [hs] at this; cases this
  · have a1 : ¬ (i < r ∨ (i = r ∧ j < c)) := fun hh => by
      have := hn i j (hh.elim (fun h => .inl ⟨h, h5⟩) (fun h => .inr h))
      rw [h7] at this; cases this
    have a2 : ¬ (r < i ∨ (r = i ∧ c < j)) := fun hh => by
      have := h6 r c (hh.elim (fun h => .inl ⟨h, hc⟩) (fun h => .inr h))
      rw [hs] at this; cases this
    exact ⟨h1, by omega, by omega⟩
theorem SadR.none {G : List (List Int)} {m N : Nat} {si sk : Int} {sb : Bool} (h : SadR G m N si sk sb) (hn : noneB G N m 0) : sb = false ∧ si = 0 ∧ sk = 0 := by
  rcases h with ⟨h1, h2, h3, -⟩ | ⟨-, i, j, -, -, h4, h5, -, h7⟩
  · exact ⟨h1, h2, h3⟩
  · have := hn i j (.inl ⟨h4, h5⟩)
    rw [h7] at this; cases this

set_option maxRecDepth 100000 in
set_option maxHeartbeats 8000000 in
theorem saddle_no (ao : Option Addr) (cap : Nat) (G : List (List Int)) (w : World) (h : isMx w w.heap.size ao cap G) (hb : mxB G = false) :
    Calls Tryd.prog 3 #[.slice ao G.length cap] w fun e w' => e = .returned (.bool true) ∧ Below w.heap.size w w' := by
  have HS := hide (Saddle_bad w.heap.size ao cap G w h hb)
  have HV := hide (Solve_bad w.heap.size ao cap G w h hb)
  have hR := rMatrix_any ao cap G w h
  rw [hb] at hR
  have HR := hide hR
  have HC : Hid (∀ u, Below w.heap.size w u → Calls Tryd.prog 8 #[.slice ao G.length cap] u fun e w' => e = .returned (.int .i64 1) ∧ w' = u) := hide (fun u hu => by
    have := mCheck_any w.heap.size ao cap G u (h.below hu (Nat.le_refl _))
    rw [hb] at this
    simpa using this)
  have hle := h.le
  have hmo := h.most
  unfold maxLen at hmo
  obtain ⟨n, hn⟩ : ∃ n, n = G.length := ⟨_, rfl⟩
  rw [← hn] at HS HV HR HC hle ⊢
  clear hR h hn
  go_enter Tryd.func3, Tryd.ntmps3
  go_wp2_with fail
  refine (unhide HS).mono ?_
  rintro e w' ⟨rfl, hw'⟩
  replace hw' := hw'.symm
  subst hw'
  go_wp2_with fail
  refine (unhide HV).mono ?_
  rintro e w' ⟨rfl, hw'⟩
  replace hw' := hw'.symm
  subst hw'
  go_wp2_with fail
  refine (unhide HR).mono ?_
  rintro e w1 ⟨rfl, hb1⟩
  have HB1 := hide hb1
  have HC1 := hide (unhide HC w1 hb1)
  clear hb1 HC HS HV HR
  go_wp2_with fail
  refine (unhide HC1).mono ?_
  rintro e w' ⟨rfl, hw'⟩
  replace hw' := hw'.symm
  subst hw'
  go_wp2
  go_ret
  exact ⟨rfl, unhide HB1⟩
end Go.Proofs.YthplbfjpmnpjmaaDoor
