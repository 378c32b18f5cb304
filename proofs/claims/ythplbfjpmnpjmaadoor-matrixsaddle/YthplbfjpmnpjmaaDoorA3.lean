/-
  package matrix, walked: slices.Min of ints and of int64s; divisor.
-/
import Derived.Test.YthplbfjpmnpjmaaDoorA2
namespace Go.Proofs.YthplbfjpmnpjmaaDoor
open Go.RowKit
attribute [local go_sem ↓] Go.wp_at_zero Go.wp_at_succ

/-- The least of some. -/
def minL : List Int → Int
  | [] => 0
  | y :: l => l.foldl min y
theorem minL_snoc (l : List Int) (x : Int) (h : l ≠ []) : minL (l ++ [x]) = min (minL l) x := by
  cases l with
  | nil => exact absurd rfl h
  | cons y l => simp [minL, List.foldl_append]
theorem fold_min (l : List Int) : ∀ y : Int, (l.foldl min y ≤ y) ∧ (∀ x ∈ l, l.foldl min y ≤ x) ∧ (l.foldl min y = y ∨ l.foldl min y ∈ l) := by
  induction l with
  | nil => intro y; exact ⟨Int.le_refl _, fun x hx => absurd hx List.not_mem_nil, Or.inl rfl⟩
  | cons a l ih =>
    intro y
    obtain ⟨h1, h2, h3⟩ := ih (min y a)
    simp only [List.foldl_cons]
    refine ⟨by omega, fun x hx => ?_, ?_⟩
    · rcases List.mem_cons.mp hx with rfl | hx
      · omega
      · exact h2 x hx
    · rcases h3 with h3 | h3
      · rcases Int.le_total y a with hya | hya
        · left; omega
        · right; rw [List.mem_cons]; left; omega
      · right; exact List.mem_cons_of_mem _ h3
theorem minL_le {l : List Int} {x : Int} (h : x ∈ l) : minL l ≤ x := by
  cases l with
  | nil => exact absurd h List.not_mem_nil
  | cons y l =>
    rcases List.mem_cons.mp h with rfl | h
    · exact (fold_min l _).1
    · exact (fold_min l y).2.1 x h
theorem minL_mem {l : List Int} (h : l ≠ []) : minL l ∈ l := by
  cases l with
  | nil => exact absurd rfl h
  | cons y l =>
    rcases (fold_min l y).2.2 with e | e
    · show l.foldl min y ∈ _
      rw [e]; exact List.mem_cons_self
    · exact List.mem_cons_of_mem _ e

set_option maxHeartbeats 1000000 in
set_option maxRecDepth 100000 in
theorem Min_any (B : Nat) (ao : Option Addr) (cap : Nat) (l : List Int) (w : World) (h : isWl w B ao cap l) (hne : 0 < l.length) :
    Calls Tryd.prog 30 #[.slice ao l.length cap] w fun e w' => e = .returned (.int .i64 (minL l)) ∧ w' = w := by
  have hle := h.le
  have hmo := h.most
  unfold maxLen at hmo
  obtain ⟨n, hn⟩ : ∃ n, n = l.length := ⟨_, rfl⟩
  rw [← hn] at hle hne ⊢
  have hlne : l ≠ [] := fun e => by rw [e] at hn; simp at hn; omega
  obtain ⟨g, off, eg, hg, hc⟩ := h.cells hlne
  subst eg
  have h0l : 0 < l.length := by rw [← hn]; exact hne
  obtain ⟨y0, hy0⟩ : ∃ x, l[0]? = some x := ⟨l[0], List.getElem?_eq_getElem h0l⟩
  have c0 := hc 0 y0 hy0
  rw [Nat.add_zero] at c0
  have hn1 : ¬ (n : Int) < 1 := by omega
  have hni : (0 : Int) < (n : Int) := by omega
  have H1 : Hid (y0 = minL (l.take 1)) := hide (by
    cases l with
    | nil => exact absurd rfl hlne
    | cons y l => simp at hy0; simp [minL, hy0])
  have HN := hide hn
  have HC := hide hc
  have HL := hide hlne
  clear hn hc hlne h h0l hy0
  go_enter Tryd.func30, Tryd.ntmps30
  go_wp2
  go_loop [3, 4] (fun mv iv => ∃ (k : Nat) (m : Int), 1 ≤ k ∧ k ≤ n ∧ iv = .int .i64 (k : Int) ∧ mv = .int .i64 m ∧ Hid (m = minL (l.take k))) (fun _ iv => n - (intOf iv).toNat)
  case atStart => exact ⟨1, y0, Nat.le_refl _, hne, rfl, rfl, H1⟩
  case round =>
    obtain ⟨k, m, hk1, hk, rfl, rfl, HM⟩ := hrel
    by_cases hlt : k < n
    · have hlti : (k : Int) < (n : Int) := by omega
      have hk0 : (0 : Int) ≤ (k : Int) := by omega
      have hkl : k < l.length := by rw [← unhide HN]; exact hlt
      obtain ⟨y, hy⟩ : ∃ x, l[k]? = some x := ⟨l[k], List.getElem?_eq_getElem hkl⟩
      have hye : l[k] = y := by rw [List.getElem?_eq_getElem hkl] at hy; exact Option.some.inj hy
      have c1 := unhide HC k y hy
      have hsn : minL (l.take (k + 1)) = min m y := by
        rw [List.take_succ_eq_append_getElem hkl, minL_snoc _ _ (fun e => by rw [List.take_eq_nil_iff] at e; rcases e with e | e; omega; exact unhide HL e), unhide HM, hye]
      have HSN := hide hsn
      clear hsn hy hye hkl
      go_wp2
      go_round
      case rel => exact ⟨k + 1, min m y, by omega, by omega, by go_num, by go_num, hide (unhide HSN).symm⟩
      case measure => simp only [intOf]; omega
    · have hlti : ¬ (k : Int) < (n : Int) := by omega
      go_wp2
      go_ret
      exact ⟨ret_int (by rw [unhide HM, List.take_of_length_le (by rw [← unhide HN]; omega)]), rfl⟩

set_option maxHeartbeats 1000000 in
set_option maxRecDepth 100000 in
theorem Min64_any (B : Nat) (ao : Option Addr) (cap : Nat) (l : List Int) (w : World) (h : isWl w B ao cap l) (hne : 0 < l.length) :
    Calls Tryd.prog 62 #[.slice ao l.length cap] w fun e w' => e = .returned (.int .i64 (minL l)) ∧ w' = w := by
  have hle := h.le
  have hmo := h.most
  unfold maxLen at hmo
  obtain ⟨n, hn⟩ : ∃ n, n = l.length := ⟨_, rfl⟩
  rw [← hn] at hle hne ⊢
  have hlne : l ≠ [] := fun e => by rw [e] at hn; simp at hn; omega
  obtain ⟨g, off, eg, hg, hc⟩ := h.cells hlne
  subst eg
  have h0l : 0 < l.length := by rw [← hn]; exact hne
  obtain ⟨y0, hy0⟩ : ∃ x, l[0]? = some x := ⟨l[0], List.getElem?_eq_getElem h0l⟩
  have c0 := hc 0 y0 hy0
  rw [Nat.add_zero] at c0
  have hn1 : ¬ (n : Int) < 1 := by omega
  have hni : (0 : Int) < (n : Int) := by omega
  have H1 : Hid (y0 = minL (l.take 1)) := hide (by
    cases l with
    | nil => exact absurd rfl hlne
    | cons y l => simp at hy0; simp [minL, hy0])
  have HN := hide hn
  have HC := hide hc
  have HL := hide hlne
  clear hn hc hlne h h0l hy0
  go_enter Tryd.func62, Tryd.ntmps62
  go_wp2
  go_loop [3, 4] (fun mv iv => ∃ (k : Nat) (m : Int), 1 ≤ k ∧ k ≤ n ∧ iv = .int .i64 (k : Int) ∧ mv = .int .i64 m ∧ Hid (m = minL (l.take k))) (fun _ iv => n - (intOf iv).toNat)
  case atStart => exact ⟨1, y0, Nat.le_refl _, hne, rfl, rfl, H1⟩
  case round =>
    obtain ⟨k, m, hk1, hk, rfl, rfl, HM⟩ := hrel
    by_cases hlt : k < n
    · have hlti : (k : Int) < (n : Int) := by omega
      have hk0 : (0 : Int) ≤ (k : Int) := by omega
      have hkl : k < l.length := by rw [← unhide HN]; exact hlt
      obtain ⟨y, hy⟩ : ∃ x, l[k]? = some x := ⟨l[k], List.getElem?_eq_getElem hkl⟩
      have hye : l[k] = y := by rw [List.getElem?_eq_getElem hkl] at hy; exact Option.some.inj hy
      have c1 := unhide HC k y hy
      have hsn : minL (l.take (k + 1)) = min m y := by
        rw [List.take_succ_eq_append_getElem hkl, minL_snoc _ _ (fun e => by rw [List.take_eq_nil_iff] at e; rcases e with e | e; omega; exact unhide HL e), unhide HM, hye]
      have HSN := hide hsn
      clear hsn hy hye hkl
      go_wp2
      go_round
      case rel => exact ⟨k + 1, min m y, by omega, by omega, by go_num, by go_num, hide (unhide HSN).symm⟩
      case measure => simp only [intOf]; omega
    · have hlti : ¬ (k : Int) < (n : Int) := by omega
      go_wp2
      go_ret
      exact ⟨ret_int (by rw [unhide HM, List.take_of_length_le (by rw [← unhide HN]; omega)]), rfl⟩
end Go.Proofs.YthplbfjpmnpjmaaDoor
