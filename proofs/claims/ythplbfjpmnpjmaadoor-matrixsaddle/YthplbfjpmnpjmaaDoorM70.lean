/-
  the members of a set one by one, the parts of a matrix one by one (plain mathematics).
-/
import Derived.Test.YthplbfjpmnpjmaaDoorM69
namespace Go.Proofs.YthplbfjpmnpjmaaDoor.Lp
/-- What is left when k have come. -/
def rst (s : Nat) : Nat → Nat
  | 0 => s
  | k + 1 => wo (rst s k) (fs (rst s k))
set_option maxRecDepth 100000 in
theorem rst_ok : ∀ s, s < 64 → ∀ k, k ≤ sz s → rst s k < 64 ∧ (k < sz s → 1 ≤ rst s k ∧ fs (rst s k) = (mem s).getD k 0 ∧ fs (rst s k) < 6) ∧ (k = sz s → rst s k = 0) := by decide +kernel
abbrev MS (s : Nat) := { i : Nat // i < 6 ∧ s.testBit i = true }
def toM (s i : Nat) : Option (MS s) := if h : i < 6 ∧ s.testBit i = true then some ⟨i, h⟩ else none
def memS (s : Nat) : List (MS s) := (List.range 6).filterMap (toM s)
theorem filterMap_val (s : Nat) : ∀ (L : List Nat), (∀ i ∈ L, i < 6) → (L.filterMap (toM s)).map (·.1) = L.filter fun i => s.testBit i
  | [], _ => rfl
  | i :: L, h => by
    have ih := filterMap_val s L fun k hk => h k (by simp [hk])
    have hi := h i (by simp)
    by_cases hb : s.testBit i = true
    · have e : toM s i = some ⟨i, hi, hb⟩ := by unfold toM; rw [dif_pos ⟨hi, hb⟩]
      rw [List.filterMap_cons, e, List.map_cons, ih, List.filter_cons, if_pos hb]
    · have e : toM s i = none := by unfold toM; rw [dif_neg (fun h => hb h.2)]
      rw [List.filterMap_cons, e, List.filter_cons, if_neg hb]
      exact ih
theorem memS_is (s : Nat) : (memS s).map (·.1) = mem s := filterMap_val s _ fun _ hi => List.mem_range.1 hi
theorem memS_len (s : Nat) : (memS s).length = sz s := by unfold sz; rw [← memS_is, List.length_map]
theorem memS_at {s k : Nat} (hs : s < 64) (hk : k < sz s) : ∃ x : MS s, (memS s)[k]? = some x ∧ x.1 = fs (rst s k) := by
  obtain ⟨-, h, -⟩ := rst_ok s hs k (Nat.le_of_lt hk)
  obtain ⟨-, h2, -⟩ := h hk
  have hk2 : k < (memS s).length := by rw [memS_len]; exact hk
  refine ⟨(memS s)[k], List.getElem?_eq_getElem hk2, ?_⟩
  have hk3 : k < (mem s).length := hk
  have e : ((memS s).map (·.1))[k]? = (mem s)[k]? := by rw [memS_is]
  rw [List.getElem?_map, List.getElem?_eq_getElem hk2, List.getElem?_eq_getElem hk3] at e
  rw [h2, List.getD_eq_getElem?_getD, List.getElem?_eq_getElem hk3]
  exact Option.some.inj e
theorem MS.lt {s N : Nat} (hs : s < 2 ^ N) (x : MS s) : x.1 < N := by
  rcases Nat.lt_or_ge x.1 N with h | h
  · exact h
  · have h1 : s < 2 ^ x.1 := Nat.lt_of_lt_of_le hs (Nat.pow_le_pow_right (by omega) h)
    have := Nat.testBit_lt_two_pow h1
    rw [x.2.2] at this
    cases this
/-- A part of a matrix: its rows, its columns. -/
def okP (m n : Nat) (p : Nat × Nat) : Prop := 1 ≤ p.1 ∧ p.1 < 2 ^ m ∧ 1 ≤ p.2 ∧ p.2 < 2 ^ n ∧ sz p.1 = sz p.2
instance (m n : Nat) (p : Nat × Nat) : Decidable (okP m n p) := by unfold okP; infer_instance
abbrev P6 (m n : Nat) := { p : Nat × Nat // okP m n p }
def toP (m n : Nat) (p : Nat × Nat) : Option (P6 m n) := if h : okP m n p then some ⟨p, h⟩ else none
/-- All places ahead of (r, c). -/
def plc (n r c : Nat) : List (Nat × Nat) := (List.range r).flatMap (fun i => (List.range (2 ^ n)).map fun j => (i, j)) ++ (List.range c).map fun j => (r, j)
def came (m n r c : Nat) : List (P6 m n) := (plc n r c).filterMap (toP m n)
theorem came_yes (m n r c : Nat) (h : okP m n (r, c)) : came m n r (c + 1) = came m n r c ++ [⟨(r, c), h⟩] := by
  unfold came plc
  rw [List.range_succ, List.map_append, ← List.append_assoc, List.filterMap_append (l := _ ++ _)]
  congr 1
  simp [toP, h]
theorem came_no (m n r c : Nat) (h : ¬ okP m n (r, c)) : came m n r (c + 1) = came m n r c := by
  unfold came plc
  rw [List.range_succ, List.map_append, ← List.append_assoc, List.filterMap_append (l := _ ++ _)]
  simp [toP, h]
theorem came_row (m n r : Nat) : came m n (r + 1) 0 = came m n r (2 ^ n) := by
  unfold came plc
  rw [List.range_succ, List.flatMap_append]
  simp
theorem came_one (m n r : Nat) : came m n r 1 = came m n r 0 := came_no m n r 0 (fun h => by have := h.2.2.1; simp at this)
theorem came_start (m n : Nat) : came m n 1 0 = [] := by
  rw [came_row]
  have : ∀ c, came m n 0 c = [] := fun c => by
    induction c with
    | zero => rfl
    | succ c ih => rw [came_no m n 0 c (fun h => by have := h.1; simp at this), ih]
  exact this _
theorem mem_plc (n r c : Nat) (p : Nat × Nat) : p ∈ plc n r c ↔ (p.1 < r ∧ p.2 < 2 ^ n) ∨ (p.1 = r ∧ p.2 < c) := by
  unfold plc
  simp only [List.mem_append, List.mem_flatMap, List.mem_range, List.mem_map]
  constructor
  · rintro (⟨i, hi, j, hj, rfl⟩ | ⟨j, hj, rfl⟩)
    · exact .inl ⟨hi, hj⟩
    · exact .inr ⟨rfl, hj⟩
  · rintro (⟨h1, h2⟩ | ⟨h1, h2⟩)
    · exact .inl ⟨p.1, h1, p.2, h2, rfl⟩
    · exact .inr ⟨p.2, h2, by rw [← h1]⟩
theorem mem_came {m n r c : Nat} {p : P6 m n} : p ∈ came m n r c ↔ (p.1.1 < r ∨ (p.1.1 = r ∧ p.1.2 < c)) := by
  unfold came
  rw [List.mem_filterMap]
  have hp := p.2
  constructor
  · rintro ⟨q, hq, e⟩
    unfold toP at e
    by_cases h : okP m n q
    · rw [dif_pos h] at e
      cases e
      rcases (mem_plc n r c q).1 hq with h1 | h1
      · exact .inl h1.1
      · exact .inr h1
    · rw [dif_neg h] at e; cases e
  · intro h
    refine ⟨p.1, (mem_plc n r c p.1).2 ?_, ?_⟩
    · rcases h with h | h
      · exact .inl ⟨h, hp.2.2.2.1⟩
      · exact .inr h
    · unfold toP; rw [dif_pos hp]
/-- All of them. -/
def allP (m n : Nat) : List (P6 m n) := came m n (2 ^ m) 0
theorem mem_allP {m n : Nat} (p : P6 m n) : p ∈ allP m n := mem_came.2 (.inl p.2.2.1)
theorem sum_const (k : Nat) : ∀ r, ((List.range r).map fun _ => k).sum = r * k
  | 0 => by simp
  | r + 1 => by rw [List.range_succ, List.map_append, List.sum_append, sum_const k r, Nat.add_mul]; simp
theorem came_len (m n r c : Nat) : (came m n r c).length ≤ r * 2 ^ n + c := by
  unfold came
  refine Nat.le_trans (List.length_filterMap_le ..) ?_
  unfold plc
  rw [List.length_append, List.length_map, List.length_range, List.length_flatMap]
  simp only [List.length_map, List.length_range]
  rw [sum_const]
  exact Nat.le_refl _
end Go.Proofs.YthplbfjpmnpjmaaDoor.Lp
