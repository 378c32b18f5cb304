/-
  Plain mathematics: all positions to which moves lead, each once; the numbers of what each leads to; lists in order.
-/
import Derived.Test.YtbijadnekoeofaaGreatDoorT2
namespace Go.Proofs.YtbijadnekoeofaaGreatDoor

section
variable {α : Type} [DecidableEq α]
/-- One more, if it is new. -/
def addL (acc : List α) (q : α) : List α := if q ∈ acc then acc else acc ++ [q]
def extL (acc : List α) (qs : List α) : List α := qs.foldl addL acc
theorem ext_snoc (acc qs : List α) (q : α) : extL acc (qs ++ [q]) = addL (extL acc qs) q := by
  unfold extL
  rw [List.foldl_append]
  rfl
theorem ext_take {acc qs : List α} {k : Nat} {q : α} (h : qs[k]? = some q) : extL acc (qs.take (k + 1)) = addL (extL acc (qs.take k)) q := by
  rw [List.take_add_one, h]
  exact ext_snoc _ _ _
theorem add_pre (acc : List α) (q : α) : ∃ r, addL acc q = acc ++ r := by
  unfold addL
  split
  · exact ⟨[], by simp⟩
  · exact ⟨[q], rfl⟩
theorem ext_pre (acc : List α) : ∀ qs : List α, ∃ r, extL acc qs = acc ++ r
  | [] => ⟨[], by simp [extL]⟩
  | q :: qs => by
    obtain ⟨r1, h1⟩ := add_pre acc q
    obtain ⟨r2, h2⟩ := ext_pre (addL acc q) qs
    exact ⟨r1 ++ r2, by show extL (addL acc q) qs = _; rw [h2, h1, List.append_assoc]⟩
theorem add_nodup {acc : List α} (h : acc.Nodup) (q : α) : (addL acc q).Nodup := by
  unfold addL
  split
  · exact h
  · rename_i hq
    rw [List.nodup_append]
    refine ⟨h, by simp, fun x hx y hy e => ?_⟩
    rw [List.mem_singleton] at hy
    subst hy
    subst e
    exact hq hx
theorem ext_nodup : ∀ {qs acc : List α}, acc.Nodup → (extL acc qs).Nodup
  | [], _, h => h
  | q :: qs, acc, h => ext_nodup (qs := qs) (acc := addL acc q) (add_nodup h q)
theorem add_mem {acc : List α} {q x : α} : x ∈ addL acc q ↔ x ∈ acc ∨ x = q := by
  unfold addL
  split
  · rename_i h
    exact ⟨.inl, fun hh => by rcases hh with hh | rfl; exact hh; exact h⟩
  · rw [List.mem_append, List.mem_singleton]
theorem ext_mem {x : α} : ∀ {qs acc : List α}, x ∈ extL acc qs ↔ x ∈ acc ∨ x ∈ qs
  | [], acc => by simp [extL]
  | q :: qs, acc => by
    show x ∈ extL (addL acc q) qs ↔ _
    rw [ext_mem (qs := qs) (acc := addL acc q), add_mem, List.mem_cons]
    constructor
    · rintro ((h | h) | h)
      · exact .inl h
      · exact .inr (.inl h)
      · exact .inr (.inr h)
    · rintro (h | h | h)
      · exact .inl (.inl h)
      · exact .inl (.inr h)
      · exact .inr h
theorem add_len (acc : List α) (q : α) : (addL acc q).length = acc.length + if q ∈ acc then 0 else 1 := by
  unfold addL
  split <;> simp
theorem ext_len_le (acc qs : List α) : acc.length ≤ (extL acc qs).length ∧ (extL acc qs).length ≤ acc.length + qs.length := by
  induction qs generalizing acc with
  | nil => exact ⟨Nat.le_refl _, Nat.le_refl _⟩
  | cons q qs ih =>
    have h1 := ih (addL acc q)
    have h2 := add_len acc q
    show acc.length ≤ (extL (addL acc q) qs).length ∧ (extL (addL acc q) qs).length ≤ acc.length + (qs.length + 1)
    split at h2 <;> omega
theorem idx_pre {acc r : List α} {q : α} (h : q ∈ acc) : (acc ++ r).idxOf q = acc.idxOf q := by
  rw [List.idxOf_append, if_pos h]
theorem idx_new {acc : List α} {q : α} (h : q ∉ acc) : (acc ++ [q]).idxOf q = acc.length := by
  rw [List.idxOf_append, if_neg h]
  simp
theorem idx_at {acc : List α} {q : α} (h : q ∈ acc) : acc[acc.idxOf q]? = some q := by
  have hl := List.idxOf_lt_length_of_mem h
  rw [List.getElem?_eq_getElem hl, List.getElem_idxOf hl]
theorem idx_of {acc : List α} (hn : acc.Nodup) {i : Nat} {q : α} (h : acc[i]? = some q) : acc.idxOf q = i := by
  obtain ⟨hl, e⟩ := List.getElem?_eq_some_iff.1 h
  subst e
  have hm : acc[i] ∈ acc := List.getElem_mem _
  have hl2 := List.idxOf_lt_length_of_mem hm
  have h2 : acc[acc.idxOf acc[i]] = acc[i] := List.getElem_idxOf hl2
  exact (List.getElem_inj hn).1 h2

/-- When i of them have been gone through. -/
def bfsN (nx : α → List α) (s : α) : Nat → List α
  | 0 => [s]
  | i + 1 => match (bfsN nx s i)[i]? with
    | some p => extL (bfsN nx s i) (nx p)
    | none => bfsN nx s i
variable {nx : α → List α} {s : α}
theorem bfs_step {i : Nat} {p : α} (h : (bfsN nx s i)[i]? = some p) : bfsN nx s (i + 1) = extL (bfsN nx s i) (nx p) := by
  show (match (bfsN nx s i)[i]? with | some p => extL (bfsN nx s i) (nx p) | none => bfsN nx s i) = _
  rw [h]
theorem bfs_stop {i : Nat} (h : (bfsN nx s i).length ≤ i) : bfsN nx s (i + 1) = bfsN nx s i := by
  show (match (bfsN nx s i)[i]? with | some p => extL (bfsN nx s i) (nx p) | none => bfsN nx s i) = _
  rw [List.getElem?_eq_none h]
theorem bfs_pre (i : Nat) : ∃ r, bfsN nx s (i + 1) = bfsN nx s i ++ r := by
  by_cases h : i < (bfsN nx s i).length
  · obtain ⟨r, hr⟩ := ext_pre (bfsN nx s i) (nx (bfsN nx s i)[i])
    exact ⟨r, by rw [bfs_step (List.getElem?_eq_getElem h), hr]⟩
  · exact ⟨[], by rw [bfs_stop (by omega), List.append_nil]⟩
theorem bfs_le {i j : Nat} (h : i ≤ j) : ∃ r, bfsN nx s j = bfsN nx s i ++ r := by
  induction h with
  | refl => exact ⟨[], by simp⟩
  | step _ ih =>
    obtain ⟨r, hr⟩ := ih
    obtain ⟨r2, hr2⟩ := bfs_pre (nx := nx) (s := s) _
    exact ⟨r ++ r2, by rw [hr2, hr, List.append_assoc]⟩
theorem bfs_nodup : ∀ i : Nat, (bfsN nx s i).Nodup
  | 0 => by simp [bfsN]
  | i + 1 => by
    by_cases h : i < (bfsN nx s i).length
    · rw [bfs_step (List.getElem?_eq_getElem h)]
      exact ext_nodup (bfs_nodup i)
    · rw [bfs_stop (by omega)]
      exact bfs_nodup i
theorem bfs_ok {ok : α → Prop} (hs : ok s) (hstay : ∀ p, ok p → ∀ q ∈ nx p, ok q) : ∀ i : Nat, ∀ p ∈ bfsN nx s i, ok p
  | 0, p, hp => by rw [List.mem_singleton.1 hp]; exact hs
  | i + 1, p, hp => by
    by_cases h : i < (bfsN nx s i).length
    · rw [bfs_step (List.getElem?_eq_getElem h), ext_mem] at hp
      rcases hp with hp | hp
      · exact bfs_ok hs hstay i p hp
      · exact hstay _ (bfs_ok hs hstay i _ (List.getElem_mem h)) p hp
    · rw [bfs_stop (by omega)] at hp
      exact bfs_ok hs hstay i p hp
theorem bfs_pos (i : Nat) : 0 < (bfsN nx s i).length := by
  obtain ⟨r, hr⟩ := bfs_le (nx := nx) (s := s) (Nat.zero_le i)
  rw [hr]
  simp [bfsN]
/-- All have been gone through: nothing leads out. -/
theorem bfs_closed {n : Nat} (hn : (bfsN nx s n).length ≤ n) {p : α} (hp : p ∈ bfsN nx s n) {q : α} (hq : q ∈ nx p) : q ∈ bfsN nx s n := by
  obtain ⟨i, hi⟩ := List.getElem?_of_mem hp
  have hil := (List.getElem?_eq_some_iff.1 hi).1
  have hin : i < n := by omega
  -- at i it was there already
  have key : ∀ m, (bfsN nx s m).length ≤ m → ∀ j, m ≤ j → bfsN nx s j = bfsN nx s m := fun m hm j hj => by
    induction hj with
    | refl => rfl
    | step h3 ih => rw [bfs_stop (by rw [ih]; exact Nat.le_trans hm h3), ih]
  by_cases hi2 : i < (bfsN nx s i).length
  · obtain ⟨r, hr⟩ := bfs_le (nx := nx) (s := s) (show i ≤ n by omega)
    have hp2 : (bfsN nx s i)[i]? = some p := by
      rw [hr, List.getElem?_append_left hi2] at hi
      exact hi
    obtain ⟨r2, hr2⟩ := bfs_le (nx := nx) (s := s) (show i + 1 ≤ n by omega)
    rw [hr2, List.mem_append]
    left
    rw [bfs_step hp2, ext_mem]
    exact .inr hq
  · have := key i (by omega) n (by omega)
    rw [this] at hil
    exact absurd hil hi2
/-- Who has been gone through leads to what is there. -/
theorem bfs_there {i j : Nat} (hj : j < i) {p : α} (hp : (bfsN nx s i)[j]? = some p) (hjl : j < (bfsN nx s j).length) {q : α} (hq : q ∈ nx p) : q ∈ bfsN nx s i := by
  obtain ⟨r, hr⟩ := bfs_le (nx := nx) (s := s) (show j ≤ i by omega)
  have hp2 : (bfsN nx s j)[j]? = some p := by
    rw [hr, List.getElem?_append_left hjl] at hp
    exact hp
  obtain ⟨r2, hr2⟩ := bfs_le (nx := nx) (s := s) (show j + 1 ≤ i by omega)
  rw [hr2, List.mem_append]
  left
  rw [bfs_step hp2, ext_mem]
  exact .inr hq
end

/-! Lists in order: there is only one. -/
end Go.Proofs.YtbijadnekoeofaaGreatDoor
