/-
  The pairs that tourney.Pair answers: plain mathematics of their list.
-/
import Derived.Test.YtppkejblhkbkjaaZ28
namespace Go.Proofs.Ytppkejblhkbkjaa
open Go.RowKit Tu

/-- The players of the pairs as far as i, one after another. -/
def prF (M : Nat → Option Nat) (i : Nat) : List Nat := (prK M i).flatMap fun p => [p.1, p.2]
theorem prF_len (L : List (Nat × Nat)) : (L.flatMap fun p => [p.1, p.2]).length = 2 * L.length := by
  induction L with
  | nil => rfl
  | cons a l ih => rw [List.flatMap_cons, List.length_append, ih]; simp; omega
theorem prF_all {M : Nat → Option Nat} (hs : ∀ x y, M x = some y → M y = some x) (hne : ∀ x, M x ≠ some x) (i : Nat) :
    (prF M i).Nodup ∧ ∀ x, x ∈ prF M i ↔ ∃ y, M x = some y ∧ ((x < i ∧ x < y) ∨ (y < i ∧ y < x)) := by
  induction i with
  | zero => simp [prF, prK]
  | succ i ih =>
    by_cases h : ∃ y, M i = some y ∧ i < y
    · obtain ⟨y, hy, hl⟩ := h
      have e : prF M (i + 1) = prF M i ++ [i, y] := by unfold prF; rw [prK_t hy hl, List.flatMap_append]; rfl
      have hyi := hs _ _ hy
      rw [e]
      constructor
      · refine List.nodup_append.2 ⟨ih.1, by simp; omega, ?_⟩
        intro a ha b hb hab
        subst hab
        obtain ⟨z, hz, h3⟩ := (ih.2 a).1 ha
        simp only [List.mem_cons, List.not_mem_nil, or_false] at hb
        rcases hb with rfl | rfl
        · rw [hy] at hz; injection hz with hz; omega
        · rw [hyi] at hz; injection hz with hz; omega
      · intro x
        rw [List.mem_append, ih.2 x]
        simp only [List.mem_cons, List.not_mem_nil, or_false]
        constructor
        · rintro (⟨z, hz, h3⟩ | rfl | rfl)
          · exact ⟨z, hz, by omega⟩
          · exact ⟨y, hy, by omega⟩
          · exact ⟨i, hyi, by omega⟩
        · rintro ⟨z, hz, h3⟩
          by_cases hxi : x = i
          · exact .inr (.inl hxi)
          by_cases hzi : z = i
          · subst hzi
            have := hs _ _ hz
            rw [hy] at this; injection this with this
            exact .inr (.inr this.symm)
          · exact .inl ⟨z, hz, by omega⟩
    · have h' : ∀ y, M i = some y → ¬ i < y := fun y hy hl => h ⟨y, hy, hl⟩
      have e : prF M (i + 1) = prF M i := by unfold prF; rw [prK_f h']
      rw [e]
      refine ⟨ih.1, fun x => ?_⟩
      rw [ih.2 x]
      constructor
      · rintro ⟨z, hz, h3⟩; exact ⟨z, hz, by omega⟩
      · rintro ⟨z, hz, h3⟩
        refine ⟨z, hz, ?_⟩
        by_cases hxi : x = i
        · subst hxi
          have := h' z hz
          have : z ≠ x := fun e => hne x (by rw [e] at hz; exact hz)
          omega
        by_cases hzi : z = i
        · subst hzi
          have := h' x (hs _ _ hz)
          omega
        · omega
/-- Where each player has a partner, the pairs hold them all. -/
theorem prK_full {M : Nat → Option Nat} {n : Nat} (hs : ∀ x y, M x = some y → M y = some x) (hne : ∀ x, M x ≠ some x) (hlt : ∀ x y, M x = some y → x < n) (hall : ∀ x, x < n → ∃ y, M x = some y) :
    2 * (prK M n).length = n := by
  have h := prF_all hs hne n
  have hp : (prF M n).Perm (List.range n) := by
    refine (List.perm_ext_iff_of_nodup h.1 List.nodup_range).2 fun x => ?_
    rw [h.2 x, List.mem_range]
    constructor
    · rintro ⟨y, hy, -⟩; exact hlt x y hy
    · intro hx
      obtain ⟨y, hy⟩ := hall x hx
      have h2 := hlt y x (hs _ _ hy)
      have : y ≠ x := fun e => hne x (by rw [e] at hy; exact hy)
      exact ⟨y, hy, by omega⟩
  have h1 := hp.length_eq
  rw [List.length_range] at h1
  unfold prF at h1
  rw [prF_len] at h1
  exact h1
/-- The pair at place k: its players, and that none of them stands in a pair ahead of it. -/
theorem prK_at {n : Nat} {ok : Nat → Nat → Bool} {M : Nat → Option Nat} (h : Mt n ok M) {k x y : Nat} (e : (prK M n)[k]? = some (x, y)) :
    x < n ∧ y < n ∧ x < y ∧ ok x y = true ∧ x ∉ ((prK M n).take k).flatMap (fun p => [p.1, p.2]) ∧ y ∉ ((prK M n).take k).flatMap (fun p => [p.1, p.2]) ∧
    (prK M n).take (k + 1) = (prK M n).take k ++ [(x, y)] := by
  have hm := List.mem_of_getElem? e
  have h1 : M x = some y ∧ x < y := by
    unfold prK at hm
    rw [List.mem_filterMap] at hm
    obtain ⟨a, -, h2⟩ := hm
    cases hM : M a with
    | none => rw [hM] at h2; cases h2
    | some b =>
      rw [hM] at h2
      by_cases hab : a < b
      · simp only [hab, if_true] at h2
        injection h2 with h2; injection h2 with h3 h4
        subst h3; subst h4
        exact ⟨hM, hab⟩
      · simp [hab] at h2
  have ht : (prK M n).take (k + 1) = (prK M n).take k ++ [(x, y)] := by
    rw [List.take_add_one, e]; rfl
  have hn := (prF_all h.sym h.ne n).1
  unfold prF at hn
  rw [← List.take_append_drop (k + 1) (prK M n), ht, List.flatMap_append, List.flatMap_append] at hn
  have hn2 := (List.nodup_append.1 (List.nodup_append.1 hn).1).2.2
  refine ⟨h.lt x y h1.1, h.lt2 h1.1, h1.2, h.ok x y h1.1, fun hx => ?_, fun hy => ?_, ht⟩
  · exact hn2 x hx x (by simp) rfl
  · exact hn2 y hy y (by simp) rfl
/-- The first ones rise. -/
theorem prK_pw (M : Nat → Option Nat) (n : Nat) : (prK M n).Pairwise (fun p q => p.1 < q.1) ∧ ∀ p ∈ prK M n, p.1 < n := by
  induction n with
  | zero => simp [prK]
  | succ i ih =>
    by_cases h : ∃ y, M i = some y ∧ i < y
    · obtain ⟨y, hy, hl⟩ := h
      rw [prK_t hy hl]
      constructor
      · refine List.pairwise_append.2 ⟨ih.1, by simp, ?_⟩
        intro a ha b hb
        simp only [List.mem_cons, List.not_mem_nil, or_false] at hb
        subst hb
        exact ih.2 a ha
      · intro p hp
        rw [List.mem_append] at hp
        rcases hp with hp | hp
        · have := ih.2 p hp; omega
        · simp only [List.mem_cons, List.not_mem_nil, or_false] at hp
          subst hp
          exact Nat.lt_succ_self _
    · rw [prK_f (fun y hy hl => h ⟨y, hy, hl⟩)]
      exact ⟨ih.1, fun p hp => Nat.lt_succ_of_lt (ih.2 p hp)⟩
theorem prK_up (M : Nat → Option Nat) (n k : Nat) {p q : Nat × Nat} (e : (prK M n)[k]? = some p) (e' : (prK M n)[k + 1]? = some q) : p.1 < q.1 := by
  obtain ⟨h1, e1⟩ := List.getElem?_eq_some_iff.1 e
  obtain ⟨h2, e2⟩ := List.getElem?_eq_some_iff.1 e'
  have := List.pairwise_iff_getElem.1 (prK_pw M n).1 k (k + 1) h1 h2 (by omega)
  rw [e1, e2] at this
  exact this
/-- Of Pair's pairs: they are half as many as the players. -/
theorem prs_half {n : Nat} {l : List (Int × Int)} {M : Nat → Option Nat} (h : Prs n l M) : 2 * (prK M n).length = n :=
  prK_full h.mt.sym h.mt.ne h.mt.lt (fun x hx => by
    cases e : M x with
    | none => exact absurd e (h.all x hx)
    | some y => exact ⟨y, rfl⟩)
end Go.Proofs.Ytppkejblhkbkjaa
