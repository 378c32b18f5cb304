/-
  Plain mathematics: the first move to a position with the value 0; there is one just if the value is not 0.
-/
import Derived.Test.YtphnjedoghopcaaM44
namespace Go.Proofs.Ytphnjedoghopcaa

/-- The first way to leave of a heap what is worth so much. -/
def leaveO (D : List Nat) (n q : Nat) : Option (List Nat) := (tks D n).find? fun x => decide (grs D x = q)
/-- The first move of these heaps, the first of them being the i-th, of all worth S. -/
def winF (D : List Nat) (S : Nat) : Nat → List Nat → Option (Nat × List Nat)
  | _, [] => none
  | i, n :: hs => match leaveO D n (S ^^^ gr D n) with
    | some x => some (i, x)
    | none => winF D S (i + 1) hs
/-- One heap looked at. -/
def stepW (i : Nat) (o : Option (List Nat)) (q : Option (Nat × List Nat)) : Option (Nat × List Nat) := match o with
  | some x => some (i, x)
  | none => q
theorem winF_cons (D : List Nat) (S i n : Nat) (hs : List Nat) : winF D S i (n :: hs) = stepW i (leaveO D n (S ^^^ gr D n)) (winF D S (i + 1) hs) := by
  rw [winF]
  cases leaveO D n (S ^^^ gr D n) <;> rfl
def winO (D hs : List Nat) : Option (Nat × List Nat) := winF D (grs D hs) 0 hs
theorem winF_some {D : List Nat} {S : Nat} : ∀ {i : Nat} {hs : List Nat} {j : Nat} {x : List Nat}, winF D S i hs = some (j, x) → ∃ (k n : Nat), j = i + k ∧ hs[k]? = some n ∧ x ∈ tks D n ∧ grs D x = S ^^^ gr D n
  | i, [], j, x, h => by simp [winF] at h
  | i, n :: hs, j, x, h => by
    rw [winF] at h
    cases hl : leaveO D n (S ^^^ gr D n) with
    | some y =>
      rw [hl] at h
      simp only [Option.some.injEq, Prod.mk.injEq] at h
      obtain ⟨rfl, rfl⟩ := h
      unfold leaveO at hl
      refine ⟨0, n, rfl, rfl, List.mem_of_find?_eq_some hl, ?_⟩
      have := List.find?_some (p := fun x => decide (grs D x = S ^^^ gr D n)) hl
      simpa using this
    | none =>
      rw [hl] at h
      obtain ⟨k, m, e, hm, hx, hg⟩ := winF_some h
      exact ⟨k + 1, m, by omega, by simpa using hm, hx, hg⟩
theorem winF_none {D : List Nat} {S : Nat} : ∀ {i : Nat} {hs : List Nat}, winF D S i hs = none → ∀ n ∈ hs, ∀ x ∈ tks D n, grs D x ≠ S ^^^ gr D n
  | i, [], _, n, hn, _, _ => by simp at hn
  | i, m :: hs, h, n, hn, x, hx => by
    rw [winF] at h
    cases hl : leaveO D m (S ^^^ gr D m) with
    | some y => rw [hl] at h; cases h
    | none =>
      rw [hl] at h
      rcases List.mem_cons.1 hn with rfl | hn
      · unfold leaveO at hl
        have := List.find?_eq_none.1 hl x hx
        simpa using this
      · exact winF_none h n hn x hx
/-- Less than the sum: some heap can be made so that the sum is that. -/
theorem grs_less {D : List Nat} : ∀ (hs : List Nat) (t : Nat), t < grs D hs → ∃ n ∈ hs, t ^^^ grs D hs ^^^ gr D n < gr D n
  | [], t, h => by rw [grs_nil] at h; omega
  | n :: hs, t, h => by
    rw [grs_cons] at h ⊢
    rcases xor_less _ t _ _ (Nat.lt_succ_self _) h with h1 | h1
    · refine ⟨n, by simp, ?_⟩
      have : t ^^^ (gr D n ^^^ grs D hs) ^^^ gr D n = t ^^^ grs D hs := by
        rw [Nat.xor_comm (gr D n), ← Nat.xor_assoc, xor_back]
      rw [this]; exact h1
    · obtain ⟨m, hm, h2⟩ := grs_less hs (t ^^^ gr D n) h1
      refine ⟨m, by simp [hm], ?_⟩
      rw [← Nat.xor_assoc t]
      exact h2
theorem xor_zero_of {a b : Nat} (h : a ^^^ b = 0) : a = b := xor_inj (z := b) (by rw [h, Nat.xor_self])
/-- SPRAGUE, GRUNDY: there is a move to a position with the value 0 just if the value is not 0. -/
theorem winO_none {D hs : List Nat} : winO D hs = none ↔ grs D hs = 0 := by
  constructor
  · intro h
    rcases Nat.eq_zero_or_pos (grs D hs) with h0 | h0
    · exact h0
    · exfalso
      obtain ⟨n, hn, h1⟩ := grs_less hs 0 h0
      rw [Nat.zero_xor, gr_eq D n] at h1
      obtain ⟨x, hx, he⟩ := List.mem_map.1 (mex_low _ h1)
      rw [← gr_eq D n] at he
      exact winF_none h n hn x hx he
  · intro h
    cases hw : winO D hs with
    | none => rfl
    | some p =>
      obtain ⟨j, x⟩ := p
      exfalso
      obtain ⟨k, n, -, hn, hx, hg⟩ := winF_some hw
      rw [h, Nat.zero_xor] at hg
      have : gr D n ∈ (tks D n).map (grs D) := List.mem_map.2 ⟨x, hx, hg⟩
      rw [gr_eq] at this
      exact mex_no _ this
/-- The heaps behind a move. -/
def aft (hs : List Nat) (i : Nat) (x : List Nat) : List Nat := hs.take i ++ hs.drop (i + 1) ++ x
theorem grs_aft {D hs : List Nat} {i n : Nat} (h : hs[i]? = some n) (x : List Nat) : grs D (aft hs i x) = grs D hs ^^^ gr D n ^^^ grs D x := by
  obtain ⟨hi, hn⟩ := List.getElem?_eq_some_iff.1 h
  have e : hs = hs.take i ++ n :: hs.drop (i + 1) := by rw [← hn, ← List.drop_eq_getElem_cons hi, List.take_append_drop]
  have e2 : grs D hs = grs D (hs.take i) ^^^ (gr D n ^^^ grs D (hs.drop (i + 1))) := by
    conv => lhs; rw [e]
    rw [grs_app, grs_cons]
  unfold aft
  rw [grs_app, grs_app, e2]
  congr 1
  rw [Nat.xor_comm (gr D n), ← Nat.xor_assoc, xor_back]
end Go.Proofs.Ytphnjedoghopcaa
