/-
  Plain mathematics of records: bounds of the reader.
-/
import Derived.Test.YtdibjdpnleepmacDoorM29
namespace Go.Proofs.YtdibjdpnleepmacDoor
open Go.Lib
theorem on_short (l : List UInt8) (h : l ≠ []) : (onL l).length + 1 ≤ l.length := on_len l h
theorem run_at (fits : Int → Bool) (most : Nat) (h1 : fits (-1) = false) : ∀ (f n : Nat) (c : Cur), c.2 ≤ (runL fits most f n c).1.2 ∧ (runL fits most f n c).1.2 + ((runL fits most f n c).1.1.length : Int) ≤ c.2 + (c.1.length : Int) := by
  intro f
  induction f with
  | zero => intro n c; exact ⟨Int.le_refl _, Int.le_refl _⟩
  | succ f ih =>
    intro n c
    rw [runL]
    split
    · rename_i hfit
      have hne : c.1 ≠ [] := pk_ne (fun e => by rw [e, h1] at hfit; cases hfit)
      split
      · exact ⟨Int.le_refl _, Int.le_refl _⟩
      · have a := ih (n + 1) (onL c.1, c.2 + 1)
        have b := on_short c.1 hne
        simp only at a
        omega
    · exact ⟨Int.le_refl _, Int.le_refl _⟩
theorem skip_at : ∀ (f : Nat) (c : Cur), c.2 ≤ (skipL f c).2 ∧ (skipL f c).2 + ((skipL f c).1.length : Int) ≤ c.2 + (c.1.length : Int) := by
  intro f
  induction f with
  | zero => intro c; exact ⟨Int.le_refl _, Int.le_refl _⟩
  | succ f ih =>
    intro c
    rw [skipL]
    split
    · rename_i hb
      have hne : c.1 ≠ [] := pk_ne (by omega)
      have a := ih (onL c.1, c.2 + 1)
      have b := on_short c.1 hne
      simp only at a
      omega
    · exact ⟨Int.le_refl _, Int.le_refl _⟩
theorem skp_at (c : Cur) : c.2 ≤ (skp c).2 ∧ (skp c).2 + ((skp c).1.length : Int) ≤ c.2 + (c.1.length : Int) := skip_at _ _
theorem note_at (c c' : Cur) (mv cm : List UInt8) (h : noteL c = .ok (c', mv, cm)) : c.2 ≤ c'.2 ∧ c'.2 + (c'.1.length : Int) ≤ c.2 + (c.1.length : Int) := by
  unfold noteL at h
  simp only at h
  have a1 := run_at mvR 20 (by decide) (c.1.length + 1) 0 c
  obtain ⟨y, hy⟩ : ∃ y, y = runL mvR 20 (c.1.length + 1) 0 c := ⟨_, rfl⟩
  rw [← hy] at h a1
  split at h
  · cases h
  · have a2 := skp_at y.1
    obtain ⟨z, hz⟩ : ∃ z, z = skp y.1 := ⟨_, rfl⟩
    rw [← hz] at h a2
    split at h
    · rename_i h123
      have b := on_short z.1 (pk_ne (by omega))
      have a3 := run_at cmR 200 (by decide) ((onL z.1).length + 1) 0 (onL z.1, z.2 + 1)
      obtain ⟨u, hu⟩ : ∃ u, u = runL cmR 200 ((onL z.1).length + 1) 0 (onL z.1, z.2 + 1) := ⟨_, rfl⟩
      rw [← hu] at h a3
      simp only at a3
      split at h
      · cases h
      · split at h
        · rename_i h125
          have b2 := on_short u.1.1 (pk_ne (by omega))
          simp only [Except.ok.injEq, Prod.mk.injEq] at h
          obtain ⟨rfl, -, -⟩ := h
          simp only
          omega
        · cases h
    · simp only [Except.ok.injEq, Prod.mk.injEq] at h
      obtain ⟨rfl, -, -⟩ := h
      omega
/-- The reader is within bounds. -/
structure Bd (M : Int) (s : Ps) : Prop where
  at0 : 0 ≤ s.c.2
  at1 : s.c.2 + (s.c.1.length : Int) ≤ M
  en : (s.E.length : Int) + (s.c.1.length : Int) ≤ M
  d : 0 ≤ s.d ∧ s.d ≤ s.E.length
  dp : 0 ≤ s.here.deep ∧ s.here.deep ≤ s.E.length
  op : ∀ p ∈ s.O, 0 ≤ p.deep ∧ p.deep ≤ s.E.length
  ol : s.O.length ≤ s.E.length
theorem Bd.start (l : List UInt8) (M : Int) (h : (l.length : Int) ≤ M) : Bd M (.start l) :=
  ⟨by simp [Ps.start], by simp [Ps.start]; omega, by simp [Ps.start]; omega, by simp [Ps.start], by simp [Ps.start], by simp [Ps.start], by simp [Ps.start]⟩
theorem part_bd {M : Int} (s s' : Ps) (hb : Bd M s) (h : partL s = .ok (some s')) : Bd M s' := by
  have hlen := part_len s s' h
  obtain ⟨q1, q2, q3, qd, q4, q5, q6⟩ := hb
  have hk := skp_at s.c
  unfold partL at h
  simp only at h
  split at h
  · split at h
    · cases h
    · rename_i c' mv cm hn
      have ha := note_at _ _ _ _ hn
      simp only [Except.ok.injEq, Option.some.injEq] at h
      subst h
      simp only at hlen
      refine ⟨by simp only; omega, by simp only; omega, ?_, ?_, ?_, fun p hp => ?_, ?_⟩
      · simp only [List.length_append, List.length_cons, List.length_nil]; omega
      · simp only [List.length_append, List.length_cons, List.length_nil]; omega
      · simp only [List.length_append, List.length_cons, List.length_nil]; omega
      · have := q5 p hp
        simp only [List.length_append, List.length_cons, List.length_nil]; omega
      · simp only [List.length_append, List.length_cons, List.length_nil]; omega
  · split at h
    · rename_i hp40
      split at h
      · cases h
      · have hne : (skp s.c).1 ≠ [] := pk_ne (by omega)
        have hos := on_short _ hne
        have hk2 := skp_at (onL (skp s.c).1, (skp s.c).2 + 1)
        simp only at hk2
        split at h
        · cases h
        · rename_i c' mv cm hn
          have ha := note_at _ _ _ _ hn
          simp only [Except.ok.injEq, Option.some.injEq] at h
          subst h
          simp only at hlen
          refine ⟨by simp only; omega, by simp only; omega, ?_, ?_, ?_, fun p hp => ?_, ?_⟩
          · simp only [List.length_append, List.length_cons, List.length_nil]; omega
          · simp only [List.length_append, List.length_cons, List.length_nil]; omega
          · simp only [List.length_append, List.length_cons, List.length_nil]; omega
          · simp only [List.length_append, List.length_cons, List.length_nil]
            rcases List.mem_append.1 hp with hp | hp
            · have := q5 p hp; omega
            · simp only [List.mem_singleton] at hp
              subst hp; omega
          · simp only [List.length_append, List.length_cons, List.length_nil]; omega
    · split at h
      · rename_i hp41
        have hne : (skp s.c).1 ≠ [] := pk_ne (by omega)
        have hos := on_short _ hne
        simp only [Except.ok.injEq, Option.some.injEq] at h
        subst h
        simp only at hlen
        refine ⟨by simp only; omega, by simp only; omega, by simp only; omega, qd, ?_, fun p hp => q5 p (List.dropLast_subset _ hp), ?_⟩
        · simp only
          rw [List.getLast?_eq_some_getLast hp41.2]
          exact q5 _ (List.getLast_mem hp41.2)
        · simp only [List.length_dropLast]; omega
      · split at h <;> simp at h
/-- As many as may be kept. -/
theorem take_one (E : List En) (e : En) : (if (E.length : Int) < 1000 then E.take 1000 ++ [e] else E.take 1000) = (E ++ [e]).take 1000 := by
  split
  · rw [List.take_of_length_le (by omega), List.take_of_length_le (by simp; omega)]
  · rw [List.take_append_of_le_length (by omega)]
end Go.Proofs.YtdibjdpnleepmacDoor
