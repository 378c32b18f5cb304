/-
  Plain mathematics: what positions are worth, from the end backward: a table that is its own proof is the only one.
-/
import Derived.RowKit
namespace Go.Proofs.YtbijadnekoeofaaGreatDoor

/-- A table that is its own proof (won: 1, lost: 2, even: 3; open, in v0: 0). -/
structure Cons (N : Nat) (nxt : Nat → List Nat) (v0 : Nat → Nat) (A : Nat → Nat × Nat) : Prop where
  over : ∀ i, i < N → v0 i ≠ 0 → A i = (v0 i, 0)
  play : ∀ i, i < N → v0 i = 0 →
    ((A i).1 = 1 ∧ (∃ j ∈ nxt i, (A j).1 = 2 ∧ (A i).2 = (A j).2 + 1) ∧ ∀ j ∈ nxt i, (A j).1 = 2 → (A i).2 ≤ (A j).2 + 1) ∨
    ((A i).1 = 2 ∧ (∀ j ∈ nxt i, (A j).1 = 1 ∧ (A j).2 + 1 ≤ (A i).2) ∧ ∃ j ∈ nxt i, (A i).2 = (A j).2 + 1) ∨
    (A i = (3, 0) ∧ (∀ j ∈ nxt i, (A j).1 ≠ 2) ∧ ∃ j ∈ nxt i, (A j).1 ≠ 1)

section
variable {N : Nat} {nxt : Nat → List Nat} {v0 : Nat → Nat} {A B : Nat → Nat × Nat}
theorem cons_step (hn : ∀ i, i < N → ∀ j ∈ nxt i, j < N) (hA : Cons N nxt v0 A) (hB : Cons N nxt v0 B) (d : Nat)
    (ih : ∀ e, e < d → ∀ i, i < N → ∀ v, v = 1 ∨ v = 2 → (A i = (v, e) ↔ B i = (v, e))) (ih2 : ∀ e, e < d → ∀ i, i < N → ∀ v, v = 1 ∨ v = 2 → B i = (v, e) → A i = (v, e)) :
    ∀ i, i < N → ∀ v, v = 1 ∨ v = 2 → A i = (v, d) → B i = (v, d) := by
  intro i hi v hv hAi
  by_cases h0 : v0 i = 0
  · have e1 : (A i).1 = v := by rw [hAi]
    have e2 : (A i).2 = d := by rw [hAi]
    rcases hA.play i hi h0 with ⟨a1, ⟨j, hj, a2, a3⟩, a4⟩ | ⟨a1, a2, j, hj, a3⟩ | ⟨a1, -, -⟩
    · have hv1 : v = 1 := by omega
      have hBj : B j = (2, (A j).2) := (ih _ (by omega) j (hn i hi j hj) 2 (by omega)).1 (Prod.ext a2 rfl)
      rcases hB.play i hi h0 with ⟨b1, ⟨k, hk, b2, b3⟩, b4⟩ | ⟨b1, b2, -⟩ | ⟨b1, b2, -⟩
      · have hle : (B i).2 ≤ d := by
          have := b4 j hj (by rw [hBj])
          rw [hBj] at this
          simp only at this
          omega
        by_cases hlt : (B i).2 < d
        · have := ih2 _ hlt i hi 1 (by omega) (Prod.ext b1 rfl)
          rw [hAi] at this
          simp only [Prod.mk.injEq] at this
          omega
        · exact Prod.ext (by rw [b1, hv1]) (by simp only; omega)
      · have := (b2 j hj).1
        rw [hBj] at this
        simp at this
      · have := b2 j hj
        rw [hBj] at this
        simp at this
    · have hv3 : v = 2 := by omega
      have hBj : ∀ k ∈ nxt i, B k = (1, (A k).2) := fun k hk => (ih _ (by have := (a2 k hk).2; omega) k (hn i hi k hk) 1 (by omega)).1 (Prod.ext (a2 k hk).1 rfl)
      rcases hB.play i hi h0 with ⟨b1, ⟨k, hk, b2, b3⟩, b4⟩ | ⟨b1, b2, k, hk, b3⟩ | ⟨b1, b2, k, hk, b3⟩
      · rw [hBj k hk] at b2
        simp at b2
      · have h1 := (b2 j hj).2
        rw [hBj j hj] at h1
        rw [hBj k hk] at b3
        have h2 := (a2 k hk).2
        simp only at h1 b3
        exact Prod.ext (by rw [b1, hv3]) (by simp only; omega)
      · rw [hBj k hk] at b3
        simp at b3
    · rw [a1] at e1
      simp only at e1
      omega
  · rw [hA.over i hi h0] at hAi
    rw [hB.over i hi h0]
    exact hAi
theorem cons_known (hn : ∀ i, i < N → ∀ j ∈ nxt i, j < N) (hA : Cons N nxt v0 A) (hB : Cons N nxt v0 B) (d : Nat) : ∀ i, i < N → ∀ v, v = 1 ∨ v = 2 → (A i = (v, d) ↔ B i = (v, d)) := by
  induction d using Nat.strongRecOn with
  | ind d ih =>
    intro i hi v hv
    exact ⟨cons_step hn hA hB d ih (fun e he i hi v hv h => (ih e he i hi v hv).2 h) i hi v hv, cons_step hn hB hA d (fun e he i hi v hv => (ih e he i hi v hv).symm) (fun e he i hi v hv h => (ih e he i hi v hv).1 h) i hi v hv⟩
/-- There is only one. -/
theorem cons_one (hn : ∀ i, i < N → ∀ j ∈ nxt i, j < N) (hA : Cons N nxt v0 A) (hB : Cons N nxt v0 B) : ∀ i, i < N → A i = B i := by
  intro i hi
  by_cases h0 : v0 i = 0
  · have key : ∀ {A B : Nat → Nat × Nat}, Cons N nxt v0 A → Cons N nxt v0 B → (A i).1 ≠ 3 → A i = B i := fun {A B} hA hB h2 => by
      have hA1 : (A i).1 = 1 ∨ (A i).1 = 2 := by
        rcases hA.play i hi h0 with ⟨a1, -⟩ | ⟨a1, -⟩ | ⟨a1, -⟩
        · exact .inl a1
        · exact .inr a1
        · exact absurd (by rw [a1]) h2
      exact ((cons_known hn hA hB (A i).2 i hi (A i).1 hA1).1 rfl).symm
    by_cases ha : (A i).1 = 3
    · by_cases hb : (B i).1 = 3
      · rcases hA.play i hi h0 with ⟨a1, -⟩ | ⟨a1, -⟩ | ⟨a1, -⟩
        · omega
        · omega
        · rcases hB.play i hi h0 with ⟨b1, -⟩ | ⟨b1, -⟩ | ⟨b1, -⟩
          · omega
          · omega
          · rw [a1, b1]
      · exact (key hB hA hb).symm
    · exact key hA hB ha
  · rw [hA.over i hi h0, hB.over i hi h0]

/-! One distance behind the other. -/
def rnd (nxt : Nat → List Nat) (A : Nat → Nat × Nat) (d i : Nat) : Nat × Nat := if (A i).1 ≠ 0 then A i else if (nxt i).any (fun j => (A j).1 == 2) then (1, d) else if (nxt i).all (fun j => (A j).1 == 1) then (2, d) else A i
def rds (nxt : Nat → List Nat) (v0 : Nat → Nat) : Nat → Nat → Nat × Nat
  | 0, i => (v0 i, 0)
  | d + 1, i => rnd nxt (rds nxt v0 d) (d + 1) i
theorem rds_keep {d i : Nat} (h : (rds nxt v0 d i).1 ≠ 0) : rds nxt v0 (d + 1) i = rds nxt v0 d i := by
  show rnd nxt (rds nxt v0 d) (d + 1) i = _
  unfold rnd
  rw [if_pos h]
theorem rds_le {d e i : Nat} (hde : d ≤ e) (h : (rds nxt v0 d i).1 ≠ 0) : rds nxt v0 e i = rds nxt v0 d i := by
  induction hde with
  | refl => rfl
  | step _ ih => rw [rds_keep (by rw [ih]; exact h), ih]
theorem rds_zero {d i : Nat} (h : (rds nxt v0 d i).1 = 0) : rds nxt v0 d i = (0, 0) := by
  induction d with
  | zero => exact Prod.ext h rfl
  | succ d ih =>
    by_cases h0 : (rds nxt v0 d i).1 ≠ 0
    · rw [rds_keep h0] at h
      exact absurd h h0
    · have h0' : (rds nxt v0 d i).1 = 0 := by omega
      have hr : rds nxt v0 (d + 1) i = rnd nxt (rds nxt v0 d) (d + 1) i := rfl
      rw [hr] at h ⊢
      unfold rnd at h ⊢
      rw [if_neg h0] at h ⊢
      split at h
      · simp at h
      · rw [if_neg (by assumption)]
        split at h
        · simp at h
        · rw [if_neg (by assumption)]
          exact ih h0'
/-- When it was found. -/
theorem rds_when {d i : Nat} (h0 : v0 i = 0) (h : (rds nxt v0 d i).1 ≠ 0) : ∃ e, e < d ∧ (rds nxt v0 d i).2 = e + 1 ∧ (rds nxt v0 e i).1 = 0 ∧ rds nxt v0 d i = rds nxt v0 (e + 1) i := by
  induction d with
  | zero => exact absurd h0 h
  | succ d ih =>
    by_cases hd : (rds nxt v0 d i).1 ≠ 0
    · obtain ⟨e, h1, h2, h3, h4⟩ := ih hd
      rw [rds_keep hd]
      exact ⟨e, by omega, h2, h3, h4⟩
    · have hd' : (rds nxt v0 d i).1 = 0 := by omega
      refine ⟨d, by omega, ?_, hd', rfl⟩
      have hr : rds nxt v0 (d + 1) i = rnd nxt (rds nxt v0 d) (d + 1) i := rfl
      rw [hr] at h ⊢
      unfold rnd at h ⊢
      rw [if_neg hd] at h ⊢
      split
      · rfl
      · split
        · rfl
        · rename_i h1 h2
          rw [if_neg h1, if_neg h2] at h
          exact absurd hd' h
/-- What is left is even. -/
def finR (A : Nat → Nat × Nat) (i : Nat) : Nat × Nat := if (A i).1 = 0 then (3, 0) else A i
theorem rds_dist {d i : Nat} (h : (rds nxt v0 d i).1 ≠ 0) : (rds nxt v0 d i).2 ≤ d := by
  by_cases h0 : v0 i = 0
  · obtain ⟨e, h1, h2, -⟩ := rds_when h0 h
    omega
  · have : rds nxt v0 d i = rds nxt v0 0 i := rds_le (Nat.zero_le _) h0
    rw [this]
    exact Nat.zero_le _
/-- What is known at a distance is known then. -/
theorem rds_at {d i : Nat} (h : (rds nxt v0 d i).1 ≠ 0) : rds nxt v0 (rds nxt v0 d i).2 i = rds nxt v0 d i := by
  by_cases h0 : v0 i = 0
  · obtain ⟨e, h1, h2, h3, h4⟩ := rds_when h0 h
    rw [h2, ← h4]
  · have : rds nxt v0 d i = rds nxt v0 0 i := rds_le (Nat.zero_le _) h0
    rw [this]
    rfl
theorem rds_cons {D : Nat} (hne : ∀ i, i < N → v0 i = 0 → nxt i ≠ []) (hD : ∀ i, i < N → rds nxt v0 (D + 1) i = rds nxt v0 D i) : Cons N nxt v0 (finR (rds nxt v0 D)) := by
  have fin_of : ∀ {i}, (rds nxt v0 D i).1 ≠ 0 → finR (rds nxt v0 D) i = rds nxt v0 D i := fun {i} h => by unfold finR; rw [if_neg h]
  refine ⟨fun i hi h0 => ?_, fun i hi h0 => ?_⟩
  · have h1 : rds nxt v0 D i = rds nxt v0 0 i := rds_le (Nat.zero_le _) h0
    rw [fin_of (by rw [h1]; exact h0), h1]
    rfl
  · by_cases hk : (rds nxt v0 D i).1 = 0
    · right; right
      have hfin : finR (rds nxt v0 D) i = (3, 0) := by unfold finR; rw [if_pos hk]
      have hs := hD i hi
      have hr : rds nxt v0 (D + 1) i = rnd nxt (rds nxt v0 D) (D + 1) i := rfl
      rw [hr] at hs
      unfold rnd at hs
      rw [if_neg (by omega)] at hs
      refine ⟨hfin, fun j hj h3 => ?_, ?_⟩
      · have hj3 : (rds nxt v0 D j).1 = 2 := by
          unfold finR at h3
          split at h3
          · simp at h3
          · exact h3
        rw [if_pos (List.any_eq_true.2 ⟨j, hj, by simp [hj3]⟩)] at hs
        rw [← hs] at hk
        simp at hk
      · have hnany : ¬ (nxt i).any (fun j => (rds nxt v0 D j).1 == 2) = true := fun h => by
          rw [if_pos h] at hs
          rw [← hs] at hk
          simp at hk
        rw [if_neg hnany] at hs
        have hnall : ¬ (nxt i).all (fun j => (rds nxt v0 D j).1 == 1) = true := fun h => by
          rw [if_pos h] at hs
          rw [← hs] at hk
          simp at hk
        have : ∃ j ∈ nxt i, (rds nxt v0 D j).1 ≠ 1 := Classical.byContradiction fun hno => hnall (List.all_eq_true.2 (fun j hj => by
          have : (rds nxt v0 D j).1 = 1 := Classical.byContradiction fun h => hno ⟨j, hj, h⟩
          simp [this]))
        obtain ⟨j, hj, h1⟩ := this
        refine ⟨j, hj, ?_⟩
        unfold finR
        split
        · simp
        · exact h1
    · obtain ⟨e, he, hd, hz, heq⟩ := rds_when h0 hk
      have hfi := fin_of hk
      have hr : rds nxt v0 (e + 1) i = rnd nxt (rds nxt v0 e) (e + 1) i := rfl
      rw [heq, hr] at hfi
      unfold rnd at hfi
      rw [if_neg (by omega)] at hfi
      split at hfi
      · rename_i hany
        left
        obtain ⟨j, hj, hj3⟩ := List.any_eq_true.1 hany
        have hj3' : (rds nxt v0 e j).1 = 2 := by simpa using hj3
        have hjD : rds nxt v0 D j = rds nxt v0 e j := rds_le (by omega) (by omega)
        have hfj : finR (rds nxt v0 D) j = rds nxt v0 e j := by rw [fin_of (by rw [hjD]; omega), hjD]
        have low : ∀ k ∈ nxt i, (finR (rds nxt v0 D) k).1 = 2 → e ≤ (finR (rds nxt v0 D) k).2 := fun k hk' h3 => by
          have hk3 : (rds nxt v0 D k).1 = 2 := by
            unfold finR at h3
            split at h3
            · simp at h3
            · exact h3
          rw [fin_of (by omega)]
          apply Classical.byContradiction
          intro hlt
          have hat := rds_at (nxt := nxt) (v0 := v0) (d := D) (i := k) (by omega)
          obtain ⟨c, hc⟩ : ∃ c, c = (rds nxt v0 D k).2 := ⟨_, rfl⟩
          rw [← hc] at hat hlt
          have hup : (rds nxt v0 (c + 1) i).1 ≠ 0 := by
            by_cases hz2 : (rds nxt v0 c i).1 ≠ 0
            · rw [rds_keep hz2]; exact hz2
            · show (rnd nxt (rds nxt v0 c) (c + 1) i).1 ≠ 0
              unfold rnd
              rw [if_neg hz2, if_pos (List.any_eq_true.2 ⟨k, hk', by rw [hat]; simp [hk3]⟩)]
              simp
          have := rds_le (show c + 1 ≤ e by omega) hup
          rw [this] at hz
          exact hup hz
        have hje : (rds nxt v0 e j).2 = e := by
          have h1 := rds_dist (nxt := nxt) (v0 := v0) (d := e) (i := j) (by omega)
          have h2 := low j hj (by rw [hfj]; exact hj3')
          rw [hfj] at h2
          omega
        refine ⟨by rw [hfi], ⟨j, hj, by rw [hfj]; exact hj3', by rw [hfi, hfj, hje]⟩, fun k hk' h3 => ?_⟩
        have := low k hk' h3
        rw [hfi]
        simp only
        omega
      · split at hfi
        · rename_i hnany hall
          right; left
          have hw : ∀ k ∈ nxt i, (rds nxt v0 e k).1 = 1 ∧ finR (rds nxt v0 D) k = rds nxt v0 e k := fun k hk' => by
            have h1 : (rds nxt v0 e k).1 = 1 := by simpa using List.all_eq_true.1 hall k hk'
            have hjD : rds nxt v0 D k = rds nxt v0 e k := rds_le (by omega) (by omega)
            exact ⟨h1, by rw [fin_of (by rw [hjD]; omega), hjD]⟩
          refine ⟨by rw [hfi], fun k hk' => ?_, ?_⟩
          · obtain ⟨h1, h2⟩ := hw k hk'
            have h3 := rds_dist (nxt := nxt) (v0 := v0) (d := e) (i := k) (by omega)
            rw [h2, hfi]
            exact ⟨h1, by simp only; omega⟩
          · apply Classical.byContradiction
            intro hno
            have hlt : ∀ k ∈ nxt i, (rds nxt v0 e k).2 < e := fun k hk' => by
              obtain ⟨h1, h2⟩ := hw k hk'
              have h3 := rds_dist (nxt := nxt) (v0 := v0) (d := e) (i := k) (by omega)
              rcases Nat.lt_or_ge (rds nxt v0 e k).2 e with h4 | h4
              · exact h4
              · exact absurd ⟨k, hk', by rw [hfi, h2]; simp only; omega⟩ hno
            obtain ⟨c, rfl⟩ : ∃ c, e = c + 1 := by
              obtain ⟨k, hk'⟩ := List.exists_mem_of_ne_nil _ (hne i hi h0)
              have := hlt k hk'
              exact ⟨e - 1, by omega⟩
            have hup : (rds nxt v0 (c + 1) i).1 ≠ 0 := by
              by_cases hz2 : (rds nxt v0 c i).1 ≠ 0
              · rw [rds_keep hz2]; exact hz2
              · show (rnd nxt (rds nxt v0 c) (c + 1) i).1 ≠ 0
                unfold rnd
                rw [if_neg hz2]
                split
                · simp
                · rw [if_pos (List.all_eq_true.2 (fun k hk' => by
                    have h1 := (hw k hk').1
                    have h2 := hlt k hk'
                    have hat := rds_at (nxt := nxt) (v0 := v0) (d := c + 1) (i := k) (by omega)
                    have hc : rds nxt v0 c k = rds nxt v0 (c + 1) k := by
                      rw [← hat]
                      exact rds_le (by omega) (by rw [hat]; omega)
                    rw [hc]
                    simp [h1]))]
                  simp
            exact hup hz
        · rename_i h1 h2
          have : finR (rds nxt v0 D) i = rds nxt v0 e i := hfi
          rw [fin_of hk] at this
          rw [this] at hk
          exact absurd hz hk
end
end Go.Proofs.YtbijadnekoeofaaGreatDoor
