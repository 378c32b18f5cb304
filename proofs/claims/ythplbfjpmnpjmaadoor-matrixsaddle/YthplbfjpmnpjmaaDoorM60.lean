/-
  determinants by lists of rows and of columns: which way they are laid out, exchanged, the same twice.
-/
namespace Go.Proofs.YthplbfjpmnpjmaaDoor.Lp
/-- The signed sum over all places of a list: what stands there, and the others. -/
def E {α : Type} (g : α → List α → Rat) : List α → Rat
  | [] => 0
  | c :: C => g c C - E (fun d D => g d (c :: D)) C
theorem E_add {α : Type} (C : List α) : ∀ (g h : α → List α → Rat), E (fun c D => g c D + h c D) C = E g C + E h C := by
  induction C with
  | nil => intro g h; simp only [E]; grind
  | cons c C ih => intro g h; simp only [E]; rw [ih]; grind
theorem E_mul {α : Type} (x : Rat) (C : List α) : ∀ (g : α → List α → Rat), E (fun c D => x * g c D) C = x * E g C := by
  induction C with
  | nil => intro g; simp [E]
  | cons c C ih => intro g; simp only [E]; rw [ih]; grind
theorem E_zero {α : Type} (C : List α) : E (fun _ _ => 0) C = 0 := by
  induction C with
  | nil => rfl
  | cons c C ih => simp only [E, ih]; grind
theorem E_sub {α : Type} (C : List α) (g h : α → List α → Rat) : E (fun c D => g c D - h c D) C = E g C - E h C := by
  have := E_add C g (fun c D => (-1) * h c D)
  rw [E_mul] at this
  have e : (fun c D => g c D - h c D) = (fun c D => g c D + (-1) * h c D) := by funext c D; grind
  rw [e, this]; grind
/-- The order of two such sums does not matter. -/
theorem E_swap {α β : Type} (C : List α) : ∀ (R : List β) (h : α → List α → β → List β → Rat), E (fun c D => E (fun r S => h c D r S) R) C = E (fun r S => E (fun c D => h c D r S) C) R := by
  induction C with
  | nil => intro R h; simp only [E]; exact (E_zero R).symm
  | cons c C ih => intro R h; simp only [E]; rw [ih, E_sub]
/-- Two places are taken out of one list. -/
theorem E_twice {α : Type} (C : List α) : ∀ (h : α → α → List α → Rat), E (fun c D => E (fun d D' => h c d D') D) C = - E (fun c D => E (fun d D' => h d c D') D) C := by
  induction C with
  | nil => intro h; simp [E]
  | cons c C ih =>
    intro h
    simp only [E]
    rw [E_sub, E_sub, ih (fun x y D' => h x y (c :: D'))]
    grind
variable {ρ γ : Type}
/-- The determinant of these rows and columns (0 where there are more of one than of the other). -/
def mn (a : ρ → γ → Rat) : List ρ → List γ → Rat
  | [], [] => 1
  | [], _ :: _ => 0
  | r :: R, C => E (fun c D => a r c * mn a R D) C
theorem mn_cons (a : ρ → γ → Rat) (r : ρ) (R : List ρ) (C : List γ) : mn a (r :: R) C = E (fun c D => a r c * mn a R D) C := by cases C <;> rfl
theorem mn_col (a : ρ → γ → Rat) (c : γ) : ∀ (R : List ρ) (C : List γ), mn a R (c :: C) = E (fun r S => a r c * mn a S C) R := by
  intro R
  induction R with
  | nil => intro C; rfl
  | cons r R ih =>
    intro C
    rw [mn_cons]
    simp only [E]
    have e1 : (fun d D => a r d * mn a R (c :: D)) = (fun d D => E (fun s S => a r d * (a s c * mn a S D)) R) := by
      funext d D; rw [ih, E_mul]
    have e2 : (fun s S => a s c * mn a (r :: S) C) = (fun s S => E (fun d D => a r d * (a s c * mn a S D)) C) := by
      funext s S
      rw [mn_cons, ← E_mul]
      congr 1; funext d D; grind
    rw [e1, e2, E_swap]
theorem mn_swap (a : ρ → γ → Rat) (r s : ρ) (R : List ρ) (C : List γ) : mn a (r :: s :: R) C = - mn a (s :: r :: R) C := by
  rw [mn_cons, mn_cons]
  have e (r s : ρ) : (fun c D => a r c * mn a (s :: R) D) = (fun c D => E (fun d D' => a r c * (a s d * mn a R D')) D) := by
    funext c D; rw [mn_cons, E_mul]
  rw [e, e, E_twice]
  congr 2; funext c D; congr 1; funext d D'; grind
theorem mn_swapC (a : ρ → γ → Rat) (c d : γ) (R : List ρ) (C : List γ) : mn a R (c :: d :: C) = - mn a R (d :: c :: C) := by
  rw [mn_col, mn_col]
  have e (c d : γ) : (fun r S => a r c * mn a S (d :: C)) = (fun r S => E (fun s S' => a r c * (a s d * mn a S' C)) S) := by
    funext r S; rw [mn_col, E_mul]
  rw [e, e, E_twice]
  congr 2; funext r S; congr 1; funext s S'; grind
theorem sg_mul {s t : Rat} (hs : s = 1 ∨ s = -1) (ht : t = 1 ∨ t = -1) : s * t = 1 ∨ s * t = -1 := by grind
/-- With other rows ahead: what holds up to a sign for all columns holds below one more row. -/
theorem mn_permR {a : ρ → γ → Rat} {R S : List ρ} (h : R.Perm S) : ∃ s : Rat, (s = 1 ∨ s = -1) ∧ ∀ C, mn a R C = s * mn a S C := by
  induction h with
  | nil => exact ⟨1, .inl rfl, fun C => by grind⟩
  | cons x _ ih =>
    obtain ⟨s, hs, h⟩ := ih
    refine ⟨s, hs, fun C => ?_⟩
    rw [mn_cons, mn_cons, ← E_mul]
    congr 1; funext c D; rw [h]; grind
  | swap x y l => exact ⟨-1, .inr rfl, fun C => by rw [mn_swap]; grind⟩
  | trans _ _ i j =>
    obtain ⟨s, hs, h⟩ := i
    obtain ⟨t, ht, k⟩ := j
    exact ⟨s * t, sg_mul hs ht, fun C => by rw [h, k]; grind⟩
theorem mn_permC {a : ρ → γ → Rat} {C D : List γ} (h : C.Perm D) : ∃ s : Rat, (s = 1 ∨ s = -1) ∧ ∀ R, mn a R C = s * mn a R D := by
  induction h with
  | nil => exact ⟨1, .inl rfl, fun C => by grind⟩
  | cons x _ ih =>
    obtain ⟨s, hs, h⟩ := ih
    refine ⟨s, hs, fun R => ?_⟩
    rw [mn_col, mn_col, ← E_mul]
    congr 1; funext c D; rw [h]; grind
  | swap x y l => exact ⟨-1, .inr rfl, fun R => by rw [mn_swapC]; grind⟩
  | trans _ _ i j =>
    obtain ⟨s, hs, h⟩ := i
    obtain ⟨t, ht, k⟩ := j
    exact ⟨s * t, sg_mul hs ht, fun C => by rw [h, k]; grind⟩
theorem mn_same (a : ρ → γ → Rat) (r : ρ) (R : List ρ) (C : List γ) (h : r ∈ R) : mn a (r :: R) C = 0 := by
  obtain ⟨s, t, rfl⟩ := List.append_of_mem h
  have hp : (r :: (s ++ r :: t)).Perm (r :: r :: (s ++ t)) := List.Perm.cons r (List.perm_middle)
  obtain ⟨x, -, e⟩ := mn_permR (a := a) hp
  rw [e]
  have := mn_swap a r r (s ++ t) C
  have : mn a (r :: r :: (s ++ t)) C = 0 := by grind
  rw [this]; grind
theorem mn_sameC (a : ρ → γ → Rat) (c : γ) (R : List ρ) (C : List γ) (h : c ∈ C) : mn a R (c :: C) = 0 := by
  obtain ⟨s, t, rfl⟩ := List.append_of_mem h
  have hp : (c :: (s ++ c :: t)).Perm (c :: c :: (s ++ t)) := List.Perm.cons c (List.perm_middle)
  obtain ⟨x, -, e⟩ := mn_permC (a := a) hp
  rw [e]
  have := mn_swapC a c c R (s ++ t)
  have : mn a R (c :: c :: (s ++ t)) = 0 := by grind
  rw [this]; grind
theorem E_congr {α : Type} (C : List α) : ∀ (g h : α → List α → Rat), (∀ c ∈ C, ∀ D, (∀ d ∈ D, d ∈ C) → g c D = h c D) → E g C = E h C := by
  induction C with
  | nil => intro g h _; rfl
  | cons c C ih =>
    intro g h H
    simp only [E]
    rw [H c List.mem_cons_self C (fun d hd => List.mem_cons_of_mem _ hd), ih _ (fun d D => h d (c :: D)) fun d hd D hD => H d (List.mem_cons_of_mem _ hd) _ fun e he => by
      rcases List.mem_cons.1 he with rfl | he
      · exact List.mem_cons_self
      · exact List.mem_cons_of_mem _ (hD e he)]
theorem mn_congr (a b : ρ → γ → Rat) : ∀ (R : List ρ) (C : List γ), (∀ r ∈ R, ∀ c ∈ C, a r c = b r c) → mn a R C = mn b R C := by
  intro R
  induction R with
  | nil => intro C _; cases C <;> rfl
  | cons r R ih =>
    intro C h
    rw [mn_cons, mn_cons]
    refine E_congr C _ _ fun c hc D hD => ?_
    rw [h r List.mem_cons_self c hc, ih D fun s hs d hd => h s (List.mem_cons_of_mem _ hs) d (hD d hd)]
theorem mn_map {σ : Type} (a : ρ → γ → Rat) (f : σ → ρ) : ∀ (L : List σ) (C : List γ), mn a (L.map f) C = mn (fun s c => a (f s) c) L C := by
  intro L
  induction L with
  | nil => intro C; cases C <;> rfl
  | cons s L ih => intro C; rw [List.map_cons, mn_cons, mn_cons]; congr 1; funext c D; rw [ih]
theorem mn_tr (a : ρ → γ → Rat) : ∀ (C : List γ) (R : List ρ), mn (fun c r => a r c) C R = mn a R C := by
  intro C
  induction C with
  | nil => intro R; cases R <;> rfl
  | cons c C ih => intro R; rw [mn_cons, mn_col]; congr 1; funext r S; rw [ih]
/-- A diagonal. -/
theorem mn_diag (s : Nat → Rat) (hs : ∀ i, s i ≠ 0) : ∀ (L : List Nat), L.Nodup → mn (fun a c => if a = c then s a else 0) L L ≠ 0 := by
  intro L
  induction L with
  | nil => intro _; simp [mn]
  | cons x L ih =>
    intro h
    rw [List.nodup_cons] at h
    rw [mn_cons]
    simp only [E]
    rw [E_congr L _ (fun _ _ => 0) (fun c hc D _ => by
      have : ¬ x = c := fun e => h.1 (by rw [e]; exact hc)
      rw [if_neg this]; grind), E_zero]
    simp only [if_true]
    have h1 := ih h.2
    have h2 := hs x
    intro e
    have : s x * mn (fun a c => if a = c then s a else 0) L L = 0 := by grind
    exact (Rat.mul_eq_zero.1 this).elim h2 h1
end Go.Proofs.YthplbfjpmnpjmaaDoor.Lp
