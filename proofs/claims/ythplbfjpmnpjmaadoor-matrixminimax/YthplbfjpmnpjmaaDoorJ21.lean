/-
  sums of fractions, rows and what turns them back, one row changed for another; a greatest one of finitely many.
-/

/-
  determinants by lists of rows and of columns: which way they are laid out, exchanged, the same twice.
-/
namespace Go.Proofs.YthplbfjpmnpjmaaDoor.Lp
/-- The signed sum over all places of a list: what stands there, and the others. -/
def E {α : Type} (g : α → List α → Rat) : List α → Rat
  | [] => 0
  | c :: C => g c C - E (fun d D => g d (c :: D)) C
theorem E_add {α : Type} (C : List α) : ∀ (g h : α → List α → Rat), E (fun c D => g c D + h c D) C = E g C + E h C := by
  induction C with
  | nil => intro g h; simp only [E]; grind
  | cons c C ih => intro g h; simp only [E]; rw [ih]; grind
theorem E_mul {α : Type} (x : Rat) (C : List α) : ∀ (g : α → List α → Rat), E (fun c D => x * g c D) C = x * E g C := by
  induction C with
  | nil => intro g; simp [E]
  | cons c C ih => intro g; simp only [E]; rw [ih]; grind
theorem E_zero {α : Type} (C : List α) : E (fun _ _ => 0) C = 0 := by
  induction C with
  | nil => rfl
  | cons c C ih => simp only [E, ih]; grind
theorem E_sub {α : Type} (C : List α) (g h : α → List α → Rat) : E (fun c D => g c D - h c D) C = E g C - E h C := by
  have := E_add C g (fun c D => (-1) * h c D)
  rw [E_mul] at this
  have e : (fun c D => g c D - h c D) = (fun c D => g c D + (-1) * h c D) := by funext c D; grind
  rw [e, this]; grind
/-- The order of two such sums does not matter. -/
theorem E_swap {α β : Type} (C : List α) : ∀ (R : List β) (h : α → List α → β → List β → Rat), E (fun c D => E (fun r S => h c D r S) R) C = E (fun r S => E (fun c D => h c D r S) C) R := by
  induction C with
  | nil => intro R h; simp only [E]; exact (E_zero R).symm
  | cons c C ih => intro R h; simp only [E]; rw [ih, E_sub]
/-- Two places are taken out of one list. -/
theorem E_twice {α : Type} (C : List α) : ∀ (h : α → α → List α → Rat), E (fun c D => E (fun d D' => h c d D') D) C = - E (fun c D => E (fun d D' => h d c D') D) C := by
  induction C with
  | nil => intro h; simp [E]
  | cons c C ih =>
    intro h
    simp only [E]
    rw [E_sub, E_sub, ih (fun x y D' => h x y (c :: D'))]
    grind
variable {ρ γ : Type}
/-- The determinant of these rows and columns (0 where there are more of one than of the other). -/
def mn (a : ρ → γ → Rat) : List ρ → List γ → Rat
  | [], [] => 1
  | [], _ :: _ => 0
  | r :: R, C => E (fun c D => a r c * mn a R D) C
theorem mn_cons (a : ρ → γ → Rat) (r : ρ) (R : List ρ) (C : List γ) : mn a (r :: R) C = E (fun c D => a r c * mn a R D) C := by cases C <;> rfl
theorem mn_col (a : ρ → γ → Rat) (c : γ) : ∀ (R : List ρ) (C : List γ), mn a R (c :: C) = E (fun r S => a r c * mn a S C) R := by
  intro R
  induction R with
  | nil => intro C; rfl
  | cons r R ih =>
    intro C
    rw [mn_cons]
    simp only [E]
    have e1 : (fun d D => a r d * mn a R (c :: D)) = (fun d D => E (fun s S => a r d * (a s c * mn a S D)) R) := by
      funext d D; rw [ih, E_mul]
    have e2 : (fun s S => a s c * mn a (r :: S) C) = (fun s S => E (fun d D => a r d * (a s c * mn a S D)) C) := by
      funext s S
      rw [mn_cons, ← E_mul]
      congr 1; funext d D; grind
    rw [e1, e2, E_swap]
theorem mn_swap (a : ρ → γ → Rat) (r s : ρ) (R : List ρ) (C : List γ) : mn a (r :: s :: R) C = - mn a (s :: r :: R) C := by
  rw [mn_cons, mn_cons]
  have e (r s : ρ) : (fun c D => a r c * mn a (s :: R) D) = (fun c D => E (fun d D' => a r c * (a s d * mn a R D')) D) := by
    funext c D; rw [mn_cons, E_mul]
  rw [e, e, E_twice]
  congr 2; funext c D; congr 1; funext d D'; grind
theorem mn_swapC (a : ρ → γ → Rat) (c d : γ) (R : List ρ) (C : List γ) : mn a R (c :: d :: C) = - mn a R (d :: c :: C) := by
  rw [mn_col, mn_col]
  have e (c d : γ) : (fun r S => a r c * mn a S (d :: C)) = (fun r S => E (fun s S' => a r c * (a s d * mn a S' C)) S) := by
    funext r S; rw [mn_col, E_mul]
  rw [e, e, E_twice]
  congr 2; funext r S; congr 1; funext s S'; grind
theorem sg_mul {s t : Rat} (hs : s = 1 ∨ s = -1) (ht : t = 1 ∨ t = -1) : s * t = 1 ∨ s * t = -1 := by grind
/-- With other rows ahead: what holds up to a sign for all columns holds below one more row. -/
theorem mn_permR {a : ρ → γ → Rat} {R S : List ρ} (h : R.Perm S) : ∃ s : Rat, (s = 1 ∨ s = -1) ∧ ∀ C, mn a R C = s * mn a S C := by
  induction h with
  | nil => exact ⟨1, .inl rfl, fun C => by grind⟩
  | cons x _ ih =>
    obtain ⟨s, hs, h⟩ := ih
    refine ⟨s, hs, fun C => ?_⟩
    rw [mn_cons, mn_cons, ← E_mul]
    congr 1; funext c D; rw [h]; grind
  | swap x y l => exact ⟨-1, .inr rfl, fun C => by rw [mn_swap]; grind⟩
  | trans _ _ i j =>
    obtain ⟨s, hs, h⟩ := i
    obtain ⟨t, ht, k⟩ := j
    exact ⟨s * t, sg_mul hs ht, fun C => by rw [h, k]; grind⟩
theorem mn_permC {a : ρ → γ → Rat} {C D : List γ} (h : C.Perm D) : ∃ s : Rat, (s = 1 ∨ s = -1) ∧ ∀ R, mn a R C = s * mn a R D := by
  induction h with
  | nil => exact ⟨1, .inl rfl, fun C => by grind⟩
  | cons x _ ih =>
    obtain ⟨s, hs, h⟩ := ih
    refine ⟨s, hs, fun R => ?_⟩
    rw [mn_col, mn_col, ← E_mul]
    congr 1; funext c D; rw [h]; grind
  | swap x y l => exact ⟨-1, .inr rfl, fun R => by rw [mn_swapC]; grind⟩
  | trans _ _ i j =>
    obtain ⟨s, hs, h⟩ := i
    obtain ⟨t, ht, k⟩ := j
    exact ⟨s * t, sg_mul hs ht, fun C => by rw [h, k]; grind⟩
theorem mn_same (a : ρ → γ → Rat) (r : ρ) (R : List ρ) (C : List γ) (h : r ∈ R) : mn a (r :: R) C = 0 := by
  obtain ⟨s, t, rfl⟩ := List.append_of_mem h
  have hp : (r :: (s ++ r :: t)).Perm (r :: r :: (s ++ t)) := List.Perm.cons r (List.perm_middle)
  obtain ⟨x, -, e⟩ := mn_permR (a := a) hp
  rw [e]
  have := mn_swap a r r (s ++ t) C
  have : mn a (r :: r :: (s ++ t)) C = 0 := by grind
  rw [this]; grind
theorem mn_sameC (a : ρ → γ → Rat) (c : γ) (R : List ρ) (C : List γ) (h : c ∈ C) : mn a R (c :: C) = 0 := by
  obtain ⟨s, t, rfl⟩ := List.append_of_mem h
  have hp : (c :: (s ++ c :: t)).Perm (c :: c :: (s ++ t)) := List.Perm.cons c (List.perm_middle)
  obtain ⟨x, -, e⟩ := mn_permC (a := a) hp
  rw [e]
  have := mn_swapC a c c R (s ++ t)
  have : mn a R (c :: c :: (s ++ t)) = 0 := by grind
  rw [this]; grind
theorem E_congr {α : Type} (C : List α) : ∀ (g h : α → List α → Rat), (∀ c ∈ C, ∀ D, (∀ d ∈ D, d ∈ C) → g c D = h c D) → E g C = E h C := by
  induction C with
  | nil => intro g h _; rfl
  | cons c C ih =>
    intro g h H
    simp only [E]
    rw [H c List.mem_cons_self C (fun d hd => List.mem_cons_of_mem _ hd), ih _ (fun d D => h d (c :: D)) fun d hd D hD => H d (List.mem_cons_of_mem _ hd) _ fun e he => by
      rcases List.mem_cons.1 he with rfl | he
      · exact List.mem_cons_self
      · exact List.mem_cons_of_mem _ (hD e he)]
theorem mn_congr (a b : ρ → γ → Rat) : ∀ (R : List ρ) (C : List γ), (∀ r ∈ R, ∀ c ∈ C, a r c = b r c) → mn a R C = mn b R C := by
  intro R
  induction R with
  | nil => intro C _; cases C <;> rfl
  | cons r R ih =>
    intro C h
    rw [mn_cons, mn_cons]
    refine E_congr C _ _ fun c hc D hD => ?_
    rw [h r List.mem_cons_self c hc, ih D fun s hs d hd => h s (List.mem_cons_of_mem _ hs) d (hD d hd)]
theorem mn_map {σ : Type} (a : ρ → γ → Rat) (f : σ → ρ) : ∀ (L : List σ) (C : List γ), mn a (L.map f) C = mn (fun s c => a (f s) c) L C := by
  intro L
  induction L with
  | nil => intro C; cases C <;> rfl
  | cons s L ih => intro C; rw [List.map_cons, mn_cons, mn_cons]; congr 1; funext c D; rw [ih]
theorem mn_tr (a : ρ → γ → Rat) : ∀ (C : List γ) (R : List ρ), mn (fun c r => a r c) C R = mn a R C := by
  intro C
  induction C with
  | nil => intro R; cases R <;> rfl
  | cons c C ih => intro R; rw [mn_cons, mn_col]; congr 1; funext r S; rw [ih]
/-- A diagonal. -/
theorem mn_diag (s : Nat → Rat) (hs : ∀ i, s i ≠ 0) : ∀ (L : List Nat), L.Nodup → mn (fun a c => if a = c then s a else 0) L L ≠ 0 := by
  intro L
  induction L with
  | nil => intro _; simp [mn]
  | cons x L ih =>
    intro h
    rw [List.nodup_cons] at h
    rw [mn_cons]
    simp only [E]
    rw [E_congr L _ (fun _ _ => 0) (fun c hc D _ => by
      have : ¬ x = c := fun e => h.1 (by rw [e]; exact hc)
      rw [if_neg this]; grind), E_zero]
    simp only [if_true]
    have h1 := ih h.2
    have h2 := hs x
    intro e
    have : s x * mn (fun a c => if a = c then s a else 0) L L = 0 := by grind
    exact (Rat.mul_eq_zero.1 this).elim h2 h1
end Go.Proofs.YthplbfjpmnpjmaaDoor.Lp

namespace Go.Proofs.YthplbfjpmnpjmaaDoor.Lp
/-- Sums of fractions. -/
def sm : Nat → (Nat → Rat) → Rat
  | 0, _ => 0
  | n + 1, f => sm n f + f n
theorem sm_congr {n : Nat} {f g : Nat → Rat} (h : ∀ i, i < n → f i = g i) : sm n f = sm n g := by
  induction n with
  | zero => rfl
  | succ n ih => simp only [sm]; rw [ih fun i hi => h i (by omega), h n (by omega)]
theorem sm_add (n : Nat) (f g : Nat → Rat) : sm n (fun i => f i + g i) = sm n f + sm n g := by
  induction n with
  | zero => simp only [sm]; grind
  | succ n ih => simp only [sm]; grind
theorem sm_mul (n : Nat) (x : Rat) (f : Nat → Rat) : sm n (fun i => x * f i) = x * sm n f := by
  induction n with
  | zero => simp only [sm]; grind
  | succ n ih => simp only [sm]; grind
theorem sm_mulr (n : Nat) (x : Rat) (f : Nat → Rat) : sm n (fun i => f i * x) = sm n f * x := by
  induction n with
  | zero => simp only [sm]; grind
  | succ n ih => simp only [sm]; grind
theorem sm_zero (n : Nat) : sm n (fun _ => 0) = 0 := by
  induction n with
  | zero => rfl
  | succ n ih => simp only [sm]; grind
theorem sm_swap (n m : Nat) (f : Nat → Nat → Rat) : sm n (fun i => sm m (fun j => f i j)) = sm m (fun j => sm n (fun i => f i j)) := by
  induction n with
  | zero => simp only [sm]; rw [sm_zero]
  | succ n ih => simp only [sm]; rw [ih, sm_add]
theorem sm_one (n k : Nat) (x : Rat) (h : k < n) : sm n (fun i => if i = k then x else 0) = x := by
  induction n with
  | zero => omega
  | succ n ih =>
    simp only [sm]
    by_cases e : n = k
    · rw [if_pos e]
      have : sm n (fun i => if i = k then x else 0) = sm n (fun _ => 0) := sm_congr fun i hi => if_neg (by omega)
      rw [this, sm_zero]; grind
    · rw [ih (by omega), if_neg e]; grind
theorem sm_pick (n k : Nat) (f : Nat → Rat) (h : k < n) : sm n (fun i => (if i = k then 1 else 0) * f i) = f k := by
  rw [← sm_one n k (f k) h]
  exact sm_congr fun i _ => by by_cases e : i = k <;> simp [e]
theorem sm_pick' (n k : Nat) (f : Nat → Rat) (h : k < n) : sm n (fun i => f i * (if k = i then 1 else 0)) = f k := by
  rw [← sm_one n k (f k) h]
  exact sm_congr fun i _ => by
    by_cases e : i = k
    · simp [e]
    · rw [if_neg e, if_neg (by omega)]; grind
theorem sm_le {n : Nat} {f g : Nat → Rat} (h : ∀ i, i < n → f i ≤ g i) : sm n f ≤ sm n g := by
  induction n with
  | zero => simp only [sm]; grind
  | succ n ih =>
    simp only [sm]
    have := ih fun i hi => h i (by omega)
    have := h n (by omega)
    grind
theorem sm_nonneg {n : Nat} {f : Nat → Rat} (h : ∀ i, i < n → 0 ≤ f i) : 0 ≤ sm n f := by
  have := sm_le (f := fun _ => 0) (g := f) h
  rw [sm_zero] at this; exact this
theorem sm_null {n : Nat} {f : Nat → Rat} (h : ∀ i, i < n → 0 ≤ f i) (h0 : sm n f = 0) : ∀ i, i < n → f i = 0 := by
  induction n with
  | zero => intro i hi; omega
  | succ n ih =>
    simp only [sm] at h0
    have h1 := sm_nonneg (f := f) fun i (hi : i < n) => h i (by omega)
    have h2 := h n (by omega)
    intro i hi
    by_cases e : i = n
    · subst e; grind
    · exact ih (fun i hi => h i (by omega)) (by grind) i (by omega)
theorem sm_first (n : Nat) (f : Nat → Rat) : sm (n + 1) f = f 0 + sm n (fun i => f (i + 1)) := by
  induction n with
  | zero => simp only [sm]; grind
  | succ n ih => rw [sm, ih]; simp only [sm]; grind
theorem sm_append (n m : Nat) (f : Nat → Rat) : sm (n + m) f = sm n f + sm m (fun i => f (n + i)) := by
  induction m with
  | zero => simp only [sm, Nat.add_zero]; grind
  | succ m ih => rw [← Nat.add_assoc, sm, ih]; simp only [sm]; grind
def dot (N : Nat) (u v : Nat → Rat) : Rat := sm N (fun c => u c * v c)
theorem dot_add (N : Nat) (u v w : Nat → Rat) : dot N u (fun c => v c + w c) = dot N u v + dot N u w := by
  unfold dot; rw [← sm_add]; exact sm_congr fun i _ => by grind
theorem dot_mul (N : Nat) (u v : Nat → Rat) (x : Rat) : dot N u (fun c => x * v c) = x * dot N u v := by
  unfold dot; rw [← sm_mul]; exact sm_congr fun i _ => by grind
theorem dot_sm (N M : Nat) (u : Nat → Rat) (f : Nat → Nat → Rat) : dot N u (fun c => sm M (fun a => f a c)) = sm M (fun a => dot N u (f a)) := by
  unfold dot
  rw [← sm_swap]
  exact sm_congr fun c _ => by rw [← sm_mul]
theorem dot_congr {N : Nat} {u u' v v' : Nat → Rat} (h : ∀ c, c < N → u c = u' c) (k : ∀ c, c < N → v c = v' c) : dot N u v = dot N u' v' := sm_congr fun c hc => by rw [h c hc, k c hc]
/-- Rows and what they are turned back by. -/
structure Inv (N : Nat) (r g : Nat → Nat → Rat) : Prop where
  one : ∀ a, a < N → ∀ b, b < N → dot N (r a) (g b) = if a = b then 1 else 0
  two : ∀ c, c < N → ∀ d, d < N → sm N (fun a => g a c * r a d) = if c = d then 1 else 0
  det : mn r (List.range N) (List.range N) ≠ 0
theorem Inv.comb {N : Nat} {r g : Nat → Nat → Rat} (h : Inv N r g) (u : Nat → Rat) (d : Nat) (hd : d < N) : u d = sm N (fun a => dot N u (g a) * r a d) := by
  have : sm N (fun a => dot N u (g a) * r a d) = sm N (fun c => u c * sm N (fun a => g a c * r a d)) := by
    simp only [dot]
    have e : ∀ a, sm N (fun c => u c * g a c) * r a d = sm N (fun c => u c * (g a c * r a d)) := fun a => by rw [← sm_mulr]; exact sm_congr fun c _ => by grind
    rw [sm_congr fun a _ => e a, sm_swap]
    exact sm_congr fun c _ => by rw [← sm_mul]
  rw [this]
  have e2 : sm N (fun c => u c * sm N (fun a => g a c * r a d)) = sm N (fun c => (if c = d then 1 else 0) * u c) := sm_congr fun c hc => by rw [h.two c hc d hd]; grind
  rw [e2, sm_pick N d u hd]
theorem Inv.sol {N : Nat} {r g : Nat → Nat → Rat} (h : Inv N r g) (z : Nat → Rat) (c : Nat) (hc : c < N) : z c = sm N (fun a => dot N (r a) z * g a c) := by
  have : sm N (fun a => dot N (r a) z * g a c) = sm N (fun d => sm N (fun a => g a c * r a d) * z d) := by
    simp only [dot]
    have e : ∀ a, sm N (fun d => r a d * z d) * g a c = sm N (fun d => (g a c * r a d) * z d) := fun a => by rw [← sm_mulr]; exact sm_congr fun c _ => by grind
    rw [sm_congr fun a _ => e a, sm_swap]
    exact sm_congr fun d _ => by rw [← sm_mulr]
  rw [this]
  have e2 : sm N (fun d => sm N (fun a => g a c * r a d) * z d) = sm N (fun d => z d * (if c = d then 1 else 0)) := sm_congr fun d hd => by rw [h.two c hc d hd]; grind
  rw [e2, sm_pick' N c z hc]
/-- One row is changed for another. -/
def rx (r : Nat → Nat → Rat) (p : Nat) (u : Nat → Rat) (a : Nat) : Nat → Rat := if a = p then u else r a
def gx (N : Nat) (g : Nat → Nat → Rat) (p : Nat) (u : Nat → Rat) (b : Nat) : Nat → Rat :=
  if b = p then fun c => (1 / dot N u (g p)) * g p c else fun c => g b c + (-(dot N u (g b)) / dot N u (g p)) * g p c
theorem E_sm {α : Type} (N : Nat) (f : Nat → α → List α → Rat) (C : List α) : E (fun c D => sm N (fun a => f a c D)) C = sm N (fun a => E (f a) C) := by
  induction N with
  | zero => simp only [sm]; exact E_zero C
  | succ N ih => simp only [sm]; rw [E_add, ih]
theorem Inv.det_swap {N : Nat} {r g : Nat → Nat → Rat} (h : Inv N r g) (p : Nat) (hp : p < N) (u : Nat → Rat) (he : dot N u (g p) ≠ 0) : mn (rx r p u) (List.range N) (List.range N) ≠ 0 := by
  have hm : p ∈ List.range N := List.mem_range.2 hp
  have hnd : (List.range N).Nodup := List.nodup_range
  obtain ⟨O, hO⟩ : ∃ O, O = (List.range N).erase p := ⟨_, rfl⟩
  have hpO : p ∉ O := by rw [hO]; exact hnd.not_mem_erase
  have hperm : (List.range N).Perm (p :: O) := by rw [hO]; exact List.perm_cons_erase hm
  obtain ⟨s, hs, es⟩ := mn_permR (a := rx r p u) hperm
  obtain ⟨t, ht, et⟩ := mn_permR (a := r) hperm
  have hdet := h.det
  rw [et] at hdet
  rw [es, mn_cons]
  have e1 : E (fun c D => rx r p u p c * mn (rx r p u) O D) (List.range N) = E (fun c D => sm N (fun a => dot N u (g a) * (r a c * mn r O D))) (List.range N) := by
    refine E_congr _ _ _ fun c hc D _ => ?_
    have e2 : mn (rx r p u) O D = mn r O D := mn_congr _ _ O D fun a ha d _ => by
      have : ¬ a = p := fun e => hpO (by rw [← e]; exact ha)
      unfold rx; rw [if_neg this]
    have e3 : rx r p u p c = u c := by unfold rx; rw [if_pos rfl]
    rw [e2, e3, h.comb u c (List.mem_range.1 hc), ← sm_mulr]
    exact sm_congr fun a _ => by grind
  rw [e1, E_sm N (fun a c D => dot N u (g a) * (r a c * mn r O D))]
  have e4 : sm N (fun a => E (fun c D => dot N u (g a) * (r a c * mn r O D)) (List.range N)) = sm N (fun a => if a = p then dot N u (g p) * mn r (p :: O) (List.range N) else 0) := sm_congr fun a ha => by
    rw [E_mul, ← mn_cons]
    by_cases hap : a = p
    · rw [if_pos hap, hap]
    · rw [if_neg hap, mn_same r a O _ (by rw [hO]; exact (List.mem_erase_of_ne hap).2 (List.mem_range.2 ha))]; grind
  rw [e4, sm_one N p _ hp]
  intro e
  have h0 : s ≠ 0 := by grind
  have h1 := (Rat.mul_eq_zero.1 e).resolve_left h0
  have h2 := (Rat.mul_eq_zero.1 h1).resolve_left he
  rw [h2] at hdet
  grind
theorem Inv.swap {N : Nat} {r g : Nat → Nat → Rat} (h : Inv N r g) (p : Nat) (hp : p < N) (u : Nat → Rat) (he : dot N u (g p) ≠ 0) : Inv N (rx r p u) (gx N g p u) := by
  refine ⟨fun a ha b hb => ?_, fun c hc d hd => ?_, h.det_swap p hp u he⟩
  · unfold rx gx
    by_cases hap : a = p <;> by_cases hbp : b = p
    · subst hap hbp; simp only [if_true]; rw [dot_mul]; grind
    · rw [if_pos hap, if_neg hbp, if_neg (by omega), dot_add, dot_mul]; grind
    · rw [if_neg hap, if_pos hbp, if_neg (by omega), dot_mul, h.one a ha p hp, if_neg hap]; grind
    · rw [if_neg hap, if_neg hbp, dot_add, dot_mul, h.one a ha b hb, h.one a ha p hp, if_neg hap]; grind
  · have e : ∀ a, a < N → gx N g p u a c * rx r p u a d = (g a c * r a d + (-(g p c) / dot N u (g p)) * (dot N u (g a) * r a d)) + (if a = p then g p c * u d / dot N u (g p) else 0) := by
      intro a ha
      unfold rx gx
      by_cases hap : a = p
      · subst hap; simp only [if_true]; grind
      · simp only [if_neg hap]; grind
    rw [sm_congr e, sm_add, sm_add, sm_mul, ← h.comb u d hd, h.two c hc d hd, sm_one N p _ hp]
    grind
/-- A greatest one among finitely many. -/
theorem max_ex {α : Type} (V : α → Rat → Prop) (uq : ∀ x u v, V x u → V x v → u = v) : ∀ (L : List α), (∃ x ∈ L, ∃ v, V x v) → ∃ x ∈ L, ∃ v, V x v ∧ ∀ y ∈ L, ∀ u, V y u → u ≤ v := by
  intro L
  induction L with
  | nil => rintro ⟨x, hx, _⟩; cases hx
  | cons y L ih =>
    rintro ⟨x, hx, v, hv⟩
    by_cases hL : ∃ x ∈ L, ∃ v, V x v
    · obtain ⟨x1, m1, v1, h1, k1⟩ := ih hL
      by_cases hy : ∃ u, V y u ∧ v1 < u
      · obtain ⟨u, hu, lu⟩ := hy
        refine ⟨y, by simp, u, hu, fun y' hy' u' hu' => ?_⟩
        rcases List.mem_cons.1 hy' with rfl | hy'
        · rw [uq _ _ _ hu hu']; grind
        · have := k1 y' hy' u' hu'; grind
      · refine ⟨x1, by simp [m1], v1, h1, fun y' hy' u' hu' => ?_⟩
        rcases List.mem_cons.1 hy' with rfl | hy'
        · by_cases hlt : v1 < u'
          · exact absurd ⟨u', hu', hlt⟩ hy
          · grind
        · exact k1 y' hy' u' hu'
    · rcases List.mem_cons.1 hx with rfl | hx
      · refine ⟨x, by simp, v, hv, fun y' hy' u' hu' => ?_⟩
        rcases List.mem_cons.1 hy' with rfl | hy'
        · rw [uq _ _ _ hv hu']; grind
        · exact absurd ⟨y', hy', u', hu'⟩ hL
      · exact absurd ⟨x, hx, v, hv⟩ hL
/-- All lists of so many numbers below K. -/
def allL (K : Nat) : Nat → List (List Nat)
  | 0 => [[]]
  | n + 1 => (allL K n).flatMap fun x => (List.range K).map fun k => k :: x
theorem mem_allL (K : Nat) : ∀ (n : Nat) (x : List Nat), x ∈ allL K n ↔ x.length = n ∧ ∀ k ∈ x, k < K := by
  intro n
  induction n with
  | zero => intro x; cases x <;> simp [allL]
  | succ n ih =>
    intro x
    simp only [allL, List.mem_flatMap, List.mem_map, List.mem_range]
    constructor
    · rintro ⟨y, hy, k, hk, rfl⟩
      obtain ⟨h1, h2⟩ := (ih y).1 hy
      exact ⟨by simp [h1], fun j hj => (List.mem_cons.1 hj).elim (fun e => e ▸ hk) (h2 j)⟩
    · rintro ⟨h1, h2⟩
      cases x with
      | nil => simp at h1
      | cons k y => exact ⟨y, (ih y).2 ⟨by simpa using h1, fun j hj => h2 j (by simp [hj])⟩, k, h2 k (by simp), rfl⟩
end Go.Proofs.YthplbfjpmnpjmaaDoor.Lp
