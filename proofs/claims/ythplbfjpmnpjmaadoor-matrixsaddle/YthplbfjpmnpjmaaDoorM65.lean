/-
  cofactors, row by row: the one mix that makes all columns worth the same.
-/
import Derived.Test.YthplbfjpmnpjmaaDoorM64
namespace Go.Proofs.YthplbfjpmnpjmaaDoor.Lp
/-- Sums over a list. -/
def ls {α : Type} (L : List α) (f : α → Rat) : Rat := L.foldr (fun x s => f x + s) 0
theorem ls_cons {α : Type} (x : α) (L : List α) (f : α → Rat) : ls (x :: L) f = f x + ls L f := rfl
theorem ls_congr {α : Type} {L : List α} {f g : α → Rat} (h : ∀ x ∈ L, f x = g x) : ls L f = ls L g := by
  induction L with
  | nil => rfl
  | cons x L ih => rw [ls_cons, ls_cons, h x List.mem_cons_self, ih fun y hy => h y (List.mem_cons_of_mem _ hy)]
theorem ls_add {α : Type} (L : List α) (f g : α → Rat) : ls L (fun x => f x + g x) = ls L f + ls L g := by
  induction L with
  | nil => simp only [ls, List.foldr_nil]; grind
  | cons x L ih => simp only [ls_cons]; rw [ih]; grind
theorem ls_mul {α : Type} (L : List α) (k : Rat) (f : α → Rat) : ls L (fun x => k * f x) = k * ls L f := by
  induction L with
  | nil => simp only [ls, List.foldr_nil]; grind
  | cons x L ih => simp only [ls_cons]; rw [ih]; grind
theorem ls_zero {α : Type} (L : List α) : ls L (fun _ => 0) = 0 := by
  induction L with
  | nil => rfl
  | cons x L ih => rw [ls_cons, ih]; grind
theorem E_ls {α β : Type} (L : List β) (f : β → α → List α → Rat) (C : List α) : E (fun c D => ls L (fun a => f a c D)) C = ls L (fun a => E (f a) C) := by
  induction L with
  | nil => exact E_zero C
  | cons x L ih => simp only [ls_cons]; rw [E_add, ih]
/-- What E gives each place. -/
def co {α : Type} [DecidableEq α] (f : List α → Rat) (C : List α) (i : α) : Rat := E (fun c D => (if c = i then 1 else 0) * f D) C
theorem ls_one {α : Type} [DecidableEq α] (L : List α) (hL : L.Nodup) (x : α) (hx : x ∈ L) (f : α → Rat) : ls L (fun i => (if x = i then 1 else 0) * f i) = f x := by
  induction L with
  | nil => cases hx
  | cons y L ih =>
    rw [List.nodup_cons] at hL
    rw [ls_cons]
    by_cases h : x = y
    · subst h
      rw [ls_congr (g := fun _ => 0) fun i hi => by
        have : ¬ x = i := fun e => hL.1 (by rw [e]; exact hi)
        rw [if_neg this]; grind, ls_zero]
      simp only [if_true]; grind
    · rw [ih hL.2 ((List.mem_cons.1 hx).resolve_left h), if_neg h]; grind
theorem co_sum {α : Type} [DecidableEq α] (f : List α → Rat) (C : List α) (hC : C.Nodup) (w : α → Rat) : ls C (fun i => w i * co f C i) = E (fun c D => w c * f D) C := by
  have e : ∀ i, w i * co f C i = E (fun c D => w i * ((if c = i then 1 else 0) * f D)) C := fun i => by unfold co; rw [E_mul]
  rw [ls_congr fun i _ => e i, ← E_ls C (fun i c D => w i * ((if c = i then 1 else 0) * f D))]
  refine E_congr C _ _ fun c hc D _ => ?_
  have e2 : ls C (fun i => w i * ((if c = i then 1 else 0) * f D)) = ls C (fun i => (if c = i then 1 else 0) * (w i * f D)) := ls_congr fun i _ => by grind
  rw [e2, ls_one C hC c hc (fun i => w i * f D)]
section
variable {ρ γ : Type}
theorem mn_fill (a : ρ → γ → Rat) (R : List ρ) (j : γ) : ∀ (C : List γ) (P : List γ), j ∈ C → E (fun _ D => mn a R (P ++ j :: D)) C = mn a R (P ++ C) := by
  have same : ∀ (P Q : List γ), j ∈ Q → mn a R (P ++ j :: Q) = 0 := fun P Q h => by
    have hp : (P ++ j :: Q).Perm (j :: (P ++ Q)) := List.perm_middle
    obtain ⟨s, -, e⟩ := mn_permC (a := a) hp
    rw [e, mn_sameC a j R _ (List.mem_append_right _ h)]; grind
  intro C
  induction C with
  | nil => intro P h; cases h
  | cons c C ih =>
    intro P h
    simp only [E]
    by_cases hj : j ∈ C
    · have sw : ∀ D, mn a R (P ++ j :: c :: D) = - mn a R ((P ++ [c]) ++ j :: D) := by
        intro D
        suffices hs : ∀ (P : List γ) (R : List ρ) , mn a R (P ++ j :: c :: D) = - mn a R (P ++ c :: j :: D) by rw [hs]; simp
        intro P
        induction P with
        | nil => intro R; exact mn_swapC a j c R D
        | cons p P ihp =>
          intro R
          rw [List.cons_append, List.cons_append, mn_col, mn_col]
          have : (fun r S => a r p * mn a S (P ++ j :: c :: D)) = (fun r S => (-1) * (a r p * mn a S (P ++ c :: j :: D))) := by funext r S; rw [ihp]; grind
          rw [this, E_mul]; grind
      have e : (fun (_ : γ) D => mn a R (P ++ j :: c :: D)) = (fun _ D => (-1) * mn a R ((P ++ [c]) ++ j :: D)) := by funext _ D; rw [sw]; grind
      rw [same P C hj, e, E_mul, ih (P ++ [c]) hj]
      simp; grind
    · have hjc : j = c := (List.mem_cons.1 h).resolve_right hj
      subst hjc
      have e : E (fun (_ : γ) D => mn a R (P ++ j :: j :: D)) C = 0 := by
        rw [E_congr C _ (fun _ _ => 0) fun d _ D _ => same P (j :: D) List.mem_cons_self, E_zero]
      rw [e]; grind
/-- All cofactors together, and those of a row. -/
def tot (a : ρ → γ → Rat) (R : List ρ) (C : List γ) : Rat := E (fun _ S => E (fun _ D => mn a S D) C) R
def rw_ [DecidableEq ρ] (a : ρ → γ → Rat) (R : List ρ) (C : List γ) (i : ρ) : Rat := co (fun S => E (fun _ D => mn a S D) C) R i
theorem tot_tr (a : ρ → γ → Rat) (R : List ρ) (C : List γ) : tot (fun c r => a r c) C R = tot a R C := by
  unfold tot
  rw [E_swap]
  congr 1; funext r S; congr 1; funext c D
  exact mn_tr a D S
theorem row_sum [DecidableEq ρ] (a : ρ → γ → Rat) (R : List ρ) (hR : R.Nodup) (C : List γ) : ls R (rw_ a R C) = tot a R C := by
  have := co_sum (fun S => E (fun _ D => mn a S D) C) R hR (fun _ => 1)
  unfold tot
  have e : ls R (rw_ a R C) = ls R (fun i => 1 * co (fun S => E (fun _ D => mn a S D) C) R i) := ls_congr fun i _ => by unfold rw_; grind
  rw [e, this]
  congr 1; funext r S; grind
theorem row_col [DecidableEq ρ] (a : ρ → γ → Rat) (R : List ρ) (hR : R.Nodup) (C : List γ) (j : γ) (hj : j ∈ C) : ls R (fun i => a i j * rw_ a R C i) = mn a R C := by
  unfold rw_
  rw [co_sum (fun S => E (fun _ D => mn a S D) C) R hR (fun i => a i j)]
  have e : (fun (c : ρ) S => a c j * E (fun _ D => mn a S D) C) = (fun c S => E (fun _ D => a c j * mn a S D) C) := by funext c S; rw [E_mul]
  rw [e, E_swap]
  have e2 : (fun (_ : γ) D => E (fun r S => a r j * mn a S D) R) = (fun _ D => mn a R ([] ++ j :: D)) := by funext _ D; rw [List.nil_append, mn_col]
  rw [e2, mn_fill a R j C [] hj, List.nil_append]
/-- Only one mix of rows makes all columns worth the same. -/
theorem row_one [DecidableEq ρ] (a : ρ → γ → Rat) (R : List ρ) (hR : R.Nodup) (C : List γ) (ht : tot a R C ≠ 0) (w : ρ → Rat) (v : Rat) (hw : ls R w = 0) (hc : ∀ j ∈ C, ls R (fun i => a i j * w i) = v) : ∀ i ∈ R, w i = 0 := by
  intro i hi
  -- the matrix with a border of ones
  obtain ⟨b, hb⟩ : ∃ b : Option ρ → Option γ → Rat, b = fun r c => match r, c with
    | some r, some c => a r c
    | some _, none => 1
    | none, some _ => 1
    | none, none => 0 := ⟨_, rfl⟩
  have hbs : ∀ (S : List ρ) (D : List γ), mn b (S.map some) (D.map some) = mn a S D := by
    intro S D
    rw [mn_map b some S, ← mn_tr (fun s c => b (some s) c) (D.map some) S, mn_map _ some D, mn_tr (fun s c => b (some s) (some c)) D S]
    rw [hb]
  have hE : ∀ {α : Type} (g : Option α → List (Option α) → Rat) (L : List α), E g (L.map some) = E (fun c D => g (some c) (D.map some)) L := by
    intro α g L
    induction L generalizing g with
    | nil => rfl
    | cons c L ih => simp only [List.map_cons, E]; rw [ih]
  have hbt : mn b (none :: R.map some) (none :: C.map some) = - tot a R C := by
    rw [mn_cons]
    simp only [E]
    rw [hE]
    have e0 : b none none = 0 := by rw [hb]
    have e1 : (fun (c : γ) (D : List γ) => b none (some c) * mn b (R.map some) (none :: D.map some)) = (fun _ D => E (fun _ S => mn a S D) R) := by
      funext c D
      rw [mn_col, hE]
      have : b none (some c) = 1 := by rw [hb]
      rw [this]
      have e2 : (fun (c : ρ) (S : List ρ) => b (some c) none * mn b (S.map some) (D.map some)) = (fun _ S => mn a S D) := by
        funext r S; rw [hbs]; have : b (some r) none = 1 := by rw [hb]
        rw [this]; grind
      rw [e2]; grind
    rw [e0, e1, E_swap]; unfold tot; grind
  have hne : mn b (none :: R.map some) (none :: C.map some) ≠ 0 := by rw [hbt]; grind
  obtain ⟨O, hO⟩ : ∃ O, O = R.erase i := ⟨_, rfl⟩
  have hp : (none :: R.map some).Perm (some i :: none :: O.map some) := by
    have h1 : (R.map some).Perm (some i :: O.map some) := by rw [hO]; exact (List.perm_cons_erase hi).map some
    exact (h1.cons none).trans (List.Perm.swap _ _ _)
  obtain ⟨s, hs, es⟩ := mn_permR (a := b) hp
  rw [es] at hne
  have hzero : ls R (fun r => w r * mn b (some r :: none :: O.map some) (none :: C.map some)) + (- v) * mn b (none :: none :: O.map some) (none :: C.map some) = 0 := by
    have e1 : ∀ r, w r * mn b (some r :: none :: O.map some) (none :: C.map some) = E (fun c D => w r * (b (some r) c * mn b (none :: O.map some) D)) (none :: C.map some) := fun r => by rw [mn_cons, E_mul]
    rw [ls_congr fun r _ => e1 r, ← E_ls R (fun r c D => w r * (b (some r) c * mn b (none :: O.map some) D)), mn_cons b none, ← E_mul, ← E_add]
    rw [E_congr _ _ (fun _ _ => 0) fun c hc' D _ => ?_, E_zero]
    have e2 : ls R (fun r => w r * (b (some r) c * mn b (none :: O.map some) D)) = ls R (fun r => b (some r) c * w r) * mn b (none :: O.map some) D := by
      have := ls_mul R (mn b (none :: O.map some) D) (fun r => b (some r) c * w r)
      rw [Rat.mul_comm, ← this]
      exact ls_congr fun r _ => by grind
    rw [e2]
    rcases List.mem_cons.1 hc' with rfl | hc'
    · have e3 : ls R (fun r => b (some r) none * w r) = ls R w := ls_congr fun r _ => by rw [hb]; dsimp only; grind
      have e4 : b none none = 0 := by rw [hb]
      rw [e3, hw, e4]; grind
    · obtain ⟨j, hj, rfl⟩ := List.mem_map.1 hc'
      have e3 : ls R (fun r => b (some r) (some j) * w r) = v := by rw [← hc j hj]; exact ls_congr fun r _ => by rw [hb]
      have e4 : b none (some j) = 1 := by rw [hb]
      rw [e3, e4]; grind
  have hn0 : mn b (none :: none :: O.map some) (none :: C.map some) = 0 := mn_same b none _ _ List.mem_cons_self
  have hr : ls R (fun r => w r * mn b (some r :: none :: O.map some) (none :: C.map some)) = ls R (fun r => (if i = r then 1 else 0) * (w r * mn b (some r :: none :: O.map some) (none :: C.map some))) := ls_congr fun r hr => by
    by_cases h : i = r
    · rw [if_pos h]; grind
    · rw [if_neg h, mn_same b (some r) _ _ (List.mem_cons_of_mem _ (List.mem_map.2 ⟨r, by rw [hO]; exact (List.mem_erase_of_ne (Ne.symm h)).2 hr, rfl⟩))]; grind
  rw [hr, ls_one R hR i hi (fun r => w r * mn b (some r :: none :: O.map some) (none :: C.map some)), hn0] at hzero
  have h5 : w i * mn b (some i :: none :: O.map some) (none :: C.map some) = 0 := by grind
  refine (Rat.mul_eq_zero.1 h5).resolve_right fun e => ?_
  rw [e] at hne; grind
/-- So the mix is the cofactors', all in parts of the total. -/
theorem row_is [DecidableEq ρ] (a : ρ → γ → Rat) (R : List ρ) (hR : R.Nodup) (C : List γ) (ht : tot a R C ≠ 0) (x : ρ → Rat) (v : Rat) (hw : ls R x = 1) (hc : ∀ j ∈ C, ls R (fun i => a i j * x i) = v) : ∀ i ∈ R, rw_ a R C i = tot a R C * x i := by
  intro i hi
  have := row_one a R hR C ht (fun i => rw_ a R C i + (- tot a R C) * x i) (mn a R C + (- tot a R C) * v) (by rw [ls_add, ls_mul, row_sum a R hR, hw]; grind) (fun j hj => by
    have e : ls R (fun i => a i j * (rw_ a R C i + (- tot a R C) * x i)) = ls R (fun i => a i j * rw_ a R C i + (- tot a R C) * (a i j * x i)) := ls_congr fun i _ => by grind
    rw [e, ls_add, ls_mul, row_col a R hR C j hj, hc j hj]) i hi
  grind
end
end Go.Proofs.YthplbfjpmnpjmaaDoor.Lp
