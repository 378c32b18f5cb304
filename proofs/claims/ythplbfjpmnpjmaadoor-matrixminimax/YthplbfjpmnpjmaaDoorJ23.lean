/-
  games of one moment as rows; where the search for a best corner begins; von Neumann.
  cofactors, row by row: the one mix that makes all columns worth the same.
-/
import Derived.Test.YthplbfjpmnpjmaaDoorJ22
namespace Go.Proofs.YthplbfjpmnpjmaaDoor.Lp
/-- The rows of a game: its own, each column's 'not below 0', and the sum. -/
def gR (m n : Nat) (A : Nat → Nat → Rat) (k c : Nat) : Rat :=
  if k < m then (if c = 0 then 1 else A k (c - 1)) else if k < m + n then (if c = k - m + 1 then -1 else 0) else (if c = 0 then 0 else 1)
def gO (c : Nat) : Rat := if c = 0 then 1 else 0
def gB (m n k : Nat) : Rat := if k = m + n then 1 else 0
section
variable {m n : Nat} {A : Nat → Nat → Rat}
theorem gR_row (i : Nat) (hi : i < m) (z : Nat → Rat) : dot (n + 1) (gR m n A i) z = z 0 + sm n (fun j => A i j * z (j + 1)) := by
  unfold dot
  rw [sm_first]
  have : gR m n A i 0 = 1 := by simp [gR, hi]
  rw [this]
  congr 1
  · grind
  · exact sm_congr fun j _ => by simp [gR, hi]
theorem gR_col (j : Nat) (hj : j < n) (z : Nat → Rat) : dot (n + 1) (gR m n A (m + j)) z = - z (j + 1) := by
  have e : dot (n + 1) (gR m n A (m + j)) z = sm (n + 1) (fun c => if c = j + 1 then - z (j + 1) else 0) := sm_congr fun c _ => by
    have h1 : ¬ m + j < m := by omega
    have h2 : m + j < m + n := by omega
    have h3 : m + j - m = j := by omega
    unfold gR
    rw [if_neg h1, if_pos h2, h3]
    by_cases h : c = j + 1
    · rw [if_pos h, if_pos h, h]; grind
    · rw [if_neg h, if_neg h]; grind
  rw [e, sm_one (n + 1) (j + 1) _ (by omega)]
theorem gR_sum (z : Nat → Rat) : dot (n + 1) (gR m n A (m + n)) z = sm n (fun j => z (j + 1)) := by
  unfold dot
  rw [sm_first]
  have h1 : ¬ m + n < m := by omega
  have : gR m n A (m + n) 0 = 0 := by simp [gR]
  rw [this]
  have e : sm n (fun i => gR m n A (m + n) (i + 1) * z (i + 1)) = sm n (fun j => z (j + 1)) := sm_congr fun j _ => by
    have : gR m n A (m + n) (j + 1) = 1 := by simp [gR]; omega
    rw [this]; grind
  rw [e]; grind
theorem gO_dot (z : Nat → Rat) : dot (n + 1) gO z = z 0 := by
  have e : dot (n + 1) gO z = sm (n + 1) (fun c => (if c = 0 then 1 else 0) * z c) := rfl
  rw [e, sm_pick (n + 1) 0 z (by omega)]
theorem g_bounded (hm : 1 ≤ m) (δ : Nat → Rat) (h0 : dot (n + 1) (gR m n A (m + n)) δ = 0) (hp : 0 < dot (n + 1) gO δ) : ∃ k, k < m + n ∧ 0 < dot (n + 1) (gR m n A k) δ := by
  rw [gR_sum] at h0
  rw [gO_dot] at hp
  by_cases h : ∃ j, j < n ∧ δ (j + 1) < 0
  · obtain ⟨j, hj, hd⟩ := h
    exact ⟨m + j, by omega, by rw [gR_col j hj]; grind⟩
  · have hz := sm_null (fun j hj => by
      by_cases hd : δ (j + 1) < 0
      · exact absurd ⟨j, hj, hd⟩ h
      · grind) h0
    refine ⟨0, by omega, ?_⟩
    rw [gR_row 0 (by omega), sm_congr (g := fun _ => 0) fun j hj => by rw [hz j hj]; grind, sm_zero]; grind
/-- Where it begins: the first column alone. -/
def x0 (m n i : Nat) : List Nat := i :: (m + n) :: (List.range (n - 1)).map (fun j => m + 1 + j)
theorem x0_at (i a : Nat) (hn : 1 ≤ n) (ha : a < n + 1) : (x0 m n i).getD a 0 = if a = 0 then i else if a = 1 then m + n else m + (a - 1) := by
  unfold x0
  match a, ha with
  | 0, _ => rfl
  | 1, _ => rfl
  | a + 2, ha =>
    rw [if_neg (by omega), if_neg (by omega)]
    simp only [List.getD_eq_getElem?_getD, List.getElem?_cons_succ, List.getElem?_map]
    rw [List.getElem?_range (by omega)]
    simp; omega
theorem g_first (hn : 1 ≤ n) (i : Nat) (hi : i < m) : ∃ g, Cor (n + 1) (m + n) (gR m n A) (x0 m n i) g := by
  obtain ⟨s, hs⟩ : ∃ s : Nat → Rat, s = fun a => if a < 2 then 1 else -1 := ⟨_, rfl⟩
  have hss : ∀ a, s a * s a = 1 := fun a => by rw [hs]; by_cases h : a < 2 <;> simp [h] <;> grind
  have hs0 : ∀ a, s a ≠ 0 := fun a e => by have := hss a; rw [e] at this; grind
  obtain ⟨r0, hr0⟩ : ∃ r0 : Nat → Nat → Rat, r0 = fun a c => if a = c then s a else 0 := ⟨_, rfl⟩
  have hdt : ∀ (u : Nat → Rat) b, b < n + 1 → dot (n + 1) u (r0 b) = u b * s b := fun u b hb => by
    rw [hr0]
    have e : dot (n + 1) u (fun c => if b = c then s b else 0) = sm (n + 1) (fun c => if c = b then u b * s b else 0) := sm_congr fun c _ => by
      dsimp only
      by_cases h : c = b
      · rw [if_pos h, if_pos h.symm, h]
      · rw [if_neg h, if_neg (Ne.symm h)]; grind
    rw [e, sm_one _ b _ hb]
  have h0 : Inv (n + 1) r0 r0 := by
    refine ⟨fun a ha b hb => ?_, fun c hc d hd => ?_, by rw [hr0]; exact mn_diag s hs0 _ List.nodup_range⟩
    · rw [hdt _ b hb, hr0]
      dsimp only
      by_cases h : a = b
      · rw [if_pos h, if_pos h, h, hss]
      · rw [if_neg h, if_neg h]; grind
    · have e : sm (n + 1) (fun a => r0 a c * r0 a d) = sm (n + 1) (fun a => if a = c then (if c = d then 1 else 0) else 0) := sm_congr fun a _ => by
        rw [hr0]
        dsimp only
        by_cases h : a = c
        · subst h
          by_cases h' : a = d
          · subst h'; rw [if_pos rfl]; simp [hss]
          · rw [if_neg h']; simp [h']
        · rw [if_neg h, if_neg h]; grind
      rw [e, sm_one _ c _ hc]
  have hK1 : gR m n A (m + n) 1 = 1 := by simp [gR]; omega
  have hK0 : gR m n A (m + n) 0 = 0 := by simp [gR]
  have hi0 : gR m n A i 0 = 1 := by simp [gR, hi]
  have hs1 : s 1 = 1 := by rw [hs]; simp
  have hsz : s 0 = 1 := by rw [hs]; simp
  have h1 := h0.swap 1 (by omega) (gR m n A (m + n)) (by rw [hdt _ 1 (by omega), hK1, hs1]; grind)
  have h2 := h1.swap 0 (by omega) (gR m n A i) (by
    have e : dot (n + 1) (gR m n A i) (gx (n + 1) r0 1 (gR m n A (m + n)) 0) = dot (n + 1) (gR m n A i) (r0 0) := by
      unfold gx
      rw [if_neg (by omega), dot_add, dot_mul, hdt (gR m n A (m + n)) 0 (by omega), hK0]; grind
    rw [e, hdt _ 0 (by omega), hi0, hsz]; grind)
  refine ⟨_, by simp [x0]; omega, by simp [x0], fun a ha h1 => ?_, h2.congr fun a ha c => ?_⟩
  · rw [x0_at i a hn ha]
    by_cases h : a = 0
    · rw [if_pos h]; omega
    · rw [if_neg h, if_neg h1]; omega
  · unfold rws
    rw [x0_at i a hn ha]
    unfold rx
    by_cases h : a = 0
    · rw [if_pos h, if_pos h]
    · rw [if_neg h, if_neg h]
      by_cases h1 : a = 1
      · rw [if_pos h1, if_pos h1]
      · rw [if_neg h1, if_neg h1, hr0]
        dsimp only
        have e1 : ¬ m + (a - 1) < m := by omega
        have e2 : m + (a - 1) < m + n := by omega
        have e3 : m + (a - 1) - m + 1 = a := by omega
        unfold gR
        rw [if_neg e1, if_pos e2, e3, hs]
        by_cases hc : a = c
        · rw [if_pos hc, if_pos hc.symm]; simp; omega
        · rw [if_neg hc, if_neg (Ne.symm hc)]
theorem g_start (hm : 1 ≤ m) (hn : 1 ≤ n) (d : Nat → Rat) (hd : d (m + n) = 0) : ∃ e, 0 < e ∧ ∀ ε, 0 < ε → ε ≤ e → ∃ x g z, Cor (n + 1) (m + n) (gR m n A) x g ∧ Tig (n + 1) (gR m n A) (fun j => gB m n j + ε * d j) x z ∧ Fea (n + 1) (m + n) (gR m n A) (fun j => gB m n j + ε * d j) z := by
  obtain ⟨e, he, ke⟩ := aff 1 (sm n (fun j => d (m + j)))
  refine ⟨e, he, fun ε h0 hle => ?_⟩
  have hpos := (ke ε h0 hle).2.1 (by grind)
  obtain ⟨y, hy⟩ : ∃ y : Nat → Rat, y = fun j => (if j = 0 then 1 + ε * sm n (fun j => d (m + j)) else 0) - ε * d (m + j) := ⟨_, rfl⟩
  have hysum : sm n y = 1 := by
    have e1 : sm n y = sm n (fun j => (if j = 0 then 1 + ε * sm n (fun j => d (m + j)) else 0) + (- ε) * d (m + j)) := sm_congr fun j _ => by rw [hy]; grind
    rw [e1, sm_add, sm_one n 0 _ (by omega), sm_mul]; grind
  have hy1 : ∀ j, j ≠ 0 → y j = - (ε * d (m + j)) := fun j h => by rw [hy]; dsimp only; rw [if_neg h]; grind
  have hy0 : y 0 = 1 + ε * sm n (fun j => d (m + j)) - ε * d m := by rw [hy]; simp
  obtain ⟨i, hi, v, hv, hmx⟩ := max_ex (fun i v => v = sm n (fun j => A i j * y j) - ε * d i) (fun i u v h1 h2 => by rw [h1, h2]) (List.range m) ⟨0, List.mem_range.2 (by omega), _, rfl⟩
  rw [List.mem_range] at hi
  obtain ⟨g, hc⟩ := g_first (A := A) hn i hi
  obtain ⟨z, hz⟩ : ∃ z : Nat → Rat, z = fun c => if c = 0 then - v else y (c - 1) := ⟨_, rfl⟩
  have hz0 : z 0 = - v := by rw [hz]; simp
  have hzj : ∀ j, z (j + 1) = y j := fun j => by rw [hz]; simp
  have hrow : ∀ i', i' < m → dot (n + 1) (gR m n A i') z = - v + sm n (fun j => A i' j * y j) := fun i' hi' => by
    rw [gR_row i' hi', hz0]; congr 1; exact sm_congr fun j _ => by rw [hzj]
  have hB : ∀ k, k ≠ m + n → gB m n k = 0 := fun k h => by simp [gB, h]
  have hBK : gB m n (m + n) = 1 := by simp [gB]
  refine ⟨_, g, z, hc, fun a ha => ?_, fun k hk => ?_⟩
  · unfold rws
    rw [x0_at i a hn ha]
    by_cases h : a = 0
    · rw [if_pos h, hrow i hi]
      dsimp only
      rw [hB i (by omega), hv]; grind
    · rw [if_neg h]
      by_cases h1 : a = 1
      · rw [if_pos h1, gR_sum]
        dsimp only
        rw [hBK, hd, sm_congr fun j _ => hzj j, hysum]; grind
      · rw [if_neg h1, gR_col (a - 1) (by omega), hzj, hy1 (a - 1) (by omega)]
        dsimp only
        rw [hB (m + (a - 1)) (by omega)]; grind
  · dsimp only
    rw [hB k (by omega)]
    by_cases h : k < m
    · rw [hrow k h]
      have := hmx k (List.mem_range.2 h) _ rfl
      grind
    · obtain ⟨j, rfl⟩ : ∃ j, k = m + j := ⟨k - m, by omega⟩
      rw [gR_col j (by omega), hzj]
      by_cases hj : j = 0
      · subst hj
        rw [hy0]; simp only [Nat.add_zero]; grind
      · rw [hy1 j hj]; grind
end
/-- VON NEUMANN, and more: a corner that serves both. -/
theorem game (m n : Nat) (hm : 1 ≤ m) (hn : 1 ≤ n) (A : Nat → Nat → Rat) : ∃ x g z, Cor (n + 1) (m + n) (gR m n A) x g ∧ Tig (n + 1) (gR m n A) (gB m n) x z ∧ Fea (n + 1) (m + n) (gR m n A) (gB m n) z ∧ ∀ p, p < n + 1 → p ≠ 1 → 0 ≤ dot (n + 1) gO (g p) :=
  opt (n + 1) (m + n) (by omega) (gR m n A) gO (gB m n) (g_bounded hm) (g_start hm hn)
end Go.Proofs.YthplbfjpmnpjmaaDoor.Lp

namespace Go.Proofs.YthplbfjpmnpjmaaDoor.Lp
/-- Sums over a list. -/
def ls {α : Type} (L : List α) (f : α → Rat) : Rat := L.foldr (fun x s => f x + s) 0
theorem ls_cons {α : Type} (x : α) (L : List α) (f : α → Rat) : ls (x :: L) f = f x + ls L f := rfl
theorem ls_congr {α : Type} {L : List α} {f g : α → Rat} (h : ∀ x ∈ L, f x = g x) : ls L f = ls L g := by
  induction L with
  | nil => rfl
  | cons x L ih => rw [ls_cons, ls_cons, h x List.mem_cons_self, ih fun y hy => h y (List.mem_cons_of_mem _ hy)]
theorem ls_add {α : Type} (L : List α) (f g : α → Rat) : ls L (fun x => f x + g x) = ls L f + ls L g := by
  induction L with
  | nil => simp only [ls, List.foldr_nil]; grind
  | cons x L ih => simp only [ls_cons]; rw [ih]; grind
theorem ls_mul {α : Type} (L : List α) (k : Rat) (f : α → Rat) : ls L (fun x => k * f x) = k * ls L f := by
  induction L with
  | nil => simp only [ls, List.foldr_nil]; grind
  | cons x L ih => simp only [ls_cons]; rw [ih]; grind
theorem ls_zero {α : Type} (L : List α) : ls L (fun _ => 0) = 0 := by
  induction L with
  | nil => rfl
  | cons x L ih => rw [ls_cons, ih]; grind
theorem E_ls {α β : Type} (L : List β) (f : β → α → List α → Rat) (C : List α) : E (fun c D => ls L (fun a => f a c D)) C = ls L (fun a => E (f a) C) := by
  induction L with
  | nil => exact E_zero C
  | cons x L ih => simp only [ls_cons]; rw [E_add, ih]
/-- What E gives each place. -/
def co {α : Type} [DecidableEq α] (f : List α → Rat) (C : List α) (i : α) : Rat := E (fun c D => (if c = i then 1 else 0) * f D) C
theorem ls_one {α : Type} [DecidableEq α] (L : List α) (hL : L.Nodup) (x : α) (hx : x ∈ L) (f : α → Rat) : ls L (fun i => (if x = i then 1 else 0) * f i) = f x := by
  induction L with
  | nil => cases hx
  | cons y L ih =>
    rw [List.nodup_cons] at hL
    rw [ls_cons]
    by_cases h : x = y
    · subst h
      rw [ls_congr (g := fun _ => 0) fun i hi => by
        have : ¬ x = i := fun e => hL.1 (by rw [e]; exact hi)
        rw [if_neg this]; grind, ls_zero]
      simp only [if_true]; grind
    · rw [ih hL.2 ((List.mem_cons.1 hx).resolve_left h), if_neg h]; grind
theorem co_sum {α : Type} [DecidableEq α] (f : List α → Rat) (C : List α) (hC : C.Nodup) (w : α → Rat) : ls C (fun i => w i * co f C i) = E (fun c D => w c * f D) C := by
  have e : ∀ i, w i * co f C i = E (fun c D => w i * ((if c = i then 1 else 0) * f D)) C := fun i => by unfold co; rw [E_mul]
  rw [ls_congr fun i _ => e i, ← E_ls C (fun i c D => w i * ((if c = i then 1 else 0) * f D))]
  refine E_congr C _ _ fun c hc D _ => ?_
  have e2 : ls C (fun i => w i * ((if c = i then 1 else 0) * f D)) = ls C (fun i => (if c = i then 1 else 0) * (w i * f D)) := ls_congr fun i _ => by grind
  rw [e2, ls_one C hC c hc (fun i => w i * f D)]
section
variable {ρ γ : Type}
theorem mn_fill (a : ρ → γ → Rat) (R : List ρ) (j : γ) : ∀ (C : List γ) (P : List γ), j ∈ C → E (fun _ D => mn a R (P ++ j :: D)) C = mn a R (P ++ C) := by
  have same : ∀ (P Q : List γ), j ∈ Q → mn a R (P ++ j :: Q) = 0 := fun P Q h => by
    have hp : (P ++ j :: Q).Perm (j :: (P ++ Q)) := List.perm_middle
    obtain ⟨s, -, e⟩ := mn_permC (a := a) hp
    rw [e, mn_sameC a j R _ (List.mem_append_right _ h)]; grind
  intro C
  induction C with
  | nil => intro P h; cases h
  | cons c C ih =>
    intro P h
    simp only [E]
    by_cases hj : j ∈ C
    · have sw : ∀ D, mn a R (P ++ j :: c :: D) = - mn a R ((P ++ [c]) ++ j :: D) := by
        intro D
        suffices hs : ∀ (P : List γ) (R : List ρ) , mn a R (P ++ j :: c :: D) = - mn a R (P ++ c :: j :: D) by rw [hs]; simp
        intro P
        induction P with
        | nil => intro R; exact mn_swapC a j c R D
        | cons p P ihp =>
          intro R
          rw [List.cons_append, List.cons_append, mn_col, mn_col]
          have : (fun r S => a r p * mn a S (P ++ j :: c :: D)) = (fun r S => (-1) * (a r p * mn a S (P ++ c :: j :: D))) := by funext r S; rw [ihp]; grind
          rw [this, E_mul]; grind
      have e : (fun (_ : γ) D => mn a R (P ++ j :: c :: D)) = (fun _ D => (-1) * mn a R ((P ++ [c]) ++ j :: D)) := by funext _ D; rw [sw]; grind
      rw [same P C hj, e, E_mul, ih (P ++ [c]) hj]
      simp; grind
    · have hjc : j = c := (List.mem_cons.1 h).resolve_right hj
      subst hjc
      have e : E (fun (_ : γ) D => mn a R (P ++ j :: j :: D)) C = 0 := by
        rw [E_congr C _ (fun _ _ => 0) fun d _ D _ => same P (j :: D) List.mem_cons_self, E_zero]
      rw [e]; grind
/-- All cofactors together, and those of a row. -/
def tot (a : ρ → γ → Rat) (R : List ρ) (C : List γ) : Rat := E (fun _ S => E (fun _ D => mn a S D) C) R
def rw_ [DecidableEq ρ] (a : ρ → γ → Rat) (R : List ρ) (C : List γ) (i : ρ) : Rat := co (fun S => E (fun _ D => mn a S D) C) R i
theorem tot_tr (a : ρ → γ → Rat) (R : List ρ) (C : List γ) : tot (fun c r => a r c) C R = tot a R C := by
  unfold tot
  rw [E_swap]
  congr 1; funext r S; congr 1; funext c D
  exact mn_tr a D S
theorem row_sum [DecidableEq ρ] (a : ρ → γ → Rat) (R : List ρ) (hR : R.Nodup) (C : List γ) : ls R (rw_ a R C) = tot a R C := by
  have := co_sum (fun S => E (fun _ D => mn a S D) C) R hR (fun _ => 1)
  unfold tot
  have e : ls R (rw_ a R C) = ls R (fun i => 1 * co (fun S => E (fun _ D => mn a S D) C) R i) := ls_congr fun i _ => by unfold rw_; grind
  rw [e, this]
  congr 1; funext r S; grind
theorem row_col [DecidableEq ρ] (a : ρ → γ → Rat) (R : List ρ) (hR : R.Nodup) (C : List γ) (j : γ) (hj : j ∈ C) : ls R (fun i => a i j * rw_ a R C i) = mn a R C := by
  unfold rw_
  rw [co_sum (fun S => E (fun _ D => mn a S D) C) R hR (fun i => a i j)]
  have e : (fun (c : ρ) S => a c j * E (fun _ D => mn a S D) C) = (fun c S => E (fun _ D => a c j * mn a S D) C) := by funext c S; rw [E_mul]
  rw [e, E_swap]
  have e2 : (fun (_ : γ) D => E (fun r S => a r j * mn a S D) R) = (fun _ D => mn a R ([] ++ j :: D)) := by funext _ D; rw [List.nil_append, mn_col]
  rw [e2, mn_fill a R j C [] hj, List.nil_append]
/-- Only one mix of rows makes all columns worth the same. -/
theorem row_one [DecidableEq ρ] (a : ρ → γ → Rat) (R : List ρ) (hR : R.Nodup) (C : List γ) (ht : tot a R C ≠ 0) (w : ρ → Rat) (v : Rat) (hw : ls R w = 0) (hc : ∀ j ∈ C, ls R (fun i => a i j * w i) = v) : ∀ i ∈ R, w i = 0 := by
  intro i hi
  -- the matrix with a border of ones
  obtain ⟨b, hb⟩ : ∃ b : Option ρ → Option γ → Rat, b = fun r c => match r, c with
    | some r, some c => a r c
    | some _, none => 1
    | none, some _ => 1
    | none, none => 0 := ⟨_, rfl⟩
  have hbs : ∀ (S : List ρ) (D : List γ), mn b (S.map some) (D.map some) = mn a S D := by
    intro S D
    rw [mn_map b some S, ← mn_tr (fun s c => b (some s) c) (D.map some) S, mn_map _ some D, mn_tr (fun s c => b (some s) (some c)) D S]
    rw [hb]
  have hE : ∀ {α : Type} (g : Option α → List (Option α) → Rat) (L : List α), E g (L.map some) = E (fun c D => g (some c) (D.map some)) L := by
    intro α g L
    induction L generalizing g with
    | nil => rfl
    | cons c L ih => simp only [List.map_cons, E]; rw [ih]
  have hbt : mn b (none :: R.map some) (none :: C.map some) = - tot a R C := by
    rw [mn_cons]
    simp only [E]
    rw [hE]
    have e0 : b none none = 0 := by rw [hb]
    have e1 : (fun (c : γ) (D : List γ) => b none (some c) * mn b (R.map some) (none :: D.map some)) = (fun _ D => E (fun _ S => mn a S D) R) := by
      funext c D
      rw [mn_col, hE]
      have : b none (some c) = 1 := by rw [hb]
      rw [this]
      have e2 : (fun (c : ρ) (S : List ρ) => b (some c) none * mn b (S.map some) (D.map some)) = (fun _ S => mn a S D) := by
        funext r S; rw [hbs]; have : b (some r) none = 1 := by rw [hb]
        rw [this]; grind
      rw [e2]; grind
    rw [e0, e1, E_swap]; unfold tot; grind
  have hne : mn b (none :: R.map some) (none :: C.map some) ≠ 0 := by rw [hbt]; grind
  obtain ⟨O, hO⟩ : ∃ O, O = R.erase i := ⟨_, rfl⟩
  have hp : (none :: R.map some).Perm (some i :: none :: O.map some) := by
    have h1 : (R.map some).Perm (some i :: O.map some) := by rw [hO]; exact (List.perm_cons_erase hi).map some
    exact (h1.cons none).trans (List.Perm.swap _ _ _)
  obtain ⟨s, hs, es⟩ := mn_permR (a := b) hp
  rw [es] at hne
  have hzero : ls R (fun r => w r * mn b (some r :: none :: O.map some) (none :: C.map some)) + (- v) * mn b (none :: none :: O.map some) (none :: C.map some) = 0 := by
    have e1 : ∀ r, w r * mn b (some r :: none :: O.map some) (none :: C.map some) = E (fun c D => w r * (b (some r) c * mn b (none :: O.map some) D)) (none :: C.map some) := fun r => by rw [mn_cons, E_mul]
    rw [ls_congr fun r _ => e1 r, ← E_ls R (fun r c D => w r * (b (some r) c * mn b (none :: O.map some) D)), mn_cons b none, ← E_mul, ← E_add]
    rw [E_congr _ _ (fun _ _ => 0) fun c hc' D _ => ?_, E_zero]
    have e2 : ls R (fun r => w r * (b (some r) c * mn b (none :: O.map some) D)) = ls R (fun r => b (some r) c * w r) * mn b (none :: O.map some) D := by
      have := ls_mul R (mn b (none :: O.map some) D) (fun r => b (some r) c * w r)
      rw [Rat.mul_comm, ← this]
      exact ls_congr fun r _ => by grind
    rw [e2]
    rcases List.mem_cons.1 hc' with rfl | hc'
    · have e3 : ls R (fun r => b (some r) none * w r) = ls R w := ls_congr fun r _ => by rw [hb]; dsimp only; grind
      have e4 : b none none = 0 := by rw [hb]
      rw [e3, hw, e4]; grind
    · obtain ⟨j, hj, rfl⟩ := List.mem_map.1 hc'
      have e3 : ls R (fun r => b (some r) (some j) * w r) = v := by rw [← hc j hj]; exact ls_congr fun r _ => by rw [hb]
      have e4 : b none (some j) = 1 := by rw [hb]
      rw [e3, e4]; grind
  have hn0 : mn b (none :: none :: O.map some) (none :: C.map some) = 0 := mn_same b none _ _ List.mem_cons_self
  have hr : ls R (fun r => w r * mn b (some r :: none :: O.map some) (none :: C.map some)) = ls R (fun r => (if i = r then 1 else 0) * (w r * mn b (some r :: none :: O.map some) (none :: C.map some))) := ls_congr fun r hr => by
    by_cases h : i = r
    · rw [if_pos h]; grind
    · rw [if_neg h, mn_same b (some r) _ _ (List.mem_cons_of_mem _ (List.mem_map.2 ⟨r, by rw [hO]; exact (List.mem_erase_of_ne (Ne.symm h)).2 hr, rfl⟩))]; grind
  rw [hr, ls_one R hR i hi (fun r => w r * mn b (some r :: none :: O.map some) (none :: C.map some)), hn0] at hzero
  have h5 : w i * mn b (some i :: none :: O.map some) (none :: C.map some) = 0 := by grind
  refine (Rat.mul_eq_zero.1 h5).resolve_right fun e => ?_
  rw [e] at hne; grind
/-- So the mix is the cofactors', all in parts of the total. -/
theorem row_is [DecidableEq ρ] (a : ρ → γ → Rat) (R : List ρ) (hR : R.Nodup) (C : List γ) (ht : tot a R C ≠ 0) (x : ρ → Rat) (v : Rat) (hw : ls R x = 1) (hc : ∀ j ∈ C, ls R (fun i => a i j * x i) = v) : ∀ i ∈ R, rw_ a R C i = tot a R C * x i := by
  intro i hi
  have := row_one a R hR C ht (fun i => rw_ a R C i + (- tot a R C) * x i) (mn a R C + (- tot a R C) * v) (by rw [ls_add, ls_mul, row_sum a R hR, hw]; grind) (fun j hj => by
    have e : ls R (fun i => a i j * (rw_ a R C i + (- tot a R C) * x i)) = ls R (fun i => a i j * rw_ a R C i + (- tot a R C) * (a i j * x i)) := ls_congr fun i _ => by grind
    rw [e, ls_add, ls_mul, row_col a R hR C j hj, hc j hj]) i hi
  grind
end
end Go.Proofs.YthplbfjpmnpjmaaDoor.Lp
