/-
  Shapley and Snow: rows and columns whose own solution is that of the whole game.
-/
import Derived.Test.YthplbfjpmnpjmaaDoorJ23
namespace Go.Proofs.YthplbfjpmnpjmaaDoor.Lp
theorem E_map {α β : Type} (f : α → β) (L : List α) : ∀ (g : β → List β → Rat), E g (L.map f) = E (fun c D => g (f c) (D.map f)) L := by
  induction L with
  | nil => intro g; rfl
  | cons c L ih => intro g; simp only [List.map_cons, E]; rw [ih]
section
variable {ρ γ : Type}
theorem mn_map2 {σ τ : Type} (G : σ → τ → Rat) (f : ρ → σ) (h : γ → τ) (S : List ρ) (D : List γ) : mn G (S.map f) (D.map h) = mn (fun r c => G (f r) (h c)) S D := by
  rw [mn_map G f S, ← mn_tr (fun s c => G (f s) c) (D.map h) S, mn_map _ h D, mn_tr (fun s c => G (f s) (h c)) D S]
theorem border {σ τ : Type} (G : σ → τ → Rat) (a : ρ → γ → Rat) (f : ρ → σ) (h : γ → τ) (k0 : σ) (c0 : τ) (R : List ρ) (C : List γ) (h00 : G k0 c0 = 0) (h01 : ∀ c ∈ C, G k0 (h c) = 1) (h10 : ∀ r ∈ R, G (f r) c0 = 1) (h11 : ∀ r ∈ R, ∀ c ∈ C, G (f r) (h c) = a r c) :
    mn G (k0 :: R.map f) (c0 :: C.map h) = - tot a R C := by
  rw [mn_cons]
  simp only [E]
  rw [E_map, h00]
  have e : E (fun c D => G k0 (h c) * mn G (R.map f) (c0 :: D.map h)) C = E (fun _ D => E (fun _ S => mn a S D) R) C := by
    refine E_congr C _ _ fun c hc D hD => ?_
    rw [h01 c hc, mn_col, E_map]
    rw [E_congr R _ (fun _ S => mn a S D) fun r hr S hS => ?_]
    · grind
    · rw [h10 r hr, mn_map2, mn_congr _ a S D fun s hs d hd => h11 s (hS s hs) d (hD d hd)]; grind
  rw [e, E_swap]; unfold tot; grind
theorem mn_nodup (a : ρ → γ → Rat) : ∀ (R : List ρ) (C : List γ), mn a R C ≠ 0 → R.Nodup := by
  intro R
  induction R with
  | nil => intro C _; exact List.nodup_nil
  | cons r R ih =>
    intro C h
    rw [List.nodup_cons]
    refine ⟨fun hr => h (mn_same a r R C hr), ?_⟩
    by_cases hD : ∃ D, mn a R D ≠ 0
    · exact hD.elim ih
    · exact absurd (by rw [mn_cons, E_congr C _ (fun _ _ => 0) fun c _ D _ => by
        have : mn a R D = 0 := Classical.byContradiction fun k => hD ⟨D, k⟩
        rw [this]; grind, E_zero]) h
theorem mn_len (a : ρ → γ → Rat) : ∀ (R : List ρ) (C : List γ), R.length ≠ C.length → mn a R C = 0 := by
  intro R
  induction R with
  | nil => intro C h; cases C with
    | nil => exact absurd rfl h
    | cons c C => rfl
  | cons r R ih =>
    intro C h
    cases C with
    | nil => rfl
    | cons c C =>
      rw [mn_cons]
      have key : ∀ (C : List γ) (P : List γ), R.length + 1 ≠ P.length + C.length → E (fun c D => a r c * mn a R (P ++ D)) C = 0 := by
        intro C
        induction C with
        | nil => intro P _; rfl
        | cons c C ihc =>
          intro P hP
          simp only [E]
          have e := ihc (P ++ [c]) (by simp only [List.length_append, List.length_cons, List.length_nil] at hP ⊢; omega)
          simp only [List.append_assoc, List.singleton_append] at e
          rw [e, ih (P ++ C) (by simp only [List.length_append, List.length_cons] at hP ⊢; omega)]; grind
      have := key (c :: C) [] (by simp only [List.length_cons, List.length_nil] at h ⊢; omega)
      simpa using this
end
theorem ls_perm {α : Type} {L M : List α} (h : L.Perm M) (f : α → Rat) : ls L f = ls M f := by
  induction h with
  | nil => rfl
  | cons x _ ih => rw [ls_cons, ls_cons, ih]
  | swap x y l => simp only [ls_cons]; grind
  | trans _ _ i j => rw [i, j]
theorem ls_append {α : Type} (L M : List α) (f : α → Rat) : ls (L ++ M) f = ls L f + ls M f := by
  induction L with
  | nil => rw [List.nil_append]; simp only [ls, List.foldr_nil]; grind
  | cons x L ih => rw [List.cons_append, ls_cons, ls_cons, ih]; grind
theorem ls_map {α β : Type} (L : List α) (g : α → β) (f : β → Rat) : ls (L.map g) f = ls L (fun x => f (g x)) := by
  induction L with
  | nil => rfl
  | cons x L ih => rw [List.map_cons, ls_cons, ls_cons, ih]
theorem ls_filter {α : Type} (L : List α) (p : α → Bool) (f : α → Rat) (h : ∀ x ∈ L, p x = false → f x = 0) : ls (L.filter p) f = ls L f := by
  induction L with
  | nil => rfl
  | cons x L ih =>
    have ih := ih fun y hy => h y (List.mem_cons_of_mem _ hy)
    rw [List.filter_cons]
    cases hp : p x with
    | true => simp only [if_true, ls_cons]; rw [ih]
    | false => simp only [ls_cons]; rw [h x List.mem_cons_self hp]; simp [ih]; grind
theorem sm_ls (n : Nat) (f : Nat → Rat) : sm n f = ls (List.range n) f := by
  induction n with
  | zero => rfl
  | succ n ih => rw [List.range_succ, ls_append, ← ih, ls_cons]; simp only [sm, ls, List.foldr_nil]; grind
theorem sm_lsw (N : Nat) (M : List Nat) (f : Nat → Nat → Rat) : sm N (fun a => ls M (fun k => f a k)) = ls M (fun k => sm N (fun a => f a k)) := by
  induction M with
  | nil => exact sm_zero N
  | cons x M ih => simp only [ls_cons]; rw [sm_add, ih]
/-- Rows that are 1 (or -1) at one place alone go, with that place's column. -/
theorem mn_units (G : Nat → Nat → Rat) (m : Nat) (rest : List Nat) : ∀ (V D : List Nat), D.Nodup → V.Nodup → (∀ j ∈ V, j + 1 ∈ D) → (∀ j ∈ V, ∀ c, c ≠ j + 1 → G (m + j) c = 0) → mn G (V.map (m + ·) ++ rest) D ≠ 0 → mn G rest (D.filter (fun c => decide (∀ j ∈ V, c ≠ j + 1))) ≠ 0 := by
  intro V
  induction V with
  | nil =>
    intro D _ _ _ _ h
    rw [List.filter_eq_self.2 (by simp)]
    simpa using h
  | cons j V ih =>
    intro D hD hV hin hG h
    rw [List.nodup_cons] at hV
    have hj := hin j List.mem_cons_self
    obtain ⟨s, hs, es⟩ := mn_permC (a := G) (List.perm_cons_erase hj)
    rw [es, List.map_cons, List.cons_append, mn_cons] at h
    simp only [E] at h
    rw [E_congr (D.erase (j + 1)) _ (fun _ _ => 0) (fun c hc Q _ => by
      have : c ≠ j + 1 := fun e => hD.not_mem_erase (e ▸ hc)
      rw [hG j List.mem_cons_self c this]; grind), E_zero] at h
    have h2 : mn G (V.map (m + ·) ++ rest) (D.erase (j + 1)) ≠ 0 := fun e => by rw [e] at h; grind
    have hne : ∀ i ∈ V, i + 1 ≠ j + 1 := fun i hi e => by
      have e2 : i = j := by omega
      rw [e2] at hi
      exact hV.1 hi
    have h3 := ih (D.erase (j + 1)) (hD.erase _) hV.2 (fun i hi => (List.mem_erase_of_ne (hne i hi)).2 (hin i (List.mem_cons_of_mem _ hi))) (fun i hi => hG i (List.mem_cons_of_mem _ hi)) h2
    rw [hD.erase_eq_filter, List.filter_filter] at h3
    have e : (D.filter (fun a => decide (∀ j ∈ V, a ≠ j + 1) && a != j + 1)) = D.filter (fun c => decide (∀ i ∈ j :: V, c ≠ i + 1)) := by
      refine List.filter_congr fun c _ => ?_
      rw [Bool.eq_iff_iff]
      simp only [Bool.and_eq_true, decide_eq_true_eq, bne_iff_ne, List.mem_cons, forall_eq_or_imp]
      exact And.comm
    rw [e] at h3
    exact h3
/-- SHAPLEY AND SNOW: rows and columns whose own solution is that of the whole game. -/
theorem kernel (m n : Nat) (hm : 1 ≤ m) (hn : 1 ≤ n) (A : Nat → Nat → Rat) : ∃ (p q : Nat → Bool) (R C : List Nat) (x y : Nat → Rat) (v : Rat), R = (List.range m).filter p ∧ C = (List.range n).filter q ∧ R.length = C.length ∧ C ≠ [] ∧ tot A R C ≠ 0 ∧
    (∀ i ∈ R, rw_ A R C i = tot A R C * x i ∧ 0 ≤ x i) ∧ (∀ j ∈ C, rw_ (fun c r => A r c) C R j = tot A R C * y j ∧ 0 ≤ y j) ∧ mn A R C = tot A R C * v ∧
    (∀ i, i < m → ls C (fun j => A i j * y j) ≤ v) ∧ (∀ j, j < n → v ≤ ls R (fun i => A i j * x i)) := by
  obtain ⟨x, g, z, hc, ht, hf, hw⟩ := game m n hm hn A
  obtain ⟨G, hG⟩ : ∃ G, G = gR m n A := ⟨_, rfl⟩
  have hlen := hc.len
  have hdet := hc.inv.det
  have hx1 : (List.range (n + 1)).map (fun a => x.getD a 0) = x := by
    refine List.ext_getElem (by simp [hlen]) fun i h1 h2 => ?_
    simp [List.getD_eq_getElem?_getD, h2]
  have hdet2 : mn G x (List.range (n + 1)) ≠ 0 := by
    have e := mn_map (gR m n A) (fun a => x.getD a 0) (List.range (n + 1)) (List.range (n + 1))
    rw [hx1] at e
    rw [hG, e]; exact hdet
  have hxn := mn_nodup G x _ hdet2
  have hxK : x.getD 1 0 = m + n := by rw [List.getD_eq_getElem?_getD, hc.sum]; rfl
  have hat : ∀ a, a < n + 1 → x.getD a 0 ∈ x := fun a ha => by
    rw [List.getD_eq_getElem?_getD, List.getElem?_eq_getElem (by omega)]; exact List.getElem_mem _
  have hpl : ∀ k ∈ x, ∃ a, a < n + 1 ∧ x.getD a 0 = k := fun k hk => by
    obtain ⟨a, ha, e⟩ := List.mem_iff_getElem.1 hk
    exact ⟨a, by omega, by rw [List.getD_eq_getElem?_getD, List.getElem?_eq_getElem ha]; exact e⟩
  have hmem : ∀ k, k ∈ x → k ≤ m + n := fun k hk => by
    obtain ⟨a, ha, e⟩ := hpl k hk
    by_cases h1 : a = 1
    · subst h1; omega
    · have := hc.low a ha h1; omega
  have hone : ∀ a, a < n + 1 → x.getD a 0 = m + n → a = 1 := fun a ha e => by
    by_cases h1 : a = 1
    · exact h1
    · have := hc.low a ha h1; omega
  obtain ⟨p, hp⟩ : ∃ p : Nat → Bool, p = fun i => decide (i ∈ x) := ⟨_, rfl⟩
  obtain ⟨q, hq⟩ : ∃ q : Nat → Bool, q = fun j => decide (m + j ∉ x) := ⟨_, rfl⟩
  obtain ⟨R, hR⟩ : ∃ R, R = (List.range m).filter p := ⟨_, rfl⟩
  obtain ⟨C, hC⟩ : ∃ C, C = (List.range n).filter q := ⟨_, rfl⟩
  obtain ⟨V, hV⟩ : ∃ V, V = (List.range n).filter (fun j => decide (m + j ∈ x)) := ⟨_, rfl⟩
  have ndf : ∀ (k : Nat) (p : Nat → Bool), ((List.range k).filter p).Nodup := fun k p => List.Nodup.sublist List.filter_sublist List.nodup_range
  have hRn : R.Nodup := by rw [hR]; exact ndf _ _
  have hCn : C.Nodup := by rw [hC]; exact ndf _ _
  have hVn : V.Nodup := by rw [hV]; exact ndf _ _
  have mR : ∀ i, i ∈ R ↔ i < m ∧ i ∈ x := fun i => by rw [hR, hp]; simp
  have mC : ∀ j, j ∈ C ↔ j < n ∧ m + j ∉ x := fun j => by rw [hC, hq]; simp
  have mV : ∀ j, j ∈ V ↔ j < n ∧ m + j ∈ x := fun j => by rw [hV]; simp
  have hperm : x.Perm (V.map (m + ·) ++ (m + n) :: R) := by
    refine (List.perm_ext_iff_of_nodup hxn ?_).2 fun k => ?_
    · rw [List.nodup_append]
      refine ⟨?_, ?_, ?_⟩
      · exact List.Pairwise.map _ (fun a b h e => h (by omega)) hVn
      · rw [List.nodup_cons]
        exact ⟨fun h => by have := (mR _).1 h; omega, hRn⟩
      · intro a ha b hb e
        obtain ⟨j, hj, rfl⟩ := List.mem_map.1 ha
        have := (mV j).1 hj
        rcases List.mem_cons.1 hb with h | h
        · omega
        · have := (mR b).1 h; omega
    · rw [List.mem_append, List.mem_cons, List.mem_map]
      constructor
      · intro hk
        have := hmem k hk
        by_cases h1 : k < m
        · exact .inr (.inr ((mR k).2 ⟨h1, hk⟩))
        · by_cases h2 : k = m + n
          · exact .inr (.inl h2)
          · exact .inl ⟨k - m, (mV _).2 ⟨by omega, by rw [show m + (k - m) = k by omega]; exact hk⟩, by omega⟩
      · rintro (⟨j, hj, rfl⟩ | rfl | h)
        · exact ((mV j).1 hj).2
        · rw [← hxK]; exact hat 1 (by omega)
        · exact ((mR k).1 h).2
  -- the determinant that is left
  have hGu : ∀ j ∈ V, ∀ c, c ≠ j + 1 → G (m + j) c = 0 := fun j hj c h => by
    have hjn := ((mV j).1 hj).1
    rw [hG]; unfold gR
    rw [if_neg (by omega), if_pos (by omega), show m + j - m = j by omega, if_neg h]
  obtain ⟨s, hs, es⟩ := mn_permR (a := G) hperm
  have hdet3 : mn G (V.map (m + ·) ++ (m + n) :: R) (List.range (n + 1)) ≠ 0 := fun e => hdet2 (by rw [es, e]; grind)
  have hdet4 := mn_units G m ((m + n) :: R) V (List.range (n + 1)) List.nodup_range hVn (fun j hj => List.mem_range.2 (by have := (mV j).1 hj; omega)) hGu hdet3
  have hcols : (List.range (n + 1)).filter (fun c => decide (∀ j ∈ V, c ≠ j + 1)) = 0 :: C.map (· + 1) := by
    rw [List.range_succ_eq_map, List.filter_cons, if_pos (by simp)]
    congr 1
    rw [List.filter_map, hC]
    congr 1
    refine List.filter_congr fun j hj => ?_
    have hjn := List.mem_range.1 hj
    rw [hq, Bool.eq_iff_iff]
    simp only [Function.comp, decide_eq_true_eq]
    constructor
    · intro h hx'
      exact h j ((mV j).2 ⟨hjn, hx'⟩) rfl
    · intro h i hi e
      have := (mV i).1 hi
      have hij : i = j := by omega
      rw [hij] at this
      exact h this.2
  rw [hcols] at hdet4
  have hlen2 : R.length = C.length := by
    by_cases h : R.length = C.length
    · exact h
    · exact absurd (mn_len G ((m + n) :: R) (0 :: C.map (· + 1)) (by simp only [List.length_cons, List.length_map]; omega)) hdet4
  have htot : tot A R C ≠ 0 := by
    have e := border G A id (· + 1) (m + n) 0 R C (by rw [hG]; simp [gR]) (fun c _ => by rw [hG]; simp [gR]; omega) (fun r hr => by have := (mR r).1 hr; rw [hG]; simp [gR, this.1]) (fun r hr c _ => by have := (mR r).1 hr; rw [hG]; simp [gR, this.1])
    rw [List.map_id] at e
    rw [e] at hdet4
    grind
  -- the weights
  obtain ⟨W, hW⟩ : ∃ W : Nat → Rat, W = fun k => sm (n + 1) (fun a => (if x.getD a 0 = k then 1 else 0) * dot (n + 1) gO (g a)) := ⟨_, rfl⟩
  have hWx : ∀ F : Nat → Rat, sm (n + 1) (fun a => dot (n + 1) gO (g a) * F (x.getD a 0)) = ls x (fun k => W k * F k) := fun F => by
    have e1 : ls x (fun k => W k * F k) = ls x (fun k => sm (n + 1) (fun a => (if x.getD a 0 = k then 1 else 0) * (dot (n + 1) gO (g a) * F k))) := ls_congr fun k _ => by
      rw [hW]; dsimp only; rw [← sm_mulr]; exact sm_congr fun a _ => by grind
    rw [e1, ← sm_lsw]
    exact sm_congr fun a ha => (ls_one x hxn (x.getD a 0) (hat a ha) (fun k => dot (n + 1) gO (g a) * F k)).symm
  have hWall : ∀ F : Nat → Rat, sm (n + 1) (fun a => dot (n + 1) gO (g a) * F (x.getD a 0)) = ls V (fun j => W (m + j) * F (m + j)) + (W (m + n) * F (m + n) + ls R (fun i => W i * F i)) := fun F => by
    rw [hWx, ls_perm hperm, ls_append, ls_map, ls_cons]
  have hW0 : ∀ k, k ≠ m + n → 0 ≤ W k := fun k hk => by
    rw [hW]
    refine sm_nonneg fun a ha => ?_
    by_cases h : x.getD a 0 = k
    · rw [if_pos h]
      have := hw a ha (fun e => hk (by rw [← h, e, hxK]))
      grind
    · rw [if_neg h]; grind
  have hcomb : ∀ c, c < n + 1 → gO c = ls V (fun j => W (m + j) * G (m + j) c) + (W (m + n) * G (m + n) c + ls R (fun i => W i * G i c)) := fun c hc' => by
    have e := hc.inv.comb gO c hc'
    rw [e, ← hWall (fun k => G k c), hG]; rfl
  have hsumR : ls R W = 1 := by
    have e := hcomb 0 (by omega)
    rw [ls_congr (g := fun _ => 0) (fun j hj => by rw [hGu j hj 0 (by omega)]; grind), ls_zero, ls_congr (L := R) (g := W) (fun i hi => by
      have hi' := (mR i).1 hi
      have : G i 0 = 1 := by rw [hG]; simp [gR, hi'.1]
      rw [this]; grind)] at e
    have e2 : G (m + n) 0 = 0 := by rw [hG]; simp [gR]
    rw [e2] at e
    have e3 : gO 0 = 1 := rfl
    rw [e3] at e; grind
  have hcolR : ∀ j, j < n → ls R (fun i => A i j * W i) = (if m + j ∈ x then W (m + j) else 0) - W (m + n) := fun j hj => by
    have e := hcomb (j + 1) (by omega)
    have e1 : ls R (fun i => W i * G i (j + 1)) = ls R (fun i => A i j * W i) := ls_congr fun i hi => by
      have hi' := (mR i).1 hi
      have : G i (j + 1) = A i j := by rw [hG]; simp [gR, hi'.1]
      rw [this]; grind
    have e2 : G (m + n) (j + 1) = 1 := by rw [hG]; simp [gR]; omega
    have e3 : gO (j + 1) = 0 := by simp [gO]
    have e4 : ls V (fun j' => W (m + j') * G (m + j') (j + 1)) = - (if m + j ∈ x then W (m + j) else 0) := by
      by_cases h : m + j ∈ x
      · have hjV := (mV j).2 ⟨hj, h⟩
        rw [if_pos h, ls_congr (g := fun j' => (if j = j' then 1 else 0) * (- W (m + j'))) (fun j' hj' => ?_), ls_one V hVn j hjV]
        by_cases hjj : j = j'
        · subst hjj
          have : G (m + j) (j + 1) = -1 := by rw [hG]; unfold gR; rw [if_neg (by omega), if_pos (by omega), show m + j - m = j by omega, if_pos rfl]
          rw [this, if_pos rfl]; grind
        · rw [hGu j' hj' (j + 1) (by omega), if_neg hjj]; grind
      · rw [if_neg h, ls_congr (g := fun _ => 0) (fun j' hj' => ?_), ls_zero]
        · grind
        · have := (mV j').1 hj'
          have hjj : j + 1 ≠ j' + 1 := fun e => by
            have e2 : j = j' := by omega
            rw [e2] at h
            exact h this.2
          rw [hGu j' hj' (j + 1) hjj]; grind
    rw [e1, e2, e3, e4] at e; grind
  -- the other one's mix
  have hy0 : ∀ j, j < n → 0 ≤ z (j + 1) := fun j hj => by
    have := hf (m + j) (by omega)
    rw [gR_col j hj] at this
    have e : gB m n (m + j) = 0 := by unfold gB; rw [if_neg (by omega)]
    rw [e] at this; grind
  have htg : ∀ k ∈ x, dot (n + 1) (gR m n A k) z = gB m n k := fun k hk => by
    obtain ⟨a, ha, rfl⟩ := hpl k hk
    exact ht a ha
  have hyV : ∀ j, j < n → m + j ∈ x → z (j + 1) = 0 := fun j hj h => by
    have := htg (m + j) h
    rw [gR_col j hj] at this
    have e : gB m n (m + j) = 0 := by unfold gB; rw [if_neg (by omega)]
    rw [e] at this; grind
  have hyC : ∀ F : Nat → Rat, ls C (fun j => F j * z (j + 1)) = sm n (fun j => F j * z (j + 1)) := fun F => by
    rw [sm_ls, hC]
    refine ls_filter _ _ _ fun j hj hqj => ?_
    rw [hq] at hqj
    have : m + j ∈ x := by simpa using hqj
    rw [hyV j (List.mem_range.1 hj) this]; grind
  have hz0 : z 0 = W (m + n) := by
    have e : z 0 = dot (n + 1) gO z := (gO_dot z).symm
    have e2 : dot (n + 1) gO z = sm (n + 1) (fun a => dot (n + 1) gO (g a) * gB m n (x.getD a 0)) := by
      have e3 : dot (n + 1) gO z = dot (n + 1) gO (fun c => sm (n + 1) (fun a => gB m n (x.getD a 0) * g a c)) := dot_congr (fun _ _ => rfl) fun c hc' => by
        rw [hc.inv.sol z c hc']; exact sm_congr fun a ha => by rw [ht a ha]
      rw [e3, dot_sm (n + 1) (n + 1) gO (fun a c => gB m n (x.getD a 0) * g a c)]
      exact sm_congr fun a _ => by rw [dot_mul]; grind
    rw [e, e2, hWall (gB m n)]
    have e4 : ls V (fun j => W (m + j) * gB m n (m + j)) = 0 := by
      rw [ls_congr (g := fun _ => 0) (fun j hj => by have := (mV j).1 hj; unfold gB; rw [if_neg (by omega)]; grind), ls_zero]
    have e5 : ls R (fun i => W i * gB m n i) = 0 := by
      rw [ls_congr (g := fun _ => 0) (fun i hi => by have := (mR i).1 hi; unfold gB; rw [if_neg (by omega)]; grind), ls_zero]
    have e6 : gB m n (m + n) = 1 := by simp [gB]
    rw [e4, e5, e6]; grind
  have hysum : ls C (fun j => z (j + 1)) = 1 := by
    have e := hyC (fun _ => 1)
    have e1 := htg (m + n) (by rw [← hxK]; exact hat 1 (by omega))
    rw [gR_sum] at e1
    have e6 : gB m n (m + n) = 1 := by simp [gB]
    rw [e6] at e1
    rw [← e1, ls_congr (g := fun j => 1 * z (j + 1)) (fun j _ => by grind), e]
    exact sm_congr fun j _ => by grind
  have hrowC : ∀ i, i < m → z 0 + ls C (fun j => A i j * z (j + 1)) = dot (n + 1) (gR m n A i) z := fun i hi => by rw [gR_row i hi, hyC (A i)]
  obtain ⟨v, hv⟩ : ∃ v, v = - W (m + n) := ⟨_, rfl⟩
  have hcolv : ∀ j ∈ C, ls R (fun i => A i j * W i) = v := fun j hj => by
    have := (mC j).1 hj
    rw [hcolR j this.1, if_neg this.2, hv]; grind
  have hrowv : ∀ i ∈ R, ls C (fun j => A i j * z (j + 1)) = v := fun i hi => by
    have hi' := (mR i).1 hi
    have e := hrowC i hi'.1
    rw [htg i hi'.2] at e
    have e6 : gB m n i = 0 := by unfold gB; rw [if_neg (by omega)]
    rw [e6] at e; grind
  have hCne : C ≠ [] := fun e => by rw [e] at hysum; exact absurd hysum (by simp [ls])
  have hrowis := row_is A R hRn C htot W v hsumR hcolv
  have hcolis := row_is (fun c r => A r c) C hCn R (by rw [tot_tr]; exact htot) (fun j => z (j + 1)) v hysum (fun i hi => hrowv i hi)
  rw [tot_tr] at hcolis
  refine ⟨p, q, R, C, W, fun j => z (j + 1), v, hR, hC, hlen2, hCne, htot, fun i hi => ⟨hrowis i hi, hW0 i (by have := (mR i).1 hi; omega)⟩, fun j hj => ⟨hcolis j hj, hy0 j ((mC j).1 hj).1⟩, ?_, fun i hi => ?_, fun j hj => ?_⟩
  · obtain ⟨j, hj⟩ : ∃ j, j ∈ C := List.exists_mem_of_ne_nil C hCne
    rw [← row_col A R hRn C j hj, ← hcolv j hj, ← ls_mul]
    exact ls_congr fun i hi => by rw [hrowis i hi]; grind
  · have e := hrowC i hi
    have e1 := hf i (by omega)
    have e6 : gB m n i = 0 := by unfold gB; rw [if_neg (by omega)]
    rw [e6] at e1
    rw [← e] at e1; grind
  · rw [hcolR j hj, hv]
    by_cases h : m + j ∈ x
    · rw [if_pos h]; have := hW0 (m + j) (by omega); grind
    · rw [if_neg h]; grind
end Go.Proofs.YthplbfjpmnpjmaaDoor.Lp
