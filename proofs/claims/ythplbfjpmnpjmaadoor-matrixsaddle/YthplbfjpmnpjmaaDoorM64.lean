/-
  games of one moment as rows; where the search for a best corner begins; von Neumann.
-/
import Derived.Test.YthplbfjpmnpjmaaDoorM63
namespace Go.Proofs.YthplbfjpmnpjmaaDoor.Lp
/-- The rows of a game: its own, each column's 'not below 0', and the sum. -/
def gR (m n : Nat) (A : Nat → Nat → Rat) (k c : Nat) : Rat :=
  if k < m then (if c = 0 then 1 else A k (c - 1)) else if k < m + n then (if c = k - m + 1 then -1 else 0) else (if c = 0 then 0 else 1)
def gO (c : Nat) : Rat := if c = 0 then 1 else 0
def gB (m n k : Nat) : Rat := if k = m + n then 1 else 0
section
variable {m n : Nat} {A : Nat → Nat → Rat}
theorem gR_row (i : Nat) (hi : i < m) (z : Nat → Rat) : dot (n + 1) (gR m n A i) z = z 0 + sm n (fun j => A i j * z (j + 1)) := by
  unfold dot
  rw [sm_first]
  have : gR m n A i 0 = 1 := by simp [gR, hi]
  rw [this]
  congr 1
  · grind
  · exact sm_congr fun j _ => by simp [gR, hi]
theorem gR_col (j : Nat) (hj : j < n) (z : Nat → Rat) : dot (n + 1) (gR m n A (m + j)) z = - z (j + 1) := by
  have e : dot (n + 1) (gR m n A (m + j)) z = sm (n + 1) (fun c => if c = j + 1 then - z (j + 1) else 0) := sm_congr fun c _ => by
    have h1 : ¬ m + j < m := by omega
    have h2 : m + j < m + n := by omega
    have h3 : m + j - m = j := by omega
    unfold gR
    rw [if_neg h1, if_pos h2, h3]
    by_cases h : c = j + 1
    · rw [if_pos h, if_pos h, h]; grind
    · rw [if_neg h, if_neg h]; grind
  rw [e, sm_one (n + 1) (j + 1) _ (by omega)]
theorem gR_sum (z : Nat → Rat) : dot (n + 1) (gR m n A (m + n)) z = sm n (fun j => z (j + 1)) := by
  unfold dot
  rw [sm_first]
  have h1 : ¬ m + n < m := by omega
  have : gR m n A (m + n) 0 = 0 := by simp [gR]
  rw [this]
  have e : sm n (fun i => gR m n A (m + n) (i + 1) * z (i + 1)) = sm n (fun j => z (j + 1)) := sm_congr fun j _ => by
    have : gR m n A (m + n) (j + 1) = 1 := by simp [gR]; omega
    rw [this]; grind
  rw [e]; grind
theorem gO_dot (z : Nat → Rat) : dot (n + 1) gO z = z 0 := by
  have e : dot (n + 1) gO z = sm (n + 1) (fun c => (if c = 0 then 1 else 0) * z c) := rfl
  rw [e, sm_pick (n + 1) 0 z (by omega)]
theorem g_bounded (hm : 1 ≤ m) (δ : Nat → Rat) (h0 : dot (n + 1) (gR m n A (m + n)) δ = 0) (hp : 0 < dot (n + 1) gO δ) : ∃ k, k < m + n ∧ 0 < dot (n + 1) (gR m n A k) δ := by
  rw [gR_sum] at h0
  rw [gO_dot] at hp
  by_cases h : ∃ j, j < n ∧ δ (j + 1) < 0
  · obtain ⟨j, hj, hd⟩ := h
    exact ⟨m + j, by omega, by rw [gR_col j hj]; grind⟩
  · have hz := sm_null (fun j hj => by
      by_cases hd : δ (j + 1) < 0
      · exact absurd ⟨j, hj, hd⟩ h
      · grind) h0
    refine ⟨0, by omega, ?_⟩
    rw [gR_row 0 (by omega), sm_congr (g := fun _ => 0) fun j hj => by rw [hz j hj]; grind, sm_zero]; grind
/-- Where it begins: the first column alone. -/
def x0 (m n i : Nat) : List Nat := i :: (m + n) :: (List.range (n - 1)).map (fun j => m + 1 + j)
theorem x0_at (i a : Nat) (hn : 1 ≤ n) (ha : a < n + 1) : (x0 m n i).getD a 0 = if a = 0 then i else if a = 1 then m + n else m + (a - 1) := by
  unfold x0
  match a, ha with
  | 0, _ => rfl
  | 1, _ => rfl
  | a + 2, ha =>
    rw [if_neg (by omega), if_neg (by omega)]
    simp only [List.getD_eq_getElem?_getD, List.getElem?_cons_succ, List.getElem?_map]
    rw [List.getElem?_range (by omega)]
    simp; omega
theorem g_first (hn : 1 ≤ n) (i : Nat) (hi : i < m) : ∃ g, Cor (n + 1) (m + n) (gR m n A) (x0 m n i) g := by
  obtain ⟨s, hs⟩ : ∃ s : Nat → Rat, s = fun a => if a < 2 then 1 else -1 := ⟨_, rfl⟩
  have hss : ∀ a, s a * s a = 1 := fun a => by rw [hs]; by_cases h : a < 2 <;> simp [h] <;> grind
  have hs0 : ∀ a, s a ≠ 0 := fun a e => by have := hss a; rw [e] at this; grind
  obtain ⟨r0, hr0⟩ : ∃ r0 : Nat → Nat → Rat, r0 = fun a c => if a = c then s a else 0 := ⟨_, rfl⟩
  have hdt : ∀ (u : Nat → Rat) b, b < n + 1 → dot (n + 1) u (r0 b) = u b * s b := fun u b hb => by
    rw [hr0]
    have e : dot (n + 1) u (fun c => if b = c then s b else 0) = sm (n + 1) (fun c => if c = b then u b * s b else 0) := sm_congr fun c _ => by
      dsimp only
      by_cases h : c = b
      · rw [if_pos h, if_pos h.symm, h]
      · rw [if_neg h, if_neg (Ne.symm h)]; grind
    rw [e, sm_one _ b _ hb]
  have h0 : Inv (n + 1) r0 r0 := by
    refine ⟨fun a ha b hb => ?_, fun c hc d hd => ?_, by rw [hr0]; exact mn_diag s hs0 _ List.nodup_range⟩
    · rw [hdt _ b hb, hr0]
      dsimp only
      by_cases h : a = b
      · rw [if_pos h, if_pos h, h, hss]
      · rw [if_neg h, if_neg h]; grind
    · have e : sm (n + 1) (fun a => r0 a c * r0 a d) = sm (n + 1) (fun a => if a = c then (if c = d then 1 else 0) else 0) := sm_congr fun a _ => by
        rw [hr0]
        dsimp only
        by_cases h : a = c
        · subst h
          by_cases h' : a = d
          · subst h'; rw [if_pos rfl]; simp [hss]
          · rw [if_neg h']; simp [h']
        · rw [if_neg h, if_neg h]; grind
      rw [e, sm_one _ c _ hc]
  have hK1 : gR m n A (m + n) 1 = 1 := by simp [gR]; omega
  have hK0 : gR m n A (m + n) 0 = 0 := by simp [gR]
  have hi0 : gR m n A i 0 = 1 := by simp [gR, hi]
  have hs1 : s 1 = 1 := by rw [hs]; simp
  have hsz : s 0 = 1 := by rw [hs]; simp
  have h1 := h0.swap 1 (by omega) (gR m n A (m + n)) (by rw [hdt _ 1 (by omega), hK1, hs1]; grind)
  have h2 := h1.swap 0 (by omega) (gR m n A i) (by
    have e : dot (n + 1) (gR m n A i) (gx (n + 1) r0 1 (gR m n A (m + n)) 0) = dot (n + 1) (gR m n A i) (r0 0) := by
      unfold gx
      rw [if_neg (by omega), dot_add, dot_mul, hdt (gR m n A (m + n)) 0 (by omega), hK0]; grind
    rw [e, hdt _ 0 (by omega), hi0, hsz]; grind)
  refine ⟨_, by simp [x0]; omega, by simp [x0], fun a ha h1 => ?_, h2.congr fun a ha c => ?_⟩
  · rw [x0_at i a hn ha]
    by_cases h : a = 0
    · rw [if_pos h]; omega
    · rw [if_neg h, if_neg h1]; omega
  · unfold rws
    rw [x0_at i a hn ha]
    unfold rx
    by_cases h : a = 0
    · rw [if_pos h, if_pos h]
    · rw [if_neg h, if_neg h]
      by_cases h1 : a = 1
      · rw [if_pos h1, if_pos h1]
      · rw [if_neg h1, if_neg h1, hr0]
        dsimp only
        have e1 : ¬ m + (a - 1) < m := by omega
        have e2 : m + (a - 1) < m + n := by omega
        have e3 : m + (a - 1) - m + 1 = a := by omega
        unfold gR
        rw [if_neg e1, if_pos e2, e3, hs]
        by_cases hc : a = c
        · rw [if_pos hc, if_pos hc.symm]; simp; omega
        · rw [if_neg hc, if_neg (Ne.symm hc)]
theorem g_start (hm : 1 ≤ m) (hn : 1 ≤ n) (d : Nat → Rat) (hd : d (m + n) = 0) : ∃ e, 0 < e ∧ ∀ ε, 0 < ε → ε ≤ e → ∃ x g z, Cor (n + 1) (m + n) (gR m n A) x g ∧ Tig (n + 1) (gR m n A) (fun j => gB m n j + ε * d j) x z ∧ Fea (n + 1) (m + n) (gR m n A) (fun j => gB m n j + ε * d j) z := by
  obtain ⟨e, he, ke⟩ := aff 1 (sm n (fun j => d (m + j)))
  refine ⟨e, he, fun ε h0 hle => ?_⟩
  have hpos := (ke ε h0 hle).2.1 (by grind)
  obtain ⟨y, hy⟩ : ∃ y : Nat → Rat, y = fun j => (if j = 0 then 1 + ε * sm n (fun j => d (m + j)) else 0) - ε * d (m + j) := ⟨_, rfl⟩
  have hysum : sm n y = 1 := by
    have e1 : sm n y = sm n (fun j => (if j = 0 then 1 + ε * sm n (fun j => d (m + j)) else 0) + (- ε) * d (m + j)) := sm_congr fun j _ => by rw [hy]; grind
    rw [e1, sm_add, sm_one n 0 _ (by omega), sm_mul]; grind
  have hy1 : ∀ j, j ≠ 0 → y j = - (ε * d (m + j)) := fun j h => by rw [hy]; dsimp only; rw [if_neg h]; grind
  have hy0 : y 0 = 1 + ε * sm n (fun j => d (m + j)) - ε * d m := by rw [hy]; simp
  obtain ⟨i, hi, v, hv, hmx⟩ := max_ex (fun i v => v = sm n (fun j => A i j * y j) - ε * d i) (fun i u v h1 h2 => by rw [h1, h2]) (List.range m) ⟨0, List.mem_range.2 (by omega), _, rfl⟩
  rw [List.mem_range] at hi
  obtain ⟨g, hc⟩ := g_first (A := A) hn i hi
  obtain ⟨z, hz⟩ : ∃ z : Nat → Rat, z = fun c => if c = 0 then - v else y (c - 1) := ⟨_, rfl⟩
  have hz0 : z 0 = - v := by rw [hz]; simp
  have hzj : ∀ j, z (j + 1) = y j := fun j => by rw [hz]; simp
  have hrow : ∀ i', i' < m → dot (n + 1) (gR m n A i') z = - v + sm n (fun j => A i' j * y j) := fun i' hi' => by
    rw [gR_row i' hi', hz0]; congr 1; exact sm_congr fun j _ => by rw [hzj]
  have hB : ∀ k, k ≠ m + n → gB m n k = 0 := fun k h => by simp [gB, h]
  have hBK : gB m n (m + n) = 1 := by simp [gB]
  refine ⟨_, g, z, hc, fun a ha => ?_, fun k hk => ?_⟩
  · unfold rws
    rw [x0_at i a hn ha]
    by_cases h : a = 0
    · rw [if_pos h, hrow i hi]
      dsimp only
      rw [hB i (by omega), hv]; grind
    · rw [if_neg h]
      by_cases h1 : a = 1
      · rw [if_pos h1, gR_sum]
        dsimp only
        rw [hBK, hd, sm_congr fun j _ => hzj j, hysum]; grind
      · rw [if_neg h1, gR_col (a - 1) (by omega), hzj, hy1 (a - 1) (by omega)]
        dsimp only
        rw [hB (m + (a - 1)) (by omega)]; grind
  · dsimp only
    rw [hB k (by omega)]
    by_cases h : k < m
    · rw [hrow k h]
      have := hmx k (List.mem_range.2 h) _ rfl
      grind
    · obtain ⟨j, rfl⟩ : ∃ j, k = m + j := ⟨k - m, by omega⟩
      rw [gR_col j (by omega), hzj]
      by_cases hj : j = 0
      · subst hj
        rw [hy0]; simp only [Nat.add_zero]; grind
      · rw [hy1 j hj]; grind
end
/-- VON NEUMANN, and more: a corner that serves both. -/
theorem game (m n : Nat) (hm : 1 ≤ m) (hn : 1 ≤ n) (A : Nat → Nat → Rat) : ∃ x g z, Cor (n + 1) (m + n) (gR m n A) x g ∧ Tig (n + 1) (gR m n A) (gB m n) x z ∧ Fea (n + 1) (m + n) (gR m n A) (gB m n) z ∧ ∀ p, p < n + 1 → p ≠ 1 → 0 ≤ dot (n + 1) gO (g p) :=
  opt (n + 1) (m + n) (by omega) (gR m n A) gO (gB m n) (g_bounded hm) (g_start hm hn)
end Go.Proofs.YthplbfjpmnpjmaaDoor.Lp
