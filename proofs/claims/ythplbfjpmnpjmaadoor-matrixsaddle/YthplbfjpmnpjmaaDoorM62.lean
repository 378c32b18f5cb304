/-
  corners of what rows allow: from one whose weight is below 0 to a better one; so there is a best one, where no more rows than needed stand tight.
-/
import Derived.Test.YthplbfjpmnpjmaaDoorM61
namespace Go.Proofs.YthplbfjpmnpjmaaDoor.Lp
/-- The rows that stand tight. -/
def rws (R : Nat → Nat → Rat) (x : List Nat) (a : Nat) : Nat → Rat := R (x.getD a 0)
theorem Inv.congr {N : Nat} {r r' g : Nat → Nat → Rat} (h : Inv N r g) (e : ∀ a, a < N → ∀ c, r a c = r' a c) : Inv N r' g :=
  ⟨fun a ha b hb => by rw [← h.one a ha b hb]; exact dot_congr (fun c _ => (e a ha c).symm) (fun _ _ => rfl), fun c hc d hd => by rw [← h.two c hc d hd]; exact sm_congr fun a ha => by rw [e a ha d], by rw [← mn_congr r r' _ _ fun a ha c _ => e a (List.mem_range.1 ha) c]; exact h.det⟩
theorem rws_set (R : Nat → Nat → Rat) (x : List Nat) (p k : Nat) (hp : p < x.length) (a : Nat) : rws R (x.set p k) a = rx (rws R x) p (R k) a := by
  unfold rws rx
  by_cases h : a = p
  · subst h; rw [if_pos rfl]; simp [List.getD_eq_getElem?_getD, hp]
  · rw [if_neg h]; simp [List.getD_eq_getElem?_getD, List.getElem?_set_ne (Ne.symm h)]
/-- A corner: as many rows as there are columns stand tight, the one at place 1 for ever (its number is K). -/
structure Cor (N K : Nat) (R : Nat → Nat → Rat) (x : List Nat) (g : Nat → Nat → Rat) : Prop where
  len : x.length = N
  sum : x[1]? = some K
  low : ∀ a, a < N → a ≠ 1 → x.getD a 0 < K
  inv : Inv N (rws R x) g
/-- What stands at the corner. -/
def Tig (N : Nat) (R : Nat → Nat → Rat) (b : Nat → Rat) (x : List Nat) (z : Nat → Rat) : Prop := ∀ a, a < N → dot N (rws R x a) z = b (x.getD a 0)
def Fea (N K : Nat) (R : Nat → Nat → Rat) (b : Nat → Rat) (z : Nat → Rat) : Prop := ∀ k, k < K → dot N (R k) z ≤ b k
theorem Tig.one {N K : Nat} {R : Nat → Nat → Rat} {b : Nat → Rat} {x : List Nat} {g : Nat → Nat → Rat} {z z' : Nat → Rat} (h : Cor N K R x g) (t : Tig N R b x z) (t' : Tig N R b x z') (c : Nat) (hc : c < N) : z c = z' c := by
  rw [h.inv.sol z c hc, h.inv.sol z' c hc]
  exact sm_congr fun a ha => by rw [t a ha, t' a ha]
theorem over_le (s t θ : Rat) (ht : 0 < t) (h : s / t ≤ - θ) : s + θ * t ≤ 0 := by
  have h1 : s / t * t ≤ (- θ) * t := Rat.mul_le_mul_of_nonneg_right h (by grind)
  have h2 : s / t * t = s := by grind
  grind
/-- If one row's weight is below 0, there is a better corner. -/
theorem better (N K : Nat) (hN : 2 ≤ N) (R : Nat → Nat → Rat) (o b : Nat → Rat) (x : List Nat) (g : Nat → Nat → Rat) (z : Nat → Rat) (hc : Cor N K R x g) (ht : Tig N R b x z) (hf : Fea N K R b z)
    (hnd : ∀ k, k < K → k ∉ x → dot N (R k) z ≠ b k)
    (hbd : ∀ δ, dot N (R K) δ = 0 → 0 < dot N o δ → ∃ k, k < K ∧ 0 < dot N (R k) δ)
    (p : Nat) (hp : p < N) (hp1 : p ≠ 1) (hl : dot N o (g p) < 0) :
    ∃ x' g' z', Cor N K R x' g' ∧ Tig N R b x' z' ∧ Fea N K R b z' ∧ dot N o z < dot N o z' := by
  obtain ⟨δ, hδ⟩ : ∃ δ : Nat → Rat, δ = fun c => (-1) * g p c := ⟨_, rfl⟩
  have dδ : ∀ u, dot N u δ = - dot N u (g p) := fun u => by rw [hδ, dot_mul]; grind
  have hK : x.getD 1 0 = K := by rw [List.getD_eq_getElem?_getD, hc.sum]; rfl
  have hs0 : dot N (R K) δ = 0 := by
    have := hc.inv.one 1 (by omega) p hp
    rw [if_neg (Ne.symm hp1)] at this
    unfold rws at this
    rw [hK] at this
    rw [dδ, this]; grind
  obtain ⟨k0, hk0, hk0'⟩ := hbd δ hs0 (by rw [dδ]; grind)
  obtain ⟨k, hkm, v, ⟨hk1, hk2⟩, hmx⟩ := max_ex (fun k v => 0 < dot N (R k) δ ∧ v = (dot N (R k) z - b k) / dot N (R k) δ) (fun k u v h1 h2 => by rw [h1.2, h2.2]) (List.range K) ⟨k0, List.mem_range.2 hk0, _, hk0', rfl⟩
  rw [List.mem_range] at hkm
  have hkx : k ∉ x := by
    intro hm
    obtain ⟨a, ha, hak⟩ := List.mem_iff_getElem.1 hm
    rw [hc.len] at ha
    have e := hc.inv.one a ha p hp
    have hg : x.getD a 0 = k := by rw [List.getD_eq_getElem?_getD, List.getElem?_eq_getElem (by rw [hc.len]; exact ha)]; exact hak
    unfold rws at e
    rw [hg] at e
    rw [dδ, e] at hk1
    by_cases hap : a = p
    · rw [if_pos hap] at hk1; grind
    · rw [if_neg hap] at hk1; grind
  obtain ⟨τ, hτ⟩ : ∃ τ, τ = dot N (R k) δ := ⟨_, rfl⟩
  obtain ⟨θ, hθ⟩ : ∃ θ, θ = - v := ⟨_, rfl⟩
  have hθτ : θ * τ = b k - dot N (R k) z := by rw [hθ, hk2, ← hτ]; rw [← hτ] at hk1; grind
  have hθ0 : 0 < θ := by
    have h1 := hf k hkm
    have h2 := hnd k hkm hkx
    have h3 : 0 < θ * τ := by grind
    rw [← hτ] at hk1
    by_cases h : 0 < θ
    · exact h
    · have : 0 ≤ (-θ) * τ := Rat.mul_nonneg (by grind) (by grind)
      grind
  refine ⟨x.set p k, gx N g p (R k), fun c => z c + θ * δ c, ⟨by simp [hc.len], ?_, ?_, ?_⟩, ?_, ?_, ?_⟩
  · rw [List.getElem?_set_ne (by omega)]; exact hc.sum
  · intro a ha ha1
    by_cases h : a = p
    · subst h; simp [List.getD_eq_getElem?_getD, hc.len, ha, hkm]
    · have := hc.low a ha ha1
      simpa [List.getD_eq_getElem?_getD, List.getElem?_set_ne (Ne.symm h)] using this
  · refine (hc.inv.swap p hp (R k) ?_).congr fun a _ c => by rw [rws_set R x p k (by rw [hc.len]; exact hp)]
    have := dδ (R k)
    grind
  · intro a ha
    rw [rws_set R x p k (by rw [hc.len]; exact hp), dot_add, dot_mul]
    unfold rx
    by_cases h : a = p
    · subst h
      rw [if_pos rfl, ← hτ, hθτ]
      simp [List.getD_eq_getElem?_getD, hc.len, ha]; grind
    · rw [if_neg h, ht a ha, dδ, hc.inv.one a ha p hp, if_neg h]
      simp [List.getD_eq_getElem?_getD, List.getElem?_set_ne (Ne.symm h)]; grind
  · intro k' hk'
    rw [dot_add, dot_mul]
    by_cases h : 0 < dot N (R k') δ
    · have h1 := hmx k' (List.mem_range.2 hk') _ ⟨h, rfl⟩
      have h2 : (dot N (R k') z - b k') / dot N (R k') δ ≤ - θ := by grind
      have h3 := over_le _ _ _ h h2
      clear hmx hnd hbd
      grind
    · have h1 := hf k' hk'
      have : 0 ≤ θ * (- dot N (R k') δ) := Rat.mul_nonneg (by grind) (by grind)
      grind
  · rw [dot_add, dot_mul, dδ]
    have : 0 < θ * (- dot N o (g p)) := Rat.mul_pos hθ0 (by grind)
    grind
/-- So there is a best one, all of whose weights are from 0 on. -/
theorem best (N K : Nat) (hN : 2 ≤ N) (R : Nat → Nat → Rat) (o b : Nat → Rat)
    (hnd : ∀ x g z, Cor N K R x g → Tig N R b x z → ∀ k, k < K → k ∉ x → dot N (R k) z ≠ b k)
    (hbd : ∀ δ, dot N (R K) δ = 0 → 0 < dot N o δ → ∃ k, k < K ∧ 0 < dot N (R k) δ)
    (hst : ∃ x g z, Cor N K R x g ∧ Tig N R b x z ∧ Fea N K R b z) :
    ∃ x g z, Cor N K R x g ∧ Tig N R b x z ∧ Fea N K R b z ∧ ∀ p, p < N → p ≠ 1 → 0 ≤ dot N o (g p) := by
  have hin : ∀ x g, Cor N K R x g → x ∈ allL (K + 1) N := fun x g h => (mem_allL (K + 1) N x).2 ⟨h.len, fun k hk => by
    obtain ⟨a, ha, hak⟩ := List.mem_iff_getElem.1 hk
    have hla := h.len
    by_cases h1 : a = 1
    · have := h.sum
      subst h1
      rw [List.getElem?_eq_getElem ha, hak] at this
      cases this; omega
    · have := h.low a (by omega) h1
      rw [List.getD_eq_getElem?_getD, List.getElem?_eq_getElem ha, hak] at this
      simp at this; omega⟩
  obtain ⟨x0, g0, z0, c0, t0, f0⟩ := hst
  obtain ⟨x, hx, v, ⟨g, z, hc, ht, hf, hv⟩, hmx⟩ := max_ex (fun x v => ∃ g z, Cor N K R x g ∧ Tig N R b x z ∧ Fea N K R b z ∧ v = dot N o z)
    (fun x u v h1 h2 => by
      obtain ⟨g1, z1, c1, t1, f1, e1⟩ := h1
      obtain ⟨g2, z2, c2, t2, f2, e2⟩ := h2
      rw [e1, e2]
      exact dot_congr (fun _ _ => rfl) (fun c hc => Tig.one c1 t1 t2 c hc))
    (allL (K + 1) N) ⟨x0, hin _ _ c0, _, g0, z0, c0, t0, f0, rfl⟩
  refine ⟨x, g, z, hc, ht, hf, fun p hp hp1 => ?_⟩
  by_cases hl : dot N o (g p) < 0
  · obtain ⟨x', g', z', hc', ht', hf', hlt⟩ := better N K hN R o b x g z hc ht hf (hnd x g z hc ht) hbd p hp hp1 hl
    have := hmx x' (hin _ _ hc') _ ⟨g', z', hc', ht', hf', rfl⟩
    grind
  · grind
end Go.Proofs.YthplbfjpmnpjmaaDoor.Lp
