/-
  corners of what rows allow: from one whose weight is below 0 to a better one; so there is a best one, where no more rows than needed stand tight.
  the same without that premise: what is asked is moved a little.
-/
import Derived.Test.YthplbfjpmnpjmaaDoorJ21
namespace Go.Proofs.YthplbfjpmnpjmaaDoor.Lp
/-- The rows that stand tight. -/
def rws (R : Nat → Nat → Rat) (x : List Nat) (a : Nat) : Nat → Rat := R (x.getD a 0)
theorem Inv.congr {N : Nat} {r r' g : Nat → Nat → Rat} (h : Inv N r g) (e : ∀ a, a < N → ∀ c, r a c = r' a c) : Inv N r' g :=
  ⟨fun a ha b hb => by rw [← h.one a ha b hb]; exact dot_congr (fun c _ => (e a ha c).symm) (fun _ _ => rfl), fun c hc d hd => by rw [← h.two c hc d hd]; exact sm_congr fun a ha => by rw [e a ha d], by rw [← mn_congr r r' _ _ fun a ha c _ => e a (List.mem_range.1 ha) c]; exact h.det⟩
theorem rws_set (R : Nat → Nat → Rat) (x : List Nat) (p k : Nat) (hp : p < x.length) (a : Nat) : rws R (x.set p k) a = rx (rws R x) p (R k) a := by
  unfold rws rx
  by_cases h : a = p
  · subst h; rw [if_pos rfl]; simp [List.getD_eq_getElem?_getD, hp]
  · rw [if_neg h]; simp [List.getD_eq_getElem?_getD, List.getElem?_set_ne (Ne.symm h)]
/-- A corner: as many rows as there are columns stand tight, the one at place 1 for ever (its number is K). -/
structure Cor (N K : Nat) (R : Nat → Nat → Rat) (x : List Nat) (g : Nat → Nat → Rat) : Prop where
  len : x.length = N
  sum : x[1]? = some K
  low : ∀ a, a < N → a ≠ 1 → x.getD a 0 < K
  inv : Inv N (rws R x) g
/-- What stands at the corner. -/
def Tig (N : Nat) (R : Nat → Nat → Rat) (b : Nat → Rat) (x : List Nat) (z : Nat → Rat) : Prop := ∀ a, a < N → dot N (rws R x a) z = b (x.getD a 0)
def Fea (N K : Nat) (R : Nat → Nat → Rat) (b : Nat → Rat) (z : Nat → Rat) : Prop := ∀ k, k < K → dot N (R k) z ≤ b k
theorem Tig.one {N K : Nat} {R : Nat → Nat → Rat} {b : Nat → Rat} {x : List Nat} {g : Nat → Nat → Rat} {z z' : Nat → Rat} (h : Cor N K R x g) (t : Tig N R b x z) (t' : Tig N R b x z') (c : Nat) (hc : c < N) : z c = z' c := by
  rw [h.inv.sol z c hc, h.inv.sol z' c hc]
  exact sm_congr fun a ha => by rw [t a ha, t' a ha]
theorem over_le (s t θ : Rat) (ht : 0 < t) (h : s / t ≤ - θ) : s + θ * t ≤ 0 := by
  have h1 : s / t * t ≤ (- θ) * t := Rat.mul_le_mul_of_nonneg_right h (by grind)
  have h2 : s / t * t = s := by grind
  grind
/-- If one row's weight is below 0, there is a better corner. -/
theorem better (N K : Nat) (hN : 2 ≤ N) (R : Nat → Nat → Rat) (o b : Nat → Rat) (x : List Nat) (g : Nat → Nat → Rat) (z : Nat → Rat) (hc : Cor N K R x g) (ht : Tig N R b x z) (hf : Fea N K R b z)
    (hnd : ∀ k, k < K → k ∉ x → dot N (R k) z ≠ b k)
    (hbd : ∀ δ, dot N (R K) δ = 0 → 0 < dot N o δ → ∃ k, k < K ∧ 0 < dot N (R k) δ)
    (p : Nat) (hp : p < N) (hp1 : p ≠ 1) (hl : dot N o (g p) < 0) :
    ∃ x' g' z', Cor N K R x' g' ∧ Tig N R b x' z' ∧ Fea N K R b z' ∧ dot N o z < dot N o z' := by
  obtain ⟨δ, hδ⟩ : ∃ δ : Nat → Rat, δ = fun c => (-1) * g p c := ⟨_, rfl⟩
  have dδ : ∀ u, dot N u δ = - dot N u (g p) := fun u => by rw [hδ, dot_mul]; grind
  have hK : x.getD 1 0 = K := by rw [List.getD_eq_getElem?_getD, hc.sum]; rfl
  have hs0 : dot N (R K) δ = 0 := by
    have := hc.inv.one 1 (by omega) p hp
    rw [if_neg (Ne.symm hp1)] at this
    unfold rws at this
    rw [hK] at this
    rw [dδ, this]; grind
  obtain ⟨k0, hk0, hk0'⟩ := hbd δ hs0 (by rw [dδ]; grind)
  obtain ⟨k, hkm, v, ⟨hk1, hk2⟩, hmx⟩ := max_ex (fun k v => 0 < dot N (R k) δ ∧ v = (dot N (R k) z - b k) / dot N (R k) δ) (fun k u v h1 h2 => by rw [h1.2, h2.2]) (List.range K) ⟨k0, List.mem_range.2 hk0, _, hk0', rfl⟩
  rw [List.mem_range] at hkm
  have hkx : k ∉ x := by
    intro hm
    obtain ⟨a, ha, hak⟩ := List.mem_iff_getElem.1 hm
    rw [hc.len] at ha
    have e := hc.inv.one a ha p hp
    have hg : x.getD a 0 = k := by rw [List.getD_eq_getElem?_getD, List.getElem?_eq_getElem (by rw [hc.len]; exact ha)]; exact hak
    unfold rws at e
    rw [hg] at e
    rw [dδ, e] at hk1
    by_cases hap : a = p
    · rw [if_pos hap] at hk1; grind
    · rw [if_neg hap] at hk1; grind
  obtain ⟨τ, hτ⟩ : ∃ τ, τ = dot N (R k) δ := ⟨_, rfl⟩
  obtain ⟨θ, hθ⟩ : ∃ θ, θ = - v := ⟨_, rfl⟩
  have hθτ : θ * τ = b k - dot N (R k) z := by rw [hθ, hk2, ← hτ]; rw [← hτ] at hk1; grind
  have hθ0 : 0 < θ := by
    have h1 := hf k hkm
    have h2 := hnd k hkm hkx
    have h3 : 0 < θ * τ := by grind
    rw [← hτ] at hk1
    by_cases h : 0 < θ
    · exact h
    · have : 0 ≤ (-θ) * τ := Rat.mul_nonneg (by grind) (by grind)
      grind
  refine ⟨x.set p k, gx N g p (R k), fun c => z c + θ * δ c, ⟨by simp [hc.len], ?_, ?_, ?_⟩, ?_, ?_, ?_⟩
  · rw [List.getElem?_set_ne (by omega)]; exact hc.sum
  · intro a ha ha1
    by_cases h : a = p
    · subst h; simp [List.getD_eq_getElem?_getD, hc.len, ha, hkm]
    · have := hc.low a ha ha1
      simpa [List.getD_eq_getElem?_getD, List.getElem?_set_ne (Ne.symm h)] using this
  · refine (hc.inv.swap p hp (R k) ?_).congr fun a _ c => by rw [rws_set R x p k (by rw [hc.len]; exact hp)]
    have := dδ (R k)
    grind
  · intro a ha
    rw [rws_set R x p k (by rw [hc.len]; exact hp), dot_add, dot_mul]
    unfold rx
    by_cases h : a = p
    · subst h
      rw [if_pos rfl, ← hτ, hθτ]
      simp [List.getD_eq_getElem?_getD, hc.len, ha]; grind
    · rw [if_neg h, ht a ha, dδ, hc.inv.one a ha p hp, if_neg h]
      simp [List.getD_eq_getElem?_getD, List.getElem?_set_ne (Ne.symm h)]; grind
  · intro k' hk'
    rw [dot_add, dot_mul]
    by_cases h : 0 < dot N (R k') δ
    · have h1 := hmx k' (List.mem_range.2 hk') _ ⟨h, rfl⟩
      have h2 : (dot N (R k') z - b k') / dot N (R k') δ ≤ - θ := by grind
      have h3 := over_le _ _ _ h h2
      clear hmx hnd hbd
      grind
    · have h1 := hf k' hk'
      have : 0 ≤ θ * (- dot N (R k') δ) := Rat.mul_nonneg (by grind) (by grind)
      grind
  · rw [dot_add, dot_mul, dδ]
    have : 0 < θ * (- dot N o (g p)) := Rat.mul_pos hθ0 (by grind)
    grind
/-- So there is a best one, all of whose weights are from 0 on. -/
theorem best (N K : Nat) (hN : 2 ≤ N) (R : Nat → Nat → Rat) (o b : Nat → Rat)
    (hnd : ∀ x g z, Cor N K R x g → Tig N R b x z → ∀ k, k < K → k ∉ x → dot N (R k) z ≠ b k)
    (hbd : ∀ δ, dot N (R K) δ = 0 → 0 < dot N o δ → ∃ k, k < K ∧ 0 < dot N (R k) δ)
    (hst : ∃ x g z, Cor N K R x g ∧ Tig N R b x z ∧ Fea N K R b z) :
    ∃ x g z, Cor N K R x g ∧ Tig N R b x z ∧ Fea N K R b z ∧ ∀ p, p < N → p ≠ 1 → 0 ≤ dot N o (g p) := by
  have hin : ∀ x g, Cor N K R x g → x ∈ allL (K + 1) N := fun x g h => (mem_allL (K + 1) N x).2 ⟨h.len, fun k hk => by
    obtain ⟨a, ha, hak⟩ := List.mem_iff_getElem.1 hk
    have hla := h.len
    by_cases h1 : a = 1
    · have := h.sum
      subst h1
      rw [List.getElem?_eq_getElem ha, hak] at this
      cases this; omega
    · have := h.low a (by omega) h1
      rw [List.getD_eq_getElem?_getD, List.getElem?_eq_getElem ha, hak] at this
      simp at this; omega⟩
  obtain ⟨x0, g0, z0, c0, t0, f0⟩ := hst
  obtain ⟨x, hx, v, ⟨g, z, hc, ht, hf, hv⟩, hmx⟩ := max_ex (fun x v => ∃ g z, Cor N K R x g ∧ Tig N R b x z ∧ Fea N K R b z ∧ v = dot N o z)
    (fun x u v h1 h2 => by
      obtain ⟨g1, z1, c1, t1, f1, e1⟩ := h1
      obtain ⟨g2, z2, c2, t2, f2, e2⟩ := h2
      rw [e1, e2]
      exact dot_congr (fun _ _ => rfl) (fun c hc => Tig.one c1 t1 t2 c hc))
    (allL (K + 1) N) ⟨x0, hin _ _ c0, _, g0, z0, c0, t0, f0, rfl⟩
  refine ⟨x, g, z, hc, ht, hf, fun p hp hp1 => ?_⟩
  by_cases hl : dot N o (g p) < 0
  · obtain ⟨x', g', z', hc', ht', hf', hlt⟩ := better N K hN R o b x g z hc ht hf (hnd x g z hc ht) hbd p hp hp1 hl
    have := hmx x' (hin _ _ hc') _ ⟨g', z', hc', ht', hf', rfl⟩
    grind
  · grind
end Go.Proofs.YthplbfjpmnpjmaaDoor.Lp

namespace Go.Proofs.YthplbfjpmnpjmaaDoor.Lp
theorem small {ι : Type} (G : ι → Rat → Prop) : ∀ (L : List ι), (∀ i ∈ L, ∃ e, 0 < e ∧ ∀ ε, 0 < ε → ε ≤ e → G i ε) → ∃ e : Rat, 0 < e ∧ ∀ i ∈ L, ∀ ε, 0 < ε → ε ≤ e → G i ε := by
  intro L
  induction L with
  | nil => intro _; exact ⟨1, by grind, fun i hi => by cases hi⟩
  | cons j L ih =>
    intro h
    obtain ⟨e1, h1, k1⟩ := ih fun i hi => h i (List.mem_cons_of_mem _ hi)
    obtain ⟨e2, h2, k2⟩ := h j List.mem_cons_self
    refine ⟨min e1 e2, by grind, fun i hi ε he hle => ?_⟩
    rcases List.mem_cons.1 hi with rfl | hi
    · exact k2 ε he (by grind)
    · exact k1 i hi ε he (by grind)
theorem aff (s t : Rat) : ∃ e : Rat, 0 < e ∧ ∀ ε, 0 < ε → ε ≤ e → (s < 0 → s + ε * t < 0) ∧ (0 < s → 0 < s + ε * t) ∧ (s ≠ 0 ∨ t ≠ 0 → s + ε * t ≠ 0) := by
  obtain ⟨m, hm0, hm1, hm2⟩ : ∃ m : Rat, 0 ≤ m ∧ t ≤ m ∧ - m ≤ t := ⟨if 0 ≤ t then t else -t, by grind, by grind, by grind⟩
  by_cases hs : s = 0
  · refine ⟨1, by grind, fun ε he _ => ⟨by grind, by grind, fun h => ?_⟩⟩
    have ht : t ≠ 0 := by grind
    have : ε * t ≠ 0 := fun e => (Rat.mul_eq_zero.1 e).elim (fun e => by grind) ht
    grind
  · obtain ⟨q, hq, hq1⟩ : ∃ q : Rat, 0 < q ∧ (q = s ∨ q = -s) := ⟨if 0 ≤ s then s else -s, by grind, by grind⟩
    obtain ⟨e, he⟩ : ∃ e, e = q / (2 * (m + 1)) := ⟨_, rfl⟩
    have h2 : 0 < 2 * (m + 1) := by grind
    have he2 : e * (2 * (m + 1)) = q := by rw [he]; grind
    have he0 : 0 < e := by
      by_cases h : 0 < e
      · exact h
      · have : 0 ≤ (-e) * (2 * (m + 1)) := Rat.mul_nonneg (by grind) (by grind)
        grind
    refine ⟨e, he0, fun ε hε hle => ?_⟩
    have a1 : ε * m ≤ e * m := Rat.mul_le_mul_of_nonneg_right hle hm0
    have a2 : ε * t ≤ ε * m := Rat.mul_le_mul_of_nonneg_left hm1 (by grind)
    have a3 : ε * (-m) ≤ ε * t := Rat.mul_le_mul_of_nonneg_left hm2 (by grind)
    have a4 : 2 * (e * m) + 2 * e = q := by grind
    refine ⟨fun h => by grind, fun h => by grind, fun _ => by grind⟩
theorem gen_d {ι : Type} (K : Nat) (T : ι → (Nat → Rat) → Prop) : ∀ (L : List ι), (∀ i ∈ L, ∃ l, T i l ∧ ∃ j, j < K ∧ l j ≠ 0) → ∃ d : Nat → Rat, ∀ i ∈ L, ∃ l, T i l ∧ dot K l d ≠ 0 := by
  intro L
  induction L with
  | nil => intro _; exact ⟨fun _ => 0, fun i hi => by cases hi⟩
  | cons i0 L ih =>
    intro h
    obtain ⟨d, hd⟩ := ih fun i hi => h i (List.mem_cons_of_mem _ hi)
    obtain ⟨l0, t0, j, hj, hl0⟩ := h i0 List.mem_cons_self
    obtain ⟨u, hu⟩ : ∃ u : Nat → Rat, u = fun c => if c = j then 1 else 0 := ⟨_, rfl⟩
    have hlu : ∀ l : Nat → Rat, dot K l u = l j := fun l => by
      rw [hu]; unfold dot
      rw [← sm_pick K j l hj]
      exact sm_congr fun i _ => by grind
    obtain ⟨e1, he1, k1⟩ := small (fun i ε => ∃ l, T i l ∧ dot K l d + ε * dot K l u ≠ 0) L fun i hi => by
      obtain ⟨l, tl, hl⟩ := hd i hi
      obtain ⟨e, he, ke⟩ := aff (dot K l d) (dot K l u)
      exact ⟨e, he, fun ε a b => ⟨l, tl, (ke ε a b).2.2 (.inl hl)⟩⟩
    obtain ⟨e2, he2, k2⟩ := aff (dot K l0 d) (dot K l0 u)
    obtain ⟨ε, hε⟩ : ∃ ε, ε = min e1 e2 := ⟨_, rfl⟩
    have e0 : 0 < ε := by grind
    refine ⟨fun c => d c + ε * u c, fun i hi => ?_⟩
    have hdd : ∀ l, dot K l (fun c => d c + ε * u c) = dot K l d + ε * dot K l u := fun l => by rw [dot_add, dot_mul]
    rcases List.mem_cons.1 hi with rfl | hi
    · exact ⟨l0, t0, by rw [hdd]; exact (k2 ε e0 (by grind)).2.2 (.inr (by rw [hlu]; exact hl0))⟩
    · obtain ⟨l, tl, hl⟩ := k1 i hi ε e0 (by grind)
      exact ⟨l, tl, by rw [hdd]; exact hl⟩
theorem Inv.uniq {N : Nat} {r g g' : Nat → Nat → Rat} (h : Inv N r g) (h' : Inv N r g') (b : Nat) (hb : b < N) (c : Nat) (hc : c < N) : g' b c = g b c := by
  rw [h.sol (g' b) c hc]
  have : sm N (fun a => dot N (r a) (g' b) * g a c) = sm N (fun a => (if a = b then 1 else 0) * g a c) := sm_congr fun a ha => by rw [h'.one a ha b hb]
  rw [this, sm_pick N b (fun a => g a c) hb]
/-- How far a row is from being tight. -/
def sl (N : Nat) (R : Nat → Nat → Rat) (x : List Nat) (g : Nat → Nat → Rat) (k : Nat) (b : Nat → Rat) : Rat := b k - sm N (fun a => b (x.getD a 0) * dot N (R k) (g a))
theorem sl_uniq {N K : Nat} {R : Nat → Nat → Rat} {x : List Nat} {g g' : Nat → Nat → Rat} (h : Cor N K R x g) (h' : Cor N K R x g') (k : Nat) (b : Nat → Rat) : sl N R x g' k b = sl N R x g k b := by
  unfold sl
  congr 1
  exact sm_congr fun a ha => by rw [dot_congr (fun _ _ => rfl) (fun c hc => h.inv.uniq h'.inv a ha c hc)]
theorem sl_lin {N : Nat} {R : Nat → Nat → Rat} {x : List Nat} {g : Nat → Nat → Rat} (k : Nat) (b d : Nat → Rat) (ε : Rat) : sl N R x g k (fun j => b j + ε * d j) = sl N R x g k b + ε * sl N R x g k d := by
  unfold sl
  have : sm N (fun a => (b (x.getD a 0) + ε * d (x.getD a 0)) * dot N (R k) (g a)) = sm N (fun a => b (x.getD a 0) * dot N (R k) (g a)) + ε * sm N (fun a => d (x.getD a 0) * dot N (R k) (g a)) := by
    rw [← sm_mul, ← sm_add]; exact sm_congr fun a _ => by grind
  rw [this]; grind
theorem sl_tig {N K : Nat} {R : Nat → Nat → Rat} {b : Nat → Rat} {x : List Nat} {g : Nat → Nat → Rat} {z : Nat → Rat} (h : Cor N K R x g) (t : Tig N R b x z) (k : Nat) : sl N R x g k b = b k - dot N (R k) z := by
  unfold sl
  have : dot N (R k) z = sm N (fun a => b (x.getD a 0) * dot N (R k) (g a)) := by
    have e : dot N (R k) z = dot N (R k) (fun c => sm N (fun a => b (x.getD a 0) * g a c)) := dot_congr (fun _ _ => rfl) fun c hc => by
      rw [h.inv.sol z c hc]; exact sm_congr fun a ha => by rw [t a ha]
    rw [e, dot_sm N N (R k) (fun a c => b (x.getD a 0) * g a c)]
    exact sm_congr fun a _ => by rw [dot_mul]
  rw [this]
theorem tig_of {N K : Nat} {R : Nat → Nat → Rat} {x : List Nat} {g : Nat → Nat → Rat} (h : Cor N K R x g) (b : Nat → Rat) : Tig N R b x (fun c => sm N (fun a => b (x.getD a 0) * g a c)) := by
  intro a ha
  rw [dot_sm N N _ (fun a c => b (x.getD a 0) * g a c)]
  rw [← sm_pick N a (fun a => b (x.getD a 0)) ha]
  exact sm_congr fun i hi => by rw [dot_mul, h.inv.one a ha i hi]; grind
/-- Without any premise on what may stand tight besides: there is a corner that is allowed, and whose weights are from 0 on. -/
theorem opt (N K : Nat) (hN : 2 ≤ N) (R : Nat → Nat → Rat) (o b : Nat → Rat)
    (hbd : ∀ δ, dot N (R K) δ = 0 → 0 < dot N o δ → ∃ k, k < K ∧ 0 < dot N (R k) δ)
    (hst : ∀ d : Nat → Rat, d K = 0 → ∃ e, 0 < e ∧ ∀ ε, 0 < ε → ε ≤ e → ∃ x g z, Cor N K R x g ∧ Tig N R (fun j => b j + ε * d j) x z ∧ Fea N K R (fun j => b j + ε * d j) z) :
    ∃ x g z, Cor N K R x g ∧ Tig N R b x z ∧ Fea N K R b z ∧ ∀ p, p < N → p ≠ 1 → 0 ≤ dot N o (g p) := by
  have hin : ∀ x g, Cor N K R x g → x ∈ allL (K + 1) N := fun x g h => (mem_allL (K + 1) N x).2 ⟨h.len, fun k hk => by
    obtain ⟨a, ha, hak⟩ := List.mem_iff_getElem.1 hk
    have hla := h.len
    by_cases h1 : a = 1
    · have := h.sum
      subst h1
      rw [List.getElem?_eq_getElem ha, hak] at this
      cases this; omega
    · have := h.low a (by omega) h1
      rw [List.getD_eq_getElem?_getD, List.getElem?_eq_getElem ha, hak] at this
      simp at this; omega⟩
  obtain ⟨L, hL⟩ : ∃ L : List (List Nat × Nat), L = (allL (K + 1) N).flatMap fun x => (List.range K).map fun k => (x, k) := ⟨_, rfl⟩
  have hmem : ∀ x g k, Cor N K R x g → k < K → (x, k) ∈ L := fun x g k h hk => by
    rw [hL, List.mem_flatMap]
    exact ⟨x, hin x g h, List.mem_map.2 ⟨k, List.mem_range.2 hk, rfl⟩⟩
  have hlt : ∀ i ∈ L, i.2 < K := fun i hi => by
    rw [hL, List.mem_flatMap] at hi
    obtain ⟨x, -, hx⟩ := hi
    obtain ⟨k, hk, rfl⟩ := List.mem_map.1 hx
    exact List.mem_range.1 hk
  obtain ⟨d0, hd0⟩ := gen_d K (fun (i : List Nat × Nat) l => ∀ g, Cor N K R i.1 g → i.2 ∉ i.1 → ∀ d : Nat → Rat, d K = 0 → sl N R i.1 g i.2 d = dot K l d) L fun i hi => by
    obtain ⟨x, k⟩ := i
    have hk := hlt _ hi
    dsimp only at hk ⊢
    by_cases h : (∃ g, Cor N K R x g) ∧ k ∉ x
    · obtain ⟨⟨g, hg⟩, hkx⟩ := h
      have hne : ∀ a, a < N → x.getD a 0 ≠ k := fun a ha e => by
        have hla := hg.len
        rw [List.getD_eq_getElem?_getD, List.getElem?_eq_getElem (by omega)] at e
        exact hkx (by rw [← show x[a] = k from e]; exact List.getElem_mem _)
      refine ⟨fun j => (if j = k then 1 else 0) - sm N (fun a => if x.getD a 0 = j then dot N (R k) (g a) else 0), fun g' hg' _ d hdK => ?_, k, hk, ?_⟩
      · rw [sl_uniq hg hg']
        unfold sl dot
        have e1 : sm K (fun c => ((if c = k then 1 else 0) - sm N (fun a => if x.getD a 0 = c then sm N (fun c => R k c * g a c) else 0)) * d c) = sm K (fun c => (if c = k then 1 else 0) * d c) + sm K (fun c => sm N (fun a => (if x.getD a 0 = c then 1 else 0) * (-(d (x.getD a 0) * sm N (fun c => R k c * g a c))))) := by
          rw [← sm_add]
          refine sm_congr fun c _ => ?_
          have : sm N (fun a => (if x.getD a 0 = c then 1 else 0) * (-(d (x.getD a 0) * sm N (fun c => R k c * g a c)))) = sm N (fun a => (- d c) * (if x.getD a 0 = c then sm N (fun c => R k c * g a c) else 0)) := sm_congr fun a _ => by
            by_cases h : x.getD a 0 = c
            · rw [if_pos h, if_pos h, h]; grind
            · rw [if_neg h, if_neg h]; grind
          rw [this, sm_mul]; grind
        rw [e1, sm_pick K k d hk, sm_swap]
        have e2 : sm N (fun a => sm K (fun c => (if x.getD a 0 = c then 1 else 0) * (-(d (x.getD a 0) * sm N (fun c => R k c * g a c))))) = sm N (fun a => (-1) * (d (x.getD a 0) * sm N (fun c => R k c * g a c))) := sm_congr fun a ha => by
          rw [sm_mulr]
          by_cases h : x.getD a 0 < K
          · have := sm_one K (x.getD a 0) 1 h
            have e : sm K (fun c => if x.getD a 0 = c then (1 : Rat) else 0) = 1 := Eq.trans (sm_congr fun i _ => by
              by_cases e : i = x.getD a 0
              · rw [if_pos e, if_pos e.symm]
              · rw [if_neg e, if_neg (Ne.symm e)]) this
            rw [e]; grind
          · have h1 : a = 1 := by
              by_cases h1 : a = 1
              · exact h1
              · exact absurd (hg.low a ha h1) h
            have : x.getD a 0 = K := by rw [h1, List.getD_eq_getElem?_getD, hg.sum]; rfl
            rw [this, hdK]; grind
        rw [e2, sm_mul]; grind
      · have : sm N (fun a => if x.getD a 0 = k then dot N (R k) (g a) else 0) = sm N (fun _ => 0) := sm_congr fun a ha => if_neg (hne a ha)
        dsimp only
        rw [this, sm_zero, if_pos rfl]; grind
    · exact ⟨fun _ => 1, fun g hg hkx => absurd ⟨⟨g, hg⟩, hkx⟩ h, k, hk, by grind⟩
  obtain ⟨d, hd⟩ : ∃ d : Nat → Rat, d = fun j => if j < K then d0 j else 0 := ⟨_, rfl⟩
  have hdK : d K = 0 := by rw [hd]; simp
  have hsd : ∀ x g k, Cor N K R x g → k < K → k ∉ x → sl N R x g k d ≠ 0 := fun x g k hc hk hkx => by
    obtain ⟨l, hl, hn⟩ := hd0 (x, k) (hmem x g k hc hk)
    rw [hl g hc hkx d hdK]
    have : dot K l d = dot K l d0 := dot_congr (fun _ _ => rfl) fun c hc => by rw [hd]; simp [hc]
    rw [this]; exact hn
  obtain ⟨e1, he1, k1⟩ := small (fun (i : List Nat × Nat) ε => ∀ g, Cor N K R i.1 g → (sl N R i.1 g i.2 b < 0 → sl N R i.1 g i.2 b + ε * sl N R i.1 g i.2 d < 0) ∧ (i.2 ∉ i.1 → sl N R i.1 g i.2 b + ε * sl N R i.1 g i.2 d ≠ 0)) L fun i hi => by
    obtain ⟨x, k⟩ := i
    have hk := hlt _ hi
    dsimp only at hk ⊢
    by_cases h : ∃ g, Cor N K R x g
    · obtain ⟨g, hg⟩ := h
      obtain ⟨e, he, ke⟩ := aff (sl N R x g k b) (sl N R x g k d)
      refine ⟨e, he, fun ε a c g' hg' => ?_⟩
      rw [sl_uniq hg hg', sl_uniq hg hg']
      exact ⟨(ke ε a c).1, fun hkx => (ke ε a c).2.2 (.inr (hsd x g k hg hk hkx))⟩
    · exact ⟨1, by grind, fun _ _ _ g hg => absurd ⟨g, hg⟩ h⟩
  obtain ⟨e2, he2, k2⟩ := hst d hdK
  obtain ⟨ε, hε⟩ : ∃ ε, ε = min e1 e2 := ⟨_, rfl⟩
  have e0 : 0 < ε := by grind
  obtain ⟨x, g, z, hc, ht, hf, hw⟩ := best N K hN R o (fun j => b j + ε * d j) (fun x g z hc ht k hk hkx he => by
    have h1 := (k1 (x, k) (hmem x g k hc hk) ε e0 (by grind) g hc).2 hkx
    rw [← sl_lin, sl_tig hc ht] at h1
    rw [he] at h1
    dsimp only at h1
    grind) hbd (k2 ε e0 (by grind))
  refine ⟨x, g, _, hc, tig_of hc b, fun k hk => ?_, hw⟩
  have h1 := (k1 (x, k) (hmem x g k hc hk) ε e0 (by grind) g hc).1
  have h2 := hf k hk
  rw [← sl_lin, sl_tig hc ht] at h1
  have h3 := sl_tig hc (tig_of hc b) k
  dsimp only at h1 h2
  rw [h3] at h1
  grind
end Go.Proofs.YthplbfjpmnpjmaaDoor.Lp
