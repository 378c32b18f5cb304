/-
  The tree of spare players and its groups, plain: what holds of it; one more is reached.
-/
import Derived.Test.YtppkejblhkbkjaaZ2
namespace Go.Proofs.Ytppkejblhkbkjaa.Tu

variable {n : Nat} {ok : Nat → Nat → Bool} {M : Nat → Option Nat}

/-- From one group's base to the base of a group above it. -/
inductive Up (r : Nat) (tn : Nat → Tn) (B : Nat → Nat) : Nat → Nat → Prop
  | refl (x) : Up r tn B x x
  | step {x a y} : x ≠ r → tn x = .vert a → Up r tn B (B a) y → Up r tn B x y
theorem Up.trans {r : Nat} {tn : Nat → Tn} {B : Nat → Nat} {x y z : Nat} (h : Up r tn B x y) (k : Up r tn B y z) : Up r tn B x z := by
  induction h with
  | refl => exact k
  | step h1 h2 _ ih => exact .step h1 h2 (ih k)
theorem Up.line {r : Nat} {tn : Nat → Tn} {B : Nat → Nat} {x y : Nat} (h : Up r tn B x y) : ∀ {z : Nat}, Up r tn B x z → Up r tn B y z ∨ Up r tn B z y := by
  induction h with
  | refl => intro z k; exact .inl k
  | @step x a y h1 h2 h3 ih =>
    intro z k
    cases k with
    | refl => exact .inr (.step h1 h2 h3)
    | @step _ a' _ k1 k2 k3 =>
      rw [h2] at k2
      obtain rfl : a = a' := by injection k2
      exact ih k3
theorem Up.of_root {r : Nat} {tn : Nat → Tn} {B : Nat → Nat} {y : Nat} (h : Up r tn B r y) : y = r := by
  cases h with
  | refl => rfl
  | step h1 _ _ => exact absurd rfl h1

/-- Which group somebody on a way belongs to, or keeps from the one above. -/
def Tag (M : Nat → Option Nat) (S : Nat → Bool) (B : Nat → Nat) (y t : Nat) : Prop := (S y = true ∧ t = B y) ∨ (S y = false ∧ M y = some t ∧ S t = true ∧ B t = t)
theorem Tag.one {S : Nat → Bool} {B : Nat → Nat} {y t t' : Nat} (h : Tag M S B y t) (h' : Tag M S B y t') : t = t' := by
  rcases h with ⟨a1, a2⟩ | ⟨a1, a2, -⟩ <;> rcases h' with ⟨b1, b2⟩ | ⟨b1, b2, -⟩
  · rw [a2, b2]
  · rw [a1] at b1; cases b1
  · rw [a1] at b1; cases b1
  · rw [a2] at b2; exact Option.some.inj b2

/-- What holds of the tree. -/
structure TI (n : Nat) (ok : Nat → Nat → Bool) (M : Nat → Option Nat) (r : Nat) (S : Nat → Bool) (tn : Nat → Tn) (B ρ : Nat → Nat) : Prop where
  mt : Mt n ok M
  rM : M r = none
  rn : r < n
  rS : S r = true
  rB : B r = r
  lt : ∀ x, S x = true → x < n
  nb : ∀ x, S x = false → B x = x
  bs : ∀ x, S x = true → S (B x) = true ∧ B (B x) = B x
  inr : ∀ x, S x = true → B x ≠ x → ∃ y, M x = some y ∧ S y = true ∧ B y = B x
  bas : ∀ x, S x = true → B x = x → x ≠ r → ∃ y a, M x = some y ∧ S y = false ∧ tn x = .vert a ∧ S a = true ∧ ok a y = true ∧ ρ (B a) < ρ x
  lab : ∀ x, S x = true → x = r ∨ (∃ a, tn x = .vert a ∧ S a = true) ∨ ∃ a b, tn x = .edge a b ∧ S a = true ∧ S b = true
  seg : ∀ a, S a = true → ∀ x, Up r tn B (B a) x → ∃ pa, Seg ok M tn a pa x ∧ (pa ++ [x]).Nodup ∧ ∀ y ∈ pa, ∃ t, Tag M S B y t ∧ Up r tn B (B a) t ∧ Up r tn B t x ∧ (t = x → S y = true)
section
variable {r : Nat} {S : Nat → Bool} {tn : Nat → Tn} {B ρ : Nat → Nat}
/-- What is above a base is a base. -/
theorem TI.up (h : TI n ok M r S tn B ρ) {x y : Nat} (hx : S x = true) (hb : B x = x) (k : Up r tn B x y) : S y = true ∧ B y = y ∧ ρ y ≤ ρ x ∧ (ρ y = ρ x → y = x) := by
  induction k with
  | refl => exact ⟨hx, hb, Nat.le_refl _, fun _ => rfl⟩
  | @step x a y h1 h2 h3 ih =>
    obtain ⟨_, a', _, _, e3, e4, _, e6⟩ := h.bas x hx hb h1
    rw [h2] at e3
    obtain rfl : a = a' := by injection e3
    obtain ⟨c1, c2⟩ := h.bs a e4
    obtain ⟨d1, d2, d3, d4⟩ := ih c1 c2
    exact ⟨d1, d2, by omega, fun e => by omega⟩
theorem TI.up2 (h : TI n ok M r S tn B ρ) {a y : Nat} (ha : S a = true) (k : Up r tn B (B a) y) : S y = true ∧ B y = y := by
  obtain ⟨c1, c2⟩ := h.bs a ha
  exact ⟨(h.up c1 c2 k).1, (h.up c1 c2 k).2.1⟩
theorem TI.anti (h : TI n ok M r S tn B ρ) {x y : Nat} (hx : S x = true) (hb : B x = x) (k : Up r tn B x y) (k' : Up r tn B y x) : x = y := by
  obtain ⟨a1, a2, a3, a4⟩ := h.up hx hb k
  obtain ⟨b1, b2, b3, b4⟩ := h.up a1 a2 k'
  exact (a4 (by omega)).symm
/-- All ways up come to the root. -/
theorem TI.rooted (h : TI n ok M r S tn B ρ) : ∀ (k x : Nat), ρ x ≤ k → S x = true → B x = x → Up r tn B x r := by
  intro k
  induction k with
  | zero =>
    intro x hk hx hb
    by_cases hr : x = r
    · subst hr; exact .refl _
    · obtain ⟨_, _, _, _, _, _, _, e6⟩ := h.bas x hx hb hr
      omega
  | succ k ih =>
    intro x hk hx hb
    by_cases hr : x = r
    · subst hr; exact .refl _
    · obtain ⟨_, a, _, _, e3, e4, _, e6⟩ := h.bas x hx hb hr
      obtain ⟨c1, c2⟩ := h.bs a e4
      exact .step hr e3 (ih _ (by omega) c1 c2)
theorem TI.toRoot (h : TI n ok M r S tn B ρ) {a : Nat} (ha : S a = true) : Up r tn B (B a) r := by
  obtain ⟨c1, c2⟩ := h.bs a ha
  exact h.rooted _ _ (Nat.le_refl _) c1 c2

/-- Only the labels of spare players are looked at. -/
theorem TI.seg_congr (h : TI n ok M r S tn B ρ) {tn' : Nat → Tn} (ht : ∀ x, S x = true → tn' x = tn x) {a x : Nat} {pa : List Nat} (k : Seg ok M tn a pa x) : S a = true → a ≠ r ∨ True → Seg ok M tn' a pa x := by
  induction k with
  | here => intro _ _; exact .here _
  | @vert v t a pre u h1 h2 h3 h4 ih =>
    intro hv _
    have ha : S a = true := by
      rcases h.lab v hv with rfl | ⟨a', e, e'⟩ | ⟨a', b', e, e'⟩
      · rw [h.rM] at h2; cases h2
      · rw [h1] at e; injection e with e; subst e; exact e'
      · rw [h1] at e; cases e
    exact .vert (by rw [ht v hv]; exact h1) h2 h3 (ih ha (.inr trivial))
  | @edge v c a b pa pb u h1 h2 h3 h4 h5 ih1 ih2 =>
    intro hv _
    have hab : S a = true ∧ S b = true := by
      rcases h.lab v hv with rfl | ⟨a', e, e'⟩ | ⟨a', b', e, e', e''⟩
      · rw [h.rM] at h2; cases h2
      · rw [h1] at e; cases e
      · rw [h1] at e; injection e with e1 e2; subst e1; subst e2; exact ⟨e', e''⟩
    exact .edge (by rw [ht v hv]; exact h1) h2 h3 (ih1 hab.1 (.inr trivial)) (ih2 hab.2 (.inr trivial))
  | @edge2 v c a b pa pb u h1 h2 h3 h4 h5 ih1 ih2 =>
    intro hv _
    have hab : S a = true ∧ S b = true := by
      rcases h.lab v hv with rfl | ⟨a', e, e'⟩ | ⟨a', b', e, e', e''⟩
      · rw [h.rM] at h2; cases h2
      · rw [h1] at e; cases e
      · rw [h1] at e; injection e with e1 e2; subst e1; subst e2; exact ⟨e', e''⟩
    exact .edge2 (by rw [ht v hv]; exact h1) h2 h3 (ih1 hab.2 (.inr trivial)) (ih2 hab.1 (.inr trivial))
theorem TI.up_congr (h : TI n ok M r S tn B ρ) {tn' : Nat → Tn} (ht : ∀ x, S x = true → tn' x = tn x) {x y : Nat} (hx : S x = true) (hb : B x = x) : Up r tn' B x y ↔ Up r tn B x y := by
  constructor
  · intro k
    induction k with
    | refl => exact .refl _
    | @step x a y h1 h2 h3 ih =>
      rw [ht x hx] at h2
      obtain ⟨_, a', _, _, e3, e4, _, _⟩ := h.bas x hx hb h1
      rw [h2] at e3
      obtain rfl : a = a' := by injection e3
      obtain ⟨c1, c2⟩ := h.bs a e4
      exact .step h1 h2 (ih c1 c2)
  · intro k
    induction k with
    | refl => exact .refl _
    | @step x a y h1 h2 h3 ih =>
      obtain ⟨_, a', _, _, e3, e4, _, _⟩ := h.bas x hx hb h1
      rw [h2] at e3
      obtain rfl : a = a' := by injection e3
      obtain ⟨c1, c2⟩ := h.bs a e4
      exact .step h1 (by rw [ht x hx]; exact h2) (ih c1 c2)
end

def updT {α : Type} (f : Nat → α) (x : Nat) (y : α) : Nat → α := fun z => if z = x then y else f z
theorem updT_same {α : Type} (f : Nat → α) (x : Nat) (y : α) : updT f x y x = y := by simp [updT]
theorem updT_other {α : Type} (f : Nat → α) {x z : Nat} (y : α) (h : z ≠ x) : updT f x y z = f z := by simp [updT, h]

/-- The tree of the root alone. -/
theorem TI.start {r : Nat} (h : Mt n ok M) (hr : M r = none) (hn : r < n) {tn : Nat → Tn} {ρ : Nat → Nat} : TI n ok M r (fun x => x == r) tn id ρ := by
  refine ⟨h, hr, hn, by simp, rfl, fun x hx => ?_, fun _ _ => rfl, fun x hx => ⟨by simpa using hx, rfl⟩, fun x _ hb => absurd rfl hb, fun x hx _ hne => ?_, fun x hx => .inl (by simpa using hx), fun a ha x hx => ?_⟩
  · simp at hx; omega
  · simp at hx; exact absurd hx hne
  · simp at ha
    subst ha
    obtain rfl := Up.of_root (show Up a tn id a x from hx)
    exact ⟨[], .here _, by simp, by simp⟩

/-- One more is reached, over one who keeps him from the tree. -/
theorem TI.reach {r : Nat} {S : Nat → Bool} {tn : Nat → Tn} {B ρ : Nat → Nat} (h : TI n ok M r S tn B ρ) {p t v : Nat} (hp : S p = true) (hv : S v = false) (ht : S t = false) (hM : M t = some v) (hok : ok p t = true) :
    TI n ok M r (updT S v true) (updT tn v (.vert p)) B (updT ρ v (ρ (B p) + 1)) := by
  have hMv : M v = some t := h.mt.sym _ _ hM
  have hvt : v ≠ t := fun e => h.mt.ne v (by rw [hMv, e])
  have hne : ∀ x, S x = true → x ≠ v := fun x hx e => by rw [e, hv] at hx; cases hx
  have htn : ∀ x, S x = true → updT tn v (.vert p) x = tn x := fun x hx => updT_other _ _ (hne x hx)
  have hS : ∀ x, S x = true → updT S v true x = true := fun x hx => by rw [updT_other _ _ (hne x hx)]; exact hx
  have hBv : B v = v := h.nb v hv
  have hvr : v ≠ r := fun e => by rw [e, h.rS] at hv; cases hv
  obtain ⟨hp1, hp2⟩ := h.bs p hp
  have hsp : ∀ x, updT S v true x = true → x = v ∨ S x = true := fun x hx => by
    by_cases e : x = v
    · exact .inl e
    · rw [updT_other _ _ e] at hx; exact .inr hx
  have hup : ∀ {x y}, S x = true → B x = x → (Up r (updT tn v (.vert p)) B x y ↔ Up r tn B x y) := fun hx hb => h.up_congr htn hx hb
  -- tags stay
  have htag : ∀ {y s}, Tag M S B y s → Tag M (updT S v true) B y s := fun {y s} hy => by
    rcases hy with ⟨a1, a2⟩ | ⟨a1, a2, a3, a4⟩
    · exact .inl ⟨hS y a1, a2⟩
    · have hyv : y ≠ v := fun e => by
        rw [e, hMv] at a2
        rw [← Option.some.inj a2, ht] at a3; cases a3
      exact .inr ⟨by rw [updT_other _ _ hyv]; exact a1, a2, hS s a3, a4⟩
  have hold : ∀ a, S a = true → ∀ x, Up r tn B (B a) x → ∃ pa, Seg ok M (updT tn v (.vert p)) a pa x ∧ (pa ++ [x]).Nodup ∧ (∀ y ∈ pa, y ≠ v ∧ y ≠ t) ∧ x ≠ v ∧ x ≠ t ∧ ∀ y ∈ pa, ∃ s, Tag M (updT S v true) B y s ∧ Up r (updT tn v (.vert p)) B (B a) s ∧ Up r (updT tn v (.vert p)) B s x ∧ (s = x → updT S v true y = true) := by
    intro a ha x hx
    obtain ⟨pa, s1, s2, s3⟩ := h.seg a ha x hx
    obtain ⟨b1, b2⟩ := h.bs a ha
    obtain ⟨x1, x2⟩ := h.up2 ha hx
    refine ⟨pa, h.seg_congr htn s1 ha (.inr trivial), s2, fun y hy => ?_, hne x x1, (fun (e : x = t) => by rw [e, ht] at x1; cases x1), fun y hy => ?_⟩
    · obtain ⟨s, g1, -⟩ := s3 y hy
      rcases g1 with ⟨a1, -⟩ | ⟨a1, a2, a3, -⟩
      · exact ⟨hne y a1, fun e => by rw [e, ht] at a1; cases a1⟩
      · refine ⟨fun e => ?_, fun e => ?_⟩
        · rw [e, hMv] at a2
          rw [← Option.some.inj a2, ht] at a3; cases a3
        · rw [e, hM] at a2
          rw [← Option.some.inj a2, hv] at a3; cases a3
    · obtain ⟨s, g1, g2, g3, g4⟩ := s3 y hy
      obtain ⟨t1, t2⟩ := h.up2 ha g2
      exact ⟨s, htag g1, (hup b1 b2).2 g2, (hup t1 t2).2 g3, fun e => hS y (g4 e)⟩
  refine ⟨h.mt, h.rM, h.rn, hS r h.rS, h.rB, fun x hx => ?_, fun x hx => ?_, fun x hx => ?_, fun x hx hb => ?_, fun x hx hb hr => ?_, fun x hx => ?_, fun a ha x hx => ?_⟩
  · rcases hsp x hx with rfl | hx
    · exact h.mt.lt _ _ hMv
    · exact h.lt x hx
  · by_cases e : x = v
    · rw [e, updT_same] at hx; cases hx
    · rw [updT_other _ _ e] at hx; exact h.nb x hx
  · rcases hsp x hx with rfl | hx
    · rw [hBv]; exact ⟨hx, hBv⟩
    · exact ⟨hS _ (h.bs x hx).1, (h.bs x hx).2⟩
  · rcases hsp x hx with rfl | hx
    · exact absurd hBv hb
    · obtain ⟨y, e1, e2, e3⟩ := h.inr x hx hb
      exact ⟨y, e1, hS y e2, e3⟩
  · rcases hsp x hx with rfl | hx
    · refine ⟨t, p, hMv, by rw [updT_other _ _ (fun e => hvt e.symm)]; exact ht, updT_same _ _ _, hS p hp, hok, ?_⟩
      rw [updT_same, updT_other _ _ (hne _ hp1)]
      omega
    · obtain ⟨y, a, e1, e2, e3, e4, e5, e6⟩ := h.bas x hx hb hr
      have hyv : y ≠ v := fun e => by
        rw [e] at e1
        rw [h.mt.inj e1 hM, ht] at hx; cases hx
      refine ⟨y, a, e1, by rw [updT_other _ _ hyv]; exact e2, by rw [htn x hx]; exact e3, hS a e4, e5, ?_⟩
      rw [updT_other _ _ (hne _ (h.bs a e4).1), updT_other _ _ (hne x hx)]
      exact e6
  · rcases hsp x hx with rfl | hx
    · exact .inr (.inl ⟨p, updT_same _ _ _, hS p hp⟩)
    · rcases h.lab x hx with e | ⟨a, e, e'⟩ | ⟨a, b, e, e', e''⟩
      · exact .inl e
      · exact .inr (.inl ⟨a, by rw [htn x hx]; exact e, hS a e'⟩)
      · exact .inr (.inr ⟨a, b, by rw [htn x hx]; exact e, hS a e', hS b e''⟩)
  · rcases hsp a ha with rfl | ha
    · rw [hBv] at hx
      have key : Up r (updT tn a (.vert p)) B (B p) x → ∃ pa, Seg ok M (updT tn a (.vert p)) a pa x ∧ (pa ++ [x]).Nodup ∧ ∀ y ∈ pa, ∃ s, Tag M (updT S a true) B y s ∧ Up r (updT tn a (.vert p)) B (B a) s ∧ Up r (updT tn a (.vert p)) B s x ∧ (s = x → updT S a true y = true) := by
        intro hx'
        have hx2 := (hup hp1 hp2).1 hx'
        obtain ⟨pa, s1, s2, s3, s4, s5, s6⟩ := hold p hp x hx2
        have hst : ∀ {z}, Up r (updT tn a (.vert p)) B (B p) z → Up r (updT tn a (.vert p)) B a z := fun hz => .step hvr (updT_same _ _ _) hz
        refine ⟨a :: t :: pa, .vert (updT_same _ _ _) hMv hok s1, ?_, fun y hy => ?_⟩
        · simp only [List.cons_append, List.nodup_cons, List.mem_cons, List.mem_append, List.not_mem_nil, or_false, not_or]
          exact ⟨⟨hvt, fun e => (s3 a e).1 rfl, fun e => s4 e.symm⟩, ⟨fun e => (s3 t e).2 rfl, fun e => s5 e.symm⟩, s2⟩
        · simp only [List.mem_cons] at hy
          rw [hBv]
          rcases hy with rfl | rfl | hy
          · exact ⟨y, .inl ⟨updT_same _ _ _, hBv.symm⟩, .refl _, hst hx', fun _ => updT_same _ _ _⟩
          · exact ⟨a, .inr ⟨by rw [updT_other _ _ (fun e => hvt e.symm)]; exact ht, hM, updT_same _ _ _, hBv⟩, .refl _, hst hx', fun e => absurd e.symm s4⟩
          · obtain ⟨s, g1, g2, g3, g4⟩ := s6 y hy
            exact ⟨s, g1, hst g2, g3, g4⟩
      cases hx with
      | refl => exact ⟨[], .here _, by simp, by simp⟩
      | @step _ a' _ k1 k2 k3 =>
        rw [updT_same] at k2
        injection k2 with k2
        subst k2
        exact key k3
    · obtain ⟨b1, b2⟩ := h.bs a ha
      obtain ⟨pa, s1, s2, -, -, -, s6⟩ := hold a ha x ((hup b1 b2).1 hx)
      exact ⟨pa, s1, s2, s6⟩
end Go.Proofs.Ytppkejblhkbkjaa.Tu
