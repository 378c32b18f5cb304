/-
  Pairs that are changed along a way (Gabow's labels), plain: what give does to the partners.
-/
namespace Go.Proofs.Ytppkejblhkbkjaa.Tu

/-- How a spare player comes to be left over. -/
inductive Tn where
  | root : Tn
  | vert : Nat → Tn
  | edge : Nat → Nat → Tn

def upd (f : Nat → Option Nat) (x y : Nat) : Nat → Option Nat := fun z => if z = x then some y else f z
theorem upd_same (f : Nat → Option Nat) (x y : Nat) : upd f x y x = some y := by simp [upd]
theorem upd_other (f : Nat → Option Nat) {x y z : Nat} (h : z ≠ x) : upd f x y z = f z := by simp [upd, h]

/-- give: partners f become f'. -/
inductive Giv (tn : Nat → Tn) : (Nat → Option Nat) → Nat → Nat → (Nat → Option Nat) → Prop
  | none {f v w} : f v = none → Giv tn f v w (upd f v w)
  | stop {f v w t} : f v = some t → t ≠ v → f t ≠ some v → Giv tn f v w (upd f v w)
  | vert {f v w t a f'} : f v = some t → t ≠ v → f t = some v → tn v = .vert a → Giv tn (upd (upd f v w) t a) a t f' → Giv tn f v w f'
  | edge {f v w t a b f1 f2} : f v = some t → t ≠ v → f t = some v → tn v = .edge a b → Giv tn (upd f v w) a b f1 → Giv tn f1 b a f2 → Giv tn f v w f2

/-- pre: the players on the way from v to u, ahead of u. -/
inductive Seg (ok : Nat → Nat → Bool) (M : Nat → Option Nat) (tn : Nat → Tn) : Nat → List Nat → Nat → Prop
  | here (v) : Seg ok M tn v [] v
  | vert {v t a pre u} : tn v = .vert a → M v = some t → ok a t = true → Seg ok M tn a pre u → Seg ok M tn v (v :: t :: pre) u
  | edge {v c a b pa pb u} : tn v = .edge a b → M v = some c → ok a b = true → Seg ok M tn a pa c → Seg ok M tn b pb u → Seg ok M tn v (v :: c :: (pa.reverse ++ pb)) u
  | edge2 {v c a b pa pb u} : tn v = .edge a b → M v = some c → ok a b = true → Seg ok M tn b pb c → Seg ok M tn a pa u → Seg ok M tn v (v :: c :: (pb.reverse ++ pa)) u

/-- Partners f' along a way that the first one's new partner w is added to. -/
def Alt (ok : Nat → Nat → Bool) (f' : Nat → Option Nat) : Nat → List Nat → Prop
  | _, [] => False
  | w, [x] => f' x = some w ∧ ok x w = true
  | w, x :: y :: l => f' x = some w ∧ ok x w = true ∧ (∃ z, l.head? = some z ∧ f' y = some z) ∧ Alt ok f' y l

variable {ok : Nat → Nat → Bool} {M : Nat → Option Nat} {tn : Nat → Tn}

theorem Alt.congr {f g : Nat → Option Nat} : ∀ {w : Nat} {l : List Nat}, (∀ x ∈ l, g x = f x) → Alt ok f w l → Alt ok g w l
  | _, [], _, h => h
  | w, [x], hc, h => by
    simp only [Alt] at h ⊢
    rw [hc x (by simp)]
    exact h
  | w, x :: y :: l, hc, h => by
    simp only [Alt] at h ⊢
    obtain ⟨h1, h2, ⟨z, h3, h4⟩, h5⟩ := h
    refine ⟨by rw [hc x (by simp)]; exact h1, h2, ⟨z, h3, by rw [hc y (by simp)]; exact h4⟩, Alt.congr (fun x hx => hc x (by simp [hx])) h5⟩
theorem Alt.head {f : Nat → Option Nat} {w x : Nat} {l : List Nat} (h : Alt ok f w (x :: l)) : f x = some w ∧ ok x w = true := by
  cases l with
  | nil => exact h
  | cons y l => exact ⟨h.1, h.2.1⟩

/-- A way that is gone through from both sides. -/
theorem Alt.rev {f : Nat → Option Nat} (hs : ∀ x y, ok x y = ok y x) (c : Nat) : ∀ (k : Nat) (l K : List Nat) (a b : Nat), l.length ≤ k → Alt ok f b (l ++ [c]) → (l ++ [c]).head? = some a → Alt ok f a K → K.head? = some b →
    (∃ z, (l.reverse ++ K).head? = some z ∧ f c = some z) ∧ Alt ok f c (l.reverse ++ K) := by
  intro k
  induction k with
  | zero =>
    intro l K a b hl h1 h2 h3 h4
    obtain rfl : l = [] := List.eq_nil_of_length_eq_zero (by omega)
    simp only [List.nil_append, Alt, List.head?_cons, Option.some.injEq] at h1 h2
    subst h2
    exact ⟨⟨b, by simpa using h4, h1.1⟩, by simpa using h3⟩
  | succ k ih =>
    intro l K a b hl h1 h2 h3 h4
    match l with
    | [] =>
      simp only [List.nil_append, Alt, List.head?_cons, Option.some.injEq] at h1 h2
      subst h2
      exact ⟨⟨b, by simpa using h4, h1.1⟩, by simpa using h3⟩
    | [x] => simp [Alt] at h1
    | x :: y :: l' =>
      simp only [List.cons_append, Alt, List.head?_cons, Option.some.injEq] at h1 h2
      subst h2
      obtain ⟨e1, e2, ⟨z, e3, e4⟩, e5⟩ := h1
      have hz := (by
        cases hl' : l' ++ [c] with
        | nil => simp at hl'
        | cons p q =>
          rw [hl'] at e3 e5
          simp only [List.head?_cons, Option.some.injEq] at e3
          subst e3
          exact e5.head.2 : ok z y = true)
      have hK : Alt ok f z (y :: x :: K) := by
        cases K with
        | nil => simp at h4
        | cons p q =>
          simp only [List.head?_cons, Option.some.injEq] at h4
          subst h4
          refine ⟨e4, by rw [hs]; exact hz, ⟨p, rfl, e1⟩, h3⟩
      have := ih l' (y :: x :: K) z y (by simp at hl; omega) e5 e3 hK rfl
      simpa using this

theorem Seg.head {v u : Nat} {pre : List Nat} (h : Seg ok M tn v pre u) : (pre ++ [u]).head? = some v := by
  cases h <;> simp
/-- What is ahead of the end is paired within. -/
theorem Seg.closed (hM : ∀ x y, M x = some y → M y = some x) {v u : Nat} {pre : List Nat} (h : Seg ok M tn v pre u) : ∀ x ∈ pre, ∃ y ∈ pre, M x = some y := by
  induction h with
  | here => simp
  | @vert v t a pre u h1 h2 h3 h4 ih =>
    intro x hx
    simp only [List.mem_cons] at hx
    rcases hx with rfl | rfl | hx
    · exact ⟨t, by simp, h2⟩
    · exact ⟨v, by simp, hM _ _ h2⟩
    · obtain ⟨y, hy, e⟩ := ih x hx
      exact ⟨y, by simp [hy], e⟩
  | @edge v c a b pa pb u h1 h2 h3 h4 h5 ih1 ih2 =>
    intro x hx
    simp only [List.mem_cons, List.mem_append, List.mem_reverse] at hx
    rcases hx with rfl | rfl | hx | hx
    · exact ⟨c, by simp, h2⟩
    · exact ⟨v, by simp, hM _ _ h2⟩
    · obtain ⟨y, hy, e⟩ := ih1 x hx
      exact ⟨y, by simp [hy], e⟩
    · obtain ⟨y, hy, e⟩ := ih2 x hx
      exact ⟨y, by simp [hy], e⟩

  | @edge2 v c a b pa pb u h1 h2 h3 h4 h5 ih1 ih2 =>
    intro x hx
    simp only [List.mem_cons, List.mem_append, List.mem_reverse] at hx
    rcases hx with rfl | rfl | hx | hx
    · exact ⟨c, by simp, h2⟩
    · exact ⟨v, by simp, hM _ _ h2⟩
    · obtain ⟨y, hy, e⟩ := ih1 x hx
      exact ⟨y, by simp [hy], e⟩
    · obtain ⟨y, hy, e⟩ := ih2 x hx
      exact ⟨y, by simp [hy], e⟩

theorem nodup_rev {l : List Nat} : l.reverse.Nodup ↔ l.Nodup := by
  unfold List.Nodup
  rw [List.pairwise_reverse]
  exact ⟨fun h => h.imp fun e => Ne.symm e, fun h => h.imp fun e => Ne.symm e⟩
/-- give along a way: who is on it changes partners, nobody else does. -/
theorem giv_way (hs : ∀ x y, ok x y = ok y x) (hM : ∀ x y, M x = some y → M y = some x) (hne : ∀ x, M x ≠ some x) {v u : Nat} {pre : List Nat} (h : Seg ok M tn v pre u) :
    ∀ (f : Nat → Option Nat) (w : Nat), (pre ++ [u]).Nodup → (∀ x ∈ pre ++ [u], f x = M x) → (∀ t, M u = some t → f t ≠ some u) → w ∉ pre ++ [u] → ok v w = true →
      ∃ f', Giv tn f v w f' ∧ Alt ok f' w (pre ++ [u]) ∧ ∀ x, x ∉ pre ++ [u] → f' x = f x := by
  induction h with
  | here v =>
    intro f w hn hf hu hw hv
    refine ⟨upd f v w, ?_, ⟨by simp [upd], hv⟩, fun x hx => upd_other f (by simpa using hx)⟩
    have hfv := hf v (by simp)
    cases hm : M v with
    | none => exact .none (by rw [hfv, hm])
    | some t => exact .stop (by rw [hfv, hm]) (fun e => hne v (by rw [hm, e])) (hu t hm)
  | @vert v t a pre u h1 h2 h3 h4 ih =>
    intro f w hn hf hu hw hv
    simp only [List.cons_append, List.nodup_cons, List.mem_cons, not_or] at hn
    obtain ⟨⟨n1, n2⟩, n3, n4⟩ := hn
    have hfv : f v = some t := by rw [hf v (by simp), h2]
    have hft : f t = some v := by rw [hf t (by simp), hM _ _ h2]
    have hu' : u ≠ v ∧ u ≠ t := ⟨fun e => n2 (by simp [e]), fun e => n3 (by simp [e])⟩
    obtain ⟨f', g1, g2, g3⟩ := ih (upd (upd f v w) t a) t n4 (fun x hx => by
      rw [upd_other _ (fun e => n3 (by rw [← e]; exact hx)), upd_other _ (fun e => n2 (by rw [← e]; exact hx))]
      exact hf x (by simp only [List.cons_append, List.mem_cons]; exact .inr (.inr hx))) (fun t' ht' => by
      have e1 : t' ≠ t := fun e => hu'.1 (by
        rw [e] at ht'
        have := hM _ _ ht'
        rw [hM _ _ h2] at this
        exact (Option.some.inj this).symm)
      have e2 : t' ≠ v := fun e => hu'.2 (by
        rw [e] at ht'
        have := hM _ _ ht'
        rw [h2] at this
        exact (Option.some.inj this).symm)
      rw [upd_other _ e1, upd_other _ e2]
      exact hu t' ht') n3 h3
    refine ⟨f', .vert hfv (fun e => n1 e.symm) hft h1 g1, ?_, fun x hx => ?_⟩
    · have hv' : f' v = some w := by rw [g3 v n2, upd_other _ n1, upd_same]
      have ht' : f' t = some a := by rw [g3 t n3, upd_same]
      exact ⟨hv', hv, ⟨a, h4.head, ht'⟩, g2⟩
    · simp only [List.cons_append, List.mem_cons, not_or] at hx
      rw [g3 x hx.2.2, upd_other _ hx.2.1, upd_other _ hx.1]
  | @edge v c a b pa pb u h1 h2 h3 h4 h5 ih1 ih2 =>
    intro f w hn hf hu hw hv
    have hcl := h4.closed hM
    have ha := h4.head
    have hb := h5.head
    have hQ : ∃ Q, Q = pb ++ [u] := ⟨_, rfl⟩
    obtain ⟨Q, hQ⟩ := hQ
    have hn' : (v :: c :: (pa.reverse ++ Q)).Nodup := by rw [hQ]; simpa using hn
    simp only [List.nodup_cons, List.mem_cons, not_or, List.mem_append, List.mem_reverse] at hn'
    obtain ⟨⟨n1, n2, n3⟩, ⟨n4, n5⟩, n6'⟩ := hn'
    obtain ⟨n6, hn7, n8⟩ := List.nodup_append.1 n6'
    rw [nodup_rev] at n6
    simp only [List.cons_append, List.append_assoc, ← hQ, List.mem_cons, List.mem_append, List.mem_reverse, not_or] at hf hw
    have hmemb : ∀ x, x ∈ Q → x ∉ pa ∧ x ≠ v ∧ x ≠ c := fun x hx => by
      refine ⟨fun hp => n8 x (List.mem_reverse.2 hp) x hx rfl, fun e => n3 (by rw [← e]; exact hx), fun e => n5 (by rw [← e]; exact hx)⟩
    have huQ : u ∈ Q := by rw [hQ]; simp
    rw [← hQ] at hb
    have hba : b ∈ Q := List.mem_of_mem_head? (by rw [hb]; rfl)
    have haa : a ∈ pa ++ [c] := List.mem_of_mem_head? (by rw [ha]; rfl)
    have hfv : f v = some c := by rw [hf v (.inl rfl), h2]
    have hfc : f c = some v := by rw [hf c (.inr (.inl rfl)), hM _ _ h2]
    have hvc : v ≠ c := n1
    obtain ⟨f1, g1, g2, g3⟩ := ih1 (upd f v w) b (by
        rw [List.nodup_append]
        exact ⟨n6, by simp, fun x hx y hy => by
          simp at hy
          subst hy
          exact fun e => n4 (by rw [← e]; exact hx)⟩) (fun x hx => by
      have hxv : x ≠ v := by
        intro e
        subst e
        rcases List.mem_append.1 hx with hx | hx
        · exact n2 hx
        · simp at hx; exact hvc hx
      rw [upd_other _ hxv]
      rcases List.mem_append.1 hx with hx | hx
      · exact hf x (.inr (.inr (.inl hx)))
      · simp at hx; exact hf x (.inr (.inl hx))) (fun t ht => by
      have : t = v := by
        have e := hM _ _ h2
        rw [e] at ht
        exact (Option.some.inj ht).symm
      subst this
      rw [upd_same]
      exact fun e => hw.2.1 (Option.some.inj e)) (fun hx => by
      obtain ⟨m1, m2, m3⟩ := hmemb b hba
      rcases List.mem_append.1 hx with hx | hx
      · exact m1 hx
      · simp at hx; exact m3 hx) h3
    have hf1 : ∀ x, x ∉ pa → x ≠ c → x ≠ v → f1 x = f x := fun x a1 a2 a3 => by
      rw [g3 x (by simp [a1, a2]), upd_other _ a3]
    obtain ⟨f2, k1, k2, k3⟩ := ih2 f1 a (by rw [← hQ]; exact hn7) (fun x hx => by
      rw [← hQ] at hx
      obtain ⟨m1, m2, m3⟩ := hmemb x hx
      rw [hf1 x m1 m3 m2]
      exact hf x (.inr (.inr (.inr hx)))) (fun t ht => by
      obtain ⟨m1, m2, m3⟩ := hmemb u huQ
      have ht' := hM _ _ ht
      have e1 : t ∉ pa := fun hp => by
        obtain ⟨y, hy, e⟩ := hcl t hp
        rw [ht'] at e
        exact m1 (by rw [Option.some.inj e]; exact hy)
      have e2 : t ≠ c := fun e => by
        subst e
        rw [hM _ _ h2] at ht'
        exact m2 (Option.some.inj ht').symm
      have e3 : t ≠ v := fun e => by
        subst e
        rw [h2] at ht'
        exact m3 (Option.some.inj ht').symm
      rw [hf1 t e1 e2 e3]
      exact hu t ht) (fun hx => by
      rw [← hQ] at hx
      obtain ⟨m1, m2, m3⟩ := hmemb a hx
      rcases List.mem_append.1 haa with hx | hx
      · exact m1 hx
      · simp at hx; exact m3 hx) (by rw [hs]; exact h3)
    refine ⟨f2, .edge hfv (fun e => hvc e.symm) hfc h1 g1 k1, ?_, fun x hx => ?_⟩
    · rw [← hQ] at k2 k3
      have hdis : ∀ x, x ∈ pa ++ [c] → x ∉ Q := fun x hx hy => by
        obtain ⟨m1, m2, m3⟩ := hmemb x hy
        rcases List.mem_append.1 hx with hx | hx
        · exact m1 hx
        · simp at hx; exact m3 hx
      have g2' : Alt ok f2 b (pa ++ [c]) := g2.congr (fun x hx => k3 x (hdis x hx))
      have hv2 : f2 v = some w := by
        rw [k3 v (fun hx => (hmemb v hx).2.1 rfl), g3 v (fun hx => by
          rcases List.mem_append.1 hx with hx | hx
          · exact n2 hx
          · simp at hx; exact hvc hx), upd_same]
      have := Alt.rev hs c pa.length pa Q a b (Nat.le_refl _) g2' ha k2 hb
      simp only [List.cons_append, List.append_assoc, ← hQ]
      exact ⟨hv2, hv, this.1, this.2⟩
    · simp only [List.cons_append, List.append_assoc, ← hQ, List.mem_cons, List.mem_append, List.mem_reverse, not_or] at hx
      rw [k3 x (by rw [← hQ]; exact hx.2.2.2), hf1 x hx.2.2.1 hx.2.1 hx.1]
  | @edge2 v c a b pa pb u h1 h2 h3 h4 h5 ih1 ih2 =>
    intro f w hn hf hu hw hv
    have hcl := h4.closed hM
    have hb := h4.head
    have ha := h5.head
    have hQ : ∃ Q, Q = pa ++ [u] := ⟨_, rfl⟩
    obtain ⟨Q, hQ⟩ := hQ
    have hn' : (v :: c :: (pb.reverse ++ Q)).Nodup := by rw [hQ]; simpa using hn
    simp only [List.nodup_cons, List.mem_cons, not_or, List.mem_append, List.mem_reverse] at hn'
    obtain ⟨⟨n1, n2, n3⟩, ⟨n4, n5⟩, n6'⟩ := hn'
    obtain ⟨n6, hn7, n8⟩ := List.nodup_append.1 n6'
    rw [nodup_rev] at n6
    simp only [List.cons_append, List.append_assoc, ← hQ, List.mem_cons, List.mem_append, List.mem_reverse, not_or] at hf hw
    have hmemb : ∀ x, x ∈ Q → x ∉ pb ∧ x ≠ v ∧ x ≠ c := fun x hx => by
      refine ⟨fun hp => n8 x (List.mem_reverse.2 hp) x hx rfl, fun e => n3 (by rw [← e]; exact hx), fun e => n5 (by rw [← e]; exact hx)⟩
    have huQ : u ∈ Q := by rw [hQ]; simp
    rw [← hQ] at ha
    have haQ : a ∈ Q := List.mem_of_mem_head? (by rw [ha]; rfl)
    have hbb : b ∈ pb ++ [c] := List.mem_of_mem_head? (by rw [hb]; rfl)
    have hfv : f v = some c := by rw [hf v (.inl rfl), h2]
    have hfc : f c = some v := by rw [hf c (.inr (.inl rfl)), hM _ _ h2]
    have hvc : v ≠ c := n1
    have hdis : ∀ x, x ∈ pb ++ [c] → x ∉ Q := fun x hx hy => by
      obtain ⟨m1, m2, m3⟩ := hmemb x hy
      rcases List.mem_append.1 hx with hx | hx
      · exact m1 hx
      · simp at hx; exact m3 hx
    have hvb : v ∉ pb ++ [c] := fun hx => by
      rcases List.mem_append.1 hx with hx | hx
      · exact n2 hx
      · simp at hx; exact hvc hx
    obtain ⟨f1, g1, g2, g3⟩ := ih2 (upd f v w) b (by rw [← hQ]; exact hn7) (fun x hx => by
      rw [← hQ] at hx
      obtain ⟨m1, m2, m3⟩ := hmemb x hx
      rw [upd_other _ m2]
      exact hf x (.inr (.inr (.inr hx)))) (fun t ht => by
      obtain ⟨m1, m2, m3⟩ := hmemb u huQ
      have e3 : t ≠ v := fun e => by
        subst e
        have ht' := hM _ _ ht
        rw [h2] at ht'
        exact m3 (Option.some.inj ht').symm
      rw [upd_other _ e3]
      exact hu t ht) (fun hx => by
      rw [← hQ] at hx
      exact hdis b hbb hx) h3
    rw [← hQ] at g2 g3
    obtain ⟨f2, k1, k2, k3⟩ := ih1 f1 a (by
        rw [List.nodup_append]
        exact ⟨n6, by simp, fun x hx y hy => by
          simp at hy
          subst hy
          exact fun e => n4 (by rw [← e]; exact hx)⟩) (fun x hx => by
      have hxv : x ≠ v := fun e => hvb (by rw [← e]; exact hx)
      rw [g3 x (hdis x hx), upd_other _ hxv]
      rcases List.mem_append.1 hx with hx | hx
      · exact hf x (.inr (.inr (.inl hx)))
      · simp at hx; exact hf x (.inr (.inl hx))) (fun t ht => by
      have : t = v := by
        have e := hM _ _ h2
        rw [e] at ht
        exact (Option.some.inj ht).symm
      subst this
      rw [g3 t (fun hx => (hmemb t hx).2.1 rfl), upd_same]
      exact fun e => hw.2.1 (Option.some.inj e)) (fun hx => hdis a hx haQ) (by rw [hs]; exact h3)
    refine ⟨f2, .edge hfv (fun e => hvc e.symm) hfc h1 g1 k1, ?_, fun x hx => ?_⟩
    · have g2' : Alt ok f2 b Q := g2.congr (fun x hx => k3 x (fun hy => hdis x hy hx))
      have hv2 : f2 v = some w := by
        rw [k3 v hvb, g3 v (fun hx => (hmemb v hx).2.1 rfl), upd_same]
      have := Alt.rev hs c pb.length pb Q b a (Nat.le_refl _) k2 hb g2' ha
      simp only [List.cons_append, List.append_assoc, ← hQ]
      exact ⟨hv2, hv, this.1, this.2⟩
    · simp only [List.cons_append, List.append_assoc, ← hQ, List.mem_cons, List.mem_append, List.mem_reverse, not_or] at hx
      rw [k3 x (by simp [hx.2.1, hx.2.2.1]), g3 x hx.2.2.2, upd_other _ hx.1]

/-- Whoever is on the way has a partner behind it. -/
theorem Alt.all {f : Nat → Option Nat} (hs : ∀ x y, ok x y = ok y x) : ∀ {w : Nat} {l : List Nat}, Alt ok f w l → ∀ x ∈ l, ∃ y, f x = some y ∧ ok x y = true ∧ ((y = w ∧ l.head? = some x) ∨ (y ∈ l ∧ f y = some x))
  | _, [], h, x, hx => by simp at hx
  | w, [x], h, y, hy => by
    simp at hy
    subst hy
    exact ⟨w, h.1, h.2, .inl ⟨rfl, rfl⟩⟩
  | w, x :: y :: l, h, q, hq => by
    obtain ⟨h1, h2, ⟨z, h3, h4⟩, h5⟩ := h
    have hz : f z = some y ∧ ok z y = true := by
      cases l with
      | nil => simp at h3
      | cons p r =>
        simp at h3
        subst h3
        exact h5.head
    have hzm : z ∈ l := List.mem_of_mem_head? (by rw [h3]; rfl)
    simp only [List.mem_cons] at hq
    rcases hq with rfl | rfl | hq
    · exact ⟨w, h1, h2, .inl ⟨rfl, rfl⟩⟩
    · exact ⟨z, h4, by rw [hs]; exact hz.2, .inr ⟨by simp [hzm], hz.1⟩⟩
    · obtain ⟨r, e1, e2, e3⟩ := Alt.all hs h5 q hq
      refine ⟨r, e1, e2, .inr ?_⟩
      rcases e3 with ⟨rfl, e4⟩ | ⟨e4, e5⟩
      · rw [h3] at e4
        obtain rfl := Option.some.inj e4
        exact ⟨by simp, h4⟩
      · exact ⟨by simp [e4], e5⟩
end Go.Proofs.Ytppkejblhkbkjaa.Tu
