/-
  How the tree grows, plain: players scanned one behind the other; the first group that two ways come through.
-/
import Derived.Test.YtppkejblhkbkjaaZ5
namespace Go.Proofs.Ytppkejblhkbkjaa.Tu

variable {n : Nat} {ok : Nat → Nat → Bool} {M : Nat → Option Nat}
/-- The pair of these has been looked at. -/
def Scd (Q : List Nat) (i o p q : Nat) : Prop := ∃ k, Q[k]? = some p ∧ (k < i ∨ (k = i ∧ q < o))
/-- What holds while the queue is gone through. -/
structure FI (n : Nat) (ok : Nat → Nat → Bool) (M : Nat → Option Nat) (r : Nat) (S : Nat → Bool) (tn : Nat → Tn) (B ρ : Nat → Nat) (Q : List Nat) (i o : Nat) : Prop where
  ti : TI n ok M r S tn B ρ
  qn : Q.Nodup
  qm : ∀ x, x ∈ Q ↔ S x = true
  s1 : ∀ p q, q < n → Scd Q i o p q → ok p q = true → B p = B q ∨ ∃ t, M q = some t ∧ S t = true
  s2 : ∀ p q, p < n → q < n → Scd Q i o p q → Scd Q i o q p → ok p q = true → B p = B q
section
variable {r : Nat} {S : Nat → Bool} {tn : Nat → Tn} {B ρ : Nat → Nat} {Q : List Nat} {i o : Nat}
theorem FI.len (h : FI n ok M r S tn B ρ Q i o) : Q.length ≤ n := by
  have := nodup_le (k := List.range n) h.qn (fun x hx => List.mem_range.2 (h.ti.lt x ((h.qm x).1 hx)))
  simpa using this
theorem FI.start (h : Mt n ok M) (hr : M r = none) (hn : r < n) {ρ : Nat → Nat} : FI n ok M r (fun x => x == r) tn id ρ [r] 0 0 :=
  ⟨TI.start h hr hn, by simp, fun x => by simp, fun p q _ ⟨k, _, hk⟩ => by omega, fun p q _ _ ⟨k, _, hk⟩ => by omega⟩
theorem Scd.next {Q' : List Nat} {p q x : Nat} (h : Scd (Q ++ Q') i (o + 1) p q) (hi : Q[i]? = some x) : Scd Q i o p q ∨ (p = x ∧ q = o) := by
  obtain ⟨k, e, hk⟩ := h
  have hil := (List.getElem?_eq_some_iff.1 hi).1
  have hkl : k < Q.length := by omega
  rw [List.getElem?_append_left hkl] at e
  rcases hk with hk | ⟨rfl, hk⟩
  · exact .inl ⟨k, e, .inl hk⟩
  · by_cases hq : q < o
    · exact .inl ⟨k, e, .inr ⟨rfl, hq⟩⟩
    · rw [hi] at e
      exact .inr ⟨(Option.some.inj e).symm, by omega⟩
theorem Scd.spare (h : FI n ok M r S tn B ρ Q i o) {p q : Nat} (k : Scd Q i o p q) : S p = true := by
  obtain ⟨_, e, _⟩ := k
  exact (h.qm p).1 (List.mem_of_getElem? e)
/-- The state behind one look, whatever it did. -/
theorem FI.look (h : FI n ok M r S tn B ρ Q i o) {x : Nat} (hi : Q[i]? = some x) {S' : Nat → Bool} {tn' : Nat → Tn} {B' ρ' : Nat → Nat} {Q' : List Nat} (ti : TI n ok M r S' tn' B' ρ') (qn : (Q ++ Q').Nodup) (qm : ∀ y, y ∈ Q ++ Q' ↔ S' y = true) (hS : ∀ y, S y = true → S' y = true) (hB : ∀ y z, B y = B z → B' y = B' z)
    (h1 : ok x o = true → B' x = B' o ∨ ∃ t, M o = some t ∧ S' t = true) (h2 : ok x o = true → S o = true → B' x = B' o) (hs : ∀ x y, ok x y = ok y x) : FI n ok M r S' tn' B' ρ' (Q ++ Q') i (o + 1) := by
  have hxo : ∀ p q, Scd (Q ++ Q') i (o + 1) p q → Scd (Q ++ Q') i (o + 1) q p → ok p q = true → p = x → q = o → B' p = B' q := fun p q _ k2 hok e1 e2 => by
    subst e1; subst e2
    refine h2 hok ?_
    rcases k2.next hi with k | ⟨k, -⟩
    · exact k.spare h
    · rw [k]; exact (h.qm p).1 (List.mem_of_getElem? hi)
  refine ⟨ti, qn, qm, fun p q hq k hok => ?_, fun p q hp hq k k' hok => ?_⟩
  · rcases k.next hi with k | ⟨rfl, rfl⟩
    · rcases h.s1 p q hq k hok with e | ⟨t, e1, e2⟩
      · exact .inl (hB _ _ e)
      · exact .inr ⟨t, e1, hS t e2⟩
    · exact h1 hok
  · rcases k.next hi with k1 | ⟨e1, e2⟩
    · rcases k'.next hi with k2 | ⟨e1, e2⟩
      · exact hB _ _ (h.s2 p q hp hq k1 k2 hok)
      · exact (hxo q p k' k (by rw [hs]; exact hok) e1 e2).symm
    · exact hxo p q k k' hok e1 e2
/-- Nothing is to be done. -/
theorem FI.skip (h : FI n ok M r S tn B ρ Q i o) (hs : ∀ x y, ok x y = ok y x) {x : Nat} (hi : Q[i]? = some x) (hk : ok x o = false ∨ B x = B o ∨ (S o = false ∧ ∃ t, M o = some t ∧ S t = true)) : FI n ok M r S tn B ρ Q i (o + 1) := by
  have := FI.look (Q' := []) h hi h.ti (by simpa using h.qn) (fun y => by rw [List.append_nil]; exact h.qm y) (fun _ e => e) (fun _ _ e => e) (fun e => ?_) (fun e e' => ?_) hs
  · rwa [List.append_nil] at this
  · rcases hk with hk | hk | ⟨-, hk⟩
    · rw [hk] at e; cases e
    · exact .inl hk
    · exact .inr hk
  · rcases hk with hk | hk | ⟨hk, -⟩
    · rw [hk] at e; cases e
    · exact hk
    · rw [hk] at e'; cases e'
theorem FI.reach (h : FI n ok M r S tn B ρ Q i o) (hs : ∀ x y, ok x y = ok y x) {x v : Nat} (hi : Q[i]? = some x) (hv : S v = false) (ho : S o = false) (hM : M o = some v) (hok : ok x o = true) :
    FI n ok M r (updT S v true) (updT tn v (.vert x)) B (updT ρ v (ρ (B x) + 1)) (Q ++ [v]) i (o + 1) := by
  have hx : S x = true := (h.qm x).1 (List.mem_of_getElem? hi)
  have hne : ∀ y, S y = true → y ≠ v := fun y hy e => by rw [e, hv] at hy; cases hy
  refine h.look hi (h.ti.reach hx hv ho hM hok) ?_ (fun y => ?_) (fun y hy => by rw [updT_other _ _ (hne y hy)]; exact hy) (fun _ _ e => e) (fun _ => .inr ⟨v, hM, updT_same _ _ _⟩) (fun _ e => by rw [ho] at e; cases e) hs
  · exact List.nodup_append.2 ⟨h.qn, by simp, fun y hy z hz e => by
      simp at hz
      subst hz
      exact hne y ((h.qm y).1 hy) e⟩
  · simp only [List.mem_append, List.mem_singleton, h.qm y]
    by_cases e : y = v
    · subst e
      rw [updT_same]; simp
    · rw [updT_other _ _ e]; simp [e]
theorem FI.join (h : FI n ok M r S tn B ρ Q i o) (hs : ∀ x y, ok x y = ok y x) {x m : Nat} {J K : Nat → Bool} {L : List Nat} (hi : Q[i]? = some x) (j : Jn M r S tn B x o m J K) (hok : ok x o = true) (hL : L.Nodup) (hLK : ∀ y, y ∈ L ↔ K y = true) :
    FI n ok M r (jS S K) (jT tn K x o) (jB B J K m) ρ (Q ++ L) i (o + 1) := by
  obtain ⟨e1, e2⟩ := j.same h.ti
  refine h.look hi (h.ti.join j hok) ?_ (fun y => ?_) (fun y hy => jS_iff.2 (.inl hy)) (fun y z e => by unfold jB; rw [e]) (fun _ => .inl (by rw [e1, e2])) (fun _ _ => by rw [e1, e2]) hs
  · refine List.nodup_append.2 ⟨h.qn, hL, fun y hy z hz e => ?_⟩
    have h1 := (h.qm y).1 hy
    have h2 := (j.Ks h.ti ((hLK z).1 hz)).1
    rw [← e, h1] at h2; cases h2
  · rw [List.mem_append, h.qm y, hLK y, jS_iff]
theorem FI.row (h : FI n ok M r S tn B ρ Q i n) : FI n ok M r S tn B ρ Q (i + 1) 0 := by
  have key : ∀ p q, q < n → Scd Q (i + 1) 0 p q → Scd Q i n p q := fun p q hq ⟨k, e, hk⟩ => ⟨k, e, by omega⟩
  exact ⟨h.ti, h.qn, h.qm, fun p q hq k => h.s1 p q hq (key p q hq k), fun p q hp hq k k' => h.s2 p q hp hq (key p q hq k) (key q p hp k')⟩
/-- The whole queue has been gone through. -/
theorem FI.done (h : FI n ok M r S tn B ρ Q Q.length 0) {p q : Nat} (hp : S p = true) (hq : q < n) (hok : ok p q = true) (hb : isBar M S q = false) : S q = true ∧ B p = B q := by
  have sc : ∀ {p q}, S p = true → Scd Q Q.length 0 p q := fun {p q} hp => by
    obtain ⟨k, hk, e⟩ := List.getElem_of_mem ((h.qm p).2 hp)
    exact ⟨k, by rw [List.getElem?_eq_getElem hk, e], .inl hk⟩
  have key : S q = true := by
    cases hsq : S q with
    | true => rfl
    | false =>
      rcases h.s1 p q hq (sc hp) hok with e | ⟨t, e1, e2⟩
      · rw [h.ti.nb q hsq] at e
        rw [← e, (h.ti.bs p hp).1] at hsq; cases hsq
      · rw [isBar_iff.2 ⟨hsq, t, e1, e2⟩] at hb; cases hb
  exact ⟨key, h.s2 p q (h.ti.lt p hp) hq (sc hp) (sc key) hok⟩

/-- The bases from x up to m, without m. -/
inductive Chn (r : Nat) (tn : Nat → Tn) (B : Nat → Nat) (m : Nat) : Nat → List Nat → Prop
  | here : Chn r tn B m m []
  | step {x a l} : x ≠ m → x ≠ r → tn x = .vert a → Chn r tn B m (B a) l → Chn r tn B m x (x :: l)
theorem Chn.of_up {m x : Nat} (k : Up r tn B x m) : ∃ l, Chn r tn B m x l := by
  induction k with
  | refl => exact ⟨[], .here⟩
  | @step x a m h1 h2 h3 ih =>
    obtain ⟨l, hl⟩ := ih
    by_cases e : x = m
    · subst e; exact ⟨[], .here⟩
    · exact ⟨x :: l, .step e h1 h2 hl⟩
theorem Chn.up {m x : Nat} {l : List Nat} (k : Chn r tn B m x l) : Up r tn B x m := by
  induction k with
  | here => exact .refl _
  | step _ h2 h3 _ ih => exact .step h2 h3 ih
theorem Chn.mem (h : TI n ok M r S tn B ρ) {m x : Nat} {l : List Nat} (k : Chn r tn B m x l) : S x = true → B x = x → ∀ y, y ∈ l ↔ (Up r tn B x y ∧ Up r tn B y m ∧ y ≠ m) := by
  induction k with
  | here =>
    intro h1 h2 y
    constructor
    · intro hy; simp at hy
    · rintro ⟨e1, e2, e3⟩
      exact absurd (h.anti h1 h2 e1 e2).symm e3
  | @step x a l k1 k2 k3 k4 ih =>
    intro h1 h2 y
    obtain ⟨_, a', _, _, e3, e4, _, _⟩ := h.bas x h1 h2 k2
    rw [k3] at e3
    obtain rfl : a = a' := by injection e3
    obtain ⟨c1, c2⟩ := h.bs a e4
    have i := ih c1 c2 y
    rw [List.mem_cons]
    constructor
    · rintro (rfl | hy)
      · exact ⟨.refl _, .step k2 k3 k4.up, k1⟩
      · obtain ⟨e1, e2, e3⟩ := i.1 hy
        exact ⟨.step k2 k3 e1, e2, e3⟩
    · rintro ⟨e1, e2, e3⟩
      cases e1 with
      | refl => exact .inl rfl
      | @step _ a' _ q1 q2 q3 =>
        rw [k3] at q2
        obtain rfl : a = a' := by injection q2
        exact .inr (i.2 ⟨q3, e2, e3⟩)
theorem Chn.nodup (h : TI n ok M r S tn B ρ) {m x : Nat} {l : List Nat} (k : Chn r tn B m x l) : S x = true → B x = x → l.Nodup := by
  induction k with
  | here => intro _ _; simp
  | @step x a l k1 k2 k3 k4 ih =>
    intro h1 h2
    obtain ⟨_, a', _, _, e3, e4, _, e6⟩ := h.bas x h1 h2 k2
    rw [k3] at e3
    obtain rfl : a = a' := by injection e3
    obtain ⟨c1, c2⟩ := h.bs a e4
    refine List.nodup_cons.2 ⟨fun hx => ?_, ih c1 c2⟩
    obtain ⟨g1, -⟩ := (k4.mem h c1 c2 x).1 hx
    have := (h.up c1 c2 g1).2.2.1
    omega
/-- The partner of a base. -/
def mate (M : Nat → Option Nat) (x : Nat) : Nat := (M x).getD 0
/-- Who is joined, by two lists. -/
theorem Jn.of_lists (h : TI n ok M r S tn B ρ) {a b m : Nat} {la lb : List Nat} (ha : S a = true) (hb : S b = true) (ka : Chn r tn B m (B a) la) (kb : Chn r tn B m (B b) lb) (low : ∀ y, Up r tn B (B a) y → Up r tn B (B b) y → Up r tn B m y) :
    Jn M r S tn B a b m (fun x => decide (x ∈ la ++ lb)) (fun y => decide (y ∈ (la ++ lb).map (mate M))) ∧ ((la ++ lb).map (mate M)).Nodup ∧ ∀ x ∈ la ++ lb, ∃ y, M x = some y ∧ mate M x = y ∧ S x = true ∧ B x = x ∧ S y = false := by
  obtain ⟨a1, a2⟩ := h.bs a ha
  obtain ⟨b1, b2⟩ := h.bs b hb
  have hma := ka.mem h a1 a2
  have hmb := kb.mem h b1 b2
  have hbase : ∀ x ∈ la ++ lb, S x = true ∧ B x = x ∧ x ≠ r := fun x hx => by
    have e : (Up r tn B (B a) x ∨ Up r tn B (B b) x) ∧ Up r tn B x m ∧ x ≠ m := by
      rcases List.mem_append.1 hx with hx | hx
      · exact ⟨.inl ((hma x).1 hx).1, ((hma x).1 hx).2⟩
      · exact ⟨.inr ((hmb x).1 hx).1, ((hmb x).1 hx).2⟩
    have e4 : S x = true ∧ B x = x := e.1.elim (h.up2 ha) (h.up2 hb)
    refine ⟨e4.1, e4.2, fun er => ?_⟩
    subst er
    exact e.2.2 (Up.of_root e.2.1).symm
  have hmate : ∀ x ∈ la ++ lb, ∃ y, M x = some y ∧ mate M x = y ∧ S x = true ∧ B x = x ∧ S y = false := fun x hx => by
    obtain ⟨s1, s2, s3⟩ := hbase x hx
    obtain ⟨y, _, e1, e2, -⟩ := h.bas x s1 s2 s3
    exact ⟨y, e1, by unfold mate; rw [e1]; rfl, s1, s2, e2⟩
  refine ⟨⟨ha, hb, ka.up, kb.up, low, fun x => ?_, fun y => ?_⟩, ?_, hmate⟩
  · simp only [decide_eq_true_eq, List.mem_append, hma x, hmb x]
    constructor
    · rintro (e | e)
      · exact ⟨.inl e.1, e.2⟩
      · exact ⟨.inr e.1, e.2⟩
    · rintro ⟨e | e, e'⟩
      · exact .inl ⟨e, e'⟩
      · exact .inr ⟨e, e'⟩
  · simp only [decide_eq_true_eq, List.mem_map]
    constructor
    · rintro ⟨x, hx, e⟩
      obtain ⟨y', e1, e2, -⟩ := hmate x hx
      rw [e2] at e
      subst e
      exact ⟨x, hx, h.mt.sym _ _ e1⟩
    · rintro ⟨x, hx, e⟩
      obtain ⟨y', e1, e2, -⟩ := hmate x hx
      refine ⟨x, hx, ?_⟩
      rw [h.mt.sym _ _ e] at e1
      rw [e2, ← Option.some.inj e1]
  · have hn : (la ++ lb).Nodup := by
      refine List.nodup_append.2 ⟨ka.nodup h a1 a2, kb.nodup h b1 b2, fun x hx y hy e => ?_⟩
      subst e
      obtain ⟨e1, e2, e3⟩ := (hma x).1 hx
      obtain ⟨f1, -, -⟩ := (hmb x).1 hy
      obtain ⟨x1, x2⟩ := h.up2 ha e1
      exact e3 (h.anti x1 x2 e2 (low x e1 f1))
    unfold List.Nodup
    rw [List.pairwise_map]
    refine List.Pairwise.imp_of_mem (fun {x y} hx hy hxy e => ?_) hn
    obtain ⟨x', e1, e2, -⟩ := hmate x hx
    obtain ⟨y', f1, f2, -⟩ := hmate y hy
    rw [e2, f2] at e
    subst e
    exact hxy (h.mt.inj e1 f1)
/-- One step up on the second way: the first way has not come there. -/
theorem low_step (h : TI n ok M r S tn B ρ) {a b x c : Nat} (hb : S b = true) (hx : Up r tn B (B b) x) (hr : x ≠ r) (hc : tn x = .vert c) (hno : ∀ y, Up r tn B (B b) y → Up r tn B y x → y ≠ x → ¬ Up r tn B (B a) y) (hxa : ¬ Up r tn B (B a) x) :
    Up r tn B (B b) (B c) ∧ ∀ y, Up r tn B (B b) y → Up r tn B y (B c) → y ≠ B c → ¬ Up r tn B (B a) y := by
  have hst : Up r tn B x (B c) := .step hr hc (.refl _)
  refine ⟨hx.trans hst, fun y h1 h2 h3 => ?_⟩
  rcases hx.line h1 with e | e
  · cases e with
    | refl => exact hxa
    | @step _ c' _ q1 q2 q3 =>
      rw [hc] at q2
      obtain rfl : c = c' := by injection q2
      obtain ⟨y1, y2⟩ := h.up2 hb h1
      exact absurd (h.anti y1 y2 h2 q3) h3
  · by_cases e' : y = x
    · subst e'; exact hxa
    · exact hno y h1 e e'
theorem low_end {a b m : Nat} (hm : Up r tn B (B b) m) (hno : ∀ y, Up r tn B (B b) y → Up r tn B y m → y ≠ m → ¬ Up r tn B (B a) y) : ∀ y, Up r tn B (B a) y → Up r tn B (B b) y → Up r tn B m y := fun y h1 h2 => by
  rcases hm.line h2 with e | e
  · exact e
  · by_cases e' : y = m
    · subst e'; exact .refl _
    · exact absurd h1 (hno y h2 e e')
end
end Go.Proofs.Ytppkejblhkbkjaa.Tu
