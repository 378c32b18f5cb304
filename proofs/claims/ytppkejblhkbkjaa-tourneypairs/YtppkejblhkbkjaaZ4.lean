/-
  Groups of spare players that are joined, plain.
-/
import Derived.Test.YtppkejblhkbkjaaZ3
namespace Go.Proofs.Ytppkejblhkbkjaa.Tu

variable {n : Nat} {ok : Nat → Nat → Bool} {M : Nat → Option Nat}
section
variable {r : Nat} {S : Nat → Bool} {tn : Nat → Tn} {B ρ : Nat → Nat}

/-- Who is joined: the bases below m on two ways up (J), and who kept them apart (K). -/
structure Jn (M : Nat → Option Nat) (r : Nat) (S : Nat → Bool) (tn : Nat → Tn) (B : Nat → Nat) (a b m : Nat) (J K : Nat → Bool) : Prop where
  sa : S a = true
  sb : S b = true
  ma : Up r tn B (B a) m
  mb : Up r tn B (B b) m
  low : ∀ y, Up r tn B (B a) y → Up r tn B (B b) y → Up r tn B m y
  hJ : ∀ x, J x = true ↔ ((Up r tn B (B a) x ∨ Up r tn B (B b) x) ∧ Up r tn B x m ∧ x ≠ m)
  hK : ∀ y, K y = true ↔ ∃ x, J x = true ∧ M y = some x
def jS (S K : Nat → Bool) : Nat → Bool := fun y => S y || K y
def jT (tn : Nat → Tn) (K : Nat → Bool) (a b : Nat) : Nat → Tn := fun y => if K y = true then .edge a b else tn y
def jB (B : Nat → Nat) (J K : Nat → Bool) (m : Nat) : Nat → Nat := fun y => if (J (B y) || K (B y)) = true then m else B y
def phi (J : Nat → Bool) (m x : Nat) : Nat := if J x = true then m else x

variable {a b m : Nat} {J K : Nat → Bool}
theorem Jn.Js (h : TI n ok M r S tn B ρ) (j : Jn M r S tn B a b m J K) {x : Nat} (hx : J x = true) : S x = true ∧ B x = x ∧ x ≠ r ∧ Up r tn B x m ∧ x ≠ m := by
  obtain ⟨h1, h2, h3⟩ := (j.hJ x).1 hx
  have h4 : S x = true ∧ B x = x := h1.elim (h.up2 j.sa) (h.up2 j.sb)
  refine ⟨h4.1, h4.2, fun e => ?_, h2, h3⟩
  subst e
  exact h3 (Up.of_root h2).symm
theorem Jn.ms (h : TI n ok M r S tn B ρ) (j : Jn M r S tn B a b m J K) : S m = true ∧ B m = m ∧ J m = false := by
  refine ⟨(h.up2 j.sa j.ma).1, (h.up2 j.sa j.ma).2, ?_⟩
  cases hj : J m with
  | false => rfl
  | true => exact absurd rfl (j.Js h hj).2.2.2.2
theorem Jn.Ks (h : TI n ok M r S tn B ρ) (j : Jn M r S tn B a b m J K) {y : Nat} (hy : K y = true) : S y = false ∧ ∃ x, J x = true ∧ M y = some x ∧ M x = some y := by
  obtain ⟨x, h1, h2⟩ := (j.hK y).1 hy
  obtain ⟨s1, s2, s3, -⟩ := j.Js h h1
  obtain ⟨z, _, e1, e2, -⟩ := h.bas x s1 s2 s3
  have h3 := h.mt.sym _ _ h2
  rw [e1] at h3
  obtain rfl := Option.some.inj h3
  exact ⟨e2, x, h1, h2, e1⟩
theorem Jn.Kf (h : TI n ok M r S tn B ρ) (j : Jn M r S tn B a b m J K) {x : Nat} (hx : S x = true) : K x = false := by
  cases hk : K x with
  | false => rfl
  | true => rw [(j.Ks h hk).1] at hx; cases hx
theorem jS_iff {y : Nat} : jS S K y = true ↔ S y = true ∨ K y = true := by simp [jS]
theorem Jn.tS (h : TI n ok M r S tn B ρ) (j : Jn M r S tn B a b m J K) {x : Nat} (hx : S x = true) : jT tn K a b x = tn x := by
  unfold jT
  rw [j.Kf h hx]; rfl
theorem jT_K {y : Nat} (hy : K y = true) : jT tn K a b y = .edge a b := by unfold jT; rw [if_pos hy]
theorem Jn.bS (h : TI n ok M r S tn B ρ) (j : Jn M r S tn B a b m J K) {y : Nat} (hy : S y = true) : jB B J K m y = phi J m (B y) := by
  unfold jB phi
  rw [j.Kf h (h.bs y hy).1, Bool.or_false]
theorem Jn.bK (h : TI n ok M r S tn B ρ) (j : Jn M r S tn B a b m J K) {y : Nat} (hy : K y = true) : jB B J K m y = m := by
  unfold jB
  rw [h.nb y (j.Ks h hy).1, hy, Bool.or_true, if_pos rfl]
theorem Jn.bN (h : TI n ok M r S tn B ρ) (j : Jn M r S tn B a b m J K) {y : Nat} (hy : jS S K y = false) : jB B J K m y = y := by
  have h1 : S y = false := by
    cases hs : S y with
    | false => rfl
    | true => rw [jS_iff.2 (.inl hs)] at hy; cases hy
  have h2 : K y = false := by
    cases hs : K y with
    | false => rfl
    | true => rw [jS_iff.2 (.inr hs)] at hy; cases hy
  unfold jB
  rw [h.nb y h1, h2, Bool.or_false, if_neg]
  intro e
  rw [(j.Js h e).1] at h1; cases h1
theorem phi_J {x : Nat} (hx : J x = true) : phi J m x = m := by unfold phi; rw [if_pos hx]
theorem phi_N {x : Nat} (hx : J x = false) : phi J m x = x := by unfold phi; rw [hx]; rfl
/-- A base of the new groups is one of the old ones. -/
theorem Jn.base (h : TI n ok M r S tn B ρ) (j : Jn M r S tn B a b m J K) {y : Nat} (hs : jS S K y = true) (hb : jB B J K m y = y) : S y = true ∧ B y = y ∧ J y = false := by
  obtain ⟨m1, m2, m3⟩ := j.ms h
  rcases jS_iff.1 hs with hy | hy
  · rw [j.bS h hy] at hb
    cases hj : J (B y) with
    | true =>
      rw [phi_J hj] at hb
      subst hb
      rw [m2, m3] at hj; cases hj
    | false =>
      rw [phi_N hj] at hb
      exact ⟨hy, hb, by rw [← hb]; exact hj⟩
  · rw [j.bK h hy] at hb
    subst hb
    rw [j.Kf h m1] at hy; cases hy
theorem Jn.up1 (h : TI n ok M r S tn B ρ) (j : Jn M r S tn B a b m J K) {y x : Nat} (k : Up r (jT tn K a b) (jB B J K m) y x) : S y = true → B y = y → J y = false → Up r tn B y x ∧ J x = false := by
  obtain ⟨m1, m2, m3⟩ := j.ms h
  induction k with
  | refl => intro _ _ hj; exact ⟨.refl _, hj⟩
  | @step y a0 x k1 k2 k3 ih =>
    intro hs hb hj
    rw [j.tS h hs] at k2
    obtain ⟨_, a', _, _, e3, e4, _, _⟩ := h.bas y hs hb k1
    rw [k2] at e3
    obtain rfl : a0 = a' := by injection e3
    obtain ⟨c1, c2⟩ := h.bs a0 e4
    rw [j.bS h e4] at ih
    cases hja : J (B a0) with
    | true =>
      rw [phi_J hja] at ih
      obtain ⟨i1, i2⟩ := ih m1 m2 m3
      exact ⟨.step k1 k2 (Up.trans (j.Js h hja).2.2.2.1 i1), i2⟩
    | false =>
      rw [phi_N hja] at ih
      obtain ⟨i1, i2⟩ := ih c1 c2 hja
      exact ⟨.step k1 k2 i1, i2⟩
theorem Jn.up2 (h : TI n ok M r S tn B ρ) (j : Jn M r S tn B a b m J K) {y x : Nat} (k : Up r tn B y x) : S y = true → B y = y → J x = false → Up r (jT tn K a b) (jB B J K m) (phi J m y) x := by
  obtain ⟨m1, m2, m3⟩ := j.ms h
  induction k with
  | refl => intro _ _ hj; rw [phi_N hj]; exact .refl _
  | @step y a0 x k1 k2 k3 ih =>
    intro hs hb hj
    obtain ⟨_, a', _, _, e3, e4, _, _⟩ := h.bas y hs hb k1
    rw [k2] at e3
    obtain rfl : a0 = a' := by injection e3
    obtain ⟨c1, c2⟩ := h.bs a0 e4
    have i := ih c1 c2 hj
    cases hy : J y with
    | true =>
      rw [phi_J hy]
      have hm : phi J m (B a0) = m := by
        obtain ⟨g1, g2, g3⟩ := (j.hJ y).1 hy
        cases g2 with
        | refl => exact absurd rfl g3
        | @step _ a'' _ q1 q2 q3 =>
          rw [k2] at q2
          obtain rfl : a0 = a'' := by injection q2
          by_cases hbm : B a0 = m
          · rw [hbm]; exact phi_N m3
          · refine phi_J ((j.hJ _).2 ⟨?_, q3, hbm⟩)
            have hst : Up r tn B y (B a0) := .step k1 k2 (.refl _)
            exact g1.elim (fun g => .inl (g.trans hst)) (fun g => .inr (g.trans hst))
      rw [hm] at i; exact i
    | false =>
      rw [phi_N hy]
      exact .step k1 (by rw [j.tS h hs]; exact k2) (by rw [j.bS h e4]; exact i)
theorem Jn.up3 (h : TI n ok M r S tn B ρ) (j : Jn M r S tn B a b m J K) {y z : Nat} (k : Up r tn B y z) (hs : S y = true) (hb : B y = y) : Up r (jT tn K a b) (jB B J K m) (phi J m y) (phi J m z) := by
  cases hz : J z with
  | true =>
    rw [phi_J hz]
    exact j.up2 h (k.trans (j.Js h hz).2.2.2.1) hs hb (j.ms h).2.2
  | false =>
    rw [phi_N hz]
    exact j.up2 h k hs hb hz
theorem Jn.tag (h : TI n ok M r S tn B ρ) (j : Jn M r S tn B a b m J K) {y t : Nat} (k : Tag M S B y t) : Tag M (jS S K) (jB B J K m) y (phi J m t) ∧ (J t = true → jS S K y = true) := by
  rcases k with ⟨k1, rfl⟩ | ⟨k1, k2, k3, k4⟩
  · exact ⟨.inl ⟨jS_iff.2 (.inl k1), (j.bS h k1).symm⟩, fun _ => jS_iff.2 (.inl k1)⟩
  · cases hj : J t with
    | true =>
      have hk : K y = true := (j.hK y).2 ⟨t, hj, k2⟩
      exact ⟨.inl ⟨jS_iff.2 (.inr hk), by rw [phi_J hj, j.bK h hk]⟩, fun _ => jS_iff.2 (.inr hk)⟩
    | false =>
      have hk : K y = false := by
        cases hk : K y with
        | false => rfl
        | true =>
          obtain ⟨-, x, e1, e2, -⟩ := j.Ks h hk
          rw [k2] at e2
          rw [Option.some.inj e2, e1] at hj; cases hj
      refine ⟨.inr ⟨by simp [jS, k1, hk], by rw [phi_N hj]; exact k2, ?_, ?_⟩, fun e => by cases e⟩
      · rw [phi_N hj]; exact jS_iff.2 (.inl k3)
      · rw [phi_N hj, j.bS h k3, k4, phi_N hj]

/-- A way whose groups are joined. -/
theorem Jn.way (h : TI n ok M r S tn B ρ) (j : Jn M r S tn B a b m J K) {c x : Nat} {pa : List Nat} (hc : S c = true) (hx : J x = false) (hs : ∀ y ∈ pa, ∃ t, Tag M S B y t ∧ Up r tn B (B c) t ∧ Up r tn B t x ∧ (t = x → S y = true)) :
    ∀ y ∈ pa, ∃ t t', Tag M S B y t ∧ t' = phi J m t ∧ Up r tn B (B c) t ∧ Tag M (jS S K) (jB B J K m) y t' ∧ Up r (jT tn K a b) (jB B J K m) (phi J m (B c)) t' ∧ Up r (jT tn K a b) (jB B J K m) t' x ∧ (t' = x → jS S K y = true) := by
  intro y hy
  obtain ⟨t, g1, g2, g3, g4⟩ := hs y hy
  obtain ⟨c1, c2⟩ := h.bs c hc
  obtain ⟨t1, t2⟩ := h.up2 hc g2
  obtain ⟨k1, k2⟩ := j.tag h g1
  refine ⟨t, _, g1, rfl, g2, k1, j.up3 h g2 c1 c2, j.up2 h g3 t1 t2 hx, fun e => ?_⟩
  cases hj : J t with
  | true => exact k2 hj
  | false =>
    rw [phi_N hj] at e
    exact jS_iff.2 (.inl (g4 e))

/-- One who kept groups apart is reached, his way: round the other way. (c: his own side's end, d: the other one's.) -/
theorem Jn.fresh (h : TI n ok M r S tn B ρ) (j : Jn M r S tn B a b m J K) {v x0 c d x : Nat} (hv : K v = true) (hJ0 : J x0 = true) (hM : M v = some x0) (hcs : S c = true) (hds : S d = true) (hc : Up r tn B (B c) x0) (hcm : Up r tn B (B d) m) (hlow : ∀ y, Up r tn B (B c) y → Up r tn B (B d) y → Up r tn B m y)
    (hJc : ∀ y, Up r tn B (B c) y → Up r tn B y m → y ≠ m → J y = true) (hJd : ∀ y, Up r tn B (B d) y → Up r tn B y m → y ≠ m → J y = true)
    (hmk : ∀ pc pd, Seg ok M (jT tn K a b) c pc x0 → Seg ok M (jT tn K a b) d pd x → Seg ok M (jT tn K a b) v (v :: x0 :: (pc.reverse ++ pd)) x) (hx : Up r tn B m x) (hxJ : J x = false) :
    ∃ pv, Seg ok M (jT tn K a b) v pv x ∧ (pv ++ [x]).Nodup ∧ ∀ y ∈ pv, ∃ t, Tag M (jS S K) (jB B J K m) y t ∧ Up r (jT tn K a b) (jB B J K m) m t ∧ Up r (jT tn K a b) (jB B J K m) t x ∧ (t = x → jS S K y = true) := by
  obtain ⟨m1, m2, m3⟩ := j.ms h
  obtain ⟨v1, -⟩ := j.Ks h hv
  obtain ⟨q1, q2, q3, q4, q5⟩ := j.Js h hJ0
  have hdx := hcm.trans hx
  obtain ⟨x1, x2⟩ := h.up2 hds hdx
  obtain ⟨pc, s1, s2, s3⟩ := h.seg c hcs x0 hc
  obtain ⟨pd, t1, t2, t3⟩ := h.seg d hds x hdx
  have htn : ∀ y, S y = true → jT tn K a b y = tn y := fun y hy => j.tS h hy
  -- nobody's group lies on both sides below m
  have apart : ∀ t, Up r tn B (B c) t → Up r tn B t x0 → Up r tn B (B d) t → False := fun t e1 e2 e3 => by
    have e4 := hlow t e1 e3
    obtain ⟨t1', t2'⟩ := h.up2 hcs e1
    have e5 : t = m := h.anti t1' t2' (e2.trans q4) e4
    subst e5
    exact q5 (h.anti q1 q2 q4 e2)
  have hxd : ∀ y ∈ pd ++ [x], ∃ t, Tag M S B y t ∧ Up r tn B (B d) t := fun y hy => by
    rcases List.mem_append.1 hy with hy | hy
    · obtain ⟨t, g1, g2, -⟩ := t3 y hy
      exact ⟨t, g1, g2⟩
    · simp at hy
      subst hy
      exact ⟨y, .inl ⟨x1, x2.symm⟩, hdx⟩
  have hx0d : ∀ y, Tag M S B y x0 → y ∉ pd ++ [x] := fun y hy hyd => by
    obtain ⟨t, g1, g2⟩ := hxd y hyd
    rw [← hy.one g1] at g2
    exact apart x0 hc (.refl _) g2
  have hvt : Tag M S B v x0 := .inr ⟨v1, hM, q1, q2⟩
  have hx0t : Tag M S B x0 x0 := .inl ⟨q1, q2.symm⟩
  have hvc : v ∉ pc := fun hy => by
    obtain ⟨t, g1, -, -, g4⟩ := s3 v hy
    have := g4 (g1.one hvt)
    rw [v1] at this; cases this
  have hvx : v ≠ x0 := fun e => h.mt.ne v (by rw [hM, e])
  obtain ⟨u1, -, u3⟩ := List.nodup_append.1 s2
  have hx0c : x0 ∉ pc := fun hy => u3 x0 hy x0 (by simp) rfl
  have hcd : ∀ y ∈ pc, y ∉ pd ++ [x] := fun y hy hyd => by
    obtain ⟨t, g1, g2, g3, -⟩ := s3 y hy
    obtain ⟨t', k1, k2⟩ := hxd y hyd
    rw [← g1.one k1] at k2
    exact apart t g2 g3 k2
  have hc0 := h.bs c hcs
  have hd0 := h.bs d hds
  refine ⟨v :: x0 :: (pc.reverse ++ pd), hmk pc pd (h.seg_congr htn s1 hcs (.inr trivial)) (h.seg_congr htn t1 hds (.inr trivial)), ?_, fun y hy => ?_⟩
  · simp only [List.cons_append, List.append_assoc, List.nodup_cons, List.mem_cons, not_or]
    refine ⟨⟨hvx, fun hy => ?_⟩, fun hy => ?_, List.nodup_append.2 ⟨nodup_rev.2 u1, t2, fun y hy z hz e => hcd y (List.mem_reverse.1 hy) (by rw [e]; exact hz)⟩⟩
    · rcases List.mem_append.1 hy with hy | hy
      · exact hvc (List.mem_reverse.1 hy)
      · exact hx0d v hvt hy
    · rcases List.mem_append.1 hy with hy | hy
      · exact hx0c (List.mem_reverse.1 hy)
      · exact hx0d x0 hx0t hy
  · have hmx : Up r (jT tn K a b) (jB B J K m) m x := by
      have := j.up2 h hx m1 m2 hxJ
      rwa [phi_N m3] at this
    simp only [List.mem_cons, List.mem_append, List.mem_reverse] at hy
    rcases hy with rfl | rfl | hy | hy
    · exact ⟨m, .inl ⟨jS_iff.2 (.inr hv), (j.bK h hv).symm⟩, .refl _, hmx, fun _ => jS_iff.2 (.inr hv)⟩
    · exact ⟨m, .inl ⟨jS_iff.2 (.inl q1), by rw [j.bS h q1, q2, phi_J hJ0]⟩, .refl _, hmx, fun _ => jS_iff.2 (.inl q1)⟩
    · obtain ⟨t, g1, g2, g3, g4⟩ := s3 y hy
      obtain ⟨k1, k2⟩ := j.tag h g1
      have hj : J t = true := hJc t g2 (g3.trans q4) (fun e => by
        subst e
        exact q5 (h.anti q1 q2 q4 g3))
      rw [phi_J hj] at k1
      exact ⟨m, k1, .refl _, hmx, fun _ => k2 hj⟩
    · obtain ⟨t, g1, g2, g3, g4⟩ := t3 y hy
      obtain ⟨t1', t2'⟩ := h.up2 hds g2
      obtain ⟨k1, k2⟩ := j.tag h g1
      refine ⟨phi J m t, k1, ?_, j.up2 h g3 t1' t2' hxJ, fun e => ?_⟩
      · cases hj : J t with
        | true => rw [phi_J hj]; exact .refl _
        | false =>
          rcases hcm.line g2 with e | e
          · have := j.up3 h e m1 m2
            rwa [phi_N m3] at this
          · by_cases htm : t = m
            · rw [htm, phi_N m3]; exact .refl _
            · rw [hJd t g2 e htm] at hj; cases hj
      · cases hj : J t with
        | true => exact k2 hj
        | false =>
          rw [phi_N hj] at e
          exact jS_iff.2 (.inl (g4 e))

/-- Groups are joined. -/
theorem TI.join (h : TI n ok M r S tn B ρ) (j : Jn M r S tn B a b m J K) (hok : ok a b = true) : TI n ok M r (jS S K) (jT tn K a b) (jB B J K m) ρ := by
  obtain ⟨m1, m2, m3⟩ := j.ms h
  have hrJ : J r = false := by
    cases hj : J r with
    | false => rfl
    | true => exact absurd rfl (j.Js h hj).2.2.1
  refine ⟨h.mt, h.rM, h.rn, jS_iff.2 (.inl h.rS), by rw [j.bS h h.rS, h.rB, phi_N hrJ], fun x hx => ?_, fun x hx => j.bN h hx, fun x hx => ?_, fun x hx hb => ?_, fun x hx hb hr => ?_, fun x hx => ?_, fun c hc x hx => ?_⟩
  · rcases jS_iff.1 hx with hx | hx
    · exact h.lt x hx
    · obtain ⟨-, x0, -, e, -⟩ := j.Ks h hx
      exact h.mt.lt _ _ e
  · have hm' : jS S K m = true ∧ jB B J K m m = m := ⟨jS_iff.2 (.inl m1), by rw [j.bS h m1, m2, phi_N m3]⟩
    rcases jS_iff.1 hx with hx | hx
    · rw [j.bS h hx]
      cases hj : J (B x) with
      | true => rw [phi_J hj]; exact hm'
      | false =>
        obtain ⟨b1, b2⟩ := h.bs x hx
        rw [phi_N hj]
        exact ⟨jS_iff.2 (.inl b1), by rw [j.bS h b1, b2, phi_N hj]⟩
    · rw [j.bK h hx]; exact hm'
  · rcases jS_iff.1 hx with hx | hx
    · by_cases hj : J x = true
      · obtain ⟨s1, s2, s3, -⟩ := j.Js h hj
        obtain ⟨y, _, e1, -⟩ := h.bas x s1 s2 s3
        have hk : K y = true := (j.hK y).2 ⟨x, hj, h.mt.sym _ _ e1⟩
        exact ⟨y, e1, jS_iff.2 (.inr hk), by rw [j.bK h hk, j.bS h hx, s2, phi_J hj]⟩
      · by_cases hbx : B x = x
        · rw [j.bS h hx, hbx, phi_N (by simpa using hj)] at hb
          exact absurd rfl hb
        · obtain ⟨y, e1, e2, e3⟩ := h.inr x hx hbx
          exact ⟨y, e1, jS_iff.2 (.inl e2), by rw [j.bS h e2, j.bS h hx, e3]⟩
    · obtain ⟨-, x0, e1, e2, -⟩ := j.Ks h hx
      obtain ⟨s1, s2, -⟩ := j.Js h e1
      exact ⟨x0, e2, jS_iff.2 (.inl s1), by rw [j.bK h hx, j.bS h s1, s2, phi_J e1]⟩
  · obtain ⟨s1, s2, s3⟩ := j.base h hx hb
    obtain ⟨y, a0, e1, e2, e3, e4, e5, e6⟩ := h.bas x s1 s2 hr
    refine ⟨y, a0, e1, ?_, by rw [j.tS h s1]; exact e3, jS_iff.2 (.inl e4), e5, ?_⟩
    · cases hs : jS S K y with
      | false => rfl
      | true =>
        rcases jS_iff.1 hs with hs | hs
        · rw [e2] at hs; cases hs
        · obtain ⟨-, x0, g1, g2, -⟩ := j.Ks h hs
          have := h.mt.sym _ _ e1
          rw [g2] at this
          rw [Option.some.inj this] at g1
          rw [g1] at s3; cases s3
    · rw [j.bS h e4]
      cases hj : J (B a0) with
      | true =>
        rw [phi_J hj]
        obtain ⟨b1, b2⟩ := h.bs a0 e4
        have := (h.up b1 b2 (j.Js h hj).2.2.2.1).2.2.1
        omega
      | false => rw [phi_N hj]; exact e6
  · rcases jS_iff.1 hx with hx | hx
    · rcases h.lab x hx with e | ⟨a', e, e'⟩ | ⟨a', b', e, e', e''⟩
      · exact .inl e
      · exact .inr (.inl ⟨a', by rw [j.tS h hx]; exact e, jS_iff.2 (.inl e')⟩)
      · exact .inr (.inr ⟨a', b', by rw [j.tS h hx]; exact e, jS_iff.2 (.inl e'), jS_iff.2 (.inl e'')⟩)
    · exact .inr (.inr ⟨a, b, jT_K hx, jS_iff.2 (.inl j.sa), jS_iff.2 (.inl j.sb)⟩)
  · rcases jS_iff.1 hc with hc | hc
    · obtain ⟨b1, b2⟩ := h.bs c hc
      rw [j.bS h hc] at hx ⊢
      have hx2 : Up r tn B (B c) x ∧ J x = false := by
        cases hj : J (B c) with
        | true =>
          rw [phi_J hj] at hx
          obtain ⟨g1, g2⟩ := j.up1 h hx m1 m2 m3
          exact ⟨(j.Js h hj).2.2.2.1.trans g1, g2⟩
        | false =>
          rw [phi_N hj] at hx
          exact j.up1 h hx b1 b2 hj
      obtain ⟨pa, s1, s2, s3⟩ := h.seg c hc x hx2.1
      refine ⟨pa, h.seg_congr (fun y hy => j.tS h hy) s1 hc (.inr trivial), s2, fun y hy => ?_⟩
      obtain ⟨t, t', g1, g2, g3, g4, g5, g6, g7⟩ := j.way h hc hx2.2 s3 y hy
      exact ⟨t', g4, g5, g6, g7⟩
    · rw [j.bK h hc] at hx ⊢
      obtain ⟨-, x0, e1, e2, -⟩ := j.Ks h hc
      obtain ⟨g1, g2⟩ := j.up1 h hx m1 m2 m3
      obtain ⟨w1, -, -⟩ := (j.hJ x0).1 e1
      have hJa : ∀ y, Up r tn B (B a) y → Up r tn B y m → y ≠ m → J y = true := fun y k1 k2 k3 => (j.hJ y).2 ⟨.inl k1, k2, k3⟩
      have hJb : ∀ y, Up r tn B (B b) y → Up r tn B y m → y ≠ m → J y = true := fun y k1 k2 k3 => (j.hJ y).2 ⟨.inr k1, k2, k3⟩
      rcases w1 with w1 | w1
      · exact j.fresh h hc e1 e2 j.sa j.sb w1 j.mb j.low hJa hJb (fun pc pd k1 k2 => .edge (jT_K hc) e2 hok k1 k2) g1 g2
      · exact j.fresh h hc e1 e2 j.sb j.sa w1 j.ma (fun y k1 k2 => j.low y k2 k1) hJb hJa (fun pc pd k1 k2 => .edge2 (jT_K hc) e2 hok k1 k2) g1 g2
/-- Behind it both are of one group. -/
theorem Jn.same (h : TI n ok M r S tn B ρ) (j : Jn M r S tn B a b m J K) : jB B J K m a = m ∧ jB B J K m b = m := by
  obtain ⟨m1, m2, m3⟩ := j.ms h
  refine ⟨?_, ?_⟩
  · rw [j.bS h j.sa]
    by_cases e : B a = m
    · rw [e, phi_N m3]
    · exact phi_J ((j.hJ _).2 ⟨.inl (.refl _), j.ma, e⟩)
  · rw [j.bS h j.sb]
    by_cases e : B b = m
    · rw [e, phi_N m3]
    · exact phi_J ((j.hJ _).2 ⟨.inr (.refl _), j.mb, e⟩)
end
end Go.Proofs.Ytppkejblhkbkjaa.Tu
