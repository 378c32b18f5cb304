/-
  Where the root finds nobody, plain: those who keep groups apart are a barrier (Tutte).
-/
import Derived.Test.YtppkejblhkbkjaaZ4
namespace Go.Proofs.Ytppkejblhkbkjaa.Tu

variable {n : Nat} {ok : Nat → Nat → Bool} {M : Nat → Option Nat}

theorem nodup_le : ∀ {l k : List Nat}, l.Nodup → (∀ x ∈ l, x ∈ k) → l.length ≤ k.length
  | [], k, _, _ => Nat.zero_le _
  | x :: l, k, hn, hs => by
    have hx := hs x (by simp)
    have h1 := nodup_le (l := l) (k := k.erase x) (List.nodup_cons.1 hn).2 (fun y hy => by
      have hyx : y ≠ x := fun e => (List.nodup_cons.1 hn).1 (by rw [← e]; exact hy)
      exact (List.mem_erase_of_ne hyx).2 (hs y (by simp [hy])))
    rw [List.length_erase_of_mem hx] at h1
    have := List.length_pos_of_mem hx
    simp
    omega
theorem nodup_eq {l k : List Nat} (hl : l.Nodup) (hk : k.Nodup) (h : ∀ x, x ∈ l ↔ x ∈ k) : l.length = k.length :=
  Nat.le_antisymm (nodup_le hl fun x hx => (h x).1 hx) (nodup_le hk fun x hx => (h x).2 hx)
/-- Pairs within a list: it has an even number. -/
theorem pairs_even (hsym : ∀ x y, M x = some y → M y = some x) (hne : ∀ x, M x ≠ some x) : ∀ (k : Nat) (l : List Nat), l.length ≤ k → l.Nodup → (∀ x ∈ l, ∃ y ∈ l, M x = some y) → l.length % 2 = 0 := by
  intro k
  induction k with
  | zero => intro l hl _ _; rw [show l.length = 0 by omega]
  | succ k ih =>
    intro l hl hn hc
    match l with
    | [] => rfl
    | x :: l' =>
      obtain ⟨y, hy, e⟩ := hc x (by simp)
      have hyx : y ≠ x := fun e' => hne x (by rw [e, e'])
      have hy' : y ∈ l' := by
        rcases List.mem_cons.1 hy with h | h
        · exact absurd h hyx
        · exact h
      obtain ⟨n1, n2⟩ := List.nodup_cons.1 hn
      have := ih (l'.erase y) (by rw [List.length_erase_of_mem hy']; simp at hl; omega) (n2.erase y) (fun z hz => by
        have hz' := (List.Nodup.mem_erase_iff n2).1 hz
        obtain ⟨q, hq, e2⟩ := hc z (by simp [hz'.2])
        have hqx : q ≠ x := fun e' => by
          have := hsym _ _ e2
          rw [e', e] at this
          exact hz'.1 (Option.some.inj this).symm
        have hqy : q ≠ y := fun e' => by
          have := hsym _ _ e2
          rw [e', hsym _ _ e] at this
          exact n1 (by rw [Option.some.inj this]; exact hz'.2)
        refine ⟨q, (List.Nodup.mem_erase_iff n2).2 ⟨hqy, ?_⟩, e2⟩
        rcases List.mem_cons.1 hq with h | h
        · exact absurd h hqx
        · exact h)
      rw [List.length_erase_of_mem hy'] at this
      have hp := List.length_pos_of_mem hy'
      simp
      omega

section
variable {r : Nat} {S : Nat → Bool} {tn : Nat → Tn} {B ρ : Nat → Nat}
/-- Who keeps groups apart. -/
def isBar (M : Nat → Option Nat) (S : Nat → Bool) (x : Nat) : Bool := match M x with
  | none => false
  | some t => S t && !S x
theorem isBar_iff {x : Nat} : isBar M S x = true ↔ S x = false ∧ ∃ t, M x = some t ∧ S t = true := by
  unfold isBar
  cases M x with
  | none => simp
  | some t => cases hs : S t <;> cases hx : S x <;> simp [hs]
/-- The players of a group that have been met. -/
def grp (n : Nat) (S : Nat → Bool) (B : Nat → Nat) (V : Nat → Bool) (β : Nat) : List Nat := (List.range n).filter fun x => V x && (S x && B x == β)
def basL (n : Nat) (S : Nat → Bool) (B : Nat → Nat) : List Nat := (List.range n).filter fun x => S x && B x == x
/-- How many groups have been met by an odd number of players. -/
def cntG (n : Nat) (S : Nat → Bool) (B : Nat → Nat) (V : Nat → Bool) : Nat := ((basL n S B).filter fun β => (grp n S B V β).length % 2 == 1).length
def barL (n : Nat) (M : Nat → Option Nat) (S : Nat → Bool) : List Nat := (List.range n).filter (isBar M S)

theorem nodup_range (n : Nat) : (List.range n).Nodup := List.nodup_range
theorem nodup_filter {p : Nat → Bool} {l : List Nat} (h : l.Nodup) : (l.filter p).Nodup := h.filter p

/-- Each group has an odd number of players. -/
theorem TI.odd (h : TI n ok M r S tn B ρ) {V : Nat → Bool} (hV : ∀ x, S x = true → V x = true) {β : Nat} (hs : S β = true) (hb : B β = β) : (grp n S B V β).length % 2 = 1 := by
  have hmem : ∀ x, x ∈ grp n S B V β ↔ (x < n ∧ S x = true ∧ B x = β) := fun x => by
    unfold grp
    simp only [List.mem_filter, List.mem_range, Bool.and_eq_true, beq_iff_eq]
    exact ⟨fun e => ⟨e.1, e.2.2⟩, fun e => ⟨e.1, hV x e.2.1, e.2⟩⟩
  have hn : (grp n S B V β).Nodup := nodup_filter (nodup_range n)
  have hβ : β ∈ grp n S B V β := (hmem β).2 ⟨h.lt β hs, hs, hb⟩
  have key := pairs_even h.mt.sym h.mt.ne _ ((grp n S B V β).erase β) (Nat.le_refl _) (hn.erase β) (fun x hx => by
    obtain ⟨e1, e2⟩ := (List.Nodup.mem_erase_iff hn).1 hx
    obtain ⟨f1, f2, f3⟩ := (hmem x).1 e2
    obtain ⟨y, g1, g2, g3⟩ := h.inr x f2 (fun e => e1 (by rw [← e, f3]))
    refine ⟨y, (List.Nodup.mem_erase_iff hn).2 ⟨fun e => ?_, (hmem y).2 ⟨h.lt y g2, g2, by rw [g3, f3]⟩⟩, g1⟩
    subst e
    by_cases hr : y = r
    · subst hr
      have := h.mt.sym _ _ g1
      rw [h.rM] at this; cases this
    · obtain ⟨z, _, k1, k2, -⟩ := h.bas y hs hb hr
      have := h.mt.sym _ _ g1
      rw [k1] at this
      rw [Option.some.inj this, f2] at k2; cases k2)
  rw [List.length_erase_of_mem hβ] at key
  have := List.length_pos_of_mem hβ
  omega
/-- There is one group more than there are players in the barrier. -/
theorem TI.more (h : TI n ok M r S tn B ρ) : (barL n M S).length + 1 ≤ (basL n S B).length := by
  have hmemB : ∀ x, x ∈ basL n S B ↔ (x < n ∧ S x = true ∧ B x = x) := fun x => by
    unfold basL
    simp only [List.mem_filter, List.mem_range, Bool.and_eq_true, beq_iff_eq]
  have hmem : ∀ x, x ∈ barL n M S ↔ (x < n ∧ isBar M S x = true) := fun x => by
    unfold barL
    simp only [List.mem_filter, List.mem_range]
  have hbar : ∀ x, x ∈ barL n M S → ∃ t, M x = some t ∧ S t = true ∧ B t = t ∧ t ≠ r := fun x hx => by
    obtain ⟨e1, t, e2, e3⟩ := isBar_iff.1 ((hmem x).1 hx).2
    have e4 := h.mt.sym _ _ e2
    refine ⟨t, e2, e3, ?_, fun e => by rw [e, h.rM] at e4; cases e4⟩
    by_cases hb : B t = t
    · exact hb
    · obtain ⟨y, g1, g2, -⟩ := h.inr t e3 hb
      rw [e4] at g1
      rw [← Option.some.inj g1, e1] at g2; cases g2
  have hn : (barL n M S).Nodup := nodup_filter (nodup_range n)
  have h1 : (r :: (barL n M S).map fun x => (M x).getD 0).Nodup := by
    refine List.nodup_cons.2 ⟨fun hr => ?_, ?_⟩
    · obtain ⟨x, hx, e⟩ := List.mem_map.1 hr
      obtain ⟨t, g1, -, -, g4⟩ := hbar x hx
      rw [g1] at e
      exact g4 e
    · unfold List.Nodup
      rw [List.pairwise_map]
      refine List.Pairwise.imp_of_mem (fun {x y} hx hy hxy e => ?_) hn
      obtain ⟨t, g1, -⟩ := hbar x hx
      obtain ⟨t', g1', -⟩ := hbar y hy
      rw [g1, g1'] at e
      simp at e
      subst e
      exact hxy (h.mt.inj g1 g1')
  have := nodup_le (k := basL n S B) h1 (fun x hx => by
    rcases List.mem_cons.1 hx with rfl | hx
    · exact (hmemB x).2 ⟨h.rn, h.rS, h.rB⟩
    · obtain ⟨y, hy, e⟩ := List.mem_map.1 hx
      obtain ⟨t, g1, g2, g3, -⟩ := hbar y hy
      rw [g1] at e
      simp at e
      subst e
      exact (hmemB t).2 ⟨h.lt t g2, g2, g3⟩)
  simpa using this
/-- When all have been met, all groups have been met by an odd number. -/
theorem TI.allOdd (h : TI n ok M r S tn B ρ) {V : Nat → Bool} (hV : ∀ x, S x = true → V x = true) : cntG n S B V = (basL n S B).length := by
  unfold cntG
  rw [List.filter_eq_self.2]
  intro β hβ
  unfold basL at hβ
  simp only [List.mem_filter, List.mem_range, Bool.and_eq_true, beq_iff_eq] at hβ
  simp only [beq_iff_eq]
  exact h.odd hV hβ.2.1 hβ.2.2
theorem filter_add (p q : Nat → Bool) (hd : ∀ x, p x = true → q x = false) : ∀ (l : List Nat), (l.filter fun x => p x || q x).length = (l.filter p).length + (l.filter q).length
  | [] => rfl
  | x :: l => by
    have ih := filter_add p q hd l
    cases hp : p x <;> cases hq : q x
    · simp [hp, hq, ih]
    · simp [hp, hq, ih]; omega
    · simp [hp, hq, ih]; omega
    · rw [hd x hp] at hq; cases hq
theorem filter_le_one {f g : Nat → Bool} {β0 : Nat} : ∀ {l : List Nat}, l.Nodup → (∀ x ∈ l, x ≠ β0 → f x = g x) → (l.filter f).length ≤ (l.filter g).length + 1
  | [], _, _ => by simp
  | x :: l, hn, h => by
    obtain ⟨n1, n2⟩ := List.nodup_cons.1 hn
    by_cases hx : x = β0
    · have : l.filter f = l.filter g := List.filter_congr (fun y hy => h y (by simp [hy]) (fun e => n1 (by rw [hx, ← e]; exact hy)))
      cases hf : f x <;> cases hg : g x <;> simp [hf, hg, this] <;> omega
    · have ih := filter_le_one (f := f) (g := g) n2 (fun y hy => h y (by simp [hy]))
      have e := h x (by simp) hx
      cases hg : g x
      · rw [hg] at e; simp [e, hg, ih]
      · rw [hg] at e; simp [e, hg]; omega
/-- One component more has been met. -/
theorem cnt_next {V : Nat → Bool} {C : List Nat} (hn : C.Nodup) (hlt : ∀ x ∈ C, x < n) (hV : ∀ x ∈ C, V x = false) {cl : Option Nat} (hc : ∀ x ∈ C, (if S x = true then some (B x) else none) = cl) :
    cntG n S B (fun x => V x || decide (x ∈ C)) ≤ cntG n S B V + C.length % 2 := by
  have hg : ∀ β, (grp n S B (fun x => V x || decide (x ∈ C)) β).length = (grp n S B V β).length + (C.filter fun x => S x && B x == β).length := fun β => by
    unfold grp
    have e1 : (List.range n).filter (fun x => (V x || decide (x ∈ C)) && (S x && B x == β)) = (List.range n).filter (fun x => (V x && (S x && B x == β)) || (decide (x ∈ C) && (S x && B x == β))) := by
      refine List.filter_congr fun x _ => ?_
      cases V x <;> cases decide (x ∈ C) <;> simp
    rw [e1, filter_add _ _ (fun x hx => ?_)]
    · congr 1
      refine nodup_eq (nodup_filter (nodup_range n)) (nodup_filter hn) fun x => ?_
      simp only [List.mem_filter, List.mem_range, Bool.and_eq_true, decide_eq_true_eq]
      exact ⟨fun e => ⟨e.2.1, e.2.2⟩, fun e => ⟨hlt x e.1, e.1, e.2⟩⟩
    · simp only [Bool.and_eq_true] at hx
      by_cases hxc : x ∈ C
      · rw [hV x hxc] at hx; simp at hx
      · simp [hxc]
  have hnb : (basL n S B).Nodup := nodup_filter (nodup_range n)
  unfold cntG
  cases cl with
  | none =>
    have : ∀ β, (C.filter fun x => S x && B x == β) = [] := fun β => by
      rw [List.filter_eq_nil_iff]
      intro x hx
      have := hc x hx
      cases hs : S x with
      | false => simp
      | true => rw [hs] at this; simp at this
    have e : ((basL n S B).filter fun β => (grp n S B (fun x => V x || decide (x ∈ C)) β).length % 2 == 1) = (basL n S B).filter fun β => (grp n S B V β).length % 2 == 1 := List.filter_congr fun β _ => by rw [hg β, this β]; simp
    rw [e]; omega
  | some β0 =>
    have hcs : ∀ x ∈ C, S x = true ∧ B x = β0 := fun x hx => by
      have := hc x hx
      cases hs : S x with
      | false => rw [hs] at this; simp at this
      | true => rw [hs] at this; simp at this; exact ⟨rfl, this⟩
    have h0 : ∀ β, β ≠ β0 → (C.filter fun x => S x && B x == β) = [] := fun β hβ => by
      rw [List.filter_eq_nil_iff]
      intro x hx
      obtain ⟨_, e⟩ := hcs x hx
      simp [e]
      exact fun _ e' => hβ e'.symm
    have h1 : (C.filter fun x => S x && B x == β0) = C := List.filter_eq_self.2 fun x hx => by
      obtain ⟨e1, e2⟩ := hcs x hx
      simp [e1, e2]
    by_cases hev : C.length % 2 = 0
    · have e : ((basL n S B).filter fun β => (grp n S B (fun x => V x || decide (x ∈ C)) β).length % 2 == 1) = (basL n S B).filter fun β => (grp n S B V β).length % 2 == 1 := List.filter_congr fun β _ => by
        rw [hg β]
        by_cases hβ : β = β0
        · subst hβ
          rw [h1, Nat.add_mod, hev, Nat.add_zero, Nat.mod_mod]
        · rw [h0 β hβ]; simp
      rw [e]; omega
    · have := filter_le_one (f := fun β => (grp n S B (fun x => V x || decide (x ∈ C)) β).length % 2 == 1) (g := fun β => (grp n S B V β).length % 2 == 1) (β0 := β0) hnb (fun β _ hβ => by rw [hg β, h0 β hβ]; simp)
      omega
/-- Edges between those who are not in the barrier stay within a group. -/
theorem class_same (hs : ∀ x y, ok x y = ok y x) (hE : ∀ p q, S p = true → q < n → ok p q = true → isBar M S q = false → S q = true ∧ B p = B q) {x y : Nat} (hx : x < n) (hy : y < n) (hxb : isBar M S x = false) (hyb : isBar M S y = false) (ho : ok x y = true) :
    (if S x = true then some (B x) else none) = (if S y = true then some (B y) else none) := by
  cases hsx : S x with
  | true =>
    obtain ⟨e1, e2⟩ := hE x y hsx hy ho hyb
    rw [e1, e2]
  | false =>
    cases hsy : S y with
    | false => rfl
    | true =>
      obtain ⟨e1, -⟩ := hE y x hsy hx (by rw [hs]; exact ho) hxb
      rw [hsx] at e1; cases e1
end
end Go.Proofs.Ytppkejblhkbkjaa.Tu
