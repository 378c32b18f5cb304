/-
  gameref.Odd, plain: groups of an odd number, met one behind the other.
-/
import Derived.Test.YtppkejblhkbkjaaZ23
namespace Go.Proofs.Ytppkejblhkbkjaa
open Tu

/-- What stands in Odd's list: -1: in the barrier; 0: not met; 1: met. -/
def V1 (n : Nat) (G : Nat → Int) : Nat → Bool := fun x => decide (x < n ∧ G x = 1)
/-- Between two groups. -/
structure OdI (n : Nat) (l : List (Int × Int)) (M : Nat → Option Nat) (S : Nat → Bool) (B : Nat → Nat) (i : Nat) (G : Nat → Int) (odd : Nat) : Prop where
  bar : ∀ x, x < n → (G x = -1 ↔ isBar M S x = true)
  val : ∀ x, x < n → G x = -1 ∨ G x = 0 ∨ G x = 1
  met : ∀ x, x < i → G x ≠ 0
  cnt : cntG n S B (V1 n G) ≤ odd
  le : odd ≤ i
/-- While one group is gone through: T are its players so far, k of them have been looked at, the next one up to j. -/
structure OdT (n : Nat) (l : List (Int × Int)) (M : Nat → Option Nat) (S : Nat → Bool) (B : Nat → Nat) (i : Nat) (G0 : Nat → Int) (T : List Nat) : Prop where
  nd : T.Nodup
  lt : ∀ x ∈ T, x < n
  old : ∀ x ∈ T, G0 x = 0
  cl : ∀ x ∈ T, (if S x = true then some (B x) else none) = (if S i = true then some (B i) else none)
def gT (G0 : Nat → Int) (T : List Nat) : Nat → Int := fun x => if x ∈ T then 1 else G0 x
theorem OdT.start {n : Nat} {l : List (Int × Int)} {M : Nat → Option Nat} {S : Nat → Bool} {B : Nat → Nat} {i : Nat} {G0 : Nat → Int} (hi : i < n) (h0 : G0 i = 0) : OdT n l M S B i G0 [i] :=
  ⟨by simp, fun x hx => by simp at hx; omega, fun x hx => by simp at hx; rw [hx]; exact h0, fun x hx => by simp at hx; rw [hx]⟩
theorem OdT.more {n : Nat} {l : List (Int × Int)} {r : Nat} {M : Nat → Option Nat} {S : Nat → Bool} {tn : Nat → Tn} {B ρ : Nat → Nat} (hb : Brr n l r M S tn B ρ) {i odd : Nat} {G0 : Nat → Int} {T : List Nat} (h0 : OdI n l M S B i G0 odd) (h : OdT n l M S B i G0 T) {x j : Nat} (hx : x ∈ T) (hj : j < n) (hg : gT G0 T j = 0) (hbar : barM l x j = false) : OdT n l M S B i G0 (T ++ [j]) := by
  have hjT : j ∉ T := fun e => by unfold gT at hg; rw [if_pos e] at hg; cases hg
  have hj0 : G0 j = 0 := by unfold gT at hg; rwa [if_neg hjT] at hg
  have hxj : x ≠ j := fun e => hjT (by rw [← e]; exact hx)
  have nob : ∀ y, y < n → G0 y = 0 → isBar M S y = false := fun y hy e => by
    cases hc : isBar M S y with
    | false => rfl
    | true =>
      have := (h0.bar y hy).2 hc
      rw [e] at this; cases this
  have hok : okP l x j = true := by rw [okP_bar l x j hxj, hbar]; rfl
  have hc := class_same (M := M) (S := S) (B := B) (okP_sym l) hb.ed (h.lt x hx) hj (nob x (h.lt x hx) (h.old x hx)) (nob j hj hj0) hok
  refine ⟨List.nodup_append.2 ⟨h.nd, by simp, fun a ha b hb e => ?_⟩, fun a ha => ?_, fun a ha => ?_, fun a ha => ?_⟩
  · simp at hb; subst hb; subst e; exact hjT ha
  · rcases List.mem_append.1 ha with ha | ha
    · exact h.lt a ha
    · simp at ha; omega
  · rcases List.mem_append.1 ha with ha | ha
    · exact h.old a ha
    · simp at ha; rw [ha]; exact hj0
  · rcases List.mem_append.1 ha with ha | ha
    · exact h.cl a ha
    · simp at ha; rw [ha, ← hc]; exact h.cl x hx
/-- A group has been gone through. -/
theorem OdT.done {n : Nat} {l : List (Int × Int)} {M : Nat → Option Nat} {S : Nat → Bool} {B : Nat → Nat} {i odd : Nat} {G0 : Nat → Int} {T : List Nat} (h0 : OdI n l M S B i G0 odd) (h : OdT n l M S B i G0 T) (hi : i ∈ T) : OdI n l M S B (i + 1) (gT G0 T) (odd + T.length % 2) := by
  have hV : ∀ x ∈ T, V1 n G0 x = false := fun x hx => by
    unfold V1
    have := h.old x hx
    simp only [decide_eq_false_iff_not]
    omega
  have he : V1 n (gT G0 T) = fun x => V1 n G0 x || decide (x ∈ T) := by
    funext x
    unfold V1 gT
    by_cases hx : x ∈ T
    · simp [hx, h.lt x hx]
    · simp [hx]
  refine ⟨fun x hx => ?_, fun x hx => ?_, fun x hx => ?_, ?_, by have := h0.le; omega⟩
  · unfold gT
    by_cases hT : x ∈ T
    · rw [if_pos hT]
      have h1 := h0.bar x hx
      rw [h.old x hT] at h1
      constructor
      · intro e; cases e
      · intro e; exact absurd (h1.2 e) (by decide)
    · rw [if_neg hT]; exact h0.bar x hx
  · unfold gT
    by_cases hT : x ∈ T
    · rw [if_pos hT]; exact .inr (.inr rfl)
    · rw [if_neg hT]; exact h0.val x hx
  · unfold gT
    by_cases hT : x ∈ T
    · rw [if_pos hT]; decide
    · rw [if_neg hT]
      by_cases e : x = i
      · rw [e] at hT; exact absurd hi hT
      · exact h0.met x (by omega)
  · rw [he]
    have := cnt_next (S := S) (B := B) (V := V1 n G0) h.nd h.lt hV h.cl
    have := h0.cnt
    omega
/-- Somebody has been met already. -/
theorem OdI.skip {n : Nat} {l : List (Int × Int)} {M : Nat → Option Nat} {S : Nat → Bool} {B : Nat → Nat} {i odd : Nat} {G : Nat → Int} (h : OdI n l M S B i G odd) (hi : G i ≠ 0) : OdI n l M S B (i + 1) G odd :=
  ⟨h.bar, h.val, fun x hx => by
    by_cases e : x = i
    · rw [e]; exact hi
    · exact h.met x (by omega), h.cnt, by have := h.le; omega⟩
theorem barK_all {n : Nat} {ok : Nat → Nat → Bool} {M : Nat → Option Nat} {S : Nat → Bool} (hn : n ≤ 60) (h : Mt n ok M) : barK M S 60 = barL n M S := by
  obtain ⟨k, hk⟩ : ∃ k, 60 = n + k := ⟨60 - n, by omega⟩
  unfold barK barL
  rw [hk, List.range_add, List.filter_append]
  have : ((List.range k).map (n + ·)).filter (isBar M S) = [] := by
    rw [List.filter_eq_nil_iff]
    intro x hx hb
    obtain ⟨j, -, e⟩ := List.mem_map.1 hx
    obtain ⟨-, t, e1, -⟩ := isBar_iff.1 hb
    have := h.lt _ _ e1
    omega
  rw [this, List.append_nil]
/-- More odd groups than the barrier has players. -/
theorem OdI.more {n : Nat} {l : List (Int × Int)} {r : Nat} {M : Nat → Option Nat} {S : Nat → Bool} {tn : Nat → Tn} {B ρ : Nat → Nat} (hn : n ≤ 60) (hb : Brr n l r M S tn B ρ) {odd : Nat} {G : Nat → Int} (h : OdI n l M S B n G odd) : (barK M S 60).length < odd := by
  rw [barK_all hn hb.ti.mt]
  have h1 := hb.ti.allOdd (V := V1 n G) (fun x hx => by
    have hxn := hb.ti.lt x hx
    have hnb : G x ≠ -1 := fun e => by
      have := isBar_iff.1 ((h.bar x hxn).1 e)
      rw [hx] at this; cases this.1
    unfold V1
    have := h.val x hxn
    have := h.met x hxn
    simp only [decide_eq_true_eq]
    omega)
  have h2 := hb.ti.more
  have := h.cnt
  omega
theorem cnt_zero {n : Nat} {S : Nat → Bool} {B : Nat → Nat} {V : Nat → Bool} (hV : ∀ x, V x = false) : cntG n S B V = 0 := by
  unfold cntG
  have : (basL n S B).filter (fun β => (grp n S B V β).length % 2 == 1) = [] := by
    rw [List.filter_eq_nil_iff]
    intro β _
    have : grp n S B V β = [] := by
      unfold grp
      rw [List.filter_eq_nil_iff]
      intro x _
      simp [hV x]
    rw [this]
    simp
  rw [this]
  rfl
end Go.Proofs.Ytppkejblhkbkjaa
