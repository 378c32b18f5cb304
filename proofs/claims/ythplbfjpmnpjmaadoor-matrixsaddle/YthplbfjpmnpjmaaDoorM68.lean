/-
  so some part of a matrix of at most six rows and columns fits (what level, turned and holds reckon); determinants of whole numbers are whole.
-/
import Derived.Test.YthplbfjpmnpjmaaDoorM67
namespace Go.Proofs.YthplbfjpmnpjmaaDoor.Lp
/-- What level and turned make of a part: holds says yes of it. -/
structure LvH (m n : Nat) (A : Nat → Nat → Rat) (R C : List Nat) (s : Rat) : Prop where
  sign : (s = 1 ∧ 0 < tot A R C) ∨ (s = -1 ∧ tot A R C < 0)
  rows : ∀ i ∈ R, 0 ≤ s * rw_ A R C i
  cols : ∀ j ∈ C, 0 ≤ s * rw_ (fun c r => A r c) C R j
  loss : ∀ i, i < m → ls C (fun j => A i j * (s * rw_ (fun c r => A r c) C R j)) ≤ s * mn A R C
  gain : ∀ j, j < n → s * mn A R C ≤ ls R (fun i => A i j * (s * rw_ A R C i))
theorem fits (m n : Nat) (hm : 1 ≤ m) (hm6 : m ≤ 6) (hn : 1 ≤ n) (hn6 : n ≤ 6) (A : Nat → Nat → Rat) : ∃ r c s, 1 ≤ r ∧ r < 2 ^ m ∧ 1 ≤ c ∧ c < 2 ^ n ∧ (mem r).length = (mem c).length ∧ LvH m n A (mem r) (mem c) s := by
  obtain ⟨p, q, R, C, x, y, v, hR, hC, hlen, hCne, htot, hx, hy, hmn, hloss, hgain⟩ := kernel m n hm hn A
  have hRne : R ≠ [] := by
    intro e
    rw [e] at hlen
    exact hCne (List.length_eq_zero_iff.1 hlen.symm)
  have pos : ∀ (p : Nat → Bool) (k : Nat), (List.range k).filter p ≠ [] → k ≤ 6 → 1 ≤ bitsOf p k := by
    intro p k hne hk
    by_cases h : bitsOf p k = 0
    · have := mem_bits p k hk
      rw [h] at this
      exact absurd (this.symm.trans (by rfl)) hne
    · omega
  obtain ⟨s, hs⟩ : ∃ s : Rat, (s = 1 ∧ 0 < tot A R C) ∨ (s = -1 ∧ tot A R C < 0) := by
    by_cases h : 0 < tot A R C
    · exact ⟨1, .inl ⟨rfl, h⟩⟩
    · exact ⟨-1, .inr ⟨rfl, by grind⟩⟩
  have hsT : 0 ≤ s * tot A R C := by
    clear hx hy hmn hloss hgain pos hR hC
    generalize tot A R C = T at hs
    rcases hs with ⟨rfl, h⟩ | ⟨rfl, h⟩
    · grind
    · grind
  refine ⟨bitsOf p m, bitsOf q n, s, pos p m (by rw [← hR]; exact hRne) hm6, bitsOf_lt p m, pos q n (by rw [← hC]; exact hCne) hn6, bitsOf_lt q n, ?_, ?_⟩
  · rw [mem_bits p m hm6, mem_bits q n hn6, ← hR, ← hC]; exact hlen
  · rw [mem_bits p m hm6, mem_bits q n hn6, ← hR, ← hC]
    refine ⟨hs, fun i hi => ?_, fun j hj => ?_, fun i hi => ?_, fun j hj => ?_⟩
    · rw [(hx i hi).1, ← Rat.mul_assoc]; exact Rat.mul_nonneg hsT (hx i hi).2
    · rw [(hy j hj).1, ← Rat.mul_assoc]; exact Rat.mul_nonneg hsT (hy j hj).2
    · have e : ls C (fun j => A i j * (s * rw_ (fun c r => A r c) C R j)) = (s * tot A R C) * ls C (fun j => A i j * y j) := by
        rw [← ls_mul]; exact ls_congr fun j hj => by rw [(hy j hj).1]; grind
      rw [e, hmn]
      have := Rat.mul_le_mul_of_nonneg_left (hloss i hi) hsT
      grind
    · have e : ls R (fun i => A i j * (s * rw_ A R C i)) = (s * tot A R C) * ls R (fun i => A i j * x i) := by
        rw [← ls_mul]; exact ls_congr fun i hi => by rw [(hx i hi).1]; grind
      rw [e, hmn]
      have := Rat.mul_le_mul_of_nonneg_left (hgain j hj) hsT
      grind
/-- Determinants of whole numbers are whole, and small. -/
theorem sm_int {n : Nat} {f : Nat → Rat} (h : ∀ i, i < n → ∃ z : Int, f i = (z : Rat)) : ∃ z : Int, sm n f = (z : Rat) := by
  induction n with
  | zero => exact ⟨0, rfl⟩
  | succ n ih =>
    obtain ⟨a, ha⟩ := ih fun i hi => h i (by omega)
    obtain ⟨b, hb⟩ := h n (by omega)
    exact ⟨a + b, by simp only [sm]; rw [ha, hb, Rat.intCast_add]⟩
theorem sgn_int (k : Nat) : ∃ z : Int, sgn k = (z : Rat) ∧ (z = 1 ∨ z = -1) := by
  unfold sgn
  split
  · exact ⟨1, rfl, .inl rfl⟩
  · exact ⟨-1, rfl, .inr rfl⟩
theorem mn_int (A : Nat → Nat → Int) : ∀ (R C : List Nat), ∃ z : Int, mn (fun i j => (A i j : Rat)) R C = (z : Rat) := by
  intro R
  induction R with
  | nil =>
    intro C
    cases C with
    | nil => exact ⟨1, rfl⟩
    | cons c C => exact ⟨0, rfl⟩
  | cons r R ih =>
    intro C
    rw [mn_cons, E_sgn]
    refine sm_int fun k _ => ?_
    obtain ⟨a, ha, _⟩ := sgn_int k
    obtain ⟨b, hb⟩ := ih (C.eraseIdx k)
    exact ⟨a * (A r (C.getD k 0) * b), by rw [ha, hb, Rat.intCast_mul, Rat.intCast_mul]⟩
/-- The determinant as a whole number. -/
def mnI (A : Nat → Nat → Int) (R C : List Nat) : Int := (mn (fun i j => (A i j : Rat)) R C).num
theorem mnI_cast (A : Nat → Nat → Int) (R C : List Nat) : ((mnI A R C : Int) : Rat) = mn (fun i j => (A i j : Rat)) R C := by
  obtain ⟨z, hz⟩ := mn_int A R C
  unfold mnI
  rw [hz, Rat.num_intCast]
theorem sm_abs {n : Nat} {f : Nat → Rat} {B : Rat} (h : ∀ i, i < n → -B ≤ f i ∧ f i ≤ B) : -((n : Rat) * B) ≤ sm n f ∧ sm n f ≤ (n : Rat) * B := by
  induction n with
  | zero => simp only [sm]; constructor <;> grind
  | succ n ih =>
    obtain ⟨a, b⟩ := ih fun i hi => h i (by omega)
    obtain ⟨c, d⟩ := h n (by omega)
    have e : ((n + 1 : Nat) : Rat) = (n : Rat) + 1 := by rw [Rat.natCast_add]; rfl
    rw [e]
    simp only [sm]
    constructor <;> grind
end Go.Proofs.YthplbfjpmnpjmaaDoor.Lp
