/-
  sets of rows and of columns as bits; cofactors by places, with their signs.
  so some part of a matrix of at most six rows and columns fits (what level, turned and holds reckon); determinants of whole numbers are whole.
-/
import Derived.Test.YthplbfjpmnpjmaaDoorM66
namespace Go.Proofs.YthplbfjpmnpjmaaDoor.Lp
/-- The members of a set of six: its bits. -/
def mem (s : Nat) : List Nat := (List.range 6).filter fun i => s.testBit i
theorem mem_nodup (s : Nat) : (mem s).Nodup := List.Nodup.sublist List.filter_sublist List.nodup_range
theorem mem_lt (s i : Nat) : i ∈ mem s ↔ i < 6 ∧ s.testBit i = true := by simp [mem]
/-- The set of what is picked. -/
def bitsOf (p : Nat → Bool) : Nat → Nat
  | 0 => 0
  | n + 1 => bitsOf p n + if p n then 2 ^ n else 0
theorem bitsOf_lt (p : Nat → Bool) : ∀ n, bitsOf p n < 2 ^ n
  | 0 => by simp [bitsOf]
  | n + 1 => by
    have := bitsOf_lt p n
    rw [Nat.pow_succ]
    simp only [bitsOf]
    split <;> omega
theorem bitsOf_at (p : Nat → Bool) : ∀ (n i : Nat), (bitsOf p n).testBit i = (decide (i < n) && p i)
  | 0, i => by simp [bitsOf]
  | n + 1, i => by
    have hlt := bitsOf_lt p n
    simp only [bitsOf]
    by_cases hp : p n = true
    · rw [if_pos hp, Nat.add_comm]
      by_cases hi : i = n
      · subst hi
        rw [Nat.testBit_two_pow_add_eq, bitsOf_at p i i]
        simp [hp]
      · rcases Nat.lt_or_gt_of_ne hi with h | h
        · rw [Nat.testBit_two_pow_add_gt h, bitsOf_at p n i]
          have e1 : decide (i < n) = true := by simpa using h
          have e2 : decide (i < n + 1) = true := by simp; omega
          rw [e1, e2]
        · have e2 : decide (i < n + 1) = false := by simp; omega
          rw [e2, Bool.false_and]
          apply Nat.testBit_lt_two_pow
          have h3 : 2 ^ (n + 1) ≤ 2 ^ i := Nat.pow_le_pow_right (by omega) h
          rw [Nat.pow_succ] at h3
          omega
    · rw [if_neg hp, Nat.add_zero, bitsOf_at p n i]
      by_cases hi : i = n
      · subst hi
        have : p i = false := by simpa using hp
        simp [this]
      · have : decide (i < n) = decide (i < n + 1) := by
          apply decide_eq_decide.2; omega
        rw [this]
theorem mem_bits (p : Nat → Bool) (n : Nat) (hn : n ≤ 6) : mem (bitsOf p n) = (List.range n).filter p := by
  have e : List.range 6 = List.range n ++ (List.range (6 - n)).map (n + ·) := by
    have := List.range_add (n := n) (m := 6 - n)
    rw [show n + (6 - n) = 6 by omega] at this
    exact this
  unfold mem
  rw [e, List.filter_append]
  have h1 : (List.range n).filter (fun i => (bitsOf p n).testBit i) = (List.range n).filter p := by
    refine List.filter_congr fun i hi => ?_
    rw [bitsOf_at]
    have : i < n := List.mem_range.1 hi
    simp [this]
  have h2 : ((List.range (6 - n)).map (n + ·)).filter (fun i => (bitsOf p n).testBit i) = [] := by
    rw [List.filter_eq_nil_iff]
    intro i hi
    obtain ⟨k, _, rfl⟩ := List.mem_map.1 hi
    rw [bitsOf_at]
    have : ¬ n + k < n := by omega
    simp [this]
  rw [h1, h2, List.append_nil]
/-- One place out of a sorted list: as a sum with signs by place. -/
theorem E_places {α : Type} (g : α → List α → Rat) : ∀ (C : List α), E g C = sm C.length (fun k => (if k % 2 = 0 then 1 else -1) * (match C[k]? with | some c => g c (C.eraseIdx k) | none => 0)) := by
  intro C
  induction C generalizing g with
  | nil => rfl
  | cons c C ih =>
    rw [E, ih, List.length_cons, sm_first]
    have e0 : ((if 0 % 2 = 0 then (1 : Rat) else -1) * (match (c :: C)[0]? with | some x => g x ((c :: C).eraseIdx 0) | none => 0)) = g c C := by simp
    rw [e0]
    have e1 : sm C.length (fun i => (if (i + 1) % 2 = 0 then (1 : Rat) else -1) * (match (c :: C)[i + 1]? with | some x => g x ((c :: C).eraseIdx (i + 1)) | none => 0)) = sm C.length (fun k => (-1) * ((if k % 2 = 0 then 1 else -1) * (match C[k]? with | some x => g x (c :: C.eraseIdx k) | none => 0))) := by
      refine sm_congr fun k _ => ?_
      have h1 : (c :: C)[k + 1]? = C[k]? := by simp
      have h2 : (c :: C).eraseIdx (k + 1) = c :: C.eraseIdx k := by simp
      rw [h1, h2]
      by_cases hk : k % 2 = 0
      · rw [if_pos hk, if_neg (by omega)]
        cases C[k]? <;> grind
      · rw [if_neg hk, if_pos (by omega)]
        cases C[k]? <;> grind
    rw [e1, sm_mul]
    grind
/-- The sign of a place. -/
def sgn (k : Nat) : Rat := if k % 2 = 0 then 1 else -1
theorem sgn_add (k l : Nat) : sgn (k + l) = sgn k * sgn l := by
  unfold sgn
  by_cases hk : k % 2 = 0 <;> by_cases hl : l % 2 = 0
  · rw [if_pos hk, if_pos hl, if_pos (by omega)]; grind
  · rw [if_pos hk, if_neg hl, if_neg (by omega)]; grind
  · rw [if_neg hk, if_pos hl, if_neg (by omega)]; grind
  · rw [if_neg hk, if_neg hl, if_pos (by omega)]; grind
/-- The cofactor of two places. -/
def cofL (A : Nat → Nat → Rat) (R C : List Nat) (k l : Nat) : Rat := sgn (k + l) * mn A (R.eraseIdx k) (C.eraseIdx l)
theorem E_sgn (C : List Nat) (g : Nat → List Nat → Rat) : E g C = sm C.length (fun k => sgn k * g (C.getD k 0) (C.eraseIdx k)) := by
  rw [E_places]
  refine sm_congr fun k hk => ?_
  rw [List.getElem?_eq_getElem hk, List.getD_eq_getElem?_getD, List.getElem?_eq_getElem hk]
  rfl
theorem mn_cofL (A : Nat → Nat → Rat) (r : Nat) (R C : List Nat) : mn A (r :: R) C = sm C.length (fun l => A r (C.getD l 0) * cofL A (r :: R) C 0 l) := by
  rw [mn_cons, E_sgn]
  refine sm_congr fun l _ => ?_
  unfold cofL
  rw [Nat.zero_add]
  simp only [List.eraseIdx_cons_zero]
  grind
theorem tot_cofL (A : Nat → Nat → Rat) (R C : List Nat) : tot A R C = sm R.length (fun k => sm C.length (fun l => cofL A R C k l)) := by
  unfold tot
  rw [E_sgn]
  refine sm_congr fun k _ => ?_
  rw [E_sgn, ← sm_mul]
  refine sm_congr fun l _ => ?_
  unfold cofL
  rw [sgn_add]; grind
theorem rw_cofL (A : Nat → Nat → Rat) (R C : List Nat) (hR : R.Nodup) (k : Nat) (hk : k < R.length) : rw_ A R C (R.getD k 0) = sm C.length (fun l => cofL A R C k l) := by
  unfold rw_ co
  rw [E_sgn]
  have e : sm R.length (fun k' => sgn k' * ((if R.getD k' 0 = R.getD k 0 then 1 else 0) * E (fun _ D => mn A (R.eraseIdx k') D) C)) = sm R.length (fun k' => if k' = k then sgn k * E (fun _ D => mn A (R.eraseIdx k) D) C else 0) := by
    refine sm_congr fun k' hk' => ?_
    by_cases h : k' = k
    · subst h; rw [if_pos rfl, if_pos rfl]; grind
    · have hne : R.getD k' 0 ≠ R.getD k 0 := by
        rw [List.getD_eq_getElem?_getD, List.getD_eq_getElem?_getD, List.getElem?_eq_getElem hk', List.getElem?_eq_getElem hk]
        intro e
        exact h ((List.getElem_inj hR).1 e)
      rw [if_neg h, if_neg hne]; grind
  rw [e, sm_one _ k _ hk, E_sgn, ← sm_mul]
  refine sm_congr fun l _ => ?_
  unfold cofL
  rw [sgn_add]; grind
theorem rwT_cofL (A : Nat → Nat → Rat) (R C : List Nat) (hC : C.Nodup) (l : Nat) (hl : l < C.length) : rw_ (fun c r => A r c) C R (C.getD l 0) = sm R.length (fun k => cofL A R C k l) := by
  rw [rw_cofL (fun c r => A r c) C R hC l hl]
  refine sm_congr fun k _ => ?_
  unfold cofL
  rw [mn_tr A, Nat.add_comm]
end Go.Proofs.YthplbfjpmnpjmaaDoor.Lp

namespace Go.Proofs.YthplbfjpmnpjmaaDoor.Lp
/-- What level and turned make of a part: holds says yes of it. -/
structure LvH (m n : Nat) (A : Nat → Nat → Rat) (R C : List Nat) (s : Rat) : Prop where
  sign : (s = 1 ∧ 0 < tot A R C) ∨ (s = -1 ∧ tot A R C < 0)
  rows : ∀ i ∈ R, 0 ≤ s * rw_ A R C i
  cols : ∀ j ∈ C, 0 ≤ s * rw_ (fun c r => A r c) C R j
  loss : ∀ i, i < m → ls C (fun j => A i j * (s * rw_ (fun c r => A r c) C R j)) ≤ s * mn A R C
  gain : ∀ j, j < n → s * mn A R C ≤ ls R (fun i => A i j * (s * rw_ A R C i))
theorem fits (m n : Nat) (hm : 1 ≤ m) (hm6 : m ≤ 6) (hn : 1 ≤ n) (hn6 : n ≤ 6) (A : Nat → Nat → Rat) : ∃ r c s, 1 ≤ r ∧ r < 2 ^ m ∧ 1 ≤ c ∧ c < 2 ^ n ∧ (mem r).length = (mem c).length ∧ LvH m n A (mem r) (mem c) s := by
  obtain ⟨p, q, R, C, x, y, v, hR, hC, hlen, hCne, htot, hx, hy, hmn, hloss, hgain⟩ := kernel m n hm hn A
  have hRne : R ≠ [] := by
    intro e
    rw [e] at hlen
    exact hCne (List.length_eq_zero_iff.1 hlen.symm)
  have pos : ∀ (p : Nat → Bool) (k : Nat), (List.range k).filter p ≠ [] → k ≤ 6 → 1 ≤ bitsOf p k := by
    intro p k hne hk
    by_cases h : bitsOf p k = 0
    · have := mem_bits p k hk
      rw [h] at this
      exact absurd (this.symm.trans (by rfl)) hne
    · omega
  obtain ⟨s, hs⟩ : ∃ s : Rat, (s = 1 ∧ 0 < tot A R C) ∨ (s = -1 ∧ tot A R C < 0) := by
    by_cases h : 0 < tot A R C
    · exact ⟨1, .inl ⟨rfl, h⟩⟩
    · exact ⟨-1, .inr ⟨rfl, by grind⟩⟩
  have hsT : 0 ≤ s * tot A R C := by
    clear hx hy hmn hloss hgain pos hR hC
    generalize tot A R C = T at hs
    rcases hs with ⟨rfl, h⟩ | ⟨rfl, h⟩
    · grind
    · grind
  refine ⟨bitsOf p m, bitsOf q n, s, pos p m (by rw [← hR]; exact hRne) hm6, bitsOf_lt p m, pos q n (by rw [← hC]; exact hCne) hn6, bitsOf_lt q n, ?_, ?_⟩
  · rw [mem_bits p m hm6, mem_bits q n hn6, ← hR, ← hC]; exact hlen
  · rw [mem_bits p m hm6, mem_bits q n hn6, ← hR, ← hC]
    refine ⟨hs, fun i hi => ?_, fun j hj => ?_, fun i hi => ?_, fun j hj => ?_⟩
    · rw [(hx i hi).1, ← Rat.mul_assoc]; exact Rat.mul_nonneg hsT (hx i hi).2
    · rw [(hy j hj).1, ← Rat.mul_assoc]; exact Rat.mul_nonneg hsT (hy j hj).2
    · have e : ls C (fun j => A i j * (s * rw_ (fun c r => A r c) C R j)) = (s * tot A R C) * ls C (fun j => A i j * y j) := by
        rw [← ls_mul]; exact ls_congr fun j hj => by rw [(hy j hj).1]; grind
      rw [e, hmn]
      have := Rat.mul_le_mul_of_nonneg_left (hloss i hi) hsT
      grind
    · have e : ls R (fun i => A i j * (s * rw_ A R C i)) = (s * tot A R C) * ls R (fun i => A i j * x i) := by
        rw [← ls_mul]; exact ls_congr fun i hi => by rw [(hx i hi).1]; grind
      rw [e, hmn]
      have := Rat.mul_le_mul_of_nonneg_left (hgain j hj) hsT
      grind
/-- Determinants of whole numbers are whole, and small. -/
theorem sm_int {n : Nat} {f : Nat → Rat} (h : ∀ i, i < n → ∃ z : Int, f i = (z : Rat)) : ∃ z : Int, sm n f = (z : Rat) := by
  induction n with
  | zero => exact ⟨0, rfl⟩
  | succ n ih =>
    obtain ⟨a, ha⟩ := ih fun i hi => h i (by omega)
    obtain ⟨b, hb⟩ := h n (by omega)
    exact ⟨a + b, by simp only [sm]; rw [ha, hb, Rat.intCast_add]⟩
theorem sgn_int (k : Nat) : ∃ z : Int, sgn k = (z : Rat) ∧ (z = 1 ∨ z = -1) := by
  unfold sgn
  split
  · exact ⟨1, rfl, .inl rfl⟩
  · exact ⟨-1, rfl, .inr rfl⟩
theorem mn_int (A : Nat → Nat → Int) : ∀ (R C : List Nat), ∃ z : Int, mn (fun i j => (A i j : Rat)) R C = (z : Rat) := by
  intro R
  induction R with
  | nil =>
    intro C
    cases C with
    | nil => exact ⟨1, rfl⟩
    | cons c C => exact ⟨0, rfl⟩
  | cons r R ih =>
    intro C
    rw [mn_cons, E_sgn]
    refine sm_int fun k _ => ?_
    obtain ⟨a, ha, _⟩ := sgn_int k
    obtain ⟨b, hb⟩ := ih (C.eraseIdx k)
    exact ⟨a * (A r (C.getD k 0) * b), by rw [ha, hb, Rat.intCast_mul, Rat.intCast_mul]⟩
/-- The determinant as a whole number. -/
def mnI (A : Nat → Nat → Int) (R C : List Nat) : Int := (mn (fun i j => (A i j : Rat)) R C).num
theorem mnI_cast (A : Nat → Nat → Int) (R C : List Nat) : ((mnI A R C : Int) : Rat) = mn (fun i j => (A i j : Rat)) R C := by
  obtain ⟨z, hz⟩ := mn_int A R C
  unfold mnI
  rw [hz, Rat.num_intCast]
theorem sm_abs {n : Nat} {f : Nat → Rat} {B : Rat} (h : ∀ i, i < n → -B ≤ f i ∧ f i ≤ B) : -((n : Rat) * B) ≤ sm n f ∧ sm n f ≤ (n : Rat) * B := by
  induction n with
  | zero => simp only [sm]; constructor <;> grind
  | succ n ih =>
    obtain ⟨a, b⟩ := ih fun i hi => h i (by omega)
    obtain ⟨c, d⟩ := h n (by omega)
    have e : ((n + 1 : Nat) : Rat) = (n : Rat) + 1 := by rw [Rat.natCast_add]; rfl
    rw [e]
    simp only [sm]
    constructor <;> grind
end Go.Proofs.YthplbfjpmnpjmaaDoor.Lp
