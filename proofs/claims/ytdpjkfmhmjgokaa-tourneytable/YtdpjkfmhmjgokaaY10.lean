/-
  Floats by their rungs: order, sums and products with bounds (plain mathematics).
-/
import Derived.Laws.FloatArith
namespace Go.Proofs.Ytdpjkfmhmjgokaa
open Ieee

/-- The significand of a rung, and its place above the least. -/
def sg (r : Nat) : Nat := if r < 2 ^ 52 then r else 2 ^ 52 + r % 2 ^ 52
def ex (r : Nat) : Nat := if r < 2 ^ 52 then 0 else r / 2 ^ 52 - 1
/-- What a rung is worth, in units of the least number. -/
def un (r : Nat) : Nat := sg r * 2 ^ ex r
theorem rung_eq (r : Nat) : r = ex r * 2 ^ 52 + sg r := by
  unfold ex sg
  split
  · omega
  · rename_i h
    have h1 : 1 ≤ r / 2 ^ 52 := by omega
    have h2 := Nat.div_add_mod r (2 ^ 52)
    have h3 : (r / 2 ^ 52 - 1) * 2 ^ 52 + 2 ^ 52 = r / 2 ^ 52 * 2 ^ 52 := by
      rw [Nat.sub_mul]; omega
    omega
theorem sg_lt (r : Nat) : sg r < 2 ^ 53 := by unfold sg; split <;> omega
theorem sg_ge {r : Nat} (h : 0 < ex r) : 2 ^ 52 ≤ sg r := by unfold ex at h; unfold sg; split at h <;> split <;> omega
theorem rung_of {E S : Nat} (hS : S < 2 ^ 53) (hE : 0 < E → 2 ^ 52 ≤ S) : ex (E * 2 ^ 52 + S) = E ∧ sg (E * 2 ^ 52 + S) = S := by
  unfold ex sg
  by_cases h : E * 2 ^ 52 + S < 2 ^ 52
  · rw [if_pos h, if_pos h]
    have : E = 0 := by
      rcases Nat.eq_zero_or_pos E with h0 | h0
      · exact h0
      · omega
    subst this
    exact ⟨rfl, by omega⟩
  · rw [if_neg h, if_neg h]
    omega
theorem two_pos (n : Nat) : 0 < 2 ^ n := Nat.pow_pos (by omega)
theorem un_lt {r r' : Nat} (h : r < r') : un r < un r' := by
  have e1 := rung_eq r
  have e2 := rung_eq r'
  have l1 := sg_lt r
  have l2 := sg_lt r'
  have hle : ex r ≤ ex r' := by
    rcases Nat.lt_or_ge (ex r') (ex r) with h1 | h1
    · have := sg_ge (r := r) (by omega)
      have h3 : (ex r' + 1) * 2 ^ 52 ≤ ex r * 2 ^ 52 := Nat.mul_le_mul_right _ h1
      omega
    · exact h1
  unfold un
  rcases Nat.lt_or_eq_of_le hle with h1 | h1
  · have g2 := sg_ge (r := r') (by omega)
    have hp : 2 ^ ex r' = 2 ^ (ex r' - ex r - 1) * (2 * 2 ^ ex r) := by rw [show 2 * 2 ^ ex r = 2 ^ (ex r + 1) by rw [Nat.pow_succ]; omega, ← Nat.pow_add]; congr 1; omega
    have h3 := two_pos (ex r' - ex r - 1)
    have h4 := two_pos (ex r)
    calc sg r * 2 ^ ex r < 2 ^ 53 * 2 ^ ex r := Nat.mul_lt_mul_of_pos_right l1 h4
      _ = 2 ^ 52 * (1 * (2 * 2 ^ ex r)) := by rw [show (2 : Nat) ^ 53 = 2 ^ 52 * 2 from rfl, Nat.mul_assoc, Nat.one_mul]
      _ ≤ sg r' * 2 ^ ex r' := by rw [hp]; exact Nat.mul_le_mul g2 (Nat.mul_le_mul_right _ h3)
  · rw [h1]
    exact Nat.mul_lt_mul_of_pos_right (by rw [h1] at e1; omega) (two_pos _)
theorem un_le_iff {r r' : Nat} : un r ≤ un r' ↔ r ≤ r' := by
  constructor
  · intro h
    rcases Nat.lt_or_ge r' r with h1 | h1
    · have := un_lt h1; omega
    · exact h1
  · intro h
    rcases Nat.lt_or_eq_of_le h with h1 | h1
    · exact Nat.le_of_lt (un_lt h1)
    · rw [h1]; exact Nat.le_refl _
theorem un_inj {r r' : Nat} (h : un r = un r') : r = r' := Nat.le_antisymm (un_le_iff.1 (Nat.le_of_eq h)) (un_le_iff.1 (Nat.le_of_eq h.symm))
theorem un_zero : un 0 = 0 := rfl

/-- Whole numbers below 2^53 have a rung. -/
theorem rung_nat {n : Nat} (h0 : 0 < n) (h : n < 2 ^ 53) : ∃ R, R < double.infRung ∧ un R = n * 2 ^ 1074 := by
  have hl : n.log2 ≤ 52 := by have := (Nat.log2_lt (by omega)).2 h; omega
  have h1 := Nat.log2_self_le (n := n) (by omega)
  have h2 := Nat.lt_log2_self (n := n)
  have hS : n * 2 ^ (52 - n.log2) < 2 ^ 53 := by
    have : 2 ^ 53 = 2 ^ (n.log2 + 1) * 2 ^ (52 - n.log2) := by rw [← Nat.pow_add]; congr 1; omega
    rw [this]
    exact Nat.mul_lt_mul_of_pos_right h2 (two_pos _)
  have hS2 : 2 ^ 52 ≤ n * 2 ^ (52 - n.log2) := by
    have : 2 ^ 52 = 2 ^ n.log2 * 2 ^ (52 - n.log2) := by rw [← Nat.pow_add]; congr 1; omega
    rw [this]
    exact Nat.mul_le_mul_right _ h1
  obtain ⟨e1, e2⟩ := rung_of (E := 1022 + n.log2) hS (fun _ => hS2)
  refine ⟨(1022 + n.log2) * 2 ^ 52 + n * 2 ^ (52 - n.log2), ?_, ?_⟩
  · have : double.infRung = 2047 * 2 ^ 52 := rfl
    rw [this]
    omega
  · unfold un
    rw [e1, e2, Nat.mul_assoc, ← Nat.pow_add]
    congr 2
    omega

theorem read_word (s : Bool) {r : Nat} (h : r < double.infRung) : double.read (double.word s r) = .number s (sg r) (-1074 + (ex r : Int)) := by
  have hi : double.infRung = 2047 * 2 ^ 52 := rfl
  have hb : double.binade = 2 ^ 52 := rfl
  have hw : double.signWeight = 2 ^ 63 := rfl
  have hl : double.leastPlace = -1074 := by decide
  have hr : r < 2 ^ 63 := by omega
  have e1 : double.word s r % double.signWeight = r := by unfold Format.word; rw [hw]; split <;> omega
  have e2 : (double.word s r / double.signWeight % 2 == 1) = s := by
    unfold Format.word
    rw [hw]
    cases s
    · have : r / 2 ^ 63 = 0 := by omega
      simp [this]
    · have : (2 ^ 63 + r) / 2 ^ 63 = 1 := by omega
      simp only [if_true, this]; rfl
  unfold Format.read
  simp only [e1, e2, hb, hl]
  unfold sg ex
  by_cases h1 : r < 2 ^ 52
  · rw [if_pos h1, if_pos h1, if_pos h1]; rfl
  · rw [if_neg h1, if_neg h1, if_neg h1, if_pos h]
theorem read_inf (s : Bool) : double.read (double.word s double.infRung) = .infinity s := by cases s <;> decide

/-- With its sign. -/
def si (s : Bool) (n : Nat) : Int := if s then -(n : Int) else n
theorem signed_eq (s : Bool) (m k : Nat) : signed s m k = si s (m * 2 ^ k) := by unfold signed si; rw [Nat.shiftLeft_eq]
theorem si_mul (s : Bool) (m k : Nat) : si s m * (k : Int) = si s (m * k) := by unfold si; split <;> simp [Int.neg_mul]
theorem si_natAbs (s : Bool) (n : Nat) : (si s n).natAbs = n := by unfold si; split <;> omega
theorem cmp_mul {a b c : Int} (h : 0 < c) : compare (a * c) (b * c) = compare a b := by
  have lt : ∀ x y : Int, x < y → x * c < y * c := fun x y hxy => Int.mul_lt_mul_of_pos_right hxy h
  rcases Int.lt_trichotomy a b with h1 | h1 | h1
  · rw [Int.compare_eq_lt.2 h1, Int.compare_eq_lt.2 (lt _ _ h1)]
  · subst h1; simp
  · rw [Int.compare_eq_gt.2 h1, Int.compare_eq_gt.2 (lt _ _ h1)]
theorem base_eq (a b : Nat) : min (-1074 + (a : Int)) (-1074 + (b : Int)) = -1074 + ((min a b : Nat) : Int) := by omega
theorem scale (s : Bool) (r r' : Nat) : signed s (sg r) (-1074 + (ex r : Int) - (-1074 + ((min (ex r) r' : Nat) : Int))).toNat * ((2 ^ min (ex r) r' : Nat) : Int) = si s (un r) := by
  rw [signed_eq, si_mul, Nat.mul_assoc, ← Nat.pow_add]
  unfold un
  congr 3
  omega
/-- The order of two words. -/
theorem order_word (s t : Bool) {r r' : Nat} (h : r < double.infRung) (h' : r' < double.infRung) : double.order (double.word s r) (double.word t r') = some (compare (si s (un r)) (si t (un r'))) := by
  unfold Format.order
  rw [read_word s h, read_word t h']
  simp only [Datum.order, base_eq]
  rw [← cmp_mul (c := ((2 ^ min (ex r) (ex r') : Nat) : Int)) (by have := two_pos (min (ex r) (ex r')); omega), scale]
  have := scale t r' (ex r)
  rw [Nat.min_comm] at this
  rw [this]

theorem cut_le (neg : Bool) (n drop S : Nat) (h : n ≤ S * 2 ^ drop) : Toward.even.cut neg n drop ≤ S := by
  unfold Toward.cut
  simp only
  generalize hg : (1 <<< min drop (n.log2 + 2)) = gap
  have hgap : gap = 2 ^ min drop (n.log2 + 2) := by rw [← hg, Nat.shiftLeft_eq, Nat.one_mul]
  have hgp : 0 < gap := by rw [hgap]; exact two_pos _
  rcases Nat.le_total drop (n.log2 + 2) with h1 | h1
  · have e : gap = 2 ^ drop := by rw [hgap, Nat.min_eq_left h1]
    rw [← e] at h
    have hdm := Nat.div_add_mod n gap
    have hm := Nat.mod_lt n hgp
    rcases Nat.lt_or_ge (n / gap) S with h2 | h2
    · have : ∀ b : Bool, b.toNat ≤ 1 := fun b => by cases b <;> simp
      have := this (decide (gap < 2 * (n % gap)) || (gap == 2 * (n % gap) && n / gap % 2 == 1))
      omega
    · have h3 : S * gap ≤ n / gap * gap := Nat.mul_le_mul_right _ h2
      have h4 : gap * (n / gap) = n / gap * gap := Nat.mul_comm _ _
      have h5 : n % gap = 0 := by omega
      have h6 : n / gap = S := by
        refine Nat.le_antisymm ?_ h2
        exact Nat.div_le_of_le_mul (by rw [Nat.mul_comm]; exact h)
      rw [h5, h6]
      have h7 : ¬ gap < 2 * 0 := by omega
      have h8 : (gap == 2 * 0) = false := by rw [beq_eq_false_iff_ne]; omega
      simp [h7, h8]
  · have e : gap = 2 ^ (n.log2 + 2) := by rw [hgap, Nat.min_eq_right h1]
    have h2 : 2 * n < gap := by
      have := Nat.lt_log2_self (n := n)
      have : 2 ^ (n.log2 + 2) = 2 * 2 ^ (n.log2 + 1) := by rw [Nat.pow_succ 2 (n.log2 + 1)]; omega
      omega
    have h3 : n / gap = 0 := Nat.div_eq_of_lt (by omega)
    have h4 : n % gap = n := Nat.mod_eq_of_lt (by omega)
    rw [h3, h4]
    have h7 : ¬ gap < 2 * n := by omega
    have h8 : (gap == 2 * n) = false := by rw [beq_eq_false_iff_ne]; omega
    simp [h7, h8]
end Go.Proofs.Ytdpjkfmhmjgokaa
