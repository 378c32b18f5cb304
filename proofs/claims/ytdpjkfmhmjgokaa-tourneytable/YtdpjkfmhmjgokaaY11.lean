/-
  Floats by their rungs: to round keeps bounds (plain mathematics).
-/
import Derived.Test.YtdpjkfmhmjgokaaY10
namespace Go.Proofs.Ytdpjkfmhmjgokaa
open Ieee

theorem nearest_le (neg : Bool) (mag : Nat) (place : Int) {R : Nat} (b : Int) (hb1 : b ≤ place) (hb2 : b ≤ -1074) (h : mag * 2 ^ (place - b).toNat ≤ un R * 2 ^ (-1074 - b).toNat) :
    ∃ r, r ≤ R ∧ double.nearest neg mag place = double.word neg r := by
  unfold Format.nearest
  by_cases h0 : mag = 0
  · rw [if_pos h0]; exact ⟨0, Nat.zero_le _, rfl⟩
  rw [if_neg h0]
  have hB : double.binade = 2 ^ 52 := rfl
  have hF : (double.fractionBits : Int) = 52 := rfl
  have hl : double.leastPlace = -1074 := by decide
  simp only [hB, hF, hl]
  obtain ⟨L, hL⟩ : ∃ L, L = mag.log2 := ⟨_, rfl⟩
  have g1 : 2 ^ L ≤ mag := by rw [hL]; exact Nat.log2_self_le h0
  have g2 : mag < 2 ^ (L + 1) := by rw [hL]; exact Nat.lt_log2_self
  rw [← hL]
  obtain ⟨last, hlast⟩ : ∃ l : Int, l = max (place + (L : Int) - 52) (-1074) := ⟨_, rfl⟩
  rw [← hlast]
  obtain ⟨E, hE⟩ : ∃ E : Nat, E = (last - -1074).toNat := ⟨_, rfl⟩
  obtain ⟨P, hP⟩ : ∃ P : Nat, P = (place - b).toNat := ⟨_, rfl⟩
  obtain ⟨Q, hQ⟩ : ∃ Q : Nat, Q = (-1074 - b).toNat := ⟨_, rfl⟩
  have e1 : (place - last).toNat = P - (Q + E) := by omega
  have e2 : (last - place).toNat = Q + E - P := by omega
  have e3 : L + 1 + P ≤ Q + E + 53 := by omega
  rw [← hP, ← hQ] at h
  rw [e1, e2, ← hE, Nat.shiftLeft_eq]
  have hS : ∀ S, mag * 2 ^ P ≤ S * 2 ^ (Q + E) → Toward.even.cut neg (mag * 2 ^ (P - (Q + E))) (Q + E - P) ≤ S := fun S hs => by
    refine cut_le _ _ _ _ ?_
    rcases Nat.le_total P (Q + E) with hc | hc
    · rw [Nat.sub_eq_zero_of_le hc, Nat.pow_zero, Nat.mul_one]
      have e4 : Q + E = (Q + E - P) + P := by omega
      rw [e4, Nat.pow_add, ← Nat.mul_assoc] at hs
      exact Nat.le_of_mul_le_mul_right hs (two_pos _)
    · rw [Nat.sub_eq_zero_of_le hc, Nat.pow_zero, Nat.mul_one]
      have e4 : P = (P - (Q + E)) + (Q + E) := by omega
      rw [e4, Nat.pow_add, ← Nat.mul_assoc] at hs
      exact Nat.le_of_mul_le_mul_right hs (two_pos _)
  have hun : un R * 2 ^ Q = sg R * 2 ^ (Q + ex R) := by unfold un; rw [Nat.mul_assoc, ← Nat.pow_add, Nat.add_comm]
  rw [hun] at h
  have hr := rung_eq R
  have key : E * 2 ^ 52 + Toward.even.cut neg (mag * 2 ^ (P - (Q + E))) (Q + E - P) ≤ R := by
    rcases Nat.lt_trichotomy E (ex R) with hc | hc | hc
    · have hk := hS (2 ^ 53) (by
        have h1 : mag * 2 ^ P ≤ 2 ^ (L + 1) * 2 ^ P := Nat.mul_le_mul_right _ (Nat.le_of_lt g2)
        rw [← Nat.pow_add] at h1 ⊢
        exact Nat.le_trans h1 (Nat.pow_le_pow_right (by omega) (by omega)))
      have hg := sg_ge (r := R) (by omega)
      have h2 : (E + 1) * 2 ^ 52 ≤ ex R * 2 ^ 52 := Nat.mul_le_mul_right _ hc
      omega
    · have hk := hS (sg R) (by rw [hc]; exact h)
      rw [← hc] at hr
      omega
    · exfalso
      have hlt : place + (L : Int) - 52 > -1074 := by omega
      have e5 : L + P = Q + E + 52 := by omega
      have h1 : 2 ^ (Q + E + 52) ≤ mag * 2 ^ P := by rw [← e5, Nat.pow_add]; exact Nat.mul_le_mul_right _ g1
      have h2 : sg R * 2 ^ (Q + ex R) < 2 ^ 53 * 2 ^ (Q + ex R) := Nat.mul_lt_mul_of_pos_right (sg_lt R) (two_pos _)
      rw [← Nat.pow_add] at h2
      have h3 : 2 ^ (53 + (Q + ex R)) ≤ 2 ^ (Q + E + 52) := Nat.pow_le_pow_right (by omega) (by omega)
      omega
  exact ⟨_, Nat.le_trans (Nat.min_le_left _ _) key, rfl⟩

/-- Of a word: its size is at most n. -/
def Fl (x n : Nat) : Prop := ∃ (s : Bool) (r : Nat), x = double.word s r ∧ r < double.infRung ∧ un r ≤ n * 2 ^ 1074
/-- A word that is a number, or infinity. -/
def NN (x : Nat) : Prop := ∃ (s : Bool) (r : Nat), x = double.word s r ∧ r ≤ double.infRung
theorem Fl.nn {x n : Nat} (h : Fl x n) : NN x := by obtain ⟨s, r, e, h1, -⟩ := h; exact ⟨s, r, e, Nat.le_of_lt h1⟩
theorem Fl.mono {x n m : Nat} (h : Fl x n) (hm : n ≤ m) : Fl x m := by obtain ⟨s, r, e, h1, h2⟩ := h; exact ⟨s, r, e, h1, Nat.le_trans h2 (Nat.mul_le_mul_right _ hm)⟩
theorem word_opp (s : Bool) {r : Nat} (h : r < double.infRung) : (double.read (double.word s r)).opposite = double.read (double.word (!s) r) := by rw [read_word s h, read_word (!s) h]; rfl
theorem write_bound (s : Bool) (mag : Nat) (place : Int) (n : Nat) (hn0 : 0 < n) (hn : n < 2 ^ 53) (b : Int) (hb1 : b ≤ place) (hb2 : b ≤ -1074) (h : mag * 2 ^ (place - b).toNat ≤ n * 2 ^ 1074 * 2 ^ (-1074 - b).toNat) : Fl (double.write (.number s mag place)) n := by
  obtain ⟨R, hR, hu⟩ := rung_nat hn0 hn
  rw [← hu] at h
  obtain ⟨r, hr, e⟩ := nearest_le s mag place b hb1 hb2 h
  refine ⟨s, r, e, by omega, ?_⟩
  rw [← hu]
  exact un_le_iff.2 hr
theorem write_nn (s : Bool) (mag : Nat) (place : Int) : NN (double.write (.number s mag place)) := by
  show NN (double.nearest s mag place)
  unfold Format.nearest
  split
  · exact ⟨s, 0, rfl, by decide⟩
  · exact ⟨s, _, rfl, Nat.min_le_right _ _⟩
/-- The sum of two words, exactly, then rounded. -/
theorem sum_words (s t : Bool) {r r' : Nat} (h : r < double.infRung) (h' : r' < double.infRung) : ∃ (u : Bool) (mag k : Nat), (double.read (double.word s r)).sum (double.read (double.word t r')) = some (.number u mag (-1074 + (k : Int))) ∧ mag * 2 ^ k = (si s (un r) + si t (un r')).natAbs := by
  rw [read_word s h, read_word t h']
  simp only [Datum.sum, base_eq]
  refine ⟨_, _, min (ex r) (ex r'), rfl, ?_⟩
  have e1 := scale s r (ex r')
  have e2 := scale t r' (ex r)
  rw [Nat.min_comm] at e2
  rw [← e1, ← e2, ← Int.add_mul, Int.natAbs_mul, Int.natAbs_natCast]
theorem Fl.sum {x y : Nat} {s t : Bool} {r r' : Nat} (hx : x = double.word s r) (hr : r < double.infRung) (hy : y = double.word t r') (hr' : r' < double.infRung) (n : Nat) (hn0 : 0 < n) (hn : n < 2 ^ 53) (hb : (si s (un r) + si t (un r')).natAbs ≤ n * 2 ^ 1074) : ∃ z, double.add x y = some z ∧ Fl z n := by
  obtain ⟨u, mag, k, e, hm⟩ := sum_words s t hr hr'
  refine ⟨_, by unfold Format.add; rw [hx, hy, e]; rfl, write_bound u mag _ n hn0 hn (-1074) (by omega) (by omega) ?_⟩
  rw [show (-1074 + (k : Int) - -1074).toNat = k by omega, show ((-1074 : Int) - -1074).toNat = 0 by omega, Nat.pow_zero, Nat.mul_one, hm]
  exact hb
theorem Fl.dif {x y : Nat} {s t : Bool} {r r' : Nat} (hx : x = double.word s r) (hr : r < double.infRung) (hy : y = double.word t r') (hr' : r' < double.infRung) (n : Nat) (hn0 : 0 < n) (hn : n < 2 ^ 53) (hb : (si s (un r) + si (!t) (un r')).natAbs ≤ n * 2 ^ 1074) : ∃ z, double.sub x y = some z ∧ Fl z n := by
  obtain ⟨u, mag, k, e, hm⟩ := sum_words s (!t) hr hr'
  refine ⟨_, by unfold Format.sub; rw [hx, hy, word_opp t hr', e]; rfl, write_bound u mag _ n hn0 hn (-1074) (by omega) (by omega) ?_⟩
  rw [show (-1074 + (k : Int) - -1074).toNat = k by omega, show ((-1074 : Int) - -1074).toNat = 0 by omega, Nat.pow_zero, Nat.mul_one, hm]
  exact hb
theorem si_sum (s t : Bool) (a b : Nat) : (si s a + si t b).natAbs ≤ a + b := by have h1 := si_natAbs s a; have h2 := si_natAbs t b; omega
theorem Fl.add {x y n m : Nat} (hx : Fl x n) (hy : Fl y m) (h0 : 0 < n + m) (h : n + m < 2 ^ 53) : ∃ z, double.add x y = some z ∧ Fl z (n + m) := by
  obtain ⟨s, r, e1, r1, u1⟩ := hx
  obtain ⟨t, r', e2, r2, u2⟩ := hy
  refine Fl.sum e1 r1 e2 r2 (n + m) h0 h ?_
  have := si_sum s t (un r) (un r')
  rw [Nat.add_mul]
  omega
theorem Fl.sub {x y n m : Nat} (hx : Fl x n) (hy : Fl y m) (h0 : 0 < n + m) (h : n + m < 2 ^ 53) : ∃ z, double.sub x y = some z ∧ Fl z (n + m) := by
  obtain ⟨s, r, e1, r1, u1⟩ := hx
  obtain ⟨t, r', e2, r2, u2⟩ := hy
  refine Fl.dif e1 r1 e2 r2 (n + m) h0 h ?_
  have := si_sum s (!t) (un r) (un r')
  rw [Nat.add_mul]
  omega
theorem mul_aux {a b n T : Nat} (ha : a ≤ n * T) (hb : b ≤ 1 * T) : a * b ≤ n * T * T := Nat.mul_le_mul ha (by omega)
theorem Fl.mul {x y n : Nat} (hx : Fl x n) (hy : Fl y 1) (h0 : 0 < n) (h : n < 2 ^ 53) : ∃ z, double.mul x y = some z ∧ Fl z n := by
  obtain ⟨s, r, e1, r1, u1⟩ := hx
  obtain ⟨t, r', e2, r2, u2⟩ := hy
  have e : (double.read x).product (double.read y) = some (.number (s ^^ t) (sg r * sg r') (-1074 + (ex r : Int) + (-1074 + (ex r' : Int)))) := by rw [e1, e2, read_word s r1, read_word t r2]; rfl
  refine ⟨_, by unfold Format.mul; rw [e]; rfl, write_bound _ _ _ n h0 h (-2148) (by omega) (by omega) ?_⟩
  rw [show (-1074 + (ex r : Int) + (-1074 + (ex r' : Int)) - -2148).toNat = ex r + ex r' by omega, show ((-1074 : Int) - -2148).toNat = 1074 by omega]
  have e3 : sg r * sg r' * 2 ^ (ex r + ex r') = un r * un r' := by unfold un; rw [Nat.pow_add]; simp only [Nat.mul_assoc, Nat.mul_left_comm, Nat.mul_comm]
  rw [e3]
  exact mul_aux u1 u2
end Go.Proofs.Ytdpjkfmhmjgokaa
