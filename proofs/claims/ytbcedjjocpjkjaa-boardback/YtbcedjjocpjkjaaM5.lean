/-
  Plain mathematics of ranks, no program: how many arrangements bytes have; the number of one; the one of a number.
-/
import Derived.Test.YtbcedjjocpjkjaaW2
namespace Go.Proofs.Ytbcedjjocpjkjaa

/-- How many bytes there are. -/
def K256 : Nat := 256
def factN : Nat → Nat
  | 0 => 1
  | n + 1 => factN n * (n + 1)
def sumTo (g : Nat → Nat) : Nat → Nat
  | 0 => 0
  | n + 1 => sumTo g n + g n
def prodTo (g : Nat → Nat) : Nat → Nat
  | 0 => 1
  | n + 1 => prodTo g n * g n
/-- One fewer of d. -/
def decF (f : Nat → Nat) (d : Nat) : Nat → Nat := fun c => if c = d then f c - 1 else f c
/-- One more of d. -/
def incF (f : Nat → Nat) (d : Nat) : Nat → Nat := fun c => if c = d then f c + 1 else f c
/-- How many arrangements there are of n bytes, f c of each byte c. -/
def arrF : Nat → (Nat → Nat) → Nat
  | 0, _ => 1
  | n + 1, f => sumTo (fun d => if 0 < f d then arrF n (decF f d) else 0) K256

theorem factN_pos : ∀ n, 0 < factN n
  | 0 => by simp [factN]
  | n + 1 => Nat.mul_pos (factN_pos n) (by omega)
theorem prodTo_pos (g : Nat → Nat) (h : ∀ c, 0 < g c) : ∀ n, 0 < prodTo g n
  | 0 => by simp [prodTo]
  | n + 1 => Nat.mul_pos (prodTo_pos g h n) (h n)
theorem sumTo_congr {g h : Nat → Nat} : ∀ n, (∀ c, c < n → g c = h c) → sumTo g n = sumTo h n
  | 0, _ => rfl
  | n + 1, e => by rw [sumTo, sumTo, sumTo_congr n (fun c hc => e c (by omega)), e n (by omega)]
theorem prodTo_congr {g h : Nat → Nat} : ∀ n, (∀ c, c < n → g c = h c) → prodTo g n = prodTo h n
  | 0, _ => rfl
  | n + 1, e => by rw [prodTo, prodTo, prodTo_congr n (fun c hc => e c (by omega)), e n (by omega)]
theorem sumTo_mul (g : Nat → Nat) (k : Nat) : ∀ n, sumTo g n * k = sumTo (fun c => g c * k) n
  | 0 => by simp [sumTo]
  | n + 1 => by rw [sumTo, Nat.add_mul, sumTo_mul g k n, sumTo]
theorem mul_sumTo (g : Nat → Nat) (k : Nat) : ∀ n, k * sumTo g n = sumTo (fun c => k * g c) n
  | 0 => by simp [sumTo]
  | n + 1 => by rw [sumTo, Nat.mul_add, mul_sumTo g k n, sumTo]
theorem sumTo_zero : ∀ n, sumTo (fun _ => 0) n = 0
  | 0 => rfl
  | n + 1 => by rw [sumTo, sumTo_zero n]
theorem sumTo_le (g : Nat → Nat) : ∀ {m n : Nat}, m ≤ n → sumTo g m ≤ sumTo g n
  | m, 0, h => by have : m = 0 := by omega
                  rw [this]; exact Nat.le_refl _
  | m, n + 1, h => by
    rcases Nat.lt_or_ge m (n + 1) with h1 | h1
    · exact Nat.le_trans (sumTo_le g (show m ≤ n by omega)) (Nat.le_add_right _ _)
    · have : m = n + 1 := by omega
      rw [this]; exact Nat.le_refl _
theorem sumTo_ge (g : Nat → Nat) {c n : Nat} (h : c < n) : g c ≤ sumTo g n :=
  Nat.le_trans (Nat.le_add_left _ _) (sumTo_le g (show c + 1 ≤ n from h))

theorem sumTo_dec (f : Nat → Nat) (d : Nat) (hd : 0 < f d) : ∀ n, sumTo f n = sumTo (decF f d) n + (if d < n then 1 else 0)
  | 0 => by simp [sumTo]
  | n + 1 => by
    rw [sumTo, sumTo, sumTo_dec f d hd n]
    by_cases h1 : n = d
    · subst h1
      have : decF f n n = f n - 1 := by simp [decF]
      rw [this, if_neg (by omega), if_pos (by omega)]
      omega
    · have : decF f d n = f n := by simp [decF, h1]
      rw [this]
      by_cases h2 : d < n
      · rw [if_pos h2, if_pos (by omega)]; omega
      · rw [if_neg h2, if_neg (by omega)]; omega
def pfact (f : Nat → Nat) (n : Nat) : Nat := prodTo (fun c => factN (f c)) n
theorem pfact_dec (f : Nat → Nat) (d : Nat) (hd : 0 < f d) : ∀ n, pfact f n = pfact (decF f d) n * (if d < n then f d else 1)
  | 0 => by simp [pfact, prodTo]
  | n + 1 => by
    have ih := pfact_dec f d hd n
    unfold pfact at ih ⊢
    rw [prodTo, prodTo, ih]
    by_cases h1 : n = d
    · subst h1
      have e1 : decF f n n = f n - 1 := by simp [decF]
      obtain ⟨k, hk⟩ : ∃ k, f n = k + 1 := ⟨f n - 1, by omega⟩
      rw [e1, if_neg (by omega), if_pos (by omega), hk, Nat.add_sub_cancel, factN]
      simp [Nat.mul_assoc]
    · have e1 : decF f d n = f n := by simp [decF, h1]
      rw [e1]
      by_cases h2 : d < n
      · rw [if_pos h2, if_pos (by omega)]
        rw [Nat.mul_assoc, Nat.mul_comm (f d), ← Nat.mul_assoc]
      · rw [if_neg h2, if_neg (by omega)]
        simp

/-- The arrangements, by factorials. -/
theorem prodTo_one : ∀ n, prodTo (fun _ => 1) n = 1
  | 0 => rfl
  | n + 1 => by rw [prodTo, prodTo_one n]
theorem arrF_fact (n : Nat) : ∀ (f : Nat → Nat), sumTo f K256 = n → arrF n f * pfact f K256 = factN n := by
  induction n with
  | zero =>
    intro f h
    have hz : ∀ c, c < K256 → f c = 0 := fun c hc => by have := sumTo_ge f hc; omega
    have e : pfact f K256 = prodTo (fun _ => 1) K256 := prodTo_congr K256 (fun c hc => by rw [hz c hc]; rfl)
    rw [arrF, e, factN, prodTo_one]
  | succ n ih =>
    intro f h
    rw [arrF, sumTo_mul, factN, ← h, mul_sumTo]
    apply sumTo_congr
    intro d hd
    by_cases h0 : 0 < f d
    · rw [if_pos h0, pfact_dec f d h0 K256, if_pos hd, ← Nat.mul_assoc]
      have hs := sumTo_dec f d h0 K256
      rw [if_pos hd] at hs
      rw [ih (decF f d) (by omega)]
    · have : f d = 0 := by omega
      simp [this]
theorem pfact_pos (f : Nat → Nat) (n : Nat) : 0 < pfact f n := prodTo_pos _ (fun _ => factN_pos _) n
/-- One byte taken away: the arrangements times how many there are of it are the length times what is left. -/
theorem arrF_dec (n : Nat) (f : Nat → Nat) (d : Nat) (hd : d < K256) (h : sumTo f K256 = n + 1) (h0 : 0 < f d) : arrF (n + 1) f * f d = (n + 1) * arrF n (decF f d) := by
  have hs := sumTo_dec f d h0 K256
  rw [if_pos hd] at hs
  have h1 := arrF_fact (n + 1) f h
  have h2 := arrF_fact n (decF f d) (by omega)
  have hp := pfact_dec f d h0 K256
  rw [if_pos hd] at hp
  have hpos := pfact_pos (decF f d) K256
  apply Nat.eq_of_mul_eq_mul_right hpos
  rw [Nat.mul_assoc, Nat.mul_comm (f d), ← hp, h1, Nat.mul_assoc, h2, factN, Nat.mul_comm]

/-- What is left when d is taken away; nothing, if there is none. -/
def subF (n : Nat) (f : Nat → Nat) (d : Nat) : Nat := if 0 < f d then arrF n (decF f d) else 0
theorem arrF_sub (n : Nat) (f : Nat → Nat) (d : Nat) (hd : d < K256) (h : sumTo f K256 = n + 1) : arrF (n + 1) f * f d = (n + 1) * subF n f d := by
  unfold subF
  by_cases h0 : 0 < f d
  · rw [if_pos h0]; exact arrF_dec n f d hd h h0
  · rw [if_neg h0]; have : f d = 0 := by omega
    rw [this]; simp
/-- What stands ahead of c: by one division. -/
theorem arrF_below (n : Nat) (f : Nat → Nat) (c : Nat) (hc : c ≤ K256) (h : sumTo f K256 = n + 1) : arrF (n + 1) f * sumTo f c / (n + 1) = sumTo (subF n f) c := by
  have : arrF (n + 1) f * sumTo f c = (n + 1) * sumTo (subF n f) c := by
    rw [mul_sumTo, mul_sumTo]
    exact sumTo_congr c (fun d hd => arrF_sub n f d (by omega) h)
  rw [this, Nat.mul_div_cancel_left _ (by omega)]
theorem arrF_one (n : Nat) (f : Nat → Nat) (d : Nat) (hd : d < K256) (h : sumTo f K256 = n + 1) : arrF (n + 1) f * f d / (n + 1) = subF n f d := by
  rw [arrF_sub n f d hd h, Nat.mul_div_cancel_left _ (by omega)]
theorem arrF_sum (n : Nat) (f : Nat → Nat) : arrF (n + 1) f = sumTo (subF n f) K256 := rfl
theorem decF_incF (f : Nat → Nat) (d : Nat) : decF (incF f d) d = f := by
  funext c
  by_cases h : c = d <;> simp [decF, incF, h]
theorem sumTo_inc (f : Nat → Nat) (d : Nat) (hd : d < K256) : sumTo (incF f d) K256 = sumTo f K256 + 1 := by
  have h0 : 0 < incF f d d := by simp [incF]
  have := sumTo_dec (incF f d) d h0 K256
  rw [if_pos hd, decF_incF] at this
  exact this
/-- One byte more. -/
theorem arrF_inc (n : Nat) (f : Nat → Nat) (d : Nat) (hd : d < K256) (h : sumTo f K256 = n) : arrF n f * (n + 1) / incF f d d = arrF (n + 1) (incF f d) := by
  have h0 : 0 < incF f d d := by simp [incF]
  have := arrF_dec n (incF f d) d hd (by rw [sumTo_inc f d hd, h]) h0
  rw [decF_incF] at this
  rw [Nat.mul_comm (arrF n f), ← this, Nat.mul_div_cancel _ h0]

/-- share, in numbers. -/
theorem share_eq (n a b : Nat) (hb : 0 < b) : n / b * a + n % b * a / b = n * a / b := by
  have e : n * a = b * (n / b * a) + n % b * a := by
    conv => lhs; rw [← Nat.div_add_mod n b]
    rw [Nat.add_mul, Nat.mul_assoc]
  rw [e, Nat.mul_add_div hb]
end Go.Proofs.Ytbcedjjocpjkjaa
