/-
  Plain mathematics of ranks, more: there and back, in order.
-/
import Derived.Test.YtbcedjjocpjkjaaM5
import Derived.WalkKit
namespace Go.Proofs.Ytbcedjjocpjkjaa

/-- How many of each byte there are. -/
def cntF : List UInt8 → Nat → Nat
  | [] => fun _ => 0
  | x :: l => incF (cntF l) x.toNat
theorem byte_lt (x : UInt8) : x.toNat < K256 := x.toNat_lt
theorem cntF_sum : ∀ l : List UInt8, sumTo (cntF l) K256 = l.length
  | [] => sumTo_zero K256
  | x :: l => by rw [cntF, sumTo_inc _ _ (byte_lt x), cntF_sum l, List.length_cons]
theorem cntF_dec (x : UInt8) (l : List UInt8) : decF (cntF (x :: l)) x.toNat = cntF l := decF_incF _ _
theorem cntF_pos (x : UInt8) (l : List UInt8) : 0 < cntF (x :: l) x.toNat := by simp [cntF, incF]
theorem cntF_high : ∀ (l : List UInt8) (c : Nat), K256 ≤ c → cntF l c = 0
  | [], _, _ => rfl
  | x :: l, c, h => by
    have hx := byte_lt x
    rw [cntF, incF, if_neg (by omega), cntF_high l c h]
theorem cntF_mem {x : UInt8} : ∀ {l : List UInt8}, x ∈ l → 0 < cntF l x.toNat
  | y :: l, h => by
    rw [cntF, incF]
    by_cases e : x.toNat = y.toNat
    · rw [if_pos e]; omega
    · rw [if_neg e]
      rcases List.mem_cons.1 h with rfl | h'
      · exact absurd rfl e
      · exact cntF_mem h'
theorem mem_of_cntF : ∀ {l : List UInt8} {c : Nat}, 0 < cntF l c → ∃ x ∈ l, x.toNat = c
  | [], c, h => by simp [cntF] at h
  | y :: l, c, h => by
    rw [cntF, incF] at h
    by_cases e : c = y.toNat
    · exact ⟨y, List.mem_cons_self, e.symm⟩
    · rw [if_neg e] at h
      obtain ⟨x, hx, hc⟩ := mem_of_cntF h
      exact ⟨x, List.mem_cons_of_mem _ hx, hc⟩

def arrL (l : List UInt8) : Nat := arrF l.length (cntF l)
/-- How many arrangements are less. -/
def rkL : List UInt8 → Nat
  | [] => 0
  | c :: t => sumTo (subF t.length (cntF (c :: t))) c.toNat + rkL t
theorem subF_head (c : UInt8) (t : List UInt8) : subF t.length (cntF (c :: t)) c.toNat = arrL t := by
  rw [subF, if_pos (cntF_pos c t), cntF_dec]; rfl
theorem rkL_lt : ∀ l : List UInt8, rkL l < arrL l
  | [] => by simp [rkL, arrL, arrF]
  | c :: t => by
    have ih := rkL_lt t
    have h1 : sumTo (subF t.length (cntF (c :: t))) (c.toNat + 1) ≤ sumTo (subF t.length (cntF (c :: t))) K256 := sumTo_le _ (byte_lt c)
    have h2 : arrL (c :: t) = sumTo (subF t.length (cntF (c :: t))) K256 := rfl
    rw [h2]
    rw [sumTo, subF_head] at h1
    rw [rkL]
    omega

/-- The least c from which on a sum passes n. -/
def findC (g : Nat → Nat) (n : Nat) : Nat → Nat → Nat
  | 0, c => c
  | k + 1, c => if n < sumTo g (c + 1) then c else findC g n k (c + 1)
theorem findC_eq (g : Nat → Nat) (n c : Nat) (h1 : sumTo g c ≤ n) (h2 : n < sumTo g (c + 1)) : ∀ (k a : Nat), a ≤ c → c < a + k → findC g n k a = c
  | 0, a, h, h' => by omega
  | k + 1, a, h, h' => by
    rw [findC]
    by_cases e : a = c
    · rw [e, if_pos h2]
    · rw [if_neg, findC_eq g n c h1 h2 k (a + 1) (by omega) (by omega)]
      have := sumTo_le g (show a + 1 ≤ c by omega)
      omega
/-- The arrangement that has n less ones. -/
def unF : Nat → (Nat → Nat) → Nat → List UInt8
  | 0, _, _ => []
  | k + 1, f, n => UInt8.ofNat (findC (subF k f) n K256 0) :: unF k (decF f (findC (subF k f) n K256 0)) (n - sumTo (subF k f) (findC (subF k f) n K256 0))
theorem unF_length : ∀ (k : Nat) (f : Nat → Nat) (n : Nat), (unF k f n).length = k
  | 0, _, _ => rfl
  | k + 1, f, n => by rw [unF, List.length_cons, unF_length]

theorem unF_rkL : ∀ l : List UInt8, unF l.length (cntF l) (rkL l) = l
  | [] => rfl
  | c :: t => by
    have hlt := rkL_lt t
    have hf : findC (subF t.length (cntF (c :: t))) (rkL (c :: t)) K256 0 = c.toNat := by
      refine findC_eq _ _ _ ?_ ?_ K256 0 (by omega) (by have := byte_lt c; omega)
      · rw [rkL]; omega
      · rw [sumTo, subF_head, rkL]; omega
    rw [List.length_cons, unF, hf, cntF_dec]
    have : rkL (c :: t) - sumTo (subF t.length (cntF (c :: t))) c.toNat = rkL t := by rw [rkL]; omega
    rw [this, unF_rkL t, UInt8.ofNat_toNat]

/-- Where the sum passes n there is one. -/
theorem find_ex (g : Nat → Nat) (n : Nat) : ∀ K, n < sumTo g K → ∃ c, c < K ∧ sumTo g c ≤ n ∧ n < sumTo g (c + 1)
  | 0, h => by simp [sumTo] at h
  | K + 1, h => by
    by_cases h1 : n < sumTo g K
    · obtain ⟨c, hc, r⟩ := find_ex g n K h1
      exact ⟨c, by omega, r⟩
    · exact ⟨K, by omega, by omega, h⟩

theorem incF_decF (f : Nat → Nat) (d : Nat) (h : 0 < f d) : incF (decF f d) d = f := by
  funext c
  by_cases e : c = d
  · subst e; simp [incF, decF]; omega
  · simp [incF, decF, e]
theorem unF_cnt : ∀ (k : Nat) (f : Nat → Nat) (n : Nat), sumTo f K256 = k → (∀ c, K256 ≤ c → f c = 0) → n < arrF k f → cntF (unF k f n) = f := by
  intro k
  induction k with
  | zero =>
    intro f n hs hh _
    funext c
    rw [unF, cntF]
    rcases Nat.lt_or_ge c K256 with h | h
    · show 0 = f c
      have := sumTo_ge f h; omega
    · show 0 = f c
      rw [hh c h]
  | succ k ih =>
    intro f n hs hh hn
    rw [arrF_sum] at hn
    obtain ⟨c, hc, h1, h2⟩ := find_ex _ n K256 hn
    have hf : findC (subF k f) n K256 0 = c := findC_eq _ _ _ h1 h2 K256 0 (by omega) (by omega)
    have hg : 0 < subF k f c := by rw [sumTo] at h2; omega
    have h0 : 0 < f c := by
      unfold subF at hg
      by_cases h0 : 0 < f c
      · exact h0
      · rw [if_neg h0] at hg; omega
    have hsub : subF k f c = arrF k (decF f c) := by rw [subF, if_pos h0]
    rw [unF, hf, cntF]
    have hcb : (UInt8.ofNat c).toNat = c := by
      rw [UInt8.toNat_ofNat']
      exact Nat.mod_eq_of_lt hc
    have hsd := sumTo_dec f c h0 K256
    rw [if_pos hc] at hsd
    rw [hcb, ih (decF f c) (n - sumTo (subF k f) c) (by omega) (fun d hd => by rw [decF, if_neg (by omega)]; exact hh d hd) (by rw [sumTo, hsub] at h2; omega)]
    exact incF_decF f c h0

theorem cntF_length {a b : List UInt8} (h : cntF a = cntF b) : a.length = b.length := by
  rw [← cntF_sum, ← cntF_sum, h]
/-- RANKS ARE IN ORDER. -/
theorem rkL_mono : ∀ a b : List UInt8, cntF a = cntF b → Op.bytesLess a b = decide (rkL a < rkL b)
  | [], [], _ => by simp [Op.bytesLess]
  | [], y :: b, h => by have := cntF_length h; simp at this
  | x :: a, [], h => by have := cntF_length h; simp at this
  | x :: a, y :: b, h => by
    have hl : a.length = b.length := by have := cntF_length h; simpa using this
    have la := rkL_lt a
    have lb := rkL_lt b
    have sa := subF_head x a
    have sb := subF_head y b
    rw [Op.bytesLess, rkL, rkL]
    rw [← h, ← hl] at sb
    rw [← h, ← hl]
    generalize subF a.length (cntF (x :: a)) = g at sa sb
    by_cases h1 : x < y
    · have hx : x.toNat + 1 ≤ y.toNat := by simp only [UInt8.lt_iff_toNat_lt] at h1; omega
      have := sumTo_le g hx
      rw [sumTo, sa] at this
      simp [h1]
      omega
    · by_cases h2 : y < x
      · have hx : y.toNat + 1 ≤ x.toNat := by simp only [UInt8.lt_iff_toNat_lt] at h2; omega
        have := sumTo_le g hx
        rw [sumTo, sb] at this
        have hne : ¬ x = y := by intro e; subst e; exact h1 h2
        have e1 : decide (x < y) = false := by simpa using h1
        have e2 : (x == y) = false := by simpa using hne
        rw [e1, e2, Bool.false_and, Bool.or_false, eq_comm, decide_eq_false_iff_not]
        omega
      · have e : x = y := UInt8.toNat_inj.1 (by simp only [UInt8.lt_iff_toNat_lt] at *; omega)
        subst e
        have hc : cntF a = cntF b := by rw [← cntF_dec x a, ← cntF_dec x b, h]
        rw [rkL_mono a b hc]
        simp [h1]
end Go.Proofs.Ytbcedjjocpjkjaa
