/-
  Plain mathematics of board.compare, no program: an order.
-/
import Derived.Test.YtbcedjjocpjkjaaW8
namespace Go.Proofs.Ytbcedjjocpjkjaa

theorem cb_range : ∀ a b : List UInt8, Lib.compareBytes a b = -1 ∨ Lib.compareBytes a b = 0 ∨ Lib.compareBytes a b = 1
  | [], [] => by simp [Lib.compareBytes]
  | [], _ :: _ => by simp [Lib.compareBytes]
  | _ :: _, [] => by simp [Lib.compareBytes]
  | a :: xs, b :: ys => by
    unfold Lib.compareBytes
    split
    · exact .inl rfl
    · split
      · exact .inr (.inr rfl)
      · exact cb_range xs ys
theorem cb_neg : ∀ a b : List UInt8, Lib.compareBytes a b = - Lib.compareBytes b a
  | [], [] => by simp [Lib.compareBytes]
  | [], _ :: _ => by simp [Lib.compareBytes]
  | _ :: _, [] => by simp [Lib.compareBytes]
  | a :: xs, b :: ys => by
    have h := cb_neg xs ys
    simp only [Lib.compareBytes]
    by_cases h1 : a < b
    · have h2 : ¬ b < a := by simp only [UInt8.lt_iff_toNat_lt] at *; omega
      simp [h1, h2]
    · by_cases h2 : b < a
      · simp [h1, h2]
      · simp [h1, h2, h]
theorem cb_zero : ∀ a b : List UInt8, Lib.compareBytes a b = 0 → a = b
  | [], [] => fun _ => rfl
  | [], _ :: _ => by simp [Lib.compareBytes]
  | _ :: _, [] => by simp [Lib.compareBytes]
  | a :: xs, b :: ys => by
    simp only [Lib.compareBytes]
    by_cases h1 : a < b
    · simp [h1]
    · by_cases h2 : b < a
      · simp [h1, h2]
      · simp only [h1, h2, if_false]
        intro h
        have e : a = b := UInt8.toNat_inj.1 (by simp only [UInt8.lt_iff_toNat_lt] at *; omega)
        rw [e, cb_zero xs ys h]
theorem cb_self : ∀ a : List UInt8, Lib.compareBytes a a = 0
  | [] => rfl
  | a :: xs => by simp [Lib.compareBytes, cb_self xs]
theorem cb_trans : ∀ a b c : List UInt8, Lib.compareBytes a b < 0 → Lib.compareBytes b c < 0 → Lib.compareBytes a c < 0
  | [], [], _ => by simp [Lib.compareBytes]
  | [], _ :: _, [] => by simp [Lib.compareBytes]
  | [], _ :: _, _ :: _ => by simp [Lib.compareBytes]
  | _ :: _, [], _ => by simp [Lib.compareBytes]
  | _ :: _, _ :: _, [] => by simp [Lib.compareBytes]
  | a :: xs, b :: ys, c :: zs => by
    have ih := cb_trans xs ys zs
    simp only [Lib.compareBytes, UInt8.lt_iff_toNat_lt]
    intro h1 h2
    split at h1 <;> split at h2
    · rw [if_pos (by omega)]; omega
    · split at h2
      · omega
      · rw [if_pos (by omega)]; omega
    · split at h1
      · omega
      · rw [if_pos (by omega)]; omega
    · split at h1
      · omega
      · split at h2
        · omega
        · rw [if_neg (by omega), if_neg (by omega)]; exact ih h1 h2

/-- By W, then H, then Cells. -/
def kcmp (W H : Int) (C : List UInt8) (W' H' : Int) (C' : List UInt8) : Int := orI (cmpI W W') (cmpI H H') (Lib.compareBytes C C')
theorem kcmp_neg (W H : Int) (C : List UInt8) (W' H' : Int) (C' : List UInt8) : kcmp W H C W' H' C' = - kcmp W' H' C' W H C := by
  have h := cb_neg C C'
  unfold kcmp orI cmpI
  rw [h]
  repeat' split
  all_goals omega
theorem kcmp_zero {W H : Int} {C : List UInt8} {W' H' : Int} {C' : List UInt8} (h : kcmp W H C W' H' C' = 0) : W = W' ∧ H = H' ∧ C = C' := by
  unfold kcmp orI cmpI at h
  by_cases h1 : W < W'
  · simp [h1] at h
  · by_cases h2 : W' < W
    · simp [h1, h2] at h
    · by_cases h3 : H < H'
      · simp [h1, h2, h3] at h
      · by_cases h4 : H' < H
        · simp [h1, h2, h3, h4] at h
        · simp [h1, h2, h3, h4] at h
          exact ⟨by omega, by omega, cb_zero _ _ h⟩
theorem kcmp_trans {W1 H1 W2 H2 W3 H3 : Int} {C1 C2 C3 : List UInt8} (h : kcmp W1 H1 C1 W2 H2 C2 < 0) (h' : kcmp W2 H2 C2 W3 H3 C3 < 0) : kcmp W1 H1 C1 W3 H3 C3 < 0 := by
  have ht := cb_trans C1 C2 C3
  unfold kcmp orI cmpI at *
  by_cases a1 : W1 < W2
  · by_cases b1 : W2 < W3
    · simp [show W1 < W3 by omega]
    · by_cases b2 : W3 < W2
      · simp [b1, b2] at h'
      · simp [show W1 < W3 by omega]
  · by_cases a2 : W2 < W1
    · simp [a1, a2] at h
    · obtain rfl : W1 = W2 := by omega
      by_cases b1 : W1 < W3
      · simp [b1]
      · by_cases b2 : W3 < W1
        · simp [b1, b2] at h'
        · simp only [b1, b2, a1, if_false, if_true] at h h' ⊢
          by_cases c1 : H1 < H2
          · by_cases d1 : H2 < H3
            · simp [show H1 < H3 by omega]
            · by_cases d2 : H3 < H2
              · simp [d1, d2] at h'
              · simp [show H1 < H3 by omega]
          · by_cases c2 : H2 < H1
            · simp [c1, c2] at h
            · obtain rfl : H1 = H2 := by omega
              by_cases d1 : H1 < H3
              · simp [d1]
              · by_cases d2 : H3 < H1
                · simp [d1, d2] at h'
                · simp only [d1, d2, c1, if_false, if_true] at h h' ⊢
                  exact ht h h'
end Go.Proofs.Ytbcedjjocpjkjaa
