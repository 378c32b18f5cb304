/-
  Plain mathematics of turned boards: turns are a group; the least turned position is one; changed twice a position is as it was.
-/
import Derived.Test.YtbcedjjocpjkjaaW10
namespace Go.Proofs.Ytbcedjjocpjkjaa
open Go.RowKit

/-- One turn behind the other. -/
def cmulK (a b : Nat) : Nat :=
  if b / 4 % 2 = 1 then (((a ^^^ b) &&& 4) ||| (((a &&& 1) * 2) ||| ((a &&& 2) / 2))) ^^^ (b &&& 3) else a ^^^ b
theorem cmulK_lt : ∀ a : Nat, a < 8 → ∀ b : Nat, b < 8 → cmulK a b < 8 := by decide +kernel
theorem cmulK_onto : ∀ a : Nat, a < 8 → ∀ t : Nat, t < 8 → ∃ j : Nat, j < 8 ∧ cmulK a j = t := by decide +kernel
theorem cmulK_22 : cmulK 2 2 = 0 := by decide +kernel

theorem twd_mul : ∀ a : Nat, a < 8 → ∀ b : Nat, b < 8 → ∀ W H : Nat, twd (twd W H a) (thd W H a) b = twd W H (cmulK a b) := by
  intro a ha b hb W H
  have h : ∀ a : Nat, a < 8 → ∀ b : Nat, b < 8 → ((cmulK a b / 4 % 2 = 1) ↔ ((a / 4 % 2 = 1) ↔ ¬ (b / 4 % 2 = 1))) := by decide +kernel
  have h := h a ha b hb
  unfold twd thd
  by_cases h1 : a / 4 % 2 = 1 <;> by_cases h2 : b / 4 % 2 = 1 <;> simp [h1, h2, h]
theorem thd_mul : ∀ a : Nat, a < 8 → ∀ b : Nat, b < 8 → ∀ W H : Nat, thd (twd W H a) (thd W H a) b = thd W H (cmulK a b) := by
  intro a ha b hb W H
  have h : ∀ a : Nat, a < 8 → ∀ b : Nat, b < 8 → ((cmulK a b / 4 % 2 = 1) ↔ ((a / 4 % 2 = 1) ↔ ¬ (b / 4 % 2 = 1))) := by decide +kernel
  have h := h a ha b hb
  unfold twd thd
  by_cases h1 : a / 4 % 2 = 1 <;> by_cases h2 : b / 4 % 2 = 1 <;> simp [h1, h2, h]

/-- The eight turns by their three bits. -/
theorem src_mul : ∀ a : Nat, a < 8 → ∀ b : Nat, b < 8 → ∀ (W H : Nat) (x y : Int),
    srcX W a (srcX (twd W H a : Nat) b x y) (srcY (thd W H a : Nat) b x y) = srcX W (cmulK a b) x y ∧ srcY H a (srcX (twd W H a : Nat) b x y) (srcY (thd W H a : Nat) b x y) = srcY H (cmulK a b) x y := by
  intro a ha b hb W H x y
  have hbits : ∀ a : Nat, a < 8 → ∀ b : Nat, b < 8 →
      ((cmulK a b / 4 % 2 = 1) ↔ ((a / 4 % 2 = 1) ↔ ¬ (b / 4 % 2 = 1))) ∧
      ((cmulK a b % 2 = 1) ↔ ((b % 2 = 1) ↔ ¬ (if b / 4 % 2 = 1 then a / 2 % 2 = 1 else a % 2 = 1))) ∧
      ((cmulK a b / 2 % 2 = 1) ↔ ((b / 2 % 2 = 1) ↔ ¬ (if b / 4 % 2 = 1 then a % 2 = 1 else a / 2 % 2 = 1))) := by decide +kernel
  obtain ⟨h4, h1, h2⟩ := hbits a ha b hb
  unfold srcX srcY twd thd
  by_cases a4 : a / 4 % 2 = 1 <;> by_cases a2 : a / 2 % 2 = 1 <;> by_cases a1 : a % 2 = 1 <;> by_cases b4 : b / 4 % 2 = 1 <;> by_cases b2 : b / 2 % 2 = 1 <;> by_cases b1 : b % 2 = 1 <;>
    (simp only [a4, a2, a1, b4, b2, b1, if_true, if_false, not_true_eq_false, not_false_eq_true, iff_true, iff_false] at h4 h2 h1; simp only [a4, a2, a1, b4, b2, b1, h4, h2, h1, if_true, if_false]; refine ⟨?_, ?_⟩ <;> first | trivial | omega)

theorem dims (W H k : Nat) : if k / 4 % 2 = 1 then twd W H k = H ∧ thd W H k = W else twd W H k = W ∧ thd W H k = H := by
  unfold twd thd; split <;> simp
theorem dims_mul (W H k : Nat) : twd W H k * thd W H k = W * H := by
  unfold twd thd; split
  · exact Nat.mul_comm _ _
  · rfl
theorem data_tstr (C : ByteArray) (W H k : Nat) : (tstr C W H k).data.toList = tcells C.data.toList W H k (twd W H k) (W * H) := by simp [tstr]

/-- The cell y dw + x of a turned board. -/
theorem tget (C : ByteArray) (W H k x y : Nat) (hx : x < twd W H k) (hy : y < thd W H k) :
    (tstr C W H k).data.toList.getD (y * twd W H k + x) 0 = C.data.toList.getD (srcY H k x y * W + srcX W k x y).toNat 0 := by
  have hi : y * twd W H k + x < W * H := by
    rw [← dims_mul W H k, Nat.mul_comm (twd W H k)]
    have : y * twd W H k + twd W H k ≤ thd W H k * twd W H k := by rw [← Nat.succ_mul]; exact Nat.mul_le_mul_right _ hy
    omega
  have e1 : (y * twd W H k + x) % twd W H k = x := by rw [Nat.mul_comm, Nat.mul_add_mod, Nat.mod_eq_of_lt hx]
  have e2 : (y * twd W H k + x) / twd W H k = y := by rw [Nat.mul_comm, Nat.mul_add_div (by omega), Nat.div_eq_of_lt hx]; rfl
  rw [data_tstr, List.getD_eq_getElem?_getD, tcells, List.getElem?_map, List.getElem?_range hi]
  show tcell C.data.toList W H k (twd W H k) (y * twd W H k + x) = _
  unfold tcell
  rw [e1, e2]

theorem split_idx {i dw dh : Nat} (h : i < dw * dh) : i % dw < dw ∧ i / dw < dh := by
  have h0 : 0 < dw := by rcases Nat.eq_zero_or_pos dw with e | e; · simp [e] at h
                         · exact e
  exact ⟨Nat.mod_lt _ h0, Nat.div_lt_of_lt_mul h⟩

/-- ONE TURN BEHIND THE OTHER IS ONE. -/
theorem tstr_mul (C : ByteArray) (W H a b : Nat) (ha : a < 8) (hb : b < 8) : tstr (tstr C W H a) (twd W H a) (thd W H a) b = tstr C W H (cmulK a b) := by
  obtain ⟨D, hD⟩ : ∃ D, D = tstr C W H a := ⟨_, rfl⟩
  rw [← hD]
  unfold tstr
  congr 2
  rw [dims_mul]
  unfold tcells
  rw [twd_mul a ha b hb]
  apply List.map_congr_left
  intro i hi
  have hi : i < W * H := by simpa using hi
  rw [← dims_mul W H (cmulK a b)] at hi
  obtain ⟨hx, hy⟩ := split_idx hi
  unfold tcell
  have hx' : i % twd W H (cmulK a b) < twd (twd W H a) (thd W H a) b := by rw [twd_mul a ha b hb]; exact hx
  have hy' : i / twd W H (cmulK a b) < thd (twd W H a) (thd W H a) b := by rw [thd_mul a ha b hb]; exact hy
  generalize hX : i % twd W H (cmulK a b) = x at hx'
  generalize hY : i / twd W H (cmulK a b) = y at hy'
  obtain ⟨a0, a1, b0, b1⟩ := src_bounds (twd W H a) (thd W H a) b x y _ _ (dims _ _ b) (by omega) (by omega) (by omega) (by omega)
  obtain ⟨m1, m2⟩ := src_mul a ha b hb W H x y
  obtain ⟨x2, hx2⟩ := Int.eq_ofNat_of_zero_le a0
  obtain ⟨y2, hy2⟩ := Int.eq_ofNat_of_zero_le b0
  rw [hx2, hy2] at m1 m2
  rw [hx2] at a1
  rw [hy2] at b1
  have e : (srcY (thd W H a : Nat) b x y * (twd W H a : Nat) + srcX (twd W H a : Nat) b x y).toNat = y2 * twd W H a + x2 := by
    rw [hx2, hy2]; have : ((y2 * twd W H a : Nat) : Int) = (y2 : Int) * (twd W H a : Nat) := by simp
    omega
  rw [hD, e, tget C W H a x2 y2 (by omega) (by omega), m1, m2]

theorem IsPos.turned {W H : Nat} {C : ByteArray} {T : Int} {A B : ByteArray} (p : IsPos W H C T A B) (k : Nat) : IsPos (twd W H k) (thd W H k) (tstr C W H k) T A B := by
  have := p.w0; have := p.w1; have := p.h0; have := p.h1
  refine ⟨?_, ?_, ?_, ?_, ?_, ?_, p.t, p.a, p.b⟩
  · unfold twd; split <;> omega
  · unfold twd; split <;> omega
  · unfold thd; split <;> omega
  · unfold thd; split <;> omega
  · rw [tstr_size, dims_mul]
  · rw [data_tstr]
    unfold cellsB tcells
    rw [List.all_map, List.all_eq_true]
    intro i hi
    have hi : i < W * H := by simpa using hi
    have hi' := hi
    rw [← dims_mul W H k] at hi
    obtain ⟨hx, hy⟩ := split_idx hi
    obtain ⟨n, hn, _, hc⟩ := turned_idx C W H k (twd W H k) (thd W H k) _ _ p.c (dims W H k) hx hy
    have e : i / twd W H k * twd W H k + i % twd W H k = i := by rw [Nat.mul_comm]; exact Nat.div_add_mod _ _
    rw [e] at hc
    show cellB (tcell C.data.toList W H k (twd W H k) i).toNat = true
    rw [hc]
    have hall := p.cs
    simp only [cellsB, List.all_eq_true] at hall
    exact hall C[n] (by have : C.data.toList[n]'(by rw [len_data]; exact hn) = C[n] := rfl
                        rw [← this]; exact List.getElem_mem _)

/-- The whole board, not turned. -/
theorem tstr_zero (C : ByteArray) (W H : Nat) (hC : C.size = W * H) : tstr C W H 0 = C := by
  apply ByteArray.ext
  apply Array.toList_inj.1
  rw [data_tstr]
  apply List.ext_getElem?
  intro i
  unfold tcells
  rw [List.getElem?_map]
  by_cases hi : i < W * H
  · rw [List.getElem?_range hi]
    have hw : twd W H 0 = W := rfl
    have hi' := hi
    obtain ⟨hx, hy⟩ := split_idx hi
    have hl : i < C.data.toList.length := by rw [len_data, hC]; exact hi
    show some (tcell C.data.toList W H 0 (twd W H 0) i) = _
    unfold tcell
    rw [hw]
    have e : (srcY H 0 (i % W : Nat) (i / W : Nat) * W + srcX W 0 (i % W : Nat) (i / W : Nat)).toNat = i := by
      have h1 : srcY H 0 (i % W : Nat) (i / W : Nat) = (i / W : Nat) := rfl
      have h2 : srcX W 0 (i % W : Nat) (i / W : Nat) = (i % W : Nat) := rfl
      rw [h1, h2, ← Int.natCast_mul, ← Int.natCast_add, Int.toNat_natCast, Nat.mul_comm]
      exact Nat.div_add_mod _ _
    rw [e, List.getD_eq_getElem?_getD, List.getElem?_eq_getElem hl]
    rfl
  · rw [List.getElem?_eq_none (by simpa using hi), List.getElem?_eq_none (by rw [len_data, hC]; omega)]
    rfl
end Go.Proofs.Ytbcedjjocpjkjaa
