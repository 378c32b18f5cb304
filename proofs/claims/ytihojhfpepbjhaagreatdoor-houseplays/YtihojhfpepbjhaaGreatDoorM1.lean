/-
  Plain mathematics of turned boards, no program: cells by number, where each comes from.
-/
import Derived.Test.YtihojhfpepbjhaaGreatDoorJ0
namespace Go.Proofs.YtihojhfpepbjhaaGreatDoor
open Go.RowKit

/-- The i-th cell of a board C of W columns and H rows, turned by k, that then has dw columns. -/
def tcell (C : List UInt8) (W H k dw i : Nat) : UInt8 :=
  C.getD (srcY H k (i % dw : Nat) (i / dw : Nat) * W + srcX W k (i % dw : Nat) (i / dw : Nat)).toNat 0
def tcells (C : List UInt8) (W H k dw n : Nat) : List UInt8 := (List.range n).map (tcell C W H k dw)
def bvals (l : List UInt8) : List Value := l.map fun c => Value.int .u8 (c.toNat : Int)

theorem tcells_succ (C : List UInt8) (W H k dw n : Nat) : tcells C W H k dw (n + 1) = tcells C W H k dw n ++ [tcell C W H k dw n] := by
  simp [tcells, List.range_succ]
theorem bvals_snoc (l : List UInt8) (c : UInt8) : bvals (l ++ [c]) = bvals l ++ [Value.int .u8 (c.toNat : Int)] := by simp [bvals]
theorem tcells_length (C : List UInt8) (W H k dw n : Nat) : (tcells C W H k dw n).length = n := by simp [tcells]

theorem src_bounds (W H : Nat) (k : Nat) (x y : Int) (dw dh : Nat) (hd : if k / 4 % 2 = 1 then dw = H ∧ dh = W else dw = W ∧ dh = H) (hx0 : 0 ≤ x) (hx1 : x < dw) (hy0 : 0 ≤ y) (hy1 : y < dh) :
    0 ≤ srcX W k x y ∧ srcX W k x y < W ∧ 0 ≤ srcY H k x y ∧ srcY H k x y < H := by
  unfold srcX srcY
  by_cases h4 : k / 4 % 2 = 1
  · simp only [h4, if_true] at hd ⊢
    obtain ⟨rfl, rfl⟩ := hd
    by_cases h2 : k / 2 % 2 = 1 <;> by_cases h1 : k % 2 = 1 <;> simp only [h1, h2, if_true, if_false] <;> omega
  · simp only [h4, if_false] at hd ⊢
    obtain ⟨rfl, rfl⟩ := hd
    by_cases h2 : k / 2 % 2 = 1 <;> by_cases h1 : k % 2 = 1 <;> simp only [h1, h2, if_true, if_false] <;> omega

theorem idx_bound (u v W H : Int) (hu0 : 0 ≤ u) (hu : u < H) (hv0 : 0 ≤ v) (hv : v < W) : 0 ≤ u * W + v ∧ u * W + v < W * H := by
  have h1 : u * W ≤ (H - 1) * W := Int.mul_le_mul_of_nonneg_right (by omega) (by omega)
  have h2 : 0 ≤ u * W := Int.mul_nonneg hu0 (by omega)
  have h3 : (H - 1) * W = W * H - W := by rw [Int.sub_mul, Int.one_mul, Int.mul_comm]
  omega

/-- Where the cell x, y of the turned board lies in C: a number below its size; and it is the turned board's cell number y dw + x. -/
theorem turned_idx (C : ByteArray) (W H k dw dh x y : Nat) (hC : C.size = W * H) (hd : if k / 4 % 2 = 1 then dw = H ∧ dh = W else dw = W ∧ dh = H) (hx : x < dw) (hy : y < dh) :
    ∃ (n : Nat) (hn : n < C.size), srcY H k x y * W + srcX W k x y = (n : Int) ∧ tcell C.data.toList W H k dw (y * dw + x) = C[n] := by
  obtain ⟨a0, a1, b0, b1⟩ := src_bounds W H k x y dw dh hd (by omega) (by omega) (by omega) (by omega)
  obtain ⟨c0, c1⟩ := idx_bound (srcY H k x y) (srcX W k x y) W H b0 b1 a0 a1
  have e1 : (y * dw + x) % dw = x := by rw [Nat.mul_comm, Nat.mul_add_mod, Nat.mod_eq_of_lt hx]
  have e2 : (y * dw + x) / dw = y := by rw [Nat.mul_comm, Nat.mul_add_div (by omega), Nat.div_eq_of_lt hx]; rfl
  have hWH : ((W * H : Nat) : Int) = (W : Int) * H := by simp
  have hn : (srcY H k x y * W + srcX W k x y).toNat < C.size := by rw [hC]; omega
  refine ⟨(srcY H k x y * W + srcX W k x y).toNat, hn, by omega, ?_⟩
  unfold tcell
  rw [e1, e2]
  rw [List.getD_eq_getElem?_getD, List.getElem?_eq_getElem (by rw [len_data]; exact hn)]
  rfl
end Go.Proofs.YtihojhfpepbjhaaGreatDoor
