/-
  board.turned, walked: the turned position, for every position and turn; of what was there nothing has turned.
  board.Check, board.turned and board.Turned, as their callers want them: for every position and every turn.
  package rules, walked: small functions; ways.
  package rules, walked: sets of letters.
-/
import Derived.Test.YtbcedjjocpjkjabDoorJ0
import Derived.Deep.AppendLies
import Derived.OwnWalk
import Derived.Deep.DeepMust
namespace Go.Proofs.YtbcedjjocpjkjabDoor
open Go.RowKit
attribute [local go_sem ↓] Go.wp_at_zero Go.wp_at_succ

theorem own_below {w w1 : World} {base e size : Nat} {v : Value} {n : Nat} {xs : List Value} (h : w.ownsRow base e size v n xs) (hb : Below w.heap.size w w1) : w1.ownsRow base e size v n xs := by
  refine ⟨h.1, ?_⟩
  rcases h.2 with h0 | ⟨g, cap, cur, h1, h2, h3, h4⟩
  · exact .inl h0
  · refine .inr ⟨g, cap, cur, h1, h2, ?_, h4⟩
    rw [hb.block g ?_]
    · exact h3
    · rcases Nat.lt_or_ge g w.heap.size with hlt | hge
      · exact hlt
      · rw [Array.getElem?_eq_none hge] at h3; cases h3
theorem own_ne {w : World} {base e size : Nat} {v : Value} {n : Nat} {xs : List Value} (h : w.ownsRow base e size v n xs) {a : Nat} (ha : a < base) : some a ≠ v.ownBlock := by
  rcases h.2 with ⟨rfl, _⟩ | ⟨g, cap, cur, rfl, h2, _⟩
  · simp [Value.ownBlock]
  · simp [Value.ownBlock]; omega

theorem own_ge {w : World} {base e size : Nat} {v : Value} {n : Nat} {xs : List Value} (h : w.ownsRow base e size v n xs) : ∀ k, v.ownBlock = some k → base ≤ k := by
  intro k hk
  rcases Nat.lt_or_ge k base with h1 | h1
  · exact absurd hk.symm (own_ne h h1)
  · exact h1

theorem own_set6 {w : World} {base e size : Nat} {v : Value} {n : Nat} {xs : List Value} {b : Nat} {u0 u1 u2 u3 u4 u5 : Value} (hb : b < base) (h : w.ownsRow base e size v n xs) :
    ((((((w.setCell ⟨b, 0, none⟩ u0).setCell ⟨b, 1, none⟩ u1).setCell ⟨b, 2, none⟩ u2).setCell ⟨b, 3, none⟩ u3).setCell ⟨b, 4, none⟩ u4).setCell ⟨b, 5, none⟩ u5).ownsRow base e size v n xs :=
  ownsRow_setCell_below (ownsRow_setCell_below (ownsRow_setCell_below (ownsRow_setCell_below (ownsRow_setCell_below (ownsRow_setCell_below h hb _) hb _) hb _) hb _) hb _) hb _
theorem below_set6 {B : Nat} {a w : World} {b : Nat} {u0 u1 u2 u3 u4 u5 : Value} (hb : B ≤ b) (h : Below B a w) :
    Below B a ((((((w.setCell ⟨b, 0, none⟩ u0).setCell ⟨b, 1, none⟩ u1).setCell ⟨b, 2, none⟩ u2).setCell ⟨b, 3, none⟩ u3).setCell ⟨b, 4, none⟩ u4).setCell ⟨b, 5, none⟩ u5) :=
  (((((h.setCell (p := ⟨b, 0, none⟩) hb _).setCell (p := ⟨b, 1, none⟩) hb _).setCell (p := ⟨b, 2, none⟩) hb _).setCell (p := ⟨b, 3, none⟩) hb _).setCell (p := ⟨b, 4, none⟩) hb _).setCell (p := ⟨b, 5, none⟩) hb _

/-- 'string(b)' of a row of the call's own. -/
theorem conv_own {w : World} {base n g cap : Nat} {l : List UInt8} (h : w.ownsRow base 5 1 (.slice (some ⟨g, 0, none⟩) n cap) n (bvals l)) (hn : Hid (l.length = n)) :
    (convert 45 9 (.slice (some ⟨g, 0, none⟩) n cap)).run Tryd.prog w = .ok (.string ⟨l.toArray⟩) w := by
  have hn' := unhide hn
  subst hn'
  refine run_convert_bytes_back w 45 9 5 ⟨g, 0, none⟩ cap l Tryd.underlying45 Tryd.underlying5 Tryd.underlying9 fun j hj => ?_
  have := h.cellAt j (by omega)
  have e : (⟨g, 0, none⟩ : Addr).add j = ⟨g, 0 + j, none⟩ := by unfold Addr.add; split <;> simp_all
  rw [Nat.zero_add] at e
  rw [e, this]
  simp [bvals, hj]

end Go.Proofs.YtbcedjjocpjkjabDoor

namespace Go.Proofs.YtbcedjjocpjkjabDoor
open Go.RowKit

theorem Check_ok (W H T : Int) (C A B : ByteArray) (w : World) (hC : C.size ≤ maxLen) (hA : A.size ≤ maxLen) (hB : B.size ≤ maxLen) (h : posB W H C.data.toList T A.data.toList B.data.toList = true) :
    Calls Tryd.prog 24 #[.agg #[.int .i64 W, .int .i64 H, .string C, .int .i64 T, .string A, .string B]] w fun e w' => e = .returned (.int .i64 0) ∧ Below w.heap.size w w' := by
  have := Check_any W H T C A B w hC hA hB
  rw [h] at this
  exact this
theorem Check_no (W H T : Int) (C A B : ByteArray) (w : World) (hC : C.size ≤ maxLen) (hA : A.size ≤ maxLen) (hB : B.size ≤ maxLen) (h : posB W H C.data.toList T A.data.toList B.data.toList = false) :
    Calls Tryd.prog 24 #[.agg #[.int .i64 W, .int .i64 H, .string C, .int .i64 T, .string A, .string B]] w fun e w' => e = .returned (.int .i64 1) ∧ Below w.heap.size w w' := by
  have := Check_any W H T C A B w hC hA hB
  rw [h] at this
  exact this

/-- A position's facts, in numbers. -/
structure IsPos (W H : Nat) (C : ByteArray) (T : Int) (A B : ByteArray) : Prop where
  w0 : 1 ≤ W
  w1 : W ≤ 8
  h0 : 1 ≤ H
  h1 : H ≤ 8
  c : C.size = W * H
  cs : cellsB C.data.toList = true
  t : T = 0 ∨ T = 1
  a : handB A.data.toList = true
  b : handB B.data.toList = true
theorem handB_size {A : ByteArray} (h : handB A.data.toList = true) : A.size ≤ 8 := by
  simp only [handB, Bool.and_eq_true, decide_eq_true_eq, len_data] at h
  exact h.1
theorem IsPos.as {W H : Nat} {C : ByteArray} {T : Int} {A B : ByteArray} (p : IsPos W H C T A B) : A.size ≤ 8 := handB_size p.a
theorem IsPos.bs {W H : Nat} {C : ByteArray} {T : Int} {A B : ByteArray} (p : IsPos W H C T A B) : B.size ≤ 8 := handB_size p.b
theorem IsPos.c64 {W H : Nat} {C : ByteArray} {T : Int} {A B : ByteArray} (p : IsPos W H C T A B) : C.size ≤ 64 := by
  rw [p.c]; exact Nat.mul_le_mul p.w1 p.h1
theorem IsPos.posB {W H : Nat} {C : ByteArray} {T : Int} {A B : ByteArray} (p : IsPos W H C T A B) : posB W H C.data.toList T A.data.toList B.data.toList = true := by
  have hc : (C.size : Int) = (W : Int) * H := by rw [p.c]; simp
  have := p.w0; have := p.w1; have := p.h0; have := p.h1
  simp only [YtbcedjjocpjkjabDoor.posB, sideB, len_data, p.cs, p.a, p.b, hc, Bool.and_eq_true, Bool.or_eq_true, decide_eq_true_eq, and_true]
  refine ⟨⟨⟨?_, ?_⟩, ?_⟩, ?_⟩
  all_goals first | exact p.t | omega
theorem isPos_of {W H : Int} {C : ByteArray} {T : Int} {A B : ByteArray} (h : posB W H C.data.toList T A.data.toList B.data.toList = true) : ∃ w h : Nat, W = w ∧ H = h ∧ IsPos w h C T A B := by
  simp only [YtbcedjjocpjkjabDoor.posB, sideB, len_data, Bool.and_eq_true, Bool.or_eq_true, decide_eq_true_eq] at h
  obtain ⟨⟨⟨⟨⟨hW, hH⟩, hc, hcs⟩, ht⟩, ha⟩, hb⟩ := h
  obtain ⟨w, rfl⟩ := Int.eq_ofNat_of_zero_le (show 0 ≤ W by omega)
  obtain ⟨h, rfl⟩ := Int.eq_ofNat_of_zero_le (show 0 ≤ H by omega)
  refine ⟨w, h, rfl, rfl, by omega, by omega, by omega, by omega, ?_, hcs, ht, ha, hb⟩
  have : ((w * h : Nat) : Int) = (w : Int) * h := by simp
  omega

def twd (W H k : Nat) : Nat := if k / 4 % 2 = 1 then H else W
def thd (W H k : Nat) : Nat := if k / 4 % 2 = 1 then W else H
def tstr (C : ByteArray) (W H k : Nat) : ByteArray := ⟨(tcells C.data.toList W H k (twd W H k) (W * H)).toArray⟩

theorem and4 : ∀ k : Nat, k < 8 → (bits .and .i64 (k : Int) 4 != 0) = decide (k / 4 % 2 = 1) := by decide +kernel

theorem bcell {W w1 : World} (hb : Below W.heap.size W w1) : (∀ b o, b < W.heap.size → w1.cell? ⟨b, o, none⟩ = W.cell? ⟨b, o, none⟩) ∧ (∀ b o, b < W.heap.size → w1.frozen? ⟨b, o, none⟩ = W.frozen? ⟨b, o, none⟩) :=
  ⟨fun b o h => hb.cell (p := ⟨b, o, none⟩) h, fun b o h => hb.frozen (p := ⟨b, o, none⟩) h⟩

/-- No position. -/
def zeroPos : Value := .agg #[.int .i64 0, .int .i64 0, .string ⟨#[]⟩, .int .i64 0, .string ⟨#[]⟩, .string ⟨#[]⟩]

end Go.Proofs.YtbcedjjocpjkjabDoor

namespace Go.Proofs.YtbcedjjocpjkjabDoor
open Go.RowKit
attribute [local go_sem ↓] Go.wp_at_zero Go.wp_at_succ

/-- A way. -/
structure Wy where
  k : Int
  x : Int
  y : Int
  t : Int
def Wy.v (z : Wy) : Value := .agg #[.int .i64 z.k, .int .i64 z.x, .int .i64 z.y, .int .i64 z.t]
def inB (n a b : Int) : Bool := decide (a ≤ n) && decide (n ≤ b)
/-- P6: is it one? -/
def Wy.ok (z : Wy) : Bool := inB z.x 0 7 && inB z.y 0 7 && !(decide (z.x = 0) && decide (z.y = 0)) && (decide (z.t = 0) || decide (z.t = 1) || decide (z.t = 2)) && (((decide (z.k = 1) || decide (z.k = 2)) && decide (z.x ≤ z.y)) || decide (z.k = 3))

set_option maxHeartbeats 400000 in
theorem isWithin_any (n a b : Int) (w : World) :
    Calls Tryd.prog 27 #[.int .i64 n, .int .i64 a, .int .i64 b] w fun e w' => e = .returned (.bool (inB n a b)) ∧ w' = w := by
  go_enter Tryd.func27, Tryd.ntmps27
  go_wp2
  all_goals go_ret
  all_goals refine ⟨ret_bool ?_, rfl⟩
  all_goals (unfold inB; simp; try omega)

set_option maxHeartbeats 400000 in
theorem rCapital_any (c : Int) (w : World) :
    Calls Tryd.prog 39 #[.int .u8 c] w fun e w' => e = .returned (.bool (capB c)) ∧ w' = w := by
  go_enter Tryd.func39, Tryd.ntmps39
  go_wp2
  all_goals go_ret
  all_goals refine ⟨ret_bool ?_, rfl⟩
  all_goals (unfold capB; simp; try omega)

set_option maxHeartbeats 1000000 in
theorem isWay_any (z : Wy) (w : World) :
    Calls Tryd.prog 63 #[z.v] w fun e w' => e = .returned (.bool z.ok) ∧ Below w.heap.size w w' := by
  obtain ⟨k, x, y, t⟩ := z
  unfold Wy.v
  dsimp only
  go_enter Tryd.func63, Tryd.ntmps63
  go_wp2_with (go_at_call 27; refine (isWithin_any _ _ _ _).mono ?_; rintro e w' ⟨rfl, rfl⟩)
  all_goals go_ret
  all_goals refine ⟨ret_bool ?_, (Below.refl _ w).alloc (Nat.le_refl _) _⟩
  all_goals (rw [Bool.eq_iff_iff]; simp_all [Wy.ok, inB]; try omega)
end Go.Proofs.YtbcedjjocpjkjabDoor

namespace Go.Proofs.YtbcedjjocpjkjabDoor
open Go.RowKit
attribute [local go_sem ↓] Go.wp_at_zero Go.wp_at_succ

theorem ofInt32_nat (a : Nat) (ha : a < 4294967296) : (BitVec.ofInt 32 (a : Int)).toNat = a := by
  rw [BitVec.ofInt_natCast, BitVec.toNat_ofNat]; exact Nat.mod_eq_of_lt (by omega)
theorem and_u32_nat (a b : Nat) (ha : a < 4294967296) (hb : b < 4294967296) : bits .and .u32 (a : Int) (b : Int) = ((a &&& b : Nat) : Int) := by
  have hx : a &&& b < 2 ^ 32 := Nat.and_lt_two_pow a (by omega)
  show IntKind.u32.wrap ((BitVec.ofInt 32 (a : Int) &&& BitVec.ofInt 32 (b : Int)).toNat : Int) = _
  rw [BitVec.toNat_and, ofInt32_nat a ha, ofInt32_nat b hb, IntKind.wrap_u32]
  omega
theorem or_u32_nat (a b : Nat) (ha : a < 4294967296) (hb : b < 4294967296) : bits .or .u32 (a : Int) (b : Int) = ((a ||| b : Nat) : Int) := by
  have hx : a ||| b < 2 ^ 32 := Nat.or_lt_two_pow (by omega) (by omega)
  show IntKind.u32.wrap ((BitVec.ofInt 32 (a : Int) ||| BitVec.ofInt 32 (b : Int)).toNat : Int) = _
  rw [BitVec.toNat_or, ofInt32_nat a ha, ofInt32_nat b hb, IntKind.wrap_u32]
  omega
theorem pow26 (s : Nat) (h : s < 26) : 2 ^ s < 4294967296 := by
  have h1 : (2 : Nat) ^ s ≤ 2 ^ 26 := Nat.pow_le_pow_right (by omega) (by omega)
  have h2 : (2 : Nat) ^ 26 = 67108864 := by decide
  omega

set_option maxHeartbeats 400000 in
theorem bitOf_any (c s : Nat) (w : World) (hc : c = s + 65) (hs : s < 26) :
    Calls Tryd.prog 42 #[.int .u8 (c : Int)] w fun e w' => e = .returned (.int .u32 ((2 ^ s : Nat) : Int)) ∧ w' = w := by
  have hi : (c : Int) - 65 = (s : Int) := by omega
  have hp := pow26 s hs
  have hw : (2 : Int) ^ s % 4294967296 = ((2 ^ s : Nat) : Int) := by
    have : (2 : Int) ^ s = ((2 ^ s : Nat) : Int) := by simp
    rw [this]
    generalize 2 ^ s = P at hp
    omega
  have hc0 : (0 : Int) ≤ (s : Int) := by omega
  have hc2 : (c : Int) ≤ 255 := by omega
  have hc1 : (65 : Int) ≤ (c : Int) := by omega
  have HW := hide hw
  clear hc hp hw
  go_enter Tryd.func42, Tryd.ntmps42
  go_wp2
  go_ret
  refine ⟨?_, rfl⟩
  rw [← unhide HW]
  simp

theorem and_bit (S s : Nat) : (S &&& 2 ^ s != 0) = S.testBit s := by
  cases h : S.testBit s with
  | false =>
    have : S &&& 2 ^ s = 0 := by
      apply Nat.eq_of_testBit_eq
      intro i
      rw [Nat.testBit_and, Nat.testBit_two_pow, Nat.zero_testBit]
      by_cases hi : s = i
      · subst hi; simp [h]
      · simp [hi]
    simp [this]
  | true =>
    have h1 : (S &&& 2 ^ s).testBit s = true := by rw [Nat.testBit_and, Nat.testBit_two_pow, h]; simp
    have : S &&& 2 ^ s ≠ 0 := by
      intro h0
      rw [h0, Nat.zero_testBit] at h1
      cases h1
    simp [this]

/-- Is the letter in the set? -/
def hasL (S : Nat) (c : Int) : Bool := capB c && S.testBit (c - 65).toNat

set_option maxHeartbeats 400000 in
theorem have_any (S c : Nat) (w : World) (hS : S < 4294967296) (hc : c < 256) :
    Calls Tryd.prog 41 #[.int .u32 (S : Int), .int .u8 (c : Int)] w fun e w' => e = .returned (.bool (hasL S c)) ∧ w' = w := by
  cases hcap : capB c with
  | false =>
    have hr : hasL S c = false := by simp [hasL, hcap]
    rw [hr]
    have HC := hide hcap
    clear hcap hr
    go_enter Tryd.func41, Tryd.ntmps41
    go_wp2_with fail
    refine (rCapital_any _ _).mono ?_
    rintro e w' ⟨rfl, rfl⟩
    rw [unhide HC]
    go_wp2
    go_ret
    exact ⟨rfl, rfl⟩
  | true =>
    have hcap' := hcap
    simp only [capB, Bool.and_eq_true, decide_eq_true_eq] at hcap'
    obtain ⟨s, hs⟩ : ∃ s, c = s + 65 := ⟨c - 65, by omega⟩
    have hs26 : s < 26 := by omega
    have hr : hasL S c = S.testBit s := by
      have : ((c : Int) - 65).toNat = s := by omega
      simp [hasL, hcap, this]
    rw [hr]
    have hand := and_u32_nat S (2 ^ s) hS (pow26 s hs26)
    obtain ⟨P, hP⟩ : ∃ P, P = 2 ^ s := ⟨_, rfl⟩
    obtain ⟨R, hR⟩ : ∃ R, R = S &&& 2 ^ s := ⟨_, rfl⟩
    have hbo := bitOf_any c s w hs hs26
    rw [← hP] at hbo hand
    rw [hP, ← hR, ← hP] at hand
    have hR0 : (R != 0) = S.testBit s := by rw [hR]; exact and_bit S s
    obtain ⟨b, hb⟩ : ∃ b, b = S.testBit s := ⟨_, rfl⟩
    rw [← hb] at hR0 ⊢
    have hRi : ((R : Int) != 0) = b := by
      rw [← hR0]
      cases R with
      | zero => rfl
      | succ n => rfl
    have HC := hide hcap
    have HBO := hide hbo
    have HRI := hide hRi
    have HR0 := hide hR0
    clear hcap hr hcap' hs hbo hP hR hR0 hb hRi
    go_enter Tryd.func41, Tryd.ntmps41
    go_wp2_with fail
    refine (rCapital_any _ _).mono ?_
    rintro e w' ⟨rfl, rfl⟩
    rw [unhide HC]
    go_wp2_with fail
    refine (unhide HBO).mono ?_
    rintro e w' ⟨rfl, rfl⟩
    go_wp2
    all_goals go_ret
    all_goals refine ⟨ret_bool ?_, rfl⟩
    all_goals (first | exact unhide HRI | exact unhide HR0 | (have h1 := unhide HR0; simp_all))

/-- 0, or in the set? -/
def hasZ (S : Nat) (c : Int) : Bool := decide (c = 0) || hasL S c

set_option maxHeartbeats 400000 in
theorem haveIfAny_any (S c : Nat) (w : World) (hS : S < 4294967296) (hc : c < 256) :
    Calls Tryd.prog 26 #[.int .u32 (S : Int), .int .u8 (c : Int)] w fun e w' => e = .returned (.bool (hasZ S c)) ∧ w' = w := by
  by_cases h0 : c = 0
  · subst h0
    go_enter Tryd.func26, Tryd.ntmps26
    go_wp2
    go_ret
    exact ⟨rfl, rfl⟩
  · have h1 : ¬ (c : Int) = 0 := by omega
    have h2 : ((c : Int) == 0) = false := by simp; omega
    have hz : hasZ S c = hasL S c := by simp [hasZ, h0]
    rw [hz]
    go_enter Tryd.func26, Tryd.ntmps26
    go_wp2_with fail
    refine (have_any S c _ hS hc).mono ?_
    rintro e w' ⟨rfl, rfl⟩
    go_wp2
    go_ret
    exact ⟨rfl, rfl⟩
end Go.Proofs.YtbcedjjocpjkjabDoor
