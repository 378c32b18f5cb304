/-
  board.Check, board.turned and board.Turned, as their callers want them: for every position and every turn.
  package rules, walked: small functions; ways.
  package rules, walked: sets of letters.
  package rules, walked: isPiece.
  package rules, walked: lettersOf.
-/
import Derived.Test.YtihojhfpepbjhaaGreatDoorW4
namespace Go.Proofs.YtihojhfpepbjhaaGreatDoor
open Go.RowKit

theorem Check_ok (W H T : Int) (C A B : ByteArray) (w : World) (hC : C.size ≤ maxLen) (hA : A.size ≤ maxLen) (hB : B.size ≤ maxLen) (h : posB W H C.data.toList T A.data.toList B.data.toList = true) :
    Calls Tryz.prog 53 #[.agg #[.int .i64 W, .int .i64 H, .string C, .int .i64 T, .string A, .string B]] w fun e w' => e = .returned (.int .i64 0) ∧ Below w.heap.size w w' := by
  have := Check_any W H T C A B w hC hA hB
  rw [h] at this
  exact this
/-- A position's facts, in numbers. -/
structure IsPos (W H : Nat) (C : ByteArray) (T : Int) (A B : ByteArray) : Prop where
  w0 : 1 ≤ W
  w1 : W ≤ 8
  h0 : 1 ≤ H
  h1 : H ≤ 8
  c : C.size = W * H
  cs : cellsB C.data.toList = true
  t : T = 0 ∨ T = 1
  a : handB A.data.toList = true
  b : handB B.data.toList = true
theorem handB_size {A : ByteArray} (h : handB A.data.toList = true) : A.size ≤ 8 := by
  simp only [handB, Bool.and_eq_true, decide_eq_true_eq, len_data] at h
  exact h.1
theorem IsPos.as {W H : Nat} {C : ByteArray} {T : Int} {A B : ByteArray} (p : IsPos W H C T A B) : A.size ≤ 8 := handB_size p.a
theorem IsPos.bs {W H : Nat} {C : ByteArray} {T : Int} {A B : ByteArray} (p : IsPos W H C T A B) : B.size ≤ 8 := handB_size p.b
theorem IsPos.c64 {W H : Nat} {C : ByteArray} {T : Int} {A B : ByteArray} (p : IsPos W H C T A B) : C.size ≤ 64 := by
  rw [p.c]; exact Nat.mul_le_mul p.w1 p.h1
theorem IsPos.posB {W H : Nat} {C : ByteArray} {T : Int} {A B : ByteArray} (p : IsPos W H C T A B) : posB W H C.data.toList T A.data.toList B.data.toList = true := by
  have hc : (C.size : Int) = (W : Int) * H := by rw [p.c]; simp
  have := p.w0; have := p.w1; have := p.h0; have := p.h1
  simp only [YtihojhfpepbjhaaGreatDoor.posB, sideB, len_data, p.cs, p.a, p.b, hc, Bool.and_eq_true, Bool.or_eq_true, decide_eq_true_eq, and_true]
  refine ⟨⟨⟨?_, ?_⟩, ?_⟩, ?_⟩
  all_goals first | exact p.t | omega
theorem isPos_of {W H : Int} {C : ByteArray} {T : Int} {A B : ByteArray} (h : posB W H C.data.toList T A.data.toList B.data.toList = true) : ∃ w h : Nat, W = w ∧ H = h ∧ IsPos w h C T A B := by
  simp only [YtihojhfpepbjhaaGreatDoor.posB, sideB, len_data, Bool.and_eq_true, Bool.or_eq_true, decide_eq_true_eq] at h
  obtain ⟨⟨⟨⟨⟨hW, hH⟩, hc, hcs⟩, ht⟩, ha⟩, hb⟩ := h
  obtain ⟨w, rfl⟩ := Int.eq_ofNat_of_zero_le (show 0 ≤ W by omega)
  obtain ⟨h, rfl⟩ := Int.eq_ofNat_of_zero_le (show 0 ≤ H by omega)
  refine ⟨w, h, rfl, rfl, by omega, by omega, by omega, by omega, ?_, hcs, ht, ha, hb⟩
  have : ((w * h : Nat) : Int) = (w : Int) * h := by simp
  omega

def twd (W H k : Nat) : Nat := if k / 4 % 2 = 1 then H else W
def thd (W H k : Nat) : Nat := if k / 4 % 2 = 1 then W else H
def tstr (C : ByteArray) (W H k : Nat) : ByteArray := ⟨(tcells C.data.toList W H k (twd W H k) (W * H)).toArray⟩

theorem and4 : ∀ k : Nat, k < 8 → (bits .and .i64 (k : Int) 4 != 0) = decide (k / 4 % 2 = 1) := by decide +kernel

theorem turned_any {W H k : Nat} {T : Int} {C A B : ByteArray} (w : World) (hk : k < 8) (p : IsPos W H C T A B) :
    Calls Tryz.prog 102 #[.agg #[.int .i64 W, .int .i64 H, .string C, .int .i64 T, .string A, .string B], .int .i64 k] w fun e w' =>
      e = .returned (.agg #[.int .i64 (twd W H k : Nat), .int .i64 (thd W H k : Nat), .string (tstr C W H k), .int .i64 T, .string A, .string B]) ∧ Below w.heap.size w w' := by
  by_cases h : k / 4 % 2 = 1
  · have := turned_hi W H k T C A B w hk (by rw [and4 k hk]; simpa using h) h p.w0 p.w1 p.h0 p.h1 p.c p.as p.bs
    simpa [twd, thd, tstr, h] using this
  · have := turned_lo W H k T C A B w hk (by rw [and4 k hk]; simpa using h) h p.w0 p.w1 p.h0 p.h1 p.c p.as p.bs
    rw [Nat.mul_comm H W] at this
    simpa [twd, thd, tstr, h] using this

theorem bcell {W w1 : World} (hb : Below W.heap.size W w1) : (∀ b o, b < W.heap.size → w1.cell? ⟨b, o, none⟩ = W.cell? ⟨b, o, none⟩) ∧ (∀ b o, b < W.heap.size → w1.frozen? ⟨b, o, none⟩ = W.frozen? ⟨b, o, none⟩) :=
  ⟨fun b o h => hb.cell (p := ⟨b, o, none⟩) h, fun b o h => hb.frozen (p := ⟨b, o, none⟩) h⟩

set_option maxHeartbeats 1000000 in
theorem Turned_ok {W H k : Nat} {T : Int} {C A B : ByteArray} (w : World) (hk : k < 8) (p : IsPos W H C T A B) :
    Calls Tryz.prog 57 #[.agg #[.int .i64 W, .int .i64 H, .string C, .int .i64 T, .string A, .string B], .int .i64 k] w fun e w' =>
      e = .returned (.tuple #[.agg #[.int .i64 (twd W H k : Nat), .int .i64 (thd W H k : Nat), .string (tstr C W H k), .int .i64 T, .string A, .string B], .int .i64 0]) ∧ Below w.heap.size w w' := by
  have mC : C.size ≤ maxLen := by have := p.c64; unfold maxLen; omega
  have mA : A.size ≤ maxLen := by have := p.as; unfold maxLen; omega
  have mB : B.size ≤ maxLen := by have := p.bs; unfold maxLen; omega
  have hP := p.posB
  have HP := hide hP
  have htb : turnB (k : Int) = true := by unfold turnB; simp; omega
  clear hP
  go_enter Tryz.func57, Tryz.ntmps57
  go_wp2_with fail
  refine (Check_ok _ _ _ _ _ _ _ mC mA mB (unhide HP)).mono ?_
  rintro e w1 ⟨rfl, hb1⟩
  have hz : w.heap.size + 1 < w1.heap.size := by have := hb1.size; simp at this; omega
  obtain ⟨hc1, hf1⟩ := bcell hb1
  go_wp2_with (go_at_call 101; refine (isTurn_any _ _).mono ?_; rintro e w' ⟨rfl, rfl⟩)
  refine (turned_any _ hk p).mono ?_
  rintro e w2 ⟨rfl, hb2⟩
  obtain ⟨hc2, hf2⟩ := bcell hb2
  go_wp2
  refine bodyPost_ret (v := .tuple #[.agg #[.int .i64 (twd W H k : Nat), .int .i64 (thd W H k : Nat), .string (tstr C W H k), .int .i64 T, .string A, .string B], .int .i64 0]) (by simp [results, Tryz.results57, go_sem, hc2, hz, hc1]) rfl ⟨rfl, ?_⟩
  exact below_set6 (by omega) (Below.trans (Below.trans (((Below.refl _ _).alloc (Nat.le_refl _) _).alloc (by simp) _) (hb1.mono (by simp; omega))) (hb2.mono (by omega)))

end Go.Proofs.YtihojhfpepbjhaaGreatDoor

namespace Go.Proofs.YtihojhfpepbjhaaGreatDoor
open Go.RowKit
attribute [local go_sem ↓] Go.wp_at_zero Go.wp_at_succ

/-- A way. -/
structure Wy where
  k : Int
  x : Int
  y : Int
  t : Int
def Wy.v (z : Wy) : Value := .agg #[.int .i64 z.k, .int .i64 z.x, .int .i64 z.y, .int .i64 z.t]
def inB (n a b : Int) : Bool := decide (a ≤ n) && decide (n ≤ b)
/-- P6: is it one? -/
def Wy.ok (z : Wy) : Bool := inB z.x 0 7 && inB z.y 0 7 && !(decide (z.x = 0) && decide (z.y = 0)) && (decide (z.t = 0) || decide (z.t = 1) || decide (z.t = 2)) && (((decide (z.k = 1) || decide (z.k = 2)) && decide (z.x ≤ z.y)) || decide (z.k = 3))

set_option maxHeartbeats 400000 in
theorem isWithin_any (n a b : Int) (w : World) :
    Calls Tryz.prog 56 #[.int .i64 n, .int .i64 a, .int .i64 b] w fun e w' => e = .returned (.bool (inB n a b)) ∧ w' = w := by
  go_enter Tryz.func56, Tryz.ntmps56
  go_wp2
  all_goals go_ret
  all_goals refine ⟨ret_bool ?_, rfl⟩
  all_goals (unfold inB; simp; try omega)

set_option maxHeartbeats 400000 in
theorem rCapital_any (c : Int) (w : World) :
    Calls Tryz.prog 136 #[.int .u8 c] w fun e w' => e = .returned (.bool (capB c)) ∧ w' = w := by
  go_enter Tryz.func136, Tryz.ntmps136
  go_wp2
  all_goals go_ret
  all_goals refine ⟨ret_bool ?_, rfl⟩
  all_goals (unfold capB; simp; try omega)

set_option maxHeartbeats 1000000 in
theorem isWay_any (z : Wy) (w : World) :
    Calls Tryz.prog 137 #[z.v] w fun e w' => e = .returned (.bool z.ok) ∧ Below w.heap.size w w' := by
  obtain ⟨k, x, y, t⟩ := z
  unfold Wy.v
  dsimp only
  go_enter Tryz.func137, Tryz.ntmps137
  go_wp2_with (go_at_call 56; refine (isWithin_any _ _ _ _).mono ?_; rintro e w' ⟨rfl, rfl⟩)
  all_goals go_ret
  all_goals refine ⟨ret_bool ?_, (Below.refl _ w).alloc (Nat.le_refl _) _⟩
  all_goals (rw [Bool.eq_iff_iff]; simp_all [Wy.ok, inB]; try omega)
end Go.Proofs.YtihojhfpepbjhaaGreatDoor

namespace Go.Proofs.YtihojhfpepbjhaaGreatDoor
open Go.RowKit
attribute [local go_sem ↓] Go.wp_at_zero Go.wp_at_succ

theorem ofInt32_nat (a : Nat) (ha : a < 4294967296) : (BitVec.ofInt 32 (a : Int)).toNat = a := by
  rw [BitVec.ofInt_natCast, BitVec.toNat_ofNat]; exact Nat.mod_eq_of_lt (by omega)
theorem and_u32_nat (a b : Nat) (ha : a < 4294967296) (hb : b < 4294967296) : bits .and .u32 (a : Int) (b : Int) = ((a &&& b : Nat) : Int) := by
  have hx : a &&& b < 2 ^ 32 := Nat.and_lt_two_pow a (by omega)
  show IntKind.u32.wrap ((BitVec.ofInt 32 (a : Int) &&& BitVec.ofInt 32 (b : Int)).toNat : Int) = _
  rw [BitVec.toNat_and, ofInt32_nat a ha, ofInt32_nat b hb, IntKind.wrap_u32]
  omega
theorem or_u32_nat (a b : Nat) (ha : a < 4294967296) (hb : b < 4294967296) : bits .or .u32 (a : Int) (b : Int) = ((a ||| b : Nat) : Int) := by
  have hx : a ||| b < 2 ^ 32 := Nat.or_lt_two_pow (by omega) (by omega)
  show IntKind.u32.wrap ((BitVec.ofInt 32 (a : Int) ||| BitVec.ofInt 32 (b : Int)).toNat : Int) = _
  rw [BitVec.toNat_or, ofInt32_nat a ha, ofInt32_nat b hb, IntKind.wrap_u32]
  omega
theorem pow26 (s : Nat) (h : s < 26) : 2 ^ s < 4294967296 := by
  have h1 : (2 : Nat) ^ s ≤ 2 ^ 26 := Nat.pow_le_pow_right (by omega) (by omega)
  have h2 : (2 : Nat) ^ 26 = 67108864 := by decide
  omega

set_option maxHeartbeats 400000 in
theorem bitOf_any (c s : Nat) (w : World) (hc : c = s + 65) (hs : s < 26) :
    Calls Tryz.prog 96 #[.int .u8 (c : Int)] w fun e w' => e = .returned (.int .u32 ((2 ^ s : Nat) : Int)) ∧ w' = w := by
  have hi : (c : Int) - 65 = (s : Int) := by omega
  have hp := pow26 s hs
  have hw : (2 : Int) ^ s % 4294967296 = ((2 ^ s : Nat) : Int) := by
    have : (2 : Int) ^ s = ((2 ^ s : Nat) : Int) := by simp
    rw [this]
    generalize 2 ^ s = P at hp
    omega
  have hc0 : (0 : Int) ≤ (s : Int) := by omega
  have hc2 : (c : Int) ≤ 255 := by omega
  have hc1 : (65 : Int) ≤ (c : Int) := by omega
  have HW := hide hw
  clear hc hp hw
  go_enter Tryz.func96, Tryz.ntmps96
  go_wp2
  go_ret
  refine ⟨?_, rfl⟩
  rw [← unhide HW]
  simp

theorem and_bit (S s : Nat) : (S &&& 2 ^ s != 0) = S.testBit s := by
  cases h : S.testBit s with
  | false =>
    have : S &&& 2 ^ s = 0 := by
      apply Nat.eq_of_testBit_eq
      intro i
      rw [Nat.testBit_and, Nat.testBit_two_pow, Nat.zero_testBit]
      by_cases hi : s = i
      · subst hi; simp [h]
      · simp [hi]
    simp [this]
  | true =>
    have h1 : (S &&& 2 ^ s).testBit s = true := by rw [Nat.testBit_and, Nat.testBit_two_pow, h]; simp
    have : S &&& 2 ^ s ≠ 0 := by
      intro h0
      rw [h0, Nat.zero_testBit] at h1
      cases h1
    simp [this]

/-- Is the letter in the set? -/
def hasL (S : Nat) (c : Int) : Bool := capB c && S.testBit (c - 65).toNat

set_option maxHeartbeats 400000 in
theorem have_any (S c : Nat) (w : World) (hS : S < 4294967296) (hc : c < 256) :
    Calls Tryz.prog 95 #[.int .u32 (S : Int), .int .u8 (c : Int)] w fun e w' => e = .returned (.bool (hasL S c)) ∧ w' = w := by
  cases hcap : capB c with
  | false =>
    have hr : hasL S c = false := by simp [hasL, hcap]
    rw [hr]
    have HC := hide hcap
    clear hcap hr
    go_enter Tryz.func95, Tryz.ntmps95
    go_wp2_with fail
    refine (rCapital_any _ _).mono ?_
    rintro e w' ⟨rfl, rfl⟩
    rw [unhide HC]
    go_wp2
    go_ret
    exact ⟨rfl, rfl⟩
  | true =>
    have hcap' := hcap
    simp only [capB, Bool.and_eq_true, decide_eq_true_eq] at hcap'
    obtain ⟨s, hs⟩ : ∃ s, c = s + 65 := ⟨c - 65, by omega⟩
    have hs26 : s < 26 := by omega
    have hr : hasL S c = S.testBit s := by
      have : ((c : Int) - 65).toNat = s := by omega
      simp [hasL, hcap, this]
    rw [hr]
    have hand := and_u32_nat S (2 ^ s) hS (pow26 s hs26)
    obtain ⟨P, hP⟩ : ∃ P, P = 2 ^ s := ⟨_, rfl⟩
    obtain ⟨R, hR⟩ : ∃ R, R = S &&& 2 ^ s := ⟨_, rfl⟩
    have hbo := bitOf_any c s w hs hs26
    rw [← hP] at hbo hand
    rw [hP, ← hR, ← hP] at hand
    have hR0 : (R != 0) = S.testBit s := by rw [hR]; exact and_bit S s
    obtain ⟨b, hb⟩ : ∃ b, b = S.testBit s := ⟨_, rfl⟩
    rw [← hb] at hR0 ⊢
    have hRi : ((R : Int) != 0) = b := by
      rw [← hR0]
      cases R with
      | zero => rfl
      | succ n => rfl
    have HC := hide hcap
    have HBO := hide hbo
    have HRI := hide hRi
    have HR0 := hide hR0
    clear hcap hr hcap' hs hbo hP hR hR0 hb hRi
    go_enter Tryz.func95, Tryz.ntmps95
    go_wp2_with fail
    refine (rCapital_any _ _).mono ?_
    rintro e w' ⟨rfl, rfl⟩
    rw [unhide HC]
    go_wp2_with fail
    refine (unhide HBO).mono ?_
    rintro e w' ⟨rfl, rfl⟩
    go_wp2
    all_goals go_ret
    all_goals refine ⟨ret_bool ?_, rfl⟩
    all_goals (first | exact unhide HRI | exact unhide HR0 | (have h1 := unhide HR0; simp_all))

/-- 0, or in the set? -/
def hasZ (S : Nat) (c : Int) : Bool := decide (c = 0) || hasL S c

set_option maxHeartbeats 400000 in
theorem haveIfAny_any (S c : Nat) (w : World) (hS : S < 4294967296) (hc : c < 256) :
    Calls Tryz.prog 55 #[.int .u32 (S : Int), .int .u8 (c : Int)] w fun e w' => e = .returned (.bool (hasZ S c)) ∧ w' = w := by
  by_cases h0 : c = 0
  · subst h0
    go_enter Tryz.func55, Tryz.ntmps55
    go_wp2
    go_ret
    exact ⟨rfl, rfl⟩
  · have h1 : ¬ (c : Int) = 0 := by omega
    have h2 : ((c : Int) == 0) = false := by simp; omega
    have hz : hasZ S c = hasL S c := by simp [hasZ, h0]
    rw [hz]
    go_enter Tryz.func55, Tryz.ntmps55
    go_wp2_with fail
    refine (have_any S c _ hS hc).mono ?_
    rintro e w' ⟨rfl, rfl⟩
    go_wp2
    go_ret
    exact ⟨rfl, rfl⟩
end Go.Proofs.YtihojhfpepbjhaaGreatDoor

namespace Go.Proofs.YtihojhfpepbjhaaGreatDoor
open Go.RowKit
attribute [local go_sem ↓] Go.wp_at_zero Go.wp_at_succ

/-- A slice of ways. -/
structure isWys (w : World) (ao : Option Addr) (cap : Nat) (ws : List Wy) : Prop where
  le : ws.length ≤ cap
  mx : cap ≤ maxLen
  nil : ao = none → cap = 0
  cells : ws ≠ [] → ∃ g off, ao = some ⟨g, off, none⟩ ∧ g < w.heap.size ∧ ∀ (i : Nat) (z : Wy), ws[i]? = some z → w.cell? ⟨g, off + i * 4, none⟩ = some (.int .i64 z.k) ∧ w.cell? ⟨g, off + i * 4 + 1, none⟩ = some (.int .i64 z.x) ∧ w.cell? ⟨g, off + i * 4 + 2, none⟩ = some (.int .i64 z.y) ∧ w.cell? ⟨g, off + i * 4 + 3, none⟩ = some (.int .i64 z.t)
theorem isWys.below {w w' : World} {ao : Option Addr} {cap B : Nat} {ws : List Wy} (h : isWys w ao cap ws) (hb : Below B w w') (hB : w.heap.size ≤ B) : isWys w' ao cap ws := by
  refine ⟨h.le, h.mx, h.nil, fun hl => ?_⟩
  obtain ⟨g, off, e, hg, hc⟩ := h.cells hl
  have := hb.size
  refine ⟨g, off, e, by omega, fun i z hz => ?_⟩
  obtain ⟨c0, c1, c2, c3⟩ := hc i z hz
  exact ⟨(hb.cell (by dsimp only; omega)).trans c0, (hb.cell (by dsimp only; omega)).trans c1, (hb.cell (by dsimp only; omega)).trans c2, (hb.cell (by dsimp only; omega)).trans c3⟩

/-- P6: a piece. -/
def pcB (l v : Int) (ws : List Wy) : Bool := capB l && inB v 0 100 && decide (ws.length ≤ 8) && ws.all Wy.ok

theorem take_snocW (l : List Wy) (k : Nat) (z : Wy) (h : l[k]? = some z) : l.take (k + 1) = l.take k ++ [z] := by
  obtain ⟨hk, he⟩ := List.getElem?_eq_some_iff.1 h
  rw [List.take_succ_eq_append_getElem hk, he]

set_option maxHeartbeats 1000000 in
set_option maxRecDepth 100000 in
theorem isPiece_any (l v : Int) (ao : Option Addr) (cap : Nat) (ws : List Wy) (w : World) (h : isWys w ao cap ws) :
    Calls Tryz.prog 94 #[.agg #[.int .u8 l, .int .i64 v, .slice ao ws.length cap]] w fun e w' => e = .returned (.bool (pcB l v ws)) ∧ Below w.heap.size w w' := by
  have hle := h.le
  have hmx := h.mx
  unfold maxLen at hmx
  have hb0 : Below w.heap.size w (w.alloc (.cells #[.int .u8 l, .int .i64 v, .slice ao ws.length cap] 71 (0, 0))) := (Below.refl _ w).alloc (Nat.le_refl _) _
  cases hl : capB l with
  | false =>
    have hr : pcB l v ws = false := by simp [pcB, hl]
    rw [hr]
    have HL := hide hl
    clear hl hr
    go_enter Tryz.func94, Tryz.ntmps94
    go_wp2_with fail
    refine (rCapital_any _ _).mono ?_
    rintro e w' ⟨rfl, rfl⟩
    rw [unhide HL]
    go_wp2
    go_ret
    exact ⟨rfl, hb0⟩
  | true =>
  cases hv : inB v 0 100 with
  | false =>
    have hr : pcB l v ws = false := by simp [pcB, hv]
    rw [hr]
    have HL := hide hl
    have HV := hide hv
    clear hl hr hv
    go_enter Tryz.func94, Tryz.ntmps94
    go_wp2_with fail
    refine (rCapital_any _ _).mono ?_
    rintro e w' ⟨rfl, rfl⟩
    rw [unhide HL]
    go_wp2_with fail
    refine (isWithin_any _ _ _ _).mono ?_
    rintro e w' ⟨rfl, rfl⟩
    rw [unhide HV]
    go_wp2
    go_ret
    exact ⟨rfl, hb0⟩
  | true =>
  by_cases h8 : ws.length ≤ 8
  · obtain ⟨n, hn⟩ : ∃ n, n = ws.length := ⟨_, rfl⟩
    have hr : pcB l v ws = ws.all Wy.ok := by simp [pcB, hl, hv, h8]
    rw [hr, ← hn]
    have h8i : ¬ (n : Int) > 8 := by omega
    have HL := hide hl
    have HV := hide hv
    have HN := hide hn
    have HW := hide h
    rw [← hn] at hb0
    have HB0 := hide hb0
    clear hl hr hv hn h hb0 h8 hle
    go_enter Tryz.func94, Tryz.ntmps94
    go_wp2_with fail
    refine (rCapital_any _ _).mono ?_
    rintro e w' ⟨rfl, rfl⟩
    rw [unhide HL]
    go_wp2_with fail
    refine (isWithin_any _ _ _ _).mono ?_
    rintro e w' ⟨rfl, rfl⟩
    rw [unhide HV]
    go_wp2
    go_loopw [24] (fun iv wr => ∃ k : Nat, k ≤ n ∧ iv = .int .i64 (k : Int) ∧ Hid ((ws.take k).all Wy.ok = true) ∧ Below w.heap.size w wr) (fun iv _ => n - (intOf iv).toNat)
    case atStart => exact ⟨0, Nat.zero_le _, rfl, by show _ = _; simp, unhide HB0⟩
    case round =>
      obtain ⟨k, hk, rfl, HK, hbr⟩ := hrel
      have hsz := hbr.size
      by_cases hkl : k < n
      · have hki : (k : Int) < (n : Int) := by omega
        have hkw : k < ws.length := by rw [← unhide HN]; exact hkl
        obtain ⟨z, hz⟩ : ∃ z, ws[k]? = some z := ⟨ws[k], List.getElem?_eq_getElem hkw⟩
        obtain ⟨g, off, eg, hg, hc⟩ := (unhide HW).cells (by rintro rfl; simp at hkw)
        subst eg
        obtain ⟨c0, c1, c2, c3⟩ := hc k z hz
        have d0 := (hbr.cell (p := ⟨g, off + k * 4, none⟩) hg).trans c0
        have d1 := (hbr.cell (p := ⟨g, off + k * 4 + 1, none⟩) hg).trans c1
        have d2 := (hbr.cell (p := ⟨g, off + k * 4 + 2, none⟩) hg).trans c2
        have d3 := (hbr.cell (p := ⟨g, off + k * 4 + 3, none⟩) hg).trans c3
        have hsn := take_snocW ws k z hz
        have HSN := hide hsn
        have hk0 : (0 : Int) ≤ (k : Int) := by omega
        have HZ := hide hz
        have HMEM := hide (List.mem_of_getElem? hz)
        clear hc c0 c1 c2 c3 hsn hz
        have hba : Below w.heap.size w (wr.alloc (.cells #[.int .i64 z.k, .int .i64 z.x, .int .i64 z.y, .int .i64 z.t] 68 (0, 0))) := hbr.alloc hbr.size _
        have HBA := hide hba
        clear hba
        go_wp2_with fail
        refine (isWay_any z _).mono ?_
        rintro e w1 ⟨rfl, hb1⟩
        have hb2 : Below w.heap.size w w1 := (unhide HBA).trans (hb1.mono (unhide HBA).size)
        cases hok : z.ok with
        | false =>
          have hall : ws.all Wy.ok = false := by
            rw [List.all_eq_false]
            exact ⟨z, unhide HMEM, by simp [hok]⟩
          have HALL := hide hall
          clear hall hb1
          go_wp2
          go_ret
          exact ⟨ret_bool (unhide HALL).symm, hb2⟩
        | true =>
          have hnew : (ws.take (k + 1)).all Wy.ok = true := by rw [unhide HSN, List.all_append, unhide HK]; simp [hok]
          have HNEW := hide hnew
          clear hnew hb1
          go_wp2
          go_roundw
          case rel => exact ⟨k + 1, by omega, by go_num, HNEW, hb2⟩
          case measure => simp [intOf]; omega
      · obtain rfl : k = n := by omega
        have hki : ¬ (k : Int) < (k : Int) := by omega
        have hall : ws.all Wy.ok = true := by
          have := unhide HK
          rw [List.take_of_length_le (by rw [← unhide HN]; exact Nat.le_refl _)] at this
          exact this
        have HALL := hide hall
        clear hall
        go_wp2
        go_ret
        exact ⟨ret_bool (unhide HALL).symm, hbr⟩
  · have hr : pcB l v ws = false := by simp [pcB, h8]
    rw [hr]
    have h8i : (8 : Int) < (ws.length : Int) := by omega
    have HL := hide hl
    have HV := hide hv
    clear hl hr hv h
    go_enter Tryz.func94, Tryz.ntmps94
    go_wp2_with fail
    refine (rCapital_any _ _).mono ?_
    rintro e w' ⟨rfl, rfl⟩
    rw [unhide HL]
    go_wp2_with fail
    refine (isWithin_any _ _ _ _).mono ?_
    rintro e w' ⟨rfl, rfl⟩
    rw [unhide HV]
    go_wp2
    go_ret
    exact ⟨rfl, hb0⟩
end Go.Proofs.YtihojhfpepbjhaaGreatDoor

namespace Go.Proofs.YtihojhfpepbjhaaGreatDoor
open Go.RowKit
attribute [local go_sem ↓] Go.wp_at_zero Go.wp_at_succ

/-- A piece: its letter, what it is worth, its ways. -/
structure Pc where
  l : Nat
  v : Int
  ws : List Wy
/-- A slice of pieces. -/
structure isPcs (w : World) (ao : Option Addr) (cap : Nat) (ps : List Pc) : Prop where
  le : ps.length ≤ cap
  mx : cap ≤ maxLen
  nil : ao = none → cap = 0
  cells : ps ≠ [] → ∃ g off, ao = some ⟨g, off, none⟩ ∧ g < w.heap.size ∧ ∀ (i : Nat) (p : Pc), ps[i]? = some p → p.l < 256 ∧ ∃ wo wc, w.cell? ⟨g, off + i * 3, none⟩ = some (.int .u8 (p.l : Int)) ∧ w.cell? ⟨g, off + i * 3 + 1, none⟩ = some (.int .i64 p.v) ∧ w.cell? ⟨g, off + i * 3 + 2, none⟩ = some (.slice wo p.ws.length wc) ∧ isWys w wo wc p.ws
theorem isPcs.below {w w' : World} {ao : Option Addr} {cap B : Nat} {ps : List Pc} (h : isPcs w ao cap ps) (hb : Below B w w') (hB : w.heap.size ≤ B) : isPcs w' ao cap ps := by
  refine ⟨h.le, h.mx, h.nil, fun hl => ?_⟩
  obtain ⟨g, off, e, hg, hc⟩ := h.cells hl
  have := hb.size
  refine ⟨g, off, e, by omega, fun i z hz => ?_⟩
  obtain ⟨hl, wo, wc, c0, c1, c2, c3⟩ := hc i z hz
  exact ⟨hl, wo, wc, (hb.cell (by dsimp only; omega)).trans c0, (hb.cell (by dsimp only; omega)).trans c1, (hb.cell (by dsimp only; omega)).trans c2, c3.below hb hB⟩

/-- The letters of pieces, as bits. -/
def bitsP : Nat → List Pc → Nat
  | S, [] => S
  | S, p :: t => bitsP (S ||| 2 ^ (p.l - 65)) t
/-- P6: pieces, no letter twice. -/
def okP : Nat → List Pc → Bool
  | _, [] => true
  | S, p :: t => pcB p.l p.v p.ws && !hasL S p.l && okP (S ||| 2 ^ (p.l - 65)) t
def psB (ps : List Pc) : Bool := inB ps.length 1 10 && okP 0 ps
def lettersS (ps : List Pc) : Nat := if psB ps then bitsP 0 ps else 0

theorem or26 (S s : Nat) (h : S < 67108864) (hs : s < 26) : S ||| 2 ^ s < 67108864 := by
  have h1 : (2 : Nat) ^ s < 2 ^ 26 := Nat.pow_lt_pow_right (by omega) hs
  exact Nat.or_lt_two_pow (n := 26) (by omega) h1
theorem dropP (ps : List Pc) (k : Nat) (p : Pc) (h : ps[k]? = some p) : ps.drop k = p :: ps.drop (k + 1) := by
  obtain ⟨hk, he⟩ := List.getElem?_eq_some_iff.1 h
  rw [List.drop_eq_getElem_cons hk, he]

set_option maxHeartbeats 1000000 in
set_option maxRecDepth 100000 in
theorem lettersOf_any (ao : Option Addr) (cap : Nat) (ps : List Pc) (w : World) (h : isPcs w ao cap ps) :
    Calls Tryz.prog 52 #[.slice ao ps.length cap] w fun e w' => e = .returned (.tuple #[.int .u32 (lettersS ps : Int), .bool (psB ps)]) ∧ Below w.heap.size w w' := by
  have hle := h.le
  have hmx := h.mx
  unfold maxLen at hmx
  obtain ⟨n, hn⟩ : ∃ n, n = ps.length := ⟨_, rfl⟩
  cases hin : inB ps.length 1 10 with
  | false =>
    have hr : psB ps = false := by simp [psB, hin]
    have hs : lettersS ps = 0 := by simp [lettersS, hr]
    rw [hr, hs]
    have HIN := hide hin
    clear hin hr hs h hn
    go_enter Tryz.func52, Tryz.ntmps52
    go_wp2_with fail
    refine (isWithin_any _ _ _ _).mono ?_
    rintro e w' ⟨rfl, rfl⟩
    rw [unhide HIN]
    go_wp2
    go_ret2
    exact ⟨rfl, Below.refl _ _⟩
  | true =>
    have hr : psB ps = okP 0 ps := by simp [psB, hin]
    have hs : okP 0 ps = true → lettersS ps = bitsP 0 ps := fun e => by simp [lettersS, hr, e]
    have hs0 : okP 0 ps = false → lettersS ps = 0 := fun e => by simp [lettersS, hr, e]
    rw [hr]
    have HIN := hide hin
    rw [← hn] at HIN hle ⊢
    have HS := hide hs
    have HS0 := hide hs0
    have HN := hide hn
    have HP := hide h
    clear hin hr hs hs0 h hn
    go_enter Tryz.func52, Tryz.ntmps52
    go_wp2_with fail
    refine (isWithin_any _ _ _ _).mono ?_
    rintro e w' ⟨rfl, rfl⟩
    rw [unhide HIN]
    go_wp2
    go_loopw [2, 12] (fun sv iv wr => ∃ k S : Nat, k ≤ n ∧ iv = .int .i64 (k : Int) ∧ sv = .int .u32 (S : Int) ∧ S < 67108864 ∧ Hid (okP S (ps.drop k) = okP 0 ps ∧ bitsP S (ps.drop k) = bitsP 0 ps) ∧ Below w'.heap.size w' wr) (fun _ iv _ => n - (intOf iv).toNat)
    case atStart => exact ⟨0, 0, Nat.zero_le _, rfl, rfl, by omega, ⟨rfl, rfl⟩, Below.refl _ _⟩
    case round =>
      obtain ⟨k, S, hk, rfl, rfl, hS, HK, hbr⟩ := hrel
      have hsz := hbr.size
      by_cases hkl : k < n
      · have hki : (k : Int) < (n : Int) := by omega
        have hk0 : (0 : Int) ≤ (k : Int) := by omega
        have hkw : k < ps.length := by rw [← unhide HN]; exact hkl
        obtain ⟨p, hp⟩ : ∃ p, ps[k]? = some p := ⟨ps[k], List.getElem?_eq_getElem hkw⟩
        obtain ⟨g, off, eg, hg, hc⟩ := (unhide HP).cells (by rintro rfl; simp at hkw)
        subst eg
        obtain ⟨hl, wo, wc, c0, c1, c2, c3⟩ := hc k p hp
        have d0 := (hbr.cell (p := ⟨g, off + k * 3, none⟩) hg).trans c0
        have d1 := (hbr.cell (p := ⟨g, off + k * 3 + 1, none⟩) hg).trans c1
        have d2 := (hbr.cell (p := ⟨g, off + k * 3 + 2, none⟩) hg).trans c2
        have hdp := dropP ps k p hp
        have hKK := unhide HK
        rw [hdp] at hKK
        simp only [okP, bitsP] at hKK
        have HKK := hide hKK
        obtain ⟨wa, hwa⟩ : ∃ wa, wa = wr.alloc (.cells #[.int .u8 (p.l : Int), .int .i64 p.v, .slice wo p.ws.length wc] 71 (0, 0)) := ⟨_, rfl⟩
        have hba : Below w'.heap.size w' wa := by rw [hwa]; exact hbr.alloc hbr.size _
        have hbox : wa.heap[wr.heap.size]? = some (.cells #[.int .u8 (p.l : Int), .int .i64 p.v, .slice wo p.ws.length wc] 71 (0, 0)) := by rw [hwa]; exact heap_alloc_new wr _
        have hwsz : wa.heap.size = wr.heap.size + 1 := by rw [hwa]; simp
        have hww := c3.below hba (Nat.le_refl _)
        have e0 : wa.cell? ⟨wr.heap.size, 0, none⟩ = some (.int .u8 (p.l : Int)) := cell_of_row _ _ _ _ _ _ hbox
        have e1 : wa.cell? ⟨wr.heap.size, 1, none⟩ = some (.int .i64 p.v) := cell_of_row _ _ _ _ _ _ hbox
        have e2 : wa.cell? ⟨wr.heap.size, 2, none⟩ = some (.slice wo p.ws.length wc) := cell_of_row _ _ _ _ _ _ hbox
        have HIP := hide (isPiece_any (p.l : Int) p.v wo wc p.ws wa hww)
        have HWA := hide hwa
        have HBA := hide hba
        have HE0 := hide e0
        clear hc c0 c1 c2 c3 hdp hKK hp hww hba hbox e0 e1 e2
        go_wp2_with fail
        rw [← unhide HWA]
        refine (unhide HIP).mono ?_
        rintro e w1 ⟨rfl, hb1⟩
        have hb2 : Below w'.heap.size w' w1 := (unhide HBA).trans (hb1.mono (unhide HBA).size)
        have e0 := (hb1.cell (p := ⟨wr.heap.size, 0, none⟩) (by dsimp only; omega)).trans (unhide HE0)
        cases hpc : pcB (p.l : Int) p.v p.ws with
        | false =>
          have hf : okP 0 ps = false := by rw [← (unhide HKK).1, hpc]; rfl
          have HF := hide hf
          clear hf hb1 hwa
          go_wp2
          go_ret2
          refine ⟨?_, hb2⟩
          rw [unhide HS0 (unhide HF), unhide HF]; rfl
        | true =>
          have hcap : capB (p.l : Int) = true := by
            simp only [pcB, Bool.and_eq_true] at hpc
            exact hpc.1.1.1
          cases hha : hasL S (p.l : Int) with
          | true =>
            have hf : okP 0 ps = false := by rw [← (unhide HKK).1, hha]; simp
            have HF := hide hf
            have HHA := hide hha
            clear hf hb1 hwa hha hpc hcap
            go_wp2_with fail
            refine (have_any S p.l _ (by omega) hl).mono ?_
            rintro e w2 ⟨rfl, rfl⟩
            rw [unhide HHA]
            go_wp2
            go_ret2
            refine ⟨?_, hb2⟩
            rw [unhide HS0 (unhide HF), unhide HF]; rfl
          | false =>
            have hK2 := unhide HKK
            rw [hpc, hha] at hK2
            simp only [Bool.not_false, Bool.and_self, Bool.true_and] at hK2
            have hcap' := hcap
            simp only [capB, Bool.and_eq_true, decide_eq_true_eq] at hcap'
            obtain ⟨s, hs⟩ : ∃ s, p.l = s + 65 := ⟨p.l - 65, by omega⟩
            have hs26 : s < 26 := by omega
            have hse : p.l - 65 = s := by omega
            rw [hse] at hK2
            have hor := or_u32_nat S (2 ^ s) (by omega) (pow26 s hs26)
            have hS2 := or26 S s hS hs26
            obtain ⟨S2, hS2e⟩ : ∃ S2, S2 = S ||| 2 ^ s := ⟨_, rfl⟩
            obtain ⟨P, hP⟩ : ∃ P, P = 2 ^ s := ⟨_, rfl⟩
            have hbo := fun w => bitOf_any p.l s w hs hs26
            rw [← hP] at hbo hor
            rw [hP, ← hS2e, ← hP] at hor
            rw [← hS2e] at hS2 hK2
            have HBO := hide hbo
            have HHA := hide hha
            have HK2 := hide hK2
            clear hb1 hwa hha hpc hcap hcap' hs hse hK2 hbo hP hS2e hs26
            go_wp2_with fail
            refine (have_any S p.l _ (by omega) hl).mono ?_
            rintro e w2 ⟨rfl, rfl⟩
            rw [unhide HHA]
            go_wp2_with fail
            refine (unhide HBO _).mono ?_
            rintro e w3 ⟨rfl, rfl⟩
            go_wp2
            go_roundw
            case rel => exact ⟨k + 1, S2, by omega, by go_num, rfl, hS2, HK2, hb2⟩
            case measure => simp [intOf]; omega
      · obtain rfl : k = n := by omega
        have hki : ¬ (k : Int) < (k : Int) := by omega
        have hK := unhide HK
        rw [List.drop_of_length_le (by rw [← unhide HN]; exact Nat.le_refl _)] at hK
        simp only [okP, bitsP] at hK
        have HK3 := hide hK
        clear hK
        go_wp2
        go_ret2
        refine ⟨?_, hbr⟩
        rw [unhide HS (unhide HK3).1.symm, ← (unhide HK3).1, ← (unhide HK3).2]; rfl
end Go.Proofs.YtihojhfpepbjhaaGreatDoor
