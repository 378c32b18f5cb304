/-
  board.Check, board.turned and board.Turned, as their callers want them: for every position and every turn.
-/
import Derived.Test.YtbcedjjocpjkjaaW4
namespace Go.Proofs.Ytbcedjjocpjkjaa
open Go.RowKit

theorem Check_ok (W H T : Int) (C A B : ByteArray) (w : World) (hC : C.size ≤ maxLen) (hA : A.size ≤ maxLen) (hB : B.size ≤ maxLen) (h : posB W H C.data.toList T A.data.toList B.data.toList = true) :
    Calls Try.prog 23 #[.agg #[.int .i64 W, .int .i64 H, .string C, .int .i64 T, .string A, .string B]] w fun e w' => e = .returned (.int .i64 0) ∧ Below w.heap.size w w' := by
  have := Check_any W H T C A B w hC hA hB
  rw [h] at this
  exact this
theorem Check_no (W H T : Int) (C A B : ByteArray) (w : World) (hC : C.size ≤ maxLen) (hA : A.size ≤ maxLen) (hB : B.size ≤ maxLen) (h : posB W H C.data.toList T A.data.toList B.data.toList = false) :
    Calls Try.prog 23 #[.agg #[.int .i64 W, .int .i64 H, .string C, .int .i64 T, .string A, .string B]] w fun e w' => e = .returned (.int .i64 1) ∧ Below w.heap.size w w' := by
  have := Check_any W H T C A B w hC hA hB
  rw [h] at this
  exact this

/-- A position's facts, in numbers. -/
structure IsPos (W H : Nat) (C : ByteArray) (T : Int) (A B : ByteArray) : Prop where
  w0 : 1 ≤ W
  w1 : W ≤ 8
  h0 : 1 ≤ H
  h1 : H ≤ 8
  c : C.size = W * H
  cs : cellsB C.data.toList = true
  t : T = 0 ∨ T = 1
  a : handB A.data.toList = true
  b : handB B.data.toList = true
theorem handB_size {A : ByteArray} (h : handB A.data.toList = true) : A.size ≤ 8 := by
  simp only [handB, Bool.and_eq_true, decide_eq_true_eq, len_data] at h
  exact h.1
theorem IsPos.as {W H : Nat} {C : ByteArray} {T : Int} {A B : ByteArray} (p : IsPos W H C T A B) : A.size ≤ 8 := handB_size p.a
theorem IsPos.bs {W H : Nat} {C : ByteArray} {T : Int} {A B : ByteArray} (p : IsPos W H C T A B) : B.size ≤ 8 := handB_size p.b
theorem IsPos.c64 {W H : Nat} {C : ByteArray} {T : Int} {A B : ByteArray} (p : IsPos W H C T A B) : C.size ≤ 64 := by
  rw [p.c]; exact Nat.mul_le_mul p.w1 p.h1
theorem IsPos.posB {W H : Nat} {C : ByteArray} {T : Int} {A B : ByteArray} (p : IsPos W H C T A B) : posB W H C.data.toList T A.data.toList B.data.toList = true := by
  have hc : (C.size : Int) = (W : Int) * H := by rw [p.c]; simp
  have := p.w0; have := p.w1; have := p.h0; have := p.h1
  simp only [Ytbcedjjocpjkjaa.posB, sideB, len_data, p.cs, p.a, p.b, hc, Bool.and_eq_true, Bool.or_eq_true, decide_eq_true_eq, and_true]
  refine ⟨⟨⟨?_, ?_⟩, ?_⟩, ?_⟩
  all_goals first | exact p.t | omega
theorem isPos_of {W H : Int} {C : ByteArray} {T : Int} {A B : ByteArray} (h : posB W H C.data.toList T A.data.toList B.data.toList = true) : ∃ w h : Nat, W = w ∧ H = h ∧ IsPos w h C T A B := by
  simp only [Ytbcedjjocpjkjaa.posB, sideB, len_data, Bool.and_eq_true, Bool.or_eq_true, decide_eq_true_eq] at h
  obtain ⟨⟨⟨⟨⟨hW, hH⟩, hc, hcs⟩, ht⟩, ha⟩, hb⟩ := h
  obtain ⟨w, rfl⟩ := Int.eq_ofNat_of_zero_le (show 0 ≤ W by omega)
  obtain ⟨h, rfl⟩ := Int.eq_ofNat_of_zero_le (show 0 ≤ H by omega)
  refine ⟨w, h, rfl, rfl, by omega, by omega, by omega, by omega, ?_, hcs, ht, ha, hb⟩
  have : ((w * h : Nat) : Int) = (w : Int) * h := by simp
  omega

def twd (W H k : Nat) : Nat := if k / 4 % 2 = 1 then H else W
def thd (W H k : Nat) : Nat := if k / 4 % 2 = 1 then W else H
def tstr (C : ByteArray) (W H k : Nat) : ByteArray := ⟨(tcells C.data.toList W H k (twd W H k) (W * H)).toArray⟩

theorem and4 : ∀ k : Nat, k < 8 → (bits .and .i64 (k : Int) 4 != 0) = decide (k / 4 % 2 = 1) := by decide +kernel

theorem turned_any {W H k : Nat} {T : Int} {C A B : ByteArray} (w : World) (hk : k < 8) (p : IsPos W H C T A B) :
    Calls Try.prog 36 #[.agg #[.int .i64 W, .int .i64 H, .string C, .int .i64 T, .string A, .string B], .int .i64 k] w fun e w' =>
      e = .returned (.agg #[.int .i64 (twd W H k : Nat), .int .i64 (thd W H k : Nat), .string (tstr C W H k), .int .i64 T, .string A, .string B]) ∧ Below w.heap.size w w' := by
  by_cases h : k / 4 % 2 = 1
  · have := turned_hi W H k T C A B w hk (by rw [and4 k hk]; simpa using h) h p.w0 p.w1 p.h0 p.h1 p.c p.as p.bs
    simpa [twd, thd, tstr, h] using this
  · have := turned_lo W H k T C A B w hk (by rw [and4 k hk]; simpa using h) h p.w0 p.w1 p.h0 p.h1 p.c p.as p.bs
    rw [Nat.mul_comm H W] at this
    simpa [twd, thd, tstr, h] using this

theorem bcell {W w1 : World} (hb : Below W.heap.size W w1) : (∀ b o, b < W.heap.size → w1.cell? ⟨b, o, none⟩ = W.cell? ⟨b, o, none⟩) ∧ (∀ b o, b < W.heap.size → w1.frozen? ⟨b, o, none⟩ = W.frozen? ⟨b, o, none⟩) :=
  ⟨fun b o h => hb.cell (p := ⟨b, o, none⟩) h, fun b o h => hb.frozen (p := ⟨b, o, none⟩) h⟩

set_option maxHeartbeats 1000000 in
theorem Turned_ok {W H k : Nat} {T : Int} {C A B : ByteArray} (w : World) (hk : k < 8) (p : IsPos W H C T A B) :
    Calls Try.prog 14 #[.agg #[.int .i64 W, .int .i64 H, .string C, .int .i64 T, .string A, .string B], .int .i64 k] w fun e w' =>
      e = .returned (.tuple #[.agg #[.int .i64 (twd W H k : Nat), .int .i64 (thd W H k : Nat), .string (tstr C W H k), .int .i64 T, .string A, .string B], .int .i64 0]) ∧ Below w.heap.size w w' := by
  have mC : C.size ≤ maxLen := by have := p.c64; unfold maxLen; omega
  have mA : A.size ≤ maxLen := by have := p.as; unfold maxLen; omega
  have mB : B.size ≤ maxLen := by have := p.bs; unfold maxLen; omega
  have hP := p.posB
  have HP := hide hP
  have htb : turnB (k : Int) = true := by unfold turnB; simp; omega
  clear hP
  go_enter Try.func14, Try.ntmps14
  go_wp2_with fail
  refine (Check_ok _ _ _ _ _ _ _ mC mA mB (unhide HP)).mono ?_
  rintro e w1 ⟨rfl, hb1⟩
  have hz : w.heap.size + 1 < w1.heap.size := by have := hb1.size; simp at this; omega
  obtain ⟨hc1, hf1⟩ := bcell hb1
  go_wp2_with (go_at_call 35; refine (isTurn_any _ _).mono ?_; rintro e w' ⟨rfl, rfl⟩)
  refine (turned_any _ hk p).mono ?_
  rintro e w2 ⟨rfl, hb2⟩
  obtain ⟨hc2, hf2⟩ := bcell hb2
  go_wp2
  refine bodyPost_ret (v := .tuple #[.agg #[.int .i64 (twd W H k : Nat), .int .i64 (thd W H k : Nat), .string (tstr C W H k), .int .i64 T, .string A, .string B], .int .i64 0]) (by simp [results, Try.results14, go_sem, hc2, hz, hc1]) rfl ⟨rfl, ?_⟩
  exact below_set6 (by omega) (Below.trans (Below.trans (((Below.refl _ _).alloc (Nat.le_refl _) _).alloc (by simp) _) (hb1.mono (by simp; omega))) (hb2.mono (by omega)))

/-- No position. -/
def zeroPos : Value := .agg #[.int .i64 0, .int .i64 0, .string ⟨#[]⟩, .int .i64 0, .string ⟨#[]⟩, .string ⟨#[]⟩]

set_option maxHeartbeats 1000000 in
theorem Turned_no (W H T k : Int) (C A B : ByteArray) (w : World) (hC : C.size ≤ maxLen) (hA : A.size ≤ maxLen) (hB : B.size ≤ maxLen) (h : posB W H C.data.toList T A.data.toList B.data.toList = false ∨ turnB k = false) :
    Calls Try.prog 14 #[.agg #[.int .i64 W, .int .i64 H, .string C, .int .i64 T, .string A, .string B], .int .i64 k] w fun e w' =>
      e = .returned (.tuple #[zeroPos, .int .i64 1]) ∧ Below w.heap.size w w' := by
  by_cases hp : posB W H C.data.toList T A.data.toList B.data.toList = false
  · have HP := hide hp
    clear hp h
    go_enter Try.func14, Try.ntmps14
    go_wp2_with fail
    refine (Check_no _ _ _ _ _ _ _ hC hA hB (unhide HP)).mono ?_
    rintro e w1 ⟨rfl, hb1⟩
    obtain ⟨hc1, hf1⟩ := bcell hb1
    go_wp2
    refine bodyPost_ret (v := .tuple #[zeroPos, .int .i64 1]) (by simp [results, Try.results14, go_sem, hc1, zeroPos]) rfl ⟨rfl, ?_⟩
    exact below_set6 (by omega) (Below.trans (((Below.refl _ _).alloc (Nat.le_refl _) _).alloc (by simp) _) (hb1.mono (by simp; omega)))
  · have HP := hide (show posB W H C.data.toList T A.data.toList B.data.toList = true by simpa using hp)
    have ht : turnB k = false := by rcases h with h | h; exact absurd h hp; exact h
    clear hp h
    go_enter Try.func14, Try.ntmps14
    go_wp2_with fail
    refine (Check_ok _ _ _ _ _ _ _ hC hA hB (unhide HP)).mono ?_
    rintro e w1 ⟨rfl, hb1⟩
    obtain ⟨hc1, hf1⟩ := bcell hb1
    go_wp2_with (go_at_call 35; refine (isTurn_any _ _).mono ?_; rintro e w' ⟨rfl, rfl⟩)
    refine bodyPost_ret (v := .tuple #[zeroPos, .int .i64 1]) (by simp [results, Try.results14, go_sem, hc1, zeroPos]) rfl ⟨rfl, ?_⟩
    exact below_set6 (by omega) (Below.trans (((Below.refl _ _).alloc (Nat.le_refl _) _).alloc (by simp) _) (hb1.mono (by simp; omega)))
end Go.Proofs.Ytbcedjjocpjkjaa
