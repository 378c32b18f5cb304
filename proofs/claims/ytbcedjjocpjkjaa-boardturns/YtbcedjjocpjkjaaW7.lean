/-
  board.Swapped, walked: the players changed, for every position; ErrArg else.
-/
import Derived.Test.YtbcedjjocpjkjaaW6
namespace Go.Proofs.Ytbcedjjocpjkjaa
open Go.RowKit

theorem turned_two {W H : Nat} {T : Int} {C A B : ByteArray} (w : World) (p : IsPos W H C T A B) :
    Calls Try.prog 36 #[.agg #[.int .i64 W, .int .i64 H, .string C, .int .i64 T, .string A, .string B], .int .i64 2] w fun e w' =>
      e = .returned (.agg #[.int .i64 W, .int .i64 H, .string (tstr C W H 2), .int .i64 T, .string A, .string B]) ∧ Below w.heap.size w w' :=
  turned_any (k := 2) w (by omega) p

/-- The cells of a position whose players have changed places. -/
def sstr (C : ByteArray) (W H : Nat) : ByteArray := ⟨((tstr C W H 2).data.toList.map flipB).toArray⟩
theorem tstr_size (C : ByteArray) (W H k : Nat) : (tstr C W H k).size = W * H := by
  rw [← len_data]; simp [tstr, tcells]

set_option maxHeartbeats 1000000 in
theorem Swapped_ok {W H : Nat} {T : Int} {C A B : ByteArray} (w : World) (p : IsPos W H C T A B) :
    Calls Try.prog 15 #[.agg #[.int .i64 W, .int .i64 H, .string C, .int .i64 T, .string A, .string B]] w fun e w' =>
      e = .returned (.tuple #[.agg #[.int .i64 W, .int .i64 H, .string (sstr C W H), .int .i64 (1 - T), .string B, .string A], .int .i64 0]) ∧ Below w.heap.size w w' := by
  have mC : C.size ≤ maxLen := by have := p.c64; unfold maxLen; omega
  have mA : A.size ≤ maxLen := by have := p.as; unfold maxLen; omega
  have mB : B.size ≤ maxLen := by have := p.bs; unfold maxLen; omega
  have HP := hide p.posB
  have hT0 : 0 ≤ T := by rcases p.t with h | h <;> omega
  have hT1 : T ≤ 1 := by rcases p.t with h | h <;> omega
  have hts : (tstr C W H 2).size ≤ 64 := by rw [tstr_size]; exact Nat.mul_le_mul p.w1 p.h1
  go_enter Try.func15, Try.ntmps15
  go_wp2_with fail
  refine (Check_ok _ _ _ _ _ _ _ mC mA mB (unhide HP)).mono ?_
  rintro e w1 ⟨rfl, hb1⟩
  have hz : w.heap.size + 1 < w1.heap.size := by have := hb1.size; simp at this; omega
  obtain ⟨hc1, hf1⟩ := bcell hb1
  go_wp2_with fail
  refine (turned_two _ p).mono ?_
  rintro e w2 ⟨rfl, hb2⟩
  have hz2 : w.heap.size + 1 < w2.heap.size := by have := hb2.size; omega
  obtain ⟨hc2, hf2⟩ := bcell hb2
  go_wp2_with fail
  refine (otherCase_any _ _ hts).mono ?_
  rintro e w3 ⟨rfl, hb3⟩
  have hz3 : w2.heap.size < w3.heap.size := by have := hb3.size; simp at this; omega
  obtain ⟨hc3, hf3⟩ := bcell hb3
  have g1 : w.heap.size < w1.heap.size := by omega
  have g2 : w.heap.size < w2.heap.size := by omega
  have g3 : w.heap.size < w2.heap.size + 1 := by omega
  have g4 : w.heap.size + 1 < w2.heap.size + 1 := by omega
  have n1 : ¬ w.heap.size = w2.heap.size := by omega
  have n2 : ¬ w.heap.size + 1 = w2.heap.size := by omega
  have n3 : ¬ w2.heap.size = w.heap.size := by omega
  have n4 : ¬ w2.heap.size = w.heap.size + 1 := by omega
  go_wp2
  refine bodyPost_ret (v := .tuple #[.agg #[.int .i64 W, .int .i64 H, .string (sstr C W H), .int .i64 (1 - T), .string B, .string A], .int .i64 0]) (by simp [results, Try.results15, go_sem, hc3, hc2, hc1, hz, hz2, g4, sstr]) rfl ⟨rfl, ?_⟩
  have hb := (Below.trans (Below.trans (((Below.refl w.heap.size w).alloc (Nat.le_refl _) _).alloc (by simp) _) (hb1.mono (by simp; omega))) (hb2.mono (by omega)))
  have hb' := (hb.alloc (by omega) _).trans (hb3.mono (by simp; omega))
  repeat' (refine Below.setCell ?_ (by dsimp only; omega) _)
  exact hb'

set_option maxHeartbeats 1000000 in
theorem Swapped_no (W H T : Int) (C A B : ByteArray) (w : World) (hC : C.size ≤ maxLen) (hA : A.size ≤ maxLen) (hB : B.size ≤ maxLen) (h : posB W H C.data.toList T A.data.toList B.data.toList = false) :
    Calls Try.prog 15 #[.agg #[.int .i64 W, .int .i64 H, .string C, .int .i64 T, .string A, .string B]] w fun e w' =>
      e = .returned (.tuple #[zeroPos, .int .i64 1]) ∧ Below w.heap.size w w' := by
  have HP := hide h
  clear h
  go_enter Try.func15, Try.ntmps15
  go_wp2_with fail
  refine (Check_no _ _ _ _ _ _ _ hC hA hB (unhide HP)).mono ?_
  rintro e w1 ⟨rfl, hb1⟩
  obtain ⟨hc1, hf1⟩ := bcell hb1
  go_wp2
  refine bodyPost_ret (v := .tuple #[zeroPos, .int .i64 1]) (by simp [results, Try.results15, go_sem, hc1, zeroPos]) rfl ⟨rfl, ?_⟩
  exact below_set6 (by omega) (Below.trans (((Below.refl _ _).alloc (Nat.le_refl _) _).alloc (by simp) _) (hb1.mono (by simp; omega)))
end Go.Proofs.Ytbcedjjocpjkjaa
