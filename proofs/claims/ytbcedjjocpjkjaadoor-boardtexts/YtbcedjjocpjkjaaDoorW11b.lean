/-
  '==' between two positions: field by field.
-/
import Derived.Test.YtbcedjjocpjkjaaDoorW5
import Derived.ChangeKeysEq
namespace Go.Proofs.YtbcedjjocpjkjaaDoor
open Go.RowKit

def samePos (W H : Int) (C : ByteArray) (T : Int) (A B : ByteArray) (W' H' : Int) (C' : ByteArray) (T' : Int) (A' B' : ByteArray) : Bool :=
  W == W' && H == H' && C.toList == C'.toList && T == T' && A.toList == A'.toList && B.toList == B'.toList

theorem eqHands (w : World) (A B A' B' : ByteArray) :
    (Op.equalIn 9999 22 (.agg #[.string A, .string B]) (.agg #[.string A', .string B'])).run Tryd.prog w = .ok (A.toList == A'.toList && B.toList == B'.toList) w := by
  obtain ⟨i, hi⟩ : ∃ i, Tryd.prog.info? 9 = some i := by
    have h : (Tryd.prog.info? 9).isSome = true := by kernel_rfl
    exact Option.isSome_iff_exists.1 h
  have hc : Tryd.prog.cellsOf 9 = 1 := by kernel_rfl
  rw [run_equalIn_array w 9998 _ _ Tryd.underlying22 hi, hc]
  have hr : List.range 2 = [0, 1] := rfl
  rw [hr]
  simp [go_sem, Op.eqItems]
  by_cases h1 : A.toList = A'.toList <;> by_cases h2 : B.toList = B'.toList <;> simp [h1, h2]

set_option maxHeartbeats 1000000 in
theorem eqPos (w : World) (W H T W' H' T' : Int) (C A B C' A' B' : ByteArray) :
    (Op.equalIn 10000 24 (.agg #[.int .i64 W, .int .i64 H, .string C, .int .i64 T, .string A, .string B]) (.agg #[.int .i64 W', .int .i64 H', .string C', .int .i64 T', .string A', .string B'])).run Tryd.prog w =
      .ok (samePos W H C T A B W' H' C' T' A' B') w := by
  rw [run_equalIn_agg w 9999 24 _ _ (by kernel_rfl) (by kernel_rfl)]
  unfold Program.fieldsOf
  rw [Tryd.underlying24]
  simp [go_sem, eqHands, samePos]
  by_cases h1 : W = W' <;> by_cases h2 : H = H' <;> by_cases h3 : C.toList = C'.toList <;> by_cases h4 : T = T' <;> by_cases h5 : A.toList = A'.toList <;> by_cases h6 : B.toList = B'.toList <;> simp [h1, h2, h3, h4, h5, h6]
theorem samePos_refl (W H : Int) (C : ByteArray) (T : Int) (A B : ByteArray) : samePos W H C T A B W H C T A B = true := by simp [samePos]
end Go.Proofs.YtbcedjjocpjkjaaDoor
