/-
  What board.Write and board.Read answer, in one word each; there and back.
-/
import Derived.Test.YtfhmpgjemobjhaaGreatDoorJ24
import Derived.Test.YtfhmpgjemobjhaaGreatDoorJ9
namespace Go.Proofs.YtfhmpgjemobjhaaGreatDoor
open Go.RowKit

theorem bytes_data (l : List UInt8) : (⟨l.toArray⟩ : ByteArray).data.toList = l := rfl
theorem bytes_eq {a b : ByteArray} (h : a.data.toList = b.data.toList) : a = b := by
  apply ByteArray.ext
  exact Array.ext' h

/-- WHAT IS WRITTEN IS READ. -/
theorem Read_ok {W H : Nat} {T : Int} {C A B : ByteArray} (w : World) (p : IsPos W H C T A B) :
    Calls Tryz.prog 41 #[.string ⟨(wtxt W H C.data.toList T A.data.toList B.data.toList).toArray⟩] w fun e w' => e = .returned (.tuple #[sixV W H C T A B, faultV 0 0]) ∧ Below w.heap.size w w' := by
  have hp := read_written W H C.data.toList T A.data.toList B.data.toList p.posB
  have hsz : (⟨(wtxt W H C.data.toList T A.data.toList B.data.toList).toArray⟩ : ByteArray).size ≤ maxLen := by
    rw [← len_data, bytes_data]
    have h1 := wrows_length W C.data.toList H
    have h2 : H * (W + 1) ≤ 8 * 9 := Nat.mul_le_mul p.h1 (by have := p.w1; omega)
    have hA := p.as
    have hB := p.bs
    have h3 : (whand A.data.toList).length ≤ 8 := by unfold whand; split <;> simp <;> omega
    have h4 : (whand B.data.toList).length ≤ 8 := by unfold whand; split <;> simp <;> omega
    unfold maxLen
    simp only [wtxt, List.length_append, List.length_cons]
    omega
  refine (Read_any _ w hsz).mono ?_
  rintro e w' ⟨h, hb⟩
  refine ⟨?_, hb⟩
  rcases h with ⟨x, hx, rfl⟩ | ⟨hx, _⟩
  · unfold readsAs at hx
    rw [bytes_data, hp] at hx
    simp only [Prod.mk.injEq, Option.some.injEq, and_true] at hx
    rw [← hx]
    rfl
  · exact absurd (show readsAs _ _ from by unfold readsAs; rw [bytes_data]; exact hp) (hx (W, H, C.data.toList, T, A.data.toList, B.data.toList))

/-- What is read is a position, and written it is the text again. -/
theorem Read_v (s : ByteArray) (w : World) (hs : s.size ≤ maxLen) :
    Calls Tryz.prog 41 #[.string s] w fun e w' => ∃ (W H : Int) (C : ByteArray) (T : Int) (A B : ByteArray) (c n : Int), e = .returned (.tuple #[sixV W H C T A B, faultV c n]) ∧
      ((c = 0 ∧ ∃ W' H' : Nat, W = W' ∧ H = H' ∧ IsPos W' H' C T A B ∧ ⟨(wtxt W' H' C.data.toList T A.data.toList B.data.toList).toArray⟩ = s) ∨ c = 3) ∧ Below w.heap.size w w' := by
  refine (Read_any s w hs).mono ?_
  rintro e w' ⟨h, hb⟩
  rcases h with ⟨⟨W, H, C, T, A, B⟩, hx, rfl⟩ | ⟨_, rfl⟩
  · unfold readsAs at hx
    obtain ⟨h1, h2⟩ := written_read _ _ _ _ _ _ _ hx
    refine ⟨W, H, ⟨C.toArray⟩, T, ⟨A.toArray⟩, ⟨B.toArray⟩, 0, 0, rfl, Or.inl ⟨rfl, W, H, rfl, rfl, ?_, ?_⟩, hb⟩
    · obtain ⟨W', H', e1, e2, q⟩ := isPos_of (W := W) (H := H) (C := ⟨C.toArray⟩) (T := T) (A := ⟨A.toArray⟩) (B := ⟨B.toArray⟩) h1
      have e1' : W = W' := by omega
      have e2' : H = H' := by omega
      rw [e1', e2']; exact q
    · exact bytes_eq h2
  · exact ⟨0, 0, ⟨#[]⟩, 0, ⟨#[]⟩, ⟨#[]⟩, 3, _, rfl, Or.inr rfl, hb⟩

theorem Write_v (W H T : Int) (C A B : ByteArray) (w : World) (hC : C.size ≤ maxLen) (hA : A.size ≤ maxLen) (hB : B.size ≤ maxLen) :
    Calls Tryz.prog 11 #[.agg #[.int .i64 W, .int .i64 H, .string C, .int .i64 T, .string A, .string B]] w fun e w' => ∃ (X : ByteArray) (c : Int), e = .returned (.tuple #[.string X, .int .i64 c]) ∧
      ((c = 0 ∧ ∃ W' H' : Nat, W = W' ∧ H = H' ∧ IsPos W' H' C T A B ∧ X = ⟨(wtxt W' H' C.data.toList T A.data.toList B.data.toList).toArray⟩) ∨ c = 1) ∧ Below w.heap.size w w' := by
  cases h : posB W H C.data.toList T A.data.toList B.data.toList with
  | false =>
    refine (Write_no W H T C A B w hC hA hB h).mono ?_
    rintro e w' ⟨rfl, hb⟩
    exact ⟨_, _, rfl, Or.inr rfl, hb⟩
  | true =>
    obtain ⟨W', H', rfl, rfl, p⟩ := isPos_of h
    refine (Write_ok w p).mono ?_
    rintro e w' ⟨rfl, hb⟩
    exact ⟨_, _, rfl, Or.inl ⟨rfl, W', H', rfl, rfl, p, rfl⟩, hb⟩

theorem Read_K (w : World) : Calls Tryz.prog 41 #[.string ⟨#[75, 32, 119, 32, 45, 47, 45]⟩] w fun e w' => e = .returned (.tuple #[sixV 1 1 ⟨#[75]⟩ 0 ⟨#[]⟩ ⟨#[]⟩, faultV 0 0]) ∧ Below w.heap.size w w' := by
  have p : IsPos 1 1 ⟨#[75]⟩ 0 ⟨#[]⟩ ⟨#[]⟩ := ⟨by omega, by omega, by omega, by omega, rfl, by decide, Or.inl rfl, by decide, by decide⟩
  exact Read_ok w p
end Go.Proofs.YtfhmpgjemobjhaaGreatDoor
