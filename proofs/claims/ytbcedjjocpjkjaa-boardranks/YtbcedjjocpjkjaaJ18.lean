/-
  Plain mathematics of turned boards, more: players changed twice; the least of all turns is one and the same.
  '==' between two positions: field by field.
-/
import Derived.Test.YtbcedjjocpjkjaaJ17
import Derived.ChangeKeysEq
namespace Go.Proofs.Ytbcedjjocpjkjaa
open Go.RowKit

theorem flip_cell_nat : ∀ n : Nat, n < 256 → cellB n = true → (flipB (flipB (UInt8.ofNat n)) = UInt8.ofNat n ∧ cellB (flipB (UInt8.ofNat n)).toNat = true) := by decide +kernel
theorem flip_cell (c : UInt8) (h : cellB c.toNat = true) : flipB (flipB c) = c ∧ cellB (flipB c).toNat = true := by
  have := flip_cell_nat c.toNat c.toNat_lt h
  rwa [UInt8.ofNat_toNat] at this

/-- Turning and changing letters go past one another. -/
theorem tcells_map (C D : ByteArray) (W H k : Nat) (hC : C.size = W * H) (hD : D.data.toList = C.data.toList.map flipB) : (tstr D W H k).data.toList = (tstr C W H k).data.toList.map flipB := by
  rw [data_tstr, data_tstr]
  unfold tcells
  rw [List.map_map]
  apply List.map_congr_left
  intro i hi
  have hi : i < W * H := by simpa using hi
  rw [← dims_mul W H k] at hi
  obtain ⟨hx, hy⟩ := split_idx hi
  obtain ⟨n, hn, hs, _⟩ := turned_idx C W H k (twd W H k) (thd W H k) _ _ hC (dims W H k) hx hy
  show tcell D.data.toList W H k (twd W H k) i = flipB (tcell C.data.toList W H k (twd W H k) i)
  unfold tcell
  rw [hs, Int.toNat_natCast, hD]
  have hl : n < C.data.toList.length := by rw [len_data]; exact hn
  rw [List.getD_eq_getElem?_getD, List.getD_eq_getElem?_getD, List.getElem?_map, List.getElem?_eq_getElem hl]
  rfl

theorem data_sstr (C : ByteArray) (W H : Nat) : (sstr C W H).data.toList = (tstr C W H 2).data.toList.map flipB := by simp [sstr]

theorem sstr_twice {W H : Nat} {C : ByteArray} {T : Int} {A B : ByteArray} (p : IsPos W H C T A B) : sstr (sstr C W H) W H = C := by
  apply ByteArray.ext
  apply Array.toList_inj.1
  have h2 : (tstr C W H 2).size = W * H := tstr_size _ _ _ _
  rw [data_sstr, tcells_map (tstr C W H 2) (sstr C W H) W H 2 h2 (data_sstr C W H), List.map_map]
  have e : tstr (tstr C W H 2) W H 2 = C := by
    have := tstr_mul C W H 2 2 (by omega) (by omega)
    rw [cmulK_22, tstr_zero C W H p.c] at this
    exact this
  rw [e]
  have hall := p.cs
  simp only [cellsB, List.all_eq_true] at hall
  conv => rhs; rw [← List.map_id C.data.toList]
  apply List.map_congr_left
  intro c hc
  exact (flip_cell c (hall c hc)).1

theorem IsPos.swapped {W H : Nat} {C : ByteArray} {T : Int} {A B : ByteArray} (p : IsPos W H C T A B) : IsPos W H (sstr C W H) (1 - T) B A := by
  refine ⟨p.w0, p.w1, p.h0, p.h1, ?_, ?_, by rcases p.t with h | h <;> omega, p.b, p.a⟩
  · rw [← len_data, data_sstr, List.length_map, len_data, tstr_size]
  · rw [data_sstr]
    have hall := (p.turned 2).cs
    simp only [cellsB, List.all_eq_true, List.mem_map] at hall ⊢
    rintro c ⟨d, hd, rfl⟩
    exact (flip_cell d (hall d hd)).2

theorem keyK_eq {C : ByteArray} {W H a b : Nat} (h : keyK C W H a b = 0) : twd W H a = twd W H b ∧ thd W H a = thd W H b ∧ tstr C W H a = tstr C W H b := by
  obtain ⟨h1, h2, h3⟩ := kcmp_zero h
  refine ⟨by omega, by omega, ?_⟩
  apply ByteArray.ext
  apply Array.toList_inj.1
  exact h3
theorem keyK_congr {C : ByteArray} {W H a b : Nat} (h : keyK C W H a b = 0) (c : Nat) : keyK C W H a c = keyK C W H b c := by
  obtain ⟨h1, h2, h3⟩ := keyK_eq h
  unfold keyK
  rw [h1, h2, h3]

theorem bestK_le (C : ByteArray) (W H : Nat) : ∀ (ns : List Nat) (k0 : Nat), ¬ keyK C W H k0 (bestK C W H k0 ns) < 0 ∧ ∀ j ∈ ns, ¬ keyK C W H j (bestK C W H k0 ns) < 0
  | [], k0 => by
    refine ⟨?_, by simp⟩
    show ¬ keyK C W H k0 k0 < 0
    rw [keyK_self]; omega
  | n :: ns, k0 => by
    obtain ⟨h1, h2⟩ := bestK_le C W H ns (stepK C W H k0 n)
    have e : bestK C W H k0 (n :: ns) = bestK C W H (stepK C W H k0 n) ns := rfl
    rw [e]
    generalize bestK C W H (stepK C W H k0 n) ns = b at h1 h2
    unfold stepK at h1
    by_cases hl : keyK C W H n k0 < 0
    · rw [if_pos hl] at h1
      refine ⟨fun hh => h1 (keyK_trans hl hh), ?_⟩
      intro j hj
      rcases List.mem_cons.1 hj with rfl | hj
      · exact h1
      · exact h2 j hj
    · rw [if_neg hl] at h1
      refine ⟨h1, ?_⟩
      intro j hj
      rcases List.mem_cons.1 hj with rfl | hj
      · intro hh
        have hn := keyK_neg C W H k0 j
        rcases Int.lt_or_eq_of_le (show keyK C W H k0 j ≤ 0 by omega) with hc | hc
        · exact h1 (keyK_trans hc hh)
        · rw [keyK_congr hc] at h1
          exact h1 hh
      · exact h2 j hj
theorem bestK_mem (C : ByteArray) (W H : Nat) : ∀ (ns : List Nat) (k0 : Nat), bestK C W H k0 ns = k0 ∨ bestK C W H k0 ns ∈ ns
  | [], k0 => .inl rfl
  | n :: ns, k0 => by
    have e : bestK C W H k0 (n :: ns) = bestK C W H (stepK C W H k0 n) ns := rfl
    rw [e]
    rcases bestK_mem C W H ns (stepK C W H k0 n) with h | h
    · rw [h]
      unfold stepK
      split
      · exact .inr (by simp)
      · exact .inl rfl
    · exact .inr (List.mem_cons_of_mem _ h)

def allK : List Nat := [0, 1, 2, 3, 4, 5, 6, 7]
theorem mem_allK {j : Nat} (h : j < 8) : j ∈ allK := by
  have : ∀ j : Nat, j < 8 → j ∈ allK := by decide +kernel
  exact this j h
theorem lt_allK {j : Nat} (h : j ∈ allK) : j < 8 := by
  have : ∀ j ∈ allK, j < 8 := by decide +kernel
  exact this j h
theorem best_lt (C : ByteArray) (W H : Nat) : bestK C W H 0 allK < 8 := by
  rcases bestK_mem C W H allK 0 with h | h
  · rw [h]; omega
  · exact lt_allK h

/-- WHICHEVER TURN IT IS, THE LEAST ONE IS THE SAME. -/
theorem least_same (C : ByteArray) (W H a : Nat) (ha : a < 8) :
    let b := bestK C W H 0 allK
    let d := bestK (tstr C W H a) (twd W H a) (thd W H a) 0 allK
    twd (twd W H a) (thd W H a) d = twd W H b ∧ thd (twd W H a) (thd W H a) d = thd W H b ∧ tstr (tstr C W H a) (twd W H a) (thd W H a) d = tstr C W H b := by
  intro b d
  have hb : b < 8 := best_lt C W H
  have hd : d < 8 := best_lt _ _ _
  have hk : ∀ j, j < 8 → keyK (tstr C W H a) (twd W H a) (thd W H a) j d = keyK C W H (cmulK a j) (cmulK a d) := by
    intro j hj
    unfold keyK
    rw [twd_mul a ha j hj, thd_mul a ha j hj, tstr_mul C W H a j ha hj, twd_mul a ha d hd, thd_mul a ha d hd, tstr_mul C W H a d ha hd]
  rw [twd_mul a ha d hd, thd_mul a ha d hd, tstr_mul C W H a d ha hd]
  apply keyK_eq
  have h1 : ¬ keyK C W H (cmulK a d) b < 0 := (bestK_le C W H allK 0).2 _ (mem_allK (cmulK_lt a ha d hd))
  obtain ⟨j, hj, hjb⟩ := cmulK_onto a ha b hb
  have h2 : ¬ keyK (tstr C W H a) (twd W H a) (thd W H a) j d < 0 := (bestK_le _ _ _ allK 0).2 _ (mem_allK hj)
  rw [hk j hj, hjb] at h2
  have h3 := keyK_neg C W H (cmulK a d) b
  omega
end Go.Proofs.Ytbcedjjocpjkjaa

namespace Go.Proofs.Ytbcedjjocpjkjaa
open Go.RowKit

def samePos (W H : Int) (C : ByteArray) (T : Int) (A B : ByteArray) (W' H' : Int) (C' : ByteArray) (T' : Int) (A' B' : ByteArray) : Bool :=
  W == W' && H == H' && C.toList == C'.toList && T == T' && A.toList == A'.toList && B.toList == B'.toList

theorem eqHands (w : World) (A B A' B' : ByteArray) :
    (Op.equalIn 9999 22 (.agg #[.string A, .string B]) (.agg #[.string A', .string B'])).run Try.prog w = .ok (A.toList == A'.toList && B.toList == B'.toList) w := by
  obtain ⟨i, hi⟩ : ∃ i, Try.prog.info? 9 = some i := by
    have h : (Try.prog.info? 9).isSome = true := by kernel_rfl
    exact Option.isSome_iff_exists.1 h
  have hc : Try.prog.cellsOf 9 = 1 := by kernel_rfl
  rw [run_equalIn_array w 9998 _ _ Try.underlying22 hi, hc]
  have hr : List.range 2 = [0, 1] := rfl
  rw [hr]
  simp [go_sem, Op.eqItems]
  by_cases h1 : A.toList = A'.toList <;> by_cases h2 : B.toList = B'.toList <;> simp [h1, h2]

set_option maxHeartbeats 1000000 in
theorem eqPos (w : World) (W H T W' H' T' : Int) (C A B C' A' B' : ByteArray) :
    (Op.equalIn 10000 24 (.agg #[.int .i64 W, .int .i64 H, .string C, .int .i64 T, .string A, .string B]) (.agg #[.int .i64 W', .int .i64 H', .string C', .int .i64 T', .string A', .string B'])).run Try.prog w =
      .ok (samePos W H C T A B W' H' C' T' A' B') w := by
  rw [run_equalIn_agg w 9999 24 _ _ (by kernel_rfl) (by kernel_rfl)]
  unfold Program.fieldsOf
  rw [Try.underlying24]
  simp [go_sem, eqHands, samePos]
  by_cases h1 : W = W' <;> by_cases h2 : H = H' <;> by_cases h3 : C.toList = C'.toList <;> by_cases h4 : T = T' <;> by_cases h5 : A.toList = A'.toList <;> by_cases h6 : B.toList = B'.toList <;> simp [h1, h2, h3, h4, h5, h6]
theorem samePos_refl (W H : Int) (C : ByteArray) (T : Int) (A B : ByteArray) : samePos W H C T A B W H C T A B = true := by simp [samePos]
end Go.Proofs.Ytbcedjjocpjkjaa
