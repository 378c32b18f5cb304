/-
  The comparison inside gamelaw.BoardTurns, walked: by W, then H, then Cells; board.Least where it says ErrArg.
-/
import Derived.Test.YtbcedjjocpjkjaaW24
import Derived.Test.YtbcedjjocpjkjaaW12
namespace Go.Proofs.Ytbcedjjocpjkjaa
open Go.RowKit

theorem bytesLess_eq : ∀ a b : List UInt8, Op.bytesLess a b = decide (Lib.compareBytes a b < 0)
  | [], [] => by simp [Op.bytesLess, Lib.compareBytes]
  | [], _ :: _ => by simp [Op.bytesLess, Lib.compareBytes]
  | _ :: _, [] => by simp [Op.bytesLess, Lib.compareBytes]
  | a :: x, b :: y => by
    have ih := bytesLess_eq x y
    simp only [Op.bytesLess, Lib.compareBytes]
    by_cases h1 : a < b
    · simp [h1]
    · by_cases h2 : b < a
      · have h3 : ¬ a = b := by intro e; subst e; exact h1 h2
        simp [h1, h2]
        try simp [h3]
      · have e : a = b := UInt8.toNat_inj.1 (by simp only [UInt8.lt_iff_toNat_lt] at *; omega)
        subst e
        simp [h1, ih]

theorem kl1 {W H W' H' : Int} {C C' : List UInt8} (h : (W != W') = true) : decide (W < W') = decide (kcmp W H C W' H' C' < 0) := by
  simp only [bne_iff_ne, ne_eq] at h
  unfold kcmp orI cmpI
  by_cases h1 : W < W'
  · simp [h1]
  · simp [h1, show W' < W by omega]
theorem kl2 {W H W' H' : Int} {C C' : List UInt8} (h : (W != W') = false) (h' : (H != H') = true) : decide (H < H') = decide (kcmp W H C W' H' C' < 0) := by
  simp only [bne_iff_ne, ne_eq, bne_eq_false_iff_eq] at h h'
  subst h
  unfold kcmp orI cmpI
  by_cases h1 : H < H'
  · simp [h1]
  · simp [h1, show H' < H by omega]
theorem kl3 {W H W' H' : Int} {C C' : List UInt8} (h : (W != W') = false) (h' : (H != H') = false) : Op.bytesLess C C' = decide (kcmp W H C W' H' C' < 0) := by
  simp only [bne_eq_false_iff_eq] at h h'
  subst h h'
  rw [bytesLess_eq]
  unfold kcmp orI cmpI
  simp

set_option maxHeartbeats 1000000 in
theorem less_any (W H T W' H' T' : Int) (C A B C' A' B' : ByteArray) (w : World) :
    Calls Try.prog 20 #[.agg #[.int .i64 W, .int .i64 H, .string C, .int .i64 T, .string A, .string B], .agg #[.int .i64 W', .int .i64 H', .string C', .int .i64 T', .string A', .string B']] w fun e w' =>
      e = .returned (.bool (decide (kcmp W H C.data.toList W' H' C'.data.toList < 0))) ∧ Below w.heap.size w w' := by
  go_enter Try.func20, Try.ntmps20
  go_wp2
  all_goals go_ret
  all_goals refine ⟨ret_bool ?_, ((Below.refl _ _).alloc (Nat.le_refl _) _).alloc (by simp) _⟩
  · exact kl1 (by assumption)
  · exact kl2 (by assumption) (by assumption)
  · rw [ByteArray.toList_eq, ByteArray.toList_eq]
    exact kl3 (by assumption) (by assumption)

set_option maxHeartbeats 1000000 in
theorem Least_nopos (W H T : Int) (C A B : ByteArray) (a : Option Addr) (n c : Nat) (w : World) (hC : C.size ≤ maxLen) (hA : A.size ≤ maxLen) (hB : B.size ≤ maxLen) (h : posB W H C.data.toList T A.data.toList B.data.toList = false) :
    Calls Try.prog 16 #[.agg #[.int .i64 W, .int .i64 H, .string C, .int .i64 T, .string A, .string B], .slice a n c] w fun e w' =>
      e = .returned (.tuple #[.agg #[.int .i64 0, .int .i64 0, .string ⟨#[]⟩, .int .i64 0, .string ⟨#[]⟩, .string ⟨#[]⟩], .int .i64 0, .int .i64 1]) ∧ Below w.heap.size w w' := by
  have HP := hide h
  clear h
  go_enter Try.func16, Try.ntmps16
  go_wp2_with fail
  refine (Check_no _ _ _ _ _ _ _ hC hA hB (unhide HP)).mono ?_
  rintro e w1 ⟨rfl, hb1⟩
  obtain ⟨hc1, hf1⟩ := bcell hb1
  go_wp2
  refine bodyPost_ret (v := .tuple #[.agg #[.int .i64 0, .int .i64 0, .string ⟨#[]⟩, .int .i64 0, .string ⟨#[]⟩, .string ⟨#[]⟩], .int .i64 0, .int .i64 1]) (by simp [results, Try.results16, go_sem, hc1]) rfl ⟨rfl, ?_⟩
  exact below_set6 (by omega) (Below.trans (((Below.refl _ _).alloc (Nat.le_refl _) _).alloc (by simp) _) (hb1.mono (by simp; omega)))

set_option maxHeartbeats 400000 in
theorem areTurns_empty (a : Option Addr) (c : Nat) (w : World) :
    Calls Try.prog 38 #[.slice a 0 c] w fun e w' => e = .returned (.bool false) ∧ w = w' := by
  go_enter Try.func38, Try.ntmps38
  go_wp2
  refine wp_loop_rounds 1 ?_
  rw [rounds_succ]
  go_wp2
  go_ret
  exact ⟨rfl, rfl⟩

set_option maxHeartbeats 1000000 in
theorem Least_nok {W H : Nat} {T : Int} {C A B : ByteArray} (kv : Value) (w : World) (p : IsPos W H C T A B)
    (h : ∀ w1 : World, Below w.heap.size w w1 → Calls Try.prog 38 #[kv] w1 fun e w' => e = .returned (.bool false) ∧ w1 = w') :
    Calls Try.prog 16 #[.agg #[.int .i64 W, .int .i64 H, .string C, .int .i64 T, .string A, .string B], kv] w fun e w' =>
      e = .returned (.tuple #[.agg #[.int .i64 0, .int .i64 0, .string ⟨#[]⟩, .int .i64 0, .string ⟨#[]⟩, .string ⟨#[]⟩], .int .i64 0, .int .i64 1]) ∧ Below w.heap.size w w' := by
  have mC : C.size ≤ maxLen := by have := p.c64; unfold maxLen; omega
  have mA : A.size ≤ maxLen := by have := p.as; unfold maxLen; omega
  have mB : B.size ≤ maxLen := by have := p.bs; unfold maxLen; omega
  have HP := hide p.posB
  have HT := hide h
  clear h
  go_enter Try.func16, Try.ntmps16
  go_wp2_with fail
  refine (Check_ok _ _ _ _ _ _ _ mC mA mB (unhide HP)).mono ?_
  rintro e w1 ⟨rfl, hb1⟩
  have hbw : Below w.heap.size w w1 := Below.trans (((Below.refl _ _).alloc (Nat.le_refl _) _).alloc (by simp) _) (hb1.mono (by simp; omega))
  obtain ⟨hc1, hf1⟩ := bcell hb1
  go_wp2_with fail
  refine (unhide HT w1 hbw).mono ?_
  rintro e _ ⟨rfl, rfl⟩
  go_wp2
  refine bodyPost_ret (v := .tuple #[.agg #[.int .i64 0, .int .i64 0, .string ⟨#[]⟩, .int .i64 0, .string ⟨#[]⟩, .string ⟨#[]⟩], .int .i64 0, .int .i64 1]) (by simp [results, Try.results16, go_sem, hc1]) rfl ⟨rfl, ?_⟩
  exact below_set6 (by omega) hbw
end Go.Proofs.Ytbcedjjocpjkjaa
