/-
  board.Swapped, walked: the players changed, for every position; ErrArg else.
  What board.compare is made of, walked: cmp.Compare of ints, strings.Compare, cmp.Or of three; board.compare itself: by W, then H, then Cells.
  board.areTurns, walked: whether a list of at least one holds turns alone.
  Plain mathematics of board.compare, no program: an order.
-/
import Derived.Test.YtbcedjjocpjkjaaJ14
import Derived.Lib.Bytealg
namespace Go.Proofs.Ytbcedjjocpjkjaa
open Go.RowKit

theorem turned_two {W H : Nat} {T : Int} {C A B : ByteArray} (w : World) (p : IsPos W H C T A B) :
    Calls Try.prog 36 #[.agg #[.int .i64 W, .int .i64 H, .string C, .int .i64 T, .string A, .string B], .int .i64 2] w fun e w' =>
      e = .returned (.agg #[.int .i64 W, .int .i64 H, .string (tstr C W H 2), .int .i64 T, .string A, .string B]) ∧ Below w.heap.size w w' :=
  turned_any (k := 2) w (by omega) p

/-- The cells of a position whose players have changed places. -/
def sstr (C : ByteArray) (W H : Nat) : ByteArray := ⟨((tstr C W H 2).data.toList.map flipB).toArray⟩
theorem tstr_size (C : ByteArray) (W H k : Nat) : (tstr C W H k).size = W * H := by
  rw [← len_data]; simp [tstr, tcells]

set_option maxHeartbeats 1000000 in
theorem Swapped_ok {W H : Nat} {T : Int} {C A B : ByteArray} (w : World) (p : IsPos W H C T A B) :
    Calls Try.prog 15 #[.agg #[.int .i64 W, .int .i64 H, .string C, .int .i64 T, .string A, .string B]] w fun e w' =>
      e = .returned (.tuple #[.agg #[.int .i64 W, .int .i64 H, .string (sstr C W H), .int .i64 (1 - T), .string B, .string A], .int .i64 0]) ∧ Below w.heap.size w w' := by
  have mC : C.size ≤ maxLen := by have := p.c64; unfold maxLen; omega
  have mA : A.size ≤ maxLen := by have := p.as; unfold maxLen; omega
  have mB : B.size ≤ maxLen := by have := p.bs; unfold maxLen; omega
  have HP := hide p.posB
  have hT0 : 0 ≤ T := by rcases p.t with h | h <;> omega
  have hT1 : T ≤ 1 := by rcases p.t with h | h <;> omega
  have hts : (tstr C W H 2).size ≤ 64 := by rw [tstr_size]; exact Nat.mul_le_mul p.w1 p.h1
  go_enter Try.func15, Try.ntmps15
  go_wp2_with fail
  refine (Check_ok _ _ _ _ _ _ _ mC mA mB (unhide HP)).mono ?_
  rintro e w1 ⟨rfl, hb1⟩
  have hz : w.heap.size + 1 < w1.heap.size := by have := hb1.size; simp at this; omega
  obtain ⟨hc1, hf1⟩ := bcell hb1
  go_wp2_with fail
  refine (turned_two _ p).mono ?_
  rintro e w2 ⟨rfl, hb2⟩
  have hz2 : w.heap.size + 1 < w2.heap.size := by have := hb2.size; omega
  obtain ⟨hc2, hf2⟩ := bcell hb2
  go_wp2_with fail
  refine (otherCase_any _ _ hts).mono ?_
  rintro e w3 ⟨rfl, hb3⟩
  have hz3 : w2.heap.size < w3.heap.size := by have := hb3.size; simp at this; omega
  obtain ⟨hc3, hf3⟩ := bcell hb3
  have g1 : w.heap.size < w1.heap.size := by omega
  have g2 : w.heap.size < w2.heap.size := by omega
  have g3 : w.heap.size < w2.heap.size + 1 := by omega
  have g4 : w.heap.size + 1 < w2.heap.size + 1 := by omega
  have n1 : ¬ w.heap.size = w2.heap.size := by omega
  have n2 : ¬ w.heap.size + 1 = w2.heap.size := by omega
  have n3 : ¬ w2.heap.size = w.heap.size := by omega
  have n4 : ¬ w2.heap.size = w.heap.size + 1 := by omega
  go_wp2
  refine bodyPost_ret (v := .tuple #[.agg #[.int .i64 W, .int .i64 H, .string (sstr C W H), .int .i64 (1 - T), .string B, .string A], .int .i64 0]) (by simp [results, Try.results15, go_sem, hc3, hc2, hc1, hz, hz2, g4, sstr]) rfl ⟨rfl, ?_⟩
  have hb := (Below.trans (Below.trans (((Below.refl w.heap.size w).alloc (Nat.le_refl _) _).alloc (by simp) _) (hb1.mono (by simp; omega))) (hb2.mono (by omega)))
  have hb' := (hb.alloc (by omega) _).trans (hb3.mono (by simp; omega))
  repeat' (refine Below.setCell ?_ (by dsimp only; omega) _)
  exact hb'

set_option maxHeartbeats 1000000 in
theorem Swapped_no (W H T : Int) (C A B : ByteArray) (w : World) (hC : C.size ≤ maxLen) (hA : A.size ≤ maxLen) (hB : B.size ≤ maxLen) (h : posB W H C.data.toList T A.data.toList B.data.toList = false) :
    Calls Try.prog 15 #[.agg #[.int .i64 W, .int .i64 H, .string C, .int .i64 T, .string A, .string B]] w fun e w' =>
      e = .returned (.tuple #[zeroPos, .int .i64 1]) ∧ Below w.heap.size w w' := by
  have HP := hide h
  clear h
  go_enter Try.func15, Try.ntmps15
  go_wp2_with fail
  refine (Check_no _ _ _ _ _ _ _ hC hA hB (unhide HP)).mono ?_
  rintro e w1 ⟨rfl, hb1⟩
  obtain ⟨hc1, hf1⟩ := bcell hb1
  go_wp2
  refine bodyPost_ret (v := .tuple #[zeroPos, .int .i64 1]) (by simp [results, Try.results15, go_sem, hc1, zeroPos]) rfl ⟨rfl, ?_⟩
  exact below_set6 (by omega) (Below.trans (((Below.refl _ _).alloc (Nat.le_refl _) _).alloc (by simp) _) (hb1.mono (by simp; omega)))
end Go.Proofs.Ytbcedjjocpjkjaa

namespace Go.Proofs.Ytbcedjjocpjkjaa
open Go.RowKit
attribute [local go_sem ↓] Go.wp_at_zero Go.wp_at_succ

def cmpI (a b : Int) : Int := if a < b then -1 else if b < a then 1 else 0
def orI (a b c : Int) : Int := if a = 0 then (if b = 0 then c else b) else a

set_option maxHeartbeats 400000 in
theorem isNaN_any (a : Int) (w : World) : Calls Try.prog 83 #[.int .i64 a] w fun e w' => e = .returned (.bool false) ∧ w' = w := by
  go_enter Try.func83, Try.ntmps83
  go_wp2
  go_ret
  exact ⟨ret_bool (by simp), rfl⟩

set_option maxHeartbeats 400000 in
theorem cmpInt_any (a b : Int) (w : World) : Calls Try.prog 63 #[.int .i64 a, .int .i64 b] w fun e w' => e = .returned (.int .i64 (cmpI a b)) ∧ w' = w := by
  go_enter Try.func63, Try.ntmps63
  go_wp2_with (go_at_call 83; refine (isNaN_any _ _).mono ?_; rintro e w' ⟨rfl, rfl⟩)
  all_goals go_ret
  all_goals refine ⟨ret_int ?_, rfl⟩
  all_goals (unfold cmpI; repeat' split) <;> omega

set_option maxHeartbeats 1000000 in
set_option maxRecDepth 100000 in
theorem liteCompare_any (a b : ByteArray) (w : World) :
    Calls Try.prog 84 #[.string a, .string b] w fun e w' => e = .returned (.int .i64 (Lib.compareBytes a.data.toList b.data.toList)) ∧ w' = w := by
  go_enter Try.func84, Try.ntmps84
  go_wp2
  rw [run_callFunc_extern Try.func95 (by kernel_rfl) (by kernel_rfl) (by kernel_rfl) (e := Extern.BytealgCompare.compare) (by kernel_rfl), Lib.run_compareString]
  simp only [Result.andThen]
  rw [Oper.upon_value]
  go_wp2
  go_ret
  exact ⟨rfl, rfl⟩

set_option maxHeartbeats 400000 in
theorem strCompare_any (a b : ByteArray) (w : World) :
    Calls Try.prog 64 #[.string a, .string b] w fun e w' => e = .returned (.int .i64 (Lib.compareBytes a.data.toList b.data.toList)) ∧ w' = w := by
  go_enter Try.func64, Try.ntmps64
  go_wp2_with (go_at_call 84; refine (liteCompare_any _ _ _).mono ?_; rintro e w' ⟨rfl, rfl⟩)
  go_ret
  exact ⟨rfl, rfl⟩

theorem or1 {a b c : Int} (h : (a != 0) = true) : a = orI a b c := by simp only [bne_iff_ne, ne_eq] at h; simp [orI, h]
theorem or2 {a b c : Int} (h : (a != 0) = false) (h' : (b != 0) = true) : b = orI a b c := by simp only [bne_iff_ne, ne_eq, bne_eq_false_iff_eq] at h h'; simp [orI, h, h']
theorem or3 {a b c : Int} (h : (a != 0) = false) (h' : (b != 0) = false) : c = orI a b c := by simp only [bne_eq_false_iff_eq] at h h'; simp [orI, h, h']

set_option maxHeartbeats 1000000 in
theorem or3_any (a b c : Int) (g cap : Nat) (w : World) (h0 : w.cell? ⟨g, 0, none⟩ = some (.int .i64 a)) (h1 : w.cell? ⟨g, 1, none⟩ = some (.int .i64 b)) (h2 : w.cell? ⟨g, 2, none⟩ = some (.int .i64 c)) :
    Calls Try.prog 62 #[.slice (some ⟨g, 0, none⟩) 3 cap] w fun e w' => e = .returned (.int .i64 (orI a b c)) ∧ w' = w := by
  go_enter Try.func62, Try.ntmps62
  go_wp2
  refine wp_loop_rounds 4 ?_
  rw [rounds_succ]
  go_wp2
  · go_ret
    exact ⟨ret_int (or1 (by assumption)), rfl⟩
  · rw [rounds_succ]
    go_wp2
    · go_ret
      exact ⟨ret_int (or2 (by assumption) (by assumption)), rfl⟩
    · rw [rounds_succ]
      go_wp2
      · go_ret
        exact ⟨ret_int (or3 (by assumption) (by assumption)), rfl⟩
      · have hc : (c != 0) = false := by assumption
        rw [rounds_succ]
        go_wp2
        go_ret
        exact ⟨ret_int (by rw [← or3 (a := a) (b := b) (by assumption) (by assumption)]; simp only [bne_eq_false_iff_eq] at hc; exact hc.symm), rfl⟩

theorem third3 (w : World) (o1 o2 : Obj) (t : TypeId) (cs : Array Value) (j : Nat) : (((w.alloc o1).alloc o2).alloc (.cells cs t)).drew.cell? ⟨w.heap.size + 1 + 1, j, none⟩ = cs[j]? := by
  have h : w.heap.size + 1 + 1 = ((w.alloc o1).alloc o2).heap.size := by simp
  rw [h]
  exact cell_of_row _ _ _ cs t (0, 0) (heap_alloc_new _ _)

set_option maxHeartbeats 2000000 in
set_option maxRecDepth 100000 in
theorem compare_any (W H T W' H' T' : Int) (C A B C' A' B' : ByteArray) (w : World) :
    Calls Try.prog 39 #[.agg #[.int .i64 W, .int .i64 H, .string C, .int .i64 T, .string A, .string B], .agg #[.int .i64 W', .int .i64 H', .string C', .int .i64 T', .string A', .string B']] w fun e w' =>
      e = .returned (.int .i64 (orI (cmpI W W') (cmpI H H') (Lib.compareBytes C.data.toList C'.data.toList))) ∧ Below w.heap.size w w' := by
  go_enter Try.func39, Try.ntmps39
  go_wp2_with fail
  have hb0 := ((Below.refl w.heap.size w).alloc (Nat.le_refl _) (.cells #[.int .i64 W, .int .i64 H, .string C, .int .i64 T, .string A, .string B] 24)).alloc (by simp) (.cells #[.int .i64 W', .int .i64 H', .string C', .int .i64 T', .string A', .string B'] 24)
  go_region_held3 (fun w' => w'.cell? ⟨w.heap.size, 0, none⟩ = some (.int .i64 W) ∧ w'.cell? ⟨w.heap.size, 1, none⟩ = some (.int .i64 H) ∧ w'.cell? ⟨w.heap.size, 2, none⟩ = some (.string C) ∧
      w'.cell? ⟨w.heap.size + 1, 0, none⟩ = some (.int .i64 W') ∧ w'.cell? ⟨w.heap.size + 1, 1, none⟩ = some (.int .i64 H') ∧ w'.cell? ⟨w.heap.size + 1, 2, none⟩ = some (.string C'))
    (go_keep)
    (first
      | (go_at_call 63; refine (cmpInt_any _ _ _).mono ?_; rintro e w' ⟨rfl, rfl⟩)
      | (go_at_call 64; refine (strCompare_any _ _ _).mono ?_; rintro e w' ⟨rfl, rfl⟩)
      | (go_at_call 62; refine (or3_any (cmpI W W') (cmpI H H') (Lib.compareBytes C.data.toList C'.data.toList) _ _ _ ?_ ?_ ?_).mono ?_; (exact third3 _ _ _ _ _ 0); (exact third3 _ _ _ _ _ 1); (exact third3 _ _ _ _ _ 2); rintro e w' ⟨rfl, rfl⟩))
  go_wp2
  go_ret
  exact ⟨rfl, (hb0.alloc (by simp; omega) _).drew⟩
end Go.Proofs.Ytbcedjjocpjkjaa

namespace Go.Proofs.Ytbcedjjocpjkjaa
open Go.RowKit

set_option maxHeartbeats 400000 in
theorem areTurns_any (g off cap : Nat) (zs : List Int) (w : World) (hn : zs.length ≤ maxLen) (h0 : 0 < zs.length) (hc : ∀ j (h : j < zs.length), w.cell? ⟨g, off + j, none⟩ = some (.int .i64 zs[j])) :
    Calls Try.prog 38 #[.slice (some ⟨g, off, none⟩) zs.length cap] w fun e w' => e = .returned (.bool (zs.all turnB)) ∧ w' = w := by
  unfold maxLen at hn
  have HC := hide hc
  clear hc
  go_enter Try.func38, Try.ntmps38
  go_wp2
  go_loop [7] (fun i => ∃ k : Nat, k ≤ zs.length ∧ i = .int .i64 k ∧ (zs.take k).all turnB = true) (fun i => zs.length - (intOf i).toNat)
  case atStart => exact ⟨0, Nat.zero_le _, rfl, rfl⟩
  case round =>
    obtain ⟨k, hk, rfl, hall⟩ := hrel
    have HA := hide hall
    clear hall
    by_cases hlt : k < zs.length
    · have hck := unhide HC k hlt
      obtain ⟨z, hz⟩ : ∃ z, z = zs[k] := ⟨_, rfl⟩
      rw [← hz] at hck
      have HZ := hide hz
      clear hz
      go_wp2_with (go_at_call 35; refine (isTurn_any _ _).mono ?_; rintro e w' ⟨rfl, rfl⟩)
      · have hf : (!turnB z) = true := by assumption
        go_ret
        refine ⟨ret_bool ?_, rfl⟩
        symm
        rw [List.all_eq_false]
        exact ⟨zs[k], List.getElem_mem _, by rw [← unhide HZ]; simpa using hf⟩
      · have hf : (!turnB z) = false := by assumption
        go_round
        case rel => exact ⟨k + 1, by omega, by go_num, by rw [List.take_succ_eq_append_getElem hlt, List.all_append, unhide HA, ← unhide HZ]; simpa using hf⟩
        case measure => simp [intOf]; omega
    · go_wp2
      go_ret
      refine ⟨ret_bool ?_, rfl⟩
      have h1 := unhide HA
      rw [List.take_of_length_le (by omega)] at h1
      rw [h1]
end Go.Proofs.Ytbcedjjocpjkjaa

namespace Go.Proofs.Ytbcedjjocpjkjaa

theorem cb_range : ∀ a b : List UInt8, Lib.compareBytes a b = -1 ∨ Lib.compareBytes a b = 0 ∨ Lib.compareBytes a b = 1
  | [], [] => by simp [Lib.compareBytes]
  | [], _ :: _ => by simp [Lib.compareBytes]
  | _ :: _, [] => by simp [Lib.compareBytes]
  | a :: xs, b :: ys => by
    unfold Lib.compareBytes
    split
    · exact .inl rfl
    · split
      · exact .inr (.inr rfl)
      · exact cb_range xs ys
theorem cb_neg : ∀ a b : List UInt8, Lib.compareBytes a b = - Lib.compareBytes b a
  | [], [] => by simp [Lib.compareBytes]
  | [], _ :: _ => by simp [Lib.compareBytes]
  | _ :: _, [] => by simp [Lib.compareBytes]
  | a :: xs, b :: ys => by
    have h := cb_neg xs ys
    simp only [Lib.compareBytes]
    by_cases h1 : a < b
    · have h2 : ¬ b < a := by simp only [UInt8.lt_iff_toNat_lt] at *; omega
      simp [h1, h2]
    · by_cases h2 : b < a
      · simp [h1, h2]
      · simp [h1, h2, h]
theorem cb_zero : ∀ a b : List UInt8, Lib.compareBytes a b = 0 → a = b
  | [], [] => fun _ => rfl
  | [], _ :: _ => by simp [Lib.compareBytes]
  | _ :: _, [] => by simp [Lib.compareBytes]
  | a :: xs, b :: ys => by
    simp only [Lib.compareBytes]
    by_cases h1 : a < b
    · simp [h1]
    · by_cases h2 : b < a
      · simp [h1, h2]
      · simp only [h1, h2, if_false]
        intro h
        have e : a = b := UInt8.toNat_inj.1 (by simp only [UInt8.lt_iff_toNat_lt] at *; omega)
        rw [e, cb_zero xs ys h]
theorem cb_self : ∀ a : List UInt8, Lib.compareBytes a a = 0
  | [] => rfl
  | a :: xs => by simp [Lib.compareBytes, cb_self xs]
theorem cb_trans : ∀ a b c : List UInt8, Lib.compareBytes a b < 0 → Lib.compareBytes b c < 0 → Lib.compareBytes a c < 0
  | [], [], _ => by simp [Lib.compareBytes]
  | [], _ :: _, [] => by simp [Lib.compareBytes]
  | [], _ :: _, _ :: _ => by simp [Lib.compareBytes]
  | _ :: _, [], _ => by simp [Lib.compareBytes]
  | _ :: _, _ :: _, [] => by simp [Lib.compareBytes]
  | a :: xs, b :: ys, c :: zs => by
    have ih := cb_trans xs ys zs
    simp only [Lib.compareBytes, UInt8.lt_iff_toNat_lt]
    intro h1 h2
    split at h1 <;> split at h2
    · rw [if_pos (by omega)]; omega
    · split at h2
      · omega
      · rw [if_pos (by omega)]; omega
    · split at h1
      · omega
      · rw [if_pos (by omega)]; omega
    · split at h1
      · omega
      · split at h2
        · omega
        · rw [if_neg (by omega), if_neg (by omega)]; exact ih h1 h2

/-- By W, then H, then Cells. -/
def kcmp (W H : Int) (C : List UInt8) (W' H' : Int) (C' : List UInt8) : Int := orI (cmpI W W') (cmpI H H') (Lib.compareBytes C C')
theorem kcmp_neg (W H : Int) (C : List UInt8) (W' H' : Int) (C' : List UInt8) : kcmp W H C W' H' C' = - kcmp W' H' C' W H C := by
  have h := cb_neg C C'
  unfold kcmp orI cmpI
  rw [h]
  repeat' split
  all_goals omega
theorem kcmp_zero {W H : Int} {C : List UInt8} {W' H' : Int} {C' : List UInt8} (h : kcmp W H C W' H' C' = 0) : W = W' ∧ H = H' ∧ C = C' := by
  unfold kcmp orI cmpI at h
  by_cases h1 : W < W'
  · simp [h1] at h
  · by_cases h2 : W' < W
    · simp [h1, h2] at h
    · by_cases h3 : H < H'
      · simp [h1, h2, h3] at h
      · by_cases h4 : H' < H
        · simp [h1, h2, h3, h4] at h
        · simp [h1, h2, h3, h4] at h
          exact ⟨by omega, by omega, cb_zero _ _ h⟩
theorem kcmp_trans {W1 H1 W2 H2 W3 H3 : Int} {C1 C2 C3 : List UInt8} (h : kcmp W1 H1 C1 W2 H2 C2 < 0) (h' : kcmp W2 H2 C2 W3 H3 C3 < 0) : kcmp W1 H1 C1 W3 H3 C3 < 0 := by
  have ht := cb_trans C1 C2 C3
  unfold kcmp orI cmpI at *
  by_cases a1 : W1 < W2
  · by_cases b1 : W2 < W3
    · simp [show W1 < W3 by omega]
    · by_cases b2 : W3 < W2
      · simp [b1, b2] at h'
      · simp [show W1 < W3 by omega]
  · by_cases a2 : W2 < W1
    · simp [a1, a2] at h
    · obtain rfl : W1 = W2 := by omega
      by_cases b1 : W1 < W3
      · simp [b1]
      · by_cases b2 : W3 < W1
        · simp [b1, b2] at h'
        · simp only [b1, b2, a1, if_false, if_true] at h h' ⊢
          by_cases c1 : H1 < H2
          · by_cases d1 : H2 < H3
            · simp [show H1 < H3 by omega]
            · by_cases d2 : H3 < H2
              · simp [d1, d2] at h'
              · simp [show H1 < H3 by omega]
          · by_cases c2 : H2 < H1
            · simp [c1, c2] at h
            · obtain rfl : H1 = H2 := by omega
              by_cases d1 : H1 < H3
              · simp [d1]
              · by_cases d2 : H3 < H1
                · simp [d1, d2] at h'
                · simp only [d1, d2, c1, if_false, if_true] at h h' ⊢
                  exact ht h h'
end Go.Proofs.Ytbcedjjocpjkjaa
