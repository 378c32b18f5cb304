/-
  gamekeep.BoardGroup, walked: for every position and every two numbers it returns true; of what was there nothing has turned.
-/
import Derived.Test.YtbcedjjocpjkjaaW11
namespace Go.Proofs.Ytbcedjjocpjkjaa
open Go.RowKit

theorem Turned_no' (W H T k : Int) (C A B : ByteArray) (w : World) (hC : C.size ≤ maxLen) (hA : A.size ≤ maxLen) (hB : B.size ≤ maxLen) (h : posB W H C.data.toList T A.data.toList B.data.toList = false ∨ turnB k = false) :
    Calls Try.prog 14 #[.agg #[.int .i64 W, .int .i64 H, .string C, .int .i64 T, .string A, .string B], .int .i64 k] w fun e w' =>
      e = .returned (.tuple #[.agg #[.int .i64 0, .int .i64 0, .string ⟨#[]⟩, .int .i64 0, .string ⟨#[]⟩, .string ⟨#[]⟩], .int .i64 1]) ∧ Below w.heap.size w w' := Turned_no W H T k C A B w hC hA hB h
theorem Swapped_no' (W H T : Int) (C A B : ByteArray) (w : World) (hC : C.size ≤ maxLen) (hA : A.size ≤ maxLen) (hB : B.size ≤ maxLen) (h : posB W H C.data.toList T A.data.toList B.data.toList = false) :
    Calls Try.prog 15 #[.agg #[.int .i64 W, .int .i64 H, .string C, .int .i64 T, .string A, .string B]] w fun e w' =>
      e = .returned (.tuple #[.agg #[.int .i64 0, .int .i64 0, .string ⟨#[]⟩, .int .i64 0, .string ⟨#[]⟩, .string ⟨#[]⟩], .int .i64 1]) ∧ Below w.heap.size w w' := Swapped_no W H T C A B w hC hA hB h

theorem Swapped_back {W H : Nat} {T : Int} {C A B : ByteArray} (w : World) (p : IsPos W H C T A B) :
    Calls Try.prog 15 #[.agg #[.int .i64 W, .int .i64 H, .string (sstr C W H), .int .i64 (1 - T), .string B, .string A]] w fun e w' =>
      e = .returned (.tuple #[.agg #[.int .i64 W, .int .i64 H, .string C, .int .i64 T, .string A, .string B], .int .i64 0]) ∧ Below w.heap.size w w' := by
  have h := Swapped_ok w p.swapped
  rw [sstr_twice p, show (1 : Int) - (1 - T) = T by omega] at h
  exact h

theorem Turned_mul {W H : Nat} {T : Int} {C A B : ByteArray} (a b : Nat) (ha : a < 8) (hb : b < 8) (w : World) (p : IsPos W H C T A B) :
    Calls Try.prog 14 #[.agg #[.int .i64 W, .int .i64 H, .string C, .int .i64 T, .string A, .string B], .int .i64 (cmulK a b : Nat)] w fun e w' =>
      e = .returned (.tuple #[.agg #[.int .i64 (twd (twd W H a) (thd W H a) b : Nat), .int .i64 (thd (twd W H a) (thd W H a) b : Nat), .string (tstr (tstr C W H a) (twd W H a) (thd W H a) b), .int .i64 T, .string A, .string B], .int .i64 0]) ∧ Below w.heap.size w w' := by
  rw [twd_mul a ha b hb, thd_mul a ha b hb, tstr_mul C W H a b ha hb]
  exact Turned_ok w (cmulK_lt a ha b hb) p

def allVals : Array Value := #[.int .i64 0, .int .i64 1, .int .i64 2, .int .i64 3, .int .i64 4, .int .i64 5, .int .i64 6, .int .i64 7]
def isAll (w : World) (g : Nat) : Prop := w.heap[g]? = some (.cells allVals 3 (0, 0))
theorem isAll.below {w w1 : World} {g : Nat} (h : isAll w g) {B : Nat} (hb : Below B w w1) (hB : g < B) : isAll w1 g := by
  unfold isAll; rw [hb.block g hB]; exact h
theorem isAll.lt {w : World} {g : Nat} (h : isAll w g) : g < w.heap.size := by
  rcases Nat.lt_or_ge g w.heap.size with hlt | hge
  · exact hlt
  · unfold isAll at h; rw [Array.getElem?_eq_none hge] at h; cases h
theorem Least_all {W H : Nat} {T : Int} {C A B : ByteArray} (g : Nat) (w : World) (p : IsPos W H C T A B) (h : isAll w g) :
    Calls Try.prog 16 #[.agg #[.int .i64 W, .int .i64 H, .string C, .int .i64 T, .string A, .string B], .slice (some ⟨g, 0, none⟩) 8 8] w fun e w' =>
      e = .returned (.tuple #[.agg #[.int .i64 (twd W H (bestK C W H 0 allK) : Nat), .int .i64 (thd W H (bestK C W H 0 allK) : Nat), .string (tstr C W H (bestK C W H 0 allK)), .int .i64 T, .string A, .string B], .int .i64 (bestK C W H 0 allK : Nat), .int .i64 0]) ∧ Below w.heap.size w w' := by
  refine Least_ok g 0 8 allK w p (by unfold maxLen; decide) (by decide) (fun n hn => lt_allK hn) h.lt fun j hj => ?_
  rw [cell_of_row w g (0 + j) _ _ _ h]
  have : ∀ j : Nat, (hj : j < allK.length) → allVals[0 + j]? = some (.int .i64 (allK[j] : Int)) := by
    intro j hj
    have hj' : j < 8 := hj
    obtain rfl | rfl | rfl | rfl | rfl | rfl | rfl | rfl : j = 0 ∨ j = 1 ∨ j = 2 ∨ j = 3 ∨ j = 4 ∨ j = 5 ∨ j = 6 ∨ j = 7 := by omega
    all_goals rfl
  exact this j hj
theorem Least_again {W H : Nat} {T : Int} {C A B : ByteArray} (g a : Nat) (ha : a < 8) (w : World) (p : IsPos W H C T A B) (h : isAll w g) :
    Calls Try.prog 16 #[.agg #[.int .i64 (twd W H a : Nat), .int .i64 (thd W H a : Nat), .string (tstr C W H a), .int .i64 T, .string A, .string B], .slice (some ⟨g, 0, none⟩) 8 8] w fun e w' =>
      ∃ n : Nat, e = .returned (.tuple #[.agg #[.int .i64 (twd W H (bestK C W H 0 allK) : Nat), .int .i64 (thd W H (bestK C W H 0 allK) : Nat), .string (tstr C W H (bestK C W H 0 allK)), .int .i64 T, .string A, .string B], .int .i64 (n : Int), .int .i64 0]) ∧ Below w.heap.size w w' := by
  obtain ⟨h1, h2, h3⟩ := least_same C W H a ha
  have h' := Least_all g w (p.turned a) h
  rw [h1, h2, h3] at h'
  exact h'.mono fun e w' ⟨x, y⟩ => ⟨_, x, y⟩

theorem isBox.cells' {w : World} {g : Nat} {v0 v1 v2 v3 v4 v5 : Value} (h : isBox w g v0 v1 v2 v3 v4 v5) :
    (∀ o, (w.alloc o).cell? ⟨g, 0, none⟩ = some v0) ∧ (∀ o, (w.alloc o).cell? ⟨g, 1, none⟩ = some v1) ∧ (∀ o, (w.alloc o).cell? ⟨g, 2, none⟩ = some v2) ∧ (∀ o, (w.alloc o).cell? ⟨g, 3, none⟩ = some v3) ∧ (∀ o, (w.alloc o).cell? ⟨g, 4, none⟩ = some v4) ∧ (∀ o, (w.alloc o).cell? ⟨g, 5, none⟩ = some v5) := by
  have hb := fun o => (h.below ((Below.refl w.heap.size w).alloc (Nat.le_refl _) o) h.lt).cells
  exact ⟨fun o => (hb o).1, fun o => (hb o).2.1, fun o => (hb o).2.2.1, fun o => (hb o).2.2.2.1, fun o => (hb o).2.2.2.2.1, fun o => (hb o).2.2.2.2.2⟩
/-- A box that was there, behind a new block and a call. -/
theorem isBox.on {w w1 : World} {g : Nat} {v0 v1 v2 v3 v4 v5 : Value} (h : isBox w g v0 v1 v2 v3 v4 v5) {o : Obj} (hb : Below (w.alloc o).heap.size (w.alloc o) w1) : isBox w1 g v0 v1 v2 v3 v4 v5 :=
  (h.below ((Below.refl w.heap.size w).alloc (Nat.le_refl _) o) h.lt).below hb (Nat.lt_trans h.lt (lt_alloc w o))
theorem isBox.fresh {w w1 : World} {v0 v1 v2 v3 v4 v5 : Value} (hb : Below (w.alloc (.cells #[v0, v1, v2, v3, v4, v5] 24)).heap.size (w.alloc (.cells #[v0, v1, v2, v3, v4, v5] 24)) w1) : isBox w1 w.heap.size v0 v1 v2 v3 v4 v5 :=
  (isBox_new w _ _ _ _ _ _).below hb (lt_alloc w _)
theorem below_on {B : Nat} {w0 w w1 : World} {o : Obj} (h : Below B w0 w) (hB : B ≤ w.heap.size) (hb : Below (w.alloc o).heap.size (w.alloc o) w1) : Below B w0 w1 :=
  (h.alloc hB o).trans (hb.mono (Nat.le_trans hB (Nat.le_of_lt (lt_alloc w o))))

theorem isBox.cells2 {w : World} {g : Nat} {v0 v1 v2 v3 v4 v5 : Value} (h : isBox w g v0 v1 v2 v3 v4 v5) :
    (∀ o o', ((w.alloc o).alloc o').cell? ⟨g, 0, none⟩ = some v0) ∧ (∀ o o', ((w.alloc o).alloc o').cell? ⟨g, 1, none⟩ = some v1) ∧ (∀ o o', ((w.alloc o).alloc o').cell? ⟨g, 2, none⟩ = some v2) ∧ (∀ o o', ((w.alloc o).alloc o').cell? ⟨g, 3, none⟩ = some v3) ∧ (∀ o o', ((w.alloc o).alloc o').cell? ⟨g, 4, none⟩ = some v4) ∧ (∀ o o', ((w.alloc o).alloc o').cell? ⟨g, 5, none⟩ = some v5) := by
  have hb := fun o => (h.below ((Below.refl w.heap.size w).alloc (Nat.le_refl _) o) h.lt).cells'
  exact ⟨fun o => (hb o).1, fun o => (hb o).2.1, fun o => (hb o).2.2.1, fun o => (hb o).2.2.2.1, fun o => (hb o).2.2.2.2.1, fun o => (hb o).2.2.2.2.2⟩
theorem isBox.on2 {w w1 : World} {g : Nat} {v0 v1 v2 v3 v4 v5 : Value} (h : isBox w g v0 v1 v2 v3 v4 v5) {o o' : Obj} (hb : Below ((w.alloc o).alloc o').heap.size ((w.alloc o).alloc o') w1) : isBox w1 g v0 v1 v2 v3 v4 v5 :=
  (h.below ((Below.refl w.heap.size w).alloc (Nat.le_refl _) o) h.lt).on hb
theorem below_on2 {B : Nat} {w0 w w1 : World} {o o' : Obj} (h : Below B w0 w) (hB : B ≤ w.heap.size) (hb : Below ((w.alloc o).alloc o').heap.size ((w.alloc o).alloc o') w1) : Below B w0 w1 :=
  below_on (h.alloc hB o) (Nat.le_trans hB (Nat.le_of_lt (lt_alloc w o))) hb
theorem isAll_new (w : World) (o : Obj) : isAll ((w.alloc o).alloc (.cells allVals 3)) (w.heap.size + 1) := by
  have h := heap_alloc_new (w.alloc o) (.cells allVals 3)
  have e : (w.alloc o).heap.size = w.heap.size + 1 := by simp
  rw [e] at h
  exact h

theorem cm_hi : ∀ a : Nat, a < 8 → ∀ b : Nat, b < 8 → 0 < bits .and .i64 (b : Int) 4 →
    bits .xor .i64 (bits .or .i64 (bits .and .i64 (bits .xor .i64 (a : Int) (b : Int)) 4) (bits .or .i64 (wrap64 (bits .and .i64 (a : Int) 1 * 2)) (wrap64 ((bits .and .i64 (a : Int) 2).tdiv 2)))) (bits .and .i64 (b : Int) 3) = ((cmulK a b : Nat) : Int) := by decide +kernel
theorem cm_lo : ∀ a : Nat, a < 8 → ∀ b : Nat, b < 8 → bits .and .i64 (b : Int) 4 ≤ 0 → bits .xor .i64 (a : Int) (b : Int) = ((cmulK a b : Nat) : Int) := by decide +kernel

set_option maxHeartbeats 4000000 in
set_option maxRecDepth 100000 in
theorem group_ok {W H : Nat} {T : Int} {C A B : ByteArray} (a b : Nat) (w : World) (p : IsPos W H C T A B) (ha : a < 8) (hb : b < 8) :
    Calls Try.prog 6 #[.agg #[.int .i64 W, .int .i64 H, .string C, .int .i64 T, .string A, .string B], .int .i64 a, .int .i64 b] w fun e w' => e = .returned (.bool true) ∧ Below w.heap.size w w' := by
  have heq := fun w => (eqPos w W H T W H T C A B C A B)
  simp only [samePos_refl] at heq
  go_enter Try.func6, Try.ntmps6
  go_wp2_with fail
  refine (Turned_ok _ ha p).mono ?_
  rintro e w1 ⟨rfl, hb1⟩
  have bp1 := isBox.fresh hb1
  have hw1 : Below w.heap.size w w1 := below_on (Below.refl _ _) (Nat.le_refl _) hb1
  clear hb1
  go_wp2_with fail
  refine (Turned_ok _ hb (p.turned a)).mono ?_
  rintro e w2 ⟨rfl, hb2⟩
  have bp2 := bp1.on hb2
  have bx2 := isBox.fresh hb2
  have hw2 := below_on hw1 hw1.size hb2
  clear hb2 bp1
  obtain ⟨d0, d1, d2, d3, d4, d5⟩ := bp2.cells'
  go_wp2_with fail
  refine (Swapped_ok _ p).mono ?_
  rintro e w3 ⟨rfl, hb3⟩
  have bp3 := bp2.on hb3
  have bx3 := bx2.on hb3
  have by3 := isBox.fresh hb3
  have hw3 := below_on hw2 hw2.size hb3
  clear hb3 bp2 bx2 d0 d1 d2 d3 d4 d5
  go_wp2_with fail
  refine (Swapped_back _ p).mono ?_
  rintro e w4 ⟨rfl, hb4⟩
  have bp4 := bp3.on hb4
  have bx4 := bx3.on hb4
  have by4 := by3.on hb4
  have hw4 := below_on hw3 hw3.size hb4
  clear hb4 bp3 bx3 by3
  obtain ⟨d0, d1, d2, d3, d4, d5⟩ := bp4.cells'
  go_wp2_with fail
  all_goals first | rw [cm_hi a ha b hb (by assumption)] | rw [cm_lo a ha b hb (by assumption)]
  all_goals
    refine (Turned_mul a b ha hb _ p).mono ?_
    rintro e w5 ⟨rfl, hb5⟩
    have bp5 := bp4.on hb5
    have bx5 := bx4.on hb5
    have by5 := by4.on hb5
    have hw5 := below_on hw4 hw4.size hb5
    clear hb5 bp4 bx4 by4 d0 d1 d2 d3 d4 d5
    have heq2 := fun w => (eqPos w (twd (twd W H a) (thd W H a) b : Nat) (thd (twd W H a) (thd W H a) b : Nat) T (twd (twd W H a) (thd W H a) b : Nat) (thd (twd W H a) (thd W H a) b : Nat) T (tstr (tstr C W H a) (twd W H a) (thd W H a) b) A B (tstr (tstr C W H a) (twd W H a) (thd W H a) b) A B)
    simp only [samePos_refl] at heq2
    obtain ⟨d0, d1, d2, d3, d4, d5⟩ := by5.cells'
    obtain ⟨q0, q1, q2, q3, q4, q5⟩ := bp5.cells2
    go_wp2_with fail
    refine (Least_all (w5.heap.size + 1) _ p (isAll_new w5 _)).mono ?_
    rintro e w6 ⟨rfl, hb6⟩
    have bx6 := bx5.on2 hb6
    have ba6 : isAll w6 (w5.heap.size + 1) := (isAll_new w5 _).below hb6 (by simp [allVals])
    have hw6 := below_on2 hw5 hw5.size hb6
    clear hb6 bp5 bx5 by5 d0 d1 d2 d3 d4 d5 q0 q1 q2 q3 q4 q5 heq heq2
    obtain ⟨d0, d1, d2, d3, d4, d5⟩ := bx6.cells'
    have heq3 := fun w => (eqPos w (twd W H (bestK C W H 0 allK) : Nat) (thd W H (bestK C W H 0 allK) : Nat) T (twd W H (bestK C W H 0 allK) : Nat) (thd W H (bestK C W H 0 allK) : Nat) T (tstr C W H (bestK C W H 0 allK)) A B (tstr C W H (bestK C W H 0 allK)) A B)
    simp only [samePos_refl] at heq3
    go_wp2_with fail
    refine (Least_again (w5.heap.size + 1) a ha _ p (ba6.below ((Below.refl w6.heap.size w6).alloc (Nat.le_refl _) _) ba6.lt)).mono ?_
    rintro e w7 ⟨n7, rfl, hb7⟩
    have bu7 := isBox.fresh hb7
    have hw7 := below_on hw6 hw6.size hb7
    clear hb7 bx6 ba6 d0 d1 d2 d3 d4 d5
    obtain ⟨d0, d1, d2, d3, d4, d5⟩ := bu7.cells'
    go_wp2
    go_ret
    exact ⟨ret_bool (by simp), hw7.alloc hw7.size _⟩

set_option maxHeartbeats 4000000 in
set_option maxRecDepth 100000 in
/-- No position, or no turn a: the first call says ErrArg. -/
theorem group_no (W H T a b : Int) (C A B : ByteArray) (w : World) (hC : C.size ≤ maxLen) (hA : A.size ≤ maxLen) (hB : B.size ≤ maxLen) (h : posB W H C.data.toList T A.data.toList B.data.toList = false ∨ turnB a = false) :
    Calls Try.prog 6 #[.agg #[.int .i64 W, .int .i64 H, .string C, .int .i64 T, .string A, .string B], .int .i64 a, .int .i64 b] w fun e w' => e = .returned (.bool true) ∧ Below w.heap.size w w' := by
  have HH := hide h
  clear h
  go_enter Try.func6, Try.ntmps6
  go_wp2_with fail
  refine (Turned_no' _ _ _ _ _ _ _ _ hC hA hB (unhide HH)).mono ?_
  rintro e w1 ⟨rfl, hb1⟩
  have bp1 := isBox.fresh hb1
  have hw1 : Below w.heap.size w w1 := below_on (Below.refl _ _) (Nat.le_refl _) hb1
  clear hb1
  go_wp2_with fail
  refine (Turned_no' _ _ _ _ _ _ _ _ (Nat.zero_le _) (Nat.zero_le _) (Nat.zero_le _) (.inl (by decide))).mono ?_
  rintro e w2 ⟨rfl, hb2⟩
  have bp2 := bp1.on hb2
  have hw2 := below_on hw1 hw1.size hb2
  clear hb2 bp1
  obtain ⟨d0, d1, d2, d3, d4, d5⟩ := bp2.cells'
  cases hp : posB W H C.data.toList T A.data.toList B.data.toList with
  | false =>
    have HP := hide hp
    clear hp
    go_wp2_with fail
    refine (Swapped_no' _ _ _ _ _ _ _ hC hA hB (unhide HP)).mono ?_
    rintro e w3 ⟨rfl, hb3⟩
    have hw3 := below_on hw2 hw2.size hb3
    clear hb3 d0 d1 d2 d3 d4 d5
    go_wp2
    go_ret
    exact ⟨ret_bool (by simp), hw3.alloc hw3.size _⟩
  | true =>
    obtain ⟨W', H', rfl, rfl, p⟩ := isPos_of hp
    clear hp
    go_wp2_with fail
    refine (Swapped_ok _ p).mono ?_
    rintro e w3 ⟨rfl, hb3⟩
    have hw3 := below_on hw2 hw2.size hb3
    clear hb3 d0 d1 d2 d3 d4 d5
    go_wp2
    go_ret
    exact ⟨ret_bool (by simp), hw3.alloc hw3.size _⟩

set_option maxHeartbeats 4000000 in
set_option maxRecDepth 100000 in
/-- A position, turned; b is no turn. -/
theorem group_half {W H : Nat} {T : Int} {C A B : ByteArray} (a : Nat) (b : Int) (w : World) (p : IsPos W H C T A B) (ha : a < 8) (hb : turnB b = false) :
    Calls Try.prog 6 #[.agg #[.int .i64 W, .int .i64 H, .string C, .int .i64 T, .string A, .string B], .int .i64 a, .int .i64 b] w fun e w' => e = .returned (.bool true) ∧ Below w.heap.size w w' := by
  have pa := p.turned a
  have mC : (tstr C W H a).size ≤ maxLen := by have := pa.c64; unfold maxLen; omega
  have mA : A.size ≤ maxLen := by have := p.as; unfold maxLen; omega
  have mB : B.size ≤ maxLen := by have := p.bs; unfold maxLen; omega
  have HB := hide hb
  clear hb pa
  go_enter Try.func6, Try.ntmps6
  go_wp2_with fail
  refine (Turned_ok _ ha p).mono ?_
  rintro e w1 ⟨rfl, hb1⟩
  have bp1 := isBox.fresh hb1
  have hw1 : Below w.heap.size w w1 := below_on (Below.refl _ _) (Nat.le_refl _) hb1
  clear hb1
  go_wp2_with fail
  refine (Turned_no' _ _ _ _ _ _ _ _ mC mA mB (.inr (unhide HB))).mono ?_
  rintro e w2 ⟨rfl, hb2⟩
  have bp2 := bp1.on hb2
  have hw2 := below_on hw1 hw1.size hb2
  clear hb2 bp1
  obtain ⟨d0, d1, d2, d3, d4, d5⟩ := bp2.cells'
  go_wp2_with fail
  refine (Swapped_ok _ p).mono ?_
  rintro e w3 ⟨rfl, hb3⟩
  have hw3 := below_on hw2 hw2.size hb3
  clear hb3 d0 d1 d2 d3 d4 d5
  have hbb : b < 0 ∨ 7 < b := by
    have := unhide HB
    simp only [turnB, Bool.and_eq_false_iff, decide_eq_false_iff_not] at this
    omega
  rcases hbb with hbb | hbb
  · go_wp2
    go_ret
    exact ⟨ret_bool (by simp), hw3.alloc hw3.size _⟩
  · go_wp2
    go_ret
    exact ⟨ret_bool (by simp), hw3.alloc hw3.size _⟩

theorem group_any (W H T a b : Int) (C A B : ByteArray) (w : World) (hC : C.size ≤ maxLen) (hA : A.size ≤ maxLen) (hB : B.size ≤ maxLen) :
    Calls Try.prog 6 #[.agg #[.int .i64 W, .int .i64 H, .string C, .int .i64 T, .string A, .string B], .int .i64 a, .int .i64 b] w fun e w' => e = .returned (.bool true) ∧ Below w.heap.size w w' := by
  cases hp : posB W H C.data.toList T A.data.toList B.data.toList with
  | false => exact group_no W H T a b C A B w hC hA hB (.inl hp)
  | true =>
    cases ha : turnB a with
    | false => exact group_no W H T a b C A B w hC hA hB (.inr ha)
    | true =>
      obtain ⟨W', H', rfl, rfl, p⟩ := isPos_of hp
      simp only [turnB, Bool.and_eq_true, decide_eq_true_eq] at ha
      obtain ⟨a', rfl⟩ := Int.eq_ofNat_of_zero_le ha.1
      cases hb : turnB b with
      | false => exact group_half a' b w p (by omega) hb
      | true =>
        simp only [turnB, Bool.and_eq_true, decide_eq_true_eq] at hb
        obtain ⟨b', rfl⟩ := Int.eq_ofNat_of_zero_le hb.1
        exact group_ok a' b' w p (by omega) (by omega)
end Go.Proofs.Ytbcedjjocpjkjaa
