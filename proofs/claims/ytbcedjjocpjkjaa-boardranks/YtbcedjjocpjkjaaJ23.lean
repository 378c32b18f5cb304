/-
  board.Unrank, walked: the Cells of the kind that have n / 2 less ones, and Turn n % 2; ErrRange, ErrLarge, ErrArg.
  Plain mathematics of ranks, by taking one byte out, no program.
-/
import Derived.Test.YtbcedjjocpjkjaaW33
import Derived.Test.YtbcedjjocpjkjaaJ14
import Derived.Lib.IndexLaws
namespace Go.Proofs.Ytbcedjjocpjkjaa
open Go.RowKit

/-- The cells that board.Unrank answers. -/
def ustr (C : ByteArray) (n : Nat) : ByteArray := ⟨(unF C.size (cntF C.data.toList) n).toArray⟩

set_option maxHeartbeats 400000 in
set_option maxRecDepth 100000 in
theorem Unrank_ok {W H : Nat} {T : Int} {C A B : ByteArray} (n q r : Nat) (w : World) (p : IsPos W H C T A B) (hcb : countB C.data.toList = true) (hnq : n = 2 * q + r) (hr1 : r < 2) (hqn : q < arrL C.data.toList) :
    Calls Try.prog 11 #[.agg #[.int .i64 W, .int .i64 H, .string C, .int .i64 T, .string A, .string B], .int .i64 n] w fun e w' =>
      e = .returned (.tuple #[.agg #[.int .i64 W, .int .i64 H, .string (ustr C q), .int .i64 (r : Int), .string A, .string B], .int .i64 0]) ∧ Below w.heap.size w w' := by
  have h64 := p.c64
  have hA := p.as
  have hB := p.bs
  have hbig := countB_le hcb
  have HV : Hid (cntV C.data.toList = arrL C.data.toList) := by simp [Hid, cntV, hcb]
  have HE : Hid (cntE C.data.toList = 0) := by simp [Hid, cntE, hcb]
  have hpos : 0 < C.size := by rw [p.c]; exact Nat.mul_pos p.w0 p.h0
  have hdot : ∀ x ∈ C.data.toList, 46 ≤ x.toNat := by
    intro x hx
    have h1 := p.cs
    rw [cellsB, List.all_eq_true] at h1
    have h2 := h1 x hx
    simp [cellB, capB] at h2
    omega
  have HN : Hid (∀ w : World, Calls Try.prog 33 #[.string C, .int .i64 ((arrL C.data.toList : Nat) : Int), .int .i64 (q : Int)] w fun e w' => e = .returned (.string (ustr C q)) ∧ Below w.heap.size w w') :=
    fun w => nthCells_any C q w h64 hpos hdot hbig hqn
  clear hcb hdot
  unfold big60 at hbig
  go_enter Try.func11, Try.ntmps11
  go_wp2_with fail
  refine (Count_pos _ p).mono ?_
  rintro e w1 ⟨rfl, hb1⟩
  rw [unhide HV, unhide HE]
  have hs1 : w.heap.size + 1 < w1.heap.size := by have := hb1.size; simp at this; omega
  obtain ⟨hc1, hf1⟩ := bcell hb1
  have d0 : w1.cell? ⟨w.heap.size, 0, none⟩ = some (.int .i64 W) := (hc1 w.heap.size 0 (by simp; omega)).trans (by simp)
  have d1 : w1.cell? ⟨w.heap.size, 1, none⟩ = some (.int .i64 H) := (hc1 w.heap.size 1 (by simp; omega)).trans (by simp)
  have d2 : w1.cell? ⟨w.heap.size, 2, none⟩ = some (.string C) := (hc1 w.heap.size 2 (by simp; omega)).trans (by simp)
  have d3 : w1.cell? ⟨w.heap.size, 3, none⟩ = some (.int .i64 T) := (hc1 w.heap.size 3 (by simp; omega)).trans (by simp)
  have d4 : w1.cell? ⟨w.heap.size, 4, none⟩ = some (.string A) := (hc1 w.heap.size 4 (by simp; omega)).trans (by simp)
  have d5 : w1.cell? ⟨w.heap.size, 5, none⟩ = some (.string B) := (hc1 w.heap.size 5 (by simp; omega)).trans (by simp)
  obtain ⟨u_0, r0⟩ : ∃ u, w1.cell? ⟨w.heap.size + 1, 0, none⟩ = some u := ⟨_, (hc1 (w.heap.size + 1) 0 (by simp)).trans (by simp; rfl)⟩
  have f0 : w1.frozen? ⟨w.heap.size + 1, 0, none⟩ = false := (hf1 (w.heap.size + 1) 0 (by simp)).trans (by simp)
  obtain ⟨u_1, r1⟩ : ∃ u, w1.cell? ⟨w.heap.size + 1, 1, none⟩ = some u := ⟨_, (hc1 (w.heap.size + 1) 1 (by simp)).trans (by simp; rfl)⟩
  have f1 : w1.frozen? ⟨w.heap.size + 1, 1, none⟩ = false := (hf1 (w.heap.size + 1) 1 (by simp)).trans (by simp)
  obtain ⟨u_2, r2⟩ : ∃ u, w1.cell? ⟨w.heap.size + 1, 2, none⟩ = some u := ⟨_, (hc1 (w.heap.size + 1) 2 (by simp)).trans (by simp; rfl)⟩
  have f2 : w1.frozen? ⟨w.heap.size + 1, 2, none⟩ = false := (hf1 (w.heap.size + 1) 2 (by simp)).trans (by simp)
  obtain ⟨u_3, r3⟩ : ∃ u, w1.cell? ⟨w.heap.size + 1, 3, none⟩ = some u := ⟨_, (hc1 (w.heap.size + 1) 3 (by simp)).trans (by simp; rfl)⟩
  have f3 : w1.frozen? ⟨w.heap.size + 1, 3, none⟩ = false := (hf1 (w.heap.size + 1) 3 (by simp)).trans (by simp)
  obtain ⟨u_4, r4⟩ : ∃ u, w1.cell? ⟨w.heap.size + 1, 4, none⟩ = some u := ⟨_, (hc1 (w.heap.size + 1) 4 (by simp)).trans (by simp; rfl)⟩
  have f4 : w1.frozen? ⟨w.heap.size + 1, 4, none⟩ = false := (hf1 (w.heap.size + 1) 4 (by simp)).trans (by simp)
  obtain ⟨u_5, r5⟩ : ∃ u, w1.cell? ⟨w.heap.size + 1, 5, none⟩ = some u := ⟨_, (hc1 (w.heap.size + 1) 5 (by simp)).trans (by simp; rfl)⟩
  have f5 : w1.frozen? ⟨w.heap.size + 1, 5, none⟩ = false := (hf1 (w.heap.size + 1) 5 (by simp)).trans (by simp)
  clear hc1 hf1
  generalize arrL C.data.toList = t at HN hqn hbig ⊢
  have hni : (n : Int) < 2 * (t : Int) := by omega
  have hdv : (n : Int) / 2 = (q : Int) := by omega
  have hmd : (n : Int) % 2 = (r : Int) := by omega
  have htm : (n : Int).tmod 2 = (r : Int) := by rw [Int.tmod_eq_emod_of_nonneg (by omega)]; omega
  have hnb : n < 2305843009213693952 := by omega
  have wq : IntKind.i64.wrap (q : Int) = (q : Int) := by unfold IntKind.wrap; simp [IntKind.signed, IntKind.bits]; omega
  have wr : IntKind.i64.wrap (r : Int) = (r : Int) := by unfold IntKind.wrap; simp [IntKind.signed, IntKind.bits]; omega
  clear hnq
  go_wp2_with fail
  go_region_held3 (fun w' => w'.cell? ⟨w.heap.size, 0, none⟩ = some (.int .i64 W) ∧ w'.cell? ⟨w.heap.size, 1, none⟩ = some (.int .i64 H) ∧ w'.cell? ⟨w.heap.size, 2, none⟩ = some (.string C) ∧ w'.cell? ⟨w.heap.size, 4, none⟩ = some (.string A) ∧ w'.cell? ⟨w.heap.size, 5, none⟩ = some (.string B))
    (first
      | (go_keep; done)
      | ((try go_split_ands); (try dsimp only); (repeat' apply And.intro) <;> first
           | (go_keep; done)
           | (rw [hbn.cell (by dsimp only [World.drew]; omega)]; assumption)
           | (rw [hbc.cell (by dsimp only [World.drew]; omega)]; assumption)
           | (rw [hbc.cell (by dsimp only [World.drew]; omega), hbn.cell (by dsimp only [World.drew]; omega)]; assumption)))
    (first
      | (go_at_call 33; refine (unhide HN _).mono ?_; rintro e wn ⟨rfl, hbn⟩; have hsn : w1.heap.size ≤ wn.heap.size := hbn.size)
      | (go_at_call 34; refine (copied_any A B _ hA hB).mono ?_; rintro e wc ⟨rfl, hbc⟩; have hsc : wn.heap.size ≤ wc.heap.size := hbc.size; have q0 := (hbc.cell (p := ⟨w.heap.size + 1, 0, none⟩) (by dsimp only [World.drew]; omega)).trans ((hbn.cell (p := ⟨w.heap.size + 1, 0, none⟩) (by dsimp only [World.drew]; omega)).trans r0); have z0 := (hbc.frozen (p := ⟨w.heap.size + 1, 0, none⟩) (by dsimp only [World.drew]; omega)).trans ((hbn.frozen (p := ⟨w.heap.size + 1, 0, none⟩) (by dsimp only [World.drew]; omega)).trans f0); have q1 := (hbc.cell (p := ⟨w.heap.size + 1, 1, none⟩) (by dsimp only [World.drew]; omega)).trans ((hbn.cell (p := ⟨w.heap.size + 1, 1, none⟩) (by dsimp only [World.drew]; omega)).trans r1); have z1 := (hbc.frozen (p := ⟨w.heap.size + 1, 1, none⟩) (by dsimp only [World.drew]; omega)).trans ((hbn.frozen (p := ⟨w.heap.size + 1, 1, none⟩) (by dsimp only [World.drew]; omega)).trans f1); have q2 := (hbc.cell (p := ⟨w.heap.size + 1, 2, none⟩) (by dsimp only [World.drew]; omega)).trans ((hbn.cell (p := ⟨w.heap.size + 1, 2, none⟩) (by dsimp only [World.drew]; omega)).trans r2); have z2 := (hbc.frozen (p := ⟨w.heap.size + 1, 2, none⟩) (by dsimp only [World.drew]; omega)).trans ((hbn.frozen (p := ⟨w.heap.size + 1, 2, none⟩) (by dsimp only [World.drew]; omega)).trans f2); have q3 := (hbc.cell (p := ⟨w.heap.size + 1, 3, none⟩) (by dsimp only [World.drew]; omega)).trans ((hbn.cell (p := ⟨w.heap.size + 1, 3, none⟩) (by dsimp only [World.drew]; omega)).trans r3); have z3 := (hbc.frozen (p := ⟨w.heap.size + 1, 3, none⟩) (by dsimp only [World.drew]; omega)).trans ((hbn.frozen (p := ⟨w.heap.size + 1, 3, none⟩) (by dsimp only [World.drew]; omega)).trans f3); have q4 := (hbc.cell (p := ⟨w.heap.size + 1, 4, none⟩) (by dsimp only [World.drew]; omega)).trans ((hbn.cell (p := ⟨w.heap.size + 1, 4, none⟩) (by dsimp only [World.drew]; omega)).trans r4); have z4 := (hbc.frozen (p := ⟨w.heap.size + 1, 4, none⟩) (by dsimp only [World.drew]; omega)).trans ((hbn.frozen (p := ⟨w.heap.size + 1, 4, none⟩) (by dsimp only [World.drew]; omega)).trans f4); have q5 := (hbc.cell (p := ⟨w.heap.size + 1, 5, none⟩) (by dsimp only [World.drew]; omega)).trans ((hbn.cell (p := ⟨w.heap.size + 1, 5, none⟩) (by dsimp only [World.drew]; omega)).trans r5); have z5 := (hbc.frozen (p := ⟨w.heap.size + 1, 5, none⟩) (by dsimp only [World.drew]; omega)).trans ((hbn.frozen (p := ⟨w.heap.size + 1, 5, none⟩) (by dsimp only [World.drew]; omega)).trans f5)))
  go_wp2
  refine bodyPost_ret (v := .tuple #[.agg #[.int .i64 W, .int .i64 H, .string (ustr C q), .int .i64 (r : Int), .string A, .string B], .int .i64 0]) (by simp [results, Try.results11, go_sem, q0, q1, q2, q3, q4, q5]) rfl ⟨rfl, ?_⟩
  have hw1 : Below w.heap.size w w1 := Below.trans (((Below.refl _ _).alloc (Nat.le_refl _) _).alloc (by simp) _) (hb1.mono (by simp; omega))
  exact below_set6 (by omega) ((hw1.drew.trans (hbn.mono (by dsimp only [World.drew]; omega))).trans (hbc.mono (by omega)))

set_option maxHeartbeats 400000 in
theorem Unrank_range {W H : Nat} {T n : Int} {C A B : ByteArray} (w : World) (p : IsPos W H C T A B) (hcb : countB C.data.toList = true) (hn : n < 0 ∨ 2 * ((arrL C.data.toList : Nat) : Int) ≤ n) :
    Calls Try.prog 11 #[.agg #[.int .i64 W, .int .i64 H, .string C, .int .i64 T, .string A, .string B], .int .i64 n] w fun e w' =>
      e = .returned (.tuple #[zeroPos, .int .i64 4]) ∧ Below w.heap.size w w' := by
  have hbig := countB_le hcb
  have HV : Hid (cntV C.data.toList = arrL C.data.toList) := by simp [Hid, cntV, hcb]
  have HE : Hid (cntE C.data.toList = 0) := by simp [Hid, cntE, hcb]
  clear hcb
  unfold big60 at hbig
  go_enter Try.func11, Try.ntmps11
  go_wp2_with fail
  refine (Count_pos _ p).mono ?_
  rintro e w1 ⟨rfl, hb1⟩
  rw [unhide HV, unhide HE]
  obtain ⟨hc1, hf1⟩ := bcell hb1
  generalize arrL C.data.toList = t at hn hbig ⊢
  rcases Int.lt_or_le n 0 with h0 | h0
  · go_wp2
    refine bodyPost_ret (v := .tuple #[zeroPos, .int .i64 4]) (by simp [results, Try.results11, go_sem, hc1, zeroPos]) rfl ⟨rfl, ?_⟩
    exact below_set6 (by omega) (Below.trans (((Below.refl _ _).alloc (Nat.le_refl _) _).alloc (by simp) _) (hb1.mono (by simp; omega)))
  · have h1 : 2 * (t : Int) ≤ n := by omega
    go_wp2
    refine bodyPost_ret (v := .tuple #[zeroPos, .int .i64 4]) (by simp [results, Try.results11, go_sem, hc1, zeroPos]) rfl ⟨rfl, ?_⟩
    exact below_set6 (by omega) (Below.trans (((Below.refl _ _).alloc (Nat.le_refl _) _).alloc (by simp) _) (hb1.mono (by simp; omega)))

set_option maxHeartbeats 400000 in
theorem Unrank_large {W H : Nat} {T n : Int} {C A B : ByteArray} (w : World) (p : IsPos W H C T A B) (hcb : countB C.data.toList = false) :
    Calls Try.prog 11 #[.agg #[.int .i64 W, .int .i64 H, .string C, .int .i64 T, .string A, .string B], .int .i64 n] w fun e w' =>
      e = .returned (.tuple #[zeroPos, .int .i64 2]) ∧ Below w.heap.size w w' := by
  have HV : Hid (cntV C.data.toList = 0) := by simp [Hid, cntV, hcb]
  have HE : Hid (cntE C.data.toList = 2) := by simp [Hid, cntE, hcb]
  clear hcb
  go_enter Try.func11, Try.ntmps11
  go_wp2_with fail
  refine (Count_pos _ p).mono ?_
  rintro e w1 ⟨rfl, hb1⟩
  rw [unhide HV, unhide HE]
  obtain ⟨hc1, hf1⟩ := bcell hb1
  go_wp2
  refine bodyPost_ret (v := .tuple #[zeroPos, .int .i64 2]) (by simp [results, Try.results11, go_sem, hc1, zeroPos]) rfl ⟨rfl, ?_⟩
  exact below_set6 (by omega) (Below.trans (((Below.refl _ _).alloc (Nat.le_refl _) _).alloc (by simp) _) (hb1.mono (by simp; omega)))

set_option maxHeartbeats 400000 in
theorem Unrank_no (W H T n : Int) (C A B : ByteArray) (w : World) (hC : C.size ≤ maxLen) (hA : A.size ≤ maxLen) (hB : B.size ≤ maxLen) (h : posB W H C.data.toList T A.data.toList B.data.toList = false) :
    Calls Try.prog 11 #[.agg #[.int .i64 W, .int .i64 H, .string C, .int .i64 T, .string A, .string B], .int .i64 n] w fun e w' =>
      e = .returned (.tuple #[zeroPos, .int .i64 1]) ∧ Below w.heap.size w w' := by
  have HP := hide h
  clear h
  go_enter Try.func11, Try.ntmps11
  go_wp2_with fail
  refine (Count_no _ _ _ _ _ _ _ hC hA hB (unhide HP)).mono ?_
  rintro e w1 ⟨rfl, hb1⟩
  obtain ⟨hc1, hf1⟩ := bcell hb1
  go_wp2
  refine bodyPost_ret (v := .tuple #[zeroPos, .int .i64 1]) (by simp [results, Try.results11, go_sem, hc1, zeroPos]) rfl ⟨rfl, ?_⟩
  exact below_set6 (by omega) (Below.trans (((Below.refl _ _).alloc (Nat.le_refl _) _).alloc (by simp) _) (hb1.mono (by simp; omega)))
end Go.Proofs.Ytbcedjjocpjkjaa

namespace Go.Proofs.Ytbcedjjocpjkjaa

theorem cntF_mid : ∀ (a : List UInt8) (c : UInt8) (b : List UInt8), cntF (a ++ c :: b) = incF (cntF (a ++ b)) c.toNat
  | [], _, _ => rfl
  | x :: a, c, b => by rw [List.cons_append, cntF, cntF_mid a c b, incF_comm, List.cons_append, cntF]
theorem arrL_snoc (l : List UInt8) (x : UInt8) : arrL l ≤ arrL (l ++ [x]) := by
  have h := arrL_tail x l
  have e : arrL (l ++ [x]) = arrL (x :: l) := by
    unfold arrL
    rw [cntF_snoc, List.length_append, List.length_cons]
    rfl
  rw [e]; exact h
theorem arrL_take (l : List UInt8) : ∀ k, arrL (l.take k) ≤ arrL l := by
  intro k
  induction h : l.length - k generalizing k with
  | zero => rw [List.take_of_length_le (by omega)]; exact Nat.le_refl _
  | succ n ih =>
    have hk : k < l.length := by omega
    have h1 := ih (k + 1) (by omega)
    rw [List.take_succ_eq_append_getElem hk] at h1
    exact Nat.le_trans (arrL_snoc _ _) h1
/-- No beginning has more arrangements than the whole. -/
theorem countB_iff (l : List UInt8) : countB l = decide (arrL l ≤ big60) := by
  by_cases h : arrL l ≤ big60
  · rw [decide_eq_true h]
    exact countB_yes (fun k _ => Nat.le_trans (arrL_take l k) h)
  · rw [decide_eq_false h]
    exact countB_no (Nat.le_refl _) (by rw [List.take_length]; omega)

/-- One byte taken out where it stands first. -/
theorem sub_found (l : List UInt8) (c o : Nat) (hc : c < 256) (h : Lib.indexByte l (UInt8.ofNat c) = (o : Int)) : o < l.length ∧ arrL (l.take o ++ l.drop (o + 1)) = subF (l.length - 1) (cntF l) c := by
  obtain ⟨h1, _⟩ := Lib.indexByte_some h
  obtain ⟨hlt, he⟩ := List.getElem?_eq_some_iff.1 h1
  have hl : l = l.take o ++ UInt8.ofNat c :: l.drop (o + 1) := by
    conv => lhs; rw [← List.take_append_drop o l, List.drop_eq_getElem_cons hlt, he]
  have hcn : (UInt8.ofNat c).toNat = c := by rw [UInt8.toNat_ofNat']; omega
  have hf : cntF l = incF (cntF (l.take o ++ l.drop (o + 1))) c := by
    conv => lhs; rw [hl]
    rw [cntF_mid, hcn]
  have h0 : 0 < cntF l c := by rw [hf]; simp [incF]
  refine ⟨hlt, ?_⟩
  unfold subF arrL
  rw [if_pos h0]
  have hlen : (l.take o ++ l.drop (o + 1)).length = l.length - 1 := by simp; omega
  rw [hlen]
  congr 1
  rw [hf, decF_incF]
theorem sub_none (l : List UInt8) (c n : Nat) (hc : c < 256) (h : Lib.indexByte l (UInt8.ofNat c) = -1) : subF n (cntF l) c = 0 := by
  have h0 : cntF l c = 0 := by
    rw [cntF_count l c hc, List.count_eq_zero]
    intro hm
    obtain ⟨j, hj, he⟩ := List.getElem_of_mem hm
    exact Lib.indexByte_none h j (by rw [List.getElem?_eq_getElem hj, he])
  unfold subF
  rw [if_neg (by omega)]
theorem rkL_cons (c : UInt8) (t : List UInt8) : rkL (c :: t) = sumTo (subF t.length (cntF (c :: t))) c.toNat + rkL t := rfl
end Go.Proofs.Ytbcedjjocpjkjaa
