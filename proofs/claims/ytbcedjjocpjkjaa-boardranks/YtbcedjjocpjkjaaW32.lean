/-
  board.Rank, walked: twice how many Cells of its kind are less, and Turn; or Count's errors.
-/
import Derived.Test.YtbcedjjocpjkjaaW31
namespace Go.Proofs.Ytbcedjjocpjkjaa
open Go.RowKit

theorem arrL_tail (c : UInt8) (t : List UInt8) : arrL t ≤ arrL (c :: t) := by
  rw [← subF_head c t]
  exact sumTo_ge (subF t.length (cntF (c :: t))) (byte_lt c)
theorem arrL_drop (l : List UInt8) : ∀ k, arrL (l.drop k) ≤ arrL l := by
  intro k
  induction k generalizing l with
  | zero => exact Nat.le_refl _
  | succ k ih =>
    cases l with
    | nil => exact Nat.le_refl _
    | cons c t => rw [List.drop_succ_cons]; exact Nat.le_trans (ih t) (arrL_tail c t)
theorem countB_le {l : List UInt8} (h : countB l = true) : arrL l ≤ big60 := by
  unfold countB at h
  rw [List.all_eq_true] at h
  have := h l.length (by simp)
  simpa using this

/-- One cell's part of the rank, as board.Rank reckons it. -/
theorem rank_step (c : UInt8) (l : List UInt8) (hb : arrL (c :: l) ≤ big60) :
    let f := cntF (c :: l)
    let a := sumTo f c.toNat
    a ≤ l.length + 1 ∧ arrL (c :: l) * a / (l.length + 1) + rkL l = rkL (c :: l) ∧ f c.toNat ≤ l.length + 1 ∧ 0 < f c.toNat ∧ arrL (c :: l) * f c.toNat / (l.length + 1) = arrL l ∧
      arrL (c :: l) / (l.length + 1) * a ≤ big60 ∧ arrL (c :: l) / (l.length + 1) * f c.toNat ≤ big60 := by
  intro f a
  have hs : sumTo f K256 = l.length + 1 := by rw [cntF_sum]; rfl
  have ha : a ≤ l.length + 1 := by rw [← hs]; exact sumTo_le f (Nat.le_of_lt (byte_lt c))
  have hf : f c.toNat ≤ l.length + 1 := by rw [← hs]; exact sumTo_ge f (byte_lt c)
  have hm : ∀ x, x ≤ l.length + 1 → arrL (c :: l) / (l.length + 1) * x ≤ big60 := fun x hx =>
    Nat.le_trans (Nat.mul_le_mul_left _ hx) (Nat.le_trans (Nat.div_mul_le_self _ _) hb)
  have hk : arrL (c :: l) = arrF (l.length + 1) f := rfl
  refine ⟨ha, ?_, hf, cntF_pos c l, ?_, hm a ha, hm _ hf⟩
  · rw [hk, arrF_below l.length f c.toNat (Nat.le_of_lt (byte_lt c)) hs]; rfl
  · rw [hk, arrF_one l.length f c.toNat (byte_lt c) hs]; exact subF_head c l

set_option maxHeartbeats 1000000 in
set_option maxRecDepth 100000 in
theorem Rank_ok {W H : Nat} {T : Int} {C A B : ByteArray} (w : World) (p : IsPos W H C T A B) (hcb : countB C.data.toList = true) :
    Calls Try.prog 9 #[.agg #[.int .i64 W, .int .i64 H, .string C, .int .i64 T, .string A, .string B]] w fun e w' =>
      e = .returned (.tuple #[.int .i64 (2 * ((rkL C.data.toList : Nat) : Int) + T), .int .i64 0]) ∧ Below w.heap.size w w' := by
  have h64 := p.c64
  have hT0 : 0 ≤ T := by rcases p.t with h | h <;> omega
  have hT1 : T ≤ 1 := by rcases p.t with h | h <;> omega
  have hbig := countB_le hcb
  have HV : Hid (cntV C.data.toList = arrL C.data.toList) := by simp [Hid, cntV, hcb]
  have HE : Hid (cntE C.data.toList = 0) := by simp [Hid, cntE, hcb]
  have hrk : rkL C.data.toList < 1152921504606846976 := Nat.lt_of_lt_of_le (rkL_lt _) hbig
  clear hcb
  go_enter Try.func9, Try.ntmps9
  go_wp2_with fail
  refine (Count_pos _ p).mono ?_
  rintro e w1 ⟨rfl, hb1⟩
  rw [unhide HV, unhide HE]
  have bp1 := isBox.fresh hb1
  have hw1 : Below w.heap.size w w1 := below_on (Below.refl _ _) (Nat.le_refl _) hb1
  have hs1 : w.heap.size < w1.heap.size := bp1.lt
  clear hb1
  obtain ⟨d0, d1, d2, d3, d4, d5⟩ := bp1.cells
  go_wp2_with fail
  refine (tally_any _ _ h64).mono ?_
  rintro e w2 ⟨rfl, hcn, hb2⟩
  have bp2 := bp1.below hb2 hs1
  have hw2 := hw1.trans (hb2.mono hw1.size)
  clear hb2 bp1 d0 d1 d2 d3 d4 d5
  obtain ⟨d0, d1, d2, d3, d4, d5⟩ := bp2.cells
  have hs2 := hcn.lt
  go_wp2
  go_loopw [4, 7, 25] (fun t s i wr => ∃ (k x : Nat), k ≤ C.size ∧ i = .int .i64 k ∧ t = .int .i64 ((arrL (C.data.toList.drop k) : Nat) : Int) ∧ s = .int .i64 (x : Int) ∧ x + rkL (C.data.toList.drop k) = rkL C.data.toList ∧ isCnt wr w1.heap.size w1.heap.size (cntF (C.data.toList.drop k)) ∧ Below w1.heap.size w2 wr) (fun _ _ i _ => C.size - (intOf i).toNat)
  case atStart => exact ⟨0, 0, Nat.zero_le _, rfl, rfl, rfl, by simp, hcn, Below.refl _ _⟩
  case round =>
    obtain ⟨k, x, hk, rfl, rfl, rfl, hx, hcr, hbr⟩ := hrel
    have bpr := bp2.below hbr hs1
    have hwr := hw2.trans (hbr.mono (by omega))
    clear d0 d1 d2 d3 d4 d5 hcn
    obtain ⟨d0, d1, d2, d3, d4, d5⟩ := bpr.cells
    by_cases hlt : k < C.size
    · have hab := Nat.le_trans (arrL_drop C.data.toList k) hbig
      rw [drop_cons C k hlt] at hx hcr hab ⊢
      have hll : (C.data.toList.drop (k + 1)).length = C.size - (k + 1) := by rw [List.length_drop, len_data]
      obtain ⟨r1, r2, r3, r4, r5, r6, r7⟩ := rank_step C[k] (C.data.toList.drop (k + 1)) hab
      have h256 : C[k].toNat < 256 := C[k].toNat_lt
      have hc := hcr.cell C[k].toNat h256
      have hf := hcr.frozen C[k].toNat
      have R := hcr.dec C[k].toNat r4
      rw [cntF_dec] at R
      have hsum : sumTo (cntF (C[k] :: C.data.toList.drop (k + 1))) K256 ≤ 64 := by rw [cntF_sum, List.length_cons]; omega
      have HBL : Hid (∀ m, Calls Try.prog 30 #[.slice (some ⟨w1.heap.size, 0, none⟩) 256 256, .int .u8 (C[k].toNat : Int)] (wr.drewN m) fun e w' => e = .returned (.int .i64 (sumTo (cntF (C[k] :: C.data.toList.drop (k + 1))) C[k].toNat : Nat)) ∧ w' = wr.drewN m) :=
        fun m => below_any _ _ _ C[k].toNat (wr.drewN m) h256 (hcr.drewN m) hsum
      have hxr : x + rkL (C[k] :: C.data.toList.drop (k + 1)) < 1152921504606846976 := by rw [hx]; exact hrk
      have HX := hide hx
      rw [hll] at r1 r2 r3 r5 r6 r7
      obtain ⟨y, hy⟩ : ∃ y, y = arrL (C[k] :: C.data.toList.drop (k + 1)) * sumTo (cntF (C[k] :: C.data.toList.drop (k + 1))) C[k].toNat / (C.size - (k + 1) + 1) := ⟨_, rfl⟩
      rw [← hy] at r2
      have hyb : x + y < 1152921504606846976 := by omega
      have HR2 := hide r2
      have HSH1 : Hid (∀ w : World, Calls Try.prog 24 #[.int .i64 ((arrL (C[k] :: C.data.toList.drop (k + 1)) : Nat) : Int), .int .i64 ((sumTo (cntF (C[k] :: C.data.toList.drop (k + 1))) C[k].toNat : Nat) : Int), .int .i64 ((C.size : Int) - (k : Int))] w fun e w' => e = .returned (.int .i64 (y : Int)) ∧ ∃ m, w' = w.drewN m) := by
        intro w
        have h1 := share_int _ _ (C.size - (k + 1) + 1) _ ((C.size : Int) - (k : Int)) w rfl (by omega) (by omega) (by omega) (Nat.le_trans r1 (by omega)) r6 hab
        rw [← hy] at h1
        exact h1
      have HSH2 : Hid (∀ w : World, Calls Try.prog 24 #[.int .i64 ((arrL (C[k] :: C.data.toList.drop (k + 1)) : Nat) : Int), .int .i64 ((cntF (C[k] :: C.data.toList.drop (k + 1)) C[k].toNat : Nat) : Int), .int .i64 ((C.size : Int) - (k : Int))] w fun e w' => e = .returned (.int .i64 ((arrL (C.data.toList.drop (k + 1)) : Nat) : Int)) ∧ ∃ m, w' = w.drewN m) := by
        intro w
        have h1 := share_int _ _ (C.size - (k + 1) + 1) _ ((C.size : Int) - (k : Int)) w rfl (by omega) (by omega) (by omega) (Nat.le_trans r3 (by omega)) r7 hab
        rw [r5] at h1
        exact h1
      clear hy r1 r2 r5 r6 r7 hx hll hsum hcr hxr
      unfold big60 at hab
      generalize hzz : cntF (C[k] :: C.data.toList.drop (k + 1)) C[k].toNat = z at hc R r3 r4 HSH2
      generalize sumTo (cntF (C[k] :: C.data.toList.drop (k + 1))) C[k].toNat = a at HBL HSH1
      generalize arrL (C[k] :: C.data.toList.drop (k + 1)) = t at hab HSH1 HSH2 ⊢
      clear hzz
      have i0 : (0 : Int) ≤ (C[k].toNat : Int) := by omega
      have i1 : (C[k].toNat : Int) < 256 := by omega
      have j0 : (0 : Int) ≤ (k : Int) := by omega
      have j1 : (k : Int) < (C.size : Int) := by omega
      have z64 : z ≤ 65 := by omega
      go_wp2
      go_quiet (fail)
      go_wp2_with fail
      refine (unhide HBL _).mono ?_
      rintro e w' ⟨rfl, rfl⟩
      go_wp2_with fail
      refine (unhide HSH1 _).mono ?_
      rintro e w' ⟨rfl, m1, rfl⟩
      go_wp2_with fail
      refine (unhide HSH2 _).mono ?_
      rintro e w' ⟨rfl, m2, rfl⟩
      go_wp2
      go_roundw
      case rel =>
        refine ⟨k + 1, x + y, by omega, by go_num, rfl, by go_num, ?_, R, below_drewN (hbr.setCell (by exact Nat.le_refl _) _) _⟩
        have h1 := unhide HX
        have h2 := unhide HR2
        omega
      case measure => simp [intOf]; omega
    · obtain rfl : k = C.size := by omega
      have hxe : x = rkL C.data.toList := by rw [drop_all C C.size (Nat.le_refl _), rkL] at hx; omega
      have HXE := hide hxe
      have hxb : x < 1152921504606846976 := by omega
      clear hx hxe
      go_wp2
      go_ret2
      exact ⟨by rw [← unhide HXE]; rfl, hwr⟩

set_option maxHeartbeats 400000 in
theorem Rank_large {W H : Nat} {T : Int} {C A B : ByteArray} (w : World) (p : IsPos W H C T A B) (hcb : countB C.data.toList = false) :
    Calls Try.prog 9 #[.agg #[.int .i64 W, .int .i64 H, .string C, .int .i64 T, .string A, .string B]] w fun e w' =>
      e = .returned (.tuple #[.int .i64 0, .int .i64 2]) ∧ Below w.heap.size w w' := by
  have HV : Hid (cntV C.data.toList = 0) := by simp [Hid, cntV, hcb]
  have HE : Hid (cntE C.data.toList = 2) := by simp [Hid, cntE, hcb]
  clear hcb
  go_enter Try.func9, Try.ntmps9
  go_wp2_with fail
  refine (Count_pos _ p).mono ?_
  rintro e w1 ⟨rfl, hb1⟩
  rw [unhide HV, unhide HE]
  have hw1 : Below w.heap.size w w1 := below_on (Below.refl _ _) (Nat.le_refl _) hb1
  clear hb1
  go_wp2
  go_ret2
  exact ⟨rfl, hw1⟩

set_option maxHeartbeats 400000 in
theorem Rank_no (W H T : Int) (C A B : ByteArray) (w : World) (hC : C.size ≤ maxLen) (hA : A.size ≤ maxLen) (hB : B.size ≤ maxLen) (h : posB W H C.data.toList T A.data.toList B.data.toList = false) :
    Calls Try.prog 9 #[.agg #[.int .i64 W, .int .i64 H, .string C, .int .i64 T, .string A, .string B]] w fun e w' =>
      e = .returned (.tuple #[.int .i64 0, .int .i64 1]) ∧ Below w.heap.size w w' := by
  have HP := hide h
  clear h
  go_enter Try.func9, Try.ntmps9
  go_wp2_with fail
  refine (Count_no _ _ _ _ _ _ _ hC hA hB (unhide HP)).mono ?_
  rintro e w1 ⟨rfl, hb1⟩
  have hw1 : Below w.heap.size w w1 := below_on (Below.refl _ _) (Nat.le_refl _) hb1
  clear hb1
  go_wp2
  go_ret2
  exact ⟨rfl, hw1⟩
end Go.Proofs.Ytbcedjjocpjkjaa
