/-
  board.Count, walked: how many Cells of a position's kind there are, or ErrLarge, or ErrArg.
-/
import Derived.Test.YtbcedjjocpjkjaaW30
import Derived.Test.YtbcedjjocpjkjaaW12
namespace Go.Proofs.Ytbcedjjocpjkjaa
open Go.RowKit

/-- 2 to the 60. -/
def big60 : Nat := 1152921504606846976
/-- No beginning of l has more arrangements than that. -/
def countB (l : List UInt8) : Bool := (List.range (l.length + 1)).all fun k => decide (arrL (l.take k) ≤ big60)
def cntV (l : List UInt8) : Nat := if countB l then arrL l else 0
def cntE (l : List UInt8) : Int := if countB l then 0 else 2

theorem countB_no {l : List UInt8} {k : Nat} (hk : k ≤ l.length) (h : big60 < arrL (l.take k)) : countB l = false := by
  unfold countB
  rw [List.all_eq_false]
  exact ⟨k, by simp; omega, by simp; omega⟩
theorem countB_yes {l : List UInt8} (h : ∀ k, k ≤ l.length → arrL (l.take k) ≤ big60) : countB l = true := by
  unfold countB
  rw [List.all_eq_true]
  intro k hk
  have : k ≤ l.length := by simp at hk; omega
  simpa using h k this

theorem share_int (n a b : Nat) (x y : Int) (w : World) (hx : x = (a : Int)) (hy : y = (b : Int)) (hb0 : 0 < b) (hb1 : b ≤ 64) (ha : a ≤ 64) (hn : n / b * a ≤ 1152921504606846976) (hn' : n ≤ 1152921504606846976) :
    Calls Try.prog 24 #[.int .i64 n, .int .i64 x, .int .i64 y] w fun e w' => e = .returned (.int .i64 ((n * a / b : Nat) : Int)) ∧ ∃ m, w' = w.drewN m := by
  subst hx hy
  exact share_any n a b w hb0 hb1 ha hn hn'

/-- One cell more: what the two questions of Count ask. -/
theorem count_step (s : ByteArray) (k : Nat) (hk : k < s.size) :
    let f := cntF (s.data.toList.take k)
    let z := f s[k].toNat
    let t := arrL (s.data.toList.take k)
    z ≤ k ∧ t * (k + 1) / (z + 1) = arrL (s.data.toList.take (k + 1)) ∧ (big60 / (k + 1) < t / (z + 1) → big60 < arrL (s.data.toList.take (k + 1))) ∧
      (¬ big60 / (k + 1) < t / (z + 1) → t / (z + 1) * (k + 1) ≤ big60) := by
  intro f z t
  have hl : (s.data.toList.take k).length = k := by rw [List.length_take, len_data]; omega
  have hz : z ≤ k := by
    have h1 := sumTo_ge f (byte_lt s[k])
    rw [cntF_sum, hl] at h1
    exact h1
  have ht : t * (k + 1) / (z + 1) = arrL (s.data.toList.take (k + 1)) := by
    have h1 := arrF_inc k f s[k].toNat (byte_lt s[k]) (by rw [cntF_sum, hl])
    have h2 : incF f s[k].toNat s[k].toNat = z + 1 := by simp [incF]; rfl
    rw [h2] at h1
    have h3 : arrL (s.data.toList.take (k + 1)) = arrF (k + 1) (incF f s[k].toNat) := by
      rw [arrL, take_snoc s k hk, cntF_snoc, List.length_append, hl]; rfl
    have h4 : t = arrF k f := by show arrL _ = _; rw [arrL, hl]
    rw [h3, h4]
    exact h1
  refine ⟨hz, ht, fun h => ?_, fun h => ?_⟩
  · rw [← ht]
    have h1 : (big60 / (k + 1) + 1) * (k + 1) ≤ t / (z + 1) * (k + 1) := Nat.mul_le_mul_right _ h
    have h2 : big60 < (big60 / (k + 1) + 1) * (k + 1) := by
      have := Nat.div_add_mod big60 (k + 1)
      have := Nat.mod_lt big60 (show 0 < k + 1 by omega)
      rw [Nat.add_mul, Nat.one_mul, Nat.mul_comm]
      omega
    have h3 : t / (z + 1) * (k + 1) ≤ t * (k + 1) / (z + 1) := by
      rw [← share_eq t (k + 1) (z + 1) (by omega)]
      exact Nat.le_add_right _ _
    omega
  · have h1 : t / (z + 1) * (k + 1) ≤ big60 / (k + 1) * (k + 1) := Nat.mul_le_mul_right _ (by omega)
    have := Nat.div_mul_le_self big60 (k + 1)
    omega

set_option maxHeartbeats 1000000 in
set_option maxRecDepth 100000 in
theorem Count_pos {W H : Nat} {T : Int} {C A B : ByteArray} (w : World) (p : IsPos W H C T A B) :
    Calls Try.prog 7 #[.agg #[.int .i64 W, .int .i64 H, .string C, .int .i64 T, .string A, .string B]] w fun e w' =>
      e = .returned (.tuple #[.int .i64 (cntV C.data.toList : Nat), .int .i64 (cntE C.data.toList)]) ∧ Below w.heap.size w w' := by
  obtain ⟨i0, hi, hz0, hz1, hz2⟩ := info_parts Try.info2
  have h64 := p.c64
  have mC : C.size ≤ maxLen := by unfold maxLen; omega
  have mA : A.size ≤ maxLen := by have := p.as; unfold maxLen; omega
  have mB : B.size ≤ maxLen := by have := p.bs; unfold maxLen; omega
  have HP := hide p.posB
  go_enter Try.func7, Try.ntmps7
  go_wp2_with fail
  refine (Check_ok _ _ _ _ _ _ _ mC mA mB (unhide HP)).mono ?_
  rintro e w1 ⟨rfl, hb1⟩
  have bp1 := isBox.fresh hb1
  have hw1 : Below w.heap.size w w1 := below_on (Below.refl _ _) (Nat.le_refl _) hb1
  have hs1 : w.heap.size < w1.heap.size := bp1.lt
  clear hb1
  go_wp2_with (at_make; go_must (refine wpList_make_full _ rfl _ _ 52 rfl w1.heap.size 2 i0 (.int .i64 0) 1 Try.underlying52 hi hz0 hz1 .i64 .i64 _ _ 256 rfl rfl rfl rfl (by rw [hz2]; omega) (by unfold maxLen; omega) (by simp) ?_; intro wm hown hgrow; have hbm : Below w1.heap.size w1 wm := (Below.refl _ _).grown hgrow (Nat.le_refl _) (by simp); have bpm := bp1.below hbm hs1; obtain ⟨d0, d1, d2, d3, d4, d5⟩ := bpm.cells))
  rw [made_cvals] at hown
  have hcn : isCnt wm w1.heap.size w1.heap.size (cntF (C.data.toList.take 0)) := hown
  have hwm := hw1.trans (hbm.mono hw1.size)
  clear hown hgrow
  clear d0 d1 d2 d3 d4 d5
  go_loopw [6, 19] (fun t i wr => ∃ k : Nat, k ≤ C.size ∧ i = .int .i64 k ∧ t = .int .i64 ((arrL (C.data.toList.take k) : Nat) : Int) ∧ (∀ j, j ≤ k → arrL (C.data.toList.take j) ≤ big60) ∧ isCnt wr w1.heap.size w1.heap.size (cntF (C.data.toList.take k)) ∧ Below w1.heap.size wm wr) (fun _ i _ => C.size - (intOf i).toNat)
  case atStart => exact ⟨0, Nat.zero_le _, rfl, rfl, fun j hj => by have : j = 0 := by omega
                                                                    subst this; simp [arrL, arrF, big60], hcn, Below.refl _ _⟩
  case round =>
    obtain ⟨k, hk, rfl, rfl, hle, hcr, hbr⟩ := hrel
    have bpr := bpm.below hbr hs1
    have hwr := hwm.trans (hbr.mono (by omega))
    obtain ⟨d0, d1, d2, d3, d4, d5⟩ := bpr.cells
    clear hcn
    by_cases hlt : k < C.size
    · obtain ⟨hz, ht, hL, hok⟩ := count_step C k hlt
      have h256 : C[k].toNat < 256 := C[k].toNat_lt
      have hc := hcr.cell C[k].toNat h256
      have hf := hcr.frozen C[k].toNat
      have R := hcr.inc C[k].toNat
      rw [← cntF_snoc, ← take_snoc C k hlt] at R
      have hlek := hle k (Nat.le_refl _)
      have HLE := hide hle
      have HNO : Hid (big60 < arrL (C.data.toList.take (k + 1)) → countB C.data.toList = false) := fun h => countB_no (by rw [len_data]; omega) h
      obtain ⟨t2, ht2⟩ : ∃ t2, t2 = arrL (C.data.toList.take (k + 1)) := ⟨_, rfl⟩
      rw [← ht2] at ht hL HNO
      generalize arrL (C.data.toList.take k) = t at ht hL hok hlek ⊢
      generalize cntF (C.data.toList.take k) C[k].toNat = z at hz ht hL hok hc R
      have HT2 := hide ht2
      clear ht2 hle hcr
      unfold big60 at hlek hL hok
      obtain ⟨z1, hz1⟩ : ∃ z1, z1 = z + 1 := ⟨_, rfl⟩
      obtain ⟨k1, hk1⟩ : ∃ k1, k1 = k + 1 := ⟨_, rfl⟩
      obtain ⟨q, hq⟩ : ∃ q, q = t / (z + 1) := ⟨_, rfl⟩
      obtain ⟨Q, hQ⟩ : ∃ Q, Q = 1152921504606846976 / (k + 1) := ⟨_, rfl⟩
      rw [← hq, ← hQ] at hL hok
      have hq' : (t : Int) / (z1 : Int) = (q : Int) := by rw [hq, ← hz1]; simp
      have hQ' : (1152921504606846976 : Int) / (k1 : Int) = (Q : Int) := by rw [hQ, ← hk1]; simp
      have hqt : q ≤ t := by rw [hq]; exact Nat.div_le_self _ _
      have hQt : Q ≤ 1152921504606846976 := by rw [hQ]; exact Nat.div_le_self _ _
      have HSH : Hid (¬ Q < q → ∀ w : World, Calls Try.prog 24 #[.int .i64 t, .int .i64 (k1 : Int), .int .i64 (z1 : Int)] w fun e w' => e = .returned (.int .i64 (t2 : Int)) ∧ ∃ m, w' = w.drewN m) := by
        intro hg w
        have h1 := share_int t (k + 1) (z + 1) (k1 : Int) (z1 : Int) w (by omega) (by omega) (by omega) (by omega) (by omega) (by rw [← hq]; exact hok hg) hlek
        rw [ht] at h1
        exact h1
      have hz1' : (z : Int) + 1 = (z1 : Int) := by omega
      have hk1' : (k : Int) + 1 = (k1 : Int) := by omega
      rw [hz1'] at R
      have HK1 := hide hk1
      have y0 : ((z1 : Int) == 0) = false := by simp; omega
      have y1 : ((k1 : Int) == 0) = false := by simp; omega
      have y2 : (0 : Int) < (z1 : Int) := by omega
      have y3 : (0 : Int) < (k1 : Int) := by omega
      have y4 : k1 ≤ 64 := by omega
      have y5 : ¬ z1 = 0 := by omega
      have y6 : ¬ k1 = 0 := by omega
      clear hq hQ ht hok hz1 hk1
      have i0 : (0 : Int) ≤ (C[k].toNat : Int) := by omega
      have i1 : (C[k].toNat : Int) < 256 := by omega
      by_cases hg : Q < q
      · have HCB := hide (unhide HNO (hL hg))
        have hgi : (Q : Int) < (q : Int) := by omega
        have hd : decide (Q < q) = true := by simpa using hg
        clear hL
        go_wp2
        go_quiet ((go_at_call 24; fail))
        go_wp2
        go_ret2
        refine ⟨?_, below_drewN (hwr.setCell (by dsimp only; omega) _) _⟩
        simp [cntV, cntE, unhide HCB]
      · have hgi : ¬ (Q : Int) < (q : Int) := by omega
        have hd : decide (Q < q) = false := by simpa using hg
        have HS2 := hide (unhide HSH hg)
        clear hL HSH
        by_cases h2 : 1152921504606846976 < t2
        · have HCB := hide (unhide HNO h2)
          have h2i : (1152921504606846976 : Int) < (t2 : Int) := by omega
          go_wp2
          go_quiet ((go_at_call 24; exact Calls.quiet_of (unhide HS2 _)))
          go_wp2
          go_ret2
          refine ⟨?_, below_drewN (hwr.setCell (by dsimp only; omega) _) _⟩
          simp [cntV, cntE, unhide HCB]
        · have h2i : ¬ (1152921504606846976 : Int) < (t2 : Int) := by omega
          have hlt2 : t2 ≤ 1152921504606846976 := by omega
          go_wp2
          go_quiet ((go_at_call 24; exact Calls.quiet_of (unhide HS2 _)))
          go_wp2_with (go_at_call 24; refine (unhide HS2 _).mono ?_; rintro e w' ⟨rfl, m, rfl⟩)
          go_roundw
          case rel =>
            refine ⟨k + 1, by omega, by rw [unhide HK1], by rw [unhide HT2], ?_, R, below_drewN (hbr.setCell (by exact Nat.le_refl _) _) _⟩
            intro j hj
            by_cases e : j = k + 1
            · rw [e, ← unhide HT2]; exact hlt2
            · exact unhide HLE j (by omega)
          case measure => simp [intOf]; omega
    · obtain rfl : k = C.size := by omega
      have HCB : Hid (countB C.data.toList = true) := countB_yes (fun j hj => hle j (by rw [len_data] at hj; exact hj))
      rw [take_all C C.size (Nat.le_refl _)]
      clear hle
      go_wp2
      go_ret2
      refine ⟨?_, hwr⟩
      simp [cntV, cntE, unhide HCB]

set_option maxHeartbeats 400000 in
theorem Count_no (W H T : Int) (C A B : ByteArray) (w : World) (hC : C.size ≤ maxLen) (hA : A.size ≤ maxLen) (hB : B.size ≤ maxLen) (h : posB W H C.data.toList T A.data.toList B.data.toList = false) :
    Calls Try.prog 7 #[.agg #[.int .i64 W, .int .i64 H, .string C, .int .i64 T, .string A, .string B]] w fun e w' =>
      e = .returned (.tuple #[.int .i64 0, .int .i64 1]) ∧ Below w.heap.size w w' := by
  have HP := hide h
  clear h
  go_enter Try.func7, Try.ntmps7
  go_wp2_with fail
  refine (Check_no _ _ _ _ _ _ _ hC hA hB (unhide HP)).mono ?_
  rintro e w1 ⟨rfl, hb1⟩
  have hw1 : Below w.heap.size w w1 := below_on (Below.refl _ _) (Nat.le_refl _) hb1
  clear hb1
  go_wp2
  go_ret2
  exact ⟨rfl, hw1⟩
end Go.Proofs.Ytbcedjjocpjkjaa
