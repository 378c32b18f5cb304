/-
  board.nthCells, walked: the arrangement that has n less ones.
-/
import Derived.Test.YtbcedjjocpjkjaaW32
namespace Go.Proofs.Ytbcedjjocpjkjaa
open Go.RowKit

theorem Try.infoB5 : (Try.prog.info? 5).map (fun i => (i.zero, i.size, i.bytes)) = some (some (.int .u8 0), 1, 1) := by kernel_rfl

/-- What holds behind k rounds of board.nthCells: f: what is left of each byte; m: how many less ones are left; pre: what has been laid. -/
structure NthInv (s : ByteArray) (n k m : Nat) (f : Nat → Nat) (pre : List UInt8) : Prop where
  sum : sumTo f K256 = s.size - k
  high : ∀ c, K256 ≤ c → f c = 0
  dots : ∀ c, c < 46 → f c = 0
  big : arrF (s.size - k) f ≤ big60
  lt : m < arrF (s.size - k) f
  len : pre.length = k
  all : pre ++ unF (s.size - k) f m = unF s.size (cntF s.data.toList) n

theorem NthInv.start (s : ByteArray) (n : Nat) (hdot : ∀ x ∈ s.data.toList, 46 ≤ x.toNat) (hb : arrL s.data.toList ≤ big60) (hn : n < arrL s.data.toList) : NthInv s n 0 n (cntF s.data.toList) [] := by
  refine ⟨by rw [cntF_sum, len_data, Nat.sub_zero], cntF_high _, fun c hc => ?_, by rw [Nat.sub_zero, ← len_data]; exact hb, by rw [Nat.sub_zero, ← len_data]; exact hn, rfl, by rw [Nat.sub_zero, List.nil_append]⟩
  rcases Nat.eq_zero_or_pos (cntF s.data.toList c) with h | h
  · exact h
  · obtain ⟨x, hx, he⟩ := mem_of_cntF h
    have := hdot x hx
    omega
theorem NthInv.low {s : ByteArray} {n k m : Nat} {f : Nat → Nat} {pre : List UInt8} (i : NthInv s n k m f pre) (c : Nat) (hc : c ≤ 46) (L : Nat) : sumTo (subF L f) c = 0 := by
  rw [sumTo_congr (h := fun _ => 0) c (fun d hd => by rw [subF, if_neg (by rw [i.dots d (by omega)]; omega)]), sumTo_zero]
/-- What board.share answers there. -/
theorem NthInv.share {s : ByteArray} {n k m : Nat} {f : Nat → Nat} {pre : List UInt8} (i : NthInv s n k m f pre) (L : Nat) (hL : s.size - k = L + 1) (d : Nat) (hd : d < 256) :
    arrF (L + 1) f * f d / (L + 1) = subF L f d ∧ f d ≤ L + 1 ∧ arrF (L + 1) f / (L + 1) * f d ≤ big60 ∧ subF L f d ≤ big60 := by
  have hs := i.sum
  rw [hL] at hs
  have hb := i.big
  rw [hL] at hb
  have h1 := arrF_one L f d hd hs
  have h2 : f d ≤ L + 1 := by rw [← hs]; exact sumTo_ge f (show d < K256 from hd)
  refine ⟨h1, h2, Nat.le_trans (Nat.mul_le_mul_left _ h2) (Nat.le_trans (Nat.div_mul_le_self _ _) hb), ?_⟩
  rw [← h1]
  exact Nat.le_trans (Nat.div_le_of_le_mul (by rw [Nat.mul_comm (L + 1)]; exact Nat.mul_le_mul_left _ h2)) hb
theorem NthInv.step {s : ByteArray} {n k m : Nat} {f : Nat → Nat} {pre : List UInt8} (i : NthInv s n k m f pre) (L : Nat) (hL : s.size - k = L + 1) (c : Nat) (h1 : sumTo (subF L f) c ≤ m) (h2 : m < sumTo (subF L f) (c + 1)) (hc : c < 256) :
    0 < f c ∧ subF L f c = arrF L (decF f c) ∧ NthInv s n (k + 1) (m - sumTo (subF L f) c) (decF f c) (pre ++ [UInt8.ofNat c]) := by
  have hg : 0 < subF L f c := by rw [sumTo] at h2; omega
  have h0 : 0 < f c := by
    unfold subF at hg
    by_cases h0 : 0 < f c
    · exact h0
    · rw [if_neg h0] at hg; omega
  have hsub : subF L f c = arrF L (decF f c) := by rw [subF, if_pos h0]
  have hf : findC (subF L f) m K256 0 = c := findC_eq _ _ _ h1 h2 K256 0 (by omega) (by have : c < K256 := hc; omega)
  have hs := i.sum
  have hsd := sumTo_dec f c h0 K256
  rw [if_pos (show c < K256 from hc)] at hsd
  have hk1 : s.size - (k + 1) = L := by omega
  have hsh := (i.share L hL c hc).2.2.2
  refine ⟨h0, hsub, by omega, fun d hd => by rw [decF, if_neg (by have : c < K256 := hc; omega)]; exact i.high d hd, fun d hd => ?_, by rw [hk1, ← hsub]; exact hsh, by rw [hk1, ← hsub]; rw [sumTo] at h2; omega, by rw [List.length_append, i.len]; rfl, ?_⟩
  · have := i.dots d hd
    simp only [decF]
    split <;> omega
  · rw [← i.all, hL, hk1, unF, hf, List.append_assoc]
    rfl

theorem nth_row {w : World} {base g cap L k n : Nat} {pre : List UInt8} (h : w.ownsRow base 5 1 (.slice (some ⟨g, 0, none⟩) n cap) n (bvals (pre ++ List.replicate (L + 1) 0))) (hk : pre.length = k) (hn : k < n) :
    w.cell? ⟨g, k, none⟩ = some (.int .u8 0) ∧ w.frozen? ⟨g, k, none⟩ = false ∧ ∀ d : Nat, d < 256 → (w.setCell ⟨g, k, none⟩ (.int .u8 (d : Int))).ownsRow base 5 1 (.slice (some ⟨g, 0, none⟩) n cap) n (bvals ((pre ++ [UInt8.ofNat d]) ++ List.replicate L 0)) := by
  refine ⟨?_, World.ownsRow.frozenAt h k, fun d hd => ?_⟩
  · rw [World.ownsRow.cellAt h k (by omega)]
    simp [bvals, ← hk, List.replicate_succ]
  · have h1 := (World.ownsRow.stored h k (.int .u8 (d : Int))).1
    have e : (bvals (pre ++ List.replicate (L + 1) 0)).set k (.int .u8 (d : Int)) = bvals ((pre ++ [UInt8.ofNat d]) ++ List.replicate L 0) := by
      have ed : Value.int .u8 (d : Int) = Value.int .u8 ((UInt8.ofNat d).toNat : Int) := by
        rw [UInt8.toNat_ofNat', Nat.mod_eq_of_lt (by omega)]
      rw [ed]
      simp only [bvals, ← List.map_set (f := fun c : UInt8 => Value.int .u8 (c.toNat : Int))]
      rw [← hk, List.set_append_right _ _ (Nat.le_refl _), Nat.sub_self, List.replicate_succ, List.set_cons_zero, List.append_assoc]
      rfl
    rw [e] at h1
    exact h1

set_option maxHeartbeats 1000000 in
set_option maxRecDepth 100000 in
theorem nthCells_any (s : ByteArray) (n : Nat) (w : World) (h64 : s.size ≤ 64) (hpos : 0 < s.size) (hdot : ∀ x ∈ s.data.toList, 46 ≤ x.toNat) (hb : arrL s.data.toList ≤ big60) (hn : n < arrL s.data.toList) :
    Calls Try.prog 33 #[.string s, .int .i64 ((arrL s.data.toList : Nat) : Int), .int .i64 n] w fun e w' =>
      e = .returned (.string ⟨(unF s.size (cntF s.data.toList) n).toArray⟩) ∧ Below w.heap.size w w' := by
  obtain ⟨i0, hi, hz0, hz1, hz2⟩ := info_parts Try.infoB5
  go_enter Try.func33, Try.ntmps33
  go_wp2_with fail
  refine (tally_any _ _ h64).mono ?_
  rintro e w1 ⟨rfl, hcn, hb1⟩
  have hs1 := hcn.lt
  go_wp2_with (at_make; go_must (refine wpList_make_full _ rfl _ _ 66 rfl w1.heap.size 5 i0 (.int .u8 0) 1 Try.underlying66 hi hz0 hz1 .i64 .i64 _ _ s.size rfl rfl rfl rfl (by rw [hz2]; omega) (by unfold maxLen; omega) (by simp) ?_; intro wm hown hgrow))
  have hbm : Below w1.heap.size w1 wm := (Below.refl _ _).grown hgrow (Nat.le_refl _) (by simp)
  have hcm : isCnt wm w.heap.size w.heap.size (cntF s.data.toList) := hcn.below hbm
  have hwm : Below w.heap.size w wm := hb1.trans (hbm.mono (by omega))
  have hnr : wm.ownsRow w1.heap.size 5 1 (.slice (some ⟨w1.heap.size, 0, none⟩) s.size s.size) s.size (bvals ([] ++ List.replicate (s.size - 0) 0)) := by
    have e : (madeCells (Value.int .u8 0).cells (s.size * 1)).toList = bvals ([] ++ List.replicate (s.size - 0) 0) := by
      have h : (Value.int .u8 0).cells = #[Value.int .u8 0] := rfl
      rw [h, toList_madeCells_one]
      simp [bvals]
    rw [← e]; exact hown
  clear hown hgrow hcn hbm hb1
  go_loopw [1, 2, 20] (fun t x i wr => ∃ (k m : Nat) (f : Nat → Nat) (pre : List UInt8), k ≤ s.size ∧ i = .int .i64 k ∧ NthInv s n k m f pre ∧ t = .int .i64 ((arrF (s.size - k) f : Nat) : Int) ∧ x = .int .i64 (m : Int) ∧
      isCnt wr w.heap.size w.heap.size f ∧ wr.ownsRow w1.heap.size 5 1 (.slice (some ⟨w1.heap.size, 0, none⟩) s.size s.size) s.size (bvals (pre ++ List.replicate (s.size - k) 0)) ∧ Below w.heap.size w wr) (fun _ _ i _ => s.size - (intOf i).toNat)
  case atStart => exact ⟨0, n, cntF s.data.toList, [], Nat.zero_le _, rfl, NthInv.start s n hdot hb hn, by rw [Nat.sub_zero, arrL, len_data], rfl, hcm, hnr, hwm⟩
  case round =>
    obtain ⟨k, m, f, pre, hk, rfl, inv, rfl, rfl, hcr, hnrr, hwr⟩ := hrel
    clear hcm hnr hwm
    by_cases hlt : k < s.size
    · obtain ⟨L, hL⟩ : ∃ L, s.size - k = L + 1 := ⟨s.size - k - 1, by omega⟩
      have hle := inv.share L hL
      have h46 := inv.low 46 (by omega) L
      have hml := inv.lt
      have hbig := inv.big
      have hfit := fun c h1 h2 => inv.step L hL c h1 h2
      have hfd : ∀ d, d < 256 → f d ≤ 64 := fun d hd => by
        have h1 := sumTo_ge f (show d < K256 from hd)
        rw [inv.sum] at h1
        omega
      rw [hL] at hml hbig hnrr ⊢
      have hsum : arrF (L + 1) f = sumTo (subF L f) K256 := arrF_sum L f
      have hml' : m < sumTo (subF L f) K256 := by rw [← hsum]; exact hml
      generalize arrF (L + 1) f = t at hle hml hbig ⊢
      unfold big60 at hbig hle
      have HSH : Hid (∀ d, d < 256 → ∀ w : World, Calls Try.prog 24 #[.int .i64 (t : Int), .int .i64 (f d : Int), .int .i64 ((s.size : Int) - (k : Int))] w fun e w' => e = .returned (.int .i64 (subF L f d : Nat)) ∧ ∃ m, w' = w.drewN m) := by
        intro d hd w
        obtain ⟨r1, r2, r3, r4⟩ := hle d hd
        have h1 := share_int t (f d) (L + 1) (f d : Int) ((s.size : Int) - (k : Int)) w rfl (by omega) (by omega) (by omega) (by omega) r3 hbig
        rw [r1] at h1
        exact h1
      have HSB : Hid (∀ d, d < 256 → subF L f d ≤ 1152921504606846976) := fun d hd => (hle d hd).2.2.2
      have HFD := hide hfd
      have HFIT := hide hfit
      have HML := hide hml'
      have d46 := hcr.cell 46 (by omega)
      have f46 := hfd 46 (by omega)
      clear hle hfd hfit hsum hml'
      have e46 : ∀ x, (wr.drewN x).cell? ⟨w.heap.size, 46, none⟩ = some (.int .i64 (f 46 : Int)) := fun x => d46
      go_wp2_with fail
      refine (unhide HSH 46 (by omega) _).mono ?_
      rintro e w' ⟨rfl, m1, rfl⟩
      clear d46 f46 e46
      go_wp2
      go_loopw [2, 11, 12] (fun x c z w' => ∃ (d : Nat), 46 ≤ d ∧ d < 256 ∧ c = .int .u8 d ∧ z = .int .i64 (subF L f d : Nat) ∧ sumTo (subF L f) d ≤ m ∧ x = .int .i64 ((m - sumTo (subF L f) d : Nat) : Int) ∧ ∃ y, w' = wr.drewN y) (fun _ c _ _ => 256 - (intOf c).toNat)
      case atStart => exact ⟨46, by omega, by omega, rfl, rfl, by rw [h46]; omega, by rw [h46]; rfl, m1, rfl⟩
      case round =>
        obtain ⟨d, hd46, hd, rfl, rfl, hS, rfl, hy⟩ := hrel
        obtain ⟨y, hy⟩ := hy
        subst hy
        have hGb := unhide HSB d hd
        have hs1d : sumTo (subF L f) (d + 1) = sumTo (subF L f) d + subF L f d := rfl
        by_cases hge : subF L f d ≤ m - sumTo (subF L f) d
        · have hd1 : d + 1 < 256 := by
            rcases Nat.lt_or_ge (d + 1) 256 with h | h
            · exact h
            · have h1 : sumTo (subF L f) K256 ≤ sumTo (subF L f) (d + 1) := sumTo_le _ (show K256 ≤ d + 1 from h)
              have h2 := unhide HML
              omega
          have hS1 : sumTo (subF L f) (d + 1) ≤ m := by rw [hs1d]; omega
          have HS1 := hide hs1d
          have dd : ∀ x, (wr.drewN x).cell? ⟨w.heap.size, d + 1, none⟩ = some (.int .i64 (f (d + 1) : Int)) := fun x => hcr.cell (d + 1) hd1
          obtain ⟨G, hG⟩ : ∃ G, G = subF L f d := ⟨_, rfl⟩
          obtain ⟨S, hSS⟩ : ∃ S, S = sumTo (subF L f) d := ⟨_, rfl⟩
          rw [← hG] at hge hGb HS1 ⊢
          rw [← hSS] at hge HS1 ⊢
          have hmS : m - S ≤ 1152921504606846976 := by omega
          clear hs1d hG hSS
          have hgei : (G : Int) ≤ ((m - S : Nat) : Int) := by omega
          generalize hM : m - S = M at hge hmS hgei ⊢
          have HM := hide hM
          clear hM
          go_wp2_with fail
          refine (unhide HSH (d + 1) hd1 _).mono ?_
          rintro e w' ⟨rfl, m2, rfl⟩
          go_wp2
          go_roundw
          case rel =>
            refine ⟨d + 1, by omega, hd1, by go_num, rfl, hS1, ?_, y + m2, rfl⟩
            have hM := unhide HM
            rw [unhide HS1]
            go_num
          case measure => simp [intOf]; omega
        · have hS1 : m < sumTo (subF L f) (d + 1) := by rw [hs1d]; omega
          obtain ⟨q0, q1, q2⟩ := unhide HFIT d hS hS1 hd
          have hfd := unhide HFD d hd
          obtain ⟨n0, n1, n2⟩ := nth_row hnrr inv.len hlt
          have R1 := n2 d hd
          have c0 := hcr.cell d hd
          have cf := hcr.frozen d
          have R2 : isCnt (wr.setCell ⟨w1.heap.size, k, none⟩ (.int .u8 (d : Int))) w.heap.size w.heap.size f := ownsRow_setCell_other hcr (by simp [Value.ownBlock]; omega) _
          have c1 := R2.cell d hd
          have R3 := R2.dec d q0
          have R4 := ownsRow_setCell_below (a := ⟨w.heap.size, d, none⟩) R1 hs1 (.int .i64 ((f d : Int) - 1))
          have hgei : ((m - sumTo (subF L f) d : Nat) : Int) < (subF L f d : Int) := by omega
          clear R1 n2 R2
          go_wp2
          have hL1 : s.size - (k + 1) = L := by omega
          refine ⟨⟨k + 1, m - sumTo (subF L f) d, decF f d, pre ++ [UInt8.ofNat d], by omega, rfl, q2, by rw [hL1, q1], rfl, R3, by rw [hL1]; exact R4, ?_⟩, by simp [intOf]; omega⟩
          exact ((below_drewN hwr y).setCell (p := ⟨w1.heap.size, k, none⟩) (Nat.le_of_lt hs1) _).setCell (p := ⟨w.heap.size, d, none⟩) (Nat.le_refl _) _
    · obtain rfl : k = s.size := by omega
      have hal := inv.all
      rw [Nat.sub_self] at hal hnrr
      simp only [unF, List.append_nil, List.replicate_zero] at hal hnrr
      have hcv := conv_own hnrr inv.len
      rw [hal] at hcv
      clear hal inv
      go_wp2
      go_ret
      exact ⟨rfl, hwr⟩
end Go.Proofs.Ytbcedjjocpjkjaa
