/-
  parlourbig.add, walked.
  parlourbig's numbers, walked: Add.
  parlourbig.div, walked: the short ways (less; two words; divided by one word).
-/
import Derived.Test.YthplbfjpmnpjmaaDoorJ3
import Derived.Test.YthplbfjpmnpjmaaDoorJ5
import Derived.Deep.RegionHeld3
namespace Go.Proofs.YthplbfjpmnpjmaaDoor
open Go.RowKit
attribute [local go_sem ↓] Go.wp_at_zero Go.wp_at_succ

/-- One word's sum: what is stored, what is carried. -/
theorem add_step (B R R' a b x y c c' s k : Nat) (h : R' = R + s * B ^ k) (hs : c + x + y = s + B * c') (hinv : R + c * B ^ k = a + b) :
    R' + c' * B ^ (k + 1) = (a + x * B ^ k) + (b + y * B ^ k) := by
  have e1 : c' * B ^ (k + 1) = B * c' * B ^ k := by rw [Nat.pow_succ, Nat.mul_comm (B ^ k) B, ← Nat.mul_assoc, Nat.mul_comm c' B]
  have e2 : (c + x + y) * B ^ k = (s + B * c') * B ^ k := by rw [hs]
  simp only [Nat.add_mul] at e2
  rw [e1, h]
  omega

set_option maxHeartbeats 2000000 in
set_option maxRecDepth 100000 in
theorem add_ge (po qo : Option Addr) (cp cq : Nat) (p q : List Nat) (w : World) (hp : isWs w po cp p) (hq : isWs w qo cq q) (hlp : p.length ≤ 30000) (hqp : q.length ≤ p.length) :
    Calls Tryd.prog 64 #[.slice po p.length cp, .slice qo q.length cq] w fun e w' => ∃ o cap l, e = .returned (.slice o (trimL l).length cap) ∧ isWs w' o cap (trimL l) ∧ val 4294967296 l = val 4294967296 p + val 4294967296 q ∧ Below w.heap.size w w' := by
  obtain ⟨i0, hi, hz0, hz1, hz2⟩ := info_parts Tryd.infoU
  obtain ⟨np, hnp⟩ : ∃ np, np = p.length := ⟨_, rfl⟩
  obtain ⟨nq, hnq⟩ : ∃ nq, nq = q.length := ⟨_, rfl⟩
  rw [← hnp, ← hnq]
  rw [← hnp] at hlp hqp
  rw [← hnq] at hqp
  have hlt : ¬ (np : Int) < (nq : Int) := by omega
  have HNP := hide hnp
  have HNQ := hide hnq
  have HP := hide hp
  have HQ := hide hq
  clear hnp hnq hp hq
  go_enter Tryd.func64, Tryd.ntmps64
  go_wp2_with (at_make; go_must (refine wpList_make_full _ rfl _ _ 35 rfl w.heap.size 106 i0 (.int .u32 0) 1 Tryd.underlying35 hi hz0 hz1 .i64 .i64 _ _ (np + 1) rfl rfl (by go_num) (by go_num) (by rw [hz2]; omega) (by unfold maxLen; omega) (Nat.le_refl _) ?_; intro wm hown hgrow))
  have hbm : Below w.heap.size w wm := (Below.refl _ _).grown hgrow (Nat.le_refl _) (by simp)
  have hrow : ownU wm w.heap.size w.heap.size (List.replicate (np + 1) 0) := by
    unfold ownU
    rw [List.length_replicate, ← made_zeros]
    exact hown
  clear hown hgrow
  go_loopw [6, 7] (fun cv v wr => ∃ (k c : Nat) (R : List Nat), k ≤ np ∧ v = .int .i64 (k : Int) ∧ cv = .int .u64 (c : Int) ∧ c < 2 ∧ R.length = np + 1 ∧ (∀ x ∈ R, x < 4294967296) ∧ (∀ j, k ≤ j → j < np + 1 → R[j]? = some 0) ∧ val 4294967296 R + c * 4294967296 ^ k = val 4294967296 (p.take k) + val 4294967296 (q.take k) ∧ ownU wr w.heap.size w.heap.size R ∧ Below w.heap.size w wr) (fun _ v _ => np - (intOf v).toNat)
  case atStart =>
    refine ⟨0, 0, List.replicate (np + 1) 0, Nat.zero_le _, rfl, rfl, by omega, by simp, ?_, ?_, by simp [val_zeros, val], hrow, hbm⟩
    · intro x hx
      rw [List.eq_of_mem_replicate hx]; omega
    · intro j _ hj
      rw [List.getElem?_replicate, if_pos hj]
  case round =>
    obtain ⟨k, c, R, hk, rfl, rfl, hc, hRl, hRs, hRz, hRv, hRo, hbr⟩ := hrel
    clear hrow hbm
    have hz := hRz k (Nat.le_refl _) (by omega)
    have cr := hRo.cell hz
    have zr := hRo.frozen k
    by_cases hkl : k < np
    · have hki : (k : Int) < (np : Int) := by omega
      have hkp : k < p.length := by rw [← unhide HNP]; exact hkl
      obtain ⟨x, hx⟩ : ∃ x, p[k]? = some x := ⟨p[k], List.getElem?_eq_getElem hkp⟩
      obtain ⟨gp, ep, hgp, hcp⟩ := (unhide HP).cells (fun e => by rw [e] at hkp; simp at hkp)
      subst ep
      have cx := (hbr.cell (p := ⟨gp, k, none⟩) hgp).trans (hcp k x hx)
      have hxs := (unhide HP).small x (List.mem_of_getElem? hx)
      by_cases hkq : k < nq
      · have hkqi : (k : Int) < (nq : Int) := by omega
        have hkql : k < q.length := by rw [← unhide HNQ]; exact hkq
        obtain ⟨y, hy⟩ : ∃ y, q[k]? = some y := ⟨q[k], List.getElem?_eq_getElem hkql⟩
        obtain ⟨gq, eq, hgq, hcq⟩ := (unhide HQ).cells (fun e => by rw [e] at hkql; simp at hkql)
        subst eq
        have cy := (hbr.cell (p := ⟨gq, k, none⟩) hgq).trans (hcq k y hy)
        have hys := (unhide HQ).small y (List.mem_of_getElem? hy)
        obtain ⟨t, ht⟩ : ∃ t, t = c + x + y := ⟨_, rfl⟩
        obtain ⟨s, hs⟩ : ∃ s, s = t % 4294967296 := ⟨_, rfl⟩
        obtain ⟨c', hc'⟩ : ∃ c', c' = t / 4294967296 := ⟨_, rfl⟩
        have hti : (c : Int) + (x : Int) + (y : Int) = (t : Int) := by omega
        have hsi : (t : Int) % 4294967296 = (s : Int) := by omega
        have hci : (t : Int) / 4294967296 = (c' : Int) := by omega
        have htb : t < 18446744073709551616 := by omega
        have hcx : (c : Int) + (x : Int) < 18446744073709551616 := by omega
        have hsb : s < 4294967296 := by omega
        have hcb : c' < 2 := by omega
        have hvs := val_set 4294967296 R k 0 s hz
        have hnew := add_step 4294967296 (val 4294967296 R) (val 4294967296 (R.set k s)) (val 4294967296 (p.take k)) (val 4294967296 (q.take k)) x y c c' s k (by omega) (by omega) hRv
        rw [← val_take_succ _ p k x hx, ← val_take_succ _ q k y hy] at hnew
        have HNEW := hide hnew
        have hkb : (k : Int) < ((np + 1 : Nat) : Int) := by omega
        clear hnew hvs ht hs hc' hRv hy hx hz hcp hcq hkp hkql
        go_wp2
        go_roundw
        case rel =>
          refine ⟨k + 1, c', R.set k s, by omega, by go_num, rfl, hcb, by rw [List.length_set]; exact hRl, mem_set hRs hsb, ?_, unhide HNEW, hRo.set k s, hbr.setCell (p := ⟨w.heap.size, k, none⟩) (Nat.le_refl _) _⟩
          intro j hj1 hj2
          rw [List.getElem?_set_ne (by omega)]
          exact hRz j (by omega) hj2
        case measure => simp [intOf]; omega
      · have hkqi : ¬ (k : Int) < (nq : Int) := by omega
        obtain ⟨t, ht⟩ : ∃ t, t = c + x := ⟨_, rfl⟩
        obtain ⟨s, hs⟩ : ∃ s, s = t % 4294967296 := ⟨_, rfl⟩
        obtain ⟨c', hc'⟩ : ∃ c', c' = t / 4294967296 := ⟨_, rfl⟩
        have hti : (c : Int) + (x : Int) = (t : Int) := by omega
        have hsi : (t : Int) % 4294967296 = (s : Int) := by omega
        have hci : (t : Int) / 4294967296 = (c' : Int) := by omega
        have htb : t < 18446744073709551616 := by omega
        have hsb : s < 4294967296 := by omega
        have hcb : c' < 2 := by omega
        have hvs := val_set 4294967296 R k 0 s hz
        have hnew := add_step 4294967296 (val 4294967296 R) (val 4294967296 (R.set k s)) (val 4294967296 (p.take k)) (val 4294967296 (q.take k)) x 0 c c' s k (by omega) (by omega) hRv
        have hqt : q.take (k + 1) = q.take k := by rw [List.take_of_length_le (by rw [← unhide HNQ]; omega), List.take_of_length_le (by rw [← unhide HNQ]; omega)]
        rw [← val_take_succ _ p k x hx, Nat.zero_mul, Nat.add_zero, ← hqt] at hnew
        have HNEW := hide hnew
        have hkb : (k : Int) < ((np + 1 : Nat) : Int) := by omega
        clear hnew hvs ht hs hc' hRv hx hz hcp hkp hqt
        go_wp2
        go_roundw
        case rel =>
          refine ⟨k + 1, c', R.set k s, by omega, by go_num, rfl, hcb, by rw [List.length_set]; exact hRl, mem_set hRs hsb, ?_, unhide HNEW, hRo.set k s, hbr.setCell (p := ⟨w.heap.size, k, none⟩) (Nat.le_refl _) _⟩
          intro j hj1 hj2
          rw [List.getElem?_set_ne (by omega)]
          exact hRz j (by omega) hj2
        case measure => simp [intOf]; omega
    · obtain rfl : k = np := by omega
      have hki : ¬ (k : Int) < (k : Int) := by omega
      have hcm : (c : Int) % 4294967296 = (c : Int) := by omega
      have hkb : (k : Int) < ((k + 1 : Nat) : Int) := by omega
      have hvs := val_set 4294967296 R k 0 c hz
      rw [List.take_of_length_le (by rw [← unhide HNP]; exact Nat.le_refl _), List.take_of_length_le (by rw [← unhide HNQ]; exact hqp)] at hRv
      have hval : val 4294967296 (R.set k c) = val 4294967296 p + val 4294967296 q := by omega
      have HVAL := hide hval
      have hro := hRo.set k c
      have hRl' : (R.set k c).length = k + 1 := by rw [List.length_set]; exact hRl
      have hws := hro.ws (mem_set hRs (by omega)) (by rw [hRl']; omega)
      have htr := trim_any _ _ (R.set k c) _ hws
      rw [hRl'] at htr
      have HTR := hide htr
      have HB2 := hide (hbr.setCell (p := ⟨w.heap.size, k, none⟩) (Nat.le_refl _) (.int .u32 (c : Int)))
      clear htr hval hvs hRv hws hro hRl' hz
      go_wp2_with fail
      refine (unhide HTR).mono ?_
      rintro e w1 ⟨o, cap, rfl, hw1, rfl⟩
      go_wp2
      go_ret
      exact ⟨o, cap, _, rfl, hw1, unhide HVAL, unhide HB2⟩

set_option maxHeartbeats 2000000 in
set_option maxRecDepth 100000 in
theorem add_lt (po qo : Option Addr) (cp cq : Nat) (p q : List Nat) (w : World) (hp : isWs w po cp p) (hq : isWs w qo cq q) (hlp : p.length ≤ 30000) (hqp : q.length < p.length) :
    Calls Tryd.prog 64 #[.slice qo q.length cq, .slice po p.length cp] w fun e w' => ∃ o cap l, e = .returned (.slice o (trimL l).length cap) ∧ isWs w' o cap (trimL l) ∧ val 4294967296 l = val 4294967296 p + val 4294967296 q ∧ Below w.heap.size w w' := by
  obtain ⟨i0, hi, hz0, hz1, hz2⟩ := info_parts Tryd.infoU
  obtain ⟨np, hnp⟩ : ∃ np, np = p.length := ⟨_, rfl⟩
  obtain ⟨nq, hnq⟩ : ∃ nq, nq = q.length := ⟨_, rfl⟩
  rw [← hnp, ← hnq]
  rw [← hnp] at hlp hqp
  rw [← hnq] at hqp
  have hlt : (nq : Int) < (np : Int) := by omega
  replace hqp : nq ≤ np := by omega
  have HNP := hide hnp
  have HNQ := hide hnq
  have HP := hide hp
  have HQ := hide hq
  clear hnp hnq hp hq
  go_enter Tryd.func64, Tryd.ntmps64
  go_wp2_with (at_make; go_must (refine wpList_make_full _ rfl _ _ 35 rfl w.heap.size 106 i0 (.int .u32 0) 1 Tryd.underlying35 hi hz0 hz1 .i64 .i64 _ _ (np + 1) rfl rfl (by go_num) (by go_num) (by rw [hz2]; omega) (by unfold maxLen; omega) (Nat.le_refl _) ?_; intro wm hown hgrow))
  have hbm : Below w.heap.size w wm := (Below.refl _ _).grown hgrow (Nat.le_refl _) (by simp)
  have hrow : ownU wm w.heap.size w.heap.size (List.replicate (np + 1) 0) := by
    unfold ownU
    rw [List.length_replicate, ← made_zeros]
    exact hown
  clear hown hgrow
  go_loopw [6, 7] (fun cv v wr => ∃ (k c : Nat) (R : List Nat), k ≤ np ∧ v = .int .i64 (k : Int) ∧ cv = .int .u64 (c : Int) ∧ c < 2 ∧ R.length = np + 1 ∧ (∀ x ∈ R, x < 4294967296) ∧ (∀ j, k ≤ j → j < np + 1 → R[j]? = some 0) ∧ val 4294967296 R + c * 4294967296 ^ k = val 4294967296 (p.take k) + val 4294967296 (q.take k) ∧ ownU wr w.heap.size w.heap.size R ∧ Below w.heap.size w wr) (fun _ v _ => np - (intOf v).toNat)
  case atStart =>
    refine ⟨0, 0, List.replicate (np + 1) 0, Nat.zero_le _, rfl, rfl, by omega, by simp, ?_, ?_, by simp [val_zeros, val], hrow, hbm⟩
    · intro x hx
      rw [List.eq_of_mem_replicate hx]; omega
    · intro j _ hj
      rw [List.getElem?_replicate, if_pos hj]
  case round =>
    obtain ⟨k, c, R, hk, rfl, rfl, hc, hRl, hRs, hRz, hRv, hRo, hbr⟩ := hrel
    clear hrow hbm
    have hz := hRz k (Nat.le_refl _) (by omega)
    have cr := hRo.cell hz
    have zr := hRo.frozen k
    by_cases hkl : k < np
    · have hki : (k : Int) < (np : Int) := by omega
      have hkp : k < p.length := by rw [← unhide HNP]; exact hkl
      obtain ⟨x, hx⟩ : ∃ x, p[k]? = some x := ⟨p[k], List.getElem?_eq_getElem hkp⟩
      obtain ⟨gp, ep, hgp, hcp⟩ := (unhide HP).cells (fun e => by rw [e] at hkp; simp at hkp)
      subst ep
      have cx := (hbr.cell (p := ⟨gp, k, none⟩) hgp).trans (hcp k x hx)
      have hxs := (unhide HP).small x (List.mem_of_getElem? hx)
      by_cases hkq : k < nq
      · have hkqi : (k : Int) < (nq : Int) := by omega
        have hkql : k < q.length := by rw [← unhide HNQ]; exact hkq
        obtain ⟨y, hy⟩ : ∃ y, q[k]? = some y := ⟨q[k], List.getElem?_eq_getElem hkql⟩
        obtain ⟨gq, eq, hgq, hcq⟩ := (unhide HQ).cells (fun e => by rw [e] at hkql; simp at hkql)
        subst eq
        have cy := (hbr.cell (p := ⟨gq, k, none⟩) hgq).trans (hcq k y hy)
        have hys := (unhide HQ).small y (List.mem_of_getElem? hy)
        obtain ⟨t, ht⟩ : ∃ t, t = c + x + y := ⟨_, rfl⟩
        obtain ⟨s, hs⟩ : ∃ s, s = t % 4294967296 := ⟨_, rfl⟩
        obtain ⟨c', hc'⟩ : ∃ c', c' = t / 4294967296 := ⟨_, rfl⟩
        have hti : (c : Int) + (x : Int) + (y : Int) = (t : Int) := by omega
        have hsi : (t : Int) % 4294967296 = (s : Int) := by omega
        have hci : (t : Int) / 4294967296 = (c' : Int) := by omega
        have htb : t < 18446744073709551616 := by omega
        have hcx : (c : Int) + (x : Int) < 18446744073709551616 := by omega
        have hsb : s < 4294967296 := by omega
        have hcb : c' < 2 := by omega
        have hvs := val_set 4294967296 R k 0 s hz
        have hnew := add_step 4294967296 (val 4294967296 R) (val 4294967296 (R.set k s)) (val 4294967296 (p.take k)) (val 4294967296 (q.take k)) x y c c' s k (by omega) (by omega) hRv
        rw [← val_take_succ _ p k x hx, ← val_take_succ _ q k y hy] at hnew
        have HNEW := hide hnew
        have hkb : (k : Int) < ((np + 1 : Nat) : Int) := by omega
        clear hnew hvs ht hs hc' hRv hy hx hz hcp hcq hkp hkql
        go_wp2
        go_roundw
        case rel =>
          refine ⟨k + 1, c', R.set k s, by omega, by go_num, rfl, hcb, by rw [List.length_set]; exact hRl, mem_set hRs hsb, ?_, unhide HNEW, hRo.set k s, hbr.setCell (p := ⟨w.heap.size, k, none⟩) (Nat.le_refl _) _⟩
          intro j hj1 hj2
          rw [List.getElem?_set_ne (by omega)]
          exact hRz j (by omega) hj2
        case measure => simp [intOf]; omega
      · have hkqi : ¬ (k : Int) < (nq : Int) := by omega
        obtain ⟨t, ht⟩ : ∃ t, t = c + x := ⟨_, rfl⟩
        obtain ⟨s, hs⟩ : ∃ s, s = t % 4294967296 := ⟨_, rfl⟩
        obtain ⟨c', hc'⟩ : ∃ c', c' = t / 4294967296 := ⟨_, rfl⟩
        have hti : (c : Int) + (x : Int) = (t : Int) := by omega
        have hsi : (t : Int) % 4294967296 = (s : Int) := by omega
        have hci : (t : Int) / 4294967296 = (c' : Int) := by omega
        have htb : t < 18446744073709551616 := by omega
        have hsb : s < 4294967296 := by omega
        have hcb : c' < 2 := by omega
        have hvs := val_set 4294967296 R k 0 s hz
        have hnew := add_step 4294967296 (val 4294967296 R) (val 4294967296 (R.set k s)) (val 4294967296 (p.take k)) (val 4294967296 (q.take k)) x 0 c c' s k (by omega) (by omega) hRv
        have hqt : q.take (k + 1) = q.take k := by rw [List.take_of_length_le (by rw [← unhide HNQ]; omega), List.take_of_length_le (by rw [← unhide HNQ]; omega)]
        rw [← val_take_succ _ p k x hx, Nat.zero_mul, Nat.add_zero, ← hqt] at hnew
        have HNEW := hide hnew
        have hkb : (k : Int) < ((np + 1 : Nat) : Int) := by omega
        clear hnew hvs ht hs hc' hRv hx hz hcp hkp hqt
        go_wp2
        go_roundw
        case rel =>
          refine ⟨k + 1, c', R.set k s, by omega, by go_num, rfl, hcb, by rw [List.length_set]; exact hRl, mem_set hRs hsb, ?_, unhide HNEW, hRo.set k s, hbr.setCell (p := ⟨w.heap.size, k, none⟩) (Nat.le_refl _) _⟩
          intro j hj1 hj2
          rw [List.getElem?_set_ne (by omega)]
          exact hRz j (by omega) hj2
        case measure => simp [intOf]; omega
    · obtain rfl : k = np := by omega
      have hki : ¬ (k : Int) < (k : Int) := by omega
      have hcm : (c : Int) % 4294967296 = (c : Int) := by omega
      have hkb : (k : Int) < ((k + 1 : Nat) : Int) := by omega
      have hvs := val_set 4294967296 R k 0 c hz
      rw [List.take_of_length_le (by rw [← unhide HNP]; exact Nat.le_refl _), List.take_of_length_le (by rw [← unhide HNQ]; exact hqp)] at hRv
      have hval : val 4294967296 (R.set k c) = val 4294967296 p + val 4294967296 q := by omega
      have HVAL := hide hval
      have hro := hRo.set k c
      have hRl' : (R.set k c).length = k + 1 := by rw [List.length_set]; exact hRl
      have hws := hro.ws (mem_set hRs (by omega)) (by rw [hRl']; omega)
      have htr := trim_any _ _ (R.set k c) _ hws
      rw [hRl'] at htr
      have HTR := hide htr
      have HB2 := hide (hbr.setCell (p := ⟨w.heap.size, k, none⟩) (Nat.le_refl _) (.int .u32 (c : Int)))
      clear htr hval hvs hRv hws hro hRl' hz
      go_wp2_with fail
      refine (unhide HTR).mono ?_
      rintro e w1 ⟨o, cap, rfl, hw1, rfl⟩
      go_wp2
      go_ret
      exact ⟨o, cap, _, rfl, hw1, unhide HVAL, unhide HB2⟩

theorem add_any (po qo : Option Addr) (cp cq : Nat) (p q : List Nat) (w : World) (hp : isWs w po cp p) (hq : isWs w qo cq q) (hlp : p.length ≤ 30000) (hlq : q.length ≤ 30000) :
    Calls Tryd.prog 64 #[.slice po p.length cp, .slice qo q.length cq] w fun e w' => ∃ o cap l, e = .returned (.slice o (trimL l).length cap) ∧ isWs w' o cap (trimL l) ∧ val 4294967296 l = val 4294967296 p + val 4294967296 q ∧ Below w.heap.size w w' := by
  rcases Nat.lt_or_ge p.length q.length with h | h
  · refine (add_lt qo po cq cp q p w hq hp hlq h).mono ?_
    rintro e w' ⟨o, cap, l, he, hw, hv, hb⟩
    exact ⟨o, cap, l, he, hw, by rw [hv, Nat.add_comm], hb⟩
  · exact add_ge po qo cp cq p q w hp hq hlp h

set_option maxHeartbeats 1000000 in
theorem sum_any (po qo : Option Addr) (cp cq : Nat) (p q : List Nat) (w : World) (hp : isWs w po cp p) (hq : isWs w qo cq q) (hlp : p.length ≤ 30000) (hlq : q.length ≤ 30000) :
    Calls Tryd.prog 49 #[.bool false, .slice po p.length cp, .bool false, .slice qo q.length cq] w fun e w' => ∃ o cap l, e = .returned (.tuple #[.bool false, .slice o (trimL l).length cap]) ∧ isWs w' o cap (trimL l) ∧ val 4294967296 l = val 4294967296 p + val 4294967296 q ∧ Below w.heap.size w w' := by
  go_enter Tryd.func49, Tryd.ntmps49
  go_wp2_with fail
  refine (add_any po qo cp cq p q w hp hq hlp hlq).mono ?_
  rintro e w1 ⟨o, cap, l, rfl, hw1, hv, hb1⟩
  go_wp2
  go_ret2
  exact ⟨o, cap, l, rfl, hw1, hv, hb1⟩
end Go.Proofs.YthplbfjpmnpjmaaDoor

namespace Go.Proofs.YthplbfjpmnpjmaaDoor
open Go.RowKit
attribute [local go_sem ↓] Go.wp_at_zero Go.wp_at_succ

set_option maxHeartbeats 1000000 in
theorem Add_any (b bx cy X Y : Nat) (v : Value) (w : World) (hb : isNum w b v) (hx : isBig w bx X) (hy : isBig w cy Y) (hX : X < 4294967296 ^ 200) (hY : Y < 4294967296 ^ 200) :
    Calls Tryd.prog 24 #[.pointer (some ⟨b, 0, none⟩), .pointer (some ⟨bx, 0, none⟩), .pointer (some ⟨cy, 0, none⟩)] w fun e w' =>
      e = .returned (.pointer (some ⟨b, 0, none⟩)) ∧ isBig w' b (X + Y) ∧ But w.heap.size b w w' := by
  obtain ⟨xo, xc, xl, x0, x1, xlt, xw, xt, rfl⟩ := hx.open
  obtain ⟨yo, yc, yl, y0, y1, ylt, yw, yt, rfl⟩ := hy.open
  have hxl := trim_len (by omega) xl 200 xt hX
  have hyl := trim_len (by omega) yl 200 yt hY
  have HB := hide hb
  clear hx hy hX hY xt yt hb
  go_enter Tryd.func24, Tryd.ntmps24
  go_wp2
  go_region_with (first
      | (go_at_call 48; refine (give_any b v ro rc (trimL rl) _ ((show isNum w.drew b v from unhide HB).below hbm (Nat.le_refl _)) hrw (trimL_idem _)).mono ?_; rintro e wg ⟨rfl, hbig, hbut⟩)
      | (go_at_call 49; refine (sum_any xo yo xc yc xl yl w.drew ⟨xw.small, xw.le, xw.nil, xw.len, xw.cells⟩ ⟨yw.small, yw.le, yw.nil, yw.len, yw.cells⟩ (by omega) (by omega)).mono ?_; rintro e wm ⟨ro, rc, rl, rfl, hrw, hrv, hbm⟩; have x0' := (hbm.cell (p := ⟨bx, 0, none⟩) (by dsimp only [World.drew]; omega)).trans x0; have y0' := (hbm.cell (p := ⟨cy, 0, none⟩) (by dsimp only [World.drew]; omega)).trans y0))
  all_goals (go_wp2; go_ret; rw [trimL_val, hrv] at hbig; exact ⟨rfl, hbig, ((But.of_below hbm).trans (hbut.mono hbm.size)).drew⟩)
end Go.Proofs.YthplbfjpmnpjmaaDoor

namespace Go.Proofs.YthplbfjpmnpjmaaDoor
open Go.RowKit
attribute [local go_sem ↓] Go.wp_at_zero Go.wp_at_succ

/-- What div answers: quotient and rest, each words of its own. -/
def Divd (A D : Nat) (w : World) (e : Ending) (w' : World) : Prop :=
  ∃ qo qc ql ro rc rl, e = .returned (.tuple #[.slice qo (trimL ql).length qc, .slice ro (trimL rl).length rc]) ∧ isWs w' qo qc (trimL ql) ∧ isWs w' ro rc (trimL rl) ∧ val 4294967296 ql = A / D ∧ val 4294967296 rl = A % D ∧ Below w.heap.size w w'

theorem words_val (x : Nat) (w : World) (hx : x < 18446744073709551616) :
    Calls Tryd.prog 65 #[.int .u64 (x : Int)] w fun e w' => ∃ ao cap l, e = .returned (.slice ao (trimL l).length cap) ∧ isWs w' ao cap (trimL l) ∧ val 4294967296 l = x ∧ Below w.heap.size w w' := by
  have e : x = x % 4294967296 + 4294967296 * (x / 4294967296) := by omega
  have h := words_any (x % 4294967296) (x / 4294967296) w (by omega) (by omega)
  rw [← e] at h
  refine h.mono ?_
  rintro e' w' ⟨ao, cap, rfl, h1, h2⟩
  exact ⟨ao, cap, _, rfl, h1, by simp [val]; omega, h2⟩

theorem cmp_less (ao bo : Option Addr) (ca cb : Nat) (a b : List Nat) (w : World) (ha : isWs w ao ca a) (hb : isWs w bo cb b) (ta : trimL a = a) (tb : trimL b = b) :
    Calls Tryd.prog 53 #[.slice ao a.length ca, .slice bo b.length cb] w fun e w' => e = .returned (.int .i64 (cmpN (val 4294967296 a) (val 4294967296 b))) ∧ ∃ n, w' = w.drewN n := by
  have h := cmp_any ao bo ca cb a b w ha hb
  rw [cmp_val a b ta tb ha.small hb.small] at h
  exact h

set_option maxHeartbeats 1000000 in
set_option maxRecDepth 100000 in
theorem div_less (ao bo : Option Addr) (ca cb : Nat) (a b : List Nat) (w : World) (ha : isWs w ao ca a) (hb : isWs w bo cb b) (ta : trimL a = a) (tb : trimL b = b) (hlt : val 4294967296 a < val 4294967296 b) :
    Calls Tryd.prog 77 #[.slice ao a.length ca, .slice bo b.length cb] w (Divd (val 4294967296 a) (val 4294967296 b) w) := by
  have hbl : ¬ (b.length : Int) = 0 := by
    have : b ≠ [] := by rintro rfl; simp [val] at hlt
    have := List.length_pos_iff.2 this
    omega
  have hc := cmp_less ao bo ca cb a b w ha hb ta tb
  have e : cmpN (val 4294967296 a) (val 4294967296 b) = -1 := by unfold cmpN; rw [if_pos hlt]
  rw [e] at hc
  have HC := hide hc
  have HA := hide ha
  have HTA := hide ta
  have HLT := hide hlt
  clear hc e ha hb ta tb hlt
  go_enter Tryd.func77, Tryd.ntmps77
  go_wp2_with fail
  refine (unhide HC).mono ?_
  rintro e w1 ⟨rfl, n, rfl⟩
  go_wp2_with fail
  refine (twin_any ao ca a _ ((unhide HA).drewN n)).mono ?_
  rintro e w2 ⟨o, cap, rfl, hw, hb⟩
  go_wp2
  go_ret2
  refine ⟨none, 0, [], o, cap, a, ?_, isWs_nil _, ?_, ?_, ?_, ?_⟩
  · rw [unhide HTA]; rfl
  · rw [unhide HTA]; exact hw
  · rw [Nat.div_eq_of_lt (unhide HLT)]; rfl
  · rw [Nat.mod_eq_of_lt (unhide HLT)]
  · exact ⟨hb.os, hb.tape, hb.output, hb.size, hb.block⟩

set_option maxHeartbeats 1000000 in
set_option maxRecDepth 100000 in
theorem div_one (ao bo : Option Addr) (ca cb d : Nat) (a : List Nat) (w : World) (ha : isWs w ao ca a) (hb : isWs w bo cb [d]) (ta : trimL a = a) (tb : trimL [d] = [d]) (hle : d ≤ val 4294967296 a) (hla2 : ¬ a.length ≤ 2) (hla : a.length ≤ 30000) :
    Calls Tryd.prog 77 #[.slice ao a.length ca, .slice bo 1 cb] w (Divd (val 4294967296 a) d w) := by
  have hd : val 4294967296 [d] = d := by simp [val]
  have hd0 : 0 < d := by
    have := trim_low [d] tb 0 (by simp)
    simp [val] at this; omega
  have hds := hb.small d (by simp)
  have hc := cmp_less ao bo ca cb a [d] w ha hb ta tb
  rw [hd] at hc
  have hcm : ¬ cmpN (val 4294967296 a) d < 0 := by unfold cmpN; rw [if_neg (by omega)]; split <;> omega
  obtain ⟨C, hC⟩ : ∃ C, C = cmpN (val 4294967296 a) d := ⟨_, rfl⟩
  rw [← hC] at hc hcm
  obtain ⟨g, rfl, hg, hcell⟩ := hb.cells (by simp)
  have cd := hcell 0 d rfl
  have hcap := hb.le
  have hc1 : (1 : Int) ≤ (cb : Int) := by simp at hcap; omega
  have hsm := fun n => small_any ao ca d a (w.drewN n) (ha.drewN n) hla hd0 hds
  have hali : ¬ (a.length : Int) ≤ 2 := by omega
  have HC := hide hc
  have HSM := hide hsm
  clear hc hsm hC hcell ta tb hle hd hla2 hcap hb
  go_enter Tryd.func77, Tryd.ntmps77
  go_wp2_with fail
  refine (unhide HC).mono ?_
  rintro e w1 ⟨rfl, n, rfl⟩
  go_wp2_with fail
  refine (unhide HSM n).mono ?_
  rintro e w2 ⟨o, cap, l, r, rfl, hw2, hv, hr, hb2⟩
  have hws : isWs (w2.alloc (.cells #[.int .u32 (r : Int)] 106 (0, 0))) (some ⟨w2.heap.size, 0, none⟩) 1 [r] := by
    refine ⟨by simp; omega, Nat.le_refl _, (fun e => by cases e), by simp, fun _ => ⟨w2.heap.size, rfl, by simp, ?_⟩⟩
    intro k x hx
    match k, hx with
    | 0, hx => simp at hx; subst hx; simp
  have HV := hide hv
  have HWS := hide hws
  clear hv hws
  go_wp2_with fail
  refine (trim_any _ _ [r] _ (unhide HWS)).mono ?_
  rintro e w3 ⟨o2, cap2, rfl, hw3, rfl⟩
  go_wp2
  go_ret2
  have ha2 : Below w2.heap.size w2 (w2.alloc (.cells #[.int .u32 (r : Int)] 106 (0, 0))) := (Below.refl _ _).alloc (Nat.le_refl _) _
  have hb0 : Below w.heap.size w w2 := ⟨hb2.os, hb2.tape, hb2.output, hb2.size, hb2.block⟩
  have hdm : val 4294967296 l = val 4294967296 a / d ∧ r = val 4294967296 a % d := by
    rw [← unhide HV, Nat.mul_comm, Nat.mul_add_div hd0, Nat.mul_add_mod, Nat.div_eq_of_lt hr, Nat.mod_eq_of_lt hr]
    exact ⟨by omega, rfl⟩
  refine ⟨o, cap, l, o2, cap2, [r], rfl, hw2.below ha2 (Nat.le_refl _), hw3, hdm.1, ?_, ?_⟩
  · simp only [val]; rw [← hdm.2]; simp
  · exact hb0.trans (ha2.mono hb0.size)
end Go.Proofs.YthplbfjpmnpjmaaDoor
