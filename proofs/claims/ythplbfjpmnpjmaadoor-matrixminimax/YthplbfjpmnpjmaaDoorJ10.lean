/-
  parlourbig.sub, walked: words less words (not below).
  Plain mathematics of fractions in lowest terms (Lean's own Rat), as parlourbig reckons them.
-/
import Derived.Test.YthplbfjpmnpjmaaDoorJ9
import Derived.Test.YthplbfjpmnpjmaaDoorJ1
namespace Go.Proofs.YthplbfjpmnpjmaaDoor
open Go.RowKit
attribute [local go_sem ↓] Go.wp_at_zero Go.wp_at_succ

/-- One word's rest: what is stored, what is borrowed. -/
theorem less_step (B R R' a b x y c c' s k : Nat) (h : R' = R + s * B ^ k) (hs : s + y + c = x + B * c') (hinv : R + b = a + c * B ^ k) :
    R' + (b + y * B ^ k) = (a + x * B ^ k) + c' * B ^ (k + 1) := by
  have e1 : c' * B ^ (k + 1) = B * c' * B ^ k := by rw [Nat.pow_succ, Nat.mul_comm (B ^ k) B, ← Nat.mul_assoc, Nat.mul_comm c' B]
  have e2 : (s + y + c) * B ^ k = (x + B * c') * B ^ k := by rw [hs]
  simp only [Nat.add_mul] at e2
  rw [e1, h]
  omega

set_option maxHeartbeats 2000000 in
set_option maxRecDepth 100000 in
theorem sub_any (po qo : Option Addr) (cp cq : Nat) (p q : List Nat) (w : World) (hp : isWs w po cp p) (hq : isWs w qo cq q) (hlp : p.length ≤ 30000) (hqp : q.length ≤ p.length) (hle : val 4294967296 q ≤ val 4294967296 p) :
    Calls Tryd.prog 73 #[.slice po p.length cp, .slice qo q.length cq] w fun e w' => ∃ o cap l, e = .returned (.slice o (trimL l).length cap) ∧ isWs w' o cap (trimL l) ∧ val 4294967296 l = val 4294967296 p - val 4294967296 q ∧ Below w.heap.size w w' := by
  obtain ⟨i0, hi, hz0, hz1, hz2⟩ := info_parts Tryd.infoU
  obtain ⟨np, hnp⟩ : ∃ np, np = p.length := ⟨_, rfl⟩
  obtain ⟨nq, hnq⟩ : ∃ nq, nq = q.length := ⟨_, rfl⟩
  rw [← hnp, ← hnq]
  rw [← hnp] at hlp hqp
  rw [← hnq] at hqp
  have HNP := hide hnp
  have HNQ := hide hnq
  have HP := hide hp
  have HQ := hide hq
  have HLE := hide hle
  clear hnp hnq hp hq hle
  go_enter Tryd.func73, Tryd.ntmps73
  go_wp2_with (at_make; go_must (refine wpList_make_full _ rfl _ _ 35 rfl w.heap.size 106 i0 (.int .u32 0) 1 Tryd.underlying35 hi hz0 hz1 .i64 .i64 _ _ np rfl rfl (by go_num) (by go_num) (by rw [hz2]; omega) (by unfold maxLen; omega) (Nat.le_refl _) ?_; intro wm hown hgrow))
  have hbm : Below w.heap.size w wm := (Below.refl _ _).grown hgrow (Nat.le_refl _) (by simp)
  have hrow : ownU wm w.heap.size w.heap.size (List.replicate np 0) := by
    unfold ownU
    rw [List.length_replicate, ← made_zeros]
    exact hown
  clear hown hgrow
  go_loopw [6, 7] (fun cv v wr => ∃ (k c : Nat) (R : List Nat), k ≤ np ∧ v = .int .i64 (k : Int) ∧ cv = .int .u64 (c : Int) ∧ c < 2 ∧ R.length = np ∧ (∀ x ∈ R, x < 4294967296) ∧ (∀ j, k ≤ j → j < np → R[j]? = some 0) ∧ val 4294967296 R + val 4294967296 (q.take k) = val 4294967296 (p.take k) + c * 4294967296 ^ k ∧ ownU wr w.heap.size w.heap.size R ∧ Below w.heap.size w wr) (fun _ v _ => np - (intOf v).toNat)
  case atStart =>
    refine ⟨0, 0, List.replicate np 0, Nat.zero_le _, rfl, rfl, by omega, by simp, ?_, ?_, by simp [val_zeros, val], hrow, hbm⟩
    · intro x hx
      rw [List.eq_of_mem_replicate hx]; omega
    · intro j _ hj
      rw [List.getElem?_replicate, if_pos hj]
  case round =>
    obtain ⟨k, c, R, hk, rfl, rfl, hc, hRl, hRs, hRz, hRv, hRo, hbr⟩ := hrel
    clear hrow hbm
    by_cases hkl : k < np
    · have hz := hRz k (Nat.le_refl _) (by omega)
      have cr := hRo.cell hz
      have zr := hRo.frozen k
      have hki : (k : Int) < (np : Int) := by omega
      have hkp : k < p.length := by rw [← unhide HNP]; exact hkl
      obtain ⟨x, hx⟩ : ∃ x, p[k]? = some x := ⟨p[k], List.getElem?_eq_getElem hkp⟩
      obtain ⟨gp, ep, hgp, hcp⟩ := (unhide HP).cells (fun e => by rw [e] at hkp; simp at hkp)
      subst ep
      have cx := (hbr.cell (p := ⟨gp, k, none⟩) hgp).trans (hcp k x hx)
      have hxs := (unhide HP).small x (List.mem_of_getElem? hx)
      by_cases hkq : k < nq
      · have hkqi : (k : Int) < (nq : Int) := by omega
        have hkql : k < q.length := by rw [← unhide HNQ]; exact hkq
        obtain ⟨y, hy⟩ : ∃ y, q[k]? = some y := ⟨q[k], List.getElem?_eq_getElem hkql⟩
        obtain ⟨gq, eq, hgq, hcq⟩ := (unhide HQ).cells (fun e => by rw [e] at hkql; simp at hkql)
        subst eq
        have cy := (hbr.cell (p := ⟨gq, k, none⟩) hgq).trans (hcq k y hy)
        have hys := (unhide HQ).small y (List.mem_of_getElem? hy)
        obtain ⟨U, hU⟩ : ∃ U : Nat, U = (x + 18446744073709551616 - c) % 18446744073709551616 := ⟨_, rfl⟩
        obtain ⟨T, hT⟩ : ∃ T : Nat, T = (x + 18446744073709551616 - c - y) % 18446744073709551616 := ⟨_, rfl⟩
        have hUi : IntKind.u64.wrap ((x : Int) - (c : Int)) = (U : Int) := by show ((x : Int) - (c : Int)) % 18446744073709551616 = (U : Int); omega
        have hTi : IntKind.u64.wrap ((U : Int) - (y : Int)) = (T : Int) := by show ((U : Int) - (y : Int)) % 18446744073709551616 = (T : Int); omega
        obtain ⟨s, hs⟩ : ∃ s, s = T % 4294967296 := ⟨_, rfl⟩
        obtain ⟨c', hc'⟩ : ∃ c', c' = (if x < y + c then 1 else 0) := ⟨_, rfl⟩
        have hsi : (T : Int) % 4294967296 = (s : Int) := by omega
        have hsb : s < 4294967296 := by omega
        have hcb : c' < 2 := by rw [hc']; split <;> omega
        have hsum : s + y + c = x + 4294967296 * c' := by rw [hs, hc']; split <;> omega
        have hci : (T : Int) / 9223372036854775808 = (c' : Int) := by rw [hc']; split <;> omega
        have hTb : (T : Int) < 18446744073709551616 := by omega
        have hvs := val_set 4294967296 R k 0 s hz
        have hnew := less_step 4294967296 (val 4294967296 R) (val 4294967296 (R.set k s)) (val 4294967296 (p.take k)) (val 4294967296 (q.take k)) x y c c' s k (by omega) hsum hRv
        rw [← val_take_succ _ p k x hx, ← val_take_succ _ q k y hy] at hnew
        clear hy hcq hkql hT hU
        have HNEW := hide hnew
        have hkb : (k : Int) < (np : Int) := by omega
        clear hnew hvs hs hc' hsum hRv hx hz hcp hkp
        go_wp2
        go_roundw
        case rel =>
          refine ⟨k + 1, c', R.set k s, by omega, by go_num, rfl, hcb, by rw [List.length_set]; exact hRl, mem_set hRs hsb, ?_, unhide HNEW, hRo.set k s, hbr.setCell (p := ⟨w.heap.size, k, none⟩) (Nat.le_refl _) _⟩
          intro j hj1 hj2
          rw [List.getElem?_set_ne (by omega)]
          exact hRz j (by omega) hj2
        case measure => simp [intOf]; omega
      · have hkqi : ¬ (k : Int) < (nq : Int) := by omega
        obtain ⟨y, hy0⟩ : ∃ y, y = 0 := ⟨0, rfl⟩
        obtain ⟨T, hT⟩ : ∃ T : Nat, T = (x + 18446744073709551616 - c) % 18446744073709551616 := ⟨_, rfl⟩
        have hTi : IntKind.u64.wrap ((x : Int) - (c : Int)) = (T : Int) := by show ((x : Int) - (c : Int)) % 18446744073709551616 = (T : Int); omega
        obtain ⟨s, hs⟩ : ∃ s, s = T % 4294967296 := ⟨_, rfl⟩
        obtain ⟨c', hc'⟩ : ∃ c', c' = (if x < y + c then 1 else 0) := ⟨_, rfl⟩
        have hsi : (T : Int) % 4294967296 = (s : Int) := by omega
        have hsb : s < 4294967296 := by omega
        have hcb : c' < 2 := by rw [hc']; split <;> omega
        have hsum : s + y + c = x + 4294967296 * c' := by rw [hs, hc']; split <;> omega
        have hci : (T : Int) / 9223372036854775808 = (c' : Int) := by rw [hc']; split <;> omega
        have hTb : (T : Int) < 18446744073709551616 := by omega
        have hvs := val_set 4294967296 R k 0 s hz
        have hnew := less_step 4294967296 (val 4294967296 R) (val 4294967296 (R.set k s)) (val 4294967296 (p.take k)) (val 4294967296 (q.take k)) x y c c' s k (by omega) hsum hRv
        have hqt : q.take (k + 1) = q.take k := by rw [List.take_of_length_le (by rw [← unhide HNQ]; omega), List.take_of_length_le (by rw [← unhide HNQ]; omega)]
        rw [← val_take_succ _ p k x hx, hy0, Nat.zero_mul, Nat.add_zero, ← hqt] at hnew
        clear hqt hy0 hT
        have HNEW := hide hnew
        have hkb : (k : Int) < (np : Int) := by omega
        clear hnew hvs hs hc' hsum hRv hx hz hcp hkp
        go_wp2
        go_roundw
        case rel =>
          refine ⟨k + 1, c', R.set k s, by omega, by go_num, rfl, hcb, by rw [List.length_set]; exact hRl, mem_set hRs hsb, ?_, unhide HNEW, hRo.set k s, hbr.setCell (p := ⟨w.heap.size, k, none⟩) (Nat.le_refl _) _⟩
          intro j hj1 hj2
          rw [List.getElem?_set_ne (by omega)]
          exact hRz j (by omega) hj2
        case measure => simp [intOf]; omega
    · obtain rfl : k = np := by omega
      have hki : ¬ (k : Int) < (k : Int) := by omega
      rw [List.take_of_length_le (l := q) (by rw [← unhide HNQ]; exact hqp), List.take_of_length_le (l := p) (by rw [← unhide HNP]; exact Nat.le_refl _)] at hRv
      have hc0 : c = 0 := by
        rcases Nat.eq_zero_or_pos c with h | h
        · exact h
        · have h1 : c = 1 := by omega
          subst h1
          have h2 := val_lt 4294967296 R hRs
          rw [hRl] at h2
          have := unhide HLE
          omega
      subst hc0
      have hval : val 4294967296 R = val 4294967296 p - val 4294967296 q := by omega
      have HVAL := hide hval
      have hws := hRo.ws hRs (by rw [hRl]; omega)
      have htr := trim_any _ _ R _ hws
      rw [hRl] at htr
      have HTR := hide htr
      clear htr hval hRv hws
      go_wp2_with fail
      refine (unhide HTR).mono ?_
      rintro e w1 ⟨o, cap, rfl, hw1, rfl⟩
      go_wp2
      go_ret
      exact ⟨o, cap, _, rfl, hw1, unhide HVAL, hbr⟩
end Go.Proofs.YthplbfjpmnpjmaaDoor

namespace Go.Proofs.YthplbfjpmnpjmaaDoor

theorem mk_den (x : Int) (d : Nat) (hd : d ≠ 0) : (mkRat x d).den = d / Nat.gcd x.natAbs d := by
  rw [Rat.den_mkRat, if_neg hd, Nat.gcd_comm]
theorem gcd_dvd_int (x : Int) (d : Nat) : ((Nat.gcd x.natAbs d : Nat) : Int) ∣ x := by
  rw [Int.ofNat_dvd_left]
  exact Nat.gcd_dvd_left _ _
theorem mk_num (x : Int) (d : Nat) (hd : d ≠ 0) : (mkRat x d).num = x / ((Nat.gcd x.natAbs d : Nat) : Int) := by
  rw [Rat.num_mkRat, if_neg hd, Nat.gcd_comm]
theorem mk_num_abs (x : Int) (d : Nat) (hd : d ≠ 0) : (mkRat x d).num.natAbs = x.natAbs / Nat.gcd x.natAbs d := by
  rw [mk_num x d hd, Int.natAbs_ediv_of_dvd (gcd_dvd_int x d)]
  simp
theorem mk_num_neg (x : Int) (d : Nat) (hd : d ≠ 0) : decide ((mkRat x d).num < 0) = decide (x < 0) := by
  have hg : 0 < Nat.gcd x.natAbs d := Nat.gcd_pos_of_pos_right _ (Nat.pos_of_ne_zero hd)
  rw [mk_num x d hd]
  obtain ⟨q, hq⟩ := gcd_dvd_int x d
  generalize (Nat.gcd x.natAbs d) = g at hg hq
  have hgi : (0 : Int) < (g : Int) := by omega
  rw [hq, Int.mul_ediv_cancel_left _ (by omega)]
  by_cases h : q < 0
  · have := Int.mul_neg_of_pos_of_neg hgi h
    simp [h, this]
  · have := Int.mul_nonneg (Int.le_of_lt hgi) (by omega : 0 ≤ q)
    have h2 : ¬ (g : Int) * q < 0 := by omega
    simp [h, h2]
theorem mk_one (x : Int) : mkRat x 1 = (x : Rat) := by
  rw [Rat.mkRat_one]
theorem rat_add (x y : Rat) : x + y = mkRat (x.num * y.den + y.num * x.den) (x.den * y.den) := by
  conv => lhs; rw [← Rat.mkRat_self x, ← Rat.mkRat_self y]
  rw [Rat.mkRat_add_mkRat _ _ x.den_nz y.den_nz]
theorem rat_mul (x y : Rat) : x * y = mkRat (x.num * y.num) (x.den * y.den) := by
  conv => lhs; rw [← Rat.mkRat_self x, ← Rat.mkRat_self y]
  rw [Rat.mkRat_mul_mkRat]
theorem rat_quo (x y : Rat) (hy : 0 < y.num) : x / y = mkRat (x.num * y.den) (x.den * y.num.toNat) := by
  have hyn : ((y.num.toNat : Nat) : Int) = y.num := by omega
  have e1 : ((x.den : Nat) : Rat) ≠ 0 := by have := x.den_nz; simpa using this
  have e2 : ((y.den : Nat) : Rat) ≠ 0 := by have := y.den_nz; simpa using this
  have e3 : ((y.num.toNat : Nat) : Rat) ≠ 0 := by
    have : y.num.toNat ≠ 0 := by omega
    simpa using this
  have hx : x * (x.den : Rat) = (x.num : Rat) := by
    have := Rat.mkRat_eq_div x.num x.den
    rw [Rat.mkRat_self] at this
    grind
  have hy2 : y * (y.den : Rat) = ((y.num.toNat : Nat) : Rat) := by
    have := Rat.mkRat_eq_div y.num y.den
    rw [Rat.mkRat_self] at this
    have h2 : ((y.num.toNat : Nat) : Rat) = ((y.num : Int) : Rat) := by rw [← Rat.intCast_natCast, hyn]
    grind
  rw [Rat.mkRat_eq_div, Rat.intCast_mul, Rat.natCast_mul]
  have e4 : ((y.den : Int) : Rat) = (y.den : Rat) := Rat.intCast_natCast _
  rw [e4]
  grind
def cmpI (x y : Int) : Int := if x < y then -1 else if y < x then 1 else 0
def cmpQ (x y : Rat) : Int := if x < y then -1 else if y < x then 1 else 0
theorem cmp_cross (x y : Rat) : cmpI (x.num * y.den) (y.num * x.den) = cmpQ x y := by
  unfold cmpI cmpQ
  simp only [Rat.lt_iff]
theorem cmp_same (x y : Rat) (h : x.den = y.den) : cmpI x.num y.num = cmpQ x y := by
  rw [← cmp_cross, ← h]
  unfold cmpI
  have hd : (0 : Int) < (x.den : Int) := by have := x.den_nz; omega
  have h1 : x.num * (x.den : Int) < y.num * (x.den : Int) ↔ x.num < y.num := Int.mul_lt_mul_right hd
  have h2 : y.num * (x.den : Int) < x.num * (x.den : Int) ↔ y.num < x.num := Int.mul_lt_mul_right hd
  simp only [h1, h2]
/-- How the greatest common divisor goes round. -/
theorem gcd_turn (a b : Nat) : Nat.gcd b (a % b) = Nat.gcd a b := by rw [Nat.gcd_comm b, ← Nat.gcd_rec, Nat.gcd_comm]
end Go.Proofs.YthplbfjpmnpjmaaDoor
