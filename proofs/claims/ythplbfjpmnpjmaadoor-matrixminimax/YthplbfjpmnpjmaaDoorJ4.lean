/-
  parlourbig.left, walked, by less than a word.
  parlourbig.right, walked, by less than a word.
-/
import Derived.Test.YthplbfjpmnpjmaaDoorJ3
namespace Go.Proofs.YthplbfjpmnpjmaaDoor
open Go.RowKit
attribute [local go_sem ↓] Go.wp_at_zero Go.wp_at_succ

theorem bits_or_u32_nat (a b : Nat) (ha : a < 4294967296) (hb : b < 4294967296) : bits .or .u32 (a : Int) (b : Int) = ((a ||| b : Nat) : Int) := by
  have hx : a ||| b < 2 ^ 32 := Nat.or_lt_two_pow (by omega) (by omega)
  have h1 : (BitVec.ofInt 32 (a : Int)).toNat = a := by
    rw [BitVec.ofInt_natCast, BitVec.toNat_ofNat]; exact Nat.mod_eq_of_lt (by omega)
  have h2 : (BitVec.ofInt 32 (b : Int)).toNat = b := by
    rw [BitVec.ofInt_natCast, BitVec.toNat_ofNat]; exact Nat.mod_eq_of_lt (by omega)
  show IntKind.u32.wrap ((BitVec.ofInt 32 (a : Int) ||| BitVec.ofInt 32 (b : Int)).toNat : Int) = _
  rw [BitVec.toNat_or, h1, h2, IntKind.wrap_u32]
  omega
/-- A word shifted left by s: what stays, what goes over. -/
theorem shift_parts (x s : Nat) (hx : x < 4294967296) (hs : s < 32) : (x * 2 ^ s) % 4294967296 = 2 ^ s * (x % 2 ^ (32 - s)) ∧ x * 2 ^ s / 4294967296 < 2 ^ s ∧ x * 2 ^ s < 18446744073709551616 ∧ 2 ^ s < 4294967296 := by
  have e : (4294967296 : Nat) = 2 ^ (32 - s) * 2 ^ s := by rw [← Nat.pow_add]; have : 32 - s + s = 32 := by omega
                                                           rw [this]
  have h2 : (2 : Nat) ^ s ≤ 2 ^ 31 := Nat.pow_le_pow_right (by omega) (by omega)
  have h3 : (2 : Nat) ^ 31 = 2147483648 := by decide
  have hp : 0 < 2 ^ s := Nat.two_pow_pos s
  have h4 : x * 2 ^ s < 4294967296 * 2 ^ s := Nat.mul_lt_mul_of_pos_right hx hp
  refine ⟨?_, Nat.div_lt_of_lt_mul h4, by omega, by omega⟩
  conv => lhs; rw [e]
  rw [Nat.mul_mod_mul_right, Nat.mul_comm]
theorem or_low (r s m : Nat) (hr : r < 2 ^ s) : r ||| 2 ^ s * m = r + 2 ^ s * m := by
  have h := Nat.two_pow_add_eq_or_of_lt (i := s) (b := r) hr m
  rw [Nat.or_comm, ← h, Nat.add_comm]

set_option maxHeartbeats 2000000 in
set_option maxRecDepth 100000 in
theorem left_any (ao : Option Addr) (ca s : Nat) (a : List Nat) (w : World) (ha : isWs w ao ca a) (hla : a.length ≤ 30000) (ha0 : a ≠ []) (hs : s < 32) :
    Calls Tryd.prog 91 #[.slice ao a.length ca, .int .u64 (s : Int)] w fun e w' => ∃ o cap l, e = .returned (.slice o (trimL l).length cap) ∧ isWs w' o cap (trimL l) ∧ val 4294967296 l = val 4294967296 a * 2 ^ s ∧ l.length = a.length + 1 ∧ Below w.heap.size w w' := by
  obtain ⟨i0, hi, hz0, hz1, hz2⟩ := info_parts Tryd.infoU
  obtain ⟨g, rfl, hg, hc⟩ := ha.cells ha0
  have hpos := List.length_pos_iff.2 ha0
  obtain ⟨n, hn⟩ : ∃ n, n = a.length := ⟨_, rfl⟩
  rw [← hn]
  rw [← hn] at hla hpos
  have hn0 : ¬ (n : Int) = 0 := by omega
  have hs1 : (s : Int) / 32 = 0 := by omega
  have hs2 : (s : Int) % 32 = (s : Int) := by omega
  have HN := hide hn
  have HA := hide ha
  have HC := hide hc
  clear hn ha ha0 hc
  go_enter Tryd.func91, Tryd.ntmps91
  go_wp2_with (at_make; go_must (refine wpList_make_full _ rfl _ _ 35 rfl w.heap.size 106 i0 (.int .u32 0) 1 Tryd.underlying35 hi hz0 hz1 .i64 .i64 _ _ (n + 1) rfl rfl (by go_num) (by go_num) (by rw [hz2]; omega) (by unfold maxLen; omega) (Nat.le_refl _) ?_; intro wm hown hgrow))
  have hbm : Below w.heap.size w wm := (Below.refl _ _).grown hgrow (Nat.le_refl _) (by simp)
  have hrow : ownU wm w.heap.size w.heap.size (List.replicate (n + 1) 0) := by
    unfold ownU
    rw [List.length_replicate, ← made_zeros]
    exact hown
  clear hown hgrow
  go_loopw [8] (fun v wr => ∃ (k r : Nat) (R : List Nat), k ≤ n ∧ v = .int .i64 (k : Int) ∧ R.length = n + 1 ∧ (∀ x ∈ R, x < 4294967296) ∧ R[k]? = some r ∧ r < 2 ^ s ∧ (∀ j, k < j → j < n + 1 → R[j]? = some 0) ∧ val 4294967296 R = val 4294967296 (a.take k) * 2 ^ s ∧ ownU wr w.heap.size w.heap.size R ∧ Below w.heap.size w wr) (fun v _ => n - (intOf v).toNat)
  case atStart =>
    refine ⟨0, 0, List.replicate (n + 1) 0, Nat.zero_le _, rfl, by simp, ?_, by simp, Nat.two_pow_pos s, ?_, by simp [val_zeros, val], hrow, hbm⟩
    · intro x hx
      rw [List.eq_of_mem_replicate hx]; omega
    · intro j _ hj
      rw [List.getElem?_replicate, if_pos hj]
  case round =>
    obtain ⟨k, r, R, hk, rfl, hRl, hRs, hRk, hr, hRz, hRv, hRo, hbr⟩ := hrel
    clear hrow hbm
    by_cases hkl : k < n
    · have hki : (k : Int) < (n : Int) := by omega
      have hka : k < a.length := by rw [← unhide HN]; exact hkl
      obtain ⟨x, hx⟩ : ∃ x, a[k]? = some x := ⟨a[k], List.getElem?_eq_getElem hka⟩
      have cx := (hbr.cell (p := ⟨g, k, none⟩) hg).trans (unhide HC k x hx)
      have hxs := (unhide HA).small x (List.mem_of_getElem? hx)
      have cr := hRo.cell hRk
      have zr := hRo.frozen k
      obtain ⟨p1, p2, p3, p4⟩ := shift_parts x s hxs hs
      obtain ⟨v, hv⟩ : ∃ v, v = x * 2 ^ s := ⟨_, rfl⟩
      rw [← hv] at p1 p2 p3
      obtain ⟨m, hm⟩ : ∃ m, m = v % 4294967296 := ⟨_, rfl⟩
      obtain ⟨h, hh⟩ : ∃ h, h = v / 4294967296 := ⟨_, rfl⟩
      have hvi : IntKind.u64.wrap ((x : Int) * 2 ^ s) = (v : Int) := by
        rw [IntKind.wrap_u64]
        have e : (x : Int) * 2 ^ s = (v : Int) := by rw [hv]; simp
        rw [e]; omega
      have hmi : (v : Int) % 4294967296 = (m : Int) := by omega
      have hhi : (v : Int) / 4294967296 = (h : Int) := by omega
      have hhm : (h : Int) % 4294967296 = (h : Int) := by omega
      obtain ⟨z, hz⟩ : ∃ z, z = r + m := ⟨_, rfl⟩
      have hme : m = 2 ^ s * (x % 2 ^ (32 - s)) := by rw [hm, p1]
      have hor0 : r ||| m = z := by rw [hme, or_low r s _ hr, ← hme, hz]
      have hzb : z < 4294967296 := by
        rw [← hor0]
        have := Nat.or_lt_two_pow (n := 32) (x := r) (y := m) (by omega) (by omega)
        omega
      have hor : bits BinOp.or IntKind.u32 (r : Int) (m : Int) = (z : Int) := by rw [bits_or_u32_nat r m (by omega) (by omega), hor0]
      have hor2 : bits BinOp.or IntKind.u32 (0 : Int) (h : Int) = (h : Int) := by
        have := bits_or_u32_nat 0 h (by omega) (by omega)
        simpa using this
      have hz1 := hRz (k + 1) (by omega) (by omega)
      have hro1 := hRo.set k z
      have hk1 : (R.set k z)[k + 1]? = some 0 := by rw [List.getElem?_set_ne (by omega)]; exact hz1
      have c1 := hro1.cell hk1
      have z1 := hro1.frozen (k + 1)
      have hro2 := hro1.set (k + 1) h
      have hv1 := val_set 4294967296 R k r z hRk
      have hv2 := val_set 4294967296 (R.set k z) (k + 1) 0 h hk1
      have hnew : val 4294967296 ((R.set k z).set (k + 1) h) = val 4294967296 (a.take (k + 1)) * 2 ^ s := by
        rw [val_take_succ _ a k x hx, Nat.add_mul, ← hRv]
        have e1 : x * 4294967296 ^ k * 2 ^ s = v * 4294967296 ^ k := by rw [hv, Nat.mul_assoc, Nat.mul_comm (4294967296 ^ k), ← Nat.mul_assoc]
        have e2 : v = m + 4294967296 * h := by omega
        have e3 : h * 4294967296 ^ (k + 1) = 4294967296 * h * 4294967296 ^ k := by rw [Nat.pow_succ, Nat.mul_comm (4294967296 ^ k), ← Nat.mul_assoc, Nat.mul_comm h]
        rw [e1, e2, Nat.add_mul, ← e3]
        rw [hz, Nat.add_mul] at hv1
        rw [hz] at hv2 ⊢
        omega
      have HNEW := hide hnew
      have HRO := hide hro2
      have hkb : (k : Int) < ((n + 1 : Nat) : Int) := by omega
      have hkb1 : (k : Int) + 1 < ((n + 1 : Nat) : Int) := by omega
      have hk1e : (R.set k z)[k + 1]? = some 0 := hk1
      have hhs : h < 2 ^ s := by rw [hh]; exact p2
      clear hnew hv1 hv2 hro1 hro2 p1 p2 hm hh hz hme hor0 hv hRv hx hz1 hk1e hka
      go_wp2
      go_roundw
      case rel =>
        refine ⟨k + 1, h, (R.set k z).set (k + 1) h, by omega, by go_num, by simp [hRl], mem_set (mem_set hRs hzb) (by omega), ?_, hhs, ?_, unhide HNEW, unhide HRO, (hbr.setCell (p := ⟨w.heap.size, k, none⟩) (Nat.le_refl _) _).setCell (p := ⟨w.heap.size, k + 1, none⟩) (Nat.le_refl _) _⟩
        · rw [List.getElem?_set_self (by rw [List.length_set]; omega)]
        · intro j hj1 hj2
          rw [List.getElem?_set_ne (by omega), List.getElem?_set_ne (by omega)]
          exact hRz j (by omega) hj2
      case measure => simp [intOf]; omega
    · obtain rfl : k = n := by omega
      have hki : ¬ (k : Int) < (k : Int) := by omega
      have hws := hRo.ws hRs (by omega)
      have htr := trim_any _ _ R wr hws
      rw [hRl] at htr
      have HTR := hide htr
      have hval : val 4294967296 R = val 4294967296 a * 2 ^ s := by rw [hRv, List.take_of_length_le (by rw [← unhide HN]; exact Nat.le_refl _)]
      have HVAL := hide hval
      clear htr hval hRv hws hr
      go_wp2_with fail
      refine (unhide HTR).mono ?_
      rintro e w1 ⟨o, cap, rfl, hw1, rfl⟩
      go_wp2
      go_ret
      exact ⟨o, cap, R, rfl, hw1, unhide HVAL, hRl, hbr⟩
end Go.Proofs.YthplbfjpmnpjmaaDoor

namespace Go.Proofs.YthplbfjpmnpjmaaDoor
open Go.RowKit
attribute [local go_sem ↓] Go.wp_at_zero Go.wp_at_succ

theorem right_word (x y q s : Nat) (hs : s < 32) : ((x + 4294967296 * (y + 4294967296 * q)) / 2 ^ s) % 4294967296 = ((x + 4294967296 * y) / 2 ^ s) % 4294967296 := by
  have e : (4294967296 : Nat) = 2 ^ s * 2 ^ (32 - s) := by rw [← Nat.pow_add]; have : s + (32 - s) = 32 := by omega
                                                           rw [this]
  have h : x + 4294967296 * (y + 4294967296 * q) = (x + 4294967296 * y) + 2 ^ s * (4294967296 * (2 ^ (32 - s) * q)) := by
    have e2 : 2 ^ s * (4294967296 * (2 ^ (32 - s) * q)) = 4294967296 * (4294967296 * q) := by
      calc 2 ^ s * (4294967296 * (2 ^ (32 - s) * q)) = (2 ^ s * 2 ^ (32 - s)) * (4294967296 * q) := by
            rw [← Nat.mul_assoc 4294967296, Nat.mul_comm 4294967296 (2 ^ (32 - s)), Nat.mul_assoc (2 ^ (32 - s)), Nat.mul_assoc]
        _ = 4294967296 * (4294967296 * q) := by rw [← e]
    rw [e2]; omega
  rw [h, Nat.add_mul_div_left _ _ (Nat.two_pow_pos s), Nat.add_mul_mod_self_left]
theorem val_drop (a : List Nat) (k : Nat) (hs : ∀ x ∈ a, x < 4294967296) (hk : k ≤ a.length) : val 4294967296 a / 4294967296 ^ k = val 4294967296 (a.drop k) := by
  have h := val_app 4294967296 (a.take k) (a.drop k)
  rw [List.take_append_drop, List.length_take, Nat.min_eq_left hk] at h
  have hl := val_lt 4294967296 (a.take k) (fun x hx => hs x (List.mem_of_mem_take hx))
  rw [List.length_take, Nat.min_eq_left hk] at hl
  rw [h, Nat.add_mul_div_left _ _ (Nat.pow_pos (by omega)), Nat.div_eq_of_lt hl, Nat.zero_add]
theorem val_drop_succ (a : List Nat) (k x : Nat) (h : a[k]? = some x) : val 4294967296 (a.drop k) = x + 4294967296 * val 4294967296 (a.drop (k + 1)) := by
  obtain ⟨hk, he⟩ := List.getElem?_eq_some_iff.1 h
  rw [List.drop_eq_getElem_cons hk, he]
  rfl
/-- Word k of the shifted number. -/
theorem right_at (a : List Nat) (k x y s : Nat) (ha : ∀ x ∈ a, x < 4294967296) (hs : s < 32) (hx : a[k]? = some x) (hy : a[k + 1]? = some y ∨ (a[k + 1]? = none ∧ y = 0)) :
    (val 4294967296 a / 2 ^ s) % 4294967296 ^ (k + 1) = (val 4294967296 a / 2 ^ s) % 4294967296 ^ k + (((x + 4294967296 * y) / 2 ^ s) % 4294967296) * 4294967296 ^ k := by
  have hk : k < a.length := (List.getElem?_eq_some_iff.1 hx).1
  have key : val 4294967296 a / 2 ^ s / 4294967296 ^ k % 4294967296 = (x + 4294967296 * y) / 2 ^ s % 4294967296 := ?_
  · rw [Nat.mod_pow_succ, key, Nat.mul_comm (4294967296 ^ k)]
  rw [Nat.div_div_eq_div_mul, Nat.mul_comm (2 ^ s), ← Nat.div_div_eq_div_mul, val_drop a k ha (by omega), val_drop_succ a k x hx]
  rcases hy with hy | ⟨hy, rfl⟩
  · rw [val_drop_succ a (k + 1) y hy, right_word x y _ s hs]
  · have : a.drop (k + 1) = [] := List.drop_eq_nil_of_le (List.getElem?_eq_none_iff.1 hy)
    rw [this]
    rfl

set_option maxHeartbeats 2000000 in
set_option maxRecDepth 100000 in
theorem right_any (ao : Option Addr) (ca s : Nat) (a : List Nat) (w : World) (ha : isWs w ao ca a) (hla : a.length ≤ 30000) (hs : s < 32) :
    Calls Tryd.prog 92 #[.slice ao a.length ca, .int .u64 (s : Int)] w fun e w' => ∃ o cap l, e = .returned (.slice o (trimL l).length cap) ∧ isWs w' o cap (trimL l) ∧ val 4294967296 l = val 4294967296 a / 2 ^ s ∧ Below w.heap.size w w' := by
  obtain ⟨i0, hi, hz0, hz1, hz2⟩ := info_parts Tryd.infoU
  have hs1 : (s : Int) / 32 = 0 := by omega
  have hs2 : (s : Int) % 32 = (s : Int) := by omega
  by_cases ha0 : a = []
  · subst ha0
    go_enter Tryd.func92, Tryd.ntmps92
    go_wp2
    go_ret
    exact ⟨none, 0, [], rfl, isWs_nil _, by simp [val], Below.refl _ _⟩
  obtain ⟨g, rfl, hg, hc⟩ := ha.cells ha0
  have hpos := List.length_pos_iff.2 ha0
  obtain ⟨n, hn⟩ : ∃ n, n = a.length := ⟨_, rfl⟩
  rw [← hn]
  rw [← hn] at hla hpos
  have hn0 : ¬ (n : Int) ≤ 0 := by omega
  have hlt := val_lt 4294967296 a ha.small
  rw [← hn] at hlt
  have HLT := hide hlt
  have HN := hide hn
  have HA := hide ha.small
  have HC := hide hc
  clear hn ha ha0 hc hlt
  go_enter Tryd.func92, Tryd.ntmps92
  go_wp2_with (at_make; go_must (refine wpList_make_full _ rfl _ _ 35 rfl w.heap.size 106 i0 (.int .u32 0) 1 Tryd.underlying35 hi hz0 hz1 .i64 .i64 _ _ n rfl rfl (by go_num) (by go_num) (by rw [hz2]; omega) (by unfold maxLen; omega) (Nat.le_refl _) ?_; intro wm hown hgrow))
  have hbm : Below w.heap.size w wm := (Below.refl _ _).grown hgrow (Nat.le_refl _) (by simp)
  have hrow : ownU wm w.heap.size w.heap.size (List.replicate n 0) := by
    unfold ownU
    rw [List.length_replicate, ← made_zeros]
    exact hown
  clear hown hgrow
  go_loopw [8] (fun v wr => ∃ (k : Nat) (R : List Nat), k ≤ n ∧ v = .int .i64 (k : Int) ∧ R.length = n ∧ (∀ x ∈ R, x < 4294967296) ∧ (∀ j, k ≤ j → j < n → R[j]? = some 0) ∧ val 4294967296 R = (val 4294967296 a / 2 ^ s) % 4294967296 ^ k ∧ ownU wr w.heap.size w.heap.size R ∧ Below w.heap.size w wr) (fun v _ => n - (intOf v).toNat)
  case atStart =>
    refine ⟨0, List.replicate n 0, Nat.zero_le _, rfl, by simp, ?_, ?_, by simp [val_zeros, Nat.mod_one], hrow, hbm⟩
    · intro x hx
      rw [List.eq_of_mem_replicate hx]; omega
    · intro j _ hj
      rw [List.getElem?_replicate, if_pos hj]
  case round =>
    obtain ⟨k, R, hk, rfl, hRl, hRs, hRz, hRv, hRo, hbr⟩ := hrel
    clear hrow hbm
    by_cases hkl : k < n
    · have hki : (k : Int) < (n : Int) := by omega
      have hka : k < a.length := by rw [← unhide HN]; exact hkl
      obtain ⟨x, hx⟩ : ∃ x, a[k]? = some x := ⟨a[k], List.getElem?_eq_getElem hka⟩
      have cx := (hbr.cell (p := ⟨g, k, none⟩) hg).trans (unhide HC k x hx)
      have hxs := unhide HA x (List.mem_of_getElem? hx)
      have hRk := hRz k (Nat.le_refl _) hkl
      have cr := hRo.cell hRk
      have zr := hRo.frozen k
      by_cases hk1 : k + 1 < n
      · have hk1i : (k : Int) + 1 < (n : Int) := by omega
        have hk1a : k + 1 < a.length := by rw [← unhide HN]; exact hk1
        obtain ⟨y, hy⟩ : ∃ y, a[k + 1]? = some y := ⟨a[k + 1], List.getElem?_eq_getElem hk1a⟩
        have cy := (hbr.cell (p := ⟨g, k + 1, none⟩) hg).trans (unhide HC (k + 1) y hy)
        have hys := unhide HA y (List.mem_of_getElem? hy)
        have hat := right_at a k x y s (unhide HA) hs hx (Or.inl hy)
        have hor := or_words x y hxs hys
        obtain ⟨t, ht⟩ : ∃ t, t = x + 4294967296 * y := ⟨_, rfl⟩
        rw [← ht] at hat hor
        obtain ⟨u, hu⟩ : ∃ u, u = t / 2 ^ s := ⟨_, rfl⟩
        obtain ⟨z, hz⟩ : ∃ z, z = u % 4294967296 := ⟨_, rfl⟩
        rw [← hu, ← hz] at hat
        have hti : (t : Int) / 2 ^ s = (u : Int) := by rw [hu]; simp
        have hui : (u : Int) % 4294967296 = (z : Int) := by omega
        have hzb : z < 4294967296 := by omega
        clear hy hk1a
        have hvs := val_set 4294967296 R k 0 z hRk
        have hnew : val 4294967296 (R.set k z) = (val 4294967296 a / 2 ^ s) % 4294967296 ^ (k + 1) := by rw [hat, ← hRv]; omega
        have HNEW := hide hnew
        have hkb : (k : Int) < ((n : Nat) : Int) := by omega
        clear hnew hvs hat hRv hx hka hz hu ht
        go_wp2
        go_roundw
        case rel =>
          refine ⟨k + 1, R.set k z, by omega, by go_num, by simp [hRl], mem_set hRs hzb, ?_, unhide HNEW, hRo.set k z, hbr.setCell (p := ⟨w.heap.size, k, none⟩) (Nat.le_refl _) _⟩
          intro j hj1 hj2
          rw [List.getElem?_set_ne (by omega)]
          exact hRz j (by omega) hj2
        case measure => simp [intOf]; omega
      · have hk1i : ¬ (k : Int) + 1 < (n : Int) := by omega
        have hy : a[k + 1]? = none := List.getElem?_eq_none (by rw [← unhide HN]; omega)
        have hat := right_at a k x 0 s (unhide HA) hs hx (Or.inr ⟨hy, rfl⟩)
        obtain ⟨t, ht⟩ : ∃ t, t = x + 4294967296 * 0 := ⟨_, rfl⟩
        rw [← ht] at hat
        obtain ⟨u, hu⟩ : ∃ u, u = t / 2 ^ s := ⟨_, rfl⟩
        obtain ⟨z, hz⟩ : ∃ z, z = u % 4294967296 := ⟨_, rfl⟩
        rw [← hu, ← hz] at hat
        have hti : (x : Int) / 2 ^ s = (u : Int) := by rw [hu, ht]; simp
        have hui : (u : Int) % 4294967296 = (z : Int) := by omega
        have hzb : z < 4294967296 := by omega
        clear hy
        have hvs := val_set 4294967296 R k 0 z hRk
        have hnew : val 4294967296 (R.set k z) = (val 4294967296 a / 2 ^ s) % 4294967296 ^ (k + 1) := by rw [hat, ← hRv]; omega
        have HNEW := hide hnew
        have hkb : (k : Int) < ((n : Nat) : Int) := by omega
        clear hnew hvs hat hRv hx hka hz hu ht
        go_wp2
        go_roundw
        case rel =>
          refine ⟨k + 1, R.set k z, by omega, by go_num, by simp [hRl], mem_set hRs hzb, ?_, unhide HNEW, hRo.set k z, hbr.setCell (p := ⟨w.heap.size, k, none⟩) (Nat.le_refl _) _⟩
          intro j hj1 hj2
          rw [List.getElem?_set_ne (by omega)]
          exact hRz j (by omega) hj2
        case measure => simp [intOf]; omega
    · obtain rfl : k = n := by omega
      have hki : ¬ (k : Int) < (k : Int) := by omega
      have hws := hRo.ws hRs (by omega)
      have htr := trim_any _ _ R wr hws
      rw [hRl] at htr
      have HTR := hide htr
      have hval : val 4294967296 R = val 4294967296 a / 2 ^ s := by
        rw [hRv, Nat.mod_eq_of_lt (Nat.lt_of_le_of_lt (Nat.div_le_self _ _) (unhide HLT))]
      have HVAL := hide hval
      clear htr hval hRv hws
      go_wp2_with fail
      refine (unhide HTR).mono ?_
      rintro e w1 ⟨o, cap, rfl, hw1, rfl⟩
      go_wp2
      go_ret
      exact ⟨o, cap, R, rfl, hw1, unhide HVAL, hbr⟩
end Go.Proofs.YthplbfjpmnpjmaaDoor
