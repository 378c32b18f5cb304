/-
  parlourbig's numbers, walked: Cmp.
  parlourbig.twin, length, walked.
  parlourbig.left, walked, by less than a word.
-/
import Derived.Test.YtbcedjjocpjkjaaJ6
import Derived.Laws.AppendOwnNone
namespace Go.Proofs.Ytbcedjjocpjkjaa
open Go.RowKit
attribute [local go_sem ↓] Go.wp_at_zero Go.wp_at_succ

theorem trim_low (l : List Nat) (ht : trimL l = l) (n : Nat) (h : n < l.length) : 4294967296 ^ n ≤ val 4294967296 l := by
  rcases Nat.lt_or_ge (val 4294967296 l) (4294967296 ^ n) with h1 | h1
  · have := trim_len (B := 4294967296) (by omega) l n ht h1
    omega
  · exact h1
def cmpN (X Y : Nat) : Int := if X < Y then -1 else if Y < X then 1 else 0
theorem cmp_len {a b : List Nat} (hb : trimL b = b) (sa : ∀ x ∈ a, x < 4294967296) (h : a.length < b.length) : val 4294967296 a < val 4294967296 b :=
  Nat.lt_of_lt_of_le (val_lt _ a sa) (trim_low b hb _ h)
theorem cmp_val (a b : List Nat) (ha : trimL a = a) (hb : trimL b = b) (sa : ∀ x ∈ a, x < 4294967296) (sb : ∀ x ∈ b, x < 4294967296) :
    (if a.length < b.length then -1 else if b.length < a.length then 1 else cmpW a b) = cmpN (val 4294967296 a) (val 4294967296 b) := by
  unfold cmpN
  rcases Nat.lt_trichotomy a.length b.length with h | h | h
  · have := cmp_len hb sa h
    rw [if_pos h, if_pos this]
  · rw [if_neg (by omega), if_neg (by omega), cmpW_val 4294967296 a b h sa sb]
  · have := cmp_len ha sb h
    rw [if_neg (by omega), if_pos h, if_neg (by omega), if_pos this]

set_option maxHeartbeats 1000000 in
theorem Cmp_any (bx cy X Y : Nat) (w : World) (hx : isBig w bx X) (hy : isBig w cy Y) :
    Calls Try.prog 26 #[.pointer (some ⟨bx, 0, none⟩), .pointer (some ⟨cy, 0, none⟩)] w fun e w' => e = .returned (.int .i64 (cmpN X Y)) ∧ ∃ n, w' = w.drewN n := by
  obtain ⟨xo, xc, xl, x0, x1, xlt, xw, xt, rfl⟩ := hx.open
  obtain ⟨yo, yc, yl, y0, y1, ylt, yw, yt, rfl⟩ := hy.open
  clear hx hy
  have HC : Hid (∀ n x, Calls Try.prog 54 #[.slice xo xl.length xc, .slice yo yl.length yc] (w.drewN (n + x)) fun e w'' => e = .returned (.int .i64 (if xl.length < yl.length then -1 else if yl.length < xl.length then 1 else cmpW xl yl)) ∧ ∃ m, w'' = w.drewN (n + m)) := by
    intro n x
    refine (cmp_any xo yo xc yc xl yl _ (xw.drewN (n + x)) (yw.drewN (n + x))).mono ?_
    rintro e w1 ⟨rfl, m, rfl⟩
    exact ⟨rfl, x + m, by rw [World.drewN_drewN, Nat.add_assoc]⟩
  rw [cmp_val xl yl xt yt xw.small yw.small] at HC
  obtain ⟨R, hR⟩ : ∃ R, R = cmpN (val 4294967296 xl) (val 4294967296 yl) := ⟨_, rfl⟩
  rw [← hR] at HC ⊢
  clear hR
  go_enter Try.func26, Try.ntmps26
  go_wp2
  go_quiet (fail)
  go_wp2
  go_quiet ((go_at_call 54; exact unhide HC _ _))
  go_wp2
  go_ret
  exact ⟨rfl, _, rfl⟩
end Go.Proofs.Ytbcedjjocpjkjaa

namespace Go.Proofs.Ytbcedjjocpjkjaa
open Go.RowKit
attribute [local go_sem ↓] Go.wp_at_zero Go.wp_at_succ

theorem Try.infoU4 : (Try.prog.info? 114).map (fun i => (i.zero, i.size, i.bytes)) = some (some (.int .u32 0), 1, 4) := Try.infoU
/-- A row of words, as words. -/
theorem ws_of_row {w : World} {base : Nat} {v : Value} {l : List Nat} (h : w.ownsRow base 114 1 v l.length (uvals l)) (hs : ∀ x ∈ l, x < 4294967296) (hl : l.length ≤ 1000) :
    ∃ o cap, v = .slice o l.length cap ∧ isWs w o cap l := by
  obtain ⟨_, h⟩ := h
  rcases h with ⟨rfl, h0⟩ | ⟨g, cap, cur, rfl, hb, hg, hn, hm, hc, ht⟩
  · have : l = [] := List.length_eq_zero_iff.1 h0
    subst this
    exact ⟨none, 0, rfl, ⟨fun x hx => (by cases hx), Nat.le_refl _, fun _ => rfl, Nat.zero_le _, fun h => absurd rfl h⟩⟩
  · refine ⟨_, cap, rfl, ⟨hs, hn, (fun e => by cases e), hl, fun _ => ⟨g, rfl, block_lt hg, ?_⟩⟩⟩
    intro k x hx
    have hk : k < l.length := (List.getElem?_eq_some_iff.1 hx).1
    have h1 : (cur.toList.take (l.length * 1))[k]? = some (.int .u32 (x : Int)) := by rw [ht]; simp [uvals, hx]
    rw [List.getElem?_take, if_pos (by omega)] at h1
    have h2 : cur[k]? = some (.int .u32 (x : Int)) := by simpa using h1
    simp [World.cell?, hg, h2]

set_option maxHeartbeats 1000000 in
theorem twin_any (ao : Option Addr) (ca : Nat) (a : List Nat) (w : World) (ha : isWs w ao ca a) :
    Calls Try.prog 96 #[.slice ao a.length ca] w fun e w' => ∃ o cap, e = .returned (.slice o a.length cap) ∧ isWs w' o cap a ∧ Below w.heap.size w w' := by
  obtain ⟨i0, hi, hz0, hz1, hz2⟩ := info_parts Try.infoU
  have hlen := ha.len
  cases ao with
  | none =>
    have hc0 := ha.nil rfl
    subst hc0
    have : a.length = 0 := by have := ha.le; omega
    have : a = [] := List.length_eq_zero_iff.1 this
    subst this
    go_enter Try.func96, Try.ntmps96
    go_wp2_with (at_builtin; refine wpList_append_own_none rfl _ _ 89 rfl w.heap.size 114 i0 1 Try.underlying89 hi _ _ _ rfl (World.ownsRow_nil _ _ _ _) rfl ?_)
    go_ret
    exact ⟨none, 0, rfl, ha, Below.refl _ _⟩
  | some ad =>
    go_enter Try.func96, Try.ntmps96
    go_wp2_with (at_builtin; refine wpList_append_own _ rfl _ _ 89 rfl w.heap.size 114 i0 (.int .u32 0) 1 4 Try.underlying89 hi hz0 hz1 hz2 rfl (by decide) _ _ _ rfl (World.ownsRow_nil _ _ _ _) ad a.length ca (uvals a) rfl ?c1 ?c2 ?c3 ?c4 ?c5 ?c6 ?_)
    case c1 => simp [uvals]
    case c2 =>
      intro j u hu
      have hne : a ≠ [] := by rintro rfl; simp [uvals] at hu
      obtain ⟨g, e, hg, hc⟩ := ha.cells hne
      cases e
      simp only [uvals, List.getElem?_map, Option.map_eq_some_iff] at hu
      obtain ⟨x, hx, rfl⟩ := hu
      have := hc j x hx
      by_cases hj : j = 0
      · subst hj; simpa [Addr.add] using this
      · simpa [Addr.add, hj] using this
    case c3 => intro u hu; simp [uvals] at hu; obtain ⟨x, _, rfl⟩ := hu; rfl
    case c4 => unfold maxLen; omega
    case c5 => omega
    case c6 => exact Nat.le_refl _
    intro v' wm hown hgrow _
    have hbm : Below w.heap.size w wm := (Below.refl _ _).grown hgrow (Nat.le_refl _) (by simp [Value.ownBlock])
    obtain ⟨o, cap, rfl, hws⟩ := ws_of_row hown ha.small ha.len
    go_wp2
    go_ret
    exact ⟨o, cap, rfl, hws, hbm⟩

set_option maxHeartbeats 1000000 in
theorem length_any (ao : Option Addr) (ca : Nat) (a : List Nat) (x : Nat) (w : World) (ha : isWs w ao ca (a ++ [x])) (hx : x ≠ 0) :
    Calls Try.prog 103 #[.slice ao (a ++ [x]).length ca] w fun e w' => ∃ n : Nat, e = .returned (.int .i64 ((a.length : Int) * 32 + (n : Int))) ∧ 1 ≤ n ∧ n ≤ 32 ∧ 2 ^ (n - 1) ≤ x ∧ x < 2 ^ n ∧ w' = w := by
  have hlen := ha.len
  obtain ⟨g, rfl, hg, hc⟩ := ha.cells (by simp)
  have cx := hc a.length x (by simp)
  have hxs := ha.small x (by simp)
  have e : (a ++ [x]).length = a.length + 1 := by simp
  rw [e] at hlen ⊢
  obtain ⟨m, hm⟩ : ∃ m, m = a.length := ⟨_, rfl⟩
  rw [← hm] at cx hlen ⊢
  have hmi : ((m + 1 : Nat) : Int) = (m : Int) + 1 := by omega
  have hne : ¬ (m : Int) + 1 = 0 := by omega
  clear hc e hm ha
  go_enter Try.func103, Try.ntmps103
  go_wp2
  go_loopw [3, 4] (fun nv tv wr => ∃ n t : Nat, nv = .int .i64 (n : Int) ∧ tv = .int .u32 (t : Int) ∧ t = x / 2 ^ n ∧ n ≤ 32 ∧ (0 < n → 2 ^ (n - 1) ≤ x) ∧ wr = w) (fun _ tv _ => (intOf tv).toNat)
  case atStart => exact ⟨0, x, rfl, rfl, by simp, by omega, by omega, rfl⟩
  case round =>
    obtain ⟨n, t, rfl, rfl, ht, hn, hlow, rfl⟩ := hrel
    by_cases ht0 : t = 0
    · have hlt : x < 2 ^ n := by
        rcases Nat.lt_or_ge x (2 ^ n) with h | h
        · exact h
        · have := Nat.div_pos h (Nat.two_pow_pos n); omega
      have hn1 : 1 ≤ n := by
        rcases Nat.eq_zero_or_pos n with h | h
        · subst h; simp at hlt; omega
        · exact h
      have HL := hide hlt
      have HW := hide (hlow hn1)
      subst ht0
      clear ht hlt hlow
      go_wp2
      go_ret
      exact ⟨n, by go_num, hn1, hn, unhide HW, unhide HL, rfl⟩
    · have hge : 2 ^ n ≤ x := by
        rcases Nat.lt_or_ge x (2 ^ n) with h | h
        · rw [Nat.div_eq_of_lt h] at ht; omega
        · exact h
      have hn32 : n < 32 := by
        rcases Nat.lt_or_ge n 32 with h | h
        · exact h
        · have h1 : (2 : Nat) ^ 32 ≤ 2 ^ n := Nat.pow_le_pow_right (by omega) h
          have h2 : (2 : Nat) ^ 32 = 4294967296 := by decide
          omega
      have htl : t ≤ x := by rw [ht]; exact Nat.div_le_self _ _
      have ht2 : t / 2 = x / 2 ^ (n + 1) := by rw [ht, Nat.div_div_eq_div_mul, Nat.pow_succ]
      have HT := hide ht2
      have HG := hide hge
      have ht0i : ¬ (t : Int) = 0 := by omega
      clear ht ht2 hge hlow
      go_wp2
      go_roundw
      case rel => exact ⟨n + 1, t / 2, by go_num, by go_num, unhide HT, by omega, fun _ => unhide HG, trivial⟩
      case measure => simp [intOf]; omega
end Go.Proofs.Ytbcedjjocpjkjaa

namespace Go.Proofs.Ytbcedjjocpjkjaa
open Go.RowKit
attribute [local go_sem ↓] Go.wp_at_zero Go.wp_at_succ

theorem bits_or_u32_nat (a b : Nat) (ha : a < 4294967296) (hb : b < 4294967296) : bits .or .u32 (a : Int) (b : Int) = ((a ||| b : Nat) : Int) := by
  have hx : a ||| b < 2 ^ 32 := Nat.or_lt_two_pow (by omega) (by omega)
  have h1 : (BitVec.ofInt 32 (a : Int)).toNat = a := by
    rw [BitVec.ofInt_natCast, BitVec.toNat_ofNat]; exact Nat.mod_eq_of_lt (by omega)
  have h2 : (BitVec.ofInt 32 (b : Int)).toNat = b := by
    rw [BitVec.ofInt_natCast, BitVec.toNat_ofNat]; exact Nat.mod_eq_of_lt (by omega)
  show IntKind.u32.wrap ((BitVec.ofInt 32 (a : Int) ||| BitVec.ofInt 32 (b : Int)).toNat : Int) = _
  rw [BitVec.toNat_or, h1, h2, IntKind.wrap_u32]
  omega
/-- A word shifted left by s: what stays, what goes over. -/
theorem shift_parts (x s : Nat) (hx : x < 4294967296) (hs : s < 32) : (x * 2 ^ s) % 4294967296 = 2 ^ s * (x % 2 ^ (32 - s)) ∧ x * 2 ^ s / 4294967296 < 2 ^ s ∧ x * 2 ^ s < 18446744073709551616 ∧ 2 ^ s < 4294967296 := by
  have e : (4294967296 : Nat) = 2 ^ (32 - s) * 2 ^ s := by rw [← Nat.pow_add]; have : 32 - s + s = 32 := by omega
                                                           rw [this]
  have h2 : (2 : Nat) ^ s ≤ 2 ^ 31 := Nat.pow_le_pow_right (by omega) (by omega)
  have h3 : (2 : Nat) ^ 31 = 2147483648 := by decide
  have hp : 0 < 2 ^ s := Nat.two_pow_pos s
  have h4 : x * 2 ^ s < 4294967296 * 2 ^ s := Nat.mul_lt_mul_of_pos_right hx hp
  refine ⟨?_, Nat.div_lt_of_lt_mul h4, by omega, by omega⟩
  conv => lhs; rw [e]
  rw [Nat.mul_mod_mul_right, Nat.mul_comm]
theorem or_low (r s m : Nat) (hr : r < 2 ^ s) : r ||| 2 ^ s * m = r + 2 ^ s * m := by
  have h := Nat.two_pow_add_eq_or_of_lt (i := s) (b := r) hr m
  rw [Nat.or_comm, ← h, Nat.add_comm]

set_option maxHeartbeats 2000000 in
set_option maxRecDepth 100000 in
theorem left_any (ao : Option Addr) (ca s : Nat) (a : List Nat) (w : World) (ha : isWs w ao ca a) (hla : a.length ≤ 300) (ha0 : a ≠ []) (hs : s < 32) :
    Calls Try.prog 104 #[.slice ao a.length ca, .int .u64 (s : Int)] w fun e w' => ∃ o cap l, e = .returned (.slice o (trimL l).length cap) ∧ isWs w' o cap (trimL l) ∧ val 4294967296 l = val 4294967296 a * 2 ^ s ∧ l.length = a.length + 1 ∧ Below w.heap.size w w' := by
  obtain ⟨i0, hi, hz0, hz1, hz2⟩ := info_parts Try.infoU
  obtain ⟨g, rfl, hg, hc⟩ := ha.cells ha0
  have hpos := List.length_pos_iff.2 ha0
  obtain ⟨n, hn⟩ : ∃ n, n = a.length := ⟨_, rfl⟩
  rw [← hn]
  rw [← hn] at hla hpos
  have hn0 : ¬ (n : Int) = 0 := by omega
  have hs1 : (s : Int) / 32 = 0 := by omega
  have hs2 : (s : Int) % 32 = (s : Int) := by omega
  have HN := hide hn
  have HA := hide ha
  have HC := hide hc
  clear hn ha ha0 hc
  go_enter Try.func104, Try.ntmps104
  go_wp2_with (at_make; go_must (refine wpList_make_full _ rfl _ _ 89 rfl w.heap.size 114 i0 (.int .u32 0) 1 Try.underlying89 hi hz0 hz1 .i64 .i64 _ _ (n + 1) rfl rfl (by go_num) (by go_num) (by rw [hz2]; omega) (by unfold maxLen; omega) (Nat.le_refl _) ?_; intro wm hown hgrow))
  have hbm : Below w.heap.size w wm := (Below.refl _ _).grown hgrow (Nat.le_refl _) (by simp)
  have hrow : ownU wm w.heap.size w.heap.size (List.replicate (n + 1) 0) := by
    unfold ownU
    rw [List.length_replicate, ← made_zeros]
    exact hown
  clear hown hgrow
  go_loopw [8] (fun v wr => ∃ (k r : Nat) (R : List Nat), k ≤ n ∧ v = .int .i64 (k : Int) ∧ R.length = n + 1 ∧ (∀ x ∈ R, x < 4294967296) ∧ R[k]? = some r ∧ r < 2 ^ s ∧ (∀ j, k < j → j < n + 1 → R[j]? = some 0) ∧ val 4294967296 R = val 4294967296 (a.take k) * 2 ^ s ∧ ownU wr w.heap.size w.heap.size R ∧ Below w.heap.size w wr) (fun v _ => n - (intOf v).toNat)
  case atStart =>
    refine ⟨0, 0, List.replicate (n + 1) 0, Nat.zero_le _, rfl, by simp, ?_, by simp, Nat.two_pow_pos s, ?_, by simp [val_zeros, val], hrow, hbm⟩
    · intro x hx
      rw [List.eq_of_mem_replicate hx]; omega
    · intro j _ hj
      rw [List.getElem?_replicate, if_pos hj]
  case round =>
    obtain ⟨k, r, R, hk, rfl, hRl, hRs, hRk, hr, hRz, hRv, hRo, hbr⟩ := hrel
    clear hrow hbm
    by_cases hkl : k < n
    · have hki : (k : Int) < (n : Int) := by omega
      have hka : k < a.length := by rw [← unhide HN]; exact hkl
      obtain ⟨x, hx⟩ : ∃ x, a[k]? = some x := ⟨a[k], List.getElem?_eq_getElem hka⟩
      have cx := (hbr.cell (p := ⟨g, k, none⟩) hg).trans (unhide HC k x hx)
      have hxs := (unhide HA).small x (List.mem_of_getElem? hx)
      have cr := hRo.cell hRk
      have zr := hRo.frozen k
      obtain ⟨p1, p2, p3, p4⟩ := shift_parts x s hxs hs
      obtain ⟨v, hv⟩ : ∃ v, v = x * 2 ^ s := ⟨_, rfl⟩
      rw [← hv] at p1 p2 p3
      obtain ⟨m, hm⟩ : ∃ m, m = v % 4294967296 := ⟨_, rfl⟩
      obtain ⟨h, hh⟩ : ∃ h, h = v / 4294967296 := ⟨_, rfl⟩
      have hvi : IntKind.u64.wrap ((x : Int) * 2 ^ s) = (v : Int) := by
        rw [IntKind.wrap_u64]
        have e : (x : Int) * 2 ^ s = (v : Int) := by rw [hv]; simp
        rw [e]; omega
      have hmi : (v : Int) % 4294967296 = (m : Int) := by omega
      have hhi : (v : Int) / 4294967296 = (h : Int) := by omega
      have hhm : (h : Int) % 4294967296 = (h : Int) := by omega
      obtain ⟨z, hz⟩ : ∃ z, z = r + m := ⟨_, rfl⟩
      have hme : m = 2 ^ s * (x % 2 ^ (32 - s)) := by rw [hm, p1]
      have hor0 : r ||| m = z := by rw [hme, or_low r s _ hr, ← hme, hz]
      have hzb : z < 4294967296 := by
        rw [← hor0]
        have := Nat.or_lt_two_pow (n := 32) (x := r) (y := m) (by omega) (by omega)
        omega
      have hor : bits BinOp.or IntKind.u32 (r : Int) (m : Int) = (z : Int) := by rw [bits_or_u32_nat r m (by omega) (by omega), hor0]
      have hor2 : bits BinOp.or IntKind.u32 (0 : Int) (h : Int) = (h : Int) := by
        have := bits_or_u32_nat 0 h (by omega) (by omega)
        simpa using this
      have hz1 := hRz (k + 1) (by omega) (by omega)
      have hro1 := hRo.set k z
      have hk1 : (R.set k z)[k + 1]? = some 0 := by rw [List.getElem?_set_ne (by omega)]; exact hz1
      have c1 := hro1.cell hk1
      have z1 := hro1.frozen (k + 1)
      have hro2 := hro1.set (k + 1) h
      have hv1 := val_set 4294967296 R k r z hRk
      have hv2 := val_set 4294967296 (R.set k z) (k + 1) 0 h hk1
      have hnew : val 4294967296 ((R.set k z).set (k + 1) h) = val 4294967296 (a.take (k + 1)) * 2 ^ s := by
        rw [val_take_succ _ a k x hx, Nat.add_mul, ← hRv]
        have e1 : x * 4294967296 ^ k * 2 ^ s = v * 4294967296 ^ k := by rw [hv, Nat.mul_assoc, Nat.mul_comm (4294967296 ^ k), ← Nat.mul_assoc]
        have e2 : v = m + 4294967296 * h := by omega
        have e3 : h * 4294967296 ^ (k + 1) = 4294967296 * h * 4294967296 ^ k := by rw [Nat.pow_succ, Nat.mul_comm (4294967296 ^ k), ← Nat.mul_assoc, Nat.mul_comm h]
        rw [e1, e2, Nat.add_mul, ← e3]
        rw [hz, Nat.add_mul] at hv1
        rw [hz] at hv2 ⊢
        omega
      have HNEW := hide hnew
      have HRO := hide hro2
      have hkb : (k : Int) < ((n + 1 : Nat) : Int) := by omega
      have hkb1 : (k : Int) + 1 < ((n + 1 : Nat) : Int) := by omega
      have hk1e : (R.set k z)[k + 1]? = some 0 := hk1
      have hhs : h < 2 ^ s := by rw [hh]; exact p2
      clear hnew hv1 hv2 hro1 hro2 p1 p2 hm hh hz hme hor0 hv hRv hx hz1 hk1e hka
      go_wp2
      go_roundw
      case rel =>
        refine ⟨k + 1, h, (R.set k z).set (k + 1) h, by omega, by go_num, by simp [hRl], mem_set (mem_set hRs hzb) (by omega), ?_, hhs, ?_, unhide HNEW, unhide HRO, (hbr.setCell (p := ⟨w.heap.size, k, none⟩) (Nat.le_refl _) _).setCell (p := ⟨w.heap.size, k + 1, none⟩) (Nat.le_refl _) _⟩
        · rw [List.getElem?_set_self (by rw [List.length_set]; omega)]
        · intro j hj1 hj2
          rw [List.getElem?_set_ne (by omega), List.getElem?_set_ne (by omega)]
          exact hRz j (by omega) hj2
      case measure => simp [intOf]; omega
    · obtain rfl : k = n := by omega
      have hki : ¬ (k : Int) < (k : Int) := by omega
      have hws := hRo.ws hRs (by omega)
      have htr := trim_any _ _ R wr hws
      rw [hRl] at htr
      have HTR := hide htr
      have hval : val 4294967296 R = val 4294967296 a * 2 ^ s := by rw [hRv, List.take_of_length_le (by rw [← unhide HN]; exact Nat.le_refl _)]
      have HVAL := hide hval
      clear htr hval hRv hws hr
      go_wp2_with fail
      refine (unhide HTR).mono ?_
      rintro e w1 ⟨o, cap, rfl, hw1, rfl⟩
      go_wp2
      go_ret
      exact ⟨o, cap, R, rfl, hw1, unhide HVAL, hRl, hbr⟩
end Go.Proofs.Ytbcedjjocpjkjaa
