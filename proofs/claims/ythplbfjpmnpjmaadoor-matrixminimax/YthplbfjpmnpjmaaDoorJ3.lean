/-
  Plain mathematics of ranks, no program: how many arrangements bytes have; the number of one; the one of a number.
  gameref.factorial, walked; parlourbig.plain.
  parlourbig's numbers, walked: Cmp.
  parlourbig.twin, length, walked.
-/
import Derived.Test.YthplbfjpmnpjmaaDoorJ0
import Derived.Test.YthplbfjpmnpjmaaDoorJ2
import Derived.Laws.Bits64b
import Derived.Laws.AppendOwnNone
namespace Go.Proofs.YthplbfjpmnpjmaaDoor

/-- How many bytes there are. -/
def K256 : Nat := 256
def factN : Nat → Nat
  | 0 => 1
  | n + 1 => factN n * (n + 1)
def sumTo (g : Nat → Nat) : Nat → Nat
  | 0 => 0
  | n + 1 => sumTo g n + g n
def prodTo (g : Nat → Nat) : Nat → Nat
  | 0 => 1
  | n + 1 => prodTo g n * g n
/-- One fewer of d. -/
def decF (f : Nat → Nat) (d : Nat) : Nat → Nat := fun c => if c = d then f c - 1 else f c
/-- One more of d. -/
def incF (f : Nat → Nat) (d : Nat) : Nat → Nat := fun c => if c = d then f c + 1 else f c
/-- How many arrangements there are of n bytes, f c of each byte c. -/
def arrF : Nat → (Nat → Nat) → Nat
  | 0, _ => 1
  | n + 1, f => sumTo (fun d => if 0 < f d then arrF n (decF f d) else 0) K256

theorem factN_pos : ∀ n, 0 < factN n
  | 0 => by simp [factN]
  | n + 1 => Nat.mul_pos (factN_pos n) (by omega)
theorem prodTo_pos (g : Nat → Nat) (h : ∀ c, 0 < g c) : ∀ n, 0 < prodTo g n
  | 0 => by simp [prodTo]
  | n + 1 => Nat.mul_pos (prodTo_pos g h n) (h n)
theorem sumTo_congr {g h : Nat → Nat} : ∀ n, (∀ c, c < n → g c = h c) → sumTo g n = sumTo h n
  | 0, _ => rfl
  | n + 1, e => by rw [sumTo, sumTo, sumTo_congr n (fun c hc => e c (by omega)), e n (by omega)]
theorem prodTo_congr {g h : Nat → Nat} : ∀ n, (∀ c, c < n → g c = h c) → prodTo g n = prodTo h n
  | 0, _ => rfl
  | n + 1, e => by rw [prodTo, prodTo, prodTo_congr n (fun c hc => e c (by omega)), e n (by omega)]
theorem sumTo_mul (g : Nat → Nat) (k : Nat) : ∀ n, sumTo g n * k = sumTo (fun c => g c * k) n
  | 0 => by simp [sumTo]
  | n + 1 => by rw [sumTo, Nat.add_mul, sumTo_mul g k n, sumTo]
theorem mul_sumTo (g : Nat → Nat) (k : Nat) : ∀ n, k * sumTo g n = sumTo (fun c => k * g c) n
  | 0 => by simp [sumTo]
  | n + 1 => by rw [sumTo, Nat.mul_add, mul_sumTo g k n, sumTo]
theorem sumTo_zero : ∀ n, sumTo (fun _ => 0) n = 0
  | 0 => rfl
  | n + 1 => by rw [sumTo, sumTo_zero n]
theorem sumTo_le (g : Nat → Nat) : ∀ {m n : Nat}, m ≤ n → sumTo g m ≤ sumTo g n
  | m, 0, h => by have : m = 0 := by omega
                  rw [this]; exact Nat.le_refl _
  | m, n + 1, h => by
    rcases Nat.lt_or_ge m (n + 1) with h1 | h1
    · exact Nat.le_trans (sumTo_le g (show m ≤ n by omega)) (Nat.le_add_right _ _)
    · have : m = n + 1 := by omega
      rw [this]; exact Nat.le_refl _
theorem sumTo_ge (g : Nat → Nat) {c n : Nat} (h : c < n) : g c ≤ sumTo g n :=
  Nat.le_trans (Nat.le_add_left _ _) (sumTo_le g (show c + 1 ≤ n from h))

theorem sumTo_dec (f : Nat → Nat) (d : Nat) (hd : 0 < f d) : ∀ n, sumTo f n = sumTo (decF f d) n + (if d < n then 1 else 0)
  | 0 => by simp [sumTo]
  | n + 1 => by
    rw [sumTo, sumTo, sumTo_dec f d hd n]
    by_cases h1 : n = d
    · subst h1
      have : decF f n n = f n - 1 := by simp [decF]
      rw [this, if_neg (by omega), if_pos (by omega)]
      omega
    · have : decF f d n = f n := by simp [decF, h1]
      rw [this]
      by_cases h2 : d < n
      · rw [if_pos h2, if_pos (by omega)]; omega
      · rw [if_neg h2, if_neg (by omega)]; omega
def pfact (f : Nat → Nat) (n : Nat) : Nat := prodTo (fun c => factN (f c)) n
theorem pfact_dec (f : Nat → Nat) (d : Nat) (hd : 0 < f d) : ∀ n, pfact f n = pfact (decF f d) n * (if d < n then f d else 1)
  | 0 => by simp [pfact, prodTo]
  | n + 1 => by
    have ih := pfact_dec f d hd n
    unfold pfact at ih ⊢
    rw [prodTo, prodTo, ih]
    by_cases h1 : n = d
    · subst h1
      have e1 : decF f n n = f n - 1 := by simp [decF]
      obtain ⟨k, hk⟩ : ∃ k, f n = k + 1 := ⟨f n - 1, by omega⟩
      rw [e1, if_neg (by omega), if_pos (by omega), hk, Nat.add_sub_cancel, factN]
      simp [Nat.mul_assoc]
    · have e1 : decF f d n = f n := by simp [decF, h1]
      rw [e1]
      by_cases h2 : d < n
      · rw [if_pos h2, if_pos (by omega)]
        rw [Nat.mul_assoc, Nat.mul_comm (f d), ← Nat.mul_assoc]
      · rw [if_neg h2, if_neg (by omega)]
        simp

/-- The arrangements, by factorials. -/
theorem prodTo_one : ∀ n, prodTo (fun _ => 1) n = 1
  | 0 => rfl
  | n + 1 => by rw [prodTo, prodTo_one n]
theorem arrF_fact (n : Nat) : ∀ (f : Nat → Nat), sumTo f K256 = n → arrF n f * pfact f K256 = factN n := by
  induction n with
  | zero =>
    intro f h
    have hz : ∀ c, c < K256 → f c = 0 := fun c hc => by have := sumTo_ge f hc; omega
    have e : pfact f K256 = prodTo (fun _ => 1) K256 := prodTo_congr K256 (fun c hc => by rw [hz c hc]; rfl)
    rw [arrF, e, factN, prodTo_one]
  | succ n ih =>
    intro f h
    rw [arrF, sumTo_mul, factN, ← h, mul_sumTo]
    apply sumTo_congr
    intro d hd
    by_cases h0 : 0 < f d
    · rw [if_pos h0, pfact_dec f d h0 K256, if_pos hd, ← Nat.mul_assoc]
      have hs := sumTo_dec f d h0 K256
      rw [if_pos hd] at hs
      rw [ih (decF f d) (by omega)]
    · have : f d = 0 := by omega
      simp [this]
theorem pfact_pos (f : Nat → Nat) (n : Nat) : 0 < pfact f n := prodTo_pos _ (fun _ => factN_pos _) n
/-- One byte taken away: the arrangements times how many there are of it are the length times what is left. -/
theorem arrF_dec (n : Nat) (f : Nat → Nat) (d : Nat) (hd : d < K256) (h : sumTo f K256 = n + 1) (h0 : 0 < f d) : arrF (n + 1) f * f d = (n + 1) * arrF n (decF f d) := by
  have hs := sumTo_dec f d h0 K256
  rw [if_pos hd] at hs
  have h1 := arrF_fact (n + 1) f h
  have h2 := arrF_fact n (decF f d) (by omega)
  have hp := pfact_dec f d h0 K256
  rw [if_pos hd] at hp
  have hpos := pfact_pos (decF f d) K256
  apply Nat.eq_of_mul_eq_mul_right hpos
  rw [Nat.mul_assoc, Nat.mul_comm (f d), ← hp, h1, Nat.mul_assoc, h2, factN, Nat.mul_comm]

/-- What is left when d is taken away; nothing, if there is none. -/
def subF (n : Nat) (f : Nat → Nat) (d : Nat) : Nat := if 0 < f d then arrF n (decF f d) else 0
theorem arrF_sub (n : Nat) (f : Nat → Nat) (d : Nat) (hd : d < K256) (h : sumTo f K256 = n + 1) : arrF (n + 1) f * f d = (n + 1) * subF n f d := by
  unfold subF
  by_cases h0 : 0 < f d
  · rw [if_pos h0]; exact arrF_dec n f d hd h h0
  · rw [if_neg h0]; have : f d = 0 := by omega
    rw [this]; simp
/-- What stands ahead of c: by one division. -/
theorem arrF_below (n : Nat) (f : Nat → Nat) (c : Nat) (hc : c ≤ K256) (h : sumTo f K256 = n + 1) : arrF (n + 1) f * sumTo f c / (n + 1) = sumTo (subF n f) c := by
  have : arrF (n + 1) f * sumTo f c = (n + 1) * sumTo (subF n f) c := by
    rw [mul_sumTo, mul_sumTo]
    exact sumTo_congr c (fun d hd => arrF_sub n f d (by omega) h)
  rw [this, Nat.mul_div_cancel_left _ (by omega)]
theorem arrF_one (n : Nat) (f : Nat → Nat) (d : Nat) (hd : d < K256) (h : sumTo f K256 = n + 1) : arrF (n + 1) f * f d / (n + 1) = subF n f d := by
  rw [arrF_sub n f d hd h, Nat.mul_div_cancel_left _ (by omega)]
theorem arrF_sum (n : Nat) (f : Nat → Nat) : arrF (n + 1) f = sumTo (subF n f) K256 := rfl
theorem decF_incF (f : Nat → Nat) (d : Nat) : decF (incF f d) d = f := by
  funext c
  by_cases h : c = d <;> simp [decF, incF, h]
theorem sumTo_inc (f : Nat → Nat) (d : Nat) (hd : d < K256) : sumTo (incF f d) K256 = sumTo f K256 + 1 := by
  have h0 : 0 < incF f d d := by simp [incF]
  have := sumTo_dec (incF f d) d h0 K256
  rw [if_pos hd, decF_incF] at this
  exact this
/-- One byte more. -/
theorem arrF_inc (n : Nat) (f : Nat → Nat) (d : Nat) (hd : d < K256) (h : sumTo f K256 = n) : arrF n f * (n + 1) / incF f d d = arrF (n + 1) (incF f d) := by
  have h0 : 0 < incF f d d := by simp [incF]
  have := arrF_dec n (incF f d) d hd (by rw [sumTo_inc f d hd, h]) h0
  rw [decF_incF] at this
  rw [Nat.mul_comm (arrF n f), ← this, Nat.mul_div_cancel _ h0]

/-- share, in numbers. -/
theorem share_eq (n a b : Nat) (hb : 0 < b) : n / b * a + n % b * a / b = n * a / b := by
  have e : n * a = b * (n / b * a) + n % b * a := by
    conv => lhs; rw [← Nat.div_add_mod n b]
    rw [Nat.add_mul, Nat.mul_assoc]
  rw [e, Nat.mul_add_div hb]
end Go.Proofs.YthplbfjpmnpjmaaDoor

namespace Go.Proofs.YthplbfjpmnpjmaaDoor
open Go.RowKit
attribute [local go_sem ↓] Go.wp_at_zero Go.wp_at_succ

theorem factN_pow : ∀ n : Nat, n ≤ 256 → factN n ≤ 256 ^ n
  | 0, _ => by simp [factN]
  | n + 1, h => by
    have := factN_pow n (by omega)
    simp only [factN, Nat.pow_succ]
    exact Nat.mul_le_mul this h
theorem pow_small : (256 : Nat) ^ 256 < 4294967296 ^ 200 := by decide +kernel
theorem factN_small (n : Nat) (h : n ≤ 256) : factN n < 4294967296 ^ 200 :=
  Nat.lt_of_le_of_lt (Nat.le_trans (factN_pow n h) (Nat.pow_le_pow_right (by omega) h)) pow_small
theorem isBig.isNum {w : World} {b N : Nat} (h : isBig w b N) : ∃ v, isNum w b v := h.num

/-- Two words beside each other. -/
theorem or_nat (lo hi : Nat) (h1 : lo < 4294967296) : 4294967296 * hi ||| lo = lo + 4294967296 * hi := by
  have h := Nat.two_pow_add_eq_or_of_lt (i := 32) (b := lo) (by omega) hi
  have e : (2 : Nat) ^ 32 = 4294967296 := by decide
  rw [e] at h
  omega
theorem or_words (lo hi : Nat) (h1 : lo < 4294967296) (h2 : hi < 4294967296) : bits BinOp.or IntKind.u64 (lo : Int) ((hi : Int) * 4294967296) = ((lo + 4294967296 * hi : Nat) : Int) := by
  have e : (hi : Int) * 4294967296 = ((4294967296 * hi : Nat) : Int) := by omega
  rw [e, bits_or_u64_nat _ _ (by omega) (by omega), Nat.or_comm, or_nat lo hi h1]
theorem or_words' (lo hi : Nat) (h1 : lo < 4294967296) (h2 : hi < 4294967296) : bits BinOp.or IntKind.u64 ((hi : Int) * 4294967296) (lo : Int) = ((lo + 4294967296 * hi : Nat) : Int) := by
  have e : (hi : Int) * 4294967296 = ((4294967296 * hi : Nat) : Int) := by omega
  rw [e, bits_or_u64_nat _ _ (by omega) (by omega), or_nat lo hi h1]

set_option maxHeartbeats 1000000 in
theorem plain_any (ao : Option Addr) (ca : Nat) (l : List Nat) (w : World) (h : isWs w ao ca l) (hl : l.length ≤ 2) :
    Calls Tryd.prog 90 #[.slice ao l.length ca] w fun e w' => e = .returned (.int .u64 (val 4294967296 l : Int)) ∧ w' = w := by
  have hle := h.le
  match l, h, hl with
  | [], h, _ =>
    go_enter Tryd.func90, Tryd.ntmps90
    go_wp2
    go_ret
    exact ⟨rfl, rfl⟩
  | [lo], h, _ =>
    obtain ⟨g, rfl, hg, hc⟩ := h.cells (by simp)
    have c0 := hc 0 lo rfl
    have s0 := h.small lo (by simp)
    clear hc h
    go_enter Tryd.func90, Tryd.ntmps90
    go_wp2
    go_ret
    exact ⟨by simp [val], rfl⟩
  | [lo, hi], h, _ =>
    obtain ⟨g, rfl, hg, hc⟩ := h.cells (by simp)
    have c0 := hc 0 lo rfl
    have c1 := hc 1 hi rfl
    have s0 := h.small lo (by simp)
    have s1 := h.small hi (by simp)
    clear hc h
    go_enter Tryd.func90, Tryd.ntmps90
    go_wp2
    go_ret
    exact ⟨by rw [or_words lo hi s0 s1]; simp [val], rfl⟩
  | _ :: _ :: _ :: _, _, hl => simp at hl

set_option maxHeartbeats 1000000 in
theorem Uint64_any (b N : Nat) (w : World) (h : isBig w b N) (hN : N < 18446744073709551616) :
    Calls Tryd.prog 67 #[.pointer (some ⟨b, 0, none⟩)] w fun e w' => e = .returned (.int .u64 (N : Int)) ∧ w' = w := by
  obtain ⟨ao, ca, l, x0, x1, xlt, hw, ht, rfl⟩ := h.open
  clear h
  have h := hw
  have hl := trim_len (B := 4294967296) (by omega) l 2 ht (by omega)
  have hle := h.le
  clear hN ht x0 hw
  match l, h, hl with
  | [], h, _ =>
    go_enter Tryd.func67, Tryd.ntmps67
    go_wp2
    go_ret
    exact ⟨rfl, rfl⟩
  | [lo], h, _ =>
    obtain ⟨g, rfl, hg, hc⟩ := h.cells (by simp)
    have c0 := hc 0 lo rfl
    have s0 := h.small lo (by simp)
    clear hc h
    go_enter Tryd.func67, Tryd.ntmps67
    go_wp2
    go_ret
    exact ⟨by simp [val], rfl⟩
  | [lo, hi], h, _ =>
    obtain ⟨g, rfl, hg, hc⟩ := h.cells (by simp)
    have c0 := hc 0 lo rfl
    have c1 := hc 1 hi rfl
    have s0 := h.small lo (by simp)
    have s1 := h.small hi (by simp)
    clear hc h
    go_enter Tryd.func67, Tryd.ntmps67
    go_wp2
    go_ret
    exact ⟨by rw [or_words lo hi s0 s1]; simp [val], rfl⟩
  | _ :: _ :: _ :: _, _, hl => simp at hl

set_option maxHeartbeats 1000000 in
theorem Int64_any (b N : Nat) (w : World) (h : isBig w b N) (hN : N < 9223372036854775808) :
    Calls Tryd.prog 41 #[.pointer (some ⟨b, 0, none⟩)] w fun e w' => e = .returned (.int .i64 (N : Int)) ∧ w' = w := by
  have HU := hide (Uint64_any b N w h (by omega))
  obtain ⟨ao, ca, l, x0, x1, xlt, hw, ht, he⟩ := h.open
  clear x1 h hw ht he
  go_enter Tryd.func41, Tryd.ntmps41
  go_wp2_with fail
  refine (unhide HU).mono ?_
  rintro e w1 ⟨rfl, rfl⟩
  go_wp2
  go_ret
  exact ⟨rfl, rfl⟩
end Go.Proofs.YthplbfjpmnpjmaaDoor

namespace Go.Proofs.YthplbfjpmnpjmaaDoor
open Go.RowKit
attribute [local go_sem ↓] Go.wp_at_zero Go.wp_at_succ

theorem trim_low (l : List Nat) (ht : trimL l = l) (n : Nat) (h : n < l.length) : 4294967296 ^ n ≤ val 4294967296 l := by
  rcases Nat.lt_or_ge (val 4294967296 l) (4294967296 ^ n) with h1 | h1
  · have := trim_len (B := 4294967296) (by omega) l n ht h1
    omega
  · exact h1
def cmpN (X Y : Nat) : Int := if X < Y then -1 else if Y < X then 1 else 0
theorem cmp_len {a b : List Nat} (hb : trimL b = b) (sa : ∀ x ∈ a, x < 4294967296) (h : a.length < b.length) : val 4294967296 a < val 4294967296 b :=
  Nat.lt_of_lt_of_le (val_lt _ a sa) (trim_low b hb _ h)
theorem cmp_val (a b : List Nat) (ha : trimL a = a) (hb : trimL b = b) (sa : ∀ x ∈ a, x < 4294967296) (sb : ∀ x ∈ b, x < 4294967296) :
    (if a.length < b.length then -1 else if b.length < a.length then 1 else cmpW a b) = cmpN (val 4294967296 a) (val 4294967296 b) := by
  unfold cmpN
  rcases Nat.lt_trichotomy a.length b.length with h | h | h
  · have := cmp_len hb sa h
    rw [if_pos h, if_pos this]
  · rw [if_neg (by omega), if_neg (by omega), cmpW_val 4294967296 a b h sa sb]
  · have := cmp_len ha sb h
    rw [if_neg (by omega), if_pos h, if_neg (by omega), if_pos this]

set_option maxHeartbeats 1000000 in
theorem Cmp_any (bx cy X Y : Nat) (w : World) (hx : isBig w bx X) (hy : isBig w cy Y) :
    Calls Tryd.prog 28 #[.pointer (some ⟨bx, 0, none⟩), .pointer (some ⟨cy, 0, none⟩)] w fun e w' => e = .returned (.int .i64 (cmpN X Y)) ∧ ∃ n, w' = w.drewN n := by
  obtain ⟨xo, xc, xl, x0, x1, xlt, xw, xt, rfl⟩ := hx.open
  obtain ⟨yo, yc, yl, y0, y1, ylt, yw, yt, rfl⟩ := hy.open
  clear hx hy
  have HC : Hid (∀ n x, Calls Tryd.prog 53 #[.slice xo xl.length xc, .slice yo yl.length yc] (w.drewN (n + x)) fun e w'' => e = .returned (.int .i64 (if xl.length < yl.length then -1 else if yl.length < xl.length then 1 else cmpW xl yl)) ∧ ∃ m, w'' = w.drewN (n + m)) := by
    intro n x
    refine (cmp_any xo yo xc yc xl yl _ (xw.drewN (n + x)) (yw.drewN (n + x))).mono ?_
    rintro e w1 ⟨rfl, m, rfl⟩
    exact ⟨rfl, x + m, by rw [World.drewN_drewN, Nat.add_assoc]⟩
  rw [cmp_val xl yl xt yt xw.small yw.small] at HC
  obtain ⟨R, hR⟩ : ∃ R, R = cmpN (val 4294967296 xl) (val 4294967296 yl) := ⟨_, rfl⟩
  rw [← hR] at HC ⊢
  clear hR
  go_enter Tryd.func28, Tryd.ntmps28
  go_wp2
  go_quiet (fail)
  go_wp2
  go_quiet ((go_at_call 53; exact unhide HC _ _))
  go_wp2
  go_ret
  exact ⟨rfl, _, rfl⟩
end Go.Proofs.YthplbfjpmnpjmaaDoor

namespace Go.Proofs.YthplbfjpmnpjmaaDoor
open Go.RowKit
attribute [local go_sem ↓] Go.wp_at_zero Go.wp_at_succ

theorem Tryd.infoU4 : (Tryd.prog.info? 106).map (fun i => (i.zero, i.size, i.bytes)) = some (some (.int .u32 0), 1, 4) := Tryd.infoU
/-- A row of words, as words. -/
theorem ws_of_row {w : World} {base : Nat} {v : Value} {l : List Nat} (h : w.ownsRow base 106 1 v l.length (uvals l)) (hs : ∀ x ∈ l, x < 4294967296) (hl : l.length ≤ 100000) :
    ∃ o cap, v = .slice o l.length cap ∧ isWs w o cap l := by
  obtain ⟨_, h⟩ := h
  rcases h with ⟨rfl, h0⟩ | ⟨g, cap, cur, rfl, hb, hg, hn, hm, hc, ht⟩
  · have : l = [] := List.length_eq_zero_iff.1 h0
    subst this
    exact ⟨none, 0, rfl, ⟨fun x hx => (by cases hx), Nat.le_refl _, fun _ => rfl, Nat.zero_le _, fun h => absurd rfl h⟩⟩
  · refine ⟨_, cap, rfl, ⟨hs, hn, (fun e => by cases e), hl, fun _ => ⟨g, rfl, block_lt hg, ?_⟩⟩⟩
    intro k x hx
    have hk : k < l.length := (List.getElem?_eq_some_iff.1 hx).1
    have h1 : (cur.toList.take (l.length * 1))[k]? = some (.int .u32 (x : Int)) := by rw [ht]; simp [uvals, hx]
    rw [List.getElem?_take, if_pos (by omega)] at h1
    have h2 : cur[k]? = some (.int .u32 (x : Int)) := by simpa using h1
    simp [World.cell?, hg, h2]

set_option maxHeartbeats 1000000 in
theorem twin_any (ao : Option Addr) (ca : Nat) (a : List Nat) (w : World) (ha : isWs w ao ca a) :
    Calls Tryd.prog 69 #[.slice ao a.length ca] w fun e w' => ∃ o cap, e = .returned (.slice o a.length cap) ∧ isWs w' o cap a ∧ Below w.heap.size w w' := by
  obtain ⟨i0, hi, hz0, hz1, hz2⟩ := info_parts Tryd.infoU
  have hlen := ha.len
  cases ao with
  | none =>
    have hc0 := ha.nil rfl
    subst hc0
    have : a.length = 0 := by have := ha.le; omega
    have : a = [] := List.length_eq_zero_iff.1 this
    subst this
    go_enter Tryd.func69, Tryd.ntmps69
    go_wp2_with (at_builtin; refine wpList_append_own_none rfl _ _ 35 rfl w.heap.size 106 i0 1 Tryd.underlying35 hi _ _ _ rfl (World.ownsRow_nil _ _ _ _) rfl ?_)
    go_ret
    exact ⟨none, 0, rfl, ha, Below.refl _ _⟩
  | some ad =>
    go_enter Tryd.func69, Tryd.ntmps69
    go_wp2_with (at_builtin; refine wpList_append_own _ rfl _ _ 35 rfl w.heap.size 106 i0 (.int .u32 0) 1 4 Tryd.underlying35 hi hz0 hz1 hz2 rfl (by decide) _ _ _ rfl (World.ownsRow_nil _ _ _ _) ad a.length ca (uvals a) rfl ?c1 ?c2 ?c3 ?c4 ?c5 ?c6 ?_)
    case c1 => simp [uvals]
    case c2 =>
      intro j u hu
      have hne : a ≠ [] := by rintro rfl; simp [uvals] at hu
      obtain ⟨g, e, hg, hc⟩ := ha.cells hne
      cases e
      simp only [uvals, List.getElem?_map, Option.map_eq_some_iff] at hu
      obtain ⟨x, hx, rfl⟩ := hu
      have := hc j x hx
      by_cases hj : j = 0
      · subst hj; simpa [Addr.add] using this
      · simpa [Addr.add, hj] using this
    case c3 => intro u hu; simp [uvals] at hu; obtain ⟨x, _, rfl⟩ := hu; rfl
    case c4 => unfold maxLen; omega
    case c5 => omega
    case c6 => exact Nat.le_refl _
    intro v' wm hown hgrow _
    have hbm : Below w.heap.size w wm := (Below.refl _ _).grown hgrow (Nat.le_refl _) (by simp [Value.ownBlock])
    obtain ⟨o, cap, rfl, hws⟩ := ws_of_row hown ha.small ha.len
    go_wp2
    go_ret
    exact ⟨o, cap, rfl, hws, hbm⟩

set_option maxHeartbeats 1000000 in
theorem length_any (ao : Option Addr) (ca : Nat) (a : List Nat) (x : Nat) (w : World) (ha : isWs w ao ca (a ++ [x])) (hx : x ≠ 0) :
    Calls Tryd.prog 66 #[.slice ao (a ++ [x]).length ca] w fun e w' => ∃ n : Nat, e = .returned (.int .i64 ((a.length : Int) * 32 + (n : Int))) ∧ 1 ≤ n ∧ n ≤ 32 ∧ 2 ^ (n - 1) ≤ x ∧ x < 2 ^ n ∧ w' = w := by
  have hlen := ha.len
  obtain ⟨g, rfl, hg, hc⟩ := ha.cells (by simp)
  have cx := hc a.length x (by simp)
  have hxs := ha.small x (by simp)
  have e : (a ++ [x]).length = a.length + 1 := by simp
  rw [e] at hlen ⊢
  obtain ⟨m, hm⟩ : ∃ m, m = a.length := ⟨_, rfl⟩
  rw [← hm] at cx hlen ⊢
  have hmi : ((m + 1 : Nat) : Int) = (m : Int) + 1 := by omega
  have hne : ¬ (m : Int) + 1 = 0 := by omega
  clear hc e hm ha
  go_enter Tryd.func66, Tryd.ntmps66
  go_wp2
  go_loopw [3, 4] (fun nv tv wr => ∃ n t : Nat, nv = .int .i64 (n : Int) ∧ tv = .int .u32 (t : Int) ∧ t = x / 2 ^ n ∧ n ≤ 32 ∧ (0 < n → 2 ^ (n - 1) ≤ x) ∧ wr = w) (fun _ tv _ => (intOf tv).toNat)
  case atStart => exact ⟨0, x, rfl, rfl, by simp, by omega, by omega, rfl⟩
  case round =>
    obtain ⟨n, t, rfl, rfl, ht, hn, hlow, rfl⟩ := hrel
    by_cases ht0 : t = 0
    · have hlt : x < 2 ^ n := by
        rcases Nat.lt_or_ge x (2 ^ n) with h | h
        · exact h
        · have := Nat.div_pos h (Nat.two_pow_pos n); omega
      have hn1 : 1 ≤ n := by
        rcases Nat.eq_zero_or_pos n with h | h
        · subst h; simp at hlt; omega
        · exact h
      have HL := hide hlt
      have HW := hide (hlow hn1)
      subst ht0
      clear ht hlt hlow
      go_wp2
      go_ret
      exact ⟨n, by go_num, hn1, hn, unhide HW, unhide HL, rfl⟩
    · have hge : 2 ^ n ≤ x := by
        rcases Nat.lt_or_ge x (2 ^ n) with h | h
        · rw [Nat.div_eq_of_lt h] at ht; omega
        · exact h
      have hn32 : n < 32 := by
        rcases Nat.lt_or_ge n 32 with h | h
        · exact h
        · have h1 : (2 : Nat) ^ 32 ≤ 2 ^ n := Nat.pow_le_pow_right (by omega) h
          have h2 : (2 : Nat) ^ 32 = 4294967296 := by decide
          omega
      have htl : t ≤ x := by rw [ht]; exact Nat.div_le_self _ _
      have ht2 : t / 2 = x / 2 ^ (n + 1) := by rw [ht, Nat.div_div_eq_div_mul, Nat.pow_succ]
      have HT := hide ht2
      have HG := hide hge
      have ht0i : ¬ (t : Int) = 0 := by omega
      clear ht ht2 hge hlow
      go_wp2
      go_roundw
      case rel => exact ⟨n + 1, t / 2, by go_num, by go_num, unhide HT, by omega, fun _ => unhide HG, trivial⟩
      case measure => simp [intOf]; omega
end Go.Proofs.YthplbfjpmnpjmaaDoor
