/-
  parlourbig's numbers, walked: Mul.
  Plain mathematics of ranks, no program: how many arrangements bytes have; the number of one; the one of a number.
  gameref.factorial, walked; parlourbig.plain.
-/
import Derived.Test.YtbcedjjocpjkjaaJ5
import Derived.Test.YtbcedjjocpjkjaaJ0
import Derived.Laws.Bits64b
namespace Go.Proofs.Ytbcedjjocpjkjaa
open Go.RowKit
attribute [local go_sem ↓] Go.wp_at_zero Go.wp_at_succ

/-- What a number's block holds. -/
theorem isBig.open {w : World} {b N : Nat} (h : isBig w b N) : ∃ ao cap l, w.cell? ⟨b, 0, none⟩ = some (.bool false) ∧ w.cell? ⟨b, 1, none⟩ = some (.slice ao l.length cap) ∧ b < w.heap.size ∧ isWs w ao cap l ∧ trimL l = l ∧ val 4294967296 l = N := by
  have hlt := h.lt
  obtain ⟨ao, cap, l, hb, r⟩ := h
  exact ⟨ao, cap, l, by simp [World.cell?, hb], by simp [World.cell?, hb], hlt, r⟩
theorem But.drew {S b : Nat} {v w : World} (h : But S b v.drew w) : But S b v w := ⟨h.os, h.tape, h.output, h.size, h.block⟩
/-- The words of a number below B ^ n are n at most. -/
theorem trim_len {B : Nat} (hB : 1 < B) : ∀ (l : List Nat) (n : Nat), trimL l = l → val B l < B ^ n → l.length ≤ n
  | [], n, _, _ => Nat.zero_le _
  | x :: l, 0, h, hv => by
    exfalso
    have h0 : val B (x :: l) = 0 := by simp at hv; exact hv
    have : x + B * val B l = 0 := h0
    have hx : x = 0 := by omega
    have hl : val B l = 0 := by
      rcases Nat.eq_zero_or_pos (val B l) with h | h
      · exact h
      · have := Nat.mul_pos (by omega : 0 < B) h; omega
    have htl : trimL l = l := by
      simp only [trimL] at h
      split at h
      · simp at h
      · simpa using h
    have := trim_len hB l 0 htl (by simp [hl])
    have hl0 : l = [] := List.length_eq_zero_iff.1 (by omega)
    subst hl0
    subst hx
    simp [trimL] at h
  | x :: l, n + 1, h, hv => by
    have htl : trimL l = l := by
      simp only [trimL] at h
      split at h
      · simp at h
      · simpa using h
    have hv' : x + B * val B l < B ^ n * B := by rw [← Nat.pow_succ]; exact hv
    have hvl : val B l < B ^ n := by
      rcases Nat.lt_or_ge (val B l) (B ^ n) with h | h
      · exact h
      · have := Nat.mul_le_mul_left B h
        rw [Nat.mul_comm B (B ^ n)] at this
        omega
    have := trim_len hB l n htl hvl
    simp; omega

set_option maxHeartbeats 1000000 in
theorem Mul_any (b bx cy X Y : Nat) (v : Value) (w : World) (hb : isNum w b v) (hx : isBig w bx X) (hy : isBig w cy Y) (hX : X < 4294967296 ^ 200) (hY : Y < 4294967296 ^ 200) :
    Calls Try.prog 73 #[.pointer (some ⟨b, 0, none⟩), .pointer (some ⟨bx, 0, none⟩), .pointer (some ⟨cy, 0, none⟩)] w fun e w' =>
      e = .returned (.pointer (some ⟨b, 0, none⟩)) ∧ isBig w' b (X * Y) ∧ But w.heap.size b w w' := by
  obtain ⟨xo, xc, xl, x0, x1, xlt, xw, xt, rfl⟩ := hx.open
  obtain ⟨yo, yc, yl, y0, y1, ylt, yw, yt, rfl⟩ := hy.open
  have hxl := trim_len (by omega) xl 200 xt hX
  have hyl := trim_len (by omega) yl 200 yt hY
  have HB := hide hb
  have HXT := hide xt
  have HYT := hide yt
  clear hx hy hX hY xt yt hb
  go_enter Try.func73, Try.ntmps73
  go_wp2
  go_region_with (first
      | (go_at_call 58; refine (give_any b v ro rc (trimL rl) _ ((show isNum w.drew b v from unhide HB).below hbm (Nat.le_refl _)) hrw (trimL_idem _)).mono ?_; rintro e wg ⟨rfl, hbig, hbut⟩)
      | (go_at_call 89; refine (mul_any xo yo xc yc xl yl w.drew ⟨xw.small, xw.le, xw.nil, xw.len, xw.cells⟩ ⟨yw.small, yw.le, yw.nil, yw.len, yw.cells⟩ hxl hyl).mono ?_; rintro e wm ⟨ro, rc, rl, rfl, hrw, hrv, hbm⟩; have x0' := (hbm.cell (p := ⟨bx, 0, none⟩) (by dsimp only [World.drew]; omega)).trans x0; have y0' := (hbm.cell (p := ⟨cy, 0, none⟩) (by dsimp only [World.drew]; omega)).trans y0))
  all_goals (go_wp2; go_ret; rw [trimL_val, hrv] at hbig; exact ⟨rfl, hbig, ((But.of_below hbm).trans (hbut.mono hbm.size)).drew⟩)
end Go.Proofs.Ytbcedjjocpjkjaa

namespace Go.Proofs.Ytbcedjjocpjkjaa

/-- How many bytes there are. -/
def K256 : Nat := 256
def factN : Nat → Nat
  | 0 => 1
  | n + 1 => factN n * (n + 1)
def sumTo (g : Nat → Nat) : Nat → Nat
  | 0 => 0
  | n + 1 => sumTo g n + g n
def prodTo (g : Nat → Nat) : Nat → Nat
  | 0 => 1
  | n + 1 => prodTo g n * g n
/-- One fewer of d. -/
def decF (f : Nat → Nat) (d : Nat) : Nat → Nat := fun c => if c = d then f c - 1 else f c
/-- One more of d. -/
def incF (f : Nat → Nat) (d : Nat) : Nat → Nat := fun c => if c = d then f c + 1 else f c
/-- How many arrangements there are of n bytes, f c of each byte c. -/
def arrF : Nat → (Nat → Nat) → Nat
  | 0, _ => 1
  | n + 1, f => sumTo (fun d => if 0 < f d then arrF n (decF f d) else 0) K256

theorem factN_pos : ∀ n, 0 < factN n
  | 0 => by simp [factN]
  | n + 1 => Nat.mul_pos (factN_pos n) (by omega)
theorem prodTo_pos (g : Nat → Nat) (h : ∀ c, 0 < g c) : ∀ n, 0 < prodTo g n
  | 0 => by simp [prodTo]
  | n + 1 => Nat.mul_pos (prodTo_pos g h n) (h n)
theorem sumTo_congr {g h : Nat → Nat} : ∀ n, (∀ c, c < n → g c = h c) → sumTo g n = sumTo h n
  | 0, _ => rfl
  | n + 1, e => by rw [sumTo, sumTo, sumTo_congr n (fun c hc => e c (by omega)), e n (by omega)]
theorem prodTo_congr {g h : Nat → Nat} : ∀ n, (∀ c, c < n → g c = h c) → prodTo g n = prodTo h n
  | 0, _ => rfl
  | n + 1, e => by rw [prodTo, prodTo, prodTo_congr n (fun c hc => e c (by omega)), e n (by omega)]
theorem sumTo_mul (g : Nat → Nat) (k : Nat) : ∀ n, sumTo g n * k = sumTo (fun c => g c * k) n
  | 0 => by simp [sumTo]
  | n + 1 => by rw [sumTo, Nat.add_mul, sumTo_mul g k n, sumTo]
theorem mul_sumTo (g : Nat → Nat) (k : Nat) : ∀ n, k * sumTo g n = sumTo (fun c => k * g c) n
  | 0 => by simp [sumTo]
  | n + 1 => by rw [sumTo, Nat.mul_add, mul_sumTo g k n, sumTo]
theorem sumTo_zero : ∀ n, sumTo (fun _ => 0) n = 0
  | 0 => rfl
  | n + 1 => by rw [sumTo, sumTo_zero n]
theorem sumTo_le (g : Nat → Nat) : ∀ {m n : Nat}, m ≤ n → sumTo g m ≤ sumTo g n
  | m, 0, h => by have : m = 0 := by omega
                  rw [this]; exact Nat.le_refl _
  | m, n + 1, h => by
    rcases Nat.lt_or_ge m (n + 1) with h1 | h1
    · exact Nat.le_trans (sumTo_le g (show m ≤ n by omega)) (Nat.le_add_right _ _)
    · have : m = n + 1 := by omega
      rw [this]; exact Nat.le_refl _
theorem sumTo_ge (g : Nat → Nat) {c n : Nat} (h : c < n) : g c ≤ sumTo g n :=
  Nat.le_trans (Nat.le_add_left _ _) (sumTo_le g (show c + 1 ≤ n from h))

theorem sumTo_dec (f : Nat → Nat) (d : Nat) (hd : 0 < f d) : ∀ n, sumTo f n = sumTo (decF f d) n + (if d < n then 1 else 0)
  | 0 => by simp [sumTo]
  | n + 1 => by
    rw [sumTo, sumTo, sumTo_dec f d hd n]
    by_cases h1 : n = d
    · subst h1
      have : decF f n n = f n - 1 := by simp [decF]
      rw [this, if_neg (by omega), if_pos (by omega)]
      omega
    · have : decF f d n = f n := by simp [decF, h1]
      rw [this]
      by_cases h2 : d < n
      · rw [if_pos h2, if_pos (by omega)]; omega
      · rw [if_neg h2, if_neg (by omega)]; omega
def pfact (f : Nat → Nat) (n : Nat) : Nat := prodTo (fun c => factN (f c)) n
theorem pfact_dec (f : Nat → Nat) (d : Nat) (hd : 0 < f d) : ∀ n, pfact f n = pfact (decF f d) n * (if d < n then f d else 1)
  | 0 => by simp [pfact, prodTo]
  | n + 1 => by
    have ih := pfact_dec f d hd n
    unfold pfact at ih ⊢
    rw [prodTo, prodTo, ih]
    by_cases h1 : n = d
    · subst h1
      have e1 : decF f n n = f n - 1 := by simp [decF]
      obtain ⟨k, hk⟩ : ∃ k, f n = k + 1 := ⟨f n - 1, by omega⟩
      rw [e1, if_neg (by omega), if_pos (by omega), hk, Nat.add_sub_cancel, factN]
      simp [Nat.mul_assoc]
    · have e1 : decF f d n = f n := by simp [decF, h1]
      rw [e1]
      by_cases h2 : d < n
      · rw [if_pos h2, if_pos (by omega)]
        rw [Nat.mul_assoc, Nat.mul_comm (f d), ← Nat.mul_assoc]
      · rw [if_neg h2, if_neg (by omega)]
        simp

/-- The arrangements, by factorials. -/
theorem prodTo_one : ∀ n, prodTo (fun _ => 1) n = 1
  | 0 => rfl
  | n + 1 => by rw [prodTo, prodTo_one n]
theorem arrF_fact (n : Nat) : ∀ (f : Nat → Nat), sumTo f K256 = n → arrF n f * pfact f K256 = factN n := by
  induction n with
  | zero =>
    intro f h
    have hz : ∀ c, c < K256 → f c = 0 := fun c hc => by have := sumTo_ge f hc; omega
    have e : pfact f K256 = prodTo (fun _ => 1) K256 := prodTo_congr K256 (fun c hc => by rw [hz c hc]; rfl)
    rw [arrF, e, factN, prodTo_one]
  | succ n ih =>
    intro f h
    rw [arrF, sumTo_mul, factN, ← h, mul_sumTo]
    apply sumTo_congr
    intro d hd
    by_cases h0 : 0 < f d
    · rw [if_pos h0, pfact_dec f d h0 K256, if_pos hd, ← Nat.mul_assoc]
      have hs := sumTo_dec f d h0 K256
      rw [if_pos hd] at hs
      rw [ih (decF f d) (by omega)]
    · have : f d = 0 := by omega
      simp [this]
theorem pfact_pos (f : Nat → Nat) (n : Nat) : 0 < pfact f n := prodTo_pos _ (fun _ => factN_pos _) n
/-- One byte taken away: the arrangements times how many there are of it are the length times what is left. -/
theorem arrF_dec (n : Nat) (f : Nat → Nat) (d : Nat) (hd : d < K256) (h : sumTo f K256 = n + 1) (h0 : 0 < f d) : arrF (n + 1) f * f d = (n + 1) * arrF n (decF f d) := by
  have hs := sumTo_dec f d h0 K256
  rw [if_pos hd] at hs
  have h1 := arrF_fact (n + 1) f h
  have h2 := arrF_fact n (decF f d) (by omega)
  have hp := pfact_dec f d h0 K256
  rw [if_pos hd] at hp
  have hpos := pfact_pos (decF f d) K256
  apply Nat.eq_of_mul_eq_mul_right hpos
  rw [Nat.mul_assoc, Nat.mul_comm (f d), ← hp, h1, Nat.mul_assoc, h2, factN, Nat.mul_comm]

/-- What is left when d is taken away; nothing, if there is none. -/
def subF (n : Nat) (f : Nat → Nat) (d : Nat) : Nat := if 0 < f d then arrF n (decF f d) else 0
theorem arrF_sub (n : Nat) (f : Nat → Nat) (d : Nat) (hd : d < K256) (h : sumTo f K256 = n + 1) : arrF (n + 1) f * f d = (n + 1) * subF n f d := by
  unfold subF
  by_cases h0 : 0 < f d
  · rw [if_pos h0]; exact arrF_dec n f d hd h h0
  · rw [if_neg h0]; have : f d = 0 := by omega
    rw [this]; simp
/-- What stands ahead of c: by one division. -/
theorem arrF_below (n : Nat) (f : Nat → Nat) (c : Nat) (hc : c ≤ K256) (h : sumTo f K256 = n + 1) : arrF (n + 1) f * sumTo f c / (n + 1) = sumTo (subF n f) c := by
  have : arrF (n + 1) f * sumTo f c = (n + 1) * sumTo (subF n f) c := by
    rw [mul_sumTo, mul_sumTo]
    exact sumTo_congr c (fun d hd => arrF_sub n f d (by omega) h)
  rw [this, Nat.mul_div_cancel_left _ (by omega)]
theorem arrF_one (n : Nat) (f : Nat → Nat) (d : Nat) (hd : d < K256) (h : sumTo f K256 = n + 1) : arrF (n + 1) f * f d / (n + 1) = subF n f d := by
  rw [arrF_sub n f d hd h, Nat.mul_div_cancel_left _ (by omega)]
theorem arrF_sum (n : Nat) (f : Nat → Nat) : arrF (n + 1) f = sumTo (subF n f) K256 := rfl
theorem decF_incF (f : Nat → Nat) (d : Nat) : decF (incF f d) d = f := by
  funext c
  by_cases h : c = d <;> simp [decF, incF, h]
theorem sumTo_inc (f : Nat → Nat) (d : Nat) (hd : d < K256) : sumTo (incF f d) K256 = sumTo f K256 + 1 := by
  have h0 : 0 < incF f d d := by simp [incF]
  have := sumTo_dec (incF f d) d h0 K256
  rw [if_pos hd, decF_incF] at this
  exact this
/-- One byte more. -/
theorem arrF_inc (n : Nat) (f : Nat → Nat) (d : Nat) (hd : d < K256) (h : sumTo f K256 = n) : arrF n f * (n + 1) / incF f d d = arrF (n + 1) (incF f d) := by
  have h0 : 0 < incF f d d := by simp [incF]
  have := arrF_dec n (incF f d) d hd (by rw [sumTo_inc f d hd, h]) h0
  rw [decF_incF] at this
  rw [Nat.mul_comm (arrF n f), ← this, Nat.mul_div_cancel _ h0]

/-- share, in numbers. -/
theorem share_eq (n a b : Nat) (hb : 0 < b) : n / b * a + n % b * a / b = n * a / b := by
  have e : n * a = b * (n / b * a) + n % b * a := by
    conv => lhs; rw [← Nat.div_add_mod n b]
    rw [Nat.add_mul, Nat.mul_assoc]
  rw [e, Nat.mul_add_div hb]
end Go.Proofs.Ytbcedjjocpjkjaa

namespace Go.Proofs.Ytbcedjjocpjkjaa
open Go.RowKit
attribute [local go_sem ↓] Go.wp_at_zero Go.wp_at_succ

theorem factN_pow : ∀ n : Nat, n ≤ 256 → factN n ≤ 256 ^ n
  | 0, _ => by simp [factN]
  | n + 1, h => by
    have := factN_pow n (by omega)
    simp only [factN, Nat.pow_succ]
    exact Nat.mul_le_mul this h
theorem pow_small : (256 : Nat) ^ 256 < 4294967296 ^ 200 := by decide +kernel
theorem factN_small (n : Nat) (h : n ≤ 256) : factN n < 4294967296 ^ 200 :=
  Nat.lt_of_le_of_lt (Nat.le_trans (factN_pow n h) (Nat.pow_le_pow_right (by omega) h)) pow_small
theorem isBig.isNum {w : World} {b N : Nat} (h : isBig w b N) : ∃ v, isNum w b v := h.num

set_option maxHeartbeats 1000000 in
theorem factorial_any (n : Nat) (w : World) (hn : n ≤ 256) :
    Calls Try.prog 51 #[.int .i64 (n : Int)] w fun e w' => e = .returned (.pointer (some ⟨w.heap.size, 0, none⟩)) ∧ isBig w' w.heap.size (factN n) ∧ Below w.heap.size w w' := by
  go_enter Try.func51, Try.ntmps51
  go_wp2_with fail
  refine (NewInt_any 1 w (by omega)).mono ?_
  rintro e w1 ⟨rfl, hg1, hb1⟩
  go_wp2_with fail
  go_loopw [4] (fun v wr => ∃ k : Nat, k ≤ 256 ∧ (k ≤ n ∨ (k = 1 ∧ n = 0)) ∧ 1 ≤ k ∧ v = .int .i64 ((k : Int) + 1) ∧ isBig wr w.heap.size (factN k) ∧ Below w.heap.size w wr) (fun v _ => n + 1 - (intOf v).toNat)
  case atStart => exact ⟨1, by omega, by omega, by omega, rfl, hg1, hb1⟩
  case round =>
    obtain ⟨k, hk, hkn, hk1, rfl, hg, hb⟩ := hrel
    clear hg1 hb1
    by_cases hkl : k + 1 ≤ n
    · have hki : (k : Int) + 1 ≤ (n : Int) := by omega
      have hc : ((k + 1 : Nat) : Int) = (k : Int) + 1 := by omega
      have HN := hide (fun w => NewInt_any (k + 1) w (by omega))
      rw [hc] at HN
      go_wp2_with fail
      refine (unhide HN _).mono ?_
      rintro e w2 ⟨rfl, hg2, hb2⟩
      have hg' := hg.below hb2 (Nat.le_refl _)
      obtain ⟨v, hv⟩ := hg'.num
      go_wp2_with fail
      refine (Mul_any _ _ _ _ _ v w2 hv hg' hg2 (factN_small k (by omega)) ?_).mono ?_
      · exact Nat.lt_of_lt_of_le (by omega : k + 1 < 4294967296 ^ 1) (Nat.pow_le_pow_right (by omega) (by omega))
      rintro e w3 ⟨rfl, hg3, hb3⟩
      have hlt := hg.lt
      have hs2 := hb2.size
      have hval : factN k * (k + 1) = factN (k + 1) := rfl
      rw [hval] at hg3
      have hbb := (hb.trans (hb2.mono (by have := hb.size; omega))).trans (hb3.fresh (Nat.le_refl _) (by omega))
      clear hg hb hb2 hg2 hg' hb3 hv hval
      go_wp2
      go_roundw
      case rel => exact ⟨k + 1, by omega, by omega, by omega, by go_num, hg3, hbb⟩
      case measure => simp [intOf]; omega
    · have hki : ¬ (k : Int) + 1 ≤ (n : Int) := by omega
      have hf : factN k = factN n := by
        rcases hkn with h | ⟨h1, h2⟩
        · have : k = n := by omega
          rw [this]
        · rw [h1, h2]; rfl
      rw [hf] at hg
      go_wp2
      go_ret
      exact ⟨rfl, hg, hb⟩

/-- Two words beside each other. -/
theorem or_nat (lo hi : Nat) (h1 : lo < 4294967296) : 4294967296 * hi ||| lo = lo + 4294967296 * hi := by
  have h := Nat.two_pow_add_eq_or_of_lt (i := 32) (b := lo) (by omega) hi
  have e : (2 : Nat) ^ 32 = 4294967296 := by decide
  rw [e] at h
  omega
theorem or_words (lo hi : Nat) (h1 : lo < 4294967296) (h2 : hi < 4294967296) : bits BinOp.or IntKind.u64 (lo : Int) ((hi : Int) * 4294967296) = ((lo + 4294967296 * hi : Nat) : Int) := by
  have e : (hi : Int) * 4294967296 = ((4294967296 * hi : Nat) : Int) := by omega
  rw [e, bits_or_u64_nat _ _ (by omega) (by omega), Nat.or_comm, or_nat lo hi h1]
theorem or_words' (lo hi : Nat) (h1 : lo < 4294967296) (h2 : hi < 4294967296) : bits BinOp.or IntKind.u64 ((hi : Int) * 4294967296) (lo : Int) = ((lo + 4294967296 * hi : Nat) : Int) := by
  have e : (hi : Int) * 4294967296 = ((4294967296 * hi : Nat) : Int) := by omega
  rw [e, bits_or_u64_nat _ _ (by omega) (by omega), or_nat lo hi h1]

set_option maxHeartbeats 1000000 in
theorem plain_any (ao : Option Addr) (ca : Nat) (l : List Nat) (w : World) (h : isWs w ao ca l) (hl : l.length ≤ 2) :
    Calls Try.prog 101 #[.slice ao l.length ca] w fun e w' => e = .returned (.int .u64 (val 4294967296 l : Int)) ∧ w' = w := by
  have hle := h.le
  match l, h, hl with
  | [], h, _ =>
    go_enter Try.func101, Try.ntmps101
    go_wp2
    go_ret
    exact ⟨rfl, rfl⟩
  | [lo], h, _ =>
    obtain ⟨g, rfl, hg, hc⟩ := h.cells (by simp)
    have c0 := hc 0 lo rfl
    have s0 := h.small lo (by simp)
    clear hc h
    go_enter Try.func101, Try.ntmps101
    go_wp2
    go_ret
    exact ⟨by simp [val], rfl⟩
  | [lo, hi], h, _ =>
    obtain ⟨g, rfl, hg, hc⟩ := h.cells (by simp)
    have c0 := hc 0 lo rfl
    have c1 := hc 1 hi rfl
    have s0 := h.small lo (by simp)
    have s1 := h.small hi (by simp)
    clear hc h
    go_enter Try.func101, Try.ntmps101
    go_wp2
    go_ret
    exact ⟨by rw [or_words lo hi s0 s1]; simp [val], rfl⟩
  | _ :: _ :: _ :: _, _, hl => simp at hl

set_option maxHeartbeats 1000000 in
theorem Uint64_any (b N : Nat) (w : World) (h : isBig w b N) (hN : N < 18446744073709551616) :
    Calls Try.prog 56 #[.pointer (some ⟨b, 0, none⟩)] w fun e w' => e = .returned (.int .u64 (N : Int)) ∧ w' = w := by
  obtain ⟨ao, ca, l, x0, x1, xlt, hw, ht, rfl⟩ := h.open
  clear h
  have h := hw
  have hl := trim_len (B := 4294967296) (by omega) l 2 ht (by omega)
  have hle := h.le
  clear hN ht x0 hw
  match l, h, hl with
  | [], h, _ =>
    go_enter Try.func56, Try.ntmps56
    go_wp2
    go_ret
    exact ⟨rfl, rfl⟩
  | [lo], h, _ =>
    obtain ⟨g, rfl, hg, hc⟩ := h.cells (by simp)
    have c0 := hc 0 lo rfl
    have s0 := h.small lo (by simp)
    clear hc h
    go_enter Try.func56, Try.ntmps56
    go_wp2
    go_ret
    exact ⟨by simp [val], rfl⟩
  | [lo, hi], h, _ =>
    obtain ⟨g, rfl, hg, hc⟩ := h.cells (by simp)
    have c0 := hc 0 lo rfl
    have c1 := hc 1 hi rfl
    have s0 := h.small lo (by simp)
    have s1 := h.small hi (by simp)
    clear hc h
    go_enter Try.func56, Try.ntmps56
    go_wp2
    go_ret
    exact ⟨by rw [or_words lo hi s0 s1]; simp [val], rfl⟩
  | _ :: _ :: _ :: _, _, hl => simp at hl

set_option maxHeartbeats 1000000 in
theorem Int64_any (b N : Nat) (w : World) (h : isBig w b N) (hN : N < 9223372036854775808) :
    Calls Try.prog 28 #[.pointer (some ⟨b, 0, none⟩)] w fun e w' => e = .returned (.int .i64 (N : Int)) ∧ w' = w := by
  have HU := hide (Uint64_any b N w h (by omega))
  obtain ⟨ao, ca, l, x0, x1, xlt, hw, ht, he⟩ := h.open
  clear x1 h hw ht he
  go_enter Try.func28, Try.ntmps28
  go_wp2_with fail
  refine (unhide HU).mono ?_
  rintro e w1 ⟨rfl, rfl⟩
  go_wp2
  go_ret
  exact ⟨rfl, rfl⟩
end Go.Proofs.Ytbcedjjocpjkjaa
