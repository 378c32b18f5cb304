/-
  board.share, board.tally, board.below, walked.
  Plain mathematics of turned boards: turns are a group; the least turned position is one; changed twice a position is as it was.
-/
import Derived.Test.YtbcedjjocpjkjaaW10
import Derived.OwnWalk
import Derived.Deep.DeepMust
import Derived.Deep.AppendLies
import Derived.Test.YtbcedjjocpjkjaaJ13
namespace Go.Proofs.Ytbcedjjocpjkjaa
open Go.RowKit

set_option maxHeartbeats 400000 in
theorem share_any (n a b : Nat) (w : World) (hb0 : 0 < b) (hb1 : b ≤ 64) (ha : a ≤ 64) (hn : n / b * a ≤ 1152921504606846976) (hn' : n ≤ 1152921504606846976) :
    Calls Try.prog 24 #[.int .i64 n, .int .i64 a, .int .i64 b] w fun e w' => e = .returned (.int .i64 ((n * a / b : Nat) : Int)) ∧ ∃ m, w' = w.drewN m := by
  obtain ⟨q, hq⟩ : ∃ q, q = n / b := ⟨_, rfl⟩
  obtain ⟨r, hr⟩ : ∃ r, r = n % b := ⟨_, rfl⟩
  obtain ⟨s, hs⟩ : ∃ s, s = r * a / b := ⟨_, rfl⟩
  have hrb : r < b := by rw [hr]; exact Nat.mod_lt _ hb0
  have hra : r * a ≤ 4096 := Nat.le_trans (Nat.mul_le_mul (show r ≤ 64 by omega) ha) (by omega)
  have hsb : s ≤ 4096 := by rw [hs]; exact Nat.le_trans (Nat.div_le_self _ _) hra
  have HE : Hid (q * a + s = n * a / b) := by rw [Hid, hs, hq, hr]; exact share_eq n a b hb0
  have hq' : (n : Int) / (b : Int) = (q : Int) := by rw [hq]; simp
  have hr' : (n : Int) % (b : Int) = (r : Int) := by rw [hr]; simp
  have hs' : (r : Int) * (a : Int) / (b : Int) = (s : Int) := by rw [hs]; simp
  have hqn : q ≤ n := by rw [hq]; exact Nat.div_le_self _ _
  rw [← hq] at hn
  have c0 : (0 : Int) ≤ (q : Int) * (a : Int) := by rw [← Int.natCast_mul]; omega
  have c1 : (q : Int) * (a : Int) ≤ 1152921504606846976 := by rw [← Int.natCast_mul]; omega
  have c2 : (0 : Int) ≤ (r : Int) * (a : Int) := by rw [← Int.natCast_mul]; omega
  have c3 : (r : Int) * (a : Int) ≤ 4096 := by rw [← Int.natCast_mul]; omega
  have b0 : (0 : Int) < (b : Int) := by omega
  have b02 : ((b : Int) == 0) = false := by simp; omega
  clear hq hr hs
  go_enter Try.func24, Try.ntmps24
  go_wp2
  go_quiet (fail)
  go_wp2
  go_ret
  exact ⟨ret_int (by rw [← unhide HE]; simp), _, rfl⟩

theorem incF_comm (f : Nat → Nat) (a b : Nat) : incF (incF f a) b = incF (incF f b) a := by
  funext c
  simp only [incF]
  split <;> split <;> rfl
theorem cntF_snoc : ∀ (l : List UInt8) (x : UInt8), cntF (l ++ [x]) = incF (cntF l) x.toNat
  | [], _ => rfl
  | y :: l, x => by rw [List.cons_append, cntF, cntF_snoc l x, incF_comm, cntF]

/-- A row of 256 counts. -/
def cvals (f : Nat → Nat) : List Value := (List.range K256).map fun c => Value.int .i64 (f c : Int)
def isCnt (w : World) (base g : Nat) (f : Nat → Nat) : Prop := w.ownsRow base 2 1 (.slice (some ⟨g, 0, none⟩) 256 256) 256 (cvals f)
theorem cvals_get (f : Nat → Nat) (c : Nat) (h : c < K256) : (cvals f)[c]? = some (.int .i64 (f c : Int)) := by
  rw [cvals, List.getElem?_map, List.getElem?_range h]; rfl
theorem isCnt.cell {w : World} {base g : Nat} {f : Nat → Nat} (h : isCnt w base g f) (c : Nat) (hc : c < 256) : w.cell? ⟨g, c, none⟩ = some (.int .i64 (f c : Int)) := by
  rw [World.ownsRow.cellAt h c (by omega)]
  exact cvals_get f c hc
theorem isCnt.frozen {w : World} {base g : Nat} {f : Nat → Nat} (h : isCnt w base g f) (c : Nat) : w.frozen? ⟨g, c, none⟩ = false := World.ownsRow.frozenAt h c
theorem cvals_set (f f' : Nat → Nat) (c : Nat) (hf : ∀ d, d ≠ c → f' d = f d) : (cvals f).set c (.int .i64 (f' c : Int)) = cvals f' := by
  apply List.ext_getElem?
  intro d
  rw [List.getElem?_set]
  by_cases hd : d < K256
  · rw [cvals_get f' d hd]
    by_cases e : c = d
    · subst e
      rw [if_pos rfl, if_pos (by simpa [cvals] using hd)]
    · rw [if_neg e, cvals_get f d hd, hf d (fun h => e h.symm)]
  · have h1 : (cvals f')[d]? = none := List.getElem?_eq_none (by simp [cvals]; omega)
    have h2 : (cvals f)[d]? = none := List.getElem?_eq_none (by simp [cvals]; omega)
    rw [h1]
    by_cases e : c = d
    · rw [if_pos e, if_neg (by simp [cvals]; omega)]
    · rw [if_neg e, h2]
theorem isCnt.inc {w : World} {base g : Nat} {f : Nat → Nat} (h : isCnt w base g f) (c : Nat) : isCnt (w.setCell ⟨g, c, none⟩ (.int .i64 ((f c : Int) + 1))) base g (incF f c) := by
  have := (World.ownsRow.stored h c (.int .i64 ((f c : Int) + 1))).1
  have e : ((incF f c c : Nat) : Int) = (f c : Int) + 1 := by simp [incF]
  rw [← e, cvals_set f (incF f c) c (fun d hd => by simp [incF, hd]), e] at this
  exact this
theorem isCnt.dec {w : World} {base g : Nat} {f : Nat → Nat} (h : isCnt w base g f) (c : Nat) (h0 : 0 < f c) : isCnt (w.setCell ⟨g, c, none⟩ (.int .i64 ((f c : Int) - 1))) base g (decF f c) := by
  have := (World.ownsRow.stored h c (.int .i64 ((f c : Int) - 1))).1
  have e : ((decF f c c : Nat) : Int) = (f c : Int) - 1 := by simp [decF]; omega
  rw [← e, cvals_set f (decF f c) c (fun d hd => by simp [decF, hd]), e] at this
  exact this
theorem isCnt.below {w w1 : World} {base g : Nat} {f : Nat → Nat} (h : isCnt w base g f) (hb : Below w.heap.size w w1) : isCnt w1 base g f := own_below h hb
theorem isCnt.drewN {w : World} {base g : Nat} {f : Nat → Nat} (h : isCnt w base g f) (m : Nat) : isCnt (w.drewN m) base g f := h
theorem isCnt.ge {w : World} {base g : Nat} {f : Nat → Nat} (h : isCnt w base g f) : base ≤ g := own_ge h g rfl
theorem isCnt.lt {w : World} {base g : Nat} {f : Nat → Nat} (h : isCnt w base g f) : g < w.heap.size := World.block_lt_of_cell? w _ (h.cell 0 (by omega))
theorem Try.info2 : (Try.prog.info? 2).map (fun i => (i.zero, i.size, i.bytes)) = some (some (.int .i64 0), 1, 8) := by kernel_rfl

theorem made_cvals : (madeCells (Value.int .i64 0).cells (256 * 1)).toList = cvals (cntF []) := by
  have h : (Value.int .i64 0).cells = #[Value.int .i64 0] := rfl
  rw [h, toList_madeCells_one]
  apply List.ext_getElem?
  intro c
  by_cases hc : c < K256
  · rw [cvals_get _ _ hc, List.getElem?_replicate, if_pos (show c < 256 * 1 from hc)]; rfl
  · have h1 : (cvals (cntF []))[c]? = none := List.getElem?_eq_none (by simp [cvals]; omega)
    rw [h1, List.getElem?_replicate]
    exact if_neg (show ¬ c < 256 * 1 from hc)

set_option maxHeartbeats 400000 in
theorem tally_any (s : ByteArray) (w : World) (hs : s.size ≤ 64) :
    Calls Try.prog 29 #[.string s] w fun e w' => e = .returned (.slice (some ⟨w.heap.size, 0, none⟩) 256 256) ∧ isCnt w' w.heap.size w.heap.size (cntF s.data.toList) ∧ Below w.heap.size w w' := by
  obtain ⟨i0, hi, hz0, hz1, hz2⟩ := info_parts Try.info2
  go_enter Try.func29, Try.ntmps29
  go_wp2_with (at_make; go_must (refine wpList_make_full _ rfl _ _ 52 rfl w.heap.size 2 i0 (.int .i64 0) 1 Try.underlying52 hi hz0 hz1 .i64 .i64 _ _ 256 rfl rfl rfl rfl (by rw [hz2]; omega) (by unfold maxLen; omega) (by simp) ?_; intro wm hown hgrow))
  rw [made_cvals] at hown
  have hcn : isCnt wm w.heap.size w.heap.size (cntF (s.data.toList.take 0)) := hown
  have hbm : Below w.heap.size w wm := (Below.refl _ _).grown hgrow (Nat.le_refl _) (by simp)
  clear hown hgrow
  go_wp2
  go_loopw [8] (fun i wr => ∃ k : Nat, k ≤ s.size ∧ i = .int .i64 k ∧ isCnt wr w.heap.size w.heap.size (cntF (s.data.toList.take k)) ∧ Below w.heap.size w wr) (fun i _ => s.size - (intOf i).toNat)
  case atStart => exact ⟨0, Nat.zero_le _, rfl, hcn, hbm⟩
  case round =>
    obtain ⟨k, hk, rfl, hcr, hbr⟩ := hrel
    clear hcn hbm
    by_cases hlt : k < s.size
    · have h256 : s[k].toNat < 256 := s[k].toNat_lt
      have hc := hcr.cell s[k].toNat h256
      have hf := hcr.frozen s[k].toNat
      have R := hcr.inc s[k].toNat
      rw [← cntF_snoc, ← take_snoc s k hlt] at R
      have hle : cntF (s.data.toList.take k) s[k].toNat ≤ 64 := by
        have h1 := sumTo_ge (cntF (s.data.toList.take k)) (byte_lt s[k])
        rw [cntF_sum, List.length_take] at h1
        omega
      obtain ⟨z, hz⟩ : ∃ z, z = cntF (s.data.toList.take k) s[k].toNat := ⟨_, rfl⟩
      rw [← hz] at hc hle R
      clear hz hcr
      have i0 : (0 : Int) ≤ (s[k].toNat : Int) := by omega
      have i1 : (s[k].toNat : Int) < 256 := by omega
      go_wp2
      go_roundw
      case rel => exact ⟨k + 1, by omega, by go_num, R, hbr.setCell (Nat.le_refl _) _⟩
      case measure => simp [intOf]; omega
    · rw [take_all s k (by omega)] at hcr
      go_wp2
      go_ret
      exact ⟨rfl, hcr, hbr⟩

set_option maxHeartbeats 400000 in
theorem below_any (f : Nat → Nat) (base g c : Nat) (w : World) (hc : c < 256) (h : isCnt w base g f) (hs : sumTo f K256 ≤ 64) :
    Calls Try.prog 30 #[.slice (some ⟨g, 0, none⟩) 256 256, .int .u8 c] w fun e w' => e = .returned (.int .i64 (sumTo f c : Nat)) ∧ w' = w := by
  have i0 : (0 : Int) ≤ (c : Int) := by omega
  have i1 : (c : Int) ≤ 256 := by omega
  go_enter Try.func30, Try.ntmps30
  go_wp2
  go_loop [5, 12] (fun t i => ∃ j : Nat, j ≤ c ∧ i = .int .i64 j ∧ t = .int .i64 ((sumTo f j : Nat) : Int)) (fun _ i => c - (intOf i).toNat)
  case atStart => exact ⟨0, Nat.zero_le _, rfl, rfl⟩
  case round =>
    obtain ⟨j, hj, rfl, rfl⟩ := hrel
    by_cases hlt : j < c
    · have hcj := h.cell j (by omega)
      have hsj : sumTo f (j + 1) = sumTo f j + f j := rfl
      have hle : sumTo f (j + 1) ≤ 64 := Nat.le_trans (sumTo_le f (show j + 1 ≤ K256 from by have : c < K256 := hc; omega)) hs
      obtain ⟨x, hx⟩ : ∃ x, x = sumTo f j := ⟨_, rfl⟩
      obtain ⟨y, hy⟩ : ∃ y, y = f j := ⟨_, rfl⟩
      rw [← hx] at hsj ⊢
      rw [← hy] at hsj hcj
      have HS := hide hsj
      have hxy : x + y ≤ 64 := by omega
      clear hsj hx hy hle
      go_wp2
      go_round
      case rel => exact ⟨j + 1, by omega, by go_num, by rw [unhide HS]; simp⟩
      case measure => simp [intOf]; omega
    · obtain rfl : j = c := by omega
      go_wp2
      go_ret
      exact ⟨rfl, rfl⟩
end Go.Proofs.Ytbcedjjocpjkjaa

namespace Go.Proofs.Ytbcedjjocpjkjaa
open Go.RowKit

/-- One turn behind the other. -/
def cmulK (a b : Nat) : Nat :=
  if b / 4 % 2 = 1 then (((a ^^^ b) &&& 4) ||| (((a &&& 1) * 2) ||| ((a &&& 2) / 2))) ^^^ (b &&& 3) else a ^^^ b
theorem cmulK_lt : ∀ a : Nat, a < 8 → ∀ b : Nat, b < 8 → cmulK a b < 8 := by decide +kernel
theorem cmulK_onto : ∀ a : Nat, a < 8 → ∀ t : Nat, t < 8 → ∃ j : Nat, j < 8 ∧ cmulK a j = t := by decide +kernel
theorem cmulK_22 : cmulK 2 2 = 0 := by decide +kernel

theorem twd_mul : ∀ a : Nat, a < 8 → ∀ b : Nat, b < 8 → ∀ W H : Nat, twd (twd W H a) (thd W H a) b = twd W H (cmulK a b) := by
  intro a ha b hb W H
  have h : ∀ a : Nat, a < 8 → ∀ b : Nat, b < 8 → ((cmulK a b / 4 % 2 = 1) ↔ ((a / 4 % 2 = 1) ↔ ¬ (b / 4 % 2 = 1))) := by decide +kernel
  have h := h a ha b hb
  unfold twd thd
  by_cases h1 : a / 4 % 2 = 1 <;> by_cases h2 : b / 4 % 2 = 1 <;> simp [h1, h2, h]
theorem thd_mul : ∀ a : Nat, a < 8 → ∀ b : Nat, b < 8 → ∀ W H : Nat, thd (twd W H a) (thd W H a) b = thd W H (cmulK a b) := by
  intro a ha b hb W H
  have h : ∀ a : Nat, a < 8 → ∀ b : Nat, b < 8 → ((cmulK a b / 4 % 2 = 1) ↔ ((a / 4 % 2 = 1) ↔ ¬ (b / 4 % 2 = 1))) := by decide +kernel
  have h := h a ha b hb
  unfold twd thd
  by_cases h1 : a / 4 % 2 = 1 <;> by_cases h2 : b / 4 % 2 = 1 <;> simp [h1, h2, h]

/-- The eight turns by their three bits. -/
theorem src_mul : ∀ a : Nat, a < 8 → ∀ b : Nat, b < 8 → ∀ (W H : Nat) (x y : Int),
    srcX W a (srcX (twd W H a : Nat) b x y) (srcY (thd W H a : Nat) b x y) = srcX W (cmulK a b) x y ∧ srcY H a (srcX (twd W H a : Nat) b x y) (srcY (thd W H a : Nat) b x y) = srcY H (cmulK a b) x y := by
  intro a ha b hb W H x y
  have hbits : ∀ a : Nat, a < 8 → ∀ b : Nat, b < 8 →
      ((cmulK a b / 4 % 2 = 1) ↔ ((a / 4 % 2 = 1) ↔ ¬ (b / 4 % 2 = 1))) ∧
      ((cmulK a b % 2 = 1) ↔ ((b % 2 = 1) ↔ ¬ (if b / 4 % 2 = 1 then a / 2 % 2 = 1 else a % 2 = 1))) ∧
      ((cmulK a b / 2 % 2 = 1) ↔ ((b / 2 % 2 = 1) ↔ ¬ (if b / 4 % 2 = 1 then a % 2 = 1 else a / 2 % 2 = 1))) := by decide +kernel
  obtain ⟨h4, h1, h2⟩ := hbits a ha b hb
  unfold srcX srcY twd thd
  by_cases a4 : a / 4 % 2 = 1 <;> by_cases a2 : a / 2 % 2 = 1 <;> by_cases a1 : a % 2 = 1 <;> by_cases b4 : b / 4 % 2 = 1 <;> by_cases b2 : b / 2 % 2 = 1 <;> by_cases b1 : b % 2 = 1 <;>
    (simp only [a4, a2, a1, b4, b2, b1, if_true, if_false, not_true_eq_false, not_false_eq_true, iff_true, iff_false] at h4 h2 h1; simp only [a4, a2, a1, b4, b2, b1, h4, h2, h1, if_true, if_false]; refine ⟨?_, ?_⟩ <;> first | trivial | omega)

theorem dims (W H k : Nat) : if k / 4 % 2 = 1 then twd W H k = H ∧ thd W H k = W else twd W H k = W ∧ thd W H k = H := by
  unfold twd thd; split <;> simp
theorem dims_mul (W H k : Nat) : twd W H k * thd W H k = W * H := by
  unfold twd thd; split
  · exact Nat.mul_comm _ _
  · rfl
theorem data_tstr (C : ByteArray) (W H k : Nat) : (tstr C W H k).data.toList = tcells C.data.toList W H k (twd W H k) (W * H) := by simp [tstr]

/-- The cell y dw + x of a turned board. -/
theorem tget (C : ByteArray) (W H k x y : Nat) (hx : x < twd W H k) (hy : y < thd W H k) :
    (tstr C W H k).data.toList.getD (y * twd W H k + x) 0 = C.data.toList.getD (srcY H k x y * W + srcX W k x y).toNat 0 := by
  have hi : y * twd W H k + x < W * H := by
    rw [← dims_mul W H k, Nat.mul_comm (twd W H k)]
    have : y * twd W H k + twd W H k ≤ thd W H k * twd W H k := by rw [← Nat.succ_mul]; exact Nat.mul_le_mul_right _ hy
    omega
  have e1 : (y * twd W H k + x) % twd W H k = x := by rw [Nat.mul_comm, Nat.mul_add_mod, Nat.mod_eq_of_lt hx]
  have e2 : (y * twd W H k + x) / twd W H k = y := by rw [Nat.mul_comm, Nat.mul_add_div (by omega), Nat.div_eq_of_lt hx]; rfl
  rw [data_tstr, List.getD_eq_getElem?_getD, tcells, List.getElem?_map, List.getElem?_range hi]
  show tcell C.data.toList W H k (twd W H k) (y * twd W H k + x) = _
  unfold tcell
  rw [e1, e2]

theorem split_idx {i dw dh : Nat} (h : i < dw * dh) : i % dw < dw ∧ i / dw < dh := by
  have h0 : 0 < dw := by rcases Nat.eq_zero_or_pos dw with e | e; · simp [e] at h
                         · exact e
  exact ⟨Nat.mod_lt _ h0, Nat.div_lt_of_lt_mul h⟩

/-- ONE TURN BEHIND THE OTHER IS ONE. -/
theorem tstr_mul (C : ByteArray) (W H a b : Nat) (ha : a < 8) (hb : b < 8) : tstr (tstr C W H a) (twd W H a) (thd W H a) b = tstr C W H (cmulK a b) := by
  obtain ⟨D, hD⟩ : ∃ D, D = tstr C W H a := ⟨_, rfl⟩
  rw [← hD]
  unfold tstr
  congr 2
  rw [dims_mul]
  unfold tcells
  rw [twd_mul a ha b hb]
  apply List.map_congr_left
  intro i hi
  have hi : i < W * H := by simpa using hi
  rw [← dims_mul W H (cmulK a b)] at hi
  obtain ⟨hx, hy⟩ := split_idx hi
  unfold tcell
  have hx' : i % twd W H (cmulK a b) < twd (twd W H a) (thd W H a) b := by rw [twd_mul a ha b hb]; exact hx
  have hy' : i / twd W H (cmulK a b) < thd (twd W H a) (thd W H a) b := by rw [thd_mul a ha b hb]; exact hy
  generalize hX : i % twd W H (cmulK a b) = x at hx'
  generalize hY : i / twd W H (cmulK a b) = y at hy'
  obtain ⟨a0, a1, b0, b1⟩ := src_bounds (twd W H a) (thd W H a) b x y _ _ (dims _ _ b) (by omega) (by omega) (by omega) (by omega)
  obtain ⟨m1, m2⟩ := src_mul a ha b hb W H x y
  obtain ⟨x2, hx2⟩ := Int.eq_ofNat_of_zero_le a0
  obtain ⟨y2, hy2⟩ := Int.eq_ofNat_of_zero_le b0
  rw [hx2, hy2] at m1 m2
  rw [hx2] at a1
  rw [hy2] at b1
  have e : (srcY (thd W H a : Nat) b x y * (twd W H a : Nat) + srcX (twd W H a : Nat) b x y).toNat = y2 * twd W H a + x2 := by
    rw [hx2, hy2]; have : ((y2 * twd W H a : Nat) : Int) = (y2 : Int) * (twd W H a : Nat) := by simp
    omega
  rw [hD, e, tget C W H a x2 y2 (by omega) (by omega), m1, m2]

theorem IsPos.turned {W H : Nat} {C : ByteArray} {T : Int} {A B : ByteArray} (p : IsPos W H C T A B) (k : Nat) : IsPos (twd W H k) (thd W H k) (tstr C W H k) T A B := by
  have := p.w0; have := p.w1; have := p.h0; have := p.h1
  refine ⟨?_, ?_, ?_, ?_, ?_, ?_, p.t, p.a, p.b⟩
  · unfold twd; split <;> omega
  · unfold twd; split <;> omega
  · unfold thd; split <;> omega
  · unfold thd; split <;> omega
  · rw [tstr_size, dims_mul]
  · rw [data_tstr]
    unfold cellsB tcells
    rw [List.all_map, List.all_eq_true]
    intro i hi
    have hi : i < W * H := by simpa using hi
    have hi' := hi
    rw [← dims_mul W H k] at hi
    obtain ⟨hx, hy⟩ := split_idx hi
    obtain ⟨n, hn, _, hc⟩ := turned_idx C W H k (twd W H k) (thd W H k) _ _ p.c (dims W H k) hx hy
    have e : i / twd W H k * twd W H k + i % twd W H k = i := by rw [Nat.mul_comm]; exact Nat.div_add_mod _ _
    rw [e] at hc
    show cellB (tcell C.data.toList W H k (twd W H k) i).toNat = true
    rw [hc]
    have hall := p.cs
    simp only [cellsB, List.all_eq_true] at hall
    exact hall C[n] (by have : C.data.toList[n]'(by rw [len_data]; exact hn) = C[n] := rfl
                        rw [← this]; exact List.getElem_mem _)

/-- The whole board, not turned. -/
theorem tstr_zero (C : ByteArray) (W H : Nat) (hC : C.size = W * H) : tstr C W H 0 = C := by
  apply ByteArray.ext
  apply Array.toList_inj.1
  rw [data_tstr]
  apply List.ext_getElem?
  intro i
  unfold tcells
  rw [List.getElem?_map]
  by_cases hi : i < W * H
  · rw [List.getElem?_range hi]
    have hw : twd W H 0 = W := rfl
    have hi' := hi
    obtain ⟨hx, hy⟩ := split_idx hi
    have hl : i < C.data.toList.length := by rw [len_data, hC]; exact hi
    show some (tcell C.data.toList W H 0 (twd W H 0) i) = _
    unfold tcell
    rw [hw]
    have e : (srcY H 0 (i % W : Nat) (i / W : Nat) * W + srcX W 0 (i % W : Nat) (i / W : Nat)).toNat = i := by
      have h1 : srcY H 0 (i % W : Nat) (i / W : Nat) = (i / W : Nat) := rfl
      have h2 : srcX W 0 (i % W : Nat) (i / W : Nat) = (i % W : Nat) := rfl
      rw [h1, h2, ← Int.natCast_mul, ← Int.natCast_add, Int.toNat_natCast, Nat.mul_comm]
      exact Nat.div_add_mod _ _
    rw [e, List.getD_eq_getElem?_getD, List.getElem?_eq_getElem hl]
    rfl
  · rw [List.getElem?_eq_none (by simpa using hi), List.getElem?_eq_none (by rw [len_data, hC]; omega)]
    rfl
end Go.Proofs.Ytbcedjjocpjkjaa
