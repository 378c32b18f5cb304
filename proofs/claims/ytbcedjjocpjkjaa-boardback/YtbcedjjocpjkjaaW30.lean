/-
  board.share, board.tally, board.below, walked.
-/
import Derived.Test.YtbcedjjocpjkjaaW10
import Derived.OwnWalk
import Derived.Deep.DeepMust
import Derived.Deep.AppendLies
import Derived.Test.YtbcedjjocpjkjaaM6
namespace Go.Proofs.Ytbcedjjocpjkjaa
open Go.RowKit

set_option maxHeartbeats 400000 in
theorem share_any (n a b : Nat) (w : World) (hb0 : 0 < b) (hb1 : b ≤ 64) (ha : a ≤ 64) (hn : n / b * a ≤ 1152921504606846976) (hn' : n ≤ 1152921504606846976) :
    Calls Try.prog 24 #[.int .i64 n, .int .i64 a, .int .i64 b] w fun e w' => e = .returned (.int .i64 ((n * a / b : Nat) : Int)) ∧ ∃ m, w' = w.drewN m := by
  obtain ⟨q, hq⟩ : ∃ q, q = n / b := ⟨_, rfl⟩
  obtain ⟨r, hr⟩ : ∃ r, r = n % b := ⟨_, rfl⟩
  obtain ⟨s, hs⟩ : ∃ s, s = r * a / b := ⟨_, rfl⟩
  have hrb : r < b := by rw [hr]; exact Nat.mod_lt _ hb0
  have hra : r * a ≤ 4096 := Nat.le_trans (Nat.mul_le_mul (show r ≤ 64 by omega) ha) (by omega)
  have hsb : s ≤ 4096 := by rw [hs]; exact Nat.le_trans (Nat.div_le_self _ _) hra
  have HE : Hid (q * a + s = n * a / b) := by rw [Hid, hs, hq, hr]; exact share_eq n a b hb0
  have hq' : (n : Int) / (b : Int) = (q : Int) := by rw [hq]; simp
  have hr' : (n : Int) % (b : Int) = (r : Int) := by rw [hr]; simp
  have hs' : (r : Int) * (a : Int) / (b : Int) = (s : Int) := by rw [hs]; simp
  have hqn : q ≤ n := by rw [hq]; exact Nat.div_le_self _ _
  rw [← hq] at hn
  have c0 : (0 : Int) ≤ (q : Int) * (a : Int) := by rw [← Int.natCast_mul]; omega
  have c1 : (q : Int) * (a : Int) ≤ 1152921504606846976 := by rw [← Int.natCast_mul]; omega
  have c2 : (0 : Int) ≤ (r : Int) * (a : Int) := by rw [← Int.natCast_mul]; omega
  have c3 : (r : Int) * (a : Int) ≤ 4096 := by rw [← Int.natCast_mul]; omega
  have b0 : (0 : Int) < (b : Int) := by omega
  have b02 : ((b : Int) == 0) = false := by simp; omega
  clear hq hr hs
  go_enter Try.func24, Try.ntmps24
  go_wp2
  go_quiet (fail)
  go_wp2
  go_ret
  exact ⟨ret_int (by rw [← unhide HE]; simp), _, rfl⟩

theorem incF_comm (f : Nat → Nat) (a b : Nat) : incF (incF f a) b = incF (incF f b) a := by
  funext c
  simp only [incF]
  split <;> split <;> rfl
theorem cntF_snoc : ∀ (l : List UInt8) (x : UInt8), cntF (l ++ [x]) = incF (cntF l) x.toNat
  | [], _ => rfl
  | y :: l, x => by rw [List.cons_append, cntF, cntF_snoc l x, incF_comm, cntF]

/-- A row of 256 counts. -/
def cvals (f : Nat → Nat) : List Value := (List.range K256).map fun c => Value.int .i64 (f c : Int)
def isCnt (w : World) (base g : Nat) (f : Nat → Nat) : Prop := w.ownsRow base 2 1 (.slice (some ⟨g, 0, none⟩) 256 256) 256 (cvals f)
theorem cvals_get (f : Nat → Nat) (c : Nat) (h : c < K256) : (cvals f)[c]? = some (.int .i64 (f c : Int)) := by
  rw [cvals, List.getElem?_map, List.getElem?_range h]; rfl
theorem isCnt.cell {w : World} {base g : Nat} {f : Nat → Nat} (h : isCnt w base g f) (c : Nat) (hc : c < 256) : w.cell? ⟨g, c, none⟩ = some (.int .i64 (f c : Int)) := by
  rw [World.ownsRow.cellAt h c (by omega)]
  exact cvals_get f c hc
theorem isCnt.frozen {w : World} {base g : Nat} {f : Nat → Nat} (h : isCnt w base g f) (c : Nat) : w.frozen? ⟨g, c, none⟩ = false := World.ownsRow.frozenAt h c
theorem cvals_set (f f' : Nat → Nat) (c : Nat) (hf : ∀ d, d ≠ c → f' d = f d) : (cvals f).set c (.int .i64 (f' c : Int)) = cvals f' := by
  apply List.ext_getElem?
  intro d
  rw [List.getElem?_set]
  by_cases hd : d < K256
  · rw [cvals_get f' d hd]
    by_cases e : c = d
    · subst e
      rw [if_pos rfl, if_pos (by simpa [cvals] using hd)]
    · rw [if_neg e, cvals_get f d hd, hf d (fun h => e h.symm)]
  · have h1 : (cvals f')[d]? = none := List.getElem?_eq_none (by simp [cvals]; omega)
    have h2 : (cvals f)[d]? = none := List.getElem?_eq_none (by simp [cvals]; omega)
    rw [h1]
    by_cases e : c = d
    · rw [if_pos e, if_neg (by simp [cvals]; omega)]
    · rw [if_neg e, h2]
theorem isCnt.inc {w : World} {base g : Nat} {f : Nat → Nat} (h : isCnt w base g f) (c : Nat) : isCnt (w.setCell ⟨g, c, none⟩ (.int .i64 ((f c : Int) + 1))) base g (incF f c) := by
  have := (World.ownsRow.stored h c (.int .i64 ((f c : Int) + 1))).1
  have e : ((incF f c c : Nat) : Int) = (f c : Int) + 1 := by simp [incF]
  rw [← e, cvals_set f (incF f c) c (fun d hd => by simp [incF, hd]), e] at this
  exact this
theorem isCnt.dec {w : World} {base g : Nat} {f : Nat → Nat} (h : isCnt w base g f) (c : Nat) (h0 : 0 < f c) : isCnt (w.setCell ⟨g, c, none⟩ (.int .i64 ((f c : Int) - 1))) base g (decF f c) := by
  have := (World.ownsRow.stored h c (.int .i64 ((f c : Int) - 1))).1
  have e : ((decF f c c : Nat) : Int) = (f c : Int) - 1 := by simp [decF]; omega
  rw [← e, cvals_set f (decF f c) c (fun d hd => by simp [decF, hd]), e] at this
  exact this
theorem isCnt.below {w w1 : World} {base g : Nat} {f : Nat → Nat} (h : isCnt w base g f) (hb : Below w.heap.size w w1) : isCnt w1 base g f := own_below h hb
theorem isCnt.drewN {w : World} {base g : Nat} {f : Nat → Nat} (h : isCnt w base g f) (m : Nat) : isCnt (w.drewN m) base g f := h
theorem isCnt.ge {w : World} {base g : Nat} {f : Nat → Nat} (h : isCnt w base g f) : base ≤ g := own_ge h g rfl
theorem isCnt.lt {w : World} {base g : Nat} {f : Nat → Nat} (h : isCnt w base g f) : g < w.heap.size := World.block_lt_of_cell? w _ (h.cell 0 (by omega))
theorem Try.info2 : (Try.prog.info? 2).map (fun i => (i.zero, i.size, i.bytes)) = some (some (.int .i64 0), 1, 8) := by kernel_rfl

theorem made_cvals : (madeCells (Value.int .i64 0).cells (256 * 1)).toList = cvals (cntF []) := by
  have h : (Value.int .i64 0).cells = #[Value.int .i64 0] := rfl
  rw [h, toList_madeCells_one]
  apply List.ext_getElem?
  intro c
  by_cases hc : c < K256
  · rw [cvals_get _ _ hc, List.getElem?_replicate, if_pos (show c < 256 * 1 from hc)]; rfl
  · have h1 : (cvals (cntF []))[c]? = none := List.getElem?_eq_none (by simp [cvals]; omega)
    rw [h1, List.getElem?_replicate]
    exact if_neg (show ¬ c < 256 * 1 from hc)

set_option maxHeartbeats 400000 in
theorem tally_any (s : ByteArray) (w : World) (hs : s.size ≤ 64) :
    Calls Try.prog 29 #[.string s] w fun e w' => e = .returned (.slice (some ⟨w.heap.size, 0, none⟩) 256 256) ∧ isCnt w' w.heap.size w.heap.size (cntF s.data.toList) ∧ Below w.heap.size w w' := by
  obtain ⟨i0, hi, hz0, hz1, hz2⟩ := info_parts Try.info2
  go_enter Try.func29, Try.ntmps29
  go_wp2_with (at_make; go_must (refine wpList_make_full _ rfl _ _ 52 rfl w.heap.size 2 i0 (.int .i64 0) 1 Try.underlying52 hi hz0 hz1 .i64 .i64 _ _ 256 rfl rfl rfl rfl (by rw [hz2]; omega) (by unfold maxLen; omega) (by simp) ?_; intro wm hown hgrow))
  rw [made_cvals] at hown
  have hcn : isCnt wm w.heap.size w.heap.size (cntF (s.data.toList.take 0)) := hown
  have hbm : Below w.heap.size w wm := (Below.refl _ _).grown hgrow (Nat.le_refl _) (by simp)
  clear hown hgrow
  go_wp2
  go_loopw [8] (fun i wr => ∃ k : Nat, k ≤ s.size ∧ i = .int .i64 k ∧ isCnt wr w.heap.size w.heap.size (cntF (s.data.toList.take k)) ∧ Below w.heap.size w wr) (fun i _ => s.size - (intOf i).toNat)
  case atStart => exact ⟨0, Nat.zero_le _, rfl, hcn, hbm⟩
  case round =>
    obtain ⟨k, hk, rfl, hcr, hbr⟩ := hrel
    clear hcn hbm
    by_cases hlt : k < s.size
    · have h256 : s[k].toNat < 256 := s[k].toNat_lt
      have hc := hcr.cell s[k].toNat h256
      have hf := hcr.frozen s[k].toNat
      have R := hcr.inc s[k].toNat
      rw [← cntF_snoc, ← take_snoc s k hlt] at R
      have hle : cntF (s.data.toList.take k) s[k].toNat ≤ 64 := by
        have h1 := sumTo_ge (cntF (s.data.toList.take k)) (byte_lt s[k])
        rw [cntF_sum, List.length_take] at h1
        omega
      obtain ⟨z, hz⟩ : ∃ z, z = cntF (s.data.toList.take k) s[k].toNat := ⟨_, rfl⟩
      rw [← hz] at hc hle R
      clear hz hcr
      have i0 : (0 : Int) ≤ (s[k].toNat : Int) := by omega
      have i1 : (s[k].toNat : Int) < 256 := by omega
      go_wp2
      go_roundw
      case rel => exact ⟨k + 1, by omega, by go_num, R, hbr.setCell (Nat.le_refl _) _⟩
      case measure => simp [intOf]; omega
    · rw [take_all s k (by omega)] at hcr
      go_wp2
      go_ret
      exact ⟨rfl, hcr, hbr⟩

set_option maxHeartbeats 400000 in
theorem below_any (f : Nat → Nat) (base g c : Nat) (w : World) (hc : c < 256) (h : isCnt w base g f) (hs : sumTo f K256 ≤ 64) :
    Calls Try.prog 30 #[.slice (some ⟨g, 0, none⟩) 256 256, .int .u8 c] w fun e w' => e = .returned (.int .i64 (sumTo f c : Nat)) ∧ w' = w := by
  have i0 : (0 : Int) ≤ (c : Int) := by omega
  have i1 : (c : Int) ≤ 256 := by omega
  go_enter Try.func30, Try.ntmps30
  go_wp2
  go_loop [5, 12] (fun t i => ∃ j : Nat, j ≤ c ∧ i = .int .i64 j ∧ t = .int .i64 ((sumTo f j : Nat) : Int)) (fun _ i => c - (intOf i).toNat)
  case atStart => exact ⟨0, Nat.zero_le _, rfl, rfl⟩
  case round =>
    obtain ⟨j, hj, rfl, rfl⟩ := hrel
    by_cases hlt : j < c
    · have hcj := h.cell j (by omega)
      have hsj : sumTo f (j + 1) = sumTo f j + f j := rfl
      have hle : sumTo f (j + 1) ≤ 64 := Nat.le_trans (sumTo_le f (show j + 1 ≤ K256 from by have : c < K256 := hc; omega)) hs
      obtain ⟨x, hx⟩ : ∃ x, x = sumTo f j := ⟨_, rfl⟩
      obtain ⟨y, hy⟩ : ∃ y, y = f j := ⟨_, rfl⟩
      rw [← hx] at hsj ⊢
      rw [← hy] at hsj hcj
      have HS := hide hsj
      have hxy : x + y ≤ 64 := by omega
      clear hsj hx hy hle
      go_wp2
      go_round
      case rel => exact ⟨j + 1, by omega, by go_num, by rw [unhide HS]; simp⟩
      case measure => simp [intOf]; omega
    · obtain rfl : j = c := by omega
      go_wp2
      go_ret
      exact ⟨rfl, rfl⟩
end Go.Proofs.Ytbcedjjocpjkjaa
