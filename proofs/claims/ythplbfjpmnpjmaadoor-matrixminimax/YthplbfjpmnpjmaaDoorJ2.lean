/-
  parlourbig.mul, walked: words multiplied.
  parlourbig's numbers, walked: SetInt64, NewInt, Mul.
  parlourbig's numbers, walked: Mul.
-/
import Derived.Test.YthplbfjpmnpjmaaDoorJ1
import Derived.Test.YthplbfjpmnpjmaaDoorJ0
import Derived.BigQuiet
import Derived.Deep.RegionHeld3
namespace Go.Proofs.YthplbfjpmnpjmaaDoor
open Go.RowKit

def uvals (l : List Nat) : List Value := l.map fun (x : Nat) => Value.int .u32 (x : Int)
/-- A row of words of the call's own in block g. -/
def ownU (w : World) (base g : Nat) (l : List Nat) : Prop := w.ownsRow base 106 1 (.slice (some ⟨g, 0, none⟩) l.length l.length) l.length (uvals l)
theorem ownU.cell {w : World} {base g : Nat} {l : List Nat} (h : ownU w base g l) {k x : Nat} (hx : l[k]? = some x) : w.cell? ⟨g, k, none⟩ = some (.int .u32 (x : Int)) := by
  have hk : k < l.length := (List.getElem?_eq_some_iff.1 hx).1
  rw [World.ownsRow.cellAt h k (by omega)]
  simp [uvals, hx]
theorem ownU.frozen {w : World} {base g : Nat} {l : List Nat} (h : ownU w base g l) (k : Nat) : w.frozen? ⟨g, k, none⟩ = false := World.ownsRow.frozenAt h k
theorem ownU.set {w : World} {base g : Nat} {l : List Nat} (h : ownU w base g l) (k x : Nat) : ownU (w.setCell ⟨g, k, none⟩ (.int .u32 (x : Int))) base g (l.set k x) := by
  have h1 := (World.ownsRow.stored h k (.int .u32 (x : Int))).1
  have e : (uvals l).set k (.int .u32 (x : Int)) = uvals (l.set k x) := by simp [uvals, List.map_set]
  rw [e] at h1
  unfold ownU
  rw [List.length_set]
  exact h1
theorem ownU.drewN {w : World} {base g : Nat} {l : List Nat} (h : ownU w base g l) (n : Nat) : ownU (w.drewN n) base g l := h
theorem ownU.lt {w : World} {base g : Nat} {l : List Nat} (h : ownU w base g l) : base ≤ g ∧ g < w.heap.size := World.ownsRow.lt h g rfl
theorem ownU.ws {w : World} {base g : Nat} {l : List Nat} (h : ownU w base g l) (hs : ∀ x ∈ l, x < 4294967296) (hl : l.length ≤ 100000) : isWs w (some ⟨g, 0, none⟩) l.length l :=
  ⟨hs, Nat.le_refl _, (fun e => by cases e), hl, fun _ => ⟨g, rfl, h.lt.2, fun k x hx => h.cell hx⟩⟩

theorem val_set (B : Nat) : ∀ (l : List Nat) (k x y : Nat), l[k]? = some x → val B (l.set k y) + x * B ^ k = val B l + y * B ^ k
  | [], k, x, y, h => by simp at h
  | z :: l, 0, x, y, h => by simp at h; subst h; simp [val]; omega
  | z :: l, k + 1, x, y, h => by
    have h1 := val_set B l k x y (by simpa using h)
    have h2 := congrArg (B * ·) h1
    simp only [Nat.mul_add] at h2
    simp only [List.set_cons_succ, val, Nat.pow_succ]
    have e1 : x * (B ^ k * B) = B * (x * B ^ k) := by rw [Nat.mul_comm (B ^ k) B, ← Nat.mul_assoc, Nat.mul_comm x B, Nat.mul_assoc]
    have e2 : y * (B ^ k * B) = B * (y * B ^ k) := by rw [Nat.mul_comm (B ^ k) B, ← Nat.mul_assoc, Nat.mul_comm y B, Nat.mul_assoc]
    rw [e1, e2]
    omega
theorem val_take_succ (B : Nat) (l : List Nat) (k x : Nat) (h : l[k]? = some x) : val B (l.take (k + 1)) = val B (l.take k) + x * B ^ k := by
  obtain ⟨hk, he⟩ := List.getElem?_eq_some_iff.1 h
  rw [take_snocL l k hk, val_app, he, List.length_take]
  have : min k l.length = k := by omega
  rw [this]
  simp [val, Nat.mul_comm]
theorem trimL_idem (l : List Nat) : trimL (trimL l) = trimL l := by
  induction l with
  | nil => rfl
  | cons x l ih =>
    simp only [trimL]
    split
    · rfl
    · rename_i h
      simp only [trimL, ih, h, if_false]
theorem mem_set {l : List Nat} {k y B : Nat} (h : ∀ x ∈ l, x < B) (hy : y < B) : ∀ x ∈ l.set k y, x < B := by
  intro x hx
  rcases List.mem_or_eq_of_mem_set hx with hx | rfl
  · exact h x hx
  · exact hy

/-- One word's product: what is stored, what is carried. -/
theorem mul_step (B R0 R R' x y r c c' s vb i j : Nat) (h : R' + r * B ^ (i + j) = R + s * B ^ (i + j)) (hs : c + x * y + r = s + B * c') (hinv : R + c * B ^ (i + j) = R0 + x * vb * B ^ i) :
    R' + c' * B ^ (i + (j + 1)) = R0 + x * (vb + y * B ^ j) * B ^ i := by
  have e1 : B ^ (i + (j + 1)) = B * B ^ (i + j) := by rw [← Nat.add_assoc, Nat.pow_succ, Nat.mul_comm]
  have e2 : x * (vb + y * B ^ j) * B ^ i = x * vb * B ^ i + x * y * B ^ (i + j) := by
    rw [Nat.mul_add, Nat.add_mul, Nat.pow_add, ← Nat.mul_assoc x y]
    congr 1
    rw [Nat.mul_assoc (x * y), Nat.mul_comm (B ^ j) (B ^ i)]
  have e3 : (c + x * y + r) * B ^ (i + j) = (s + B * c') * B ^ (i + j) := by rw [hs]
  simp only [Nat.add_mul] at e3
  rw [e1, e2]
  have e4 : c' * (B * B ^ (i + j)) = B * c' * B ^ (i + j) := by rw [← Nat.mul_assoc, Nat.mul_comm c' B]
  rw [e4]
  omega

theorem isWs_nil (w : World) : isWs w none 0 (trimL []) := ⟨fun x hx => (by cases hx), Nat.le_refl _, fun _ => rfl, Nat.zero_le _, fun h => absurd rfl h⟩
theorem Tryd.infoU : (Tryd.prog.info? 106).map (fun i => (i.zero, i.size, i.bytes)) = some (some (.int .u32 0), 1, 4) := by kernel_rfl
theorem made_zeros (n : Nat) : (madeCells (Value.int .u32 0).cells (n * 1)).toList = uvals (List.replicate n 0) := by
  have h : (Value.int .u32 0).cells = #[Value.int .u32 0] := rfl
  rw [h, toList_madeCells_one]
  simp [uvals]

set_option maxHeartbeats 2000000 in
set_option maxRecDepth 100000 in
theorem mul_any (ao bo : Option Addr) (ca cb : Nat) (a b : List Nat) (w : World) (ha : isWs w ao ca a) (hb : isWs w bo cb b) (hla : a.length ≤ 20000) (hlb : b.length ≤ 20000) :
    Calls Tryd.prog 50 #[.slice ao a.length ca, .slice bo b.length cb] w fun e w' => ∃ o cap l, e = .returned (.slice o (trimL l).length cap) ∧ isWs w' o cap (trimL l) ∧ val 4294967296 l = val 4294967296 a * val 4294967296 b ∧ Below w.heap.size w w' := by
  obtain ⟨i0, hi, hz0, hz1, hz2⟩ := info_parts Tryd.infoU
  by_cases ha0 : a = []
  · subst ha0
    go_enter Tryd.func50, Tryd.ntmps50
    go_wp2
    go_ret
    exact ⟨none, 0, [], rfl, isWs_nil _, by simp [val], Below.refl _ _⟩
  by_cases hb0 : b = []
  · subst hb0
    have hne : ¬ (a.length : Int) = 0 := by have := List.length_pos_iff.2 ha0; omega
    go_enter Tryd.func50, Tryd.ntmps50
    go_wp2
    go_ret
    exact ⟨none, 0, [], rfl, isWs_nil _, by simp [val], Below.refl _ _⟩
  obtain ⟨ga, ea, hga, hca⟩ := ha.cells ha0
  obtain ⟨gb, eb, hgb, hcb⟩ := hb.cells hb0
  subst ea
  subst eb
  have ha1 := List.length_pos_iff.2 ha0
  have hb1 := List.length_pos_iff.2 hb0
  obtain ⟨na, hna⟩ : ∃ na, na = a.length := ⟨_, rfl⟩
  obtain ⟨nb, hnb⟩ : ∃ nb, nb = b.length := ⟨_, rfl⟩
  rw [← hna, ← hnb]
  rw [← hna] at ha1 hla
  rw [← hnb] at hb1 hlb
  have hnai : ¬ (na : Int) = 0 := by omega
  have hnbi : ¬ (nb : Int) = 0 := by omega
  have hnab : ((na : Int) == 0) = false := by simp; omega
  have hnbb : ((nb : Int) == 0) = false := by simp; omega
  have hnan : (na == 0) = false := by simp; omega
  have hnbn : (nb == 0) = false := by simp; omega
  have HNA := hide hna
  have HNB := hide hnb
  have HCA := hide hca
  have HCB := hide hcb
  have HSA := hide ha.small
  have HSB := hide hb.small
  clear ha0 hb0 hna hnb hca hcb ha hb
  go_enter Tryd.func50, Tryd.ntmps50
  go_wp2_with (at_make; go_must (refine wpList_make_full _ rfl _ _ 35 rfl w.heap.size 106 i0 (.int .u32 0) 1 Tryd.underlying35 hi hz0 hz1 .i64 .i64 _ _ (na + nb) rfl rfl (by go_num) (by go_num) (by rw [hz2]; omega) (by unfold maxLen; omega) (Nat.le_refl _) ?_; intro wm hown hgrow))
  have hbm : Below w.heap.size w wm := (Below.refl _ _).grown hgrow (Nat.le_refl _) (by simp)
  have hrow : ownU wm w.heap.size w.heap.size (List.replicate (na + nb) 0) := by
    unfold ownU
    rw [List.length_replicate, ← made_zeros]
    exact hown
  clear hown hgrow hnai hnbi hnab hnbb hnan hnbn
  go_loopw [6] (fun v wr => ∃ (k : Nat) (R : List Nat), k ≤ na ∧ v = .int .i64 (k : Int) ∧ R.length = na + nb ∧ (∀ x ∈ R, x < 4294967296) ∧ (∀ p, k + nb ≤ p → p < na + nb → R[p]? = some 0) ∧ val 4294967296 R = val 4294967296 (a.take k) * val 4294967296 b ∧ ownU wr w.heap.size w.heap.size R ∧ Below w.heap.size w wr) (fun v _ => na - (intOf v).toNat)
  case atStart =>
    refine ⟨0, List.replicate (na + nb) 0, Nat.zero_le _, rfl, by simp, ?_, ?_, by simp [val_zeros, val], hrow, hbm⟩
    · intro x hx
      rw [List.eq_of_mem_replicate hx]; omega
    · intro p _ hp
      rw [List.getElem?_replicate, if_pos hp]
  case round =>
    obtain ⟨k, R, hk, rfl, hRl, hRs, hRz, hRv, hRo, hbr⟩ := hrel
    clear hrow hbm
    by_cases hkl : k < na
    · have hki : (k : Int) < (na : Int) := by omega
      obtain ⟨x, hx⟩ : ∃ x, a[k]? = some x := ⟨a[k]'(by rw [← unhide HNA]; exact hkl), List.getElem?_eq_getElem _⟩
      have hxs := unhide HSA x (List.mem_of_getElem? hx)
      have cx0 := unhide HCA k x hx
      have HX := hide hx
      have HRV := hide hRv
      clear hx hRv
      have hin0 : val 4294967296 R + 0 * 4294967296 ^ (k + 0) = val 4294967296 R + x * val 4294967296 (b.take 0) * 4294967296 ^ k := by simp [val]
      go_wp2
      go_loopw [7, 8] (fun cv jv wr' => ∃ (j c : Nat) (Q : List Nat), j ≤ nb ∧ jv = .int .i64 (j : Int) ∧ cv = .int .u64 (c : Int) ∧ c < 4294967296 ∧ Q.length = na + nb ∧ (∀ x ∈ Q, x < 4294967296) ∧ (∀ p, k + nb ≤ p → p < na + nb → Q[p]? = some 0) ∧
          val 4294967296 Q + c * 4294967296 ^ (k + j) = val 4294967296 R + x * val 4294967296 (b.take j) * 4294967296 ^ k ∧ ownU wr' w.heap.size w.heap.size Q ∧ Below w.heap.size w wr') (fun _ jv _ => nb - (intOf jv).toNat)
      case atStart => exact ⟨0, 0, R, Nat.zero_le _, rfl, rfl, by omega, hRl, hRs, hRz, hin0, hRo, hbr⟩
      case round =>
        obtain ⟨j, c, Q, hj, rfl, rfl, hc, hQl, hQs, hQz, hQv, hQo, hbq⟩ := hrel
        clear hin0 hRo hbr hRz hRs hRl
        have cx := (hbq.cell (p := ⟨ga, k, none⟩) hga).trans cx0
        by_cases hjl : j < nb
        · obtain ⟨y, hy⟩ : ∃ y, b[j]? = some y := ⟨b[j]'(by rw [← unhide HNB]; exact hjl), List.getElem?_eq_getElem _⟩
          obtain ⟨r, hr⟩ : ∃ r, Q[k + j]? = some r := ⟨Q[k + j]'(by omega), List.getElem?_eq_getElem _⟩
          have hys := unhide HSB y (List.mem_of_getElem? hy)
          have hrs := hQs r (List.mem_of_getElem? hr)
          have cy := (hbq.cell (p := ⟨gb, j, none⟩) hgb).trans (unhide HCB j y hy)
          have cr := hQo.cell hr
          have zr := hQo.frozen (k + j)
          obtain ⟨p, hp⟩ : ∃ p, p = x * y := ⟨_, rfl⟩
          have hpm : p ≤ 4294967295 * 4294967295 := by rw [hp]; exact Nat.mul_le_mul (by omega) (by omega)
          have hpi : (x : Int) * (y : Int) = (p : Int) := by rw [hp]; simp
          obtain ⟨t, ht⟩ : ∃ t, t = c + (p + r) := ⟨_, rfl⟩
          obtain ⟨s, hs⟩ : ∃ s, s = t % 4294967296 := ⟨_, rfl⟩
          obtain ⟨c', hc'⟩ : ∃ c', c' = t / 4294967296 := ⟨_, rfl⟩
          have hti : (c : Int) + ((p : Int) + (r : Int)) = (t : Int) := by omega
          have hsi : (t : Int) % 4294967296 = (s : Int) := by omega
          have hci : (t : Int) / 4294967296 = (c' : Int) := by omega
          have htb : t < 18446744073709551616 := by omega
          have hsb : s < 4294967296 := by omega
          have hcb : c' < 4294967296 := by omega
          have hnew := mul_step 4294967296 (val 4294967296 R) (val 4294967296 Q) (val 4294967296 (Q.set (k + j) s)) x y r c c' s (val 4294967296 (b.take j)) k j (val_set _ Q (k + j) r s hr) (by rw [← hp]; omega) hQv
          rw [← val_take_succ _ b j y hy] at hnew
          have HNEW := hide hnew
          have hkj : ((k + j : Nat) : Int) = (k : Int) + (j : Int) := by omega
          have hkjb : (k : Int) + (j : Int) < ((na + nb : Nat) : Int) := by omega
          have hji : (j : Int) < (nb : Int) := by omega
          clear hnew hp ht hs hc' hQv hy hr
          go_wp2
          go_quiet (fail)
          go_wp2
          go_roundw
          case rel =>
            refine ⟨j + 1, c', Q.set (k + j) s, by omega, by go_num, rfl, hcb, by rw [List.length_set]; exact hQl, mem_set hQs hsb, ?_, unhide HNEW, (hQo.drewN _).set (k + j) s, (below_drewN hbq _).setCell (p := ⟨w.heap.size, k + j, none⟩) (Nat.le_refl _) _⟩
            intro p hp1 hp2
            rw [List.getElem?_set_ne (by omega)]
            exact hQz p hp1 hp2
          case measure => simp [intOf]; omega
        · obtain rfl : j = nb := by omega
          have hji : ¬ (j : Int) < (j : Int) := by omega
          have hz := hQz (k + j) (Nat.le_refl _) (by omega)
          have cr := hQo.cell hz
          have zr := hQo.frozen (k + j)
          have hcm : (c : Int) % 4294967296 = (c : Int) := by omega
          have hkjb : (k : Int) + (j : Int) < ((na + j : Nat) : Int) := by omega
          have hset := val_set 4294967296 Q (k + j) 0 c hz
          rw [List.take_of_length_le (by rw [← unhide HNB]; exact Nat.le_refl _)] at hQv
          have hval : val 4294967296 (Q.set (k + j) c) = val 4294967296 (a.take (k + 1)) * val 4294967296 b := by
            rw [val_take_succ _ a k x (unhide HX), Nat.add_mul, ← unhide HRV]
            have e : x * 4294967296 ^ k * val 4294967296 b = x * val 4294967296 b * 4294967296 ^ k := by rw [Nat.mul_assoc, Nat.mul_comm (4294967296 ^ k), ← Nat.mul_assoc]
            rw [e, ← hQv]
            omega
          have HVAL := hide hval
          clear hval hset hQv hz
          go_wp2
          go_roundw
          case rel =>
            refine ⟨k + 1, Q.set (k + j) c, by omega, by go_num, by rw [List.length_set]; exact hQl, mem_set hQs hc, ?_, unhide HVAL, hQo.set (k + j) c, hbq.setCell (p := ⟨w.heap.size, k + j, none⟩) (Nat.le_refl _) _⟩
            intro p hp1 hp2
            rw [List.getElem?_set_ne (by omega)]
            exact hQz p (by omega) hp2
          case measure => simp [intOf]; omega
    · obtain rfl : k = na := by omega
      have hki : ¬ (k : Int) < (k : Int) := by omega
      have hws := hRo.ws hRs (by omega)
      rw [hRl] at hws
      have htr := trim_any _ _ R wr hws
      rw [hRl] at htr
      have HTR := hide htr
      have hval : val 4294967296 R = val 4294967296 a * val 4294967296 b := by
        rw [hRv, List.take_of_length_le (by rw [← unhide HNA]; exact Nat.le_refl _)]
      have HVAL := hide hval
      clear htr hval hRv
      go_wp2_with fail
      refine (unhide HTR).mono ?_
      rintro e w1 ⟨o, cap, rfl, hw1, rfl⟩
      go_wp2
      go_ret
      exact ⟨o, cap, R, rfl, hw1, unhide HVAL, hbr⟩
end Go.Proofs.YthplbfjpmnpjmaaDoor

namespace Go.Proofs.YthplbfjpmnpjmaaDoor
open Go.RowKit
attribute [local go_sem ↓] Go.wp_at_zero Go.wp_at_succ

theorem isNum.below {w w' : World} {b S : Nat} {v : Value} (h : isNum w b v) (k : Below S w w') (hS : w.heap.size ≤ S) : isNum w' b v := by
  obtain ⟨s, hs⟩ := h
  have := block_lt hs
  exact ⟨s, (k.block b (by omega)).trans hs⟩
theorem val_two (lo hi : Nat) : val 4294967296 (trimL [lo, hi]) = lo + 4294967296 * hi := by rw [trimL_val]; simp [val]

set_option maxHeartbeats 1000000 in
theorem SetInt64_any (b : Nat) (v : Value) (x : Nat) (w : World) (hb : isNum w b v) (hx : x < 9223372036854775808) :
    Calls Tryd.prog 54 #[.pointer (some ⟨b, 0, none⟩), .int .i64 (x : Int)] w fun e w' =>
      e = .returned (.pointer (some ⟨b, 0, none⟩)) ∧ isBig w' b x ∧ But w.heap.size b w w' := by
  obtain ⟨lo, hlo⟩ : ∃ lo, lo = x % 4294967296 := ⟨_, rfl⟩
  obtain ⟨hi, hhi⟩ : ∃ hi, hi = x / 4294967296 := ⟨_, rfl⟩
  have hxe : x = lo + 4294967296 * hi := by omega
  have HWD := hide (fun w => words_any lo hi w (by omega) (by omega))
  rw [← hxe] at HWD
  have HV : Hid (val 4294967296 (trimL [lo, hi]) = x) := by show _ = _; rw [val_two, ← hxe]
  clear hlo hhi hxe
  have hneg : ¬ (x : Int) < 0 := by omega
  go_enter Tryd.func54, Tryd.ntmps54
  go_wp2_with fail
  refine (unhide HWD _).mono ?_
  rintro e w1 ⟨ao, cap, rfl, hw1, hb1⟩
  go_wp2_with fail
  refine (give_any b v ao cap _ w1 (hb.below hb1 (Nat.le_refl _)) hw1 (trimL_idem _)).mono ?_
  rintro e w2 ⟨rfl, hbig, hbut⟩
  go_wp2
  go_ret
  rw [unhide HV] at hbig
  exact ⟨rfl, hbig, (But.of_below hb1).trans (hbut.mono hb1.size)⟩

set_option maxHeartbeats 1000000 in
theorem NewInt_any (x : Nat) (w : World) (hx : x < 9223372036854775808) :
    Calls Tryd.prog 29 #[.int .i64 (x : Int)] w fun e w' => e = .returned (.pointer (some ⟨w.heap.size, 0, none⟩)) ∧ isBig w' w.heap.size x ∧ Below w.heap.size w w' := by
  have hn : isNum (w.alloc (.cells #[.bool false, .slice none 0 0] 37 (0, 0))) w.heap.size (.slice none 0 0) := ⟨false, heap_alloc_new w _⟩
  go_enter Tryd.func29, Tryd.ntmps29
  go_wp2_with fail
  refine (SetInt64_any _ _ x _ hn hx).mono ?_
  rintro e w1 ⟨rfl, hbig, hbut⟩
  go_wp2
  go_ret
  exact ⟨rfl, hbig, ((Below.refl _ w).alloc (Nat.le_refl _) _).trans (hbut.fresh (Nat.le_refl _) (by simp))⟩
end Go.Proofs.YthplbfjpmnpjmaaDoor

namespace Go.Proofs.YthplbfjpmnpjmaaDoor
open Go.RowKit
attribute [local go_sem ↓] Go.wp_at_zero Go.wp_at_succ

/-- What a number's block holds. -/
theorem isBig.open {w : World} {b N : Nat} (h : isBig w b N) : ∃ ao cap l, w.cell? ⟨b, 0, none⟩ = some (.bool false) ∧ w.cell? ⟨b, 1, none⟩ = some (.slice ao l.length cap) ∧ b < w.heap.size ∧ isWs w ao cap l ∧ trimL l = l ∧ val 4294967296 l = N := by
  have hlt := h.lt
  obtain ⟨ao, cap, l, hb, r⟩ := h
  exact ⟨ao, cap, l, by simp [World.cell?, hb], by simp [World.cell?, hb], hlt, r⟩
theorem But.drew {S b : Nat} {v w : World} (h : But S b v.drew w) : But S b v w := ⟨h.os, h.tape, h.output, h.size, h.block⟩
/-- The words of a number below B ^ n are n at most. -/
theorem trim_len {B : Nat} (hB : 1 < B) : ∀ (l : List Nat) (n : Nat), trimL l = l → val B l < B ^ n → l.length ≤ n
  | [], n, _, _ => Nat.zero_le _
  | x :: l, 0, h, hv => by
    exfalso
    have h0 : val B (x :: l) = 0 := by simp at hv; exact hv
    have : x + B * val B l = 0 := h0
    have hx : x = 0 := by omega
    have hl : val B l = 0 := by
      rcases Nat.eq_zero_or_pos (val B l) with h | h
      · exact h
      · have := Nat.mul_pos (by omega : 0 < B) h; omega
    have htl : trimL l = l := by
      simp only [trimL] at h
      split at h
      · simp at h
      · simpa using h
    have := trim_len hB l 0 htl (by simp [hl])
    have hl0 : l = [] := List.length_eq_zero_iff.1 (by omega)
    subst hl0
    subst hx
    simp [trimL] at h
  | x :: l, n + 1, h, hv => by
    have htl : trimL l = l := by
      simp only [trimL] at h
      split at h
      · simp at h
      · simpa using h
    have hv' : x + B * val B l < B ^ n * B := by rw [← Nat.pow_succ]; exact hv
    have hvl : val B l < B ^ n := by
      rcases Nat.lt_or_ge (val B l) (B ^ n) with h | h
      · exact h
      · have := Nat.mul_le_mul_left B h
        rw [Nat.mul_comm B (B ^ n)] at this
        omega
    have := trim_len hB l n htl hvl
    simp; omega

set_option maxHeartbeats 1000000 in
theorem Mul_any (b bx cy X Y : Nat) (v : Value) (w : World) (hb : isNum w b v) (hx : isBig w bx X) (hy : isBig w cy Y) (hX : X < 4294967296 ^ 200) (hY : Y < 4294967296 ^ 200) :
    Calls Tryd.prog 25 #[.pointer (some ⟨b, 0, none⟩), .pointer (some ⟨bx, 0, none⟩), .pointer (some ⟨cy, 0, none⟩)] w fun e w' =>
      e = .returned (.pointer (some ⟨b, 0, none⟩)) ∧ isBig w' b (X * Y) ∧ But w.heap.size b w w' := by
  obtain ⟨xo, xc, xl, x0, x1, xlt, xw, xt, rfl⟩ := hx.open
  obtain ⟨yo, yc, yl, y0, y1, ylt, yw, yt, rfl⟩ := hy.open
  have hxl := trim_len (by omega) xl 200 xt hX
  have hyl := trim_len (by omega) yl 200 yt hY
  have HB := hide hb
  have HXT := hide xt
  have HYT := hide yt
  clear hx hy hX hY xt yt hb
  go_enter Tryd.func25, Tryd.ntmps25
  go_wp2
  go_region_with (first
      | (go_at_call 48; refine (give_any b v ro rc (trimL rl) _ ((show isNum w.drew b v from unhide HB).below hbm (Nat.le_refl _)) hrw (trimL_idem _)).mono ?_; rintro e wg ⟨rfl, hbig, hbut⟩)
      | (go_at_call 50; refine (mul_any xo yo xc yc xl yl w.drew ⟨xw.small, xw.le, xw.nil, xw.len, xw.cells⟩ ⟨yw.small, yw.le, yw.nil, yw.len, yw.cells⟩ (by omega) (by omega)).mono ?_; rintro e wm ⟨ro, rc, rl, rfl, hrw, hrv, hbm⟩; have x0' := (hbm.cell (p := ⟨bx, 0, none⟩) (by dsimp only [World.drew]; omega)).trans x0; have y0' := (hbm.cell (p := ⟨cy, 0, none⟩) (by dsimp only [World.drew]; omega)).trans y0))
  all_goals (go_wp2; go_ret; rw [trimL_val, hrv] at hbig; exact ⟨rfl, hbig, ((But.of_below hbm).trans (hbut.mono hbm.size)).drew⟩)
end Go.Proofs.YthplbfjpmnpjmaaDoor
