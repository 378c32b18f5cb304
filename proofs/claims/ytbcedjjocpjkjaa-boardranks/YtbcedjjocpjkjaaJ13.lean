/-
  parlourbig's numbers, walked: div, Set, QuoRem, DivMod, Div.
  Plain mathematics of ranks, more: there and back, in order.
-/
import Derived.Test.YtbcedjjocpjkjaaW86
import Derived.Test.YtbcedjjocpjkjaaJ6
import Derived.WalkKit
namespace Go.Proofs.Ytbcedjjocpjkjaa
open Go.RowKit
attribute [local go_sem ↓] Go.wp_at_zero Go.wp_at_succ

theorem div_any (ao bo : Option Addr) (ca cb : Nat) (a b : List Nat) (w : World) (ha : isWs w ao ca a) (hb : isWs w bo cb b) (ta : trimL a = a) (tb : trimL b = b) (hb0 : b ≠ []) (hla : a.length ≤ 290) :
    Calls Try.prog 97 #[.slice ao a.length ca, .slice bo b.length cb] w (Divd (val 4294967296 a) (val 4294967296 b) w) := by
  rcases Nat.lt_or_ge (val 4294967296 a) (val 4294967296 b) with hlt | hge
  · exact div_less ao bo ca cb a b w ha hb ta tb hlt
  · by_cases h2 : a.length ≤ 2
    · exact div_two ao bo ca cb a b w ha hb ta tb hge hb0 h2
    · have hsplit : b = b.dropLast ++ [b.getLast hb0] := (List.dropLast_concat_getLast hb0).symm
      generalize b.getLast hb0 = x at hsplit
      generalize b.dropLast = c at hsplit
      subst hsplit
      by_cases hc : c = []
      · subst hc
        have hd : val 4294967296 ([] ++ [x]) = x := by simp [val]
        rw [hd] at hge ⊢
        exact div_one ao bo ca cb x a w ha hb ta tb hge h2 (by omega)
      · exact div_long ao bo ca cb x a c w ha hb ta tb hge hc h2 hla

/-- Below S all but the blocks b and c is as it was. -/
structure But2 (S b c : Nat) (w w' : World) : Prop where
  os : w'.os = w.os
  tape : w'.tape = w.tape
  output : w'.output = w.output
  size : w.heap.size ≤ w'.heap.size
  block : ∀ k, k < S → k ≠ b → k ≠ c → w'.heap[k]? = w.heap[k]?
theorem But2.of_below {S b c : Nat} {w w' : World} (h : Below S w w') : But2 S b c w w' := ⟨h.os, h.tape, h.output, h.size, fun k hk _ _ => h.block k hk⟩
theorem But2.of_fst {S b c : Nat} {w w' : World} (h : But S b w w') : But2 S b c w w' := ⟨h.os, h.tape, h.output, h.size, fun k hk hb _ => h.block k hk hb⟩
theorem But2.of_snd {S b c : Nat} {w w' : World} (h : But S c w w') : But2 S b c w w' := ⟨h.os, h.tape, h.output, h.size, fun k hk _ hc => h.block k hk hc⟩
theorem But2.trans {S b c : Nat} {u v w : World} (h : But2 S b c u v) (k : But2 S b c v w) : But2 S b c u w :=
  ⟨k.os.trans h.os, k.tape.trans h.tape, k.output.trans h.output, Nat.le_trans h.size k.size, fun i hi hb hc => (k.block i hi hb hc).trans (h.block i hi hb hc)⟩
theorem But2.mono {S S' b c : Nat} {v w : World} (h : But2 S b c v w) (hS : S' ≤ S) : But2 S' b c v w := ⟨h.os, h.tape, h.output, h.size, fun i hi => h.block i (by omega)⟩
theorem But2.fst {S b c : Nat} {v w : World} (h : But2 S b c v w) (hc : S ≤ c) : But S b v w := ⟨h.os, h.tape, h.output, h.size, fun i hi hb => h.block i hi hb (by omega)⟩
theorem isNum.but {w w' : World} {c b S : Nat} {v : Value} (h : isNum w c v) (k : But S b w w') (hS : w.heap.size ≤ S) (hn : c ≠ b) : isNum w' c v := by
  obtain ⟨s, hs⟩ := h
  have := block_lt hs
  exact ⟨s, (k.block c (by omega) hn).trans hs⟩
theorem But.cell {S b : Nat} {w w' : World} (h : But S b w w') (k o : Nat) (hk : k < S) (hn : k ≠ b) : w'.cell? ⟨k, o, none⟩ = w.cell? ⟨k, o, none⟩ := by simp only [World.cell?]; rw [h.block k hk hn]
theorem isNum.drewN {w : World} {b : Nat} {v : Value} (h : isNum w b v) (n : Nat) : isNum (w.drewN n) b v := h
theorem below_undrewN {S : Nat} {w w' : World} {n : Nat} (h : Below S (w.drewN n) w') : Below S w w' := ⟨h.os, h.tape, h.output, h.size, h.block⟩
theorem But.undrewN {S b n : Nat} {v w : World} (h : But S b (v.drewN n) w) : But S b v w := ⟨h.os, h.tape, h.output, h.size, h.block⟩

set_option maxHeartbeats 1000000 in
set_option maxRecDepth 100000 in
theorem Set_any (b bx X : Nat) (v : Value) (w : World) (hb : isNum w b v) (hx : isBig w bx X) (hn : bx ≠ b) :
    Calls Try.prog 90 #[.pointer (some ⟨b, 0, none⟩), .pointer (some ⟨bx, 0, none⟩)] w fun e w' =>
      e = .returned (.pointer (some ⟨b, 0, none⟩)) ∧ isBig w' b X ∧ But w.heap.size b w w' := by
  obtain ⟨xo, xc, xl, x0, x1, xlt, xw, xt, rfl⟩ := hx.open
  have HB := hide hb
  have HXT := hide xt
  clear hx xt hb
  go_enter Try.func90, Try.ntmps90
  go_wp2
  go_region_held3 (fun w' => w'.cell? ⟨bx, 0, none⟩ = some (.bool false) ∧ w'.cell? ⟨bx, 1, none⟩ = some (.slice xo xl.length xc))
    (first
      | (go_keep; done)
      | (exact ⟨l0, l1⟩)
      | (exact ⟨k0, k1⟩))
    (first
      | (go_at_call 58; refine (give_any b v ro rc xl _ ((show isNum w.drew b v from unhide HB).below hbt (Nat.le_refl _)) hrw (unhide HXT)).mono ?_; rintro e wg ⟨rfl, hbig, hbut⟩; have l0 := (hbut.cell bx 0 (by have := hbt.size; dsimp only [World.drew] at this; omega) hn).trans k0; have l1 := (hbut.cell bx 1 (by have := hbt.size; dsimp only [World.drew] at this; omega) hn).trans k1)
      | (go_at_call 96; refine (twin_any xo xc xl w.drew ⟨xw.small, xw.le, xw.nil, xw.len, xw.cells⟩).mono ?_; rintro e wt ⟨ro, rc, rfl, hrw, hbt⟩; have k0 := (hbt.cell (p := ⟨bx, 0, none⟩) (by dsimp only [World.drew]; omega)).trans x0; have k1 := (hbt.cell (p := ⟨bx, 1, none⟩) (by dsimp only [World.drew]; omega)).trans x1))
  all_goals (go_wp2; go_ret; exact ⟨rfl, hbig, ((But.of_below hbt).trans (hbut.mono hbt.size)).drew⟩)

set_option maxHeartbeats 2000000 in
set_option maxRecDepth 100000 in
theorem QuoRem_any (b bx cy br X Y : Nat) (v vr : Value) (w : World) (hb : isNum w b v) (hx : isBig w bx X) (hy : isBig w cy Y) (hr : isNum w br vr) (hn : br ≠ b) (hX : X < 4294967296 ^ 200) (hY : 0 < Y) :
    Calls Try.prog 91 #[.pointer (some ⟨b, 0, none⟩), .pointer (some ⟨bx, 0, none⟩), .pointer (some ⟨cy, 0, none⟩), .pointer (some ⟨br, 0, none⟩)] w fun e w' =>
      e = .returned (.tuple #[.pointer (some ⟨b, 0, none⟩), .pointer (some ⟨br, 0, none⟩)]) ∧ isBig w' b (X / Y) ∧ isBig w' br (X % Y) ∧ But2 w.heap.size b br w w' := by
  obtain ⟨xo, xc, xl, x0, x1, xlt, xw, xt, rfl⟩ := hx.open
  obtain ⟨yo, yc, yl, y0, y1, ylt, yw, yt, rfl⟩ := hy.open
  have hxl := trim_len (by omega) xl 200 xt hX
  have hy0 : yl ≠ [] := by rintro rfl; simp [val] at hY
  have HD := hide (fun m => div_any xo yo xc yc xl yl (w.drewN m) (xw.drewN m) (yw.drewN m) xt yt hy0 (by omega))
  have HB := hide hb
  have HR := hide hr
  clear hx hy hX xt yt hb hr hxl hy0 hY
  go_enter Try.func91, Try.ntmps91
  go_wp2
  go_quiet (fail)
  go_wp2
  go_region_held3 (fun w' => w'.cell? ⟨bx, 1, none⟩ = some (.slice xo xl.length xc) ∧ w'.cell? ⟨cy, 1, none⟩ = some (.slice yo yl.length yc))
    (first
      | (go_keep; done)
      | (exact ⟨k0, k1⟩))
    (first
      | (go_at_call 97; (with_reducible refine (unhide HD _).mono ?_); rintro e wd ⟨qo, qc, ql, ro, rc, rl, rfl, hqw, hrw, hqv, hrv, hbd⟩; have k0 := (hbd.cell (p := ⟨bx, 1, none⟩) (by dsimp only [World.drewN]; omega)).trans x1; have k1 := (hbd.cell (p := ⟨cy, 1, none⟩) (by dsimp only [World.drewN]; omega)).trans y1))
  have hbw : Below w.heap.size w wd := below_undrewN hbd
  have hnb : isNum wd b v := (unhide HB).below hbw (Nat.le_refl _)
  have hnr : isNum wd br vr := (unhide HR).below hbw (Nat.le_refl _)
  have HNB := hide hnb
  have HNR := hide hnr
  clear hnb hnr
  go_wp2_with fail
  refine (give_any b v qo qc (trimL ql) wd (unhide HNB) hqw (trimL_idem _)).mono ?_
  rintro e w1 ⟨rfl, hb1, hk1⟩
  have hr1 : isWs w1 ro rc (trimL rl) := hrw.but (unhide HNB) hk1 (Nat.le_refl _)
  have hnr1 : isNum w1 br vr := (unhide HNR).but hk1 (Nat.le_refl _) hn
  have HR1 := hide hr1
  have HNR1 := hide hnr1
  have HB1 := hide hb1
  clear hr1 hnr1 hb1
  go_wp2_with fail
  refine (give_any br vr ro rc (trimL rl) w1 (unhide HNR1) (unhide HR1) (trimL_idem _)).mono ?_
  rintro e w2 ⟨rfl, hb2, hk2⟩
  have hb3 : isBig w2 b (val 4294967296 (trimL ql)) := (unhide HB1).but (unhide HNR1) hk2 (Nat.le_refl _) (Ne.symm hn)
  go_wp2
  go_ret2
  rw [trimL_val, hqv] at hb3
  rw [trimL_val, hrv] at hb2
  refine ⟨rfl, hb3, hb2, (But2.of_below hbw).trans ((But2.of_fst (hk1.mono hbw.size)).trans (But2.of_snd (hk2.mono ?_)))⟩
  exact Nat.le_trans hbw.size hk1.size

set_option maxHeartbeats 2000000 in
set_option maxRecDepth 100000 in
theorem DivMod_any (b bx cy br X Y : Nat) (v vr : Value) (w : World) (hb : isNum w b v) (hx : isBig w bx X) (hy : isBig w cy Y) (hr : isNum w br vr) (hn : br ≠ b) (hX : X < 4294967296 ^ 200) (hY : 0 < Y) :
    Calls Try.prog 74 #[.pointer (some ⟨b, 0, none⟩), .pointer (some ⟨bx, 0, none⟩), .pointer (some ⟨cy, 0, none⟩), .pointer (some ⟨br, 0, none⟩)] w fun e w' =>
      e = .returned (.tuple #[.pointer (some ⟨b, 0, none⟩), .pointer (some ⟨br, 0, none⟩)]) ∧ isBig w' b (X / Y) ∧ isBig w' br (X % Y) ∧ But2 w.heap.size b br w w' := by
  have hba : Below w.heap.size w (w.alloc (.cells #[.bool false, .slice none 0 0] 91 (0, 0))) := (Below.refl _ w).alloc (Nat.le_refl _) _
  have hnn : isNum (w.alloc (.cells #[.bool false, .slice none 0 0] 91 (0, 0))) w.heap.size (.slice none 0 0) := ⟨false, heap_alloc_new w _⟩
  have hne : cy ≠ w.heap.size := by have := hy.lt; omega
  have hset := Set_any w.heap.size cy Y _ _ hnn (hy.below hba (Nat.le_refl _)) hne
  have hblt : b < w.heap.size := by obtain ⟨_, h⟩ := hb; exact block_lt h
  have hrlt : br < w.heap.size := by obtain ⟨_, h⟩ := hr; exact block_lt h
  have HSET := hide hset
  have HX := hide (hx.below hba (Nat.le_refl _))
  have HY := hide (hy.below hba (Nat.le_refl _))
  have HB := hide (hb.below hba (Nat.le_refl _))
  have HR := hide (hr.below hba (Nat.le_refl _))
  have HNN := hide hnn
  have HBA := hide hba
  have hxlt := hx.lt
  have hylt := hy.lt
  clear hset hx hy hb hr hnn hba
  go_enter Try.func74, Try.ntmps74
  go_wp2_with fail
  refine (unhide HSET).mono ?_
  rintro e w1 ⟨rfl, hs1, hk1⟩
  have hk0 : Below w.heap.size w w1 := (unhide HBA).trans (hk1.fresh (Nat.le_refl _) (by simp))
  have hx1 := (unhide HX).but (unhide HNN) hk1 (Nat.le_refl _) (by omega)
  have hy1 := (unhide HY).but (unhide HNN) hk1 (Nat.le_refl _) (by omega)
  have hb1 := (unhide HB).but hk1 (Nat.le_refl _) (by omega)
  have hr1 := (unhide HR).but hk1 (Nat.le_refl _) (by omega)
  have hq := QuoRem_any b bx cy br X Y v vr w1 hb1 hx1 hy1 hr1 hn hX hY
  have HQ := hide hq
  clear hq hx1 hy1 hb1 hr1 hs1
  go_wp2_with fail
  refine (unhide HQ).mono ?_
  rintro e w2 ⟨rfl, hb2, hr2, hk2⟩
  obtain ⟨_, _, _, r0, _, _, _, _, _⟩ := hr2.open
  have HB2 := hide hb2
  have HR2 := hide hr2
  clear hb2 hr2
  go_wp2
  go_ret2
  exact ⟨rfl, unhide HB2, unhide HR2, (But2.of_below hk0).trans (hk2.mono hk0.size)⟩

set_option maxHeartbeats 2000000 in
set_option maxRecDepth 100000 in
theorem Div_any (b bx cy X Y : Nat) (v : Value) (w : World) (hb : isNum w b v) (hx : isBig w bx X) (hy : isBig w cy Y) (hX : X < 4294967296 ^ 200) (hY : 0 < Y) :
    Calls Try.prog 52 #[.pointer (some ⟨b, 0, none⟩), .pointer (some ⟨bx, 0, none⟩), .pointer (some ⟨cy, 0, none⟩)] w fun e w' =>
      e = .returned (.pointer (some ⟨b, 0, none⟩)) ∧ isBig w' b (X / Y) ∧ But w.heap.size b w w' := by
  have hba : Below w.heap.size w (w.alloc (.cells #[.bool false, .slice none 0 0] 91 (0, 0))) := (Below.refl _ w).alloc (Nat.le_refl _) _
  have hnn : isNum (w.alloc (.cells #[.bool false, .slice none 0 0] 91 (0, 0))) w.heap.size (.slice none 0 0) := ⟨false, heap_alloc_new w _⟩
  have hblt : b < w.heap.size := by obtain ⟨_, h⟩ := hb; exact block_lt h
  have hq := DivMod_any b bx cy w.heap.size X Y v _ _ (hb.below hba (Nat.le_refl _)) (hx.below hba (Nat.le_refl _)) (hy.below hba (Nat.le_refl _)) hnn (by omega) hX hY
  have HQ := hide hq
  have HBA := hide hba
  clear hq hba hnn hx hy hb
  go_enter Try.func52, Try.ntmps52
  go_wp2_with fail
  refine (unhide HQ).mono ?_
  rintro e w2 ⟨rfl, hb2, _, hk2⟩
  go_wp2
  go_ret
  have hk3 : But2 w.heap.size b w.heap.size w w2 := (But2.of_below (unhide HBA)).trans (hk2.mono (by simp))
  exact ⟨rfl, hb2, hk3.fst (Nat.le_refl _)⟩
end Go.Proofs.Ytbcedjjocpjkjaa

namespace Go.Proofs.Ytbcedjjocpjkjaa

/-- How many of each byte there are. -/
def cntF : List UInt8 → Nat → Nat
  | [] => fun _ => 0
  | x :: l => incF (cntF l) x.toNat
theorem byte_lt (x : UInt8) : x.toNat < K256 := x.toNat_lt
theorem cntF_sum : ∀ l : List UInt8, sumTo (cntF l) K256 = l.length
  | [] => sumTo_zero K256
  | x :: l => by rw [cntF, sumTo_inc _ _ (byte_lt x), cntF_sum l, List.length_cons]
theorem cntF_dec (x : UInt8) (l : List UInt8) : decF (cntF (x :: l)) x.toNat = cntF l := decF_incF _ _
theorem cntF_pos (x : UInt8) (l : List UInt8) : 0 < cntF (x :: l) x.toNat := by simp [cntF, incF]
theorem cntF_high : ∀ (l : List UInt8) (c : Nat), K256 ≤ c → cntF l c = 0
  | [], _, _ => rfl
  | x :: l, c, h => by
    have hx := byte_lt x
    rw [cntF, incF, if_neg (by omega), cntF_high l c h]
theorem cntF_mem {x : UInt8} : ∀ {l : List UInt8}, x ∈ l → 0 < cntF l x.toNat
  | y :: l, h => by
    rw [cntF, incF]
    by_cases e : x.toNat = y.toNat
    · rw [if_pos e]; omega
    · rw [if_neg e]
      rcases List.mem_cons.1 h with rfl | h'
      · exact absurd rfl e
      · exact cntF_mem h'
theorem mem_of_cntF : ∀ {l : List UInt8} {c : Nat}, 0 < cntF l c → ∃ x ∈ l, x.toNat = c
  | [], c, h => by simp [cntF] at h
  | y :: l, c, h => by
    rw [cntF, incF] at h
    by_cases e : c = y.toNat
    · exact ⟨y, List.mem_cons_self, e.symm⟩
    · rw [if_neg e] at h
      obtain ⟨x, hx, hc⟩ := mem_of_cntF h
      exact ⟨x, List.mem_cons_of_mem _ hx, hc⟩

def arrL (l : List UInt8) : Nat := arrF l.length (cntF l)
/-- How many arrangements are less. -/
def rkL : List UInt8 → Nat
  | [] => 0
  | c :: t => sumTo (subF t.length (cntF (c :: t))) c.toNat + rkL t
theorem subF_head (c : UInt8) (t : List UInt8) : subF t.length (cntF (c :: t)) c.toNat = arrL t := by
  rw [subF, if_pos (cntF_pos c t), cntF_dec]; rfl
theorem rkL_lt : ∀ l : List UInt8, rkL l < arrL l
  | [] => by simp [rkL, arrL, arrF]
  | c :: t => by
    have ih := rkL_lt t
    have h1 : sumTo (subF t.length (cntF (c :: t))) (c.toNat + 1) ≤ sumTo (subF t.length (cntF (c :: t))) K256 := sumTo_le _ (byte_lt c)
    have h2 : arrL (c :: t) = sumTo (subF t.length (cntF (c :: t))) K256 := rfl
    rw [h2]
    rw [sumTo, subF_head] at h1
    rw [rkL]
    omega

/-- The least c from which on a sum passes n. -/
def findC (g : Nat → Nat) (n : Nat) : Nat → Nat → Nat
  | 0, c => c
  | k + 1, c => if n < sumTo g (c + 1) then c else findC g n k (c + 1)
theorem findC_eq (g : Nat → Nat) (n c : Nat) (h1 : sumTo g c ≤ n) (h2 : n < sumTo g (c + 1)) : ∀ (k a : Nat), a ≤ c → c < a + k → findC g n k a = c
  | 0, a, h, h' => by omega
  | k + 1, a, h, h' => by
    rw [findC]
    by_cases e : a = c
    · rw [e, if_pos h2]
    · rw [if_neg, findC_eq g n c h1 h2 k (a + 1) (by omega) (by omega)]
      have := sumTo_le g (show a + 1 ≤ c by omega)
      omega
/-- The arrangement that has n less ones. -/
def unF : Nat → (Nat → Nat) → Nat → List UInt8
  | 0, _, _ => []
  | k + 1, f, n => UInt8.ofNat (findC (subF k f) n K256 0) :: unF k (decF f (findC (subF k f) n K256 0)) (n - sumTo (subF k f) (findC (subF k f) n K256 0))
theorem unF_length : ∀ (k : Nat) (f : Nat → Nat) (n : Nat), (unF k f n).length = k
  | 0, _, _ => rfl
  | k + 1, f, n => by rw [unF, List.length_cons, unF_length]

theorem unF_rkL : ∀ l : List UInt8, unF l.length (cntF l) (rkL l) = l
  | [] => rfl
  | c :: t => by
    have hlt := rkL_lt t
    have hf : findC (subF t.length (cntF (c :: t))) (rkL (c :: t)) K256 0 = c.toNat := by
      refine findC_eq _ _ _ ?_ ?_ K256 0 (by omega) (by have := byte_lt c; omega)
      · rw [rkL]; omega
      · rw [sumTo, subF_head, rkL]; omega
    rw [List.length_cons, unF, hf, cntF_dec]
    have : rkL (c :: t) - sumTo (subF t.length (cntF (c :: t))) c.toNat = rkL t := by rw [rkL]; omega
    rw [this, unF_rkL t, UInt8.ofNat_toNat]

/-- Where the sum passes n there is one. -/
theorem find_ex (g : Nat → Nat) (n : Nat) : ∀ K, n < sumTo g K → ∃ c, c < K ∧ sumTo g c ≤ n ∧ n < sumTo g (c + 1)
  | 0, h => by simp [sumTo] at h
  | K + 1, h => by
    by_cases h1 : n < sumTo g K
    · obtain ⟨c, hc, r⟩ := find_ex g n K h1
      exact ⟨c, by omega, r⟩
    · exact ⟨K, by omega, by omega, h⟩

theorem incF_decF (f : Nat → Nat) (d : Nat) (h : 0 < f d) : incF (decF f d) d = f := by
  funext c
  by_cases e : c = d
  · subst e; simp [incF, decF]; omega
  · simp [incF, decF, e]
theorem unF_cnt : ∀ (k : Nat) (f : Nat → Nat) (n : Nat), sumTo f K256 = k → (∀ c, K256 ≤ c → f c = 0) → n < arrF k f → cntF (unF k f n) = f := by
  intro k
  induction k with
  | zero =>
    intro f n hs hh _
    funext c
    rw [unF, cntF]
    rcases Nat.lt_or_ge c K256 with h | h
    · show 0 = f c
      have := sumTo_ge f h; omega
    · show 0 = f c
      rw [hh c h]
  | succ k ih =>
    intro f n hs hh hn
    rw [arrF_sum] at hn
    obtain ⟨c, hc, h1, h2⟩ := find_ex _ n K256 hn
    have hf : findC (subF k f) n K256 0 = c := findC_eq _ _ _ h1 h2 K256 0 (by omega) (by omega)
    have hg : 0 < subF k f c := by rw [sumTo] at h2; omega
    have h0 : 0 < f c := by
      unfold subF at hg
      by_cases h0 : 0 < f c
      · exact h0
      · rw [if_neg h0] at hg; omega
    have hsub : subF k f c = arrF k (decF f c) := by rw [subF, if_pos h0]
    rw [unF, hf, cntF]
    have hcb : (UInt8.ofNat c).toNat = c := by
      rw [UInt8.toNat_ofNat']
      exact Nat.mod_eq_of_lt hc
    have hsd := sumTo_dec f c h0 K256
    rw [if_pos hc] at hsd
    rw [hcb, ih (decF f c) (n - sumTo (subF k f) c) (by omega) (fun d hd => by rw [decF, if_neg (by omega)]; exact hh d hd) (by rw [sumTo, hsub] at h2; omega)]
    exact incF_decF f c h0

theorem cntF_length {a b : List UInt8} (h : cntF a = cntF b) : a.length = b.length := by
  rw [← cntF_sum, ← cntF_sum, h]
/-- RANKS ARE IN ORDER. -/
theorem rkL_mono : ∀ a b : List UInt8, cntF a = cntF b → Op.bytesLess a b = decide (rkL a < rkL b)
  | [], [], _ => by simp [Op.bytesLess]
  | [], y :: b, h => by have := cntF_length h; simp at this
  | x :: a, [], h => by have := cntF_length h; simp at this
  | x :: a, y :: b, h => by
    have hl : a.length = b.length := by have := cntF_length h; simpa using this
    have la := rkL_lt a
    have lb := rkL_lt b
    have sa := subF_head x a
    have sb := subF_head y b
    rw [Op.bytesLess, rkL, rkL]
    rw [← h, ← hl] at sb
    rw [← h, ← hl]
    generalize subF a.length (cntF (x :: a)) = g at sa sb
    by_cases h1 : x < y
    · have hx : x.toNat + 1 ≤ y.toNat := by simp only [UInt8.lt_iff_toNat_lt] at h1; omega
      have := sumTo_le g hx
      rw [sumTo, sa] at this
      simp [h1]
      omega
    · by_cases h2 : y < x
      · have hx : y.toNat + 1 ≤ x.toNat := by simp only [UInt8.lt_iff_toNat_lt] at h2; omega
        have := sumTo_le g hx
        rw [sumTo, sb] at this
        have hne : ¬ x = y := by intro e; subst e; exact h1 h2
        have e1 : decide (x < y) = false := by simpa using h1
        have e2 : (x == y) = false := by simpa using hne
        rw [e1, e2, Bool.false_and, Bool.or_false, eq_comm, decide_eq_false_iff_not]
        omega
      · have e : x = y := UInt8.toNat_inj.1 (by simp only [UInt8.lt_iff_toNat_lt] at *; omega)
        subst e
        have hc : cntF a = cntF b := by rw [← cntF_dec x a, ← cntF_dec x b, h]
        rw [rkL_mono a b hc]
        simp [h1]
end Go.Proofs.Ytbcedjjocpjkjaa
