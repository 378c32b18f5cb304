/-
  parlourbig's numbers, walked: div, Set, QuoRem, DivMod, Div.
  parlourbig's numbers with signs, wherever they lie (an Int of its own, or within a Rat): what a number is in memory, give, SetInt64, NewInt.
-/
import Derived.Test.YthplbfjpmnpjmaaDoorW86
namespace Go.Proofs.YthplbfjpmnpjmaaDoor
open Go.RowKit
attribute [local go_sem ↓] Go.wp_at_zero Go.wp_at_succ

theorem div_any (ao bo : Option Addr) (ca cb : Nat) (a b : List Nat) (w : World) (ha : isWs w ao ca a) (hb : isWs w bo cb b) (ta : trimL a = a) (tb : trimL b = b) (hb0 : b ≠ []) (hla : a.length ≤ 29000) :
    Calls Tryd.prog 77 #[.slice ao a.length ca, .slice bo b.length cb] w (Divd (val 4294967296 a) (val 4294967296 b) w) := by
  rcases Nat.lt_or_ge (val 4294967296 a) (val 4294967296 b) with hlt | hge
  · exact div_less ao bo ca cb a b w ha hb ta tb hlt
  · by_cases h2 : a.length ≤ 2
    · exact div_two ao bo ca cb a b w ha hb ta tb hge hb0 h2
    · have hsplit : b = b.dropLast ++ [b.getLast hb0] := (List.dropLast_concat_getLast hb0).symm
      generalize b.getLast hb0 = x at hsplit
      generalize b.dropLast = c at hsplit
      subst hsplit
      by_cases hc : c = []
      · subst hc
        have hd : val 4294967296 ([] ++ [x]) = x := by simp [val]
        rw [hd] at hge ⊢
        exact div_one ao bo ca cb x a w ha hb ta tb hge h2 (by omega)
      · exact div_long ao bo ca cb x a c w ha hb ta tb hge hc h2 hla

/-- Below S all but the blocks b and c is as it was. -/
structure But2 (S b c : Nat) (w w' : World) : Prop where
  os : w'.os = w.os
  tape : w'.tape = w.tape
  output : w'.output = w.output
  size : w.heap.size ≤ w'.heap.size
  block : ∀ k, k < S → k ≠ b → k ≠ c → w'.heap[k]? = w.heap[k]?
theorem But2.of_below {S b c : Nat} {w w' : World} (h : Below S w w') : But2 S b c w w' := ⟨h.os, h.tape, h.output, h.size, fun k hk _ _ => h.block k hk⟩
theorem But2.of_fst {S b c : Nat} {w w' : World} (h : But S b w w') : But2 S b c w w' := ⟨h.os, h.tape, h.output, h.size, fun k hk hb _ => h.block k hk hb⟩
theorem But2.of_snd {S b c : Nat} {w w' : World} (h : But S c w w') : But2 S b c w w' := ⟨h.os, h.tape, h.output, h.size, fun k hk _ hc => h.block k hk hc⟩
theorem But2.trans {S b c : Nat} {u v w : World} (h : But2 S b c u v) (k : But2 S b c v w) : But2 S b c u w :=
  ⟨k.os.trans h.os, k.tape.trans h.tape, k.output.trans h.output, Nat.le_trans h.size k.size, fun i hi hb hc => (k.block i hi hb hc).trans (h.block i hi hb hc)⟩
theorem But2.mono {S S' b c : Nat} {v w : World} (h : But2 S b c v w) (hS : S' ≤ S) : But2 S' b c v w := ⟨h.os, h.tape, h.output, h.size, fun i hi => h.block i (by omega)⟩
theorem But2.fst {S b c : Nat} {v w : World} (h : But2 S b c v w) (hc : S ≤ c) : But S b v w := ⟨h.os, h.tape, h.output, h.size, fun i hi hb => h.block i hi hb (by omega)⟩
theorem isNum.but {w w' : World} {c b S : Nat} {v : Value} (h : isNum w c v) (k : But S b w w') (hS : w.heap.size ≤ S) (hn : c ≠ b) : isNum w' c v := by
  obtain ⟨s, hs⟩ := h
  have := block_lt hs
  exact ⟨s, (k.block c (by omega) hn).trans hs⟩
theorem But.cell {S b : Nat} {w w' : World} (h : But S b w w') (k o : Nat) (hk : k < S) (hn : k ≠ b) : w'.cell? ⟨k, o, none⟩ = w.cell? ⟨k, o, none⟩ := by simp only [World.cell?]; rw [h.block k hk hn]
theorem isNum.drewN {w : World} {b : Nat} {v : Value} (h : isNum w b v) (n : Nat) : isNum (w.drewN n) b v := h
theorem below_undrewN {S : Nat} {w w' : World} {n : Nat} (h : Below S (w.drewN n) w') : Below S w w' := ⟨h.os, h.tape, h.output, h.size, h.block⟩
theorem But.undrewN {S b n : Nat} {v w : World} (h : But S b (v.drewN n) w) : But S b v w := ⟨h.os, h.tape, h.output, h.size, h.block⟩

set_option maxHeartbeats 1000000 in
set_option maxRecDepth 100000 in
theorem Set_any (b bx X : Nat) (v : Value) (w : World) (hb : isNum w b v) (hx : isBig w bx X) (hn : bx ≠ b) :
    Calls Tryd.prog 51 #[.pointer (some ⟨b, 0, none⟩), .pointer (some ⟨bx, 0, none⟩)] w fun e w' =>
      e = .returned (.pointer (some ⟨b, 0, none⟩)) ∧ isBig w' b X ∧ But w.heap.size b w w' := by
  obtain ⟨xo, xc, xl, x0, x1, xlt, xw, xt, rfl⟩ := hx.open
  have HB := hide hb
  have HXT := hide xt
  clear hx xt hb
  go_enter Tryd.func51, Tryd.ntmps51
  go_wp2
  go_region_held3 (fun w' => w'.cell? ⟨bx, 0, none⟩ = some (.bool false) ∧ w'.cell? ⟨bx, 1, none⟩ = some (.slice xo xl.length xc))
    (first
      | (go_keep; done)
      | (exact ⟨l0, l1⟩)
      | (exact ⟨k0, k1⟩))
    (first
      | (go_at_call 48; refine (give_any b v ro rc xl _ ((show isNum w.drew b v from unhide HB).below hbt (Nat.le_refl _)) hrw (unhide HXT)).mono ?_; rintro e wg ⟨rfl, hbig, hbut⟩; have l0 := (hbut.cell bx 0 (by have := hbt.size; dsimp only [World.drew] at this; omega) hn).trans k0; have l1 := (hbut.cell bx 1 (by have := hbt.size; dsimp only [World.drew] at this; omega) hn).trans k1)
      | (go_at_call 69; refine (twin_any xo xc xl w.drew ⟨xw.small, xw.le, xw.nil, xw.len, xw.cells⟩).mono ?_; rintro e wt ⟨ro, rc, rfl, hrw, hbt⟩; have k0 := (hbt.cell (p := ⟨bx, 0, none⟩) (by dsimp only [World.drew]; omega)).trans x0; have k1 := (hbt.cell (p := ⟨bx, 1, none⟩) (by dsimp only [World.drew]; omega)).trans x1))
  all_goals (go_wp2; go_ret; exact ⟨rfl, hbig, ((But.of_below hbt).trans (hbut.mono hbt.size)).drew⟩)

set_option maxHeartbeats 2000000 in
set_option maxRecDepth 100000 in
theorem QuoRem_any (b bx cy br X Y : Nat) (v vr : Value) (w : World) (hb : isNum w b v) (hx : isBig w bx X) (hy : isBig w cy Y) (hr : isNum w br vr) (hn : br ≠ b) (hX : X < 4294967296 ^ 200) (hY : 0 < Y) :
    Calls Tryd.prog 101 #[.pointer (some ⟨b, 0, none⟩), .pointer (some ⟨bx, 0, none⟩), .pointer (some ⟨cy, 0, none⟩), .pointer (some ⟨br, 0, none⟩)] w fun e w' =>
      e = .returned (.tuple #[.pointer (some ⟨b, 0, none⟩), .pointer (some ⟨br, 0, none⟩)]) ∧ isBig w' b (X / Y) ∧ isBig w' br (X % Y) ∧ But2 w.heap.size b br w w' := by
  obtain ⟨xo, xc, xl, x0, x1, xlt, xw, xt, rfl⟩ := hx.open
  obtain ⟨yo, yc, yl, y0, y1, ylt, yw, yt, rfl⟩ := hy.open
  have hxl := trim_len (by omega) xl 200 xt hX
  have hy0 : yl ≠ [] := by rintro rfl; simp [val] at hY
  have HD := hide (fun m => div_any xo yo xc yc xl yl (w.drewN m) (xw.drewN m) (yw.drewN m) xt yt hy0 (by omega))
  have HB := hide hb
  have HR := hide hr
  clear hx hy hX xt yt hb hr hxl hy0 hY
  go_enter Tryd.func101, Tryd.ntmps101
  go_wp2
  go_quiet (fail)
  go_wp2
  go_region_held3 (fun w' => w'.cell? ⟨bx, 1, none⟩ = some (.slice xo xl.length xc) ∧ w'.cell? ⟨cy, 1, none⟩ = some (.slice yo yl.length yc))
    (first
      | (go_keep; done)
      | (exact ⟨k0, k1⟩))
    (first
      | (go_at_call 77; (with_reducible refine (unhide HD _).mono ?_); rintro e wd ⟨qo, qc, ql, ro, rc, rl, rfl, hqw, hrw, hqv, hrv, hbd⟩; have k0 := (hbd.cell (p := ⟨bx, 1, none⟩) (by dsimp only [World.drewN]; omega)).trans x1; have k1 := (hbd.cell (p := ⟨cy, 1, none⟩) (by dsimp only [World.drewN]; omega)).trans y1))
  have hbw : Below w.heap.size w wd := below_undrewN hbd
  have hnb : isNum wd b v := (unhide HB).below hbw (Nat.le_refl _)
  have hnr : isNum wd br vr := (unhide HR).below hbw (Nat.le_refl _)
  have HNB := hide hnb
  have HNR := hide hnr
  clear hnb hnr
  go_wp2_with fail
  refine (give_any b v qo qc (trimL ql) wd (unhide HNB) hqw (trimL_idem _)).mono ?_
  rintro e w1 ⟨rfl, hb1, hk1⟩
  have hr1 : isWs w1 ro rc (trimL rl) := hrw.but (unhide HNB) hk1 (Nat.le_refl _)
  have hnr1 : isNum w1 br vr := (unhide HNR).but hk1 (Nat.le_refl _) hn
  have HR1 := hide hr1
  have HNR1 := hide hnr1
  have HB1 := hide hb1
  clear hr1 hnr1 hb1
  go_wp2_with fail
  refine (give_any br vr ro rc (trimL rl) w1 (unhide HNR1) (unhide HR1) (trimL_idem _)).mono ?_
  rintro e w2 ⟨rfl, hb2, hk2⟩
  have hb3 : isBig w2 b (val 4294967296 (trimL ql)) := (unhide HB1).but (unhide HNR1) hk2 (Nat.le_refl _) (Ne.symm hn)
  go_wp2
  go_ret2
  rw [trimL_val, hqv] at hb3
  rw [trimL_val, hrv] at hb2
  refine ⟨rfl, hb3, hb2, (But2.of_below hbw).trans ((But2.of_fst (hk1.mono hbw.size)).trans (But2.of_snd (hk2.mono ?_)))⟩
  exact Nat.le_trans hbw.size hk1.size

set_option maxHeartbeats 2000000 in
set_option maxRecDepth 100000 in
theorem DivMod_any (b bx cy br X Y : Nat) (v vr : Value) (w : World) (hb : isNum w b v) (hx : isBig w bx X) (hy : isBig w cy Y) (hr : isNum w br vr) (hn : br ≠ b) (hX : X < 4294967296 ^ 200) (hY : 0 < Y) :
    Calls Tryd.prog 88 #[.pointer (some ⟨b, 0, none⟩), .pointer (some ⟨bx, 0, none⟩), .pointer (some ⟨cy, 0, none⟩), .pointer (some ⟨br, 0, none⟩)] w fun e w' =>
      e = .returned (.tuple #[.pointer (some ⟨b, 0, none⟩), .pointer (some ⟨br, 0, none⟩)]) ∧ isBig w' b (X / Y) ∧ isBig w' br (X % Y) ∧ But2 w.heap.size b br w w' := by
  have hba : Below w.heap.size w (w.alloc (.cells #[.bool false, .slice none 0 0] 37 (0, 0))) := (Below.refl _ w).alloc (Nat.le_refl _) _
  have hnn : isNum (w.alloc (.cells #[.bool false, .slice none 0 0] 37 (0, 0))) w.heap.size (.slice none 0 0) := ⟨false, heap_alloc_new w _⟩
  have hne : cy ≠ w.heap.size := by have := hy.lt; omega
  have hset := Set_any w.heap.size cy Y _ _ hnn (hy.below hba (Nat.le_refl _)) hne
  have hblt : b < w.heap.size := by obtain ⟨_, h⟩ := hb; exact block_lt h
  have hrlt : br < w.heap.size := by obtain ⟨_, h⟩ := hr; exact block_lt h
  have HSET := hide hset
  have HX := hide (hx.below hba (Nat.le_refl _))
  have HY := hide (hy.below hba (Nat.le_refl _))
  have HB := hide (hb.below hba (Nat.le_refl _))
  have HR := hide (hr.below hba (Nat.le_refl _))
  have HNN := hide hnn
  have HBA := hide hba
  have hxlt := hx.lt
  have hylt := hy.lt
  clear hset hx hy hb hr hnn hba
  go_enter Tryd.func88, Tryd.ntmps88
  go_wp2_with fail
  refine (unhide HSET).mono ?_
  rintro e w1 ⟨rfl, hs1, hk1⟩
  have hk0 : Below w.heap.size w w1 := (unhide HBA).trans (hk1.fresh (Nat.le_refl _) (by simp))
  have hx1 := (unhide HX).but (unhide HNN) hk1 (Nat.le_refl _) (by omega)
  have hy1 := (unhide HY).but (unhide HNN) hk1 (Nat.le_refl _) (by omega)
  have hb1 := (unhide HB).but hk1 (Nat.le_refl _) (by omega)
  have hr1 := (unhide HR).but hk1 (Nat.le_refl _) (by omega)
  have hq := QuoRem_any b bx cy br X Y v vr w1 hb1 hx1 hy1 hr1 hn hX hY
  have HQ := hide hq
  clear hq hx1 hy1 hb1 hr1 hs1
  go_wp2_with fail
  refine (unhide HQ).mono ?_
  rintro e w2 ⟨rfl, hb2, hr2, hk2⟩
  obtain ⟨_, _, _, r0, _, _, _, _, _⟩ := hr2.open
  have HB2 := hide hb2
  have HR2 := hide hr2
  clear hb2 hr2
  go_wp2
  go_ret2
  exact ⟨rfl, unhide HB2, unhide HR2, (But2.of_below hk0).trans (hk2.mono hk0.size)⟩

end Go.Proofs.YthplbfjpmnpjmaaDoor

namespace Go.Proofs.YthplbfjpmnpjmaaDoor
open Go.RowKit
attribute [local go_sem ↓] Go.wp_at_zero Go.wp_at_succ

/-- A block of numbers: its first cell is a sign. -/
def isNB (w : World) (b : Nat) : Prop := ∃ cs t s, w.heap[b]? = some (.cells cs t (0, 0)) ∧ cs[0]? = some (Value.bool s)
theorem isNB.lt {w : World} {b : Nat} (h : isNB w b) : b < w.heap.size := by
  obtain ⟨_, _, _, hb, _⟩ := h
  exact block_lt hb
theorem isNB.keep {w w' : World} {b : Nat} (h : isNB w b) (e : w'.heap[b]? = w.heap[b]?) : isNB w' b := by
  obtain ⟨cs, t, s, hb, r⟩ := h
  exact ⟨cs, t, s, e.trans hb, r⟩
theorem isNB.below {w w' : World} {b S : Nat} (h : isNB w b) (k : Below S w w') (hS : w.heap.size ≤ S) : isNB w' b := h.keep (k.block b (by have := h.lt; omega))
theorem isNB.frozen {w : World} {b : Nat} (h : isNB w b) (o : Nat) : w.frozen? ⟨b, o, none⟩ = false := by
  obtain ⟨cs, t, s, hb, _⟩ := h
  simp [World.frozen?, hb]
/-- Words lie in no block of numbers. -/
theorem isWs.butNB {w w' : World} {ao : Option Addr} {cap S b : Nat} {l : List Nat} (h : isWs w ao cap l) (hb : isNB w b) (k : But S b w w') (hS : w.heap.size ≤ S) : isWs w' ao cap l := by
  refine ⟨h.small, h.le, h.nil, h.len, fun hl => ?_⟩
  obtain ⟨g, e, hg, hc⟩ := h.cells hl
  have hgb : g ≠ b := by
    rintro rfl
    obtain ⟨cs, t, s, hs, h0⟩ := hb
    obtain ⟨x, hx⟩ : ∃ x, l[0]? = some x := ⟨l[0]'(List.length_pos_iff.2 hl), List.getElem?_eq_getElem _⟩
    have := hc 0 x hx
    simp [World.cell?, hs, h0] at this
  have := k.size
  exact ⟨g, e, by omega, fun j x hx => (World.cell?_of_block (w := w) (k.block g (by omega) hgb)).trans (hc j x hx)⟩

/-- At o of block b lies the number z. -/
def isI (w : World) (b o : Nat) (z : Int) : Prop := isNB w b ∧ ∃ ao cap l, w.cell? ⟨b, o, none⟩ = some (.bool (decide (z < 0))) ∧ w.cell? ⟨b, o + 1, none⟩ = some (.slice ao l.length cap) ∧ isWs w ao cap l ∧ trimL l = l ∧ val 4294967296 l = z.natAbs
theorem isI.lt {w : World} {b o : Nat} {z : Int} (h : isI w b o z) : b < w.heap.size := h.1.lt
theorem isI.below {w w' : World} {b o S : Nat} {z : Int} (h : isI w b o z) (k : Below S w w') (hS : w.heap.size ≤ S) : isI w' b o z := by
  have hlt := h.lt
  obtain ⟨hn, ao, cap, l, c0, c1, hw, r⟩ := h
  exact ⟨hn.below k hS, ao, cap, l, (k.cell (p := ⟨b, o, none⟩) (by dsimp only; omega)).trans c0, (k.cell (p := ⟨b, o + 1, none⟩) (by dsimp only; omega)).trans c1, hw.below k hS, r⟩
theorem isI.but {w w' : World} {c o b S : Nat} {z : Int} (h : isI w c o z) (hb : isNB w b) (k : But S b w w') (hS : w.heap.size ≤ S) (hn : c ≠ b) : isI w' c o z := by
  have hlt := h.lt
  obtain ⟨hc, ao, cap, l, c0, c1, hw, r⟩ := h
  exact ⟨hc.keep (k.block c (by omega) hn), ao, cap, l, (k.cell c o (by omega) hn).trans c0, (k.cell c (o + 1) (by omega) hn).trans c1, hw.butNB hb k hS, r⟩
/-- Two cells that a number may be put into. -/
structure isTo (w : World) (b o : Nat) : Prop where
  nb : isNB w b
  fst : ∃ s, w.cell? ⟨b, o, none⟩ = some (.bool s)
  snd : ∃ v, w.cell? ⟨b, o + 1, none⟩ = some v
theorem isI.to_ {w : World} {b o : Nat} {z : Int} (h : isI w b o z) : isTo w b o := by
  obtain ⟨hn, ao, cap, l, c0, c1, _⟩ := h
  exact ⟨hn, ⟨_, c0⟩, ⟨_, c1⟩⟩
theorem isTo.below {w w' : World} {b o S : Nat} (h : isTo w b o) (k : Below S w w') (hS : w.heap.size ≤ S) : isTo w' b o := by
  have hlt := h.nb.lt
  obtain ⟨hn, ⟨s, c0⟩, ⟨v, c1⟩⟩ := h
  exact ⟨hn.below k hS, ⟨s, (k.cell (p := ⟨b, o, none⟩) (by dsimp only; omega)).trans c0⟩, ⟨v, (k.cell (p := ⟨b, o + 1, none⟩) (by dsimp only; omega)).trans c1⟩⟩
/-- Below S all is as it was but two cells of block b. -/
structure Put (S b o : Nat) (w w' : World) : Prop where
  but : But S b w w'
  nb : isNB w' b
  cell : ∀ j, j ≠ o → j ≠ o + 1 → w'.cell? ⟨b, j, none⟩ = w.cell? ⟨b, j, none⟩
theorem Put.after {S b o : Nat} {u v w : World} (h : Below S u v) (k : Put S b o v w) (hb : b < S) : Put S b o u w :=
  ⟨(But.of_below h).trans k.but, k.nb, fun j h1 h2 => (k.cell j h1 h2).trans (h.cell (p := ⟨b, j, none⟩) hb)⟩
theorem Put.mono {S S' b o : Nat} {v w : World} (h : Put S b o v w) (hS : S' ≤ S) : Put S' b o v w := ⟨h.but.mono hS, h.nb, h.cell⟩
theorem Put.undrewN {S b o n : Nat} {v w : World} (h : Put S b o (v.drewN n) w) : Put S b o v w := ⟨h.but.undrewN, h.nb, h.cell⟩
theorem Put.undrew {S b o : Nat} {v w : World} (h : Put S b o v.drew w) : Put S b o v w := ⟨h.but.drew, h.nb, h.cell⟩
theorem cell_set_ne {w : World} {b i j : Nat} {v : Value} (h : i ≠ j) : (w.setCell ⟨b, i, none⟩ v).cell? ⟨b, j, none⟩ = w.cell? ⟨b, j, none⟩ := World.cell?_setCell_other _ _ _ _ (by intro e; cases e; exact h rfl)
theorem isNB.set {w : World} {b i : Nat} {v : Value} (h : isNB w b) (hv : i = 0 → ∃ s, v = .bool s) : isNB (w.setCell ⟨b, i, none⟩ v) b := by
  obtain ⟨cs, t, s, hb, h0⟩ := h
  refine ⟨cs.setIfInBounds i v, t, ?_⟩
  by_cases hi : i = 0
  · obtain ⟨s', rfl⟩ := hv hi
    subst hi
    refine ⟨s', ?_, ?_⟩
    · simp [World.setCell, Array.getElem?_modify, hb]
    · have := (Array.getElem?_eq_some_iff.1 h0).1
      simp [this]
  · refine ⟨s, ?_, ?_⟩
    · simp [World.setCell, Array.getElem?_modify, hb]
    · simp [hi, h0]

theorem give_z_end {w : World} {b o : Nat} {s s0 : Bool} {v : Value} {ao : Option Addr} {cap : Nat} {l : List Nat} (hn : isNB w b) (c0 : w.cell? ⟨b, o, none⟩ = some (.bool s0)) (c1 : w.cell? ⟨b, o + 1, none⟩ = some v) (h : isWs w ao cap l) (ht : trimL l = l) (z : Int) (hz : val 4294967296 l = z.natAbs) (hs : s = decide (z < 0)) :
    isI ((w.setCell ⟨b, o + 1, none⟩ (.slice ao l.length cap)).setCell ⟨b, o, none⟩ (.bool s)) b o z ∧ Put w.heap.size b o w ((w.setCell ⟨b, o + 1, none⟩ (.slice ao l.length cap)).setCell ⟨b, o, none⟩ (.bool s)) := by
  have hn1 : isNB (w.setCell ⟨b, o + 1, none⟩ (.slice ao l.length cap)) b := hn.set (fun e => absurd e (Nat.succ_ne_zero o))
  have hn2 : isNB ((w.setCell ⟨b, o + 1, none⟩ (.slice ao l.length cap)).setCell ⟨b, o, none⟩ (.bool s)) b := hn1.set (fun _ => ⟨s, rfl⟩)
  have k : But w.heap.size b w ((w.setCell ⟨b, o + 1, none⟩ (.slice ao l.length cap)).setCell ⟨b, o, none⟩ (.bool s)) := ((But.of_below (Below.refl _ w)).set (o + 1) _).set o _
  have d0 : (w.setCell ⟨b, o + 1, none⟩ (.slice ao l.length cap)).cell? ⟨b, o, none⟩ = some (.bool s0) := (cell_set_ne (by omega)).trans c0
  refine ⟨⟨hn2, ao, cap, l, ?_, ?_, h.butNB hn k (Nat.le_refl _), ht, hz⟩, k, hn2, fun j h1 h2 => ?_⟩
  · rw [World.cell?_setCell_same _ _ _ d0, hs]
  · rw [cell_set_ne (by omega)]
    exact World.cell?_setCell_same _ _ _ c1
  · rw [cell_set_ne (by omega), cell_set_ne (by omega)]

set_option maxHeartbeats 1000000 in
theorem give_z (b o : Nat) (s : Bool) (z : Int) (ao : Option Addr) (cap : Nat) (l : List Nat) (w : World) (hb : isTo w b o) (h : isWs w ao cap l) (ht : trimL l = l) (hz : val 4294967296 l = z.natAbs) (hs : (s && !l.isEmpty) = decide (z < 0)) :
    Calls Tryd.prog 48 #[.pointer (some ⟨b, o, none⟩), .bool s, .slice ao l.length cap] w fun e w' =>
      e = .returned (.pointer (some ⟨b, o, none⟩)) ∧ isI w' b o z ∧ Put w.heap.size b o w w' := by
  obtain ⟨hn, ⟨s0, c0⟩, ⟨v, c1⟩⟩ := hb
  have z0 := hn.frozen o
  have z1 := hn.frozen (o + 1)
  have HE := hide (fun q hq => give_z_end (s := q) hn c0 c1 h ht z hz hq)
  have hll := h.len
  cases s with
  | false =>
    have hq : decide (z < 0) = false := by rw [← hs]; rfl
    have HQ := hide hq
    clear hs hq hz ht h hn
    go_enter Tryd.func48, Tryd.ntmps48
    go_wp2
    go_ret
    have := unhide HE _ (unhide HQ).symm
    exact ⟨rfl, this.1, this.2⟩
  | true =>
    by_cases hl : l = []
    · subst hl
      have hq : decide (z < 0) = false := by rw [← hs]; rfl
      have HQ := hide hq
      clear hs hq hz ht h hn
      go_enter Tryd.func48, Tryd.ntmps48
      go_wp2
      go_ret
      have := unhide HE _ (unhide HQ).symm
      exact ⟨rfl, this.1, this.2⟩
    · have hq : decide (z < 0) = true := by
        rw [← hs]
        cases l with
        | nil => exact absurd rfl hl
        | cons x l => rfl
      have HQ := hide hq
      have hd : decide (0 < l.length) = true := by have := List.length_pos_iff.2 hl; simpa using this
      have HD := hide hd
      clear hs hq hz ht h hn hl hd
      go_enter Tryd.func48, Tryd.ntmps48
      go_wp2
      go_ret
      rw [unhide HD]
      have := unhide HE _ (unhide HQ).symm
      exact ⟨rfl, this.1, this.2⟩

theorem empty_of_val {l : List Nat} (ht : trimL l = l) : l.isEmpty = decide (val 4294967296 l = 0) := by
  cases l with
  | nil => rfl
  | cons x l =>
    have := trim_low (x :: l) ht 0 (by simp)
    simp at this
    simp; omega
theorem sign_of {l : List Nat} {z : Int} (ht : trimL l = l) (hz : val 4294967296 l = z.natAbs) (s : Bool) (hs : z ≠ 0 → s = decide (z < 0)) : (s && !l.isEmpty) = decide (z < 0) := by
  rw [empty_of_val ht, hz]
  by_cases h : z = 0
  · subst h; simp
  · rw [hs h]; have : z.natAbs ≠ 0 := by omega
    simp [this]

set_option maxHeartbeats 1000000 in
theorem SetInt64_z (b o : Nat) (x : Int) (w : World) (hb : isTo w b o) (h1 : -9223372036854775808 < x) (h2 : x < 9223372036854775808) :
    Calls Tryd.prog 54 #[.pointer (some ⟨b, o, none⟩), .int .i64 x] w fun e w' =>
      e = .returned (.pointer (some ⟨b, o, none⟩)) ∧ isI w' b o x ∧ Put w.heap.size b o w w' := by
  obtain ⟨m, hm⟩ : ∃ m : Nat, m = x.natAbs := ⟨_, rfl⟩
  have HWD := hide (fun w => words_val m w (by omega))
  have hlt := hb.nb.lt
  have HB := hide hb
  by_cases hx : x < 0
  · have hxm : x = -(m : Int) := by omega
    obtain ⟨u, hmod⟩ : ∃ u : Nat, IntKind.u64.wrap x = (u : Int) := ⟨18446744073709551616 - m, by show x % 18446744073709551616 = _; omega⟩
    have hmod2 : IntKind.u64.wrap (-(u : Int)) = (m : Int) := by
      have : x % 18446744073709551616 = (u : Int) := hmod
      show -(u : Int) % 18446744073709551616 = _
      omega
    have HM := hide hxm
    clear hm h1 h2 hb hxm
    go_enter Tryd.func54, Tryd.ntmps54
    go_wp2_with fail
    refine (unhide HWD _).mono ?_
    rintro e w1 ⟨ao, cap, l, rfl, hw1, hv, hb1⟩
    go_wp2_with fail
    refine (give_z b o true x ao cap _ w1 ((unhide HB).below hb1 (Nat.le_refl _)) hw1 (trimL_idem _) (by have := unhide HM; rw [trimL_val, hv]; omega) (sign_of (trimL_idem _) (by have := unhide HM; rw [trimL_val, hv]; omega) _ (fun _ => by simp [hx]))).mono ?_
    rintro e w2 ⟨rfl, hi, hp⟩
    go_wp2
    go_ret
    exact ⟨rfl, hi, (hp.mono hb1.size).after hb1 hlt⟩
  · have hxm : x = (m : Int) := by omega
    have hmb : (m : Int) < 9223372036854775808 := by omega
    subst hxm
    clear hm h1 h2 hb
    go_enter Tryd.func54, Tryd.ntmps54
    go_wp2_with fail
    refine (unhide HWD _).mono ?_
    rintro e w1 ⟨ao, cap, l, rfl, hw1, hv, hb1⟩
    go_wp2_with fail
    refine (give_z b o false (m : Int) ao cap _ w1 ((unhide HB).below hb1 (Nat.le_refl _)) hw1 (trimL_idem _) (by rw [trimL_val, hv]; omega) (by simp)).mono ?_
    rintro e w2 ⟨rfl, hi, hp⟩
    go_wp2
    go_ret
    exact ⟨rfl, hi, (hp.mono hb1.size).after hb1 hlt⟩

theorem new_to (w : World) : isTo (w.alloc (.cells #[.bool false, .slice none 0 0] 37 (0, 0))) w.heap.size 0 :=
  ⟨⟨_, _, _, heap_alloc_new w _, rfl⟩, ⟨false, by simp⟩, ⟨.slice none 0 0, by simp⟩⟩
theorem new_zero (w : World) : isI (w.alloc (.cells #[.bool false, .slice none 0 0] 37 (0, 0))) w.heap.size 0 0 :=
  ⟨⟨_, _, _, heap_alloc_new w _, rfl⟩, none, 0, [], by simp, by simp, isWs_nil _, rfl, rfl⟩

set_option maxHeartbeats 1000000 in
theorem NewInt_z (x : Int) (w : World) (h1 : -9223372036854775808 < x) (h2 : x < 9223372036854775808) :
    Calls Tryd.prog 29 #[.int .i64 x] w fun e w' => e = .returned (.pointer (some ⟨w.heap.size, 0, none⟩)) ∧ isI w' w.heap.size 0 x ∧ Below w.heap.size w w' := by
  have HN := hide (SetInt64_z _ 0 x _ (new_to w) h1 h2)
  go_enter Tryd.func29, Tryd.ntmps29
  go_wp2_with fail
  refine (unhide HN).mono ?_
  rintro e w1 ⟨rfl, hbig, hbut⟩
  go_wp2
  go_ret
  exact ⟨rfl, hbig, ((Below.refl _ w).alloc (Nat.le_refl _) _).trans (hbut.but.fresh (Nat.le_refl _) (by simp))⟩
end Go.Proofs.YthplbfjpmnpjmaaDoor
