/-
  New at rules that are right; housed.
  gamekeep.HouseOnce, walked for whatever comes in.
  Messages that came in, opened; the table of the powers of ten.
  Numbers that came in, opened.
-/
import Derived.Test.YtihojhfpepbjhaaGreatDoorHoI
import Derived.Test.YtihojhfpepbjhaaGreatDoorD1
import Derived.Test.YtihojhfpepbjhaaGreatDoorHoP
import Derived.Test.YtihojhfpepbjhaaGreatDoorJ22
import Derived.Lib.LaidTab
import Derived.LaidMore
import Derived.Lay
import Derived.Handed
namespace Go.Proofs.YtihojhfpepbjhaaGreatDoor
open Go.RowKit
attribute [local go_sem ↓] Go.wp_at_zero Go.wp_at_succ

theorem okP_self {s : Po} {ps : List Pc} {lo re : Nat} {li pl : Int} (hR : rulesB s.W s.H s.C.data.toList s.T s.A.data.toList s.B.data.toList ps lo li re pl = true) : OkP s.W s.H s.T s.C.data.toList s.A.data.toList s.B.data.toList ps lo re li pl s ∧ 1 ≤ pl ∧ pl ≤ 1000 := by
  have hR2 := hR
  unfold rulesB at hR2
  simp only [Bool.and_eq_true] at hR2
  refine ⟨?_, by have := hR2.2; simpa [inB] using this⟩
  unfold OkP atB
  simp only [Bool.and_eq_true, decide_eq_true_eq]
  exact ⟨⟨⟨⟨hR, hR2.1.1.1.1.1.2⟩, trivial⟩, trivial⟩, hR2.1.1.1.1.2⟩
theorem new_P (s : Po) (ao : Option Addr) (cap : Nat) (ps : List Pc) (dr st : Bool) (lo re : Nat) (li pl time : Int) (u : World) (hC0 : s.C.size ≤ maxLen) (hA0 : s.A.size ≤ maxLen) (hB0 : s.B.size ≤ maxLen) (hlo : lo < 256) (hre : re < 256) (h : isPcs u ao cap ps)
    (hR : rulesB s.W s.H s.C.data.toList s.T s.A.data.toList s.B.data.toList ps lo li re pl = true) (ht1 : 1 ≤ time ∧ time ≤ 1000000) :
    Calls Tryz.prog 8 #[.agg #[.int .i64 s.W, .int .i64 s.H, .string s.C, .int .i64 s.T, .string s.A, .string s.B, .slice ao ps.length cap, .bool dr, .int .u8 (lo : Int), .int .i64 li, .int .u8 (re : Int), .bool st, .int .i64 pl], .int .i64 time] u fun e w' => ∃ b ao2 cp2 w00, e = .returned (.tuple #[.pointer (some ⟨b, 0, none⟩), .int .i64 0]) ∧ NewE (gmP ps dr st lo li re pl) s.W s.H s.C s.T s.A s.B ps dr st lo re li time u w' b ao2 cp2 w00 := by
  obtain ⟨hat, -⟩ := okP_self hR
  have hpsB := rules_len hR
  obtain ⟨W', H', T', hf⟩ := at_facts hat
  have hp := at_isPos hat hf
  have hn := new_ok (gmP ps dr st lo li re pl) (W := W') (H := H') (T := s.T) (C := s.C) (A := s.A) (B := s.B) ao cap ps dr st lo re li time u (by rw [hf.t]; exact hp) h hC0 hA0 hB0 hlo hre (by rw [← hf.w, ← hf.h]; exact hR) hpsB.1 hpsB.2 ht1 (fun ao2 cp2 v hv => by
    have := Outcome_ok s.W s.H s.T s.C s.A s.B ao2 cp2 ps dr st lo re li pl s.W s.H s.T s.C s.A s.B v hC0 hA0 hB0 hlo hre hv hC0 hA0 hB0 hat W' H' T' hf
    rw [← hf.out] at this
    rw [← hf.w, ← hf.h]
    exact this)
  rw [← hf.w, ← hf.h] at hn
  exact hn
def kPs : List Pc := [⟨75, 0, [⟨1, 0, 1, 0⟩]⟩]
def kS : Po := ⟨3, 1, ⟨#[75, 46, 107]⟩, 0, ⟨#[]⟩, ⟨#[]⟩⟩
def kG : Gm := gmP kPs false false 75 0 0 9
def kM : Ms := ⟨0, 0, ⟨#[75, 97, 49, 45, 98, 49]⟩, 0⟩
theorem king_rules : rulesB kS.W kS.H kS.C.data.toList kS.T kS.A.data.toList kS.B.data.toList kPs 75 0 0 9 = true := by decide +kernel
theorem king_out : kG.O kS = 0 := by decide +kernel
theorem king_find : (kG.find kS kM.mv).isSome = true := by decide +kernel
theorem king_step : (kG.step (startX kS 9) kM).2 = 1 := by
  have he : kG.ended (startX kS 9) = 0 := by
    rw [ended_said _ rfl]
    show kG.said kS 0 = 0
    unfold Gm.said
    rw [king_out, if_neg (by decide)]
  obtain ⟨m, hm⟩ := Option.isSome_iff_exists.1 king_find
  unfold Gm.step
  rw [he, if_neg (by decide)]
  have hgo : (startX kS 9).go kM.at_ = startX kS 9 := by unfold Ho.go; rw [if_neg (by decide)]
  rw [hgo, if_neg (by decide), if_neg (by decide), if_neg (by decide)]
  rw [show (startX kS 9).p = kS from rfl, hm]
set_option maxHeartbeats 4000000 in
set_option maxRecDepth 100000 in
theorem housed_any (mx : Int) (w : World) (hm : w.cell? ⟨0, 0, none⟩ = some (.int .i64 mx)) (ht : isTab w) : Calls Tryz.prog 15 #[] w fun e w' => e = .returned (.bool true) ∧ Below w.heap.size w w' := by
  have hz : kS.C.size ≤ maxLen := by decide
  have he : kS.A.size ≤ maxLen := by decide
  have he2 : kS.B.size ≤ maxLen := by decide
  obtain ⟨hat, hpl⟩ := okP_self king_rules
  have hG := gm_ok (W0 := kS.W) (H0 := kS.H) (T0 := kS.T) (C0 := kS.C.data.toList) (A0 := kS.A.data.toList) (B0 := kS.B.data.toList) (ps := kPs) (lo := 75) (re := 0) (li := 0) (pl := 9) false false hpl
  have HK := hide (kings_any w)
  have HN : Hid (∀ ao cap (u : World), isPcs u ao cap kPs → Calls Tryz.prog 8 #[.agg #[.int .i64 3, .int .i64 1, .string ⟨#[75, 46, 107]⟩, .int .i64 0, .string ⟨#[]⟩, .string ⟨#[]⟩, .slice ao 1 cap, .bool false, .int .u8 75, .int .i64 0, .int .u8 0, .bool false, .int .i64 9], .int .i64 9] u fun e w' => ∃ b ao2 cp2 w00, e = .returned (.tuple #[.pointer (some ⟨b, 0, none⟩), .int .i64 0]) ∧ NewE kG kS.W kS.H kS.C kS.T kS.A kS.B kPs false false 75 0 0 9 u w' b ao2 cp2 w00) := hide fun ao cap u hu => new_P kS ao cap kPs false false 75 0 0 9 9 u hz he he2 (by decide) (by decide) hu king_rules (by decide)
  have HT : Hid (∀ b ao2 cp2 (w00 u : World), w00.heap.size = b → isPcs w00 ao2 cp2 kPs → Below w.heap.size w w00 → Below b w00 u → isHo u b (.int .i64 3) (.int .i64 1) (.string ⟨#[75, 46, 107]⟩) (.int .i64 0) (.string ⟨#[]⟩) (.string ⟨#[]⟩) (.slice ao2 1 cp2) (.bool false) (.int .u8 75) (.int .i64 0) (.int .u8 0) (.bool false) (.int .i64 9) (startX kS 9) (kG.said kS 0) → Calls Tryz.prog 11 #[.pointer (some ⟨b, 0, none⟩), .agg #[.int .i64 0, .int .i64 0, .string ⟨#[75, 97, 49, 45, 98, 49]⟩, .int .i64 0]] u fun e w' => ∃ a c t, e = .returned (.agg #[.int .i64 1, .int .i64 a, .int .i64 c, .string t]) ∧ Below b u w') := hide fun b ao2 cp2 w00 u hb hp hl hu hh => by
    have hc := hc_of (s := kS) (ps := kPs) (dr := false) (st := false) (lo := 75) (re := 0) (li := 0) (pl := 9) ao2 cp2 b w00 hb hp ⟨hz, he, he2⟩ (by decide) (by decide) mx ((hl.cell (p := ⟨0, 0, none⟩) (World.block_lt_of_cell? w ⟨0, 0, none⟩ hm)).trans hm) (tab_below ht hl (Nat.le_refl _))
    have hI : HoI kG _ (startX kS 9) := start_I hG hat (by decide)
    have hh2 : isHo u b (.int .i64 3) (.int .i64 1) (.string ⟨#[75, 46, 107]⟩) (.int .i64 0) (.string ⟨#[]⟩) (.string ⟨#[]⟩) (.slice ao2 1 cp2) (.bool false) (.int .u8 75) (.int .i64 0) (.int .u8 0) (.bool false) (.int .i64 kG.pl) (startX kS 9) (kG.ended (startX kS 9)) := by
      rw [ended_said _ rfl]
      exact hh
    refine (hTake_any kG _ hG txtP b b _ _ _ _ _ _ _ _ _ _ _ _ w00 u hc (startX kS 9) kM hI (by decide) hh2 (Nat.le_refl _) hu).mono ?_
    rintro e w' ⟨rfl, h1, h2⟩
    have h3 : Below b u w' := h2.fresh (Nat.le_refl _) (Nat.le_of_lt (isH.lt hh2))
    exact ⟨(kG.step (startX kS 9) kM).1.ply, kG.ended (kG.step (startX kS 9) kM).1, txtP (kG.step (startX kS 9) kM).1.p, by unfold Gm.reply; rw [king_step], h3⟩
  have hfld : ∀ (a c : Int) (t : ByteArray) (u : World), (Instr.field 40 (.agg #[.int .i64 1, .int .i64 a, .int .i64 c, .string t]) 0).run Tryz.prog u = .ok (.int .i64 1) u := fun a c t u => by kernel_rfl
  clear hG hat hm ht
  go_enter Tryz.func15, Tryz.ntmps15
  go_wp2_with fail
  refine (unhide HK).mono ?_
  rintro e w1 ⟨ao, cap, rfl, hp1, hb1⟩
  have HB1 := hide hb1
  have HP1 := hide hp1
  clear hb1 hp1 HK
  go_wp2_with fail
  refine (unhide HN ao cap w1 (unhide HP1)).mono ?_
  rintro e w2 ⟨b, ao2, cp2, w00, rfl, hE⟩
  have hl : Below w.heap.size w w00 := (unhide HB1).trans (hE.lw.mono (unhide HB1).size)
  have hTk := unhide HT b ao2 cp2 w00 w2 hE.sz hE.pcs hl hE.low hE.ho
  have hb2 : Below w.heap.size w w2 := (unhide HB1).trans (hE.all.mono (unhide HB1).size)
  have hbb : w.heap.size ≤ b := Nat.le_trans (unhide HB1).size hE.b0
  have HTK := hide hTk
  have HB2 := hide hb2
  clear hE hl hTk hb2 HT HN HP1 HB1
  go_wp2_with fail
  refine (unhide HTK).mono ?_
  rintro e w3 ⟨a, c, t, rfl, hb3⟩
  have HB3 := hide ((unhide HB2).trans (hb3.mono hbb))
  have hf := hfld a c t
  clear hb3 HB2 HTK hfld
  go_wp2
  go_ret
  exact ⟨rfl, unhide HB3⟩
end Go.Proofs.YtihojhfpepbjhaaGreatDoor

namespace Go.Proofs.YtihojhfpepbjhaaGreatDoor
open Go.RowKit
attribute [local go_sem ↓] Go.wp_at_zero Go.wp_at_succ

set_option maxHeartbeats 4000000 in
set_option maxRecDepth 100000 in
theorem once_no (v0 v1 v2 v3 v4 v5 v6 v7 v8 v9 v10 v11 v12 : Value) (time : Int) (mv iv : Value) (w : World)
    (hHo : ∀ u, Below w.heap.size w u → Calls Tryz.prog 15 #[] u fun e u' => e = .returned (.bool true) ∧ Below u.heap.size u u')
    (hNew : ∀ u, Below w.heap.size w u → Calls Tryz.prog 8 #[.agg #[v0, v1, v2, v3, v4, v5, v6, v7, v8, v9, v10, v11, v12], .int .i64 time] u fun e w' => e = .returned (.tuple #[.pointer none, .int .i64 1]) ∧ Below u.heap.size u w') :
    Calls Tryz.prog 5 #[.agg #[v0, v1, v2, v3, v4, v5, v6, v7, v8, v9, v10, v11, v12], .int .i64 time, mv, iv] w fun e w' => e = .returned (.bool true) ∧ Below w.heap.size w w' := by
  obtain ⟨w1, hw1⟩ : ∃ w1, w1 = w.alloc (.cells #[v0, v1, v2, v3, v4, v5, v6, v7, v8, v9, v10, v11, v12] 27 (0, 0)) := ⟨_, rfl⟩
  have hb1 : Below w.heap.size w w1 := by rw [hw1]; exact (Below.refl _ _).alloc (Nat.le_refl _) _
  have hr1 : isRu w1 w.heap.size v0 v1 v2 v3 v4 v5 v6 v7 v8 v9 v10 v11 v12 := by rw [hw1]; exact heap_alloc_new w _
  have HNW := hide hNew
  have HHO := hide (hHo w1 hb1)
  have HB1 := hide hb1
  have HR1 := hide hr1
  have HW1 := hide hw1
  clear hNew hHo hb1 hr1 hw1
  go_enter Tryz.func5, Tryz.ntmps5
  go_upto_region 1 with fail
  rw [← unhide HW1]
  clear HW1
  go_wp2_with fail
  refine (unhide HHO).mono ?_
  rintro e w2 ⟨rfl, hb2⟩
  have hr2 := isRu.below (unhide HR1) hb2 (isRu.lt (unhide HR1))
  have HB02 := hide ((unhide HB1).trans (hb2.mono (unhide HB1).size))
  have HR2 := hide hr2
  clear HR1 HB1 HHO hb2 hr2
  obtain ⟨r0, r1, r2, r3, r4, r5, r6, r7, r8, r9, r10, r11, r12⟩ := (unhide HR2).cells
  go_wp2_with fail
  refine (unhide HNW w2 (unhide HB02)).mono ?_
  rintro e w3 ⟨rfl, hb3⟩
  have hr3 := isRu.below (unhide HR2) hb3 (isRu.lt (unhide HR2))
  have HB03 := hide ((unhide HB02).trans (hb3.mono (unhide HB02).size))
  clear HR2 HB02 hb3 r0 r1 r2 r3 r4 r5 r6 r7 r8 r9 r10 r11 r12
  obtain ⟨r0, r1, r2, r3, r4, r5, r6, r7, r8, r9, r10, r11, r12⟩ := hr3.cells
  clear hr3
  go_wp2_with fail
  refine (unhide HNW w3 (unhide HB03)).mono ?_
  rintro e w4 ⟨rfl, hb4⟩
  have HB04 := hide ((unhide HB03).trans (hb4.mono (unhide HB03).size))
  clear HB03 hb4 r0 r1 r2 r3 r4 r5 r6 r7 r8 r9 r10 r11 r12 HNW
  go_wp2
  go_ret
  exact ⟨rfl, unhide HB04⟩
theorem houseOnce_any (s : Po) (ao : Option Addr) (cap : Nat) (ps : List Pc) (dr st : Bool) (lo re : Nat) (li pl time : Int) (mo : Option Addr) (mc : Nat) (ml : List Ms) (io : Option Addr) (ic : Nat) (il : List Int) (mx : Int) (w : World) (hm : w.cell? ⟨0, 0, none⟩ = some (.int .i64 mx)) (ht : isTab w) (hC0 : s.C.size ≤ maxLen) (hA0 : s.A.size ≤ maxLen) (hB0 : s.B.size ≤ maxLen) (hlo : lo < 256) (hre : re < 256) (h : isPcs w ao cap ps) (hml : isMl w mo mc ml) (hmb : ∀ m ∈ ml, m.at_ < 9223372036854775808) (hil : isAg w io ic il) :
    Calls Tryz.prog 5 #[.agg #[.int .i64 s.W, .int .i64 s.H, .string s.C, .int .i64 s.T, .string s.A, .string s.B, .slice ao ps.length cap, .bool dr, .int .u8 (lo : Int), .int .i64 li, .int .u8 (re : Int), .bool st, .int .i64 pl], .int .i64 time, .slice mo ml.length mc, .slice io il.length ic] w fun e w' => e = .returned (.bool true) ∧ Below w.heap.size w w' := by
  have hps : ∀ u, Below w.heap.size w u → isPcs u ao cap ps := fun u hu => h.below hu (Nat.le_refl _)
  have hmx : ∀ u, Below w.heap.size w u → u.cell? ⟨0, 0, none⟩ = some (.int .i64 mx) := fun u hu => (hu.cell (p := ⟨0, 0, none⟩) (World.block_lt_of_cell? w ⟨0, 0, none⟩ hm)).trans hm
  have hHo : ∀ u, Below w.heap.size w u → Calls Tryz.prog 15 #[] u fun e u' => e = .returned (.bool true) ∧ Below u.heap.size u u' := fun u hu => housed_any mx u (hmx u hu) (tab_below ht hu (Nat.le_refl _))
  by_cases hgood : rulesB s.W s.H s.C.data.toList s.T s.A.data.toList s.B.data.toList ps lo li re pl = true ∧ 1 ≤ time ∧ time ≤ 1000000
  · obtain ⟨hR, ht1⟩ := hgood
    obtain ⟨hat, hpl⟩ := okP_self hR
    exact once_yes (gmP ps dr st lo li re pl) _ (gm_ok dr st hpl) txtP s hat ao cap ps dr st lo re li time mo mc ml io ic il w ht1 hml hmb hil hHo
      (fun u hu => new_P s ao cap ps dr st lo re li pl time u hC0 hA0 hB0 hlo hre (hps u hu) hR ht1)
      (fun b ao2 cp2 w00 hb h2 hl => hc_of (s := s) (dr := dr) (st := st) (li := li) (pl := pl) ao2 cp2 b w00 hb h2 ⟨hC0, hA0, hB0⟩ hlo hre mx (hmx w00 hl) (tab_below ht hl (Nat.le_refl _)))
      (fun ba base bb ao2 cp2 v u hv h2 hf hba hbu hx hw h0 => hc_later (s := s) (dr := dr) (st := st) (li := li) (pl := pl) hv h2 hf hba hbu hx hw h0 ⟨hC0, hA0, hB0⟩ hlo hre mx hm ht)
  · have hbad : (rulesB s.W s.H s.C.data.toList s.T s.A.data.toList s.B.data.toList ps lo li re pl && (decide (1 ≤ time) && decide (time ≤ 1000000))) = false := by
      rw [Bool.eq_false_iff]
      intro hh
      simp only [Bool.and_eq_true, decide_eq_true_eq] at hh
      exact hgood hh
    exact once_no _ _ _ _ _ _ _ _ _ _ _ _ _ time _ _ w hHo (fun u hu => new_no s.W s.H s.T s.C s.A s.B ao cap ps dr st lo re li pl time u (hps u hu) hC0 hA0 hB0 hlo hre hbad)
end Go.Proofs.YtihojhfpepbjhaaGreatDoor

namespace Go.Proofs.YtihojhfpepbjhaaGreatDoor
open Go.ChangeShapes Go.WideShapes Go.ChangeAt Go.RowKit

theorem cells_msg : Tryz.prog.cellsOf 43 = 4 := by kernel_rfl
section
variable {H : Type} {enc : TypeId × Value → H} {w : World} {base : Nat} {spare : Nat → Bool} {held : Bool} {fuel : Nat} {cs : List Value} {x : DataW H × List MemPlace}
theorem open_msg (h : DataW.trod enc Tryz.prog w base spare held fuel 43 cs = some x) : ∃ m : Ms, cs = [.int .i64 m.seat, .int .i64 m.ply, .string m.mv, .int .i64 m.at_] ∧ m.at_ < 9223372036854775808 := by
  obtain ⟨xs, n, _, hx, hl, hlen, hfd⟩ := DataW.trod_struct Tryz.underlying43 h
  rw [cells_msg] at hl
  obtain ⟨c0, c1, c2, c3, rfl⟩ := list4 hl
  obtain ⟨y0, y1, y2, y3, rfl⟩ := list4 hlen
  have f0 := hfd 0 _ rfl
  have f1 := hfd 1 _ rfl
  have f2 := hfd 2 _ rfl
  have f3 := hfd 3 _ rfl
  simp [cells_int, cells_string] at f0 f1 f2 f3
  obtain ⟨a, e0, _, _⟩ := DataW.trod_int Tryz.underlying3 f0
  obtain ⟨b, e1, _, _⟩ := DataW.trod_int Tryz.underlying3 f1
  obtain ⟨s, e2, _, _⟩ := DataW.trod_string Tryz.underlying9 f2
  obtain ⟨c, e3, _, hc⟩ := DataW.trod_int Tryz.underlying3 f3
  simp at e0 e1 e2 e3
  subst e0 e1 e2 e3
  have := bounds_i64 hc
  exact ⟨⟨a, b, s, c⟩, rfl, by show c < _; omega⟩
theorem open_msgs {v : Value} (h : DataW.trod enc Tryz.prog w base spare held fuel 28 [v] = some x) : ∃ (ao : Option Addr) (cap : Nat) (l : List Ms), v = .slice ao l.length cap ∧ isMl w ao cap l ∧ ∀ m ∈ l, m.at_ < 9223372036854775808 := by
  rcases Go.Deep.open_slice Tryz.underlying28 h with ⟨e, -⟩ | ⟨a, len, cap, m, n, D, Pl, e, hb, hl, hm, hmm, -, hx⟩
  · simp only [List.cons.injEq, and_true] at e
    exact ⟨none, 0, [], e, ⟨Nat.le_refl _, by unfold maxLen; omega, fun h => absurd rfl h⟩, fun m hm => by cases hm⟩
  · simp only [List.cons.injEq, and_true] at e
    have hlm : len ≤ m := by rw [hmm]; split <;> omega
    have each : ∀ i, i < len → ∃ z : Ms, z.at_ < 9223372036854775808 ∧ w.cell? (a.add (i * 4)) = some (.int .i64 z.seat) ∧ w.cell? (a.add (i * 4 + 1)) = some (.int .i64 z.ply) ∧ w.cell? (a.add (i * 4 + 2)) = some (.string z.mv) ∧ w.cell? (a.add (i * 4 + 3)) = some (.int .i64 z.at_) := by
      intro i hi
      obtain ⟨cs', h1, h2⟩ := hx i (by omega)
      rw [cells_msg] at h1
      obtain ⟨_, hlen, hcell⟩ := World.cells?_some h1
      obtain ⟨z, rfl, hz⟩ := open_msg h2
      have e0 := hcell 0 (by omega)
      have e1 := hcell 1 (by omega)
      have e2 := hcell 2 (by omega)
      have e3 := hcell 3 (by omega)
      rw [Go.Deep.add_add] at e0 e1 e2 e3
      exact ⟨z, hz, by simpa using e0, by simpa using e1, by simpa using e2, by simpa using e3⟩
    have hinh : Inhabited Ms := ⟨⟨0, 0, ⟨#[]⟩, 0⟩⟩
    obtain ⟨q, hq⟩ := Go.Deep.choose_lt each
    refine ⟨some a, cap, (List.range len).map q, by simp [e], ⟨by simp; omega, hm, fun hne => ?_⟩, fun z hz => ?_⟩
    · have hp : 0 < len := by
        rcases Nat.eq_zero_or_pos len with h0 | h0
        · subst h0; exact absurd rfl hne
        · exact h0
      obtain ⟨b, off, spot⟩ := a
      have hspot : spot = none := by simpa [Addr.add] using World.cell?_spot (hq 0 hp).2.1
      subst hspot
      have hlt : b < w.heap.size := by
        have := World.block_lt_of_cell? w _ (hq 0 hp).2.1
        rw [add_plain] at this
        exact this
      refine ⟨b, off, rfl, hlt, fun i z hz => ?_⟩
      have hi : i < len := by
        have := (List.getElem?_eq_some_iff.1 hz).1
        simpa using this
      have hqz : q i = z := by simpa [hi] using hz
      have := (hq i hi).2
      rw [add_plain, add_plain, add_plain, add_plain, hqz] at this
      exact this
    · simp only [List.mem_map, List.mem_range] at hz
      obtain ⟨i, hi, rfl⟩ := hz
      exact (hq i hi).1
end
theorem laid_tailH {P : Program} {w : World} {x : String × DataW Unit} {l : List (String × DataW Unit)} (h : laidMet P (x :: l) w) : laidMet P l w := by
  obtain ⟨ps, ⟨g, t, cs, fuel, p, q, h1, h2, h3, h4, h5, rfl⟩, hnd, hc⟩ := h
  exact ⟨q, h5, (List.nodup_append.1 hnd).2.1, fun b off hm => hc b off (List.mem_append_right _ hm)⟩
theorem gTabH : Tryz.prog.globalNamed "internal/strconv.uint64pow10" = some 3 := by kernel_rfl
theorem gTabTypeH : (Tryz.prog.globals[3]?).map (·.type) = some 239 := by kernel_rfl
theorem cells_tabH : Tryz.prog.cellsOf 239 = 20 := by kernel_rfl
theorem cells_u64H : Tryz.prog.cellsOf 175 = 1 := by kernel_rfl
theorem tabH {W : World} {a b : String × DataW Unit} {l : List (String × DataW Unit)} (h : laidMet Tryz.prog (a :: b :: ("internal/strconv.uint64pow10", Rows.laid_internal_strconv_uint64pow10) :: l) W) : isTab W :=
  Lib.tabIs_of_head gTabH gTabTypeH Tryz.underlying239 Tryz.underlying175 cells_u64H cells_tabH (laid_tailH (laid_tailH h))
end Go.Proofs.YtihojhfpepbjhaaGreatDoor

namespace Go.Proofs.YtihojhfpepbjhaaGreatDoor
open Go.ChangeShapes Go.WideShapes Go.ChangeAt Go.RowKit

section
variable {H : Type} {enc : TypeId × Value → H} {w : World} {base : Nat} {spare : Nat → Bool} {held : Bool} {fuel : Nat} {cs : List Value} {x : DataW H × List MemPlace}
theorem open_nums {v : Value} (h : DataW.trod enc Tryz.prog w base spare held fuel 50 [v] = some x) : ∃ (ao : Option Addr) (cap : Nat) (l : List Int), v = .slice ao l.length cap ∧ isAg w ao cap l := by
  rcases Go.Deep.open_slice Tryz.underlying50 h with ⟨e, -⟩ | ⟨a, len, cap, m, n, D, Pl, e, hb, hl, hm, hmm, -, hx⟩
  · simp only [List.cons.injEq, and_true] at e
    exact ⟨none, 0, [], e, ⟨Nat.le_refl _, by unfold maxLen; omega, fun h => absurd rfl h⟩⟩
  · simp only [List.cons.injEq, and_true] at e
    have hlm : len ≤ m := by rw [hmm]; split <;> omega
    have each : ∀ i, i < len → ∃ z : Int, w.cell? (a.add i) = some (.int .i64 z) := by
      intro i hi
      obtain ⟨cs', h1, h2⟩ := hx i (by omega)
      rw [cells_int] at h1
      obtain ⟨_, hlen, hcell⟩ := World.cells?_some h1
      obtain ⟨z, e2, _, _⟩ := DataW.trod_int Tryz.underlying3 h2
      subst e2
      have e0 := hcell 0 (by omega)
      rw [Go.Deep.add_add] at e0
      exact ⟨z, by simpa using e0⟩
    obtain ⟨q, hq⟩ := Go.Deep.choose_lt each
    refine ⟨some a, cap, (List.range len).map q, by simp [e], ⟨by simp; omega, hm, fun hne => ?_⟩⟩
    have hp : 0 < len := by
      rcases Nat.eq_zero_or_pos len with h0 | h0
      · subst h0; exact absurd rfl hne
      · exact h0
    obtain ⟨b, off, spot⟩ := a
    have hspot : spot = none := by simpa [Addr.add] using World.cell?_spot (hq 0 hp)
    subst hspot
    have hlt : b < w.heap.size := by
      have := World.block_lt_of_cell? w _ (hq 0 hp)
      rw [add_plain] at this
      exact this
    refine ⟨b, off, rfl, hlt, fun i z hz => ?_⟩
    have hi : i < len := by
      have := (List.getElem?_eq_some_iff.1 hz).1
      simpa using this
    have hqz : q i = z := by simpa [hi] using hz
    have := hq i hi
    rw [add_plain, hqz] at this
    exact this
end
end Go.Proofs.YtihojhfpepbjhaaGreatDoor
