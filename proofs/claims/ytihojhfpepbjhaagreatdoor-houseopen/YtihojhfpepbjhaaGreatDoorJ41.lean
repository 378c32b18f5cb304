/-
  New at rules that are right; housed.
  gamekeep.HouseOnce, walked for whatever comes in.
-/
import Derived.Test.YtihojhfpepbjhaaGreatDoorHoI
import Derived.Test.YtihojhfpepbjhaaGreatDoorJ40
namespace Go.Proofs.YtihojhfpepbjhaaGreatDoor
open Go.RowKit
attribute [local go_sem ↓] Go.wp_at_zero Go.wp_at_succ

theorem okP_self {s : Po} {ps : List Pc} {lo re : Nat} {li pl : Int} (hR : rulesB s.W s.H s.C.data.toList s.T s.A.data.toList s.B.data.toList ps lo li re pl = true) : OkP s.W s.H s.T s.C.data.toList s.A.data.toList s.B.data.toList ps lo re li pl s ∧ 1 ≤ pl ∧ pl ≤ 1000 := by
  have hR2 := hR
  unfold rulesB at hR2
  simp only [Bool.and_eq_true] at hR2
  refine ⟨?_, by have := hR2.2; simpa [inB] using this⟩
  unfold OkP atB
  simp only [Bool.and_eq_true, decide_eq_true_eq]
  exact ⟨⟨⟨⟨hR, hR2.1.1.1.1.1.2⟩, trivial⟩, trivial⟩, hR2.1.1.1.1.2⟩
theorem new_P (s : Po) (ao : Option Addr) (cap : Nat) (ps : List Pc) (dr st : Bool) (lo re : Nat) (li pl time : Int) (u : World) (hC0 : s.C.size ≤ maxLen) (hA0 : s.A.size ≤ maxLen) (hB0 : s.B.size ≤ maxLen) (hlo : lo < 256) (hre : re < 256) (h : isPcs u ao cap ps)
    (hR : rulesB s.W s.H s.C.data.toList s.T s.A.data.toList s.B.data.toList ps lo li re pl = true) (ht1 : 1 ≤ time ∧ time ≤ 1000000) :
    Calls Tryz.prog 8 #[.agg #[.int .i64 s.W, .int .i64 s.H, .string s.C, .int .i64 s.T, .string s.A, .string s.B, .slice ao ps.length cap, .bool dr, .int .u8 (lo : Int), .int .i64 li, .int .u8 (re : Int), .bool st, .int .i64 pl], .int .i64 time] u fun e w' => ∃ b ao2 cp2 w00, e = .returned (.tuple #[.pointer (some ⟨b, 0, none⟩), .int .i64 0]) ∧ NewE (gmP ps dr st lo li re pl) s.W s.H s.C s.T s.A s.B ps dr st lo re li time u w' b ao2 cp2 w00 := by
  obtain ⟨hat, -⟩ := okP_self hR
  have hpsB := rules_len hR
  obtain ⟨W', H', T', hf⟩ := at_facts hat
  have hp := at_isPos hat hf
  have hn := new_ok (gmP ps dr st lo li re pl) (W := W') (H := H') (T := s.T) (C := s.C) (A := s.A) (B := s.B) ao cap ps dr st lo re li time u (by rw [hf.t]; exact hp) h hC0 hA0 hB0 hlo hre (by rw [← hf.w, ← hf.h]; exact hR) hpsB.1 hpsB.2 ht1 (fun ao2 cp2 v hv => by
    have := Outcome_ok s.W s.H s.T s.C s.A s.B ao2 cp2 ps dr st lo re li pl s.W s.H s.T s.C s.A s.B v hC0 hA0 hB0 hlo hre hv hC0 hA0 hB0 hat W' H' T' hf
    rw [← hf.out] at this
    rw [← hf.w, ← hf.h]
    exact this)
  rw [← hf.w, ← hf.h] at hn
  exact hn
def kPs : List Pc := [⟨75, 0, [⟨1, 0, 1, 0⟩]⟩]
def kS : Po := ⟨3, 1, ⟨#[75, 46, 107]⟩, 0, ⟨#[]⟩, ⟨#[]⟩⟩
def kG : Gm := gmP kPs false false 75 0 0 9
def kM : Ms := ⟨0, 0, ⟨#[75, 97, 49, 45, 98, 49]⟩, 0⟩
theorem king_rules : rulesB kS.W kS.H kS.C.data.toList kS.T kS.A.data.toList kS.B.data.toList kPs 75 0 0 9 = true := by decide +kernel
theorem king_out : kG.O kS = 0 := by decide +kernel
theorem king_find : (kG.find kS kM.mv).isSome = true := by decide +kernel
theorem king_step : (kG.step (startX kS 9) kM).2 = 1 := by
  have he : kG.ended (startX kS 9) = 0 := by
    rw [ended_said _ rfl]
    show kG.said kS 0 = 0
    unfold Gm.said
    rw [king_out, if_neg (by decide)]
  obtain ⟨m, hm⟩ := Option.isSome_iff_exists.1 king_find
  unfold Gm.step
  rw [he, if_neg (by decide)]
  have hgo : (startX kS 9).go kM.at_ = startX kS 9 := by unfold Ho.go; rw [if_neg (by decide)]
  rw [hgo, if_neg (by decide), if_neg (by decide), if_neg (by decide)]
  rw [show (startX kS 9).p = kS from rfl, hm]
set_option maxHeartbeats 4000000 in
set_option maxRecDepth 100000 in
theorem housed_any (mx : Int) (w : World) (hm : w.cell? ⟨0, 0, none⟩ = some (.int .i64 mx)) (ht : isTab w) : Calls Tryz.prog 15 #[] w fun e w' => e = .returned (.bool true) ∧ Below w.heap.size w w' := by
  have hz : kS.C.size ≤ maxLen := by decide
  have he : kS.A.size ≤ maxLen := by decide
  have he2 : kS.B.size ≤ maxLen := by decide
  obtain ⟨hat, hpl⟩ := okP_self king_rules
  have hG := gm_ok (W0 := kS.W) (H0 := kS.H) (T0 := kS.T) (C0 := kS.C.data.toList) (A0 := kS.A.data.toList) (B0 := kS.B.data.toList) (ps := kPs) (lo := 75) (re := 0) (li := 0) (pl := 9) false false hpl
  have HK := hide (kings_any w)
  have HN : Hid (∀ ao cap (u : World), isPcs u ao cap kPs → Calls Tryz.prog 8 #[.agg #[.int .i64 3, .int .i64 1, .string ⟨#[75, 46, 107]⟩, .int .i64 0, .string ⟨#[]⟩, .string ⟨#[]⟩, .slice ao 1 cap, .bool false, .int .u8 75, .int .i64 0, .int .u8 0, .bool false, .int .i64 9], .int .i64 9] u fun e w' => ∃ b ao2 cp2 w00, e = .returned (.tuple #[.pointer (some ⟨b, 0, none⟩), .int .i64 0]) ∧ NewE kG kS.W kS.H kS.C kS.T kS.A kS.B kPs false false 75 0 0 9 u w' b ao2 cp2 w00) := hide fun ao cap u hu => new_P kS ao cap kPs false false 75 0 0 9 9 u hz he he2 (by decide) (by decide) hu king_rules (by decide)
  have HT : Hid (∀ b ao2 cp2 (w00 u : World), w00.heap.size = b → isPcs w00 ao2 cp2 kPs → Below w.heap.size w w00 → Below b w00 u → isHo u b (.int .i64 3) (.int .i64 1) (.string ⟨#[75, 46, 107]⟩) (.int .i64 0) (.string ⟨#[]⟩) (.string ⟨#[]⟩) (.slice ao2 1 cp2) (.bool false) (.int .u8 75) (.int .i64 0) (.int .u8 0) (.bool false) (.int .i64 9) (startX kS 9) (kG.said kS 0) → Calls Tryz.prog 11 #[.pointer (some ⟨b, 0, none⟩), .agg #[.int .i64 0, .int .i64 0, .string ⟨#[75, 97, 49, 45, 98, 49]⟩, .int .i64 0]] u fun e w' => ∃ a c t, e = .returned (.agg #[.int .i64 1, .int .i64 a, .int .i64 c, .string t]) ∧ Below b u w') := hide fun b ao2 cp2 w00 u hb hp hl hu hh => by
    have hc := hc_of (s := kS) (ps := kPs) (dr := false) (st := false) (lo := 75) (re := 0) (li := 0) (pl := 9) ao2 cp2 b w00 hb hp ⟨hz, he, he2⟩ (by decide) (by decide) mx ((hl.cell (p := ⟨0, 0, none⟩) (World.block_lt_of_cell? w ⟨0, 0, none⟩ hm)).trans hm) (tab_below ht hl (Nat.le_refl _))
    have hI : HoI kG _ (startX kS 9) := start_I hG hat (by decide)
    have hh2 : isHo u b (.int .i64 3) (.int .i64 1) (.string ⟨#[75, 46, 107]⟩) (.int .i64 0) (.string ⟨#[]⟩) (.string ⟨#[]⟩) (.slice ao2 1 cp2) (.bool false) (.int .u8 75) (.int .i64 0) (.int .u8 0) (.bool false) (.int .i64 kG.pl) (startX kS 9) (kG.ended (startX kS 9)) := by
      rw [ended_said _ rfl]
      exact hh
    refine (hTake_any kG _ hG txtP b b _ _ _ _ _ _ _ _ _ _ _ _ w00 u hc (startX kS 9) kM hI (by decide) hh2 (Nat.le_refl _) hu).mono ?_
    rintro e w' ⟨rfl, h1, h2⟩
    have h3 : Below b u w' := h2.fresh (Nat.le_refl _) (Nat.le_of_lt (isH.lt hh2))
    exact ⟨(kG.step (startX kS 9) kM).1.ply, kG.ended (kG.step (startX kS 9) kM).1, txtP (kG.step (startX kS 9) kM).1.p, by unfold Gm.reply; rw [king_step], h3⟩
  have hfld : ∀ (a c : Int) (t : ByteArray) (u : World), (Instr.field 40 (.agg #[.int .i64 1, .int .i64 a, .int .i64 c, .string t]) 0).run Tryz.prog u = .ok (.int .i64 1) u := fun a c t u => by kernel_rfl
  clear hG hat hm ht
  go_enter Tryz.func15, Tryz.ntmps15
  go_wp2_with fail
  refine (unhide HK).mono ?_
  rintro e w1 ⟨ao, cap, rfl, hp1, hb1⟩
  have HB1 := hide hb1
  have HP1 := hide hp1
  clear hb1 hp1 HK
  go_wp2_with fail
  refine (unhide HN ao cap w1 (unhide HP1)).mono ?_
  rintro e w2 ⟨b, ao2, cp2, w00, rfl, hE⟩
  have hl : Below w.heap.size w w00 := (unhide HB1).trans (hE.lw.mono (unhide HB1).size)
  have hTk := unhide HT b ao2 cp2 w00 w2 hE.sz hE.pcs hl hE.low hE.ho
  have hb2 : Below w.heap.size w w2 := (unhide HB1).trans (hE.all.mono (unhide HB1).size)
  have hbb : w.heap.size ≤ b := Nat.le_trans (unhide HB1).size hE.b0
  have HTK := hide hTk
  have HB2 := hide hb2
  clear hE hl hTk hb2 HT HN HP1 HB1
  go_wp2_with fail
  refine (unhide HTK).mono ?_
  rintro e w3 ⟨a, c, t, rfl, hb3⟩
  have HB3 := hide ((unhide HB2).trans (hb3.mono hbb))
  have hf := hfld a c t
  clear hb3 HB2 HTK hfld
  go_wp2
  go_ret
  exact ⟨rfl, unhide HB3⟩
end Go.Proofs.YtihojhfpepbjhaaGreatDoor

namespace Go.Proofs.YtihojhfpepbjhaaGreatDoor
open Go.RowKit
attribute [local go_sem ↓] Go.wp_at_zero Go.wp_at_succ

end Go.Proofs.YtihojhfpepbjhaaGreatDoor
