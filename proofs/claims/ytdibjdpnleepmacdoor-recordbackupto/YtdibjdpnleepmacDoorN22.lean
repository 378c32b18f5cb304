/-
  package record, walked: Write; gameref.SameNotes at the same notes.
-/
import Derived.Test.YtdibjdpnleepmacDoorN21
import Derived.BigQuiet
namespace Go.Proofs.YtdibjdpnleepmacDoor
open Go.RowKit
attribute [local go_sem ↓] Go.wp_at_zero Go.wp_at_succ

theorem chkI_range (d : Nat) (l : List Nt) : chkI d l = 0 ∨ chkI d l = 1 ∨ chkI d l = 2 := by
  unfold chkI
  split
  · exact .inr (.inl rfl)
  · split
    · exact .inr (.inr rfl)
    · exact .inl rfl
theorem isNts.up {w : World} {B B' : Nat} (hB : B ≤ B') : ∀ {d : Nat} {ao : Option Addr} {cap : Nat} {l : List Nt}, isNts d w B ao cap l → isNts d w B' ao cap l
  | 0, _, _, _, h => h
  | d + 1, ao, cap, l, h => by
    obtain ⟨h1, h2, h3, h4⟩ := h
    refine ⟨h1, h2, h3, fun hl => ?_⟩
    obtain ⟨g, off, e, hg, hc⟩ := h4 hl
    refine ⟨g, off, e, Nat.lt_of_lt_of_le hg hB, fun i t ht => ?_⟩
    obtain ⟨s1, s2, no, nc, c0, c1, c2, c3⟩ := hc i t ht
    exact ⟨s1, s2, no, nc, c0, c1, c2, isNts.up hB c3⟩
/-- What is right: as Check tells it. -/
theorem chk_ok {d : Nat} {w : World} {B : Nat} {ao : Option Addr} {cap : Nat} {l : List Nt} (hN : isNts d w B ao cap l) (h : chkI d l = 0) : OkF (foL l) ∧ cnt (foL l) ≤ 1000 ∧ hg (foL l) ≤ 50 :=
  chk_back d (foL l) (isNts.hg d ao cap l hN) (by rw [toL_foL]; exact h)
theorem text_short {F : Fo} (h : OkF F) (hc : cnt F ≤ 1000) : (textL F).length ≤ 1000000 := by
  have := (text_len F h).1
  omega
structure WriteEnd (d : Nat) (l : List Nt) (w : World) (e : Ending) (w' : World) : Prop where
  ex : (chkI d l ≠ 0 ∧ e = .returned (.tuple #[.string ⟨#[]⟩, .int .i64 (chkI d l)])) ∨ (chkI d l = 0 ∧ e = .returned (.tuple #[.string (ofL (textL (foL l))), .int .i64 0]))
  low : Below w.heap.size w w'

set_option maxHeartbeats 1000000 in
set_option maxRecDepth 100000 in
theorem recWrite_any (d : Nat) (ao : Option Addr) (cap : Nat) (l : List Nt) (w : World) (hN : isNts d w w.heap.size ao cap l) (hT : Lib.Utf8Tabs 0 1 w) :
    Calls Tryd.prog 5 #[.slice ao l.length cap] w fun e w' => WriteEnd d l w e w' := by
  have HCH := hide (recCheck_any d ao cap l w hN hT)
  obtain ⟨C, hC⟩ : ∃ C, C = chkI d l := ⟨_, rfl⟩
  rw [← hC] at HCH
  have HN := hide hN
  have HC := hide hC
  clear hN hT hC
  go_enter Tryd.func5, Tryd.ntmps5
  go_wp2_with fail
  refine (unhide HCH).mono ?_
  rintro e w2 ⟨rfl, hb⟩
  by_cases hz : C = 0
  · have hok := chk_ok (unhide HN) ((unhide HC).symm.trans hz)
    have hts := text_short hok.1 hok.2.1
    have hTX := recText_of ao cap l w2 (parts_any 1000 d w.heap.size ao cap l w2 hb.size (isNts.below hb (Nat.le_refl _) _ _ _ _ (unhide HN)) hok.2.1 hts) hts
    obtain ⟨S, hS⟩ : ∃ S, S = ofL (textL (foL l)) := ⟨_, rfl⟩
    rw [← hS] at hTX
    have hss : S.size ≤ 1000000 := by rw [hS, size_ofL]; exact hts
    have HTX := hide hTX
    have HS := hide hS
    have hzb : (C != 0) = false := by simp [hz]
    have HZ := hide hz
    clear hTX hS hts hok hz
    go_wp2_with fail
    refine (unhide HTX).mono ?_
    rintro e w3 ⟨rfl, hb3⟩
    have HCL := hide (Clone_any S w3 (by unfold maxLen; omega) (by omega))
    have hb4 : Below w.heap.size w w3 := hb.trans (hb3.mono hb.size)
    have hs3 : w.heap.size ≤ w3.heap.size := hb4.size
    clear hb3
    go_wp2_with fail
    refine (unhide HCL).mono ?_
    rintro e w4 ⟨rfl, hb5⟩
    have hb6 : Below w.heap.size w w4 := hb4.trans (hb5.mono hs3)
    clear hb5
    go_wp2
    go_ret2
    exact ⟨Or.inr ⟨(unhide HC).symm.trans (unhide HZ), by rw [← unhide HS]; rfl⟩, hb6⟩
  · have hzb : (C != 0) = true := by simp [hz]
    have HZ := hide hz
    clear hz
    go_wp2
    go_ret2
    exact ⟨Or.inl ⟨by rw [← unhide HC]; exact unhide HZ, by rw [← unhide HC]; rfl⟩, hb⟩

set_option maxHeartbeats 4000000 in
set_option maxRecDepth 100000 in
theorem sameNotes_step (d : Nat) (IH : ∀ (d' : Nat) (ao bo : Option Addr) (ca cb : Nat) (l : List Nt) (w : World), isNts d w w.heap.size ao ca l → isNts d' w w.heap.size bo cb l →
      Calls Tryd.prog 6 #[.slice ao l.length ca, .slice bo l.length cb] w fun e w' => e = .returned (.bool true) ∧ ∃ n, w' = w.drewN n)
    (d' : Nat) (ao bo : Option Addr) (ca cb : Nat) (l : List Nt) (w : World) (h : isNts (d + 1) w w.heap.size ao ca l) (h' : isNts (d' + 1) w w.heap.size bo cb l) :
    Calls Tryd.prog 6 #[.slice ao l.length ca, .slice bo l.length cb] w fun e w' => e = .returned (.bool true) ∧ ∃ n, w' = w.drewN n := by
  obtain ⟨a1, a2, a3, a4⟩ := h
  obtain ⟨b1, b2, b3, b4⟩ := h'
  obtain ⟨m, hm⟩ : ∃ m, m = l.length := ⟨_, rfl⟩
  rw [← hm] at a1 b1 ⊢
  have HM := hide hm
  have HIH := hide IH
  have HA := hide a4
  have HB := hide b4
  unfold maxLen at a2 b2
  clear a4 b4 IH hm
  go_enter Tryd.func6, Tryd.ntmps6
  go_wp2
  go_loopw [5] (fun iv wr => ∃ i : Nat, iv = .int .i64 (i : Int) ∧ i ≤ m ∧ ∃ n, wr = w.drewN n) (fun iv _ => m - (intOf iv).toNat)
  case atStart => exact ⟨0, rfl, Nat.zero_le _, 0, rfl⟩
  case round =>
    obtain ⟨i, rfl, him, n, hdr⟩ := hrel
    have hb : Below w.heap.size w wr := by rw [hdr]; exact ⟨rfl, rfl, rfl, Nat.le_refl _, fun _ _ => rfl⟩
    have HDR := hide hdr
    clear hdr
    by_cases hlt : i < m
    · have hlti : (i : Int) < (m : Int) := by omega
      obtain ⟨t, ht⟩ : ∃ t, l[i]? = some t := ⟨_, List.getElem?_eq_getElem (by rw [← unhide HM]; exact hlt)⟩
      have hne : l ≠ [] := by intro e; rw [e] at ht; simp at ht
      obtain ⟨g, off, rfl, hg, hc⟩ := unhide HA hne
      obtain ⟨g', off', rfl, hg', hc'⟩ := unhide HB hne
      obtain ⟨-, -, no, nc, x0, x1, x2, x3⟩ := hc i t ht
      obtain ⟨-, -, no', nc', y0, y1, y2, y3⟩ := hc' i t ht
      have r0 : wr.cell? ⟨g, off + i * 3, none⟩ = some (.string t.mv) := (hb.cell (p := ⟨g, off + i * 3, none⟩) hg).trans x0
      have r1 : wr.cell? ⟨g, off + i * 3 + 1, none⟩ = some (.string t.cm) := (hb.cell (p := ⟨g, off + i * 3 + 1, none⟩) hg).trans x1
      have r2 : wr.cell? ⟨g, off + i * 3 + 2, none⟩ = some (.slice no t.nx.length nc) := (hb.cell (p := ⟨g, off + i * 3 + 2, none⟩) hg).trans x2
      have s0 : wr.cell? ⟨g', off' + i * 3, none⟩ = some (.string t.mv) := (hb.cell (p := ⟨g', off' + i * 3, none⟩) hg').trans y0
      have s1 : wr.cell? ⟨g', off' + i * 3 + 1, none⟩ = some (.string t.cm) := (hb.cell (p := ⟨g', off' + i * 3 + 1, none⟩) hg').trans y1
      have s2 : wr.cell? ⟨g', off' + i * 3 + 2, none⟩ = some (.slice no' t.nx.length nc') := (hb.cell (p := ⟨g', off' + i * 3 + 2, none⟩) hg').trans y2
      have HCA : Hid (∀ n, Calls Tryd.prog 6 #[.slice no t.nx.length nc, .slice no' t.nx.length nc'] (wr.drewN n) fun e w' => e = .returned (.bool true) ∧ ∃ m, w' = (wr.drewN n).drewN m) := by
        refine hide fun n => unhide HIH d' no no' nc nc' t.nx (wr.drewN n) ?_ ?_
        · exact isNts.up (B := w.heap.size) (B' := (wr.drewN n).heap.size) hb.size (isNts.below (w' := wr.drewN n) (B' := w.heap.size) ⟨hb.os, hb.tape, hb.output, hb.size, hb.block⟩ (Nat.le_refl _) _ _ _ _ x3)
        · exact isNts.up (B := w.heap.size) (B' := (wr.drewN n).heap.size) hb.size (isNts.below (w' := wr.drewN n) (B' := w.heap.size) ⟨hb.os, hb.tape, hb.output, hb.size, hb.block⟩ (Nat.le_refl _) _ _ _ _ y3)
      obtain ⟨MV, hMV⟩ : ∃ MV, MV = t.mv := ⟨_, rfl⟩
      obtain ⟨CM, hCM⟩ : ∃ CM, CM = t.cm := ⟨_, rfl⟩
      rw [← hMV] at r0 s0
      rw [← hCM] at r1 s1
      have hMM : (MV.toList != MV.toList) = false := by simp
      have hCC : (CM.toList != CM.toList) = false := by simp
      clear hb x0 x1 x2 x3 y0 y1 y2 y3 hc hc' ht hne hMV hCM
      go_upto_region 6 with fail
      go_quiet ((go_at_call 6; exact Calls.quiet_of (unhide HCA _)))
      go_wp2
      go_roundw
      case rel => exact ⟨i + 1, by go_num, by omega, _, by rw [unhide HDR, World.drewN_drewN]⟩
      case measure => simp only [intOf]; omega
    · have hlti : ¬ (i : Int) < (m : Int) := by omega
      go_wp2
      go_ret
      exact ⟨rfl, n, unhide HDR⟩
theorem isNts.some_up {d : Nat} {w : World} {B : Nat} {ao : Option Addr} {cap : Nat} (h : isNts d w B ao cap []) : isNts (d + 1) w B ao cap [] := by
  cases d with
  | zero => exact ⟨Nat.zero_le _, h.2.1, h.2.2, fun e => absurd rfl e⟩
  | succ d => exact ⟨h.1, h.2.1, h.2.2.1, fun e => absurd rfl e⟩
theorem sameNotes_nil (ao bo : Option Addr) (ca cb : Nat) (w : World) : Calls Tryd.prog 6 #[.slice ao 0 ca, .slice bo 0 cb] w fun e w' => e = .returned (.bool true) ∧ ∃ n, w' = w.drewN n := by
  go_enter Tryd.func6, Tryd.ntmps6
  go_wp2
  go_loopw [5] (fun iv wr => iv = .int .i64 0 ∧ wr = w) (fun _ _ => 0)
  case atStart => exact ⟨rfl, rfl⟩
  case round =>
    obtain ⟨rfl, rfl⟩ := hrel
    go_wp2
    go_ret
    exact ⟨rfl, 0, rfl⟩
theorem sameNotes_any : ∀ (d d' : Nat) (ao bo : Option Addr) (ca cb : Nat) (l : List Nt) (w : World), isNts d w w.heap.size ao ca l → isNts d' w w.heap.size bo cb l →
    Calls Tryd.prog 6 #[.slice ao l.length ca, .slice bo l.length cb] w fun e w' => e = .returned (.bool true) ∧ ∃ n, w' = w.drewN n
  | 0, d', ao, bo, ca, cb, l, w, h, h' => by
    obtain ⟨rfl, -⟩ := h
    exact sameNotes_nil ao bo ca cb w
  | d + 1, 0, ao, bo, ca, cb, l, w, h, h' => by
    obtain ⟨rfl, -⟩ := h'
    exact sameNotes_nil ao bo ca cb w
  | d + 1, d' + 1, ao, bo, ca, cb, l, w, h, h' => sameNotes_step d (sameNotes_any d) d' ao bo ca cb l w h h'
end Go.Proofs.YtdibjdpnleepmacDoor
