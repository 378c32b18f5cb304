/-
  package record, walked: Check.
-/
import Derived.Test.YtdibjdpnleepmacDoorN4
namespace Go.Proofs.YtdibjdpnleepmacDoor
open Go.RowKit
attribute [local go_sem ↓] Go.wp_at_zero Go.wp_at_succ

theorem valid_any (s : ByteArray) (u : World) (hs : s.size < 2000000) (hT : Lib.Utf8Tabs 0 1 u) : Calls Tryd.prog 36 #[.string s] u fun e u' => e = .returned (.bool (Lib.validD s.data.toList)) ∧ Below u.heap.size u u' :=
  Tryd.utf8_ValidString s u (by omega) hT
/-- What is found in a record. -/
def survey (d : Nat) (l : List Nt) : Sv := (svL d l 1 ⟨0, 0, false, 2147483647⟩).1
/-- Check's answer. -/
def chkI (d : Nat) (l : List Nt) : Int := if (survey d l).wr then 1 else if (survey d l).n > 1000 ∨ (survey d l).d > 50 then 2 else 0

set_option maxHeartbeats 1000000 in
set_option maxRecDepth 100000 in
theorem recCheck_any (d : Nat) (ao : Option Addr) (cap : Nat) (l : List Nt) (w : World) (hN : isNts d w w.heap.size ao cap l) (hT : Lib.Utf8Tabs 0 1 w) :
    Calls Tryd.prog 10 #[.slice ao l.length cap] w fun e w' => e = .returned (.int .i64 (chkI d l)) ∧ Below w.heap.size w w' := by
  obtain ⟨wa, hwa⟩ : ∃ wa, wa = w.alloc (.cells #[.int .i64 0, .int .i64 0, .bool false, .int .i64 2147483647] 54 (0, 0)) := ⟨_, rfl⟩
  have hb0 : Below w.heap.size w wa := by rw [hwa]; exact (Below.refl _ w).alloc (Nat.le_refl _) _
  have hS0 : isSv wa w.heap.size ⟨0, 0, false, 2147483647⟩ := by rw [hwa]; exact heap_alloc_new w _
  have hls := list_any valid_any d w.heap.size ao cap l 1 ⟨0, 0, false, 2147483647⟩ wa (isNts.below hb0 (Nat.le_refl _) d ao cap l hN) hS0 (fun u hu => Utf8Tabs_below hT (hb0.trans hu)) (by simp) (by simp) (by simp) (by simp) (by simp) (by simp) (by simp)
  have hcs : (svL d l 1 ⟨0, 0, false, 2147483647⟩).1 = survey d l := rfl
  obtain ⟨C, hC⟩ : ∃ C, C = chkI d l := ⟨_, rfl⟩
  rw [← hC]
  unfold chkI at hC
  obtain ⟨r, hr⟩ : ∃ r, r = svL d l 1 ⟨0, 0, false, 2147483647⟩ := ⟨_, rfl⟩
  rw [← hr] at hls hcs
  rw [← hcs] at hC
  have HLS := hide hls
  have HC := hide hC
  have HB0 := hide hb0
  have HWA := hide hwa
  clear hls hcs hr hC hb0 hwa hS0 hN hT
  go_enter Tryd.func10, Tryd.ntmps10
  go_upto_region 2 with fail
  rw [← unhide HWA]
  go_wp2_with fail
  refine (unhide HLS).mono ?_
  rintro e w2 ⟨rfl, hS2, hb2⟩
  have hb3 : Below w.heap.size w w2 := (unhide HB0).trans hb2
  obtain ⟨⟨a0, a1, a2, a3⟩, -⟩ := hS2.all
  obtain ⟨q, hq⟩ : ∃ q, q = r.1 := ⟨_, rfl⟩
  rw [← hq] at a0 a1 a2 a3
  have HQ := hide hq
  clear hq hS2 hb2
  cases hwr : q.wr with
  | true =>
    have hCe : C = 1 := by rw [unhide HC, ← unhide HQ, if_pos hwr]
    have HCE := hide hCe
    rw [hwr] at a2
    clear hCe hwr
    go_wp2
    go_ret
    exact ⟨by rw [unhide HCE]; rfl, hb3⟩
  | false =>
    have hCe : C = if q.n > 1000 ∨ q.d > 50 then 2 else 0 := by rw [unhide HC, ← unhide HQ, if_neg (by rw [hwr]; simp)]
    have HCE := hide hCe
    rw [hwr] at a2
    have HCK := hide (sizeCheck_any w.heap.size 0 q.n q.d w2 a0 a1)
    rw [← hCe] at HCK
    clear hCe hwr
    go_wp2_with fail
    refine (unhide HCK).mono ?_
    rintro e w3 ⟨rfl, rfl⟩
    go_wp2
    go_ret
    exact ⟨rfl, hb3⟩
end Go.Proofs.YtdibjdpnleepmacDoor
