/-
  package record, walked: the reader's fail, take.
-/
import Derived.Test.YtdibjdpnleepmacDoorN7
namespace Go.Proofs.YtdibjdpnleepmacDoor
open Go.RowKit
attribute [local go_sem ↓] Go.wp_at_zero Go.wp_at_succ

set_option maxHeartbeats 1000000 in
theorem fail_any (g : Nat) (x : Re) (w : World) (h : isRe w g x) :
    Calls Tryd.prog 25 #[.pointer (some ⟨g, 0, none⟩)] w fun e w' => e = .panicked [{ v := .iface 25 (.agg #[.int .i64 3, .int .i64 x.at_]), recovered := false }] ∧ w' = w := by
  obtain ⟨-, c1, -⟩ := h.cells
  clear h
  go_enter Tryd.func25, Tryd.ntmps25
  go_wp2
  simp [bodyPost]
/-- A panic with a syntax error at rune a. -/
def fltP (a : Int) : Ending := .panicked [{ v := .iface 25 (.agg #[.int .i64 3, .int .i64 a]), recovered := false }]
structure TakeEnd (g : Nat) (c : Int) (x : Re) (w : World) (e : Ending) (w' : World) : Prop where
  ex : (pkR x.rest = c ∧ e = .returned (.tuple #[]) ∧ isRe w' g x.on) ∨ (pkR x.rest ≠ c ∧ e = fltP x.at_)
  bu : Bu g w w'

set_option maxHeartbeats 1000000 in
set_option maxRecDepth 100000 in
theorem take_any (g : Nat) (c : Int) (x : Re) (w : World) (h : isRe w g x) (hT : Lib.Utf8Tabs 0 1 w) (hc : 0 ≤ c ∧ c < 128) (ha : 0 ≤ x.at_ ∧ x.at_ ≤ 4000000) :
    Calls Tryd.prog 35 #[.pointer (some ⟨g, 0, none⟩), .int .i32 c] w fun e w' => TakeEnd g c x w e w' := by
  have hpk := peek_any g x w h hT
  obtain ⟨P, hP⟩ : ∃ P, P = pkR x.rest := ⟨_, rfl⟩
  rw [← hP] at hpk
  have HPK := hide hpk
  have HX := hide h
  have HT := hide hT
  have hg := h.lt
  clear hpk h hT
  go_enter Tryd.func35, Tryd.ntmps35
  go_wp2_with fail
  refine (unhide HPK).mono ?_
  rintro e w2 ⟨rfl, hb2⟩
  have hx2 := (unhide HX).below hb2 hg
  have ht2 := Utf8Tabs_below (unhide HT) hb2
  have HB2 : Hid (Bu g w w2) := hide (Bu.of hb2)
  clear hb2
  by_cases hPc : P = c
  · obtain ⟨k1, k2⟩ := pk_ascii x.rest (by omega) (by omega)
    have HST := hide (step_any g x w2 hx2 ht2 (by omega) ha)
    have hne : (P != c) = false := by simp [hPc]
    have HPC := hide (hP.symm.trans hPc)
    clear hx2 ht2 hPc hP
    go_wp2_with fail
    refine (unhide HST).mono ?_
    rintro e w3 ⟨rfl, hr3, hb3⟩
    have hb4 := (unhide HB2).trans hb3
    go_wp2
    go_end0
    exact ⟨Or.inl ⟨unhide HPC, rfl, hr3⟩, hb4⟩
  · have HF := hide (fail_any g x w2 hx2)
    have hne : (P != c) = true := by simp [hPc]
    have HPC : Hid (pkR x.rest ≠ c) := hide (by rw [← hP]; exact hPc)
    clear hx2 ht2 hPc hP
    go_wp2_with fail
    refine (unhide HF).mono ?_
    rintro e w3 ⟨rfl, rfl⟩
    go_wp2
    simp only [bodyPost, true_and]
    exact ⟨Or.inr ⟨unhide HPC, rfl⟩, unhide HB2⟩
end Go.Proofs.YtdibjdpnleepmacDoor
