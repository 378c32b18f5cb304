/-
  package record, walked: the reader's next.
-/
import Derived.Test.YtdibjdpnleepmacDoorN11
namespace Go.Proofs.YtdibjdpnleepmacDoor
open Go.RowKit
attribute [local go_sem ↓] Go.wp_at_zero Go.wp_at_succ

theorem isRe.here {w : World} {g : Nat} {x : Re} (h : isRe w g x) (a b c : Int) (o : Bool) : isRe ((((w.setCell ⟨g, 5, none⟩ (.int .i64 a)).setCell ⟨g, 6, none⟩ (.int .i64 b)).setCell ⟨g, 7, none⟩ (.int .i64 c)).setCell ⟨g, 8, none⟩ (.bool o)) g { x with main := a, deep := b, of_ := c, others := o } := by
  unfold isRe at h ⊢; simp [World.setCell, Array.getElem?_modify, h]
theorem below_here {w0 w : World} {g B : Nat} (h : Bb g B w0 w) (u0 u1 u2 u3 : Value) : Bb g B w0 ((((w.setCell ⟨g, 5, none⟩ u0).setCell ⟨g, 6, none⟩ u1).setCell ⟨g, 7, none⟩ u2).setCell ⟨g, 8, none⟩ u3) :=
  (((h.put 5 _).put 6 _).put 7 _).put 8 _
/-- What next leaves. -/
structure NextEnd (g B : Nat) (x : Re) (E : List En) (O : List Pl) (w : World) (e : Ending) (w' : World) : Prop where
  ex : (∃ a, x.noteF = .error a ∧ e = fltP a) ∨ (∃ y mv cm v, x.noteF = .ok (y, mv, cm) ∧ e = .returned (.tuple #[]) ∧ RSt w' g B { y.count (x.deep + 1) with kept := v, main := x.n, deep := x.deep + 1, of_ := x.main, others := true } (if x.n < 1000 then E ++ [⟨mv, cm, x.main⟩] else E) O)
  low : Bb g B w w'

set_option maxHeartbeats 2000000 in
set_option maxRecDepth 100000 in
theorem next_any (g B : Nat) (x : Re) (E : List En) (O : List Pl) (w : World) (h : RSt w g B x E O) (h2 : 2 ≤ g) (hT : Lib.Utf8Tabs 0 1 w) (ha : 0 ≤ x.at_ ∧ x.at_ + (x.rest.size : Int) ≤ 4000000) (hn : 0 ≤ x.n ∧ x.n ≤ 4000000) (hd : 0 ≤ x.deep ∧ x.deep ≤ 4000000) (hE : E.length ≤ 4000000) :
    Calls Tryd.prog 22 #[.pointer (some ⟨g, 0, none⟩)] w fun e w' => NextEnd g B x E O w e w' := by
  obtain ⟨-, -, -, -, -, c5, c6, -⟩ := h.re.cells
  obtain ⟨K, hK⟩ : ∃ K, x.deep + 1 = K := ⟨_, rfl⟩
  obtain ⟨M, hM⟩ : ∃ M, M = x.main := ⟨_, rfl⟩
  obtain ⟨D, hD⟩ : ∃ D, D = x.deep := ⟨_, rfl⟩
  rw [← hM] at c5
  rw [← hD] at c6 hK hd
  have hwK : IntKind.i64.wrap K = K := by unfold IntKind.wrap; simp [IntKind.signed, IntKind.bits]; omega
  have hrd : ∀ n, RSt (w.drewN n) g B x E O := fun n => ⟨h.re, h.kept, h.open_, h.hB⟩
  have htd : ∀ n, Lib.Utf8Tabs 0 1 (w.drewN n) := fun n => hT
  have HNT := hide (fun n => note_any g B x E O M K (w.drewN n) (hrd n) h2 (htd n) ha hn hE)
  have HM := hide hM
  have HK : Hid (x.deep + 1 = K) := hide (by rw [← hD]; exact hK)
  clear h hT hM hD hrd htd
  go_enter Tryd.func22, Tryd.ntmps22
  go_wp2
  go_quiet (fail)
  go_wp2_with fail
  refine (unhide HNT _).mono ?_
  rintro e w2 ⟨hex, hlow'⟩
  have hlow : Bb g B w w2 := ⟨hlow'.os, hlow'.tape, hlow'.output, hlow'.size, hlow'.block⟩
  clear hlow'
  rcases hex with ⟨a, hNe, rfl⟩ | ⟨y, mv, cm, v, hNo, rfl, hrs⟩
  · have HNE := hide hNe
    clear hNe
    unfold fltP
    go_wp2
    simp only [bodyPost, true_and]
    exact ⟨Or.inl ⟨_, unhide HNE, rfl⟩, hlow⟩
  · have hre := hrs.re
    have hfin := hre.here x.n K M true
    obtain ⟨-, -, -, -, -, d5, d6, d7, d8, -⟩ := hre.cells
    have f5 := hre.frozen 5
    have f6 := hre.frozen 6
    have f7 := hre.frozen 7
    have f8 := hre.frozen 8
    have HNO := hide hNo
    have HRS := hide hrs
    have HFIN := hide hfin
    obtain ⟨q5, d5⟩ : ∃ q, w2.cell? ⟨g, 5, none⟩ = some q := ⟨_, d5⟩
    obtain ⟨q6, d6⟩ : ∃ q, w2.cell? ⟨g, 6, none⟩ = some q := ⟨_, d6⟩
    obtain ⟨q7, d7⟩ : ∃ q, w2.cell? ⟨g, 7, none⟩ = some q := ⟨_, d7⟩
    obtain ⟨q8, d8⟩ : ∃ q, w2.cell? ⟨g, 8, none⟩ = some q := ⟨_, d8⟩
    clear hNo hrs hre hfin c5 c6
    go_wp2
    go_end0
    refine ⟨Or.inr ⟨y, mv, cm, v, unhide HNO, rfl, ?_⟩, below_here hlow _ _ _ _⟩
    rw [← unhide HM, unhide HK]
    have hgB := (unhide HRS).hB
    refine ⟨unhide HFIN, row_keep (unhide HRS).kept (fun k hk _ => by rw [Below.heap_setCell _ _ _ _ (by simp only; omega), Below.heap_setCell _ _ _ _ (by simp only; omega), Below.heap_setCell _ _ _ _ (by simp only; omega), Below.heap_setCell _ _ _ _ (by simp only; omega)]), row_keep (unhide HRS).open_ (fun k hk _ => by rw [Below.heap_setCell _ _ _ _ (by simp only; omega), Below.heap_setCell _ _ _ _ (by simp only; omega), Below.heap_setCell _ _ _ _ (by simp only; omega), Below.heap_setCell _ _ _ _ (by simp only; omega)]), hgB.1, ?_⟩
    rw [size_put, size_put, size_put, size_put]
    exact hgB.2
end Go.Proofs.YtdibjdpnleepmacDoor
