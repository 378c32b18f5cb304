/-
  package record, walked: the reader's whole: a panic that is recovered.
-/
import Derived.Test.YtdibjdpnleepmacDoorN15
import Derived.Recover
namespace Go.Proofs.YtdibjdpnleepmacDoor
open Go.RowKit
attribute [local go_sem ↓] Go.wp_at_zero Go.wp_at_succ

/-- A fault in a box. -/
def isFb (w : World) (b : Nat) (c a : Int) : Prop := w.heap[b]? = some (.cells #[.int .i64 c, .int .i64 a] 25 (0, 0))
theorem isFb.all {w : World} {b : Nat} {c a : Int} (h : isFb w b c a) : w.cell? ⟨b, 0, none⟩ = some (.int .i64 c) ∧ w.cell? ⟨b, 1, none⟩ = some (.int .i64 a) ∧ w.frozen? ⟨b, 0, none⟩ = false ∧ w.frozen? ⟨b, 1, none⟩ = false := by
  unfold isFb at h; simp [World.cell?, World.frozen?, h]
theorem isFb.set {w : World} {b : Nat} {c a : Int} (h : isFb w b c a) (c' a' : Int) : isFb ((w.setCell ⟨b, 0, none⟩ (.int .i64 c')).setCell ⟨b, 1, none⟩ (.int .i64 a')) b c' a' := by
  unfold isFb at h ⊢; simp [World.setCell, Array.getElem?_modify, h]

set_option maxHeartbeats 1000000 in
theorem catch_flt (b : Nat) (a : Int) (w : World) (h : isFb w b 0 0) :
    CallsD Tryd.prog 13 #[.pointer (some ⟨b, 0, none⟩)] (.panicking [{ v := .iface 25 (.agg #[.int .i64 3, .int .i64 a]), recovered := false }]) w fun e u' w' =>
      e = .returned (.tuple #[]) ∧ u' = .panicking [{ v := .iface 25 (.agg #[.int .i64 3, .int .i64 a]), recovered := true }] ∧ w' = (w.setCell ⟨b, 0, none⟩ (.int .i64 3)).setCell ⟨b, 1, none⟩ (.int .i64 a) := by
  obtain ⟨c0, c1, f0, f1⟩ := h.all
  clear h
  have hta : ∀ (t : TypeId) (w : World), (Instr.typeAssert (.iface 25 (.agg #[.int .i64 3, .int .i64 a])) t 25 false).run Tryd.prog w = .ok (.agg #[.int .i64 3, .int .i64 a]) w := fun t w => by rfl
  refine callsD_of_wpS Tryd.func13 rfl fun c₀ cs hu => ?_
  apply wpS_seq
  apply wpS_region
  simp [wpOpsS, go_sem, recoverD, hu, Tryd.ntmps13, Exit.thenS]
  apply wpS_seq
  apply wpS_region
  simp [wpOpsS, go_sem, Exit.thenS]
  refine wpS_cond (t := true) (by simp [Act.eval, Array.replicate]) ?_
  simp only [if_true]
  apply wpS_region
  simp [wpOpsS, go_sem, hta, c0, c1, f0, f1, bodyPostS, results, Tryd.results13]
set_option maxHeartbeats 1000000 in
theorem catch_idle (b : Nat) (w : World) :
    CallsD Tryd.prog 13 #[.pointer (some ⟨b, 0, none⟩)] .returning w fun e u' w' => e = .returned (.tuple #[]) ∧ u' = .returning ∧ w' = w := by
  refine callsD_of_wpS Tryd.func13 rfl fun c₀ cs hu => ?_
  apply wpS_seq
  apply wpS_region
  simp [wpOpsS, go_sem, recoverD, hu, Tryd.ntmps13, Exit.thenS]
  apply wpS_seq
  apply wpS_region
  simp [wpOpsS, go_sem, Exit.thenS]
  refine wpS_cond (t := false) (by simp [Act.eval, Array.replicate]) ?_
  simp only [Bool.false_eq_true, if_false]
  refine wpS_of_wp (wp_skip ?_)
  cases c₀
  simp_all [bodyPostS, results, Tryd.results13]
structure WholeEnd (g : Nat) (s : Ps) (w : World) (e : Ending) (w' : World) : Prop where
  ex : (∃ a, whole s = .error a ∧ e = .returned (.agg #[.int .i64 3, .int .i64 a])) ∨ (∃ s1 : Ps, whole s = .ok (s1.E, s1.d) ∧ e = .returned (.agg #[.int .i64 0, .int .i64 0]) ∧ RP w' g (w.heap.size + 1) s1 ∧ Bd 1200000 s1)
  low : Bb g w.heap.size w w'
theorem RP.rest {w : World} {g B : Nat} {s : Ps} (h : RP w g B s) : restSize w g = s.c.1.length := by
  obtain ⟨v, v2, hr⟩ := h
  rw [hr.re.rest]
  exact size_ofL _
theorem Bb.mono {g B B' : Nat} {w w' : World} (h : Bb g B w w') (hB : B' ≤ B) : Bb g B' w w' := ⟨h.os, h.tape, h.output, h.size, fun k hk hn => h.block k (Nat.lt_of_lt_of_le hk hB) hn⟩
theorem Bb.far {g B b i : Nat} {w w' : World} (h : Bb g B w w') (v : Value) (hb : B ≤ b) : Bb g B w (w'.setCell ⟨b, i, none⟩ v) :=
  ⟨h.os, h.tape, h.output, by rw [size_put]; exact h.size, fun k hk hn => (Below.heap_setCell _ _ _ _ (by simp only; omega)).trans (h.block k hk hn)⟩
theorem Bb.drewN {g B n : Nat} {w w' : World} (h : Bb g B w w') : Bb g B w (w'.drewN n) := ⟨h.os, h.tape, h.output, h.size, h.block⟩
theorem isFb.bb {g B b : Nat} {w w' : World} {c a : Int} (h : isFb w b c a) (hb : Bb g B w w') (h1 : b < B) (h2 : b ≠ g) : isFb w' b c a := by
  unfold isFb at h ⊢; rw [hb.block b h1 h2]; exact h
theorem RP.box {w : World} {g B b i : Nat} {s : Ps} (h : RP w g B s) (v : Value) (h1 : b < B) (h2 : b ≠ g) : RP (w.setCell ⟨b, i, none⟩ v) g B s := by
  obtain ⟨a, a2, h3, h4, h5, h6⟩ := h
  refine ⟨a, a2, h3.out v h2, row_keep h4 (fun k hk _ => Below.heap_setCell _ _ _ _ (by simp only; omega)), row_keep h5 (fun k hk _ => Below.heap_setCell _ _ _ _ (by simp only; omega)), h6.1, by rw [size_put]; exact h6.2⟩
theorem whole_end {s : Ps} (h : partL s = .ok none) : whole s = .ok (s.E, s.d) := by
  unfold whole; rw [wholeL, h]
theorem whole_bad {s : Ps} {a : Int} (h : partL s = .error a) : whole s = .error a := by
  unfold whole; rw [wholeL, h]
theorem Bd.skp {M : Int} {s : Ps} (h : Bd M s) : Bd M { s with c := skp s.c } := by
  have := skp_at s.c
  obtain ⟨q1, q2, q3, qd, q4, q5, q6⟩ := h
  exact ⟨by simp only; omega, by simp only; omega, by simp only; omega, qd, q4, q5, q6⟩
theorem RP.start {w : World} {g B : Nat} (l : List UInt8) (h : isRe w g ((Ps.start l).re (.slice none 0 0) (.slice none 0 0))) (h1 : g < B) (h2 : B ≤ w.heap.size) : RP w g B (.start l) :=
  ⟨_, _, h, ⟨rfl, .inl ⟨rfl, rfl⟩⟩, ⟨rfl, .inl ⟨rfl, rfl⟩⟩, h1, h2⟩

set_option maxHeartbeats 2000000 in
set_option maxRecDepth 100000 in
theorem whole_any (g : Nat) (l : List UInt8) (w : World) (h : isRe w g ((Ps.start l).re (.slice none 0 0) (.slice none 0 0))) (h2 : 2 ≤ g) (hT : Lib.Utf8Tabs 0 1 w) (hl : (l.length : Int) ≤ 1200000) :
    Calls Tryd.prog 7 #[.pointer (some ⟨g, 0, none⟩)] w fun e w' => WholeEnd g (.start l) w e w' := by
  have hmf : ∀ (fn : Fn) (first cap : Array Value) (w : World), (Instr.makeFunc fn first cap).run Tryd.prog w = .ok (.func fn first cap) w := fun _ _ _ _ => rfl
  have hgw := h.lt
  obtain ⟨wa, hwa⟩ : ∃ wa, wa = w.alloc (.cells #[.int .i64 0, .int .i64 0] 25 (0, 0)) := ⟨_, rfl⟩
  have hba : Below w.heap.size w wa := by rw [hwa]; exact (Below.refl _ _).alloc (Nat.le_refl _) _
  have hsz : wa.heap.size = w.heap.size + 1 := by rw [hwa]; simp
  have hfb : isFb wa w.heap.size 0 0 := by rw [hwa]; exact heap_alloc_new w _
  have hrp : RP wa g (w.heap.size + 1) (.start l) := RP.start l (h.below hba hgw) (by omega) (by omega)
  have hta : Lib.Utf8Tabs 0 1 wa := Utf8Tabs_below hT hba
  have HRP := hide hrp
  have HT := hide hta
  have HWA := hide hwa
  have HBA : Hid (Bb g w.heap.size w wa) := hide (Bb.of hba)
  have HFB := hide hfb
  have HBD := hide (Bd.start l 1200000 hl)
  have hne : w.heap.size ≠ g := by omega
  clear hrp hta hba hfb hT h hl
  go_enter_defers Tryd.func7, Tryd.ntmps7
  go_wp2
  rw [← hwa]
  clear hwa HWA
  go_loopw [] (fun wr => ∃ s1 : Ps, RP wr g (w.heap.size + 1) s1 ∧ Hid (whole (.start l) = whole s1) ∧ Bd 1200000 s1 ∧ isFb wr w.heap.size 0 0 ∧ Bb g w.heap.size w wr ∧ Lib.Utf8Tabs 0 1 wr) (fun wr => restSize wr g)
  case atStart => exact ⟨_, unhide HRP, hide rfl, unhide HBD, unhide HFB, unhide HBA, unhide HT⟩
  case round =>
    obtain ⟨s1, hrp, HW, hbd, hfb, hbb, htr⟩ := hrel
    have HPT := hide (part_any g (w.heap.size + 1) s1 wr hrp h2 htr hbd)
    have hms := hrp.rest
    have HMS := hide hms
    have HFBr := hide hfb
    have HBBr := hide hbb
    have HBDr := hide hbd
    have HTr := hide htr
    clear hrp hbd hfb hbb htr hms HRP HBD HFB HBA HT
    go_wp2_with fail
    refine (unhide HPT).mono ?_
    rintro e w2 ⟨hex, hlow⟩
    have hfb2 := (unhide HFBr).bb hlow (by omega) hne
    have hbb2 := (unhide HBBr).trans (hlow.mono (Nat.le_succ _))
    have ht2 := Utf8Tabs_low (unhide HTr) (hlow.low (by omega)) h2
    rcases hex with ⟨a, hpe, rfl⟩ | ⟨hpn, rfl, hrp2⟩ | ⟨s2, hps, rfl, hrp2⟩
    · have HPE : Hid (whole (.start l) = .error a) := hide (by rw [unhide HW]; exact whole_bad hpe)
      have HFB2 := hide hfb2
      have HBB2 := hide hbb2
      clear hpe hfb2 hbb2 ht2 hlow
      unfold fltP
      go_wp2
      refine leaves_cons (f := 13) (args := #[.pointer (some ⟨w.heap.size, 0, none⟩)]) (by simp) (by simp [go_sem]) ?_
      refine (catch_flt w.heap.size a _ (unhide HFB2)).mono ?_
      rintro e u' w3 ⟨rfl, rfl, rfl⟩
      obtain ⟨d0, d1, -, -⟩ := ((unhide HFB2).set 3 a).all
      simp [Leaves, settle, results, Tryd.results7, go_sem, d0, d1]
      exact ⟨Or.inl ⟨a, unhide HPE, rfl⟩, ((unhide HBB2).far _ (Nat.le_refl _)).far _ (Nat.le_refl _)⟩
    · have HPE : Hid (whole (.start l) = .ok (s1.E, s1.d)) := hide (by rw [unhide HW]; exact whole_end hpn)
      obtain ⟨d0, d1, f0, f1⟩ := hfb2.all
      have HFB2 := hide hfb2
      have HBB2 := hide hbb2
      have HRP2 := hide hrp2
      clear hpn hfb2 hbb2 ht2 hlow hrp2
      go_wp2
      refine leaves_cons (f := 13) (args := #[.pointer (some ⟨w.heap.size, 0, none⟩)]) (by simp) (by simp [go_sem]) ?_
      refine (catch_idle w.heap.size _).mono ?_
      rintro e u' w3 ⟨rfl, rfl, rfl⟩
      obtain ⟨g0, g1, -, -⟩ := ((unhide HFB2).set 0 0).all
      simp [Leaves, settle, results, Tryd.results7, go_sem, g0, g1]
      exact ⟨Or.inr ⟨{ s1 with c := skp s1.c }, unhide HPE, rfl, ((unhide HRP2).box _ (Nat.lt_succ_self _) hne).box _ (Nat.lt_succ_self _) hne, (unhide HBDr).skp⟩, ((unhide HBB2).far _ (Nat.le_refl _)).far _ (Nat.le_refl _)⟩
    · have hW2 : whole (.start l) = whole s2 := by rw [unhide HW]; exact whole_step hps
      have hpl := part_len s1 s2 hps
      have HW2 := hide hW2
      have hbd2 := part_bd s1 s2 (unhide HBDr) hps
      have hms2 := hrp2.rest
      clear hps hW2 hlow
      go_wp2
      go_roundw
      case rel => exact ⟨s2, hrp2, HW2, hbd2, hfb2, hbb2, ht2⟩
      case measure => rw [hms2, unhide HMS]; exact hpl
end Go.Proofs.YtdibjdpnleepmacDoor
