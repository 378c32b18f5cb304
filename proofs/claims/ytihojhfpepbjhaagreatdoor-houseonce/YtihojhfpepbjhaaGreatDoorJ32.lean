/-
  Rules that were copied: they stay whatever comes of a house below them.
  A house: messages that come again change nothing.
-/
import Derived.Test.YtihojhfpepbjhaaGreatDoorHoI
import Derived.Test.YtihojhfpepbjhaaGreatDoorJ23
namespace Go.Proofs.YtihojhfpepbjhaaGreatDoor
open Go.RowKit

theorem isPcs_from {base : Nat} {v x : World} {ao : Option Addr} {cap : Nat} {ps : List Pc} (h : isPcs v ao cap ps) (hf : PcsFrom base v ao ps) (hs : v.heap.size ≤ x.heap.size) (hb : ∀ k, base ≤ k → k < v.heap.size → x.heap[k]? = v.heap[k]?) : isPcs x ao cap ps := by
  refine ⟨h.le, h.mx, h.nil, fun hne => ?_⟩
  obtain ⟨g, off, e, hg, hc⟩ := h.cells hne
  refine ⟨g, off, e, by omega, fun i p hp => ?_⟩
  obtain ⟨hl, wo, wc, c0, c1, c2, c3⟩ := hc i p hp
  obtain ⟨g', wo', wc', e', hbg, k2, hfr⟩ := hf i p hp
  rw [e] at e'
  injection e' with e'
  injection e' with e1 e2
  subst e1 e2
  have hk : ∀ j, x.cell? ⟨g, j, none⟩ = v.cell? ⟨g, j, none⟩ := fun j => by
    have := hb g hbg hg
    simp only [World.cell?]
    rw [this]
  have hw : wo = wo' := by
    rw [Nat.zero_add] at c2
    rw [c2] at k2
    injection k2 with k2
    injection k2
  refine ⟨hl, wo, wc, (hk _).trans c0, (hk _).trans c1, (hk _).trans c2, c3.of_block hs fun hne2 a ha => ?_⟩
  exact hb a.block (hfr a (hw ▸ ha)) (c3.far hne2 ha)
/-- The world, as far as its first blocks go. -/
def cutW (b : Nat) (u : World) : World := { u with heap := u.heap.extract 0 b }
theorem cutW_at {b : Nat} {u : World} {k : Nat} (hk : k < b) : (cutW b u).heap[k]? = u.heap[k]? := by
  unfold cutW
  simp only [Array.getElem?_extract, Nat.zero_add, Nat.sub_zero]
  by_cases h : k < u.heap.size
  · rw [if_pos (by omega)]
  · rw [if_neg (by omega), Array.getElem?_eq_none (by omega)]
theorem cutW_size {b : Nat} {u : World} (h : b ≤ u.heap.size) : (cutW b u).heap.size = b := by
  unfold cutW
  simp
  omega
theorem cutW_below {b : Nat} {u : World} (h : b ≤ u.heap.size) : Below b (cutW b u) u := ⟨rfl, rfl, rfl, by rw [cutW_size h]; exact h, fun _ hk => (cutW_at hk).symm⟩
section
variable {s : Po} {ps : List Pc} {dr st : Bool} {lo re : Nat} {li pl : Int}
/-- What is known of moves and board for the later of two houses, whatever came of the elder one. -/
theorem hc_later {ao : Option Addr} {cap ba base bb : Nat} {w0 v u : World} (hv : v.heap.size = bb) (h : isPcs v ao cap ps) (hf : PcsFrom base v ao ps) (hba : ba < base) (hbu : bb ≤ u.heap.size) (hx : Ex ba bb v u) (hw : Below w0.heap.size w0 u) (h0 : w0.heap.size ≤ bb) (hsz : s.C.size ≤ maxLen ∧ s.A.size ≤ maxLen ∧ s.B.size ≤ maxLen) (hlo : lo < 256) (hre : re < 256) (mx : Int) (hm : w0.cell? ⟨0, 0, none⟩ = some (.int .i64 mx)) (ht : isTab w0) :
    Hc (gmP ps dr st lo li re pl) (OkP s.W s.H s.T s.C.data.toList s.A.data.toList s.B.data.toList ps lo re li pl) txtP bb (cutW bb u) (.int .i64 s.W) (.int .i64 s.H) (.string s.C) (.int .i64 s.T) (.string s.A) (.string s.B) (.slice ao ps.length cap) (.bool dr) (.int .u8 (lo : Int)) (.int .i64 li) (.int .u8 (re : Int)) (.bool st) := by
  have hlow : Below w0.heap.size w0 (cutW bb u) := ⟨hw.os, hw.tape, hw.output, by rw [cutW_size hbu]; exact h0, fun k hk => (cutW_at (by omega)).trans (hw.block k hk)⟩
  refine hc_of ao cap bb (cutW bb u) (cutW_size hbu) (isPcs_from h hf (by rw [cutW_size hbu, hv]; exact Nat.le_refl _) fun k h1 h2 => ?_) hsz hlo hre mx ((hlow.cell (p := ⟨0, 0, none⟩) (World.block_lt_of_cell? w0 ⟨0, 0, none⟩ hm)).trans hm) (tab_below ht hlow (Nat.le_refl _))
  exact (cutW_at (by omega)).trans (hx.block k (by omega) (by omega))
end
end Go.Proofs.YtihojhfpepbjhaaGreatDoor

namespace Go.Proofs.YtihojhfpepbjhaaGreatDoor
open Go.RowKit

theorem step_over {G : Gm} {x : Ho} {m : Ms} (h : G.ended x ≠ 0) : G.step x m = (x, 5) := by
  unfold Gm.step
  rw [if_pos h]
theorem run_over {G : Gm} : ∀ (l : List Ms) {x : Ho}, G.ended x ≠ 0 → G.run x l = x
  | [], _, _ => rfl
  | m :: l, x, h => by
    show G.run (G.step x m).1 l = x
    rw [step_over h]
    exact run_over l h
theorem go_now (x : Ho) (a : Int) : x.now ≤ (x.go a).now ∧ a ≤ (x.go a).now := by
  unfold Ho.go
  split
  · split <;> (dsimp only; omega)
  · omega
theorem step_now {G : Gm} {x : Ho} {m : Ms} (h : G.ended x = 0) : x.now ≤ (G.step x m).1.now ∧ m.at_ ≤ (G.step x m).1.now := by
  have hg := go_now x m.at_
  unfold Gm.step
  rw [if_neg (by simp [h])]
  split
  · exact hg
  split
  · exact hg
  split
  · exact hg
  split <;> exact hg
theorem run_now {G : Gm} : ∀ (l : List Ms) {x : Ho}, G.ended (G.run x l) = 0 → x.now ≤ (G.run x l).now ∧ ∀ m ∈ l, m.at_ ≤ (G.run x l).now
  | [], _, _ => ⟨Int.le_refl _, fun m hm => by cases hm⟩
  | q :: l, x, h => by
    have hx : G.ended x = 0 := Classical.byContradiction fun hn => by
      rw [run_over (q :: l) hn] at h
      exact hn h
    have h2 : G.ended (G.run (G.step x q).1 l) = 0 := h
    obtain ⟨a1, a2⟩ := run_now l h2
    obtain ⟨b1, b2⟩ := step_now (m := q) hx
    refine ⟨Int.le_trans b1 a1, fun m hm => ?_⟩
    rcases List.mem_cons.1 hm with rfl | hm
    · exact Int.le_trans b2 a1
    · exact a2 m hm
/-- A message that was taken comes again, to a move that is made. -/
theorem once {G : Gm} {ok : Po → Prop} {x : Ho} {l : List Ms} (hI : HoI G ok (G.run x l)) {m : Ms} (hm : m ∈ l) (hp : m.ply ≠ (G.run x l).ply) : (G.step (G.run x l) m).1 = G.run x l := by
  by_cases he : G.ended (G.run x l) = 0
  · have hn := (run_now l he).2 m hm
    have hf := ended_flag he hI.flag.1
    have hl := hI.live hf
    generalize G.run x l = X at *
    have hg : X.go m.at_ = X := by unfold Ho.go; rw [if_neg (by omega)]
    have hL : ¬ X.left < 0 := by unfold Ho.left; split <;> omega
    unfold Gm.step
    rw [if_neg (by simp [he]), hg, if_neg hL, if_pos hp]
  · rw [step_over he]
end Go.Proofs.YtihojhfpepbjhaaGreatDoor
