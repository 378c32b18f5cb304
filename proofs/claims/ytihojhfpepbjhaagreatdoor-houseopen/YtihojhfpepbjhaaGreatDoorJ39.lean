/-
  Rules that were copied: they stay whatever comes of a house below them.
  A house: messages that come again change nothing.
-/
import Derived.Test.YtihojhfpepbjhaaGreatDoorHoI
import Derived.Test.YtihojhfpepbjhaaGreatDoorHo1
namespace Go.Proofs.YtihojhfpepbjhaaGreatDoor
open Go.RowKit

section
variable {s : Po} {ps : List Pc} {dr st : Bool} {lo re : Nat} {li pl : Int}
end
end Go.Proofs.YtihojhfpepbjhaaGreatDoor

namespace Go.Proofs.YtihojhfpepbjhaaGreatDoor
open Go.RowKit

theorem step_over {G : Gm} {x : Ho} {m : Ms} (h : G.ended x ≠ 0) : G.step x m = (x, 5) := by
  unfold Gm.step
  rw [if_pos h]
theorem run_over {G : Gm} : ∀ (l : List Ms) {x : Ho}, G.ended x ≠ 0 → G.run x l = x
  | [], _, _ => rfl
  | m :: l, x, h => by
    show G.run (G.step x m).1 l = x
    rw [step_over h]
    exact run_over l h
theorem go_now (x : Ho) (a : Int) : x.now ≤ (x.go a).now ∧ a ≤ (x.go a).now := by
  unfold Ho.go
  split
  · split <;> (dsimp only; omega)
  · omega
theorem step_now {G : Gm} {x : Ho} {m : Ms} (h : G.ended x = 0) : x.now ≤ (G.step x m).1.now ∧ m.at_ ≤ (G.step x m).1.now := by
  have hg := go_now x m.at_
  unfold Gm.step
  rw [if_neg (by simp [h])]
  split
  · exact hg
  split
  · exact hg
  split
  · exact hg
  split <;> exact hg
theorem run_now {G : Gm} : ∀ (l : List Ms) {x : Ho}, G.ended (G.run x l) = 0 → x.now ≤ (G.run x l).now ∧ ∀ m ∈ l, m.at_ ≤ (G.run x l).now
  | [], _, _ => ⟨Int.le_refl _, fun m hm => by cases hm⟩
  | q :: l, x, h => by
    have hx : G.ended x = 0 := Classical.byContradiction fun hn => by
      rw [run_over (q :: l) hn] at h
      exact hn h
    have h2 : G.ended (G.run (G.step x q).1 l) = 0 := h
    obtain ⟨a1, a2⟩ := run_now l h2
    obtain ⟨b1, b2⟩ := step_now (m := q) hx
    refine ⟨Int.le_trans b1 a1, fun m hm => ?_⟩
    rcases List.mem_cons.1 hm with rfl | hm
    · exact Int.le_trans b2 a1
    · exact a2 m hm
/-- A message that was taken comes again, to a move that is made. -/
theorem once {G : Gm} {ok : Po → Prop} {x : Ho} {l : List Ms} (hI : HoI G ok (G.run x l)) {m : Ms} (hm : m ∈ l) (hp : m.ply ≠ (G.run x l).ply) : (G.step (G.run x l) m).1 = G.run x l := by
  by_cases he : G.ended (G.run x l) = 0
  · have hn := (run_now l he).2 m hm
    have hf := ended_flag he hI.flag.1
    have hl := hI.live hf
    generalize G.run x l = X at *
    have hg : X.go m.at_ = X := by unfold Ho.go; rw [if_neg (by omega)]
    have hL : ¬ X.left < 0 := by unfold Ho.left; split <;> omega
    unfold Gm.step
    rw [if_neg (by simp [he]), hg, if_neg hL, if_pos hp]
  · rw [step_over he]
end Go.Proofs.YtihojhfpepbjhaaGreatDoor
