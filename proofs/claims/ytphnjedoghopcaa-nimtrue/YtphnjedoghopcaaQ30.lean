/-
  The document's answer: gameref.Takings.
-/
import Derived.Test.YtphnjedoghopcaaQ29
namespace Go.Proofs.Ytphnjedoghopcaa
open Go.RowKit
attribute [local go_sem ↓] Go.wp_at_zero Go.wp_at_succ

/-- Lists of numbers of the call's own. -/
def isTk (w : World) (base : Nat) (v : Value) (l : List (List Nat)) : Prop := ∃ L : List Ar, isAr w base v L ∧ L.map (·.r) = l.map natI
theorem isTk.below {w w' : World} {base : Nat} {v : Value} {l : List (List Nat)} (h : isTk w base v l) (hb : Below w.heap.size w w') : isTk w' base v l := by
  obtain ⟨L, h1, h2⟩ := h
  exact ⟨L, h1.below hb, h2⟩
theorem isTk.len {w : World} {base : Nat} {v : Value} {l : List (List Nat)} (h : isTk w base v l) : w.ownsRow base 22 1 v l.length (((h.choose).map Ar.v)) := by
  have h1 := h.choose_spec
  have := h1.1.row
  rw [show (h.choose).length = l.length by have := congrArg List.length h1.2; simpa using this] at this
  exact this
/-- One more: nothing, one number, two. -/
theorem isTk.push {w w2 : World} {base : Nat} {v : Value} {l : List (List Nat)} (x : List Nat) (ao : Option Addr) (cap : Nat) (h : isTk w base v l) (hb2 : Below w.heap.size w w2) (hx : isIsP (fun k => w.heap.size ≤ k ∧ k < w2.heap.size) w2 ao cap (natI x)) (hbase : base ≤ w.heap.size) :
    ∃ xs : List Value, w2.ownsRow base 22 1 v l.length xs ∧ (∀ v' w', w'.ownsRow base 22 1 v' (l.length + 1) (xs ++ [.slice ao x.length cap]) → w2.grownBy w' v.ownBlock → (v'.ownBlock = v.ownBlock ∨ v'.ownBlock = some w2.heap.size) → isTk w' base v' (l ++ [x]) ∧ Below base w2 w') := by
  obtain ⟨L, h1, h2⟩ := h
  have hl : L.length = l.length := by have := congrArg List.length h2; simpa using this
  have h3 := h1.below hb2
  refine ⟨L.map Ar.v, by rw [← hl]; exact h3.row, fun v' w' hrow hg hat => ?_⟩
  have hlow := World.ownsRow.lt h1.row
  refine ⟨⟨L ++ [⟨natI x, ao, cap⟩], ?_, by rw [List.map_append, List.map_append, h2]; rfl⟩, ?_⟩
  · refine h3.snoc ⟨natI x, ao, cap⟩ (hx.keep fun k hk => ⟨⟨by omega, hk.2, fun e => ?_⟩, rfl⟩) ?_ hg hat
    · have := hlow k e; omega
    · rw [hl]
      unfold Ar.v
      rw [natI_len]
      exact hrow
  · exact (Below.refl _ _).grown hg (by have := hb2.size; omega) (fun k hk => (hlow k hk).1)
end Go.Proofs.Ytphnjedoghopcaa
