/-
  package matrix, walked: Saddle.
-/
import Derived.Test.YthplbfjpmnpjmaaDoorA4
namespace Go.Proofs.YthplbfjpmnpjmaaDoor
open Go.RowKit
attribute [local go_sem ↓] Go.wp_at_zero Go.wp_at_succ

/-- No saddle before a place. -/
def noneB (G : List (List Int)) (m i j : Nat) : Prop := ∀ a b : Nat, ((a < i ∧ b < m) ∨ (a = i ∧ b < j)) → saB G a b = false
theorem noneB.row {G : List (List Int)} {m i : Nat} (h : noneB G m i m) : noneB G m (i + 1) 0 := by
  intro a b hab
  rcases hab with ⟨ha, hb⟩ | ⟨rfl, hb⟩
  · rcases Nat.lt_or_ge a i with hlt | hge
    · exact h a b (Or.inl ⟨hlt, hb⟩)
    · exact h a b (Or.inr ⟨by omega, hb⟩)
  · omega

/-- Four results. -/
theorem res4 {fn : Func} {t u v x : Tmp} (h : fn.results = #[.tmp t, .tmp u, .tmp v, .tmp x]) (tmps : Array Value) (P : Program) (w : World) :
    (results fn tmps).run P w = .ok (.tuple #[tmps.getD t undef, tmps.getD u undef, tmps.getD v undef, tmps.getD x undef]) w := by simp [results, h]
local macro "ret4" : tactic => `(tactic| ((try simp only [Exit.inBlock, Exit.then]); refine bodyPost_ret (res4 rfl _ _ _) rfl ?_))

end Go.Proofs.YthplbfjpmnpjmaaDoor
