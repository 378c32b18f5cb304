/-
  gamekeep.HouseOnce, walked where the rules and the time are right.
  package gamekeep, walked: kings.
-/
import Derived.Test.YtihojhfpepbjhaaGreatDoorJ39
import Derived.Test.YtihojhfpepbjhaaGreatDoorJ5
namespace Go.Proofs.YtihojhfpepbjhaaGreatDoor
open Go.RowKit
attribute [local go_sem ↓] Go.wp_at_zero Go.wp_at_succ

/-- Two houses of the program. -/
structure TwoB (G : Gm) (n : Nat) (s : Po) (dr st : Bool) (lo re : Nat) (li : Int) (ba bb : Nat) (aoa : Option Addr) (cpa : Nat) (aob : Option Addr) (cpb : Nat) (w0 wa vb : World) (wr : World) (X Z : Ho) : Prop where
  ha : isHo wr ba (.int .i64 s.W) (.int .i64 s.H) (.string s.C) (.int .i64 s.T) (.string s.A) (.string s.B) (.slice aoa n cpa) (.bool dr) (.int .u8 (lo : Int)) (.int .i64 li) (.int .u8 (re : Int)) (.bool st) (.int .i64 G.pl) X (G.ended X)
  hb : isHo wr bb (.int .i64 s.W) (.int .i64 s.H) (.string s.C) (.int .i64 s.T) (.string s.A) (.string s.B) (.slice aob n cpb) (.bool dr) (.int .u8 (lo : Int)) (.int .i64 li) (.int .u8 (re : Int)) (.bool st) (.int .i64 G.pl) Z (G.ended Z)
  low : Below w0.heap.size w0 wr
  lowa : Below ba wa wr
  exb : Ex ba bb vb wr
theorem TwoB.below {G : Gm} {n : Nat} {s : Po} {dr st : Bool} {lo re : Nat} {li : Int} {ba bb : Nat} {aoa : Option Addr} {cpa : Nat} {aob : Option Addr} {cpb : Nat} {w0 wa vb : World} {wr w' : World} {X Z : Ho} (h : TwoB G n s dr st lo re li ba bb aoa cpa aob cpb w0 wa vb wr X Z) (hb : Below wr.heap.size wr w') : TwoB G n s dr st lo re li ba bb aoa cpa aob cpb w0 wa vb w' X Z :=
  ⟨isH.below h.ha hb (isH.lt h.ha), isH.below h.hb hb (isH.lt h.hb), h.low.trans (hb.mono h.low.size), h.lowa.trans (hb.mono (Nat.le_of_lt (isH.lt h.ha))), h.exb.trans (Ex.of (hb.mono (Nat.le_of_lt (isH.lt h.hb))))⟩
theorem TwoB.far {G : Gm} {n : Nat} {s : Po} {dr st : Bool} {lo re : Nat} {li : Int} {ba bb : Nat} {aoa : Option Addr} {cpa : Nat} {aob : Option Addr} {cpb : Nat} {w0 wa vb : World} {wr w' : World} {X Z : Ho} (h : TwoB G n s dr st lo re li ba bb aoa cpa aob cpb w0 wa vb wr X Z) {q : Nat} (hab : ba < bb) (hq : bb < q) (h0 : w0.heap.size ≤ ba) (hx : Ex q wr.heap.size wr w') : TwoB G n s dr st lo re li ba bb aoa cpa aob cpb w0 wa vb w' X Z := by
  have la := isH.lt h.ha
  have lb := isH.lt h.hb
  exact ⟨isH.ex h.ha hx la (by omega), isH.ex h.hb hx lb (by omega), h.low.trans (hx.fresh (by omega) (by omega)), h.lowa.trans (hx.fresh (by omega) (by omega)), h.exb.trans (Ex.of (hx.fresh (by omega) (by omega)))⟩
end Go.Proofs.YtihojhfpepbjhaaGreatDoor

namespace Go.Proofs.YtihojhfpepbjhaaGreatDoor
open Go.RowKit
attribute [local go_sem ↓] Go.wp_at_zero Go.wp_at_succ

set_option maxHeartbeats 4000000 in
set_option maxRecDepth 100000 in
theorem kings_any (w : World) : Calls Tryz.prog 46 #[] w fun e w' => ∃ ao cap, e = .returned (.agg #[.int .i64 3, .int .i64 1, .string ⟨#[75, 46, 107]⟩, .int .i64 0, .string ⟨#[]⟩, .string ⟨#[]⟩, .slice ao 1 cap, .bool false, .int .u8 75, .int .i64 0, .int .u8 0, .bool false, .int .i64 9]) ∧ isPcs w' ao cap [⟨75, 0, [⟨1, 0, 1, 0⟩]⟩] ∧ Below w.heap.size w w' := by
  go_enter Tryz.func46, Tryz.ntmps46
  go_wp2
  generalize hw1 : w.alloc _ = w1
  generalize hw2 : w1.alloc _ = w2
  generalize hw3 : w2.alloc _ = w3
  have hb1 : Below w.heap.size w w1 := by rw [← hw1]; exact (Below.refl _ _).alloc (Nat.le_refl _) _
  have hb2 : Below w1.heap.size w1 w2 := by rw [← hw2]; exact (Below.refl _ _).alloc (Nat.le_refl _) _
  have hb3 : Below w2.heap.size w2 w3 := by rw [← hw3]; exact (Below.refl _ _).alloc (Nat.le_refl _) _
  have s1 : w1.heap.size = w.heap.size + 1 := by rw [← hw1]; simp
  have s2 : w2.heap.size = w.heap.size + 1 + 1 := by rw [← hw2]; simp [s1]
  have s3 : w3.heap.size = w.heap.size + 1 + 1 + 1 := by rw [← hw3]; simp [s2]
  have hr1 : isRu w1 w.heap.size (.int .i64 3) (.int .i64 1) (.string ⟨#[75, 46, 107]⟩) (.int .i64 0) (.string ⟨#[]⟩) (.string ⟨#[]⟩) (.slice (some ⟨w.heap.size + 1 + 1, 0, none⟩) 1 1) (.bool false) (.int .u8 75) (.int .i64 0) (.int .u8 0) (.bool false) (.int .i64 9) := by rw [← hw1]; exact heap_alloc_new w _
  have hr3 := (hr1.below hb2 (by omega)).below hb3 (by omega)
  have hx2 : w2.heap[w.heap.size + 1]? = some (.cells #[.int .i64 1, .int .i64 0, .int .i64 1, .int .i64 0] 68 (0, 0)) := by rw [← hw2, ← s1]; exact heap_alloc_new w1 _
  have hx3 : w3.heap[w.heap.size + 1]? = some (.cells #[.int .i64 1, .int .i64 0, .int .i64 1, .int .i64 0] 68 (0, 0)) := (hb3.block _ (by omega)).trans hx2
  have hy3 : w3.heap[w.heap.size + 1 + 1]? = some (.cells #[.int .u8 75, .int .i64 0, .slice (some ⟨w.heap.size + 1, 0, none⟩) 1 1] 71 (0, 0)) := by rw [← hw3, ← s2]; exact heap_alloc_new w2 _
  obtain ⟨r0, r1, r2, r3, r4, r5, r6, r7, r8, r9, r10, r11, r12⟩ := hr3.cells
  refine bodyPost_ret (v := .agg #[.int .i64 3, .int .i64 1, .string ⟨#[75, 46, 107]⟩, .int .i64 0, .string ⟨#[]⟩, .string ⟨#[]⟩, .slice (some ⟨w.heap.size + 1 + 1, 0, none⟩) 1 1, .bool false, .int .u8 75, .int .i64 0, .int .u8 0, .bool false, .int .i64 9]) (by simp [results, Tryz.results46, go_sem, r0, r1, r2, r3, r4, r5, r6, r7, r8, r9, r10, r11, r12]) rfl ⟨some ⟨w.heap.size + 1 + 1, 0, none⟩, 1, rfl, ⟨by simp, by unfold maxLen; omega, by simp, fun _ => ⟨_, 0, rfl, by omega, fun i p hp => ?_⟩⟩, ?_⟩
  · have hi : i = 0 := by
      have := (List.getElem?_eq_some_iff.1 hp).1
      simp at this
      omega
    subst hi
    simp only [List.getElem?_cons_zero, Option.some.injEq] at hp
    subst hp
    refine ⟨by decide, some ⟨w.heap.size + 1, 0, none⟩, 1, cell_of_row _ _ _ _ _ _ hy3, cell_of_row _ _ _ _ _ _ hy3, cell_of_row _ _ _ _ _ _ hy3, ⟨by simp, by unfold maxLen; omega, by simp, fun _ => ⟨_, 0, rfl, by omega, fun i z hz => ?_⟩⟩⟩
    have hi : i = 0 := by
      have := (List.getElem?_eq_some_iff.1 hz).1
      simp at this
      omega
    subst hi
    simp only [List.getElem?_cons_zero, Option.some.injEq] at hz
    subst hz
    exact ⟨cell_of_row _ _ _ _ _ _ hx3, cell_of_row _ _ _ _ _ _ hx3, cell_of_row _ _ _ _ _ _ hx3, cell_of_row _ _ _ _ _ _ hx3⟩
  · exact (hb1.trans (hb2.mono (by omega))).trans (hb3.mono (by omega))
end Go.Proofs.YtihojhfpepbjhaaGreatDoor
