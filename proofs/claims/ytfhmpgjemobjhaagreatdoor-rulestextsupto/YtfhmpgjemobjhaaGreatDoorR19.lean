/-
  package rules: the reader's memory.
-/
import Derived.Test.YtfhmpgjemobjhaaGreatDoorJ19
import Derived.Test.YtfhmpgjemobjhaaGreatDoorJ14
import Derived.Laws.OwnMore
namespace Go.Proofs.YtfhmpgjemobjhaaGreatDoor
open Go.RowKit

theorem lt_of_block {w : World} {g : Nat} {o : Obj} (h : w.heap[g]? = some o) : g < w.heap.size := by
  rcases Nat.lt_or_ge g w.heap.size with hlt | hge
  · exact hlt
  · rw [Array.getElem?_eq_none hge] at h; cases h
theorem wvals_at : ∀ (ws : List Wy) (i : Nat) (z : Wy), ws[i]? = some z → (wvals ws)[i * 4]? = some (.int .i64 z.k) ∧ (wvals ws)[i * 4 + 1]? = some (.int .i64 z.x) ∧ (wvals ws)[i * 4 + 2]? = some (.int .i64 z.y) ∧ (wvals ws)[i * 4 + 3]? = some (.int .i64 z.t)
  | [], i, z, h => by simp at h
  | y :: t, 0, z, h => by
    simp only [List.getElem?_cons_zero, Option.some.injEq] at h
    subst h
    exact ⟨rfl, rfl, rfl, rfl⟩
  | y :: t, i + 1, z, h => by
    rw [List.getElem?_cons_succ] at h
    have ih := wvals_at t i z h
    have e : wvals (y :: t) = .int .i64 y.k :: .int .i64 y.x :: .int .i64 y.y :: .int .i64 y.t :: wvals t := rfl
    rw [e, show (i + 1) * 4 = i * 4 + 4 by omega]
    exact ih
theorem pvals_at : ∀ (qs : List Pv) (i : Nat) (q : Pv), qs[i]? = some q → (pvals qs)[i * 3]? = some (.int .u8 (q.l : Int)) ∧ (pvals qs)[i * 3 + 1]? = some (.int .i64 q.v) ∧ (pvals qs)[i * 3 + 2]? = some (.slice q.ao q.n q.c)
  | [], i, z, h => by simp at h
  | y :: t, 0, z, h => by
    simp only [List.getElem?_cons_zero, Option.some.injEq] at h
    subst h
    exact ⟨rfl, rfl, rfl⟩
  | y :: t, i + 1, z, h => by
    rw [List.getElem?_cons_succ] at h
    have ih := pvals_at t i z h
    have e : pvals (y :: t) = .int .u8 (y.l : Int) :: .int .i64 y.v :: .slice y.ao y.n y.c :: pvals t := rfl
    rw [e, show (i + 1) * 3 = i * 3 + 3 by omega]
    exact ih

theorem row_keep {w w' : World} {base : Nat} {e : TypeId} {size n : Nat} {v : Value} {xs : List Value} (h : w.ownsRow base e size v n xs) (hk : ∀ k, base ≤ k → k < w.heap.size → w'.heap[k]? = w.heap[k]?) : w'.ownsRow base e size v n xs := by
  obtain ⟨h1, h2⟩ := h
  refine ⟨h1, ?_⟩
  rcases h2 with h2 | ⟨g, cap, cur, e1, hb, hg, r⟩
  · exact .inl h2
  · exact .inr ⟨g, cap, cur, e1, hb, (hk g hb (lt_of_block hg)).trans hg, r⟩
theorem row_mono {w : World} {base base' : Nat} {e : TypeId} {size n : Nat} {v : Value} {xs : List Value} (h : w.ownsRow base e size v n xs) (hb : base' ≤ base) : w.ownsRow base' e size v n xs :=
  ⟨h.1, h.2.imp id fun ⟨g, cap, cur, h1, h2, h3⟩ => ⟨g, cap, cur, h1, Nat.le_trans hb h2, h3⟩⟩
theorem row_slice {w : World} {base : Nat} {e : TypeId} {size n : Nat} {v : Value} {xs : List Value} (h : w.ownsRow base e size v n xs) : ∃ uo un uc, v = .slice uo un uc := by
  rcases h.2 with ⟨h1, -⟩ | ⟨gg, cap, cur, h1, -⟩
  · exact ⟨_, _, _, h1⟩
  · exact ⟨_, _, _, h1⟩
theorem row_wys {w : World} {base n c : Nat} {ao : Option Addr} {ws : List Wy} (h : w.ownsRow base 62 4 (.slice ao n c) ws.length (wvals ws)) : n = ws.length ∧ isWys w ao c ws := by
  have h0 := h
  rcases h.2 with ⟨e, h1⟩ | ⟨g, cap, cur, e, hb, hg, hn, hm, hc, ht⟩
  · cases e
    refine ⟨h1.symm, ⟨by omega, by unfold maxLen; omega, fun _ => rfl, fun hl => absurd (List.length_eq_zero_iff.1 h1) hl⟩⟩
  · cases e
    refine ⟨rfl, ⟨hn, hm, (fun e => nomatch e), fun _ => ⟨g, 0, rfl, lt_of_block hg, fun i z hz => ?_⟩⟩⟩
    obtain ⟨a0, a1, a2, a3⟩ := wvals_at ws i z hz
    obtain ⟨hi, -⟩ := List.getElem?_eq_some_iff.1 hz
    rw [Nat.zero_add]
    refine ⟨?_, ?_, ?_, ?_⟩
    · rw [h0.cellAt _ (by omega)]; exact a0
    · rw [h0.cellAt _ (by omega)]; exact a1
    · rw [h0.cellAt _ (by omega)]; exact a2
    · rw [h0.cellAt _ (by omega)]; exact a3

/-- A piece's cells q hold the piece p: its ways lie in a row of the call's own. -/
def Pv.is (w : World) (base : Nat) (q : Pv) (p : Pc) : Prop := q.l = p.l ∧ p.l < 256 ∧ q.v = p.v ∧ w.ownsRow base 62 4 (.slice q.ao q.n q.c) p.ws.length (wvals p.ws)
theorem Pv.is.keep {w w' : World} {base : Nat} {q : Pv} {p : Pc} (h : Pv.is w base q p) (hk : ∀ k, base ≤ k → k < w.heap.size → w'.heap[k]? = w.heap[k]?) : Pv.is w' base q p :=
  ⟨h.1, h.2.1, h.2.2.1, row_keep h.2.2.2 hk⟩
/-- The pieces that were read so far. -/
structure isPk (w : World) (base : Nat) (v : Value) (qs : List Pv) (ps : List Pc) : Prop where
  row : w.ownsRow base 48 3 v qs.length (pvals qs)
  len : qs.length = ps.length
  each : ∀ (i : Nat) (q : Pv) (p : Pc), qs[i]? = some q → ps[i]? = some p → Pv.is w base q p
theorem isPk.keep {w w' : World} {base : Nat} {v : Value} {qs : List Pv} {ps : List Pc} (h : isPk w base v qs ps) (hk : ∀ k, base ≤ k → k < w.heap.size → w'.heap[k]? = w.heap[k]?) : isPk w' base v qs ps :=
  ⟨row_keep h.row hk, h.len, fun i q p hq hp => (h.each i q p hq hp).keep hk⟩
theorem isPk.nil (w : World) (base : Nat) : isPk w base (.slice none 0 0) [] [] :=
  ⟨World.ownsRow_nil w base _ _, rfl, fun i q p h => by simp at h⟩
theorem isPk.pcs {w : World} {base : Nat} {v : Value} {qs : List Pv} {ps : List Pc} (h : isPk w base v qs ps) : ∃ ao cap, v = .slice ao ps.length cap ∧ isPcs w ao cap ps := by
  have h0 := h.row
  have hlen := h.len
  rcases h.row.2 with ⟨e, h1⟩ | ⟨g, cap, cur, e, hb, hg, hn, hm, hc, ht⟩
  · refine ⟨none, 0, ?_, ⟨by omega, by unfold maxLen; omega, fun _ => rfl, fun hl => absurd (List.length_eq_zero_iff.1 (by omega)) hl⟩⟩
    rw [e, ← hlen, h1]
  · refine ⟨some ⟨g, 0, none⟩, cap, by rw [e, hlen], ⟨by omega, hm, (fun e => nomatch e), fun _ => ⟨g, 0, rfl, lt_of_block hg, fun i p hp => ?_⟩⟩⟩
    obtain ⟨hi, -⟩ := List.getElem?_eq_some_iff.1 hp
    have hq : qs[i]? = some (qs[i]'(by omega)) := List.getElem?_eq_getElem _
    obtain ⟨e1, e2, e3, e4⟩ := h.each i _ p hq hp
    obtain ⟨b1, b2⟩ := row_wys e4
    obtain ⟨a0, a1, a2⟩ := pvals_at qs i _ hq
    rw [e] at h0
    rw [Nat.zero_add]
    refine ⟨e2, _, _, ?_, ?_, ?_, b2⟩
    · rw [h0.cellAt _ (by omega), a0, e1]
    · rw [h0.cellAt _ (by omega), a1, e3]
    · rw [h0.cellAt _ (by omega), a2, b1]
theorem way_stay {w w' : World} {base n m : Nat} {u v : Value} {xs ys : List Value} (h : w.ownsRow base 62 4 u n xs) (hv : w.ownsRow base 48 3 v m ys) (hg : w.grownBy w' v.ownBlock) : w'.ownsRow base 62 4 u n xs := by
  obtain ⟨h1, h2⟩ := h
  refine ⟨h1, ?_⟩
  rcases h2 with h2 | ⟨g, cap, cur, e1, hb, hh, r⟩
  · exact .inl h2
  · refine .inr ⟨g, cap, cur, e1, hb, ?_, r⟩
    rw [hg.block g (lt_of_block hh) ?_]
    · exact hh
    · intro e
      rcases hv.2 with ⟨e2, -⟩ | ⟨g', cap', cur', e2, -, hh', -⟩
      · rw [e2] at e; simp [Value.ownBlock] at e
      · rw [e2] at e
        simp only [Value.ownBlock, Option.some.injEq] at e
        rw [← e, hh] at hh'
        simp at hh'
theorem isPk.snoc {w w' : World} {base : Nat} {v v' : Value} {qs : List Pv} {ps : List Pc} (h : isPk w base v qs ps) {q : Pv} {p : Pc} (hq : Pv.is w base q p) (hrow : w'.ownsRow base 48 3 v' ((qs ++ [q]).take 11).length (pvals ((qs ++ [q]).take 11))) (hg : w.grownBy w' v.ownBlock) :
    isPk w' base v' ((qs ++ [q]).take 11) ((ps ++ [p]).take 11) := by
  have hlen := h.len
  refine ⟨hrow, by simp [hlen], fun i q' p' hq' hp' => ?_⟩
  rw [List.getElem?_take] at hq' hp'
  split at hq'
  · rename_i hi
    rw [if_pos hi] at hp'
    have hc : Pv.is w base q' p' := by
      by_cases hil : i < qs.length
      · rw [List.getElem?_append_left hil] at hq'
        rw [List.getElem?_append_left (by omega)] at hp'
        exact h.each i q' p' hq' hp'
      · rw [List.getElem?_append_right (by omega)] at hq' hp'
        rw [hlen] at hq'
        generalize i - ps.length = j at hq' hp'
        cases j with
        | zero =>
          simp at hq' hp'
          rw [← hq', ← hp']; exact hq
        | succ j => simp at hq'
    exact ⟨hc.1, hc.2.1, hc.2.2.1, way_stay hc.2.2.2 h.row hg⟩
  · cases hq'

/-- The reader's fourteen cells in block g. -/
def isRr (w : World) (g : Nat) (v0 v1 v2 v3 v4 v5 v6 v7 v8 v9 v10 v11 v12 v13 : Value) : Prop := w.heap[g]? = some (.cells #[v0, v1, v2, v3, v4, v5, v6, v7, v8, v9, v10, v11, v12, v13] 54 (0, 0))
section
variable {w w1 : World} {g : Nat} {v0 v1 v2 v3 v4 v5 v6 v7 v8 v9 v10 v11 v12 v13 : Value}
theorem isRr.cells (h : isRr w g v0 v1 v2 v3 v4 v5 v6 v7 v8 v9 v10 v11 v12 v13) :
    w.cell? ⟨g, 0, none⟩ = some v0 ∧ w.cell? ⟨g, 1, none⟩ = some v1 ∧ w.cell? ⟨g, 2, none⟩ = some v2 ∧ w.cell? ⟨g, 3, none⟩ = some v3 ∧ w.cell? ⟨g, 4, none⟩ = some v4 ∧ w.cell? ⟨g, 5, none⟩ = some v5 ∧ w.cell? ⟨g, 6, none⟩ = some v6 ∧ w.cell? ⟨g, 7, none⟩ = some v7 ∧ w.cell? ⟨g, 8, none⟩ = some v8 ∧ w.cell? ⟨g, 9, none⟩ = some v9 ∧ w.cell? ⟨g, 10, none⟩ = some v10 ∧ w.cell? ⟨g, 11, none⟩ = some v11 ∧ w.cell? ⟨g, 12, none⟩ = some v12 ∧ w.cell? ⟨g, 13, none⟩ = some v13 := by
  refine ⟨?_, ?_, ?_, ?_, ?_, ?_, ?_, ?_, ?_, ?_, ?_, ?_, ?_, ?_⟩ <;> exact cell_of_row _ _ _ _ _ _ h
theorem isRr.frozen (h : isRr w g v0 v1 v2 v3 v4 v5 v6 v7 v8 v9 v10 v11 v12 v13) (k : Nat) : w.frozen? ⟨g, k, none⟩ = false := frozen_of_row w g k _ _ h
theorem isRr.lt (h : isRr w g v0 v1 v2 v3 v4 v5 v6 v7 v8 v9 v10 v11 v12 v13) : g < w.heap.size := lt_of_block h
theorem isRr.below (h : isRr w g v0 v1 v2 v3 v4 v5 v6 v7 v8 v9 v10 v11 v12 v13) {B : Nat} (hb : Below B w w1) (hB : g < B) : isRr w1 g v0 v1 v2 v3 v4 v5 v6 v7 v8 v9 v10 v11 v12 v13 := by
  unfold isRr; rw [hb.block g hB]; exact h
theorem isRr.set6 (h : isRr w g v0 v1 v2 v3 v4 v5 v6 v7 v8 v9 v10 v11 v12 v13) (u : Value) : isRr (w.setCell ⟨g, 6, none⟩ u) g v0 v1 v2 v3 v4 v5 u v7 v8 v9 v10 v11 v12 v13 := by
  unfold isRr at h ⊢; simp [World.setCell, Array.getElem?_modify, h]
theorem isRr.set7 (h : isRr w g v0 v1 v2 v3 v4 v5 v6 v7 v8 v9 v10 v11 v12 v13) (u : Value) : isRr (w.setCell ⟨g, 7, none⟩ u) g v0 v1 v2 v3 v4 v5 v6 u v8 v9 v10 v11 v12 v13 := by
  unfold isRr at h ⊢; simp [World.setCell, Array.getElem?_modify, h]
theorem isRr.set8 (h : isRr w g v0 v1 v2 v3 v4 v5 v6 v7 v8 v9 v10 v11 v12 v13) (u : Value) : isRr (w.setCell ⟨g, 8, none⟩ u) g v0 v1 v2 v3 v4 v5 v6 v7 u v9 v10 v11 v12 v13 := by
  unfold isRr at h ⊢; simp [World.setCell, Array.getElem?_modify, h]
theorem isRr.set9 (h : isRr w g v0 v1 v2 v3 v4 v5 v6 v7 v8 v9 v10 v11 v12 v13) (u : Value) : isRr (w.setCell ⟨g, 9, none⟩ u) g v0 v1 v2 v3 v4 v5 v6 v7 v8 u v10 v11 v12 v13 := by
  unfold isRr at h ⊢; simp [World.setCell, Array.getElem?_modify, h]
theorem isRr.set10 (h : isRr w g v0 v1 v2 v3 v4 v5 v6 v7 v8 v9 v10 v11 v12 v13) (u : Value) : isRr (w.setCell ⟨g, 10, none⟩ u) g v0 v1 v2 v3 v4 v5 v6 v7 v8 v9 u v11 v12 v13 := by
  unfold isRr at h ⊢; simp [World.setCell, Array.getElem?_modify, h]
theorem isRr.set11 (h : isRr w g v0 v1 v2 v3 v4 v5 v6 v7 v8 v9 v10 v11 v12 v13) (u : Value) : isRr (w.setCell ⟨g, 11, none⟩ u) g v0 v1 v2 v3 v4 v5 v6 v7 v8 v9 v10 u v12 v13 := by
  unfold isRr at h ⊢; simp [World.setCell, Array.getElem?_modify, h]
theorem isRr.set12 (h : isRr w g v0 v1 v2 v3 v4 v5 v6 v7 v8 v9 v10 v11 v12 v13) (u : Value) : isRr (w.setCell ⟨g, 12, none⟩ u) g v0 v1 v2 v3 v4 v5 v6 v7 v8 v9 v10 v11 u v13 := by
  unfold isRr at h ⊢; simp [World.setCell, Array.getElem?_modify, h]
theorem isRr.set13 (h : isRr w g v0 v1 v2 v3 v4 v5 v6 v7 v8 v9 v10 v11 v12 v13) (u : Value) : isRr (w.setCell ⟨g, 13, none⟩ u) g v0 v1 v2 v3 v4 v5 v6 v7 v8 v9 v10 v11 v12 u := by
  unfold isRr at h ⊢; simp [World.setCell, Array.getElem?_modify, h]
theorem isRr.start (h : isRr w g v0 v1 v2 v3 v4 v5 v6 v7 v8 v9 v10 v11 v12 v13) (u0 u1 u2 u3 u4 u5 : Value) :
    isRr ((((((w.setCell ⟨g, 0, none⟩ u0).setCell ⟨g, 1, none⟩ u1).setCell ⟨g, 2, none⟩ u2).setCell ⟨g, 3, none⟩ u3).setCell ⟨g, 4, none⟩ u4).setCell ⟨g, 5, none⟩ u5) g u0 u1 u2 u3 u4 u5 v6 v7 v8 v9 v10 v11 v12 v13 := by
  unfold isRr at h ⊢; simp [World.setCell, Array.getElem?_modify, h]
end
/-- The reader in block g has read x, and last a line of that kind. -/
def isRs (w : World) (g : Nat) (x : Rl) (v : Value) (last : Nat) : Prop :=
  isRr w g (.int .i64 (x.W : Int)) (.int .i64 (x.H : Int)) (.string ⟨x.C.toArray⟩) (.int .i64 x.T) (.string ⟨x.A.toArray⟩) (.string ⟨x.B.toArray⟩) v (.bool x.dr) (.int .u8 (x.lo.toNat : Int)) (.int .i64 (x.li : Int)) (.int .u8 (x.re.toNat : Int)) (.bool x.st) (.int .i64 (x.pl : Int)) (.int .i64 (last : Int))
structure RS (w : World) (g : Nat) (x : Rl) (last : Nat) : Prop where
  ex : ∃ v qs, isRs w g x v last ∧ isPk w (g + 1) v qs (capP x.ps)
  sz : x.C.length ≤ 64 ∧ x.A.length ≤ 8 ∧ x.B.length ≤ 8
theorem RS.below {w w' : World} {g last : Nat} {x : Rl} (h : RS w g x last) (hb : Below w.heap.size w w') : RS w' g x last := by
  obtain ⟨⟨v, qs, h1, h2⟩, h3⟩ := h
  exact ⟨⟨v, qs, isRr.below h1 hb (isRr.lt h1), h2.keep fun k _ hk => hb.block k hk⟩, h3⟩
end Go.Proofs.YtfhmpgjemobjhaaGreatDoor
