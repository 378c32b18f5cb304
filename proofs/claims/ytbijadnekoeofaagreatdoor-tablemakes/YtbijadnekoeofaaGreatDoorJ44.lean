/-
  A row of entries in memory that is changed here and there; rows of rows of numbers (for gameref.Tabled).
  '==' between entries; the law's Same, of the same entries.
  gameref.Tabled at wrong rules or numbers; gamelaw.TableMakes over what both sides come to.
-/
import Derived.Test.YtbijadnekoeofaaGreatDoorJ37
import Derived.Test.YtbijadnekoeofaaGreatDoorJ38
import Derived.Test.YtbijadnekoeofaaGreatDoorJ43
import Derived.Test.YtbijadnekoeofaaGreatDoorJ4
import Derived.Test.YtbijadnekoeofaaGreatDoorJ8
namespace Go.Proofs.YtbijadnekoeofaaGreatDoor
open Go.RowKit

theorem rowBaseT {w : World} {base base' : Nat} {e : TypeId} {size n : Nat} {v : Value} {xs : List Value} (h : w.ownsRow base e size v n xs) (hb : base' ≤ base) : w.ownsRow base' e size v n xs := by
  obtain ⟨h1, h2⟩ := h
  refine ⟨h1, ?_⟩
  rcases h2 with h2 | ⟨g, cap, cur, e1, hb2, r⟩
  · exact .inl h2
  · exact .inr ⟨g, cap, cur, e1, by omega, r⟩
theorem rowCellT {w : World} {base : Nat} {e : TypeId} {size n cap g : Nat} {xs : List Value} (h : w.ownsRow base e size (.slice (some ⟨g, 0, none⟩) n cap) n xs) (j : Nat) (hj : j < n * size) : (∃ u, w.cell? ⟨g, j, none⟩ = some u) ∧ w.frozen? ⟨g, j, none⟩ = false := by
  have hl : xs.length = n * size := h.1
  exact ⟨⟨xs[j]'(by omega), (h.cellAt j hj).trans (List.getElem?_eq_getElem (by omega))⟩, h.frozenAt _⟩

/-- A row of N entries, of which the first ones are told. -/
structure EnR (u : World) (base g N : Nat) (ts : List (Po × Int × Int)) (r : List Value) : Prop where
  len : ts.length * 8 + r.length = N * 8
  row : u.ownsRow base 34 8 (.slice (some ⟨g, 0, none⟩) N N) N (evs ts ++ r)
section
variable {u u' : World} {base g N : Nat} {ts : List (Po × Int × Int)} {r : List Value}
theorem EnR.lt (h : EnR u base g N ts r) : base ≤ g ∧ g < u.heap.size := row_block h.row rfl
theorem EnR.cell (h : EnR u base g N ts r) {i : Nat} {e : Po × Int × Int} (hi : ts[i]? = some e) (c : Nat) (hc : c < 8) : u.cell? ⟨g, i * 8 + c, none⟩ = (encE e)[c]? ∧ u.frozen? ⟨g, i * 8 + c, none⟩ = false := by
  have hil := (List.getElem?_eq_some_iff.1 hi).1
  have hl := h.len
  refine ⟨?_, h.row.frozenAt _⟩
  rw [h.row.cellAt (i * 8 + c) (by omega), List.getElem?_append_left (by rw [evs_len]; omega)]
  exact fm_at (f := encE) (c := 8) (fun _ => rfl) ts i c e hi hc
theorem EnR.any (h : EnR u base g N ts r) (j : Nat) (hj : j < N * 8) : (∃ t, u.cell? ⟨g, j, none⟩ = some t) ∧ u.frozen? ⟨g, j, none⟩ = false := rowCellT h.row j hj
theorem EnR.off (h : EnR u base g N ts r) {b : Nat} (hg : u.grownBy u' (some b)) (hne : g ≠ b) : EnR u' base g N ts r := ⟨h.len, row_off h.row hg (by simpa [Value.ownBlock] using hne)⟩
theorem EnR.keep (h : EnR u base g N ts r) (hb : u'.heap[g]? = u.heap[g]?) : EnR u' base g N ts r := by
  refine ⟨h.len, h.row.1, ?_⟩
  rcases h.row.2 with ⟨e, _⟩ | ⟨g', cap, cur, e, h1, h2, r⟩
  · simp at e
  · have e' := e
    simp only [Value.slice.injEq, Option.some.injEq, Addr.mk.injEq, and_true, true_and] at e'
    obtain ⟨rfl, -⟩ := e'
    exact .inr ⟨g, cap, cur, e, h1, hb.trans h2, r⟩
theorem EnR.below (h : EnR u base g N ts r) (hb : Below u.heap.size u u') : EnR u' base g N ts r := h.keep (hb.block g h.lt.2)
/-- One number of an entry changes. -/
theorem EnR.put (h : EnR u base g N ts r) {i : Nat} {e e' : Po × Int × Int} (hi : ts[i]? = some e) (c : Nat) (hc : c < 8) (v : Value) (hv : encE e' = (encE e).set c v) : EnR (u.setCell ⟨g, i * 8 + c, none⟩ v) base g N (ts.set i e') r ∧ u.grownBy (u.setCell ⟨g, i * 8 + c, none⟩ v) (some g) := by
  have hil := (List.getElem?_eq_some_iff.1 hi).1
  obtain ⟨h1, h2⟩ := h.row.stored (i * 8 + c) v
  refine ⟨⟨by rw [List.length_set]; exact h.len, ?_⟩, h2⟩
  rw [List.set_append_left _ _ (by rw [evs_len]; omega), show (evs ts).set (i * 8 + c) v = evs (ts.set i e') from fm_set (f := encE) (c := 8) (fun _ => rfl) ts i c e e' v hi hc hv] at h1
  exact h1
/-- What it is worth. -/
theorem EnR.val (h : EnR u base g N ts r) {i : Nat} {e : Po × Int × Int} (hi : ts[i]? = some e) (v : Int) : EnR (u.setCell ⟨g, i * 8 + 6, none⟩ (.int .i64 v)) base g N (ts.set i (e.1, v, e.2.2)) r ∧ u.grownBy (u.setCell ⟨g, i * 8 + 6, none⟩ (.int .i64 v)) (some g) :=
  h.put hi 6 (by omega) _ rfl
/-- What it is worth, and how far. -/
theorem EnR.val2 (h : EnR u base g N ts r) {i : Nat} {e : Po × Int × Int} (hi : ts[i]? = some e) (v d : Int) : EnR ((u.setCell ⟨g, i * 8 + 6, none⟩ (.int .i64 v)).setCell ⟨g, i * 8 + 7, none⟩ (.int .i64 d)) base g N (ts.set i (e.1, v, d)) r ∧ u.grownBy ((u.setCell ⟨g, i * 8 + 6, none⟩ (.int .i64 v)).setCell ⟨g, i * 8 + 7, none⟩ (.int .i64 d)) (some g) := by
  have hil := (List.getElem?_eq_some_iff.1 hi).1
  obtain ⟨h1, g1⟩ := h.val hi v
  obtain ⟨h2, g2⟩ := h1.put (i := i) (e := (e.1, v, e.2.2)) (e' := (e.1, v, d)) (List.getElem?_set_self hil) 7 (by omega) (.int .i64 d) rfl
  rw [List.set_set] at h2
  exact ⟨h2, g1.andThen g2 (fun k hk => .inr hk)⟩
/-- One more. -/
theorem EnR.push (h : EnR u base g N ts r) (q : Po × Int × Int) (i : Nat) (hi : i = ts.length) (hN : i < N) :
    EnR ((((((((u.setCell ⟨g, i * 8, none⟩ (.int .i64 q.1.W)).setCell ⟨g, i * 8 + 1, none⟩ (.int .i64 q.1.H)).setCell ⟨g, i * 8 + 2, none⟩ (.string q.1.C)).setCell ⟨g, i * 8 + 3, none⟩ (.int .i64 q.1.T)).setCell ⟨g, i * 8 + 4, none⟩ (.string q.1.A)).setCell ⟨g, i * 8 + 5, none⟩ (.string q.1.B)).setCell ⟨g, i * 8 + 6, none⟩ (.int .i64 q.2.1)).setCell ⟨g, i * 8 + 7, none⟩ (.int .i64 q.2.2)) base g N (ts ++ [q]) (r.drop 8) ∧
    u.grownBy ((((((((u.setCell ⟨g, i * 8, none⟩ (.int .i64 q.1.W)).setCell ⟨g, i * 8 + 1, none⟩ (.int .i64 q.1.H)).setCell ⟨g, i * 8 + 2, none⟩ (.string q.1.C)).setCell ⟨g, i * 8 + 3, none⟩ (.int .i64 q.1.T)).setCell ⟨g, i * 8 + 4, none⟩ (.string q.1.A)).setCell ⟨g, i * 8 + 5, none⟩ (.string q.1.B)).setCell ⟨g, i * 8 + 6, none⟩ (.int .i64 q.2.1)).setCell ⟨g, i * 8 + 7, none⟩ (.int .i64 q.2.2)) (some g) := by
  have hl := h.len
  obtain ⟨h1, h2⟩ := row_set8 q 34 h.row (by omega) (i * 8) (by rw [hi])
  exact ⟨⟨by rw [List.length_append, List.length_drop, List.length_singleton]; omega, h1⟩, h2⟩
/-- An entry is another one. -/
theorem EnR.whole (h : EnR u base g N ts r) {i : Nat} {e : Po × Int × Int} (hi : ts[i]? = some e) (q : Po × Int × Int) :
    EnR ((((((((u.setCell ⟨g, i * 8, none⟩ (.int .i64 q.1.W)).setCell ⟨g, i * 8 + 1, none⟩ (.int .i64 q.1.H)).setCell ⟨g, i * 8 + 2, none⟩ (.string q.1.C)).setCell ⟨g, i * 8 + 3, none⟩ (.int .i64 q.1.T)).setCell ⟨g, i * 8 + 4, none⟩ (.string q.1.A)).setCell ⟨g, i * 8 + 5, none⟩ (.string q.1.B)).setCell ⟨g, i * 8 + 6, none⟩ (.int .i64 q.2.1)).setCell ⟨g, i * 8 + 7, none⟩ (.int .i64 q.2.2)) base g N (ts.set i q) r ∧
    u.grownBy ((((((((u.setCell ⟨g, i * 8, none⟩ (.int .i64 q.1.W)).setCell ⟨g, i * 8 + 1, none⟩ (.int .i64 q.1.H)).setCell ⟨g, i * 8 + 2, none⟩ (.string q.1.C)).setCell ⟨g, i * 8 + 3, none⟩ (.int .i64 q.1.T)).setCell ⟨g, i * 8 + 4, none⟩ (.string q.1.A)).setCell ⟨g, i * 8 + 5, none⟩ (.string q.1.B)).setCell ⟨g, i * 8 + 6, none⟩ (.int .i64 q.2.1)).setCell ⟨g, i * 8 + 7, none⟩ (.int .i64 q.2.2)) (some g) := by
  have hil := (List.getElem?_eq_some_iff.1 hi).1
  obtain ⟨⟨pw, ph, pc, pt, pa, pb⟩, pv, pd⟩ := e
  obtain ⟨⟨qw, qh, qc, qt, qa, qb⟩, qv, qd⟩ := q
  obtain ⟨h0, g0⟩ := h.put (e' := (⟨qw, ph, pc, pt, pa, pb⟩, pv, pd)) hi 0 (by omega) (.int .i64 qw) rfl
  rw [Nat.add_zero] at h0 g0
  obtain ⟨h1, g1⟩ := h0.put (i := i) (e' := (⟨qw, qh, pc, pt, pa, pb⟩, pv, pd)) (List.getElem?_set_self hil) 1 (by omega) (.int .i64 qh) rfl
  rw [List.set_set] at h1
  obtain ⟨h2, g2⟩ := h1.put (i := i) (e' := (⟨qw, qh, qc, pt, pa, pb⟩, pv, pd)) (List.getElem?_set_self hil) 2 (by omega) (.string qc) rfl
  rw [List.set_set] at h2
  obtain ⟨h3, g3⟩ := h2.put (i := i) (e' := (⟨qw, qh, qc, qt, pa, pb⟩, pv, pd)) (List.getElem?_set_self hil) 3 (by omega) (.int .i64 qt) rfl
  rw [List.set_set] at h3
  obtain ⟨h4, g4⟩ := h3.put (i := i) (e' := (⟨qw, qh, qc, qt, qa, pb⟩, pv, pd)) (List.getElem?_set_self hil) 4 (by omega) (.string qa) rfl
  rw [List.set_set] at h4
  obtain ⟨h5, g5⟩ := h4.put (i := i) (e' := (⟨qw, qh, qc, qt, qa, qb⟩, pv, pd)) (List.getElem?_set_self hil) 5 (by omega) (.string qb) rfl
  rw [List.set_set] at h5
  obtain ⟨h6, g6⟩ := h5.put (i := i) (e' := (⟨qw, qh, qc, qt, qa, qb⟩, qv, pd)) (List.getElem?_set_self hil) 6 (by omega) (.int .i64 qv) rfl
  rw [List.set_set] at h6
  obtain ⟨h7, g7⟩ := h6.put (i := i) (e' := (⟨qw, qh, qc, qt, qa, qb⟩, qv, qd)) (List.getElem?_set_self hil) 7 (by omega) (.int .i64 qd) rfl
  rw [List.set_set] at h7
  refine ⟨h7, ?_⟩
  have k1 := g0.andThen g1 (fun k hk => .inr hk)
  have k2 := k1.andThen g2 (fun k hk => .inr hk)
  have k3 := k2.andThen g3 (fun k hk => .inr hk)
  have k4 := k3.andThen g4 (fun k hk => .inr hk)
  have k5 := k4.andThen g5 (fun k hk => .inr hk)
  have k6 := k5.andThen g6 (fun k hk => .inr hk)
  exact k6.andThen g7 (fun k hk => .inr hk)
end

/-- Blocks of unlike elements are unlike. -/
theorem row_type {w : World} {base b : Nat} {e e' : TypeId} {size n : Nat} {v : Value} {xs : List Value} {cs : Array Value} {f : Nat × Nat} (h : w.ownsRow base e size v n xs) (hm : w.heap[b]? = some (.cells cs e' f)) (hne : e ≠ e') : v.ownBlock ≠ some b := by
  intro hb
  rcases h.2 with ⟨e1, _⟩ | ⟨g', cap, cur, e1, _, hg', _⟩
  · subst e1; simp [Value.ownBlock] at hb
  · subst e1
    simp only [Value.ownBlock, Option.some.injEq] at hb
    subst hb
    rw [hm] at hg'
    simp only [Option.some.injEq, Obj.cells.injEq] at hg'
    exact hne hg'.2.1.symm
theorem row_types {w : World} {base base' : Nat} {e e' : TypeId} {size size' n n' : Nat} {v v' : Value} {xs xs' : List Value} (h : w.ownsRow base e size v n xs) (h' : w.ownsRow base' e' size' v' n' xs') (hne : e ≠ e') {b : Nat} (hb : v'.ownBlock = some b) : v.ownBlock ≠ some b := by
  rcases h'.2 with ⟨e1, _⟩ | ⟨g', cap, cur, e1, _, hg', _⟩
  · subst e1; simp [Value.ownBlock] at hb
  · subst e1
    simp only [Value.ownBlock, Option.some.injEq] at hb
    subst hb
    exact row_type h hg' hne
theorem row_same {w w' : World} {base : Nat} {e : TypeId} {size n : Nat} {v : Value} {xs : List Value} (h : w.ownsRow base e size v n xs) (hk : ∀ g, v.ownBlock = some g → w'.heap[g]? = w.heap[g]?) : w'.ownsRow base e size v n xs := by
  obtain ⟨h1, h2⟩ := h
  refine ⟨h1, ?_⟩
  rcases h2 with h2 | ⟨g, cap, cur, e1, hb, hg', r⟩
  · exact .inl h2
  · subst e1
    exact .inr ⟨g, cap, cur, rfl, hb, (hk g rfl).trans hg', r⟩

/-- Rows of numbers in a row. -/
def NxR (u : World) (base : Nat) (v : Value) (L : List (List Nat)) : Prop :=
  ∃ vs : List Value, u.ownsRow base 52 1 v L.length vs ∧ ∀ (j : Nat) (l : List Nat), L[j]? = some l → ∃ x, vs[j]? = some x ∧ u.ownsRow base 3 1 x l.length (ivs l)
section
variable {u u' : World} {base : Nat} {v : Value} {L : List (List Nat)}
theorem NxR.same (h : NxR u base v L) {P : Nat → Prop} (hk : ∀ g, g < u.heap.size → P g → u'.heap[g]? = u.heap[g]?) (h1 : ∀ (n : Nat) (x : Value) (xs : List Value), u.ownsRow base 52 1 x n xs → ∀ g, x.ownBlock = some g → P g) (h2 : ∀ (n : Nat) (x : Value) (xs : List Value), u.ownsRow base 3 1 x n xs → ∀ g, x.ownBlock = some g → P g) : NxR u' base v L := by
  obtain ⟨vs, hr, hl⟩ := h
  refine ⟨vs, row_same hr (fun g hg => hk g (row_block hr hg).2 (h1 _ _ _ hr g hg)), fun j l hj => ?_⟩
  obtain ⟨x, hx, hrx⟩ := hl j l hj
  exact ⟨x, hx, row_same hrx (fun g hg => hk g (row_block hrx hg).2 (h2 _ _ _ hrx g hg))⟩
theorem NxR.below (h : NxR u base v L) (hb : Below u.heap.size u u') : NxR u' base v L :=
  h.same (P := fun _ => True) (fun g hg _ => hb.block g hg) (fun _ _ _ _ _ _ => trivial) (fun _ _ _ _ _ _ => trivial)
/-- A block of other things changes. -/
theorem NxR.off (h : NxR u base v L) {b : Nat} {cs : Array Value} {e : TypeId} {f : Nat × Nat} (hb : u.heap[b]? = some (.cells cs e f)) (h1 : 52 ≠ e) (h2 : 3 ≠ e) (hg : u.grownBy u' (some b)) : NxR u' base v L :=
  h.same (P := fun g => g ≠ b) (fun g hgl hne => hg.block g hgl (by simpa using hne)) (fun _ _ _ hr g hgb e2 => row_type hr hb h1 (by rw [hgb, e2])) (fun _ _ _ hr g hgb e2 => row_type hr hb h2 (by rw [hgb, e2]))
theorem NxR.nil (w : World) (base : Nat) : NxR w base (.slice none 0 0) [] := ⟨[], ⟨rfl, .inl ⟨rfl, rfl⟩⟩, fun j l hj => by simp at hj⟩
/-- What stands at a place. -/
theorem NxR.at_ (h : NxR u base v L) {j : Nat} {l : List Nat} (hj : L[j]? = some l) : ∃ g cap, v = .slice (some ⟨g, 0, none⟩) L.length cap ∧ L.length ≤ cap ∧ cap ≤ maxLen ∧ ∃ o c, l.length ≤ c ∧ c ≤ maxLen ∧ u.cell? ⟨g, j, none⟩ = some (.slice o l.length c) ∧ (∀ (k x : Nat), l[k]? = some x → ∃ gl, o = some ⟨gl, 0, none⟩ ∧ u.cell? ⟨gl, k, none⟩ = some (.int .i64 (x : Int))) := by
  obtain ⟨vs, hr, hl⟩ := h
  have hjl := (List.getElem?_eq_some_iff.1 hj).1
  obtain ⟨x, hx, hrx⟩ := hl j l hj
  rcases hr.2 with ⟨_, h0⟩ | ⟨g, cap, cur, e, hb, hg, h1, h2, _⟩
  · omega
  · subst e
    refine ⟨g, cap, rfl, h1, h2, ?_⟩
    have hc : u.cell? ⟨g, j, none⟩ = some x := by rw [hr.cellAt j (by omega), hx]
    rcases hrx.2 with ⟨e1, h0⟩ | ⟨gl, cl, curl, e1, hbl, hgl, k1, k2, _⟩
    · refine ⟨none, 0, by omega, by unfold maxLen; omega, by rw [hc, e1, h0], fun k y hk => ?_⟩
      have := (List.getElem?_eq_some_iff.1 hk).1
      omega
    · subst e1
      refine ⟨some ⟨gl, 0, none⟩, cl, k1, k2, hc, fun k y hk => ⟨gl, rfl, ?_⟩⟩
      have hkl := (List.getElem?_eq_some_iff.1 hk).1
      rw [hrx.cellAt k (by omega)]
      simp [ivs, hk]
end
end Go.Proofs.YtbijadnekoeofaaGreatDoor

namespace Go.Proofs.YtbijadnekoeofaaGreatDoor
open Go.RowKit
attribute [local go_sem ↓] Go.wp_at_zero Go.wp_at_succ

theorem eqHandsN (n : Nat) (w : World) (A B A' B' : ByteArray) :
    (Op.equalIn (n + 1 + 1) 22 (.agg #[.string A, .string B]) (.agg #[.string A', .string B'])).run Tryz.prog w = .ok (A.toList == A'.toList && B.toList == B'.toList) w := by
  obtain ⟨i, hi⟩ : ∃ i, Tryz.prog.info? 9 = some i := by
    have h : (Tryz.prog.info? 9).isSome = true := by kernel_rfl
    exact Option.isSome_iff_exists.1 h
  have hc : Tryz.prog.cellsOf 9 = 1 := by kernel_rfl
  rw [run_equalIn_array w (n + 1) _ _ Tryz.underlying22 hi, hc]
  have hr : List.range 2 = [0, 1] := rfl
  rw [hr]
  simp [go_sem, Op.eqItems]
  by_cases h1 : A.toList = A'.toList <;> by_cases h2 : B.toList = B'.toList <;> simp [h1, h2]

set_option maxHeartbeats 1000000 in
theorem eqPosN (n : Nat) (w : World) (W H T W' H' T' : Int) (C A B C' A' B' : ByteArray) :
    (Op.equalIn (n + 1 + 1 + 1) 24 (.agg #[.int .i64 W, .int .i64 H, .string C, .int .i64 T, .string A, .string B]) (.agg #[.int .i64 W', .int .i64 H', .string C', .int .i64 T', .string A', .string B'])).run Tryz.prog w =
      .ok (samePos W H C T A B W' H' C' T' A' B') w := by
  rw [run_equalIn_agg w (n + 1 + 1) 24 _ _ (by kernel_rfl) (by kernel_rfl)]
  unfold Program.fieldsOf
  rw [Tryz.underlying24]
  simp [go_sem, eqHandsN, samePos]
  by_cases h1 : W = W' <;> by_cases h2 : H = H' <;> by_cases h3 : C.toList = C'.toList <;> by_cases h4 : T = T' <;> by_cases h5 : A.toList = A'.toList <;> by_cases h6 : B.toList = B'.toList <;> simp [h1, h2, h3, h4, h5, h6]
theorem eqPos9 (w : World) (W H T W' H' T' : Int) (C A B C' A' B' : ByteArray) :
    (Op.equalIn 9999 24 (.agg #[.int .i64 W, .int .i64 H, .string C, .int .i64 T, .string A, .string B]) (.agg #[.int .i64 W', .int .i64 H', .string C', .int .i64 T', .string A', .string B'])).run Tryz.prog w =
      .ok (samePos W H C T A B W' H' C' T' A' B') w := eqPosN 9996 w W H T W' H' T' C A B C' A' B'

set_option maxHeartbeats 1000000 in
theorem eqEntry (w : World) (W H T : Int) (C A B : ByteArray) (v d : Int) :
    (Op.equalIn 10000 34 (.agg #[.int .i64 W, .int .i64 H, .string C, .int .i64 T, .string A, .string B, .int .i64 v, .int .i64 d]) (.agg #[.int .i64 W, .int .i64 H, .string C, .int .i64 T, .string A, .string B, .int .i64 v, .int .i64 d])).run Tryz.prog w = .ok true w := by
  rw [run_equalIn_agg w 9999 34 _ _ (by kernel_rfl) (by kernel_rfl)]
  unfold Program.fieldsOf
  rw [Tryz.underlying34]
  simp [go_sem, eqPos9, samePos_refl]

set_option maxHeartbeats 4000000 in
set_option maxRecDepth 100000 in
theorem SameE_same (va vb : Value) (base : Nat) (ts : List (Po × Int × Int)) (w : World) (ha : w.ownsRow base 34 8 va ts.length (evs ts)) (hb : w.ownsRow base 34 8 vb ts.length (evs ts)) :
    Calls Tryz.prog 7 #[va, vb] w fun e w' => e = .returned (.bool true) ∧ Below w.heap.size w w' := by
  have key : ∀ {v : Value}, w.ownsRow base 34 8 v ts.length (evs ts) → ∃ o c, v = .slice o ts.length c ∧ ts.length ≤ c ∧ c ≤ maxLen ∧ ∀ (k : Nat) (e : Po × Int × Int), ts[k]? = some e → ∃ g, o = some ⟨g, 0, none⟩ ∧ ∀ u, Below w.heap.size w u → ∀ j, j < 8 → u.cell? ⟨g, k * 8 + j, none⟩ = (encE e)[j]? := fun {v} h => by
    rcases h.2 with ⟨e1, h0⟩ | ⟨g, cap, cur, e1, hb1, hg, h1, h2, -⟩
    · refine ⟨none, 0, by rw [e1, h0], by omega, by unfold maxLen; omega, fun k e hk => ?_⟩
      have := (List.getElem?_eq_some_iff.1 hk).1
      omega
    · subst e1
      refine ⟨_, cap, rfl, h1, h2, fun k e hk => ⟨g, rfl, fun u hu j hj => ?_⟩⟩
      have hkl := (List.getElem?_eq_some_iff.1 hk).1
      have hgl : g < w.heap.size := (Array.getElem?_eq_some_iff.1 hg).1
      rw [World.cell?_of_block (a := ⟨g, k * 8 + j, none⟩) (hu.block g hgl), h.cellAt (k * 8 + j) (by omega)]
      exact fm_at (f := encE) (c := 8) (fun _ => rfl) ts k j e hk hj
  obtain ⟨ao, cap, rfl, hle, hmx, hcs⟩ := key ha
  obtain ⟨bo, cap', rfl, hle', hmx', hcs'⟩ := key hb
  obtain ⟨n, hn⟩ : ∃ n, n = ts.length := ⟨_, rfl⟩
  rw [← hn] at hle hle' ⊢
  unfold maxLen at hmx hmx'
  have hnx : n ≤ 9223372036854775807 := by omega
  have HN := hide hn
  have HCS := hide hcs
  have HCS' := hide hcs'
  clear hn hcs hcs' key ha hb
  go_enter Tryz.func7, Tryz.ntmps7
  go_wp2
  go_loopw [13] (fun iv wr => ∃ k : Nat, iv = .int .i64 (k : Int) ∧ k ≤ n ∧ Below w.heap.size w wr) (fun iv _ => n - (intOf iv).toNat)
  case atStart => exact ⟨0, rfl, Nat.zero_le _, Below.refl _ _⟩
  case round =>
    obtain ⟨k, rfl, hk, hbw⟩ := hrel
    by_cases hlt : k < n
    · have hlti : (k : Int) < (n : Int) := by omega
      have hk0 : (0 : Int) ≤ (k : Int) := by omega
      have hkl : k < ts.length := by rw [← unhide HN]; exact hlt
      obtain ⟨m, hm⟩ : ∃ m, m = ts[k] := ⟨_, rfl⟩
      have hmk : ts[k]? = some m := by rw [hm]; exact List.getElem?_eq_getElem hkl
      obtain ⟨g, eg, cg⟩ := unhide HCS k m hmk
      obtain ⟨g', eg', cg'⟩ := unhide HCS' k m hmk
      subst eg
      subst eg'
      have d0 := cg _ hbw 0 (by omega)
      have d1 := cg _ hbw 1 (by omega)
      have d2 := cg _ hbw 2 (by omega)
      have d3 := cg _ hbw 3 (by omega)
      have d4 := cg _ hbw 4 (by omega)
      have d5 := cg _ hbw 5 (by omega)
      have d6 := cg _ hbw 6 (by omega)
      have d7 := cg _ hbw 7 (by omega)
      have f0 := cg' _ hbw 0 (by omega)
      have f1 := cg' _ hbw 1 (by omega)
      have f2 := cg' _ hbw 2 (by omega)
      have f3 := cg' _ hbw 3 (by omega)
      have f4 := cg' _ hbw 4 (by omega)
      have f5 := cg' _ hbw 5 (by omega)
      have f6 := cg' _ hbw 6 (by omega)
      have f7 := cg' _ hbw 7 (by omega)
      rw [Nat.add_zero] at d0 f0
      simp only [encE, List.getElem?_cons_zero, List.getElem?_cons_succ] at d0 d1 d2 d3 d4 d5 d6 d7 f0 f1 f2 f3 f4 f5 f6 f7
      have he := fun u => eqEntry u m.1.W m.1.H m.1.T m.1.C m.1.A m.1.B m.2.1 m.2.2
      have HBW := hide hbw
      clear hm hmk cg cg' hbw
      go_wp2_with fail
      go_quiet (fail)
      go_wp2
      go_roundw
      case rel => exact ⟨k + 1, by go_num, by omega, ⟨(unhide HBW).os, (unhide HBW).tape, (unhide HBW).output, (unhide HBW).size, (unhide HBW).block⟩⟩
      case measure => simp only [intOf]; omega
    · have hlti : ¬ (k : Int) < (n : Int) := by omega
      have HBW := hide hbw
      clear hbw
      go_wp2
      go_ret
      exact ⟨rfl, unhide HBW⟩
end Go.Proofs.YtbijadnekoeofaaGreatDoor

namespace Go.Proofs.YtbijadnekoeofaaGreatDoor
open Go.RowKit
attribute [local go_sem ↓] Go.wp_at_zero Go.wp_at_succ

set_option maxHeartbeats 1000000 in
set_option maxRecDepth 100000 in
theorem tabled_no (v0 v1 v2 v3 v4 v5 v6 v7 v8 v9 v10 v11 v12 : Value) (R : Bool) (most : Int) (w : World) (hno : R = false ∨ most < 1 ∨ 5000 < most)
    (hRu : ∀ u, Below w.heap.size w u → Calls Tryz.prog 17 #[.agg #[v0, v1, v2, v3, v4, v5, v6, v7, v8, v9, v10, v11, v12]] u fun e w' => e = .returned (.bool R) ∧ Below u.heap.size u w') :
    Calls Tryz.prog 6 #[.agg #[v0, v1, v2, v3, v4, v5, v6, v7, v8, v9, v10, v11, v12], .int .i64 most] w fun e w' => e = .returned (.tuple #[.slice none 0 0, .int .i64 1]) ∧ Below w.heap.size w w' := by
  obtain ⟨w1, hw1⟩ : ∃ w1, w1 = w.alloc (.cells #[v0, v1, v2, v3, v4, v5, v6, v7, v8, v9, v10, v11, v12] 27 (0, 0)) := ⟨_, rfl⟩
  have b1 : Below w.heap.size w w1 := by rw [hw1]; exact (Below.refl _ _).alloc (Nat.le_refl _) _
  have hru1 : isRu w1 w.heap.size v0 v1 v2 v3 v4 v5 v6 v7 v8 v9 v10 v11 v12 := by rw [hw1]; exact heap_alloc_new w _
  have HCK := hide (hRu w1 b1)
  obtain ⟨r0, r1, r2, r3, r4, r5, r6, r7, r8, r9, r10, r11, r12⟩ := hru1.cells
  have HW1 := hide hw1
  have HB1 := hide b1
  clear hw1 b1 hru1 hRu
  cases R with
  | false =>
    clear hno
    go_enter Tryz.func6, Tryz.ntmps6
    go_upto_region 1 with fail
    rw [← unhide HW1]
    clear HW1
    go_wp2_with fail
    refine (unhide HCK).mono ?_
    rintro e w2 ⟨rfl, hb2⟩
    have HB2 : Hid (Below w.heap.size w w2) := hide ((unhide HB1).trans (hb2.mono (unhide HB1).size))
    clear hb2 r0 r1 r2 r3 r4 r5 r6 r7 r8 r9 r10 r11 r12 HCK
    go_wp2
    refine bodyPost_ret (v := .tuple #[.slice none 0 0, .int .i64 1]) (by simp [results, Tryz.results6, go_sem]) rfl ?_
    exact ⟨rfl, unhide HB2⟩
  | true =>
    by_cases h1 : most < 1
    · clear hno
      go_enter Tryz.func6, Tryz.ntmps6
      go_upto_region 1 with fail
      rw [← unhide HW1]
      clear HW1
      go_wp2_with fail
      refine (unhide HCK).mono ?_
      rintro e w2 ⟨rfl, hb2⟩
      have HB2 : Hid (Below w.heap.size w w2) := hide ((unhide HB1).trans (hb2.mono (unhide HB1).size))
      clear hb2 r0 r1 r2 r3 r4 r5 r6 r7 r8 r9 r10 r11 r12 HCK
      go_wp2
      refine bodyPost_ret (v := .tuple #[.slice none 0 0, .int .i64 1]) (by simp [results, Tryz.results6, go_sem]) rfl ?_
      exact ⟨rfl, unhide HB2⟩
    · have h2 : 5000 < most := by rcases hno with h | h | h; cases h; exact absurd h h1; exact h
      clear hno
      go_enter Tryz.func6, Tryz.ntmps6
      go_upto_region 1 with fail
      rw [← unhide HW1]
      clear HW1
      go_wp2_with fail
      refine (unhide HCK).mono ?_
      rintro e w2 ⟨rfl, hb2⟩
      have HB2 : Hid (Below w.heap.size w w2) := hide ((unhide HB1).trans (hb2.mono (unhide HB1).size))
      clear hb2 r0 r1 r2 r3 r4 r5 r6 r7 r8 r9 r10 r11 r12 HCK
      go_wp2
      refine bodyPost_ret (v := .tuple #[.slice none 0 0, .int .i64 1]) (by simp [results, Tryz.results6, go_sem]) rfl ?_
      exact ⟨rfl, unhide HB2⟩

/-- A row of entries, and an error. -/
structure EnP (P : Int → List (Po × Int × Int) → Prop) (w : World) (e : Ending) (w' : World) : Prop where
  out : ∃ va c ts, e = .returned (.tuple #[va, .int .i64 c]) ∧ w'.ownsRow w.heap.size 34 8 va ts.length (evs ts) ∧ P c ts
  bw : Below w.heap.size w w'

set_option maxHeartbeats 1000000 in
set_option maxRecDepth 100000 in
theorem law_tm (v0 v1 v2 v3 v4 v5 v6 v7 v8 v9 v10 v11 v12 : Value) (most : Int) (P P' : Int → List (Po × Int × Int) → Prop) (w : World) (hsame : ∀ c ts c' ts', P c ts → P' c' ts' → c = c' ∧ ts = ts')
    (hMk : ∀ u, Below w.heap.size w u → Calls Tryz.prog 5 #[.agg #[v0, v1, v2, v3, v4, v5, v6, v7, v8, v9, v10, v11, v12], .int .i64 most] u (EnP P u))
    (hTd : ∀ u, Below w.heap.size w u → Calls Tryz.prog 6 #[.agg #[v0, v1, v2, v3, v4, v5, v6, v7, v8, v9, v10, v11, v12], .int .i64 most] u (EnP P' u)) :
    Calls Tryz.prog 3 #[.agg #[v0, v1, v2, v3, v4, v5, v6, v7, v8, v9, v10, v11, v12], .int .i64 most] w fun e w' => e = .returned (.bool true) ∧ Below w.heap.size w w' := by
  obtain ⟨w1, hw1⟩ : ∃ w1, w1 = w.alloc (.cells #[v0, v1, v2, v3, v4, v5, v6, v7, v8, v9, v10, v11, v12] 27 (0, 0)) := ⟨_, rfl⟩
  have b1 : Below w.heap.size w w1 := by rw [hw1]; exact (Below.refl _ _).alloc (Nat.le_refl _) _
  have s1 : w1.heap.size = w.heap.size + 1 := by rw [hw1]; simp
  have hru1 : isRu w1 w.heap.size v0 v1 v2 v3 v4 v5 v6 v7 v8 v9 v10 v11 v12 := by rw [hw1]; exact heap_alloc_new w _
  have HMK := hide (hMk w1 b1)
  have HTD := hide (fun u (hu : Below w1.heap.size w1 u) => hTd u (b1.trans (hu.mono (by omega))))
  have HRU := hide (fun u (hu : Below w1.heap.size w1 u) => hru1.below hu (by omega))
  have HSM := hide hsame
  have HB1 := hide b1
  obtain ⟨r0, r1, r2, r3, r4, r5, r6, r7, r8, r9, r10, r11, r12⟩ := hru1.cells
  have HW1 := hide hw1
  clear hw1 b1 s1 hru1 hMk hTd hsame
  go_enter Tryz.func3, Tryz.ntmps3
  go_upto_region 1 with fail
  rw [← unhide HW1]
  clear HW1
  go_wp2_with fail
  refine (unhide HMK).mono ?_
  rintro e w2 ⟨⟨va, c, ts, rfl, hrow, hP⟩, hb2⟩
  clear r0 r1 r2 r3 r4 r5 r6 r7 r8 r9 r10 r11 r12 HMK
  obtain ⟨r0, r1, r2, r3, r4, r5, r6, r7, r8, r9, r10, r11, r12⟩ := (unhide HRU w2 hb2).cells
  have HT := hide (unhide HTD w2 hb2)
  have HROW := hide hrow
  have HP := hide hP
  have HB2 := hide hb2
  clear hrow hP hb2 HTD HRU
  go_wp2_with fail
  refine (unhide HT).mono ?_
  rintro e w3 ⟨⟨vb, c', ts', rfl, hrow', hP'⟩, hb3⟩
  obtain ⟨hc, ht⟩ := unhide HSM c ts c' ts' (unhide HP) hP'
  subst hc
  subst ht
  have hra : w3.ownsRow w1.heap.size 34 8 va ts.length (evs ts) := row_same (unhide HROW) (fun g hg => hb3.block g (row_block (unhide HROW) hg).2)
  have hrb : w3.ownsRow w1.heap.size 34 8 vb ts.length (evs ts) := rowBaseT hrow' (unhide HB2).size
  have HS := hide (SameE_same va vb w1.heap.size ts w3 hra hrb)
  have HB3 : Hid (Below w.heap.size w w3) := hide (((unhide HB1).trans ((unhide HB2).mono (unhide HB1).size)).trans (hb3.mono (Nat.le_trans (unhide HB1).size (unhide HB2).size)))
  have hcc : (c == c) = true := by simp
  clear hrow' hP' hb3 hra hrb HROW HP HT HSM r0 r1 r2 r3 r4 r5 r6 r7 r8 r9 r10 r11 r12
  go_wp2_with fail
  refine (unhide HS).mono ?_
  rintro e w4 ⟨rfl, hb4⟩
  have HB4 : Hid (Below w.heap.size w w4) := hide ((unhide HB3).trans (hb4.mono (unhide HB3).size))
  clear hb4
  go_wp2
  go_ret
  exact ⟨rfl, unhide HB4⟩
end Go.Proofs.YtbijadnekoeofaaGreatDoor
