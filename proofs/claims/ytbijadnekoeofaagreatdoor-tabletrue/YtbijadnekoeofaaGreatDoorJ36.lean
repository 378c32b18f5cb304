/-
  A row of entries in memory that is changed here and there; rows of rows of numbers (for gameref.Tabled).
  '==' between entries; the law's Same, of the same entries.
  gameref.Tabled at wrong rules or numbers; gamelaw.TableMakes over what both sides come to.
  gameref.Tabled: plain mathematics: the numbers of what each leads to stay; lists of entries.
  gameref.Tabled: what holds in memory while the positions are gone through.
-/
import Derived.Test.YtbijadnekoeofaaGreatDoorJ30
import Derived.Test.YtbijadnekoeofaaGreatDoorJ31
import Derived.Test.YtbijadnekoeofaaGreatDoorJ35
import Derived.Test.YtbijadnekoeofaaGreatDoorJ4
import Derived.Test.YtbijadnekoeofaaGreatDoorJ8
import Derived.Test.YtbijadnekoeofaaGreatDoorJ33
import Derived.Test.YtbijadnekoeofaaGreatDoorV13
namespace Go.Proofs.YtbijadnekoeofaaGreatDoor
open Go.RowKit

theorem rowBaseT {w : World} {base base' : Nat} {e : TypeId} {size n : Nat} {v : Value} {xs : List Value} (h : w.ownsRow base e size v n xs) (hb : base' ≤ base) : w.ownsRow base' e size v n xs := by
  obtain ⟨h1, h2⟩ := h
  refine ⟨h1, ?_⟩
  rcases h2 with h2 | ⟨g, cap, cur, e1, hb2, r⟩
  · exact .inl h2
  · exact .inr ⟨g, cap, cur, e1, by omega, r⟩
theorem rowCellT {w : World} {base : Nat} {e : TypeId} {size n cap g : Nat} {xs : List Value} (h : w.ownsRow base e size (.slice (some ⟨g, 0, none⟩) n cap) n xs) (j : Nat) (hj : j < n * size) : (∃ u, w.cell? ⟨g, j, none⟩ = some u) ∧ w.frozen? ⟨g, j, none⟩ = false := by
  have hl : xs.length = n * size := h.1
  exact ⟨⟨xs[j]'(by omega), (h.cellAt j hj).trans (List.getElem?_eq_getElem (by omega))⟩, h.frozenAt _⟩

/-- A row of N entries, of which the first ones are told. -/
structure EnR (u : World) (base g N : Nat) (ts : List (Po × Int × Int)) (r : List Value) : Prop where
  len : ts.length * 8 + r.length = N * 8
  row : u.ownsRow base 34 8 (.slice (some ⟨g, 0, none⟩) N N) N (evs ts ++ r)
section
variable {u u' : World} {base g N : Nat} {ts : List (Po × Int × Int)} {r : List Value}
theorem EnR.lt (h : EnR u base g N ts r) : base ≤ g ∧ g < u.heap.size := row_block h.row rfl
theorem EnR.cell (h : EnR u base g N ts r) {i : Nat} {e : Po × Int × Int} (hi : ts[i]? = some e) (c : Nat) (hc : c < 8) : u.cell? ⟨g, i * 8 + c, none⟩ = (encE e)[c]? ∧ u.frozen? ⟨g, i * 8 + c, none⟩ = false := by
  have hil := (List.getElem?_eq_some_iff.1 hi).1
  have hl := h.len
  refine ⟨?_, h.row.frozenAt _⟩
  rw [h.row.cellAt (i * 8 + c) (by omega), List.getElem?_append_left (by rw [evs_len]; omega)]
  exact fm_at (f := encE) (c := 8) (fun _ => rfl) ts i c e hi hc
theorem EnR.any (h : EnR u base g N ts r) (j : Nat) (hj : j < N * 8) : (∃ t, u.cell? ⟨g, j, none⟩ = some t) ∧ u.frozen? ⟨g, j, none⟩ = false := rowCellT h.row j hj
theorem EnR.off (h : EnR u base g N ts r) {b : Nat} (hg : u.grownBy u' (some b)) (hne : g ≠ b) : EnR u' base g N ts r := ⟨h.len, row_off h.row hg (by simpa [Value.ownBlock] using hne)⟩
theorem EnR.keep (h : EnR u base g N ts r) (hb : u'.heap[g]? = u.heap[g]?) : EnR u' base g N ts r := by
  refine ⟨h.len, h.row.1, ?_⟩
  rcases h.row.2 with ⟨e, _⟩ | ⟨g', cap, cur, e, h1, h2, r⟩
  · simp at e
  · have e' := e
    simp only [Value.slice.injEq, Option.some.injEq, Addr.mk.injEq, and_true, true_and] at e'
    obtain ⟨rfl, -⟩ := e'
    exact .inr ⟨g, cap, cur, e, h1, hb.trans h2, r⟩
theorem EnR.below (h : EnR u base g N ts r) (hb : Below u.heap.size u u') : EnR u' base g N ts r := h.keep (hb.block g h.lt.2)
/-- One number of an entry changes. -/
theorem EnR.put (h : EnR u base g N ts r) {i : Nat} {e e' : Po × Int × Int} (hi : ts[i]? = some e) (c : Nat) (hc : c < 8) (v : Value) (hv : encE e' = (encE e).set c v) : EnR (u.setCell ⟨g, i * 8 + c, none⟩ v) base g N (ts.set i e') r ∧ u.grownBy (u.setCell ⟨g, i * 8 + c, none⟩ v) (some g) := by
  have hil := (List.getElem?_eq_some_iff.1 hi).1
  obtain ⟨h1, h2⟩ := h.row.stored (i * 8 + c) v
  refine ⟨⟨by rw [List.length_set]; exact h.len, ?_⟩, h2⟩
  rw [List.set_append_left _ _ (by rw [evs_len]; omega), show (evs ts).set (i * 8 + c) v = evs (ts.set i e') from fm_set (f := encE) (c := 8) (fun _ => rfl) ts i c e e' v hi hc hv] at h1
  exact h1
/-- What it is worth. -/
theorem EnR.val (h : EnR u base g N ts r) {i : Nat} {e : Po × Int × Int} (hi : ts[i]? = some e) (v : Int) : EnR (u.setCell ⟨g, i * 8 + 6, none⟩ (.int .i64 v)) base g N (ts.set i (e.1, v, e.2.2)) r ∧ u.grownBy (u.setCell ⟨g, i * 8 + 6, none⟩ (.int .i64 v)) (some g) :=
  h.put hi 6 (by omega) _ rfl
/-- One more. -/
theorem EnR.push (h : EnR u base g N ts r) (q : Po × Int × Int) (i : Nat) (hi : i = ts.length) (hN : i < N) :
    EnR ((((((((u.setCell ⟨g, i * 8, none⟩ (.int .i64 q.1.W)).setCell ⟨g, i * 8 + 1, none⟩ (.int .i64 q.1.H)).setCell ⟨g, i * 8 + 2, none⟩ (.string q.1.C)).setCell ⟨g, i * 8 + 3, none⟩ (.int .i64 q.1.T)).setCell ⟨g, i * 8 + 4, none⟩ (.string q.1.A)).setCell ⟨g, i * 8 + 5, none⟩ (.string q.1.B)).setCell ⟨g, i * 8 + 6, none⟩ (.int .i64 q.2.1)).setCell ⟨g, i * 8 + 7, none⟩ (.int .i64 q.2.2)) base g N (ts ++ [q]) (r.drop 8) ∧
    u.grownBy ((((((((u.setCell ⟨g, i * 8, none⟩ (.int .i64 q.1.W)).setCell ⟨g, i * 8 + 1, none⟩ (.int .i64 q.1.H)).setCell ⟨g, i * 8 + 2, none⟩ (.string q.1.C)).setCell ⟨g, i * 8 + 3, none⟩ (.int .i64 q.1.T)).setCell ⟨g, i * 8 + 4, none⟩ (.string q.1.A)).setCell ⟨g, i * 8 + 5, none⟩ (.string q.1.B)).setCell ⟨g, i * 8 + 6, none⟩ (.int .i64 q.2.1)).setCell ⟨g, i * 8 + 7, none⟩ (.int .i64 q.2.2)) (some g) := by
  have hl := h.len
  obtain ⟨h1, h2⟩ := row_set8 q 34 h.row (by omega) (i * 8) (by rw [hi])
  exact ⟨⟨by rw [List.length_append, List.length_drop, List.length_singleton]; omega, h1⟩, h2⟩
/-- An entry is another one. -/
theorem EnR.whole (h : EnR u base g N ts r) {i : Nat} {e : Po × Int × Int} (hi : ts[i]? = some e) (q : Po × Int × Int) :
    EnR ((((((((u.setCell ⟨g, i * 8, none⟩ (.int .i64 q.1.W)).setCell ⟨g, i * 8 + 1, none⟩ (.int .i64 q.1.H)).setCell ⟨g, i * 8 + 2, none⟩ (.string q.1.C)).setCell ⟨g, i * 8 + 3, none⟩ (.int .i64 q.1.T)).setCell ⟨g, i * 8 + 4, none⟩ (.string q.1.A)).setCell ⟨g, i * 8 + 5, none⟩ (.string q.1.B)).setCell ⟨g, i * 8 + 6, none⟩ (.int .i64 q.2.1)).setCell ⟨g, i * 8 + 7, none⟩ (.int .i64 q.2.2)) base g N (ts.set i q) r ∧
    u.grownBy ((((((((u.setCell ⟨g, i * 8, none⟩ (.int .i64 q.1.W)).setCell ⟨g, i * 8 + 1, none⟩ (.int .i64 q.1.H)).setCell ⟨g, i * 8 + 2, none⟩ (.string q.1.C)).setCell ⟨g, i * 8 + 3, none⟩ (.int .i64 q.1.T)).setCell ⟨g, i * 8 + 4, none⟩ (.string q.1.A)).setCell ⟨g, i * 8 + 5, none⟩ (.string q.1.B)).setCell ⟨g, i * 8 + 6, none⟩ (.int .i64 q.2.1)).setCell ⟨g, i * 8 + 7, none⟩ (.int .i64 q.2.2)) (some g) := by
  have hil := (List.getElem?_eq_some_iff.1 hi).1
  obtain ⟨⟨pw, ph, pc, pt, pa, pb⟩, pv, pd⟩ := e
  obtain ⟨⟨qw, qh, qc, qt, qa, qb⟩, qv, qd⟩ := q
  obtain ⟨h0, g0⟩ := h.put (e' := (⟨qw, ph, pc, pt, pa, pb⟩, pv, pd)) hi 0 (by omega) (.int .i64 qw) rfl
  rw [Nat.add_zero] at h0 g0
  obtain ⟨h1, g1⟩ := h0.put (i := i) (e' := (⟨qw, qh, pc, pt, pa, pb⟩, pv, pd)) (List.getElem?_set_self hil) 1 (by omega) (.int .i64 qh) rfl
  rw [List.set_set] at h1
  obtain ⟨h2, g2⟩ := h1.put (i := i) (e' := (⟨qw, qh, qc, pt, pa, pb⟩, pv, pd)) (List.getElem?_set_self hil) 2 (by omega) (.string qc) rfl
  rw [List.set_set] at h2
  obtain ⟨h3, g3⟩ := h2.put (i := i) (e' := (⟨qw, qh, qc, qt, pa, pb⟩, pv, pd)) (List.getElem?_set_self hil) 3 (by omega) (.int .i64 qt) rfl
  rw [List.set_set] at h3
  obtain ⟨h4, g4⟩ := h3.put (i := i) (e' := (⟨qw, qh, qc, qt, qa, pb⟩, pv, pd)) (List.getElem?_set_self hil) 4 (by omega) (.string qa) rfl
  rw [List.set_set] at h4
  obtain ⟨h5, g5⟩ := h4.put (i := i) (e' := (⟨qw, qh, qc, qt, qa, qb⟩, pv, pd)) (List.getElem?_set_self hil) 5 (by omega) (.string qb) rfl
  rw [List.set_set] at h5
  obtain ⟨h6, g6⟩ := h5.put (i := i) (e' := (⟨qw, qh, qc, qt, qa, qb⟩, qv, pd)) (List.getElem?_set_self hil) 6 (by omega) (.int .i64 qv) rfl
  rw [List.set_set] at h6
  obtain ⟨h7, g7⟩ := h6.put (i := i) (e' := (⟨qw, qh, qc, qt, qa, qb⟩, qv, qd)) (List.getElem?_set_self hil) 7 (by omega) (.int .i64 qd) rfl
  rw [List.set_set] at h7
  refine ⟨h7, ?_⟩
  have k1 := g0.andThen g1 (fun k hk => .inr hk)
  have k2 := k1.andThen g2 (fun k hk => .inr hk)
  have k3 := k2.andThen g3 (fun k hk => .inr hk)
  have k4 := k3.andThen g4 (fun k hk => .inr hk)
  have k5 := k4.andThen g5 (fun k hk => .inr hk)
  have k6 := k5.andThen g6 (fun k hk => .inr hk)
  exact k6.andThen g7 (fun k hk => .inr hk)
end

/-- Blocks of unlike elements are unlike. -/
theorem row_type {w : World} {base b : Nat} {e e' : TypeId} {size n : Nat} {v : Value} {xs : List Value} {cs : Array Value} {f : Nat × Nat} (h : w.ownsRow base e size v n xs) (hm : w.heap[b]? = some (.cells cs e' f)) (hne : e ≠ e') : v.ownBlock ≠ some b := by
  intro hb
  rcases h.2 with ⟨e1, _⟩ | ⟨g', cap, cur, e1, _, hg', _⟩
  · subst e1; simp [Value.ownBlock] at hb
  · subst e1
    simp only [Value.ownBlock, Option.some.injEq] at hb
    subst hb
    rw [hm] at hg'
    simp only [Option.some.injEq, Obj.cells.injEq] at hg'
    exact hne hg'.2.1.symm
theorem row_types {w : World} {base base' : Nat} {e e' : TypeId} {size size' n n' : Nat} {v v' : Value} {xs xs' : List Value} (h : w.ownsRow base e size v n xs) (h' : w.ownsRow base' e' size' v' n' xs') (hne : e ≠ e') {b : Nat} (hb : v'.ownBlock = some b) : v.ownBlock ≠ some b := by
  rcases h'.2 with ⟨e1, _⟩ | ⟨g', cap, cur, e1, _, hg', _⟩
  · subst e1; simp [Value.ownBlock] at hb
  · subst e1
    simp only [Value.ownBlock, Option.some.injEq] at hb
    subst hb
    exact row_type h hg' hne
theorem row_same {w w' : World} {base : Nat} {e : TypeId} {size n : Nat} {v : Value} {xs : List Value} (h : w.ownsRow base e size v n xs) (hk : ∀ g, v.ownBlock = some g → w'.heap[g]? = w.heap[g]?) : w'.ownsRow base e size v n xs := by
  obtain ⟨h1, h2⟩ := h
  refine ⟨h1, ?_⟩
  rcases h2 with h2 | ⟨g, cap, cur, e1, hb, hg', r⟩
  · exact .inl h2
  · subst e1
    exact .inr ⟨g, cap, cur, rfl, hb, (hk g rfl).trans hg', r⟩

/-- Rows of numbers in a row. -/
def NxR (u : World) (base : Nat) (v : Value) (L : List (List Nat)) : Prop :=
  ∃ vs : List Value, u.ownsRow base 52 1 v L.length vs ∧ ∀ (j : Nat) (l : List Nat), L[j]? = some l → ∃ x, vs[j]? = some x ∧ u.ownsRow base 3 1 x l.length (ivs l)
section
variable {u u' : World} {base : Nat} {v : Value} {L : List (List Nat)}
theorem NxR.same (h : NxR u base v L) {P : Nat → Prop} (hk : ∀ g, g < u.heap.size → P g → u'.heap[g]? = u.heap[g]?) (h1 : ∀ (n : Nat) (x : Value) (xs : List Value), u.ownsRow base 52 1 x n xs → ∀ g, x.ownBlock = some g → P g) (h2 : ∀ (n : Nat) (x : Value) (xs : List Value), u.ownsRow base 3 1 x n xs → ∀ g, x.ownBlock = some g → P g) : NxR u' base v L := by
  obtain ⟨vs, hr, hl⟩ := h
  refine ⟨vs, row_same hr (fun g hg => hk g (row_block hr hg).2 (h1 _ _ _ hr g hg)), fun j l hj => ?_⟩
  obtain ⟨x, hx, hrx⟩ := hl j l hj
  exact ⟨x, hx, row_same hrx (fun g hg => hk g (row_block hrx hg).2 (h2 _ _ _ hrx g hg))⟩
theorem NxR.below (h : NxR u base v L) (hb : Below u.heap.size u u') : NxR u' base v L :=
  h.same (P := fun _ => True) (fun g hg _ => hb.block g hg) (fun _ _ _ _ _ _ => trivial) (fun _ _ _ _ _ _ => trivial)
/-- A block of other things changes. -/
theorem NxR.off (h : NxR u base v L) {b : Nat} {cs : Array Value} {e : TypeId} {f : Nat × Nat} (hb : u.heap[b]? = some (.cells cs e f)) (h1 : 52 ≠ e) (h2 : 3 ≠ e) (hg : u.grownBy u' (some b)) : NxR u' base v L :=
  h.same (P := fun g => g ≠ b) (fun g hgl hne => hg.block g hgl (by simpa using hne)) (fun _ _ _ hr g hgb e2 => row_type hr hb h1 (by rw [hgb, e2])) (fun _ _ _ hr g hgb e2 => row_type hr hb h2 (by rw [hgb, e2]))
theorem NxR.nil (w : World) (base : Nat) : NxR w base (.slice none 0 0) [] := ⟨[], ⟨rfl, .inl ⟨rfl, rfl⟩⟩, fun j l hj => by simp at hj⟩
/-- What stands at a place. -/
theorem NxR.at_ (h : NxR u base v L) {j : Nat} {l : List Nat} (hj : L[j]? = some l) : ∃ g cap, v = .slice (some ⟨g, 0, none⟩) L.length cap ∧ L.length ≤ cap ∧ cap ≤ maxLen ∧ ∃ o c, l.length ≤ c ∧ c ≤ maxLen ∧ u.cell? ⟨g, j, none⟩ = some (.slice o l.length c) ∧ (∀ (k x : Nat), l[k]? = some x → ∃ gl, o = some ⟨gl, 0, none⟩ ∧ u.cell? ⟨gl, k, none⟩ = some (.int .i64 (x : Int))) := by
  obtain ⟨vs, hr, hl⟩ := h
  have hjl := (List.getElem?_eq_some_iff.1 hj).1
  obtain ⟨x, hx, hrx⟩ := hl j l hj
  rcases hr.2 with ⟨_, h0⟩ | ⟨g, cap, cur, e, hb, hg, h1, h2, _⟩
  · omega
  · subst e
    refine ⟨g, cap, rfl, h1, h2, ?_⟩
    have hc : u.cell? ⟨g, j, none⟩ = some x := by rw [hr.cellAt j (by omega), hx]
    rcases hrx.2 with ⟨e1, h0⟩ | ⟨gl, cl, curl, e1, hbl, hgl, k1, k2, _⟩
    · refine ⟨none, 0, by omega, by unfold maxLen; omega, by rw [hc, e1, h0], fun k y hk => ?_⟩
      have := (List.getElem?_eq_some_iff.1 hk).1
      omega
    · subst e1
      refine ⟨some ⟨gl, 0, none⟩, cl, k1, k2, hc, fun k y hk => ⟨gl, rfl, ?_⟩⟩
      have hkl := (List.getElem?_eq_some_iff.1 hk).1
      rw [hrx.cellAt k (by omega)]
      simp [ivs, hk]
end
end Go.Proofs.YtbijadnekoeofaaGreatDoor

namespace Go.Proofs.YtbijadnekoeofaaGreatDoor
open Go.RowKit
attribute [local go_sem ↓] Go.wp_at_zero Go.wp_at_succ

end Go.Proofs.YtbijadnekoeofaaGreatDoor

namespace Go.Proofs.YtbijadnekoeofaaGreatDoor
open Go.RowKit
attribute [local go_sem ↓] Go.wp_at_zero Go.wp_at_succ

/-- A row of entries, and an error. -/
structure EnP (P : Int → List (Po × Int × Int) → Prop) (w : World) (e : Ending) (w' : World) : Prop where
  out : ∃ va c ts, e = .returned (.tuple #[va, .int .i64 c]) ∧ w'.ownsRow w.heap.size 34 8 va ts.length (evs ts) ∧ P c ts
  bw : Below w.heap.size w w'

end Go.Proofs.YtbijadnekoeofaaGreatDoor

namespace Go.Proofs.YtbijadnekoeofaaGreatDoor

section
variable {nx : Po → List Po} {s : Po}
/-- What each of the first i leads to, by number. -/
def nxL (nx : Po → List Po) (s : Po) (i : Nat) : List (List Nat) := (List.range i).map (nxtG nx (bfsN nx s i))
theorem nxL_len (i : Nat) : (nxL nx s i).length = i := by simp [nxL]
theorem nxtG_stay {i a : Nat} (ha : a < i) (hbl : ∀ a, a < i → a < (bfsN nx s a).length) (hil : i < (bfsN nx s i).length) : nxtG nx (bfsN nx s (i + 1)) a = nxtG nx (bfsN nx s i) a := by
  obtain ⟨r, hr⟩ := bfs_pre (nx := nx) (s := s) i
  have h1 : sucL nx (bfsN nx s (i + 1)) a = sucL nx (bfsN nx s i) a := by rw [hr]; exact suc_pre (by omega)
  unfold nxtG
  rw [h1]
  apply List.map_congr_left
  intro q hq
  unfold sucL at hq
  split at hq
  · rename_i p hp
    have := bfs_there ha hp (hbl a ha) hq
    rw [hr, idx_pre this]
  · simp at hq
theorem nxL_step {i : Nat} {p : Po} (hbl : ∀ a, a < i → a < (bfsN nx s a).length) (hp : (bfsN nx s i)[i]? = some p) : nxL nx s (i + 1) = nxL nx s i ++ [(nx p).map (bfsN nx s (i + 1)).idxOf] := by
  have hil := (List.getElem?_eq_some_iff.1 hp).1
  unfold nxL
  rw [List.range_succ, List.map_append]
  congr 1
  · apply List.map_congr_left
    intro a ha
    exact nxtG_stay (List.mem_range.1 ha) hbl hil
  · obtain ⟨r, hr⟩ := bfs_pre (nx := nx) (s := s) i
    simp only [List.map_cons, List.map_nil]
    unfold nxtG
    rw [show sucL nx (bfsN nx s (i + 1)) i = nx p by rw [hr, suc_pre hil]; unfold sucL; rw [hp]]
end

/-! Entries. -/
def enF (all : List Po) (A : Nat → Nat × Nat) : List (Po × Int × Int) := all.mapIdx fun j p => (p, ((A j).1 : Int), ((A j).2 : Int))
section
variable {all : List Po} {A B : Nat → Nat × Nat}
theorem enF_len : (enF all A).length = all.length := by simp [enF]
theorem enF_get (i : Nat) : (enF all A)[i]? = (all[i]?).map fun p => (p, ((A i).1 : Int), ((A i).2 : Int)) := by
  unfold enF
  rw [List.getElem?_mapIdx]
theorem enF_pos : (enF all A).map (fun x => x.1) = all := by
  apply List.ext_getElem?
  intro i
  rw [List.getElem?_map, enF_get]
  cases all[i]? <;> rfl
end
end Go.Proofs.YtbijadnekoeofaaGreatDoor

namespace Go.Proofs.YtbijadnekoeofaaGreatDoor
open Go.RowKit

theorem infoPo : (Tryz.prog.info? 24).map (fun i => (i.zero, i.size, i.bytes)) = some (some (.agg #[.int .i64 0, .int .i64 0, .string ⟨#[]⟩, .int .i64 0, .string ⟨#[]⟩, .string ⟨#[]⟩]), 6, 72) := by kernel_rfl
theorem infoInts : (Tryz.prog.info? 52).map (fun i => (i.zero, i.size, i.bytes)) = some (some (.slice none 0 0), 1, 24) := by kernel_rfl

/-- append of what stands in a box of its own. -/
theorem app_box {u : World} {base : Nat} {t e : TypeId} {i : TypeInfo} {z : Value} {size bytes : Nat} (ht : Tryz.prog.underlying t = some (.slice e)) (hi : Tryz.prog.info? e = some i) (hz : i.zero = some z) (hsize : i.size = size) (hby : i.bytes = bytes) (hzs : z.cells.size = size) (hsz : 0 < size)
    {v : Value} {n : Nat} {xs : List Value} (h : u.ownsRow base e size v n xs) (news : List Value) (hl : news.length = size) (h1 : ∀ x ∈ news, x.oneCell' = true) (h63 : n + 1 ≤ maxLen) (hbytes : (n + 1) * bytes ≤ 140737488355328) (hbase : base ≤ u.heap.size) :
    ∃ v' u', (Builtin.append_ #[t, t] t #[v, .slice (some ⟨u.heap.size, 0, none⟩) 1 1]).run Tryz.prog (u.alloc (.cells news.toArray e (0, 0))) = .ok v' u' ∧ u'.ownsRow base e size v' (n + 1) (xs ++ news) ∧ (∀ k, k < u.heap.size → v.ownBlock ≠ some k → u'.heap[k]? = u.heap[k]?) ∧ u.heap.size ≤ u'.heap.size ∧ u'.os = u.os ∧ u'.tape = u.tape ∧ u'.output = u.output ∧
      (v'.ownBlock = v.ownBlock ∨ ∃ g, v'.ownBlock = some g ∧ u.heap.size ≤ g) := by
  have hba : Below u.heap.size u (u.alloc (.cells news.toArray e (0, 0))) := (Below.refl _ _).alloc (Nat.le_refl _) _
  have hr : (u.alloc (.cells news.toArray e (0, 0))).ownsRow base e size v n xs := row_same h (fun g hg => hba.block g (row_block h hg).2)
  obtain ⟨v', u', hrun, hrow, hg, -, hob⟩ := run_append_own_at (P := Tryz.prog) (u.alloc (.cells news.toArray e (0, 0))) base t t e i z size bytes ht hi hz hsize hby hzs hsz v n xs hr ⟨u.heap.size, 0, none⟩ 1 1 news (by omega)
    (fun a x hx => by
      have hh := heap_alloc_new u (.cells news.toArray e (0, 0))
      rw [show (⟨u.heap.size, 0, none⟩ : Addr).add a = ⟨u.heap.size, a, none⟩ by (simp [Addr.add]; try omega)]
      unfold World.cell?
      rw [hh]
      simpa using hx)
    h1 h63 hbytes (Nat.le_trans hbase hba.size)
  refine ⟨v', u', hrun, hrow, fun k hk hne => (hg.block k (Nat.lt_of_lt_of_le hk hba.size) (fun e => hne e.symm)).trans (hba.block k hk), Nat.le_trans hba.size hg.size, hg.os.trans hba.os, hg.tape.trans hba.tape, hg.output.trans hba.output, ?_⟩
  rcases hob with hob | hob
  · exact .inl hob
  · exact .inr ⟨_, hob, hba.size⟩

theorem numM.ne_row {u : World} {b s base n size : Nat} {all : List Po} {e : TypeId} {v : Value} {xs : List Value} (h : numM u b all s) (hr : u.ownsRow base e size v n xs) : v.ownBlock ≠ some b := by
  obtain ⟨es, ck, hb⟩ := h.is
  exact row_map hr hb

/-- While what one leads to is gone through. (w7: the world behind Moves; gA: where the row of positions lay then.) -/
structure TbI (base b gA : Nat) (w1 w7 : World) (acc : List Po) (av tv : Value) (tl : List Nat) (u : World) : Prop where
  all : u.ownsRow base 24 6 av acc.length (povs acc)
  ab : ∀ g, av.ownBlock = some g → g = gA ∨ w7.heap.size ≤ g
  nm : numM u b acc 1
  bb : base ≤ b ∧ b < w7.heap.size
  gb : base ≤ gA ∧ gA < w7.heap.size
  tow : u.ownsRow w7.heap.size 3 1 tv tl.length (ivs tl)
  fr : ∀ k, k < w7.heap.size → k ≠ gA → k ≠ b → u.heap[k]? = w7.heap[k]?
  sz : w7.heap.size ≤ u.heap.size
  bw : Below base w1 u
section
variable {base b gA : Nat} {w1 w7 u u' : World} {acc : List Po} {av tv : Value} {tl : List Nat}
theorem TbI.below (h : TbI base b gA w1 w7 acc av tv tl u) (hb : Below u.heap.size u u') : TbI base b gA w1 w7 acc av tv tl u' :=
  ⟨row_same h.all (fun g hg => hb.block g (row_block h.all hg).2), h.ab, h.nm.of_block (hb.block b h.nm.lt), h.bb, h.gb, row_same h.tow (fun g hg => hb.block g (row_block h.tow hg).2), fun k hk h1 h2 => (hb.block k (Nat.lt_of_lt_of_le hk h.sz)).trans (h.fr k hk h1 h2), Nat.le_trans h.sz hb.size,
    h.bw.trans (hb.mono (by have := h.bb; have := h.sz; omega))⟩
/-- A new position. -/
theorem TbI.new (h : TbI base b gA w1 w7 acc av tv tl u) {q : Po} (hq : q.ok) (hn : q ∉ acc) (hlen : acc.length < 100000) :
    ∃ v' u1 u2, (Builtin.append_ #[58, 58] 58 #[av, .slice (some ⟨u.heap.size, 0, none⟩) 1 1]).run Tryz.prog (u.alloc (.cells #[.int .i64 q.W, .int .i64 q.H, .string q.C, .int .i64 q.T, .string q.A, .string q.B] 24 (0, 0))) = .ok v' u1 ∧
      (Instr.mapUpdate 36 (.map (some b)) (.agg #[.int .i64 q.W, .int .i64 q.H, .string q.C, .int .i64 q.T, .string q.A, .string q.B]) (.int .i64 ((acc.length + 1 : Nat) : Int))).run Tryz.prog u1 = .ok () u2 ∧
      TbI base b gA w1 w7 (acc ++ [q]) v' tv tl u2 ∧ (∃ g c, v' = .slice (some ⟨g, 0, none⟩) (acc.length + 1) c) ∧ (∀ k, k < u.heap.size → av.ownBlock ≠ some k → u1.heap[k]? = u.heap[k]?) ∧ u.heap.size ≤ u1.heap.size ∧
      (∀ k, k < u.heap.size → av.ownBlock ≠ some k → k ≠ b → u2.heap[k]? = u.heap[k]?) ∧ u.heap.size ≤ u2.heap.size := by
  obtain ⟨i0, hinfo, hz0, hz1, hz2⟩ := info_parts infoPo
  have hus : base ≤ u.heap.size := by have := h.bb; have := h.sz; omega
  obtain ⟨v', u1, hrun, hrow, hk, hs, ho, ht, hp, hob⟩ := app_box (u := u) (base := base) Tryz.underlying58 hinfo hz0 hz1 hz2 rfl (by omega) h.all [.int .i64 q.W, .int .i64 q.H, .string q.C, .int .i64 q.T, .string q.A, .string q.B] rfl
    (fun x hx => by
      simp only [List.mem_cons, List.not_mem_nil, or_false] at hx
      rcases hx with rfl | rfl | rfl | rfl | rfl | rfl <;> rfl) (by unfold maxLen; omega) (by omega) hus
  have hnb := h.nm.ne_row h.all
  have hnm1 : numM u1 b acc 1 := h.nm.of_block (hk b h.nm.lt hnb)
  obtain ⟨u2, hrun2, hnm2, hg2⟩ := hnm1.put (p := q) (by omega) hq hn
  have hrow' : u1.ownsRow base 24 6 v' (acc ++ [q]).length (povs (acc ++ [q])) := by
    rw [List.length_append, povs_app]
    exact hrow
  have hav : ∀ g, av.ownBlock = some g → base ≤ g := fun g hg => (row_block h.all hg).1
  have hblk : ∀ k, k < u.heap.size → av.ownBlock ≠ some k → k ≠ b → u2.heap[k]? = u.heap[k]? := fun k hk1 h1 h2 => (hg2.block k (Nat.lt_of_lt_of_le hk1 hs) (by simpa using h2)).trans (hk k hk1 h1)
  have hto : ∀ g, tv.ownBlock = some g → av.ownBlock ≠ some g ∧ g ≠ b := fun g hg => ⟨row_types h.all h.tow (by decide) hg, fun e => by have := (row_block h.tow hg).1; have := h.bb.2; omega⟩
  refine ⟨v', u1, u2, hrun, hrun2, ⟨row_off hrow' hg2 (hnm1.ne_row hrow'), fun g hg => ?_, hnm2, h.bb, h.gb, row_same h.tow (fun g hg => hblk g (row_block h.tow hg).2 (hto g hg).1 (hto g hg).2), fun k hk1 h1 h2 => (hblk k (Nat.lt_of_lt_of_le hk1 h.sz) (fun e => by
      rcases h.ab k e with e1 | e1
      · exact h1 e1
      · omega) h2).trans (h.fr k hk1 h1 h2), Nat.le_trans h.sz (Nat.le_trans hs hg2.size), ?_⟩, ?_, fun k hk1 h1 => hk k hk1 h1, hs, hblk, Nat.le_trans hs hg2.size⟩
  · rcases hob with e | ⟨g', e, hg'⟩
    · exact h.ab g (e ▸ hg)
    · rw [e] at hg
      simp only [Option.some.injEq] at hg
      have := h.sz
      exact .inr (by omega)
  · have hb := h.bw
    refine ⟨hg2.os.trans (ho.trans hb.os), hg2.tape.trans (ht.trans hb.tape), hg2.output.trans (hp.trans hb.output), Nat.le_trans hb.size (Nat.le_trans hs hg2.size), fun k hk1 => ?_⟩
    exact (hblk k (by omega) (fun e => by have := hav k e; omega) (by have := h.bb.1; omega)).trans (hb.block k hk1)
  · rcases hrow.2 with ⟨_, h0⟩ | ⟨g, cp, cur, e, _⟩
    · omega
    · exact ⟨g, cp, e⟩
end

/-- One row more. -/
theorem NxR.more {u : World} {base base' : Nat} {v x : Value} {L : List (List Nat)} {l : List Nat} (h : NxR u base v L) (hx : u.ownsRow base' 3 1 x l.length (ivs l)) (hbb : base ≤ base') (hlen : L.length < 100000) (hb : base ≤ u.heap.size) :
    ∃ v' u', (Builtin.append_ #[59, 59] 59 #[v, .slice (some ⟨u.heap.size, 0, none⟩) 1 1]).run Tryz.prog (u.alloc (.cells #[x] 52 (0, 0))) = .ok v' u' ∧ NxR u' base v' (L ++ [l]) ∧ (∃ g c, v' = .slice (some ⟨g, 0, none⟩) (L.length + 1) c ∧ L.length + 1 ≤ c ∧ c ≤ maxLen) ∧ (∀ k, k < u.heap.size → v.ownBlock ≠ some k → u'.heap[k]? = u.heap[k]?) ∧ u.heap.size ≤ u'.heap.size ∧ u'.os = u.os ∧ u'.tape = u.tape ∧ u'.output = u.output := by
  obtain ⟨i0, hinfo, hz0, hz1, hz2⟩ := info_parts infoInts
  obtain ⟨vs, hr, hl⟩ := h
  have hx1 : x.oneCell' = true := by
    rcases hx.2 with ⟨e, _⟩ | ⟨g, cp, cur, e, _⟩
    · rw [e]; rfl
    · rw [e]; rfl
  obtain ⟨v', u', hrun, hrow, hk, hs, ho, ht, hp, hob⟩ := app_box (u := u) (base := base) Tryz.underlying59 hinfo hz0 hz1 hz2 rfl (by omega) hr [x] rfl (fun y hy => by rw [List.mem_singleton.1 hy]; exact hx1) (by unfold maxLen; omega) (by omega) hb
  have hvl : vs.length = L.length := by have := hr.1; omega
  have hkeep : ∀ {b : Nat} {y : Value} {m : List Nat}, u.ownsRow b 3 1 y m.length (ivs m) → base ≤ b → u'.ownsRow base 3 1 y m.length (ivs m) := fun {b y m} hy hb2 => rowBaseT (row_same hy (fun g hg => hk g (row_block hy hg).2 (row_types hr hy (by decide) hg))) hb2
  refine ⟨v', u', hrun, ⟨vs ++ [x], by rw [List.length_append]; exact hrow, fun j m hj => ?_⟩, ?_, hk, hs, ho, ht, hp⟩
  · by_cases hjl : j < L.length
    · rw [List.getElem?_append_left hjl] at hj
      obtain ⟨y, hy1, hy2⟩ := hl j m hj
      exact ⟨y, by rw [List.getElem?_append_left (by omega)]; exact hy1, hkeep hy2 (Nat.le_refl _)⟩
    · have hje : j = L.length := by
        have := (List.getElem?_eq_some_iff.1 hj).1
        simp at this
        omega
      subst hje
      rw [List.getElem?_append_right (Nat.le_refl _), Nat.sub_self] at hj
      simp only [List.getElem?_cons_zero, Option.some.injEq] at hj
      subst hj
      exact ⟨x, by rw [← hvl, List.getElem?_append_right (Nat.le_refl _), Nat.sub_self]; rfl, hkeep hx hbb⟩
  · rcases hrow.2 with ⟨_, h0⟩ | ⟨g, cp, cur, e, _, _, h1, h2, _⟩
    · omega
    · exact ⟨g, cp, e, h1, h2⟩
theorem row_movT {w : World} {base n : Nat} {v : Value} {ms : List Mv} (hr : w.ownsRow base 45 3 v n (mvals ms)) : ∃ o c, v = .slice o n c ∧ n ≤ c ∧ c ≤ maxLen ∧ ∀ (j : Nat) (m : Mv), ms[j]? = some m → ∃ g, o = some ⟨g, 0, none⟩ ∧ base ≤ g ∧ g < w.heap.size ∧ ∀ u : World, u.heap[g]? = w.heap[g]? → u.cell? ⟨g, j * 3, none⟩ = some (.int .i64 m.f) ∧ u.cell? ⟨g, j * 3 + 1, none⟩ = some (.int .i64 (m.t : Int)) ∧ u.cell? ⟨g, j * 3 + 2, none⟩ = some (.int .u8 (m.c : Int)) := by
  have hl : ms.length = n := by
    have h1 := hr.1
    rw [show (mvals ms).length = ms.length * 3 from fm_len (f := fun m : Mv => [Value.int .i64 m.f, .int .i64 (m.t : Int), .int .u8 (m.c : Int)]) (fun _ => rfl) ms] at h1
    omega
  rcases hr.2 with ⟨e, h0⟩ | ⟨g, cap, cur, e, hb, hg, h1, h2, _⟩
  · refine ⟨none, 0, by rw [e, h0], by omega, by unfold maxLen; omega, fun j m hm => ?_⟩
    have := (List.getElem?_eq_some_iff.1 hm).1
    omega
  · subst e
    refine ⟨_, cap, rfl, h1, h2, fun j m hm => ⟨g, rfl, hb, (Array.getElem?_eq_some_iff.1 hg).1, fun u hu => ?_⟩⟩
    have hj := (List.getElem?_eq_some_iff.1 hm).1
    have key : ∀ k, k < 3 → u.cell? ⟨g, j * 3 + k, none⟩ = [Value.int .i64 m.f, .int .i64 (m.t : Int), .int .u8 (m.c : Int)][k]? := fun k hk => by
      rw [World.cell?_of_block (a := ⟨g, j * 3 + k, none⟩) hu, hr.cellAt (j * 3 + k) (by omega)]
      exact fm_at (f := fun m : Mv => [Value.int .i64 m.f, .int .i64 (m.t : Int), .int .u8 (m.c : Int)]) (fun _ => rfl) ms j k m hm hk
    exact ⟨key 0 (by omega), key 1 (by omega), key 2 (by omega)⟩

/-- The positions have been gone through as far as i. -/
structure TbO (nx : Po → List Po) (s : Po) (b : Nat) (w1 : World) (i gN cN n : Nat) (nv : Value) (u : World) : Prop where
  len : (bfsN nx s i).length = n
  all : u.ownsRow w1.heap.size 24 6 (.slice (some ⟨gN, 0, none⟩) n cN) n (povs (bfsN nx s i))
  nm : numM u b (bfsN nx s i) 1
  bb : w1.heap.size ≤ b
  nr : NxR u w1.heap.size nv (nxL nx s i)
  bw : Below w1.heap.size w1 u
  bl : ∀ a, a < i → a < (bfsN nx s a).length
section
variable {nx : Po → List Po} {s : Po} {b : Nat} {w1 : World} {i gN cN n : Nat} {nv : Value} {u u' : World}
theorem TbO.below (h : TbO nx s b w1 i gN cN n nv u) (hb : Below u.heap.size u u') : TbO nx s b w1 i gN cN n nv u' :=
  ⟨h.len, row_same h.all (fun g hg => hb.block g (row_block h.all hg).2), h.nm.of_block (hb.block b h.nm.lt), h.bb, h.nr.below hb, h.bw.trans (hb.mono h.bw.size), h.bl⟩
/-- All that it leads to has been gone through. -/
theorem TbO.next (h : TbO nx s b w1 i gN cN n nv u) {p : Po} (hp : (bfsN nx s i)[i]? = some p) {gQ cQ n2 : Nat} {tv : Value} {wq : World} (hI : TbI w1.heap.size b gN w1 u (extL (bfsN nx s i) (nx p)) (.slice (some ⟨gQ, 0, none⟩) n2 cQ) tv ((nx p).map (extL (bfsN nx s i) (nx p)).idxOf) wq) (hn2 : (extL (bfsN nx s i) (nx p)).length = n2) (hi : i < 100000) :
    ∃ v' u', (Builtin.append_ #[59, 59] 59 #[nv, .slice (some ⟨wq.heap.size, 0, none⟩) 1 1]).run Tryz.prog (wq.alloc (.cells #[tv] 52 (0, 0))) = .ok v' u' ∧ TbO nx s b w1 (i + 1) gQ cQ n2 v' u' ∧ ∃ g c, v' = .slice (some ⟨g, 0, none⟩) (i + 1) c := by
  have hb1 := bfs_step hp
  have hil := (List.getElem?_eq_some_iff.1 hp).1
  have hus := h.bw.size
  have hnr : NxR wq w1.heap.size nv (nxL nx s i) := by
    refine h.nr.same (P := fun g => g ≠ gN ∧ g ≠ b) (fun g hg ⟨h1, h2⟩ => hI.fr g hg h1 h2) (fun m y ys hr g hg => ⟨fun e => ?_, fun e => ?_⟩) (fun m y ys hr g hg => ⟨fun e => ?_, fun e => ?_⟩)
    · exact row_types hr h.all (by decide) rfl (by rw [hg, e])
    · exact h.nm.ne_row hr (by rw [hg, e])
    · exact row_types hr h.all (by decide) rfl (by rw [hg, e])
    · exact h.nm.ne_row hr (by rw [hg, e])
  have hto : wq.ownsRow u.heap.size 3 1 tv ((nx p).map (extL (bfsN nx s i) (nx p)).idxOf).length (ivs ((nx p).map (extL (bfsN nx s i) (nx p)).idxOf)) := hI.tow
  obtain ⟨v', u', hrun, hnr', hv', hk, hs, ho, ht, hpp⟩ := hnr.more hto hus (by rw [nxL_len]; exact hi) (Nat.le_trans hus hI.sz)
  rw [← hb1] at hnr' hn2
  have hL : nxL nx s i ++ [(nx p).map (bfsN nx s (i + 1)).idxOf] = nxL nx s (i + 1) := (nxL_step h.bl hp).symm
  rw [hL] at hnr'
  rw [nxL_len] at hv'
  have hnvb : ∀ g, nv.ownBlock = some g → w1.heap.size ≤ g := fun g hg => by
    obtain ⟨vs, hr, -⟩ := hnr
    exact (row_block hr hg).1
  have hall := hI.all
  rw [← hb1, hn2] at hall
  refine ⟨v', u', hrun, ⟨hn2, ?_, ?_, h.bb, hnr', ?_, fun a ha => ?_⟩, ?_⟩
  · exact row_same hall (fun g hg => hk g (row_block hall hg).2 (by
      obtain ⟨vs, hr, -⟩ := hnr
      exact row_types hr hall (by decide) hg))
  · have hnm := hI.nm
    rw [← hb1] at hnm
    refine hnm.of_block (hk b hnm.lt ?_)
    obtain ⟨vs, hr, -⟩ := hnr
    exact hnm.ne_row hr
  · have hb := hI.bw
    exact ⟨ho.trans hb.os, ht.trans hb.tape, hpp.trans hb.output, Nat.le_trans hb.size hs, fun k hk1 => (hk k (by have := hI.sz; omega) (fun e => by have := hnvb k e; omega)).trans (hb.block k hk1)⟩
  · by_cases hai : a < i
    · exact h.bl a hai
    · have : a = i := by omega
      rw [this]; exact hil
  · obtain ⟨g, c, e, -⟩ := hv'
    exact ⟨g, c, e⟩
end
end Go.Proofs.YtbijadnekoeofaaGreatDoor
