/-
  Plain mathematics: a list put in order by insertion; a round of a table while it is gone through; how many rounds there can be.
  A row of entries in memory that is changed here and there; rows of rows of numbers (for gameref.Tabled).
  table.reached: a new position, in memory.
-/
import Derived.Test.YtbijadnekoeofaaGreatDoorJ9
import Derived.Test.YtbijadnekoeofaaGreatDoorJ10
import Derived.Test.YtbijadnekoeofaaGreatDoorJ11
namespace Go.Proofs.YtbijadnekoeofaaGreatDoor

/-! Insertion. -/
/-- x stands behind k of those that are in order; it is ahead of all that follow. -/
structure InsI {α : Type} (lt : α → α → Prop) (S : List α) (x : α) (rest : List α) (k : Nat) (ts : List α) : Prop where
  ex : ∃ A B, ts = A ++ x :: (B ++ rest) ∧ A ++ B = S ∧ A.length = k ∧ ∀ b ∈ B, lt x b
section
variable {α : Type} {lt : α → α → Prop} {S : List α} {x : α} {rest : List α} {k : Nat} {ts : List α}
theorem InsI.start : InsI lt S x rest S.length (S ++ x :: rest) := ⟨S, [], by simp, by simp, rfl, by simp⟩
theorem InsI.len (h : InsI lt S x rest k ts) : ts.length = S.length + 1 + rest.length ∧ k ≤ S.length := by
  obtain ⟨A, B, rfl, rfl, rfl, -⟩ := h
  simp
  omega
theorem InsI.at_ (h : InsI lt S x rest k ts) : ts[k]? = some x := by
  obtain ⟨A, B, rfl, rfl, rfl, -⟩ := h
  simp
theorem InsI.step (h : InsI lt S x rest (k + 1) ts) {a : α} (ha : ts[k]? = some a) (hlt : lt x a) : InsI lt S x rest k ((ts.set (k + 1) a).set k x) := by
  obtain ⟨A, B, rfl, rfl, hk, hB⟩ := h
  obtain ⟨A', y, rfl⟩ : ∃ A' y, A = A' ++ [y] := by
    rcases List.eq_nil_or_concat A with h | ⟨A', y, h⟩
    · subst h; simp at hk
    · exact ⟨A', y, by rw [h, List.concat_eq_append]⟩
  have hk' : A'.length = k := by simpa using hk
  subst hk'
  have hya : y = a := by
    rw [List.append_assoc, List.getElem?_append_right (Nat.le_refl _), Nat.sub_self] at ha
    simpa using ha
  subst hya
  refine ⟨A', y :: B, ?_, by simp, rfl, ?_⟩
  · rw [List.append_assoc, List.set_append_right _ _ (by omega), List.set_append_right _ _ (Nat.le_refl _)]
    simp
  · intro b hb
    rcases List.mem_cons.1 hb with rfl | hb
    · exact hlt
    · exact hB b hb
/-- It has its place. -/
theorem InsI.fin (h : InsI lt S x rest k ts) (htr : ∀ x y z, lt x y → lt y z → lt x z) (hS : S.Pairwise lt) (hk : k = 0 ∨ ∃ a, ts[k - 1]? = some a ∧ lt a x) : ∃ S', ts = S' ++ rest ∧ S'.Perm (S ++ [x]) ∧ S'.Pairwise lt ∧ S'.length = S.length + 1 := by
  obtain ⟨A, B, rfl, rfl, rfl, hB⟩ := h
  rw [List.pairwise_append] at hS
  obtain ⟨h1, h2, h3⟩ := hS
  have hA : ∀ a ∈ A, lt a x := by
    rcases hk with hk | ⟨y, hy, hlt⟩
    · have : A = [] := List.length_eq_zero_iff.1 hk
      subst this
      simp
    · rcases List.eq_nil_or_concat A with h | ⟨A', z, h⟩
      · subst h; simp
      · subst h
        have hzy : z = y := by
          rw [show (A'.concat z).length - 1 = A'.length by simp, List.concat_eq_append, List.append_assoc, List.getElem?_append_right (Nat.le_refl _), Nat.sub_self] at hy
          simpa using hy
        subst hzy
        intro a ha
        rw [List.concat_eq_append, List.mem_append, List.mem_singleton] at ha
        rcases ha with ha | rfl
        · rw [List.concat_eq_append, List.pairwise_append] at h1
          exact htr _ _ _ (h1.2.2 a ha z (by simp)) hlt
        · exact hlt
  refine ⟨A ++ x :: B, by simp, ?_, ?_, by simp; omega⟩
  · have : (A ++ x :: B).Perm (x :: (A ++ B)) := List.perm_middle
    exact this.trans (List.perm_append_singleton x (A ++ B)).symm
  · rw [List.pairwise_append, List.pairwise_cons]
    refine ⟨h1, ⟨hB, h2⟩, fun a ha b hb => ?_⟩
    rcases List.mem_cons.1 hb with rfl | hb
    · exact hA a ha
    · exact h3 a ha b hb
end

/-! A round while it is gone through. -/
section
variable {N : Nat} {nxt : Nat → List Nat} {v0 : Nat → Nat}
def prt (nxt : Nat → List Nat) (A : Nat → Nat × Nat) (d i j : Nat) : Nat × Nat := if j < i then rnd nxt A d j else A j
/-- Has anything been found? -/
def fndN (nxt : Nat → List Nat) (A : Nat → Nat × Nat) (d : Nat) : Nat → Bool
  | 0 => false
  | i + 1 => fndN nxt A d i || ((A i).1 == 0 && (rnd nxt A d i).1 != 0)
theorem fnd_no {A : Nat → Nat × Nat} {d : Nat} : ∀ {i : Nat}, fndN nxt A d i = false → ∀ j, j < i → (A j).1 = 0 → (rnd nxt A d j).1 = 0
  | 0, _, j, hj, _ => by omega
  | i + 1, h, j, hj, h0 => by
    simp only [fndN, Bool.or_eq_false_iff, Bool.and_eq_false_iff, beq_eq_false_iff_ne, bne_eq_false_iff_eq] at h
    by_cases hji : j = i
    · subst hji
      rcases h.2 with h2 | h2
      · exact absurd h0 h2
      · exact h2
    · exact fnd_no h.1 j (by omega) h0
/-- How many are not known. -/
def opn (A : Nat → Nat × Nat) : Nat → Nat
  | 0 => 0
  | i + 1 => opn A i + if (A i).1 = 0 then 1 else 0
theorem opn_le (A : Nat → Nat × Nat) : ∀ i, opn A i ≤ i
  | 0 => Nat.le_refl _
  | i + 1 => by
    have := opn_le A i
    unfold opn
    split <;> omega
theorem opn_rnd {A : Nat → Nat × Nat} {d : Nat} : ∀ i, opn (rnd nxt A d) i + (if fndN nxt A d i = true then 1 else 0) ≤ opn A i
  | 0 => by simp [opn, fndN]
  | i + 1 => by
    have ih := opn_rnd (A := A) (d := d) i
    have hk : (A i).1 ≠ 0 → rnd nxt A d i = A i := fun h => by unfold rnd; rw [if_pos h]
    unfold opn fndN
    by_cases h0 : (A i).1 = 0
    · by_cases h1 : (rnd nxt A d i).1 = 0
      · simp [h0, h1] at *
        omega
      · have hb : ((A i).1 == 0 && (rnd nxt A d i).1 != 0) = true := by simp [h0, h1]
        rw [hb, Bool.or_true, if_pos rfl, if_neg h1, if_pos h0]
        split at ih <;> omega
    · have h1 : ¬ (rnd nxt A d i).1 = 0 := by rw [hk h0]; exact h0
      have hb : ((A i).1 == 0 && (rnd nxt A d i).1 != 0) = false := by simp [h0]
      rw [hb, Bool.or_false, if_neg h1, if_neg h0]
      omega
/-- Nothing was found: another round finds nothing. -/
theorem rds_still {d : Nat} (h : fndN nxt (rds nxt v0 d) (d + 1) N = false) : ∀ i, i < N → rds nxt v0 (d + 1) i = rds nxt v0 d i := by
  intro i hi
  by_cases h0 : (rds nxt v0 d i).1 = 0
  · have h1 : (rds nxt v0 (d + 1) i).1 = 0 := fnd_no h i hi h0
    rw [rds_zero h0, rds_zero h1]
  · exact rds_keep h0
end
end Go.Proofs.YtbijadnekoeofaaGreatDoor

namespace Go.Proofs.YtbijadnekoeofaaGreatDoor
open Go.RowKit

theorem rowBaseT {w : World} {base base' : Nat} {e : TypeId} {size n : Nat} {v : Value} {xs : List Value} (h : w.ownsRow base e size v n xs) (hb : base' ≤ base) : w.ownsRow base' e size v n xs := by
  obtain ⟨h1, h2⟩ := h
  refine ⟨h1, ?_⟩
  rcases h2 with h2 | ⟨g, cap, cur, e1, hb2, r⟩
  · exact .inl h2
  · exact .inr ⟨g, cap, cur, e1, by omega, r⟩
theorem rowCellT {w : World} {base : Nat} {e : TypeId} {size n cap g : Nat} {xs : List Value} (h : w.ownsRow base e size (.slice (some ⟨g, 0, none⟩) n cap) n xs) (j : Nat) (hj : j < n * size) : (∃ u, w.cell? ⟨g, j, none⟩ = some u) ∧ w.frozen? ⟨g, j, none⟩ = false := by
  have hl : xs.length = n * size := h.1
  exact ⟨⟨xs[j]'(by omega), (h.cellAt j hj).trans (List.getElem?_eq_getElem (by omega))⟩, h.frozenAt _⟩

/-- A row of N entries, of which the first ones are told. -/
structure EnR (u : World) (base g N : Nat) (ts : List (Po × Int × Int)) (r : List Value) : Prop where
  len : ts.length * 8 + r.length = N * 8
  row : u.ownsRow base 34 8 (.slice (some ⟨g, 0, none⟩) N N) N (evs ts ++ r)
section
variable {u u' : World} {base g N : Nat} {ts : List (Po × Int × Int)} {r : List Value}
theorem EnR.lt (h : EnR u base g N ts r) : base ≤ g ∧ g < u.heap.size := row_block h.row rfl
theorem EnR.cell (h : EnR u base g N ts r) {i : Nat} {e : Po × Int × Int} (hi : ts[i]? = some e) (c : Nat) (hc : c < 8) : u.cell? ⟨g, i * 8 + c, none⟩ = (encE e)[c]? ∧ u.frozen? ⟨g, i * 8 + c, none⟩ = false := by
  have hil := (List.getElem?_eq_some_iff.1 hi).1
  have hl := h.len
  refine ⟨?_, h.row.frozenAt _⟩
  rw [h.row.cellAt (i * 8 + c) (by omega), List.getElem?_append_left (by rw [evs_len]; omega)]
  exact fm_at (f := encE) (c := 8) (fun _ => rfl) ts i c e hi hc
theorem EnR.any (h : EnR u base g N ts r) (j : Nat) (hj : j < N * 8) : (∃ t, u.cell? ⟨g, j, none⟩ = some t) ∧ u.frozen? ⟨g, j, none⟩ = false := rowCellT h.row j hj
theorem EnR.off (h : EnR u base g N ts r) {b : Nat} (hg : u.grownBy u' (some b)) (hne : g ≠ b) : EnR u' base g N ts r := ⟨h.len, row_off h.row hg (by simpa [Value.ownBlock] using hne)⟩
theorem EnR.keep (h : EnR u base g N ts r) (hb : u'.heap[g]? = u.heap[g]?) : EnR u' base g N ts r := by
  refine ⟨h.len, h.row.1, ?_⟩
  rcases h.row.2 with ⟨e, _⟩ | ⟨g', cap, cur, e, h1, h2, r⟩
  · simp at e
  · have e' := e
    simp only [Value.slice.injEq, Option.some.injEq, Addr.mk.injEq, and_true, true_and] at e'
    obtain ⟨rfl, -⟩ := e'
    exact .inr ⟨g, cap, cur, e, h1, hb.trans h2, r⟩
theorem EnR.below (h : EnR u base g N ts r) (hb : Below u.heap.size u u') : EnR u' base g N ts r := h.keep (hb.block g h.lt.2)
/-- One number of an entry changes. -/
theorem EnR.put (h : EnR u base g N ts r) {i : Nat} {e e' : Po × Int × Int} (hi : ts[i]? = some e) (c : Nat) (hc : c < 8) (v : Value) (hv : encE e' = (encE e).set c v) : EnR (u.setCell ⟨g, i * 8 + c, none⟩ v) base g N (ts.set i e') r ∧ u.grownBy (u.setCell ⟨g, i * 8 + c, none⟩ v) (some g) := by
  have hil := (List.getElem?_eq_some_iff.1 hi).1
  obtain ⟨h1, h2⟩ := h.row.stored (i * 8 + c) v
  refine ⟨⟨by rw [List.length_set]; exact h.len, ?_⟩, h2⟩
  rw [List.set_append_left _ _ (by rw [evs_len]; omega), show (evs ts).set (i * 8 + c) v = evs (ts.set i e') from fm_set (f := encE) (c := 8) (fun _ => rfl) ts i c e e' v hi hc hv] at h1
  exact h1
/-- What it is worth. -/
theorem EnR.val (h : EnR u base g N ts r) {i : Nat} {e : Po × Int × Int} (hi : ts[i]? = some e) (v : Int) : EnR (u.setCell ⟨g, i * 8 + 6, none⟩ (.int .i64 v)) base g N (ts.set i (e.1, v, e.2.2)) r ∧ u.grownBy (u.setCell ⟨g, i * 8 + 6, none⟩ (.int .i64 v)) (some g) :=
  h.put hi 6 (by omega) _ rfl
/-- What it is worth, and how far. -/
theorem EnR.val2 (h : EnR u base g N ts r) {i : Nat} {e : Po × Int × Int} (hi : ts[i]? = some e) (v d : Int) : EnR ((u.setCell ⟨g, i * 8 + 6, none⟩ (.int .i64 v)).setCell ⟨g, i * 8 + 7, none⟩ (.int .i64 d)) base g N (ts.set i (e.1, v, d)) r ∧ u.grownBy ((u.setCell ⟨g, i * 8 + 6, none⟩ (.int .i64 v)).setCell ⟨g, i * 8 + 7, none⟩ (.int .i64 d)) (some g) := by
  have hil := (List.getElem?_eq_some_iff.1 hi).1
  obtain ⟨h1, g1⟩ := h.val hi v
  obtain ⟨h2, g2⟩ := h1.put (i := i) (e := (e.1, v, e.2.2)) (e' := (e.1, v, d)) (List.getElem?_set_self hil) 7 (by omega) (.int .i64 d) rfl
  rw [List.set_set] at h2
  exact ⟨h2, g1.andThen g2 (fun k hk => .inr hk)⟩
/-- One more. -/
theorem EnR.push (h : EnR u base g N ts r) (q : Po × Int × Int) (i : Nat) (hi : i = ts.length) (hN : i < N) :
    EnR ((((((((u.setCell ⟨g, i * 8, none⟩ (.int .i64 q.1.W)).setCell ⟨g, i * 8 + 1, none⟩ (.int .i64 q.1.H)).setCell ⟨g, i * 8 + 2, none⟩ (.string q.1.C)).setCell ⟨g, i * 8 + 3, none⟩ (.int .i64 q.1.T)).setCell ⟨g, i * 8 + 4, none⟩ (.string q.1.A)).setCell ⟨g, i * 8 + 5, none⟩ (.string q.1.B)).setCell ⟨g, i * 8 + 6, none⟩ (.int .i64 q.2.1)).setCell ⟨g, i * 8 + 7, none⟩ (.int .i64 q.2.2)) base g N (ts ++ [q]) (r.drop 8) ∧
    u.grownBy ((((((((u.setCell ⟨g, i * 8, none⟩ (.int .i64 q.1.W)).setCell ⟨g, i * 8 + 1, none⟩ (.int .i64 q.1.H)).setCell ⟨g, i * 8 + 2, none⟩ (.string q.1.C)).setCell ⟨g, i * 8 + 3, none⟩ (.int .i64 q.1.T)).setCell ⟨g, i * 8 + 4, none⟩ (.string q.1.A)).setCell ⟨g, i * 8 + 5, none⟩ (.string q.1.B)).setCell ⟨g, i * 8 + 6, none⟩ (.int .i64 q.2.1)).setCell ⟨g, i * 8 + 7, none⟩ (.int .i64 q.2.2)) (some g) := by
  have hl := h.len
  obtain ⟨h1, h2⟩ := row_set8 q 34 h.row (by omega) (i * 8) (by rw [hi])
  exact ⟨⟨by rw [List.length_append, List.length_drop, List.length_singleton]; omega, h1⟩, h2⟩
/-- An entry is another one. -/
theorem EnR.whole (h : EnR u base g N ts r) {i : Nat} {e : Po × Int × Int} (hi : ts[i]? = some e) (q : Po × Int × Int) :
    EnR ((((((((u.setCell ⟨g, i * 8, none⟩ (.int .i64 q.1.W)).setCell ⟨g, i * 8 + 1, none⟩ (.int .i64 q.1.H)).setCell ⟨g, i * 8 + 2, none⟩ (.string q.1.C)).setCell ⟨g, i * 8 + 3, none⟩ (.int .i64 q.1.T)).setCell ⟨g, i * 8 + 4, none⟩ (.string q.1.A)).setCell ⟨g, i * 8 + 5, none⟩ (.string q.1.B)).setCell ⟨g, i * 8 + 6, none⟩ (.int .i64 q.2.1)).setCell ⟨g, i * 8 + 7, none⟩ (.int .i64 q.2.2)) base g N (ts.set i q) r ∧
    u.grownBy ((((((((u.setCell ⟨g, i * 8, none⟩ (.int .i64 q.1.W)).setCell ⟨g, i * 8 + 1, none⟩ (.int .i64 q.1.H)).setCell ⟨g, i * 8 + 2, none⟩ (.string q.1.C)).setCell ⟨g, i * 8 + 3, none⟩ (.int .i64 q.1.T)).setCell ⟨g, i * 8 + 4, none⟩ (.string q.1.A)).setCell ⟨g, i * 8 + 5, none⟩ (.string q.1.B)).setCell ⟨g, i * 8 + 6, none⟩ (.int .i64 q.2.1)).setCell ⟨g, i * 8 + 7, none⟩ (.int .i64 q.2.2)) (some g) := by
  have hil := (List.getElem?_eq_some_iff.1 hi).1
  obtain ⟨⟨pw, ph, pc, pt, pa, pb⟩, pv, pd⟩ := e
  obtain ⟨⟨qw, qh, qc, qt, qa, qb⟩, qv, qd⟩ := q
  obtain ⟨h0, g0⟩ := h.put (e' := (⟨qw, ph, pc, pt, pa, pb⟩, pv, pd)) hi 0 (by omega) (.int .i64 qw) rfl
  rw [Nat.add_zero] at h0 g0
  obtain ⟨h1, g1⟩ := h0.put (i := i) (e' := (⟨qw, qh, pc, pt, pa, pb⟩, pv, pd)) (List.getElem?_set_self hil) 1 (by omega) (.int .i64 qh) rfl
  rw [List.set_set] at h1
  obtain ⟨h2, g2⟩ := h1.put (i := i) (e' := (⟨qw, qh, qc, pt, pa, pb⟩, pv, pd)) (List.getElem?_set_self hil) 2 (by omega) (.string qc) rfl
  rw [List.set_set] at h2
  obtain ⟨h3, g3⟩ := h2.put (i := i) (e' := (⟨qw, qh, qc, qt, pa, pb⟩, pv, pd)) (List.getElem?_set_self hil) 3 (by omega) (.int .i64 qt) rfl
  rw [List.set_set] at h3
  obtain ⟨h4, g4⟩ := h3.put (i := i) (e' := (⟨qw, qh, qc, qt, qa, pb⟩, pv, pd)) (List.getElem?_set_self hil) 4 (by omega) (.string qa) rfl
  rw [List.set_set] at h4
  obtain ⟨h5, g5⟩ := h4.put (i := i) (e' := (⟨qw, qh, qc, qt, qa, qb⟩, pv, pd)) (List.getElem?_set_self hil) 5 (by omega) (.string qb) rfl
  rw [List.set_set] at h5
  obtain ⟨h6, g6⟩ := h5.put (i := i) (e' := (⟨qw, qh, qc, qt, qa, qb⟩, qv, pd)) (List.getElem?_set_self hil) 6 (by omega) (.int .i64 qv) rfl
  rw [List.set_set] at h6
  obtain ⟨h7, g7⟩ := h6.put (i := i) (e' := (⟨qw, qh, qc, qt, qa, qb⟩, qv, qd)) (List.getElem?_set_self hil) 7 (by omega) (.int .i64 qd) rfl
  rw [List.set_set] at h7
  refine ⟨h7, ?_⟩
  have k1 := g0.andThen g1 (fun k hk => .inr hk)
  have k2 := k1.andThen g2 (fun k hk => .inr hk)
  have k3 := k2.andThen g3 (fun k hk => .inr hk)
  have k4 := k3.andThen g4 (fun k hk => .inr hk)
  have k5 := k4.andThen g5 (fun k hk => .inr hk)
  have k6 := k5.andThen g6 (fun k hk => .inr hk)
  exact k6.andThen g7 (fun k hk => .inr hk)
end

/-- Blocks of unlike elements are unlike. -/
theorem row_type {w : World} {base b : Nat} {e e' : TypeId} {size n : Nat} {v : Value} {xs : List Value} {cs : Array Value} {f : Nat × Nat} (h : w.ownsRow base e size v n xs) (hm : w.heap[b]? = some (.cells cs e' f)) (hne : e ≠ e') : v.ownBlock ≠ some b := by
  intro hb
  rcases h.2 with ⟨e1, _⟩ | ⟨g', cap, cur, e1, _, hg', _⟩
  · subst e1; simp [Value.ownBlock] at hb
  · subst e1
    simp only [Value.ownBlock, Option.some.injEq] at hb
    subst hb
    rw [hm] at hg'
    simp only [Option.some.injEq, Obj.cells.injEq] at hg'
    exact hne hg'.2.1.symm
theorem row_types {w : World} {base base' : Nat} {e e' : TypeId} {size size' n n' : Nat} {v v' : Value} {xs xs' : List Value} (h : w.ownsRow base e size v n xs) (h' : w.ownsRow base' e' size' v' n' xs') (hne : e ≠ e') {b : Nat} (hb : v'.ownBlock = some b) : v.ownBlock ≠ some b := by
  rcases h'.2 with ⟨e1, _⟩ | ⟨g', cap, cur, e1, _, hg', _⟩
  · subst e1; simp [Value.ownBlock] at hb
  · subst e1
    simp only [Value.ownBlock, Option.some.injEq] at hb
    subst hb
    exact row_type h hg' hne
theorem row_same {w w' : World} {base : Nat} {e : TypeId} {size n : Nat} {v : Value} {xs : List Value} (h : w.ownsRow base e size v n xs) (hk : ∀ g, v.ownBlock = some g → w'.heap[g]? = w.heap[g]?) : w'.ownsRow base e size v n xs := by
  obtain ⟨h1, h2⟩ := h
  refine ⟨h1, ?_⟩
  rcases h2 with h2 | ⟨g, cap, cur, e1, hb, hg', r⟩
  · exact .inl h2
  · subst e1
    exact .inr ⟨g, cap, cur, rfl, hb, (hk g rfl).trans hg', r⟩

/-- Rows of numbers in a row. -/
def NxR (u : World) (base : Nat) (v : Value) (L : List (List Nat)) : Prop :=
  ∃ vs : List Value, u.ownsRow base 52 1 v L.length vs ∧ ∀ (j : Nat) (l : List Nat), L[j]? = some l → ∃ x, vs[j]? = some x ∧ u.ownsRow base 3 1 x l.length (ivs l)
section
variable {u u' : World} {base : Nat} {v : Value} {L : List (List Nat)}
theorem NxR.same (h : NxR u base v L) {P : Nat → Prop} (hk : ∀ g, g < u.heap.size → P g → u'.heap[g]? = u.heap[g]?) (h1 : ∀ (n : Nat) (x : Value) (xs : List Value), u.ownsRow base 52 1 x n xs → ∀ g, x.ownBlock = some g → P g) (h2 : ∀ (n : Nat) (x : Value) (xs : List Value), u.ownsRow base 3 1 x n xs → ∀ g, x.ownBlock = some g → P g) : NxR u' base v L := by
  obtain ⟨vs, hr, hl⟩ := h
  refine ⟨vs, row_same hr (fun g hg => hk g (row_block hr hg).2 (h1 _ _ _ hr g hg)), fun j l hj => ?_⟩
  obtain ⟨x, hx, hrx⟩ := hl j l hj
  exact ⟨x, hx, row_same hrx (fun g hg => hk g (row_block hrx hg).2 (h2 _ _ _ hrx g hg))⟩
theorem NxR.below (h : NxR u base v L) (hb : Below u.heap.size u u') : NxR u' base v L :=
  h.same (P := fun _ => True) (fun g hg _ => hb.block g hg) (fun _ _ _ _ _ _ => trivial) (fun _ _ _ _ _ _ => trivial)
/-- A block of other things changes. -/
theorem NxR.off (h : NxR u base v L) {b : Nat} {cs : Array Value} {e : TypeId} {f : Nat × Nat} (hb : u.heap[b]? = some (.cells cs e f)) (h1 : 52 ≠ e) (h2 : 3 ≠ e) (hg : u.grownBy u' (some b)) : NxR u' base v L :=
  h.same (P := fun g => g ≠ b) (fun g hgl hne => hg.block g hgl (by simpa using hne)) (fun _ _ _ hr g hgb e2 => row_type hr hb h1 (by rw [hgb, e2])) (fun _ _ _ hr g hgb e2 => row_type hr hb h2 (by rw [hgb, e2]))
theorem NxR.nil (w : World) (base : Nat) : NxR w base (.slice none 0 0) [] := ⟨[], ⟨rfl, .inl ⟨rfl, rfl⟩⟩, fun j l hj => by simp at hj⟩
/-- What stands at a place. -/
theorem NxR.at_ (h : NxR u base v L) {j : Nat} {l : List Nat} (hj : L[j]? = some l) : ∃ g cap, v = .slice (some ⟨g, 0, none⟩) L.length cap ∧ L.length ≤ cap ∧ cap ≤ maxLen ∧ ∃ o c, l.length ≤ c ∧ c ≤ maxLen ∧ u.cell? ⟨g, j, none⟩ = some (.slice o l.length c) ∧ (∀ (k x : Nat), l[k]? = some x → ∃ gl, o = some ⟨gl, 0, none⟩ ∧ u.cell? ⟨gl, k, none⟩ = some (.int .i64 (x : Int))) := by
  obtain ⟨vs, hr, hl⟩ := h
  have hjl := (List.getElem?_eq_some_iff.1 hj).1
  obtain ⟨x, hx, hrx⟩ := hl j l hj
  rcases hr.2 with ⟨_, h0⟩ | ⟨g, cap, cur, e, hb, hg, h1, h2, _⟩
  · omega
  · subst e
    refine ⟨g, cap, rfl, h1, h2, ?_⟩
    have hc : u.cell? ⟨g, j, none⟩ = some x := by rw [hr.cellAt j (by omega), hx]
    rcases hrx.2 with ⟨e1, h0⟩ | ⟨gl, cl, curl, e1, hbl, hgl, k1, k2, _⟩
    · refine ⟨none, 0, by omega, by unfold maxLen; omega, by rw [hc, e1, h0], fun k y hk => ?_⟩
      have := (List.getElem?_eq_some_iff.1 hk).1
      omega
    · subst e1
      refine ⟨some ⟨gl, 0, none⟩, cl, k1, k2, hc, fun k y hk => ⟨gl, rfl, ?_⟩⟩
      have hkl := (List.getElem?_eq_some_iff.1 hk).1
      rw [hrx.cellAt k (by omega)]
      simp [ivs, hk]
end
end Go.Proofs.YtbijadnekoeofaaGreatDoor

namespace Go.Proofs.YtbijadnekoeofaaGreatDoor
open Go.RowKit

theorem RM.new {nx : Po → List Po} {ev : Po → Int} {s : Po} {most b : Nat} {w1 : World} {i k : Nat} {ps : List Po} {gN cap : Nat} {nds : List Nd} {u : World} (h : RM nx ev s most b w1 i k true ps gN cap nds u) (hm5 : most ≤ 5000) (hlt : nds.length < most) (hil : i < (bfsN nx s i).length) {q : Po} (hq : ps[k]? = some q) (hqok : q.ok) (hn : q ∉ nds.map Nd.p) :
    ∃ (um : World) (u1 : World) (gN' cap' : Nat) (v2 : Value) (u2 : World),
      (Instr.mapUpdate 36 (.map (some b)) (.agg #[.int .i64 q.W, .int .i64 q.H, .string q.C, .int .i64 q.T, .string q.A, .string q.B]) (.int .i64 (nds.length : Int))).run Tryz.prog u = .ok () um ∧ u.grownBy um (some b) ∧
      (Builtin.append_ #[48, 48] 48 #[.slice (some ⟨gN, 0, none⟩) nds.length cap, .slice (some ⟨um.heap.size, 0, none⟩) 1 1]).run Tryz.prog (um.alloc (.cells #[.int .i64 q.W, .int .i64 q.H, .string q.C, .int .i64 q.T, .string q.A, .string q.B, .int .i64 0, .int .i64 0, .slice none 0 0, .int .i64 0] 54 (0, 0))) = .ok (.slice (some ⟨gN', 0, none⟩) (nds.length + 1) cap') u1 ∧
      nds.length + 1 ≤ cap' ∧ cap' ≤ maxLen ∧ u1.cell? ⟨gN', nds.length * 10 + 8, none⟩ = some (.slice none 0 0) ∧
      (Builtin.append_ #[52, 52] 52 #[.slice none 0 0, .slice (some ⟨u1.heap.size, 0, none⟩) 1 1]).run Tryz.prog (u1.alloc (.cells #[.int .i64 (i : Int)] 3 (0, 0))) = .ok v2 u2 ∧
      LkE nx ev s most b w1 i k ps gN' cap' nds.length (nds.length + 1) gN nds u u2 v2 := by
  obtain ⟨i0, hinfo, hz0, hz1, hz2⟩ := info_parts infoInt
  obtain ⟨n0, ninfo, nz0, nz1, nz2⟩ := info_parts infoNode
  have hml : (nds.map Nd.p).length + 0 = nds.length := by rw [List.length_map]; rfl
  obtain ⟨um, hrun1, hnm1, hg1⟩ := h.nm.put (by rw [hml]; omega) hqok hn
  rw [hml] at hrun1
  obtain ⟨es, ck, hmb⟩ := h.nm.is
  have hnd1 : NdR um w1.heap.size gN cap nds := h.nd.map hmb hg1
  have hbw1 : Below w1.heap.size w1 um := below_row h.bw h.bb hg1
  -- the new node in a row of one
  obtain ⟨ub, hub⟩ : ∃ ub, ub = um.alloc (.cells #[.int .i64 q.W, .int .i64 q.H, .string q.C, .int .i64 q.T, .string q.A, .string q.B, .int .i64 0, .int .i64 0, .slice none 0 0, .int .i64 0] 54 (0, 0)) := ⟨_, rfl⟩
  have hbb : Below um.heap.size um ub := by rw [hub]; exact (Below.refl _ _).alloc (Nat.le_refl _) _
  have hblk : ub.heap[um.heap.size]? = some (.cells #[.int .i64 q.W, .int .i64 q.H, .string q.C, .int .i64 q.T, .string q.A, .string q.B, .int .i64 0, .int .i64 0, .slice none 0 0, .int .i64 0] 54 (0, 0)) := by rw [hub]; exact heap_alloc_new um _
  have hnd2 := hnd1.below hbb
  have hbw2 : Below w1.heap.size w1 ub := hbw1.trans (hbb.mono hbw1.size)
  have hub_sz : um.heap.size < ub.heap.size := (Array.getElem?_eq_some_iff.1 hblk).1
  obtain ⟨v1, u1, hrun2, hr2, hg2, -, hob2⟩ := run_append_own_at (P := Tryz.prog) ub w1.heap.size 48 48 54 n0 _ 10 120 Tryz.underlying48 ninfo nz0 nz1 nz2 rfl (by omega) (.slice (some ⟨gN, 0, none⟩) nds.length cap) nds.length (ndv nds) hnd2.row ⟨um.heap.size, 0, none⟩ 1 1 (Nd.vs ⟨q, 0, 0, none, 0, [], 0⟩) rfl
    (fun a x hx => by
      have hc : ub.cell? ⟨um.heap.size, 0 + a, none⟩ = (Nd.vs ⟨q, 0, 0, none, 0, [], 0⟩)[a]? := by
        unfold World.cell?
        rw [hblk, Nat.zero_add]
        simp [Nd.vs]
      rw [show (⟨um.heap.size, 0, none⟩ : Addr).add a = ⟨um.heap.size, 0 + a, none⟩ by (simp [Addr.add]; try omega)]
      exact hc.trans hx)
    (fun x hx => by
      unfold Nd.vs at hx
      simp only [List.mem_cons, List.not_mem_nil, or_false] at hx
      rcases hx with rfl | rfl | rfl | rfl | rfl | rfl | rfl | rfl | rfl | rfl <;> rfl)
    (by unfold maxLen; omega) (by omega) hbw2.size
  obtain ⟨gN', cap', rfl, hnd3⟩ := hnd2.more q (by simpa [Value.ownBlock] using hg2) hr2 (by simpa [Value.ownBlock] using hob2)
  have hg2' : ub.grownBy u1 (some gN) := by simpa [Value.ownBlock] using hg2
  have hgN' : gN' = gN ∨ gN' = ub.heap.size := by simpa [Value.ownBlock] using hob2
  have hgN := h.nd.lt
  have hbN := h.nm.row h.nd
  have hbl1 := hnm1.lt
  have hnm3 : numM u1 b (nds.map Nd.p ++ [q]) 0 := hnm1.of_block ((hg2'.block b (Nat.lt_of_lt_of_le hbl1 hbb.size) (by simpa using hbN)).trans (hbb.block b hbl1))
  have hbw3 : Below w1.heap.size w1 u1 := below_row hbw2 hgN.1 hg2'
  have hcap : nds.length + 1 ≤ cap' ∧ cap' ≤ maxLen := by
    rcases hnd3.row.2 with ⟨e, _⟩ | ⟨g', c', cur, e, _, _, h1, h2, _⟩
    · simp at e
    · simp only [Value.slice.injEq, Option.some.injEq, Addr.mk.injEq, and_true] at e
      obtain ⟨-, -, rfl⟩ := e
      rw [List.length_append] at h1
      exact ⟨h1, h2⟩
  have hat : (nds ++ [(⟨q, 0, 0, none, 0, [], 0⟩ : Nd)])[nds.length]? = some ⟨q, 0, 0, none, 0, [], 0⟩ := by
    rw [List.getElem?_append_right (Nat.le_refl _), Nat.sub_self]
    rfl
  have hcell := (hnd3.cell hat 8 (by omega)).1
  -- the link
  obtain ⟨ui, hui⟩ : ∃ ui, ui = u1.alloc (.cells #[.int .i64 (i : Int)] 3 (0, 0)) := ⟨_, rfl⟩
  have hbi : Below u1.heap.size u1 ui := by rw [hui]; exact (Below.refl _ _).alloc (Nat.le_refl _) _
  have hblk2 : ui.heap[u1.heap.size]? = some (.cells #[.int .i64 (i : Int)] 3 (0, 0)) := by rw [hui]; exact heap_alloc_new u1 _
  have hnd4 := hnd3.below hbi
  obtain ⟨v2, u2, hrun3, hr3, hg3, -, hob3⟩ := run_append_own_at (P := Tryz.prog) ui w1.heap.size 52 52 3 i0 _ 1 8 Tryz.underlying52 hinfo hz0 hz1 hz2 rfl (by omega) (.slice none 0 0) 0 (ivs []) (hnd4.fr nds.length _ hat) ⟨u1.heap.size, 0, none⟩ 1 1 [.int .i64 (i : Int)] rfl
    (fun a x hx => by
      have ha0 : a = 0 := by
        have := (List.getElem?_eq_some_iff.1 hx).1
        simp at this
        omega
      subst ha0
      simp only [List.getElem?_cons_zero, Option.some.injEq] at hx
      subst hx
      show World.cell? _ ⟨u1.heap.size, 0 + 0, none⟩ = _
      unfold World.cell?
      rw [hblk2]
      rfl)
    (fun x hx => by rw [List.mem_singleton.1 hx]; rfl) (by unfold maxLen; omega) (by omega) (Nat.le_trans hbw3.size hbi.size)
  have hg3' : ui.grownBy u2 none := hg3
  obtain ⟨fo', fc', rfl, hnd5, hgs⟩ := hnd4.from hat i hg3 hr3 hob3
  have hset : (nds ++ [(⟨q, 0, 0, none, 0, [], 0⟩ : Nd)]).set nds.length ⟨q, 0, 0, fo', fc', [] ++ [i], 0⟩ = nds ++ [⟨q, 0, 0, fo', fc', [i], 0⟩] := by
    rw [List.set_append_right _ _ (Nat.le_refl _), Nat.sub_self]
    rfl
  have hnd6 : NdR (u2.setCell ⟨gN', nds.length * 10 + 8, none⟩ (.slice fo' 1 fc')) w1.heap.size gN' cap' (nds ++ [⟨q, 0, 0, fo', fc', [i], 0⟩]) := by
    rw [← hset]
    exact hnd5
  have hrow2 : u2.cell? ⟨gN', nds.length * 10 + 8, none⟩ = some (.slice none 0 0) ∧ u2.frozen? ⟨gN', nds.length * 10 + 8, none⟩ = false := by
    have hkeep : u2.heap[gN']? = ui.heap[gN']? := hg3'.block gN' hnd4.lt.2 (by simp)
    obtain ⟨c1, c2⟩ := hnd4.cell hat 8 (by omega)
    exact ⟨(World.cell?_of_block (a := ⟨gN', nds.length * 10 + 8, none⟩) hkeep).trans c1, by simpa [World.frozen?, hkeep] using c2⟩
  have hsz1 := hg1.size
  have hsz2 := hbb.size
  have hsz3 := hg2'.size
  have hsz4 := hbi.size
  have hsz5 := hg3'.size
  have hbN' : b ≠ gN' := by
    rcases hgN' with e | e
    · rw [e]; exact hbN
    · omega
  have hb4 : Below w1.heap.size w1 u2 := by
    have hs := hbw3.size
    exact ⟨hg3'.os.trans (hbi.os.trans hbw3.os), hg3'.tape.trans (hbi.tape.trans hbw3.tape), hg3'.output.trans (hbi.output.trans hbw3.output), Nat.le_trans hs (Nat.le_trans hsz4 hg3'.size), fun x hx => (hg3'.block x (by omega) (by simp)).trans ((hbi.block x (by omega)).trans (hbw3.block x hx))⟩
  have hown2 : (Value.slice fo' 1 fc').ownBlock = none ∨ (Value.slice fo' 1 fc').ownBlock = some ui.heap.size := hob3
  refine ⟨um, u1, gN', cap', _, u2, hrun1, hg1, by rw [← hub]; exact hrun2, hcap.1, hcap.2, hcell, by rw [← hui]; exact hrun3, ⟨⟨_, hrow2.1⟩, hrow2.2, by omega, ⟨_, _, _, rfl⟩, ⟨_, by rw [List.length_append]; rfl, ⟨hnd6, h.rw_.new hil hq hn h.bl fo' fc', by rw [List.length_append]; exact hlt, ?_, h.bb, below_row hb4 hnd4.lt.1 hgs, h.bl⟩, fun gy hgy hgb ⟨o1, o2⟩ => ⟨⟨?_, fun a m hm => ?_⟩, ?_⟩⟩⟩⟩
  · rw [List.map_append]
    exact hnm3.of_block ((hgs.block b (by omega) (by simpa using hbN')).trans ((hg3'.block b (by omega) (by simp)).trans (hbi.block b (by omega))))
  · rcases hgN' with e | e
    · rw [e]; exact o1
    · omega
  · by_cases ha : a < nds.length
    · rw [List.getElem?_append_left ha] at hm
      exact o2 a m hm
    · have hmn : m = ⟨q, 0, 0, fo', fc', [i], 0⟩ := by
        rw [List.getElem?_append_right (by omega)] at hm
        have := List.mem_of_getElem? hm
        simpa using this
      subst hmn
      intro e
      have e' : (Value.slice fo' 1 fc').ownBlock = some gy := e
      rcases hown2 with e2 | e2
      · rw [e2] at e'; simp at e'
      · rw [e2] at e'
        simp only [Option.some.injEq] at e'
        omega
  · have hne : gy ≠ gN' := by
      rcases hgN' with e | e
      · rw [e]; exact Ne.symm o1
      · omega
    exact (hgs.block gy (by omega) (by simpa using hne)).trans ((hg3'.block gy (by omega) (by simp)).trans ((hbi.block gy (by omega)).trans ((hg2'.block gy (by omega) (by simpa using Ne.symm o1)).trans ((hbb.block gy (by omega)).trans (hg1.block gy hgy (by simpa using hgb))))))
end Go.Proofs.YtbijadnekoeofaaGreatDoor
