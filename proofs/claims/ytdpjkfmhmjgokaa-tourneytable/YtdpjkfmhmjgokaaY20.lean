/-
  Ranks put in one by one (plain mathematics), and in memory.
-/
import Derived.Test.YtdpjkfmhmjgokaaY4
namespace Go.Proofs.Ytdpjkfmhmjgokaa
open Go.RowKit Go.Sort

/-- The first stands ahead, as the document looks at it. -/
def btr (x y : Rk) : Bool := decide (y.q < x.q) || (x.q == y.q && decide (y.o < x.o))
theorem cI_lt {a b : Int} (h : a < b) : Lib.compareInt a b < 0 := by have := TO.int; unfold Lib.compareInt; split <;> (try omega) <;> (split <;> omega)
theorem cI_eq {a b : Int} (h : a = b) : Lib.compareInt a b = 0 := by subst h; unfold Lib.compareInt; simp
theorem or_ne {a : Int} {r : List Int} (h : a < 0) : orI (a :: r) < 0 := by
  have h0 : a ≠ 0 := by omega
  simp [orI, h0, h]
theorem or_eq {a : Int} {r : List Int} (h : a = 0) : orI (a :: r) = orI r := by simp [orI, h]
theorem btr_ord {x y : Rk} (h : btr x y = true) : ordR x y < 0 := by
  unfold btr at h
  simp only [Bool.or_eq_true, decide_eq_true_eq, Bool.and_eq_true, beq_iff_eq] at h
  unfold ordR
  rcases h with h | ⟨h1, h2⟩
  · exact or_ne (cI_lt h)
  · rw [or_eq (cI_eq h1.symm)]
    exact or_ne (cI_lt h2)
theorem btr_no {x y : Rk} (h : btr x y = false) (hp : y.p < x.p) : ordR y x < 0 := by
  unfold btr at h
  simp only [Bool.or_eq_false_iff, decide_eq_false_iff_not, Bool.and_eq_false_iff, beq_eq_false_iff_ne] at h
  obtain ⟨h1, h2⟩ := h
  unfold ordR
  by_cases h3 : x.q < y.q
  · exact or_ne (cI_lt h3)
  · have e : x.q = y.q := by omega
    rw [or_eq (cI_eq e)]
    by_cases h4 : x.o < y.o
    · exact or_ne (cI_lt h4)
    · have e2 : x.o = y.o := by
        rcases h2 with h2 | h2
        · exact absurd e h2
        · omega
      rw [or_eq (cI_eq e2)]
      exact or_ne (cI_lt hp)
theorem ord_trans {x y z : Rk} (h1 : ordR x y < 0) (h2 : ordR y z < 0) : ordR x z < 0 := by
  rw [ordR_K] at *
  exact cmpK_TO.trans _ _ _ h1 h2
/-- One more is put in behind the first k. -/
def insK (T : List Rk) (x : Rk) (k : Nat) : List Rk := T.take k ++ x :: T.drop k
theorem insK_len (T : List Rk) (x : Rk) (k : Nat) (hk : k ≤ T.length) : (insK T x k).length = T.length + 1 := by simp [insK]; omega
theorem insK_perm (T : List Rk) (x : Rk) (k : Nat) : (insK T x k).Perm (T ++ [x]) := by
  unfold insK
  refine List.perm_middle.trans ?_
  rw [List.take_append_drop]
  exact (List.perm_append_singleton x T).symm
theorem insK_at (T : List Rk) (x : Rk) (k : Nat) (hk : k ≤ T.length) : (insK T x k)[k]? = some x := by
  unfold insK
  rw [List.getElem?_append_right (by rw [List.length_take]; omega), List.length_take, Nat.min_eq_left hk, Nat.sub_self]; rfl
theorem insK_pre (T : List Rk) (x y : Rk) (k : Nat) (hk : k + 1 ≤ T.length) (hy : T[k]? = some y) : (insK T x (k + 1))[k]? = some y := by
  unfold insK
  rw [List.getElem?_append_left (by rw [List.length_take]; omega), List.getElem?_take_of_lt (by omega), hy]
theorem insK_swap (T : List Rk) (x y : Rk) (k : Nat) (hk : k + 1 ≤ T.length) (hy : T[k]? = some y) : ((insK T x (k + 1)).set (k + 1) y).set k x = insK T x k := by
  unfold insK
  have hkl : k < T.length := by omega
  have hyk : T[k] = y := by rw [List.getElem?_eq_getElem hkl] at hy; exact Option.some.inj hy
  have e1 : T.take (k + 1) = T.take k ++ [y] := by rw [List.take_add_one, hy]; rfl
  have e2 : T.drop k = y :: T.drop (k + 1) := by rw [List.drop_eq_getElem_cons hkl, hyk]
  have hl : (T.take k).length = k := by rw [List.length_take]; omega
  rw [e1, e2, List.append_assoc, List.set_append_right _ _ (by omega), hl, Nat.add_sub_cancel_left, List.set_append_right _ _ (by omega), hl, Nat.sub_self]
  rfl
/-- While one more is put in its place. -/
structure InR (T : List Rk) (x : Rk) (k : Nat) : Prop where
  le : k ≤ T.length
  back : ∀ b ∈ T.drop k, ordR x b < 0
theorem InR.start (T : List Rk) (x : Rk) : InR T x T.length := ⟨Nat.le_refl _, by simp⟩
theorem InR.next {T : List Rk} {x y : Rk} {k : Nat} (h : InR T x (k + 1)) (hy : T[k]? = some y) (hb : btr x y = true) : InR T x k := by
  have hkl : k < T.length := by have := h.le; omega
  refine ⟨by omega, fun b hb' => ?_⟩
  rw [List.drop_eq_getElem_cons hkl] at hb'
  rw [List.getElem?_eq_getElem hkl] at hy
  rcases List.mem_cons.1 hb' with e | e
  · rw [e, Option.some.inj hy]; exact btr_ord hb
  · exact h.back b e
theorem InR.done {T : List Rk} {x : Rk} {k : Nat} (h : InR T x k) (hT : T.Pairwise fun a b => ordR a b < 0) (hf : ∀ a ∈ T.take k, ordR a x < 0) : (insK T x k).Pairwise fun a b => ordR a b < 0 := by
  unfold insK
  rw [← List.take_append_drop k T, List.pairwise_append] at hT
  obtain ⟨h1, h2, h3⟩ := hT
  rw [List.pairwise_append]
  refine ⟨h1, List.pairwise_cons.2 ⟨h.back, h2⟩, fun a ha b hb => ?_⟩
  rcases List.mem_cons.1 hb with e | e
  · rw [e]; exact hf a ha
  · exact h3 a ha b e
theorem InR.done0 {T : List Rk} {x : Rk} (h : InR T x 0) (hT : T.Pairwise fun a b => ordR a b < 0) : (insK T x 0).Pairwise fun a b => ordR a b < 0 := h.done hT (by simp)
theorem InR.doneS {T : List Rk} {x y : Rk} {k : Nat} (h : InR T x (k + 1)) (hT : T.Pairwise fun a b => ordR a b < 0) (hy : T[k]? = some y) (hb : btr x y = false) (hp : y.p < x.p) : (insK T x (k + 1)).Pairwise fun a b => ordR a b < 0 := by
  have hyx := btr_no hb hp
  refine h.done hT fun a ha => ?_
  rw [List.take_add_one, hy, Option.toList_some, List.mem_append, List.mem_singleton] at ha
  rcases ha with ha | rfl
  · refine ord_trans ?_ hyx
    have hkl : k < T.length := by have := h.le; omega
    rw [← List.take_append_drop k T, List.pairwise_append] at hT
    refine hT.2.2 a ha y ?_
    rw [List.drop_eq_getElem_cons hkl]
    rw [List.getElem?_eq_getElem hkl] at hy
    rw [← Option.some.inj hy]
    exact List.mem_cons_self
  · exact hyx

/-- A row of ranks of the call's own. -/
structure RkL (u : World) (base g cap : Nat) (L : List Rk) : Prop where
  row : u.ownsRow base 34 3 (.slice (some ⟨g, 0, none⟩) L.length cap) L.length (rvs L)
section
variable {u u' : World} {base g cap : Nat} {L : List Rk}
theorem RkL.lt (h : RkL u base g cap L) : base ≤ g ∧ g < u.heap.size := row_block h.row rfl
theorem RkL.cell (h : RkL u base g cap L) {i : Nat} {x : Rk} (hi : L[i]? = some x) (c : Nat) (hc : c < 3) : u.cell? ⟨g, i * 3 + c, none⟩ = (encR x)[c]? ∧ u.frozen? ⟨g, i * 3 + c, none⟩ = false := by
  have hil := (List.getElem?_eq_some_iff.1 hi).1
  refine ⟨?_, h.row.frozenAt _⟩
  rw [h.row.cellAt (i * 3 + c) (by omega)]
  exact fm_at (f := encR) (c := 3) (fun _ => rfl) L i c x hi hc
theorem RkL.keep (h : RkL u base g cap L) (hk : u'.heap[g]? = u.heap[g]?) : RkL u' base g cap L := ⟨row_keep h.row fun k hg => by simp only [Value.ownBlock, Option.some.injEq] at hg; rw [← hg]; exact hk⟩
theorem RkL.put (h : RkL u base g cap L) {i : Nat} {x x' : Rk} (hi : L[i]? = some x) (c : Nat) (hc : c < 3) (v : Value) (hv : encR x' = (encR x).set c v) : RkL (u.setCell ⟨g, i * 3 + c, none⟩ v) base g cap (L.set i x') ∧ u.grownBy (u.setCell ⟨g, i * 3 + c, none⟩ v) (some g) := by
  obtain ⟨h1, h2⟩ := h.row.stored (i * 3 + c) v
  refine ⟨⟨?_⟩, h2⟩
  rw [List.length_set, ← show (rvs L).set (i * 3 + c) v = rvs (L.set i x') from fm_set (f := encR) (c := 3) (fun _ => rfl) L i c x x' v hi hc hv]
  exact h1
theorem RkL.whole (h : RkL u base g cap L) {i : Nat} {x : Rk} (hi : L[i]? = some x) (y : Rk) :
    RkL (((u.setCell ⟨g, i * 3, none⟩ (.int .i64 y.p)).setCell ⟨g, i * 3 + 1, none⟩ (.int .i64 y.q)).setCell ⟨g, i * 3 + 2, none⟩ (.int .i64 y.o)) base g cap (L.set i y) ∧ u.grownBy (((u.setCell ⟨g, i * 3, none⟩ (.int .i64 y.p)).setCell ⟨g, i * 3 + 1, none⟩ (.int .i64 y.q)).setCell ⟨g, i * 3 + 2, none⟩ (.int .i64 y.o)) (some g) := by
  have hil := (List.getElem?_eq_some_iff.1 hi).1
  obtain ⟨h0, g0⟩ := h.put (x' := ⟨y.p, x.q, x.o⟩) hi 0 (by omega) (.int .i64 y.p) rfl
  rw [Nat.add_zero] at h0 g0
  obtain ⟨h1, g1⟩ := h0.put (i := i) (x' := ⟨y.p, y.q, x.o⟩) (List.getElem?_set_self hil) 1 (by omega) (.int .i64 y.q) rfl
  rw [List.set_set] at h1
  obtain ⟨h2, g2⟩ := h1.put (i := i) (x' := ⟨y.p, y.q, y.o⟩) (List.getElem?_set_self hil) 2 (by omega) (.int .i64 y.o) rfl
  rw [List.set_set] at h2
  exact ⟨h2, (g0.andThen g1 (fun k hk => .inr hk)).andThen g2 (fun k hk => .inr hk)⟩
end
end Go.Proofs.Ytdpjkfmhmjgokaa
