/-
  table.reached and table.settle, tied together (plain mathematics): what the nodes hold behind reached is what settle asks for.
  table.settle: what holds on the way, of nodes.
  table.settle: what holds on the way, in memory.
-/
import Derived.Test.YtbijadnekoeofaaGreatDoorT16
import Derived.Test.YtbijadnekoeofaaGreatDoorJ30
import Derived.Test.YtbijadnekoeofaaGreatDoorT2
import Derived.Test.YtbijadnekoeofaaGreatDoorT10
namespace Go.Proofs.YtbijadnekoeofaaGreatDoor
open Go.RowKit

theorem frN_count (S : Nat → List Po) (q : Po) (i : Nat) : ∀ n, (frN S n q).count i = if i < n then (S i).count q else 0
  | 0 => by simp [frN]
  | n + 1 => by
    rw [frN, List.count_append, frN_count S q i n, List.count_replicate]
    simp only [beq_iff_eq]
    by_cases h : i < n
    · rw [if_pos h, if_neg (show ¬ n = i by omega), if_pos (show i < n + 1 by omega)]; rfl
    · rw [if_neg h]
      by_cases h2 : n = i
      · subst h2; simp
      · rw [if_neg h2, if_neg (show ¬ i < n + 1 by omega)]
theorem frN_lt {S : Nat → List Po} {q : Po} {i n : Nat} (h : i ∈ frN S n q) : i < n := by
  have h1 := List.count_pos_iff.2 h
  rw [frN_count] at h1
  by_cases h2 : i < n
  · exact h2
  · rw [if_neg h2] at h1; omega

def nxtG (nx : Po → List Po) (all : List Po) (i : Nat) : List Nat := (sucL nx all i).map all.idxOf
def v0G (nx : Po → List Po) (ev : Po → Int) (all : List Po) (i : Nat) : Nat :=
  match all[i]? with
  | some p => if nx p = [] then (ev p).toNat else 0
  | none => 0
def frG (nx : Po → List Po) (all : List Po) (i : Nat) : List Nat :=
  match all[i]? with
  | some p => frN (sucL nx all) all.length p
  | none => []

theorem count_idx {all : List Po} (hnd : all.Nodup) {j : Nat} {q : Po} (hj : all[j]? = some q) : ∀ l : List Po, (∀ x ∈ l, x ∈ all) → (l.map all.idxOf).count j = l.count q
  | [], _ => rfl
  | x :: l, h => by
    rw [List.map_cons, List.count_cons, List.count_cons, count_idx hnd hj l (fun y hy => h y (List.mem_cons_of_mem _ hy))]
    have hx := idx_at (h x List.mem_cons_self)
    have e : (all.idxOf x == j) = (x == q) := by
      by_cases hxq : x = q
      · subst hxq
        rw [idx_of hnd hj, beq_self_eq_true, beq_self_eq_true]
      · have : all.idxOf x ≠ j := fun hh => by
          rw [hh, hj] at hx
          exact hxq (Option.some.inj hx).symm
        rw [beq_eq_false_iff_ne.2 this, beq_eq_false_iff_ne.2 hxq]
    rw [e]

/-- What settle asks for. -/
structure Glue (nx : Po → List Po) (ev : Po → Int) (all : List Po) (nds : List Nd) : Prop where
  hv : ∀ (i : Nat) (n : Nd), nds[i]? = some n → n.v = (v0G nx ev all i : Int) ∧ n.d = 0 ∧ n.l = ((nxtG nx all i).length : Int) ∧ n.fr = frG nx all i
  hne : ∀ i, i < nds.length → v0G nx ev all i = 0 → nxtG nx all i ≠ []
  hnN : ∀ i, i < nds.length → ∀ j ∈ nxtG nx all i, j < nds.length
  hfr : ∀ i j, i < nds.length → (frG nx all j).count i = (nxtG nx all i).count j
  hfN : ∀ j, ∀ i ∈ frG nx all j, i < nds.length
  hlen : ∀ i, (nxtG nx all i).length ≤ 4608

theorem glue {nx : Po → List Po} {ev : Po → Int} {s : Po} {nds : List Nd} (h : RW nx ev s nds.length 0 false [] nds) (hev : ∀ p ∈ bfsN nx s nds.length, nx p = [] → 1 ≤ ev p) (hl : ∀ p, (nx p).length ≤ 4608) :
    nds.map Nd.p = bfsN nx s nds.length ∧ Glue nx ev (bfsN nx s nds.length) nds := by
  have hp : nds.map Nd.p = bfsN nx s nds.length := by have := h.pos; simpa [extL] using this
  obtain ⟨all, hall⟩ : ∃ all, all = bfsN nx s nds.length := ⟨_, rfl⟩
  have hL : all.length = nds.length := by rw [hall, ← hp, List.length_map]
  have hnd : all.Nodup := by rw [hall]; exact bfs_nodup _
  have hcl : ∀ p ∈ all, ∀ q ∈ nx p, q ∈ all := by
    rw [hall]
    exact fun p hp2 q hq => bfs_closed (by rw [← hall, hL]; exact Nat.le_refl _) hp2 hq
  have hat : ∀ i, i < nds.length → ∃ p, all[i]? = some p ∧ p ∈ all := fun i hi => ⟨all[i]'(by omega), List.getElem?_eq_getElem (by omega), List.getElem_mem _⟩
  have hsu : ∀ {i p}, all[i]? = some p → sucL nx all i = nx p := fun {i p} hi => by unfold sucL; rw [hi]
  refine ⟨hp, ?_⟩
  rw [← hall]
  rw [← hall] at hev hp
  refine ⟨fun i n hn => ?_, fun i hi h0 => ?_, fun i hi j hj => ?_, fun i j hi => ?_, fun j i hi => ?_, fun i => ?_⟩
  · have hi : all[i]? = some n.p := by rw [← hp, List.getElem?_map, hn]; rfl
    have hin := (List.getElem?_eq_some_iff.1 hn).1
    obtain ⟨a1, a2, a3, a4⟩ := h.pr i n hn
    obtain ⟨b1, b2⟩ := a2 (.inl hin)
    refine ⟨?_, a1, ?_, ?_⟩
    · rw [b1]
      unfold v0G
      rw [hi]
      by_cases hx : nx n.p = []
      · have := hev n.p (List.mem_of_getElem? hi) hx
        simp only [hx, if_true]
        omega
      · simp only [hx, if_false]; rfl
    · rw [b2, nxtG, List.length_map, hsu hi]
    · rw [a4, ← hall]
      unfold frG
      rw [hi, hL]
      simp
  · obtain ⟨p, hp1, hp2⟩ := hat i hi
    unfold v0G at h0
    rw [hp1] at h0
    unfold nxtG
    rw [hsu hp1]
    intro hh
    have hx : nx p = [] := List.map_eq_nil_iff.1 hh
    have := hev p hp2 hx
    simp only [hx, if_true] at h0
    omega
  · obtain ⟨p, hp1, hp2⟩ := hat i hi
    unfold nxtG at hj
    rw [hsu hp1] at hj
    obtain ⟨q, hq, rfl⟩ := List.mem_map.1 hj
    rw [← hL]
    exact List.idxOf_lt_length_iff.2 (hcl p hp2 q hq)
  · obtain ⟨p, hp1, hp2⟩ := hat i hi
    unfold frG nxtG
    rw [hsu hp1]
    cases hj : all[j]? with
    | none =>
      symm
      simp only [List.count_nil]
      refine List.count_eq_zero_of_not_mem (fun hh => ?_)
      obtain ⟨q, hq, hqj⟩ := List.mem_map.1 hh
      have h1 := List.idxOf_lt_length_iff.2 (hcl p hp2 q hq)
      rw [hqj] at h1
      rw [List.getElem?_eq_none_iff] at hj
      omega
    | some q =>
      simp only []
      rw [frN_count, if_pos (by omega), hsu hp1, count_idx hnd hj _ (hcl p hp2)]
  · unfold frG at hi
    cases hj : all[j]? with
    | none => rw [hj] at hi; simp at hi
    | some q => rw [hj] at hi; rw [← hL]; exact frN_lt hi
  · unfold nxtG
    rw [List.length_map]
    unfold sucL
    split
    · exact hl _
    · simp
end Go.Proofs.YtbijadnekoeofaaGreatDoor

namespace Go.Proofs.YtbijadnekoeofaaGreatDoor
open Go.RowKit

/-- What the nodes say. -/
def aOf (nds : List Nd) (i : Nat) : Nat × Nat :=
  match nds[i]? with
  | some n => (n.v.toNat, n.d.toNat)
  | none => (0, 0)
def lOf (nds : List Nd) (i : Nat) : Int :=
  match nds[i]? with
  | some n => n.l
  | none => 0
theorem aOf_at {nds : List Nd} {i : Nat} {n : Nd} (h : nds[i]? = some n) : aOf nds i = (n.v.toNat, n.d.toNat) := by unfold aOf; rw [h]
theorem lOf_at {nds : List Nd} {i : Nat} {n : Nd} (h : nds[i]? = some n) : lOf nds i = n.l := by unfold lOf; rw [h]
theorem aOf_self {nds : List Nd} {i : Nat} (h : i < nds.length) (n : Nd) : aOf (nds.set i n) i = (n.v.toNat, n.d.toNat) := aOf_at (List.getElem?_set_self h)
theorem aOf_other {nds : List Nd} {i x : Nat} (h : x ≠ i) (n : Nd) : aOf (nds.set i n) x = aOf nds x := by unfold aOf; rw [List.getElem?_set_ne (Ne.symm h)]
theorem lOf_self {nds : List Nd} {i : Nat} (h : i < nds.length) (n : Nd) : lOf (nds.set i n) i = n.l := lOf_at (List.getElem?_set_self h)
theorem lOf_other {nds : List Nd} {i x : Nat} (h : x ≠ i) (n : Nd) : lOf (nds.set i n) x = lOf nds x := by unfold lOf; rw [List.getElem?_set_ne (Ne.symm h)]
/-- The same positions, with the same ones who lead to them. -/
def sameN (nds0 nds : List Nd) : Prop := nds.length = nds0.length ∧ ∀ (i : Nat) (n : Nd), nds[i]? = some n → ∃ n0, nds0[i]? = some n0 ∧ n.p = n0.p ∧ n.fr = n0.fr ∧ n.fo = n0.fo ∧ n.fc = n0.fc
theorem sameN.refl (nds : List Nd) : sameN nds nds := ⟨rfl, fun _ n h => ⟨n, h, rfl, rfl, rfl, rfl⟩⟩
theorem sameN.set {nds0 nds : List Nd} (h : sameN nds0 nds) {i : Nat} {n : Nd} (hn : nds[i]? = some n) (n' : Nd) (h1 : n'.p = n.p) (h2 : n'.fr = n.fr) (h3 : n'.fo = n.fo) (h4 : n'.fc = n.fc) : sameN nds0 (nds.set i n') := by
  have hi := (List.getElem?_eq_some_iff.1 hn).1
  refine ⟨by rw [List.length_set]; exact h.1, fun j m hm => ?_⟩
  by_cases hj : i = j
  · subst hj
    rw [List.getElem?_set_self hi] at hm
    cases hm
    obtain ⟨n0, a1, a2, a3, a4, a5⟩ := h.2 i n hn
    exact ⟨n0, a1, h1.trans a2, h2.trans a3, h3.trans a4, h4.trans a5⟩
  · rw [List.getElem?_set_ne hj] at hm
    exact h.2 j m hm
/-- On the way. -/
structure SI (nxt : Nat → List Nat) (v0 : Nat → Nat) (fr : Nat → List Nat) (nds0 nds : List Nd) (known : List Nat) (k p : Nat) : Prop where
  q : QI nds0.length nxt v0 fr (aOf nds) (lOf nds) known k p
  same : sameN nds0 nds
  pos : ∀ (i : Nat) (n : Nd), nds[i]? = some n → 0 ≤ n.v ∧ 0 ≤ n.d
  di : ∀ a x : Nat, known[a]? = some x → (aOf nds x).2 ≤ a
section
variable {nxt : Nat → List Nat} {v0 : Nat → Nat} {fr : Nat → List Nat} {nds0 nds : List Nd} {known : List Nat} {k p : Nat}
theorem nodup_len : ∀ {N : Nat} {l : List Nat}, l.Nodup → (∀ x ∈ l, x < N) → l.length ≤ N
  | 0, l, _, hl => by
    cases l with
    | nil => exact Nat.le_refl _
    | cons a l => exact absurd (hl a (by simp)) (by omega)
  | N + 1, l, hn, hl => by
    by_cases hN : N ∈ l
    · have h1 := List.length_erase_of_mem hN
      have h2 := nodup_len (N := N) (l := l.erase N) (hn.erase N) (fun x hx => by
        have h3 := (hn.mem_erase_iff).1 hx
        have := hl x h3.2
        have := h3.1
        omega)
      omega
    · have h2 := nodup_len (N := N) (l := l) hn (fun x hx => by
        have h3 := hl x hx
        have h4 : x ≠ N := fun e => hN (e ▸ hx)
        omega)
      omega
theorem SI.klen (h : SI nxt v0 fr nds0 nds known k p) : known.length ≤ nds0.length := nodup_len h.q.nd (fun x hx => ((h.q.kn x).1 hx).1)
theorem SI.dist (h : SI nxt v0 fr nds0 nds known k p) {j : Nat} (hj : known[k]? = some j) : (aOf nds j).2 ≤ nds0.length := by
  have h1 := h.di k j hj
  have h2 := (List.getElem?_eq_some_iff.1 hj).1
  have h3 := h.klen
  omega
theorem SI.next (h : SI nxt v0 fr nds0 nds known k p) (hfr : ∀ i j, i < nds0.length → (fr j).count i = (nxt i).count j) {j : Nat} (hj : known[k]? = some j) (hp : (fr j).length ≤ p) : SI nxt v0 fr nds0 nds known (k + 1) 0 := ⟨h.q.next hfr hj hp, h.same, h.pos, h.di⟩
theorem SI.edge0 (h : SI nxt v0 fr nds0 nds known k p) {j i : Nat} (hj : known[k]? = some j) (hi : (fr j)[p]? = some i) {n : Nd} (hn : nds[i]? = some n) (hv : n.v ≠ 0) : SI nxt v0 fr nds0 nds known k (p + 1) := by
  refine ⟨h.q.edge0 hj hi ?_, h.same, h.pos, h.di⟩
  have := (h.pos i n hn).1
  rw [aOf_at hn]
  simp only
  omega
theorem SI.open_ (h : SI nxt v0 fr nds0 nds known k p) {i : Nat} {n : Nd} (hn : nds[i]? = some n) (hv : n.v = 0) : v0 i = 0 ∧ i < nds0.length ∧ 0 < n.l ∧ n.l ≤ ((nxt i).length : Int) := by
  have hi : i < nds0.length := by rw [← h.same.1]; exact (List.getElem?_eq_some_iff.1 hn).1
  have ha : (aOf nds i).1 = 0 := by rw [aOf_at hn, hv]; rfl
  have h0 : v0 i = 0 := Classical.byContradiction fun hne => by
    rw [h.q.over i hi hne] at ha
    exact hne ha
  obtain ⟨-, u2, u3, -, -⟩ := h.q.unk i hi h0 ha
  rw [lOf_at hn] at u2 u3
  have : ((nxt i).filter (fun j => decide (j ∉ known.take k))).length ≤ (nxt i).length := List.length_filter_le _ _
  exact ⟨h0, hi, u3, by omega⟩
/-- Only counted. -/
theorem SI.edge1 (h : SI nxt v0 fr nds0 nds known k p) {j i : Nat} (hj : known[k]? = some j) (hi : (fr j)[p]? = some i) {n : Nd} (hn : nds[i]? = some n) (hv : n.v = 0) {m : Nd} (hm : nds[j]? = some m) (hjl : m.v ≠ 2) (hnz : n.l - 1 ≠ 0) : SI nxt v0 fr nds0 (nds.set i { n with l := n.l - 1 }) known k (p + 1) := by
  have hil := (List.getElem?_eq_some_iff.1 hn).1
  have hA : aOf (nds.set i { n with l := n.l - 1 }) = aOf nds := by
    funext x
    by_cases hx : x = i
    · subst hx; rw [aOf_self hil, aOf_at hn]
    · exact aOf_other hx _
  have hm0 := (h.pos j m hm).1
  obtain ⟨h0, hiN, -, -⟩ := h.open_ hn hv
  refine ⟨?_, h.same.set hn _ rfl rfl rfl rfl, fun x y hy => ?_, ?_⟩
  · rw [hA]
    refine h.q.edge1 hj hi hiN h0 (by rw [aOf_at hn, hv]; rfl) _ ?_ (fun x hx => lOf_other hx _) ?_ ?_
    · rw [lOf_self hil, lOf_at hn]
    · rw [lOf_self hil]; exact hnz
    · rw [aOf_at hm]; simp only; omega
  · by_cases hx : i = x
    · subst hx
      rw [List.getElem?_set_self hil] at hy
      cases hy
      exact h.pos i n hn
    · rw [List.getElem?_set_ne hx] at hy
      exact h.pos x y hy
  · rw [hA]; exact h.di
/-- Something is known thereby. -/
theorem SI.edge2 (h : SI nxt v0 fr nds0 nds known k p) (hnN : ∀ i, i < nds0.length → ∀ j ∈ nxt i, j < nds0.length) (hfr : ∀ i j, i < nds0.length → (fr j).count i = (nxt i).count j) {j i : Nat} (hj : known[k]? = some j) (hi : (fr j)[p]? = some i) {n : Nd} (hn : nds[i]? = some n) (hv : n.v = 0) {m : Nd} (hm : nds[j]? = some m) (v : Int) (hcase : (m.v = 2 ∧ v = 1) ∨ (m.v ≠ 2 ∧ n.l - 1 = 0 ∧ v = 2)) : SI nxt v0 fr nds0 (nds.set i { n with l := n.l - 1, v := v, d := m.d + 1 }) (known ++ [i]) k (p + 1) := by
  have hil := (List.getElem?_eq_some_iff.1 hn).1
  obtain ⟨h0, hiN, -, -⟩ := h.open_ hn hv
  have hm0 := h.pos j m hm
  have hv12 : v = 1 ∨ v = 2 := by rcases hcase with ⟨_, h⟩ | ⟨_, _, h⟩ <;> omega
  have hself : aOf (nds.set i { n with l := n.l - 1, v := v, d := m.d + 1 }) i = (v.toNat, (aOf nds j).2 + 1) := by
    rw [aOf_self hil, aOf_at hm]
    simp only [Prod.mk.injEq, true_and]
    omega
  refine ⟨?_, h.same.set hn _ rfl rfl rfl rfl, fun x y hy => ?_, fun a x hx => ?_⟩
  · refine h.q.edge2 hnN hfr hj hi hiN h0 (by rw [aOf_at hn, hv]; rfl) _ ?_ (fun x hx => lOf_other hx _) _ (fun x hx => aOf_other hx _) v.toNat hself ?_
    · rw [lOf_self hil, lOf_at hn]
    · rw [aOf_at hm, lOf_self hil]
      simp only
      rcases hcase with ⟨a1, a2⟩ | ⟨a1, a2, a3⟩
      · left; omega
      · right; exact ⟨by omega, a2, by omega⟩
  · by_cases hx : i = x
    · subst hx
      rw [List.getElem?_set_self hil] at hy
      cases hy
      show 0 ≤ v ∧ 0 ≤ m.d + 1
      omega
    · rw [List.getElem?_set_ne hx] at hy
      exact h.pos x y hy
  · have hkl := (List.getElem?_eq_some_iff.1 hj).1
    by_cases ha : a < known.length
    · rw [List.getElem?_append_left ha] at hx
      have hxi : x ≠ i := fun e => by
        have := ((h.q.kn x).1 (List.mem_of_getElem? hx)).2
        rw [e, aOf_at hn, hv] at this
        simp at this
      rw [aOf_other hxi]
      exact h.di a x hx
    · have hxi : x = i := by
        rw [List.getElem?_append_right (by omega)] at hx
        have := List.mem_of_getElem? hx
        simpa using this
      rw [hxi, hself]
      simp only
      have := h.di k j hj
      omega
end
end Go.Proofs.YtbijadnekoeofaaGreatDoor

namespace Go.Proofs.YtbijadnekoeofaaGreatDoor
open Go.RowKit

/-- Nodes, and the row of those that are known. -/
structure SM (base gN cap : Nat) (w : World) (nds : List Nd) (ko : Option Addr) (kc : Nat) (known : List Nat) (u : World) : Prop where
  nd : NdR u base gN cap nds
  kn : u.ownsRow w.heap.size 3 1 (.slice ko known.length kc) known.length (ivs known)
  gr : w.grownBy u (some gN)
  lo : gN < w.heap.size
  fb : ∀ (i : Nat) (n : Nd), nds[i]? = some n → ∀ g, (Value.slice n.fo n.fr.length n.fc).ownBlock = some g → g < w.heap.size
section
variable {base gN cap : Nat} {w : World} {nds : List Nd} {ko : Option Addr} {kc : Nat} {known : List Nat} {u u' : World}
theorem SM.start (h : NdR w base gN cap nds) : SM base gN cap w nds none 0 [] w :=
  ⟨h, ⟨rfl, .inl ⟨rfl, rfl⟩⟩, ⟨rfl, rfl, rfl, Nat.le_refl _, fun _ _ _ => rfl⟩, h.lt.2, fun i n hn _ hg => (row_block (h.fr i n hn) hg).2⟩
theorem SM.below (h : SM base gN cap w nds ko kc known u) (hb : Below u.heap.size u u') : SM base gN cap w nds ko kc known u' := by
  have hs := h.gr.size
  refine ⟨h.nd.below hb, ?_, ⟨hb.os.trans h.gr.os, hb.tape.trans h.gr.tape, hb.output.trans h.gr.output, Nat.le_trans hs hb.size, fun k hk hne => (hb.block k (by omega)).trans (h.gr.block k hk hne)⟩, h.lo, h.fb⟩
  refine row_off h.kn (b := u.heap.size) ⟨hb.os, hb.tape, hb.output, hb.size, fun k hk _ => hb.block k hk⟩ (fun e => ?_)
  have := (row_block h.kn e).2
  omega
/-- A cell of a node changes. -/
theorem SM.set (h : SM base gN cap w nds ko kc known u) {i : Nat} {n n' : Nd} (hn : nds[i]? = some n) (j : Nat) (hj : j < 10) (v : Value) (hv : n'.vs = n.vs.set j v) (hfo : n'.fo = n.fo) (hfr : n'.fr = n.fr) (hfc : n'.fc = n.fc) : SM base gN cap w (nds.set i n') ko kc known (u.setCell ⟨gN, i * 10 + j, none⟩ v) := by
  obtain ⟨r1, g1⟩ := h.nd.set hn j hj v hv hfo hfr hfc
  have hi := (List.getElem?_eq_some_iff.1 hn).1
  have hlo := h.lo
  refine ⟨r1, row_off h.kn g1 (fun e => by have := (row_block h.kn e).1; omega), h.gr.andThen g1 (fun _ hk => .inr hk), h.lo, fun a m hm => ?_⟩
  by_cases ha : i = a
  · subst ha
    rw [List.getElem?_set_self hi] at hm
    cases hm
    rw [hfo, hfr, hfc]
    exact h.fb i n hn
  · rw [List.getElem?_set_ne ha] at hm
    exact h.fb a m hm
/-- One more is known. -/
theorem SM.push (h : SM base gN cap w nds ko kc known u) (i : Nat) (hl : known.length ≤ 5000) :
    ∃ ko' kc' u2, (Builtin.append_ #[52, 52] 52 #[.slice ko known.length kc, .slice (some ⟨u.heap.size, 0, none⟩) 1 1]).run Tryz.prog (u.alloc (.cells #[.int .i64 (i : Int)] 3 (0, 0))) = .ok (.slice ko' (known.length + 1) kc') u2 ∧ SM base gN cap w nds ko' kc' (known ++ [i]) u2 ∧ u.heap.size ≤ u2.heap.size ∧ ∀ g, g < u.heap.size → (Value.slice ko known.length kc).ownBlock ≠ some g → u2.heap[g]? = u.heap[g]? ∧ (Value.slice ko' (known.length + 1) kc').ownBlock ≠ some g := by
  obtain ⟨i0, hinfo, hz0, hz1, hz2⟩ := info_parts infoInt
  have hba : Below u.heap.size u (u.alloc (.cells #[.int .i64 (i : Int)] 3 (0, 0))) := (Below.refl _ _).alloc (Nat.le_refl _) _
  have ha := h.below hba
  obtain ⟨v2, u2, hrun, hr, hg, -, hob⟩ := run_append_own_at (P := Tryz.prog) (u.alloc (.cells #[.int .i64 (i : Int)] 3 (0, 0))) w.heap.size 52 52 3 i0 _ 1 8 Tryz.underlying52 hinfo hz0 hz1 hz2 rfl (by omega) (.slice ko known.length kc) known.length (ivs known) ha.kn ⟨u.heap.size, 0, none⟩ 1 1 [.int .i64 (i : Int)] rfl
    (fun a x hx => by
      have ha0 : a = 0 := by
        have := (List.getElem?_eq_some_iff.1 hx).1
        simp at this
        omega
      subst ha0
      simp only [List.getElem?_cons_zero, Option.some.injEq] at hx
      subst hx
      have hh := heap_alloc_new u (.cells #[.int .i64 (i : Int)] 3 (0, 0))
      show World.cell? _ ⟨u.heap.size, 0 + 0, none⟩ = _
      unfold World.cell?
      rw [hh]
      rfl)
    (fun x hx => by rw [List.mem_singleton.1 hx]; rfl) (by unfold maxLen; omega) (by omega) (Nat.le_trans h.gr.size hba.size)
  obtain ⟨ko', kc', rfl⟩ : ∃ ko' kc', v2 = .slice ko' (known.length + 1) kc' := by
    rcases hr.2 with ⟨_, h0⟩ | ⟨g, cp, cur, e, _⟩
    · omega
    · exact ⟨_, _, e⟩
  have hle : (known ++ [i]).length = known.length + 1 := by simp
  have hlo := h.lo
  refine ⟨ko', kc', u2, hrun, ⟨?_, ?_, ?_, h.lo, h.fb⟩, Nat.le_trans hba.size hg.size, fun g hgl hne => ⟨(hg.block g (Nat.lt_of_lt_of_le hgl hba.size) (fun e => hne e.symm)).trans (hba.block g hgl), fun e => ?_⟩⟩
  · cases hb : (Value.slice ko known.length kc).ownBlock with
    | none =>
      rw [hb] at hg
      exact ha.nd.below ⟨hg.os, hg.tape, hg.output, hg.size, fun k hk => hg.block k hk (by simp)⟩
    | some g =>
      rw [hb] at hg
      have hgw := (row_block ha.kn hb).1
      exact ha.nd.off hg (by omega) (fun a m hm e => by have := h.fb a m hm g e; omega)
  · rw [hle, show ivs (known ++ [i]) = ivs known ++ [.int .i64 (i : Int)] by simp [ivs]]
    exact hr
  · have hs := ha.gr.size
    refine ⟨hg.os.trans ha.gr.os, hg.tape.trans ha.gr.tape, hg.output.trans ha.gr.output, Nat.le_trans hs hg.size, fun k hk hne => (hg.block k (by omega) (fun e => ?_)).trans (ha.gr.block k hk hne)⟩
    have := (row_block ha.kn e.symm).1
    omega
  · rcases hob with e2 | e2
    · exact hne (e2.symm.trans e)
    · rw [e2] at e
      simp at e
      omega
/-- The k-th of those that are known. -/
theorem SM.at_ (h : SM base gN cap w nds ko kc known u) {k j : Nat} (hj : known[k]? = some j) : ∃ gk, ko = some ⟨gk, 0, none⟩ ∧ w.heap.size ≤ gk ∧ gk < u.heap.size ∧ u.cell? ⟨gk, k, none⟩ = some (.int .i64 (j : Int)) ∧ known.length ≤ kc ∧ kc ≤ 9223372036854775807 := by
  have hk := (List.getElem?_eq_some_iff.1 hj).1
  rcases h.kn.2 with ⟨e, h0⟩ | ⟨g, c, cur, e, hb, hg, h1, h2, _⟩
  · omega
  · simp only [Value.slice.injEq, true_and] at e
    obtain ⟨rfl, rfl⟩ := e
    unfold maxLen at h2
    refine ⟨g, rfl, hb, (Array.getElem?_eq_some_iff.1 hg).1, ?_, h1, h2⟩
    rw [h.kn.cellAt k (by omega)]
    unfold ivs
    rw [List.getElem?_map, hj]
    rfl
/-- The p-th of those who lead to it. -/
theorem SM.from (h : SM base gN cap w nds ko kc known u) {j p i : Nat} {m : Nd} (hm : nds[j]? = some m) (hi : m.fr[p]? = some i) : ∃ gf, m.fo = some ⟨gf, 0, none⟩ ∧ gf < w.heap.size ∧ gf ≠ gN ∧ u.cell? ⟨gf, p, none⟩ = some (.int .i64 (i : Int)) ∧ m.fr.length ≤ m.fc ∧ m.fc ≤ 9223372036854775807 := by
  have hp := (List.getElem?_eq_some_iff.1 hi).1
  have hr := h.nd.fr j m hm
  rcases hr.2 with ⟨e, h0⟩ | ⟨g, c, cur, e, hb, hg, h1, h2, _⟩
  · omega
  · have hob : (Value.slice m.fo m.fr.length m.fc).ownBlock = some g := by rw [e]; rfl
    have hlt := h.fb j m hm g hob
    have hne : g ≠ gN := fun e2 => h.nd.ne j m hm (by rw [hob, e2])
    rw [e] at hr
    simp only [Value.slice.injEq, true_and] at e
    unfold maxLen at h2
    refine ⟨g, e.1, hlt, hne, ?_, by rw [e.2]; exact h1, by rw [e.2]; exact h2⟩
    rw [hr.cellAt p (by omega)]
    unfold ivs
    rw [List.getElem?_map, hi]
    rfl
end
end Go.Proofs.YtbijadnekoeofaaGreatDoor
