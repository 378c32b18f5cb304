/-
  '==' between entries; the law's Same, of the same entries.
  table.Make: the row of entries while it is filled.
  table.settle: what holds on the way, of nodes.
  table.settle: what holds on the way, in memory.
-/
import Derived.Test.YtbijadnekoeofaaGreatDoorJ12
import Derived.Test.YtbijadnekoeofaaGreatDoorJ4
import Derived.Test.YtbijadnekoeofaaGreatDoorJ10
import Derived.Test.YtbijadnekoeofaaGreatDoorJ9
import Derived.Test.YtbijadnekoeofaaGreatDoorT16
import Derived.Test.YtbijadnekoeofaaGreatDoorJ6
namespace Go.Proofs.YtbijadnekoeofaaGreatDoor
open Go.RowKit
attribute [local go_sem ↓] Go.wp_at_zero Go.wp_at_succ

theorem eqHandsN (n : Nat) (w : World) (A B A' B' : ByteArray) :
    (Op.equalIn (n + 1 + 1) 22 (.agg #[.string A, .string B]) (.agg #[.string A', .string B'])).run Tryz.prog w = .ok (A.toList == A'.toList && B.toList == B'.toList) w := by
  obtain ⟨i, hi⟩ : ∃ i, Tryz.prog.info? 9 = some i := by
    have h : (Tryz.prog.info? 9).isSome = true := by kernel_rfl
    exact Option.isSome_iff_exists.1 h
  have hc : Tryz.prog.cellsOf 9 = 1 := by kernel_rfl
  rw [run_equalIn_array w (n + 1) _ _ Tryz.underlying22 hi, hc]
  have hr : List.range 2 = [0, 1] := rfl
  rw [hr]
  simp [go_sem, Op.eqItems]
  by_cases h1 : A.toList = A'.toList <;> by_cases h2 : B.toList = B'.toList <;> simp [h1, h2]

set_option maxHeartbeats 1000000 in
theorem eqPosN (n : Nat) (w : World) (W H T W' H' T' : Int) (C A B C' A' B' : ByteArray) :
    (Op.equalIn (n + 1 + 1 + 1) 24 (.agg #[.int .i64 W, .int .i64 H, .string C, .int .i64 T, .string A, .string B]) (.agg #[.int .i64 W', .int .i64 H', .string C', .int .i64 T', .string A', .string B'])).run Tryz.prog w =
      .ok (samePos W H C T A B W' H' C' T' A' B') w := by
  rw [run_equalIn_agg w (n + 1 + 1) 24 _ _ (by kernel_rfl) (by kernel_rfl)]
  unfold Program.fieldsOf
  rw [Tryz.underlying24]
  simp [go_sem, eqHandsN, samePos]
  by_cases h1 : W = W' <;> by_cases h2 : H = H' <;> by_cases h3 : C.toList = C'.toList <;> by_cases h4 : T = T' <;> by_cases h5 : A.toList = A'.toList <;> by_cases h6 : B.toList = B'.toList <;> simp [h1, h2, h3, h4, h5, h6]
theorem eqPos9 (w : World) (W H T W' H' T' : Int) (C A B C' A' B' : ByteArray) :
    (Op.equalIn 9999 24 (.agg #[.int .i64 W, .int .i64 H, .string C, .int .i64 T, .string A, .string B]) (.agg #[.int .i64 W', .int .i64 H', .string C', .int .i64 T', .string A', .string B'])).run Tryz.prog w =
      .ok (samePos W H C T A B W' H' C' T' A' B') w := eqPosN 9996 w W H T W' H' T' C A B C' A' B'

set_option maxHeartbeats 1000000 in
theorem eqEntry (w : World) (W H T : Int) (C A B : ByteArray) (v d : Int) :
    (Op.equalIn 10000 34 (.agg #[.int .i64 W, .int .i64 H, .string C, .int .i64 T, .string A, .string B, .int .i64 v, .int .i64 d]) (.agg #[.int .i64 W, .int .i64 H, .string C, .int .i64 T, .string A, .string B, .int .i64 v, .int .i64 d])).run Tryz.prog w = .ok true w := by
  rw [run_equalIn_agg w 9999 34 _ _ (by kernel_rfl) (by kernel_rfl)]
  unfold Program.fieldsOf
  rw [Tryz.underlying34]
  simp [go_sem, eqPos9, samePos_refl]

set_option maxHeartbeats 4000000 in
set_option maxRecDepth 100000 in
theorem SameE_same (va vb : Value) (base : Nat) (ts : List (Po × Int × Int)) (w : World) (ha : w.ownsRow base 34 8 va ts.length (evs ts)) (hb : w.ownsRow base 34 8 vb ts.length (evs ts)) :
    Calls Tryz.prog 7 #[va, vb] w fun e w' => e = .returned (.bool true) ∧ Below w.heap.size w w' := by
  have key : ∀ {v : Value}, w.ownsRow base 34 8 v ts.length (evs ts) → ∃ o c, v = .slice o ts.length c ∧ ts.length ≤ c ∧ c ≤ maxLen ∧ ∀ (k : Nat) (e : Po × Int × Int), ts[k]? = some e → ∃ g, o = some ⟨g, 0, none⟩ ∧ ∀ u, Below w.heap.size w u → ∀ j, j < 8 → u.cell? ⟨g, k * 8 + j, none⟩ = (encE e)[j]? := fun {v} h => by
    rcases h.2 with ⟨e1, h0⟩ | ⟨g, cap, cur, e1, hb1, hg, h1, h2, -⟩
    · refine ⟨none, 0, by rw [e1, h0], by omega, by unfold maxLen; omega, fun k e hk => ?_⟩
      have := (List.getElem?_eq_some_iff.1 hk).1
      omega
    · subst e1
      refine ⟨_, cap, rfl, h1, h2, fun k e hk => ⟨g, rfl, fun u hu j hj => ?_⟩⟩
      have hkl := (List.getElem?_eq_some_iff.1 hk).1
      have hgl : g < w.heap.size := (Array.getElem?_eq_some_iff.1 hg).1
      rw [World.cell?_of_block (a := ⟨g, k * 8 + j, none⟩) (hu.block g hgl), h.cellAt (k * 8 + j) (by omega)]
      exact fm_at (f := encE) (c := 8) (fun _ => rfl) ts k j e hk hj
  obtain ⟨ao, cap, rfl, hle, hmx, hcs⟩ := key ha
  obtain ⟨bo, cap', rfl, hle', hmx', hcs'⟩ := key hb
  obtain ⟨n, hn⟩ : ∃ n, n = ts.length := ⟨_, rfl⟩
  rw [← hn] at hle hle' ⊢
  unfold maxLen at hmx hmx'
  have hnx : n ≤ 9223372036854775807 := by omega
  have HN := hide hn
  have HCS := hide hcs
  have HCS' := hide hcs'
  clear hn hcs hcs' key ha hb
  go_enter Tryz.func7, Tryz.ntmps7
  go_wp2
  go_loopw [13] (fun iv wr => ∃ k : Nat, iv = .int .i64 (k : Int) ∧ k ≤ n ∧ Below w.heap.size w wr) (fun iv _ => n - (intOf iv).toNat)
  case atStart => exact ⟨0, rfl, Nat.zero_le _, Below.refl _ _⟩
  case round =>
    obtain ⟨k, rfl, hk, hbw⟩ := hrel
    by_cases hlt : k < n
    · have hlti : (k : Int) < (n : Int) := by omega
      have hk0 : (0 : Int) ≤ (k : Int) := by omega
      have hkl : k < ts.length := by rw [← unhide HN]; exact hlt
      obtain ⟨m, hm⟩ : ∃ m, m = ts[k] := ⟨_, rfl⟩
      have hmk : ts[k]? = some m := by rw [hm]; exact List.getElem?_eq_getElem hkl
      obtain ⟨g, eg, cg⟩ := unhide HCS k m hmk
      obtain ⟨g', eg', cg'⟩ := unhide HCS' k m hmk
      subst eg
      subst eg'
      have d0 := cg _ hbw 0 (by omega)
      have d1 := cg _ hbw 1 (by omega)
      have d2 := cg _ hbw 2 (by omega)
      have d3 := cg _ hbw 3 (by omega)
      have d4 := cg _ hbw 4 (by omega)
      have d5 := cg _ hbw 5 (by omega)
      have d6 := cg _ hbw 6 (by omega)
      have d7 := cg _ hbw 7 (by omega)
      have f0 := cg' _ hbw 0 (by omega)
      have f1 := cg' _ hbw 1 (by omega)
      have f2 := cg' _ hbw 2 (by omega)
      have f3 := cg' _ hbw 3 (by omega)
      have f4 := cg' _ hbw 4 (by omega)
      have f5 := cg' _ hbw 5 (by omega)
      have f6 := cg' _ hbw 6 (by omega)
      have f7 := cg' _ hbw 7 (by omega)
      rw [Nat.add_zero] at d0 f0
      simp only [encE, List.getElem?_cons_zero, List.getElem?_cons_succ] at d0 d1 d2 d3 d4 d5 d6 d7 f0 f1 f2 f3 f4 f5 f6 f7
      have he := fun u => eqEntry u m.1.W m.1.H m.1.T m.1.C m.1.A m.1.B m.2.1 m.2.2
      have HBW := hide hbw
      clear hm hmk cg cg' hbw
      go_wp2_with fail
      go_quiet (fail)
      go_wp2
      go_roundw
      case rel => exact ⟨k + 1, by go_num, by omega, ⟨(unhide HBW).os, (unhide HBW).tape, (unhide HBW).output, (unhide HBW).size, (unhide HBW).block⟩⟩
      case measure => simp only [intOf]; omega
    · have hlti : ¬ (k : Int) < (n : Int) := by omega
      have HBW := hide hbw
      clear hbw
      go_wp2
      go_ret
      exact ⟨rfl, unhide HBW⟩
end Go.Proofs.YtbijadnekoeofaaGreatDoor

namespace Go.Proofs.YtbijadnekoeofaaGreatDoor
open Go.RowKit

/-- A node's entry. -/
def enN (n : Nd) : Po × Int × Int := (n.p, n.v, n.d)
/-- The first k entries stand in the row; nothing else has turned. -/
structure MkI (nds : List Nd) (base g k : Nat) (w5 u : World) : Prop where
  row : ∃ r : List Value, r.length = (nds.length - k) * 8 ∧ u.ownsRow base 34 8 (.slice (some ⟨g, 0, none⟩) nds.length nds.length) nds.length (evs ((nds.take k).map enN) ++ r)
  gr : w5.grownBy u (some g)
theorem MkI.below {nds : List Nd} {base g k : Nat} {w5 u u1 : World} (h : MkI nds base g k w5 u) (hb : Below u.heap.size u u1) : MkI nds base g k w5 u1 := by
  obtain ⟨⟨r, hr, hrow⟩, hg⟩ := h
  have hgu : u.grownBy u1 (some u.heap.size) := ⟨hb.os, hb.tape, hb.output, hb.size, fun k hk _ => hb.block k hk⟩
  have hgl : g < u.heap.size := (row_block hrow rfl).2
  refine ⟨⟨r, hr, row_off hrow hgu (by simp [Value.ownBlock]; omega)⟩, ?_⟩
  exact hg.andThen (show u.grownBy u1 none from ⟨hb.os, hb.tape, hb.output, hb.size, fun j hj _ => hb.block j hj⟩) (fun j hj => by cases hj)
theorem MkI.next {nds : List Nd} {base g k : Nat} {w5 u1 : World} {n : Nd} (h : MkI nds base g k w5 u1) (hn : nds[k]? = some n) :
    MkI nds base g (k + 1) w5 ((((((((u1.setCell ⟨g, k * 8, none⟩ (.int .i64 n.p.W)).setCell ⟨g, k * 8 + 1, none⟩ (.int .i64 n.p.H)).setCell ⟨g, k * 8 + 2, none⟩ (.string n.p.C)).setCell ⟨g, k * 8 + 3, none⟩ (.int .i64 n.p.T)).setCell ⟨g, k * 8 + 4, none⟩ (.string n.p.A)).setCell ⟨g, k * 8 + 5, none⟩ (.string n.p.B)).setCell ⟨g, k * 8 + 6, none⟩ (.int .i64 n.v)).setCell ⟨g, k * 8 + 7, none⟩ (.int .i64 n.d)) := by
  obtain ⟨⟨r, hr, hrow⟩, hg⟩ := h
  have hk : k < nds.length := (List.getElem?_eq_some_iff.1 hn).1
  have hl : ((nds.take k).map enN).length = k := by rw [List.length_map, List.length_take]; omega
  obtain ⟨h1, h2⟩ := row_set8 (enN n) 34 hrow (by omega) (k * 8) (by rw [hl])
  refine ⟨⟨r.drop 8, by rw [List.length_drop, hr]; omega, ?_⟩, hg.andThen h2 (fun j hj => .inr hj)⟩
  rw [List.take_add_one, hn, Option.toList_some, List.map_append]
  exact h1
theorem MkI.fin {nds : List Nd} {base g : Nat} {w5 u : World} (h : MkI nds base g nds.length w5 u) : u.ownsRow base 34 8 (.slice (some ⟨g, 0, none⟩) (nds.map enN).length nds.length) (nds.map enN).length (evs (nds.map enN)) := by
  obtain ⟨⟨r, hr, hrow⟩, -⟩ := h
  have hr0 : r = [] := List.length_eq_zero_iff.1 (by rw [hr]; omega)
  subst hr0
  rw [List.take_length, List.append_nil] at hrow
  rw [List.length_map]
  exact hrow
end Go.Proofs.YtbijadnekoeofaaGreatDoor

namespace Go.Proofs.YtbijadnekoeofaaGreatDoor
open Go.RowKit

/-- What the nodes say. -/
def aOf (nds : List Nd) (i : Nat) : Nat × Nat :=
  match nds[i]? with
  | some n => (n.v.toNat, n.d.toNat)
  | none => (0, 0)
def lOf (nds : List Nd) (i : Nat) : Int :=
  match nds[i]? with
  | some n => n.l
  | none => 0
theorem aOf_at {nds : List Nd} {i : Nat} {n : Nd} (h : nds[i]? = some n) : aOf nds i = (n.v.toNat, n.d.toNat) := by unfold aOf; rw [h]
theorem lOf_at {nds : List Nd} {i : Nat} {n : Nd} (h : nds[i]? = some n) : lOf nds i = n.l := by unfold lOf; rw [h]
theorem aOf_self {nds : List Nd} {i : Nat} (h : i < nds.length) (n : Nd) : aOf (nds.set i n) i = (n.v.toNat, n.d.toNat) := aOf_at (List.getElem?_set_self h)
theorem aOf_other {nds : List Nd} {i x : Nat} (h : x ≠ i) (n : Nd) : aOf (nds.set i n) x = aOf nds x := by unfold aOf; rw [List.getElem?_set_ne (Ne.symm h)]
theorem lOf_self {nds : List Nd} {i : Nat} (h : i < nds.length) (n : Nd) : lOf (nds.set i n) i = n.l := lOf_at (List.getElem?_set_self h)
theorem lOf_other {nds : List Nd} {i x : Nat} (h : x ≠ i) (n : Nd) : lOf (nds.set i n) x = lOf nds x := by unfold lOf; rw [List.getElem?_set_ne (Ne.symm h)]
/-- The same positions, with the same ones who lead to them. -/
def sameN (nds0 nds : List Nd) : Prop := nds.length = nds0.length ∧ ∀ (i : Nat) (n : Nd), nds[i]? = some n → ∃ n0, nds0[i]? = some n0 ∧ n.p = n0.p ∧ n.fr = n0.fr ∧ n.fo = n0.fo ∧ n.fc = n0.fc
theorem sameN.refl (nds : List Nd) : sameN nds nds := ⟨rfl, fun _ n h => ⟨n, h, rfl, rfl, rfl, rfl⟩⟩
theorem sameN.set {nds0 nds : List Nd} (h : sameN nds0 nds) {i : Nat} {n : Nd} (hn : nds[i]? = some n) (n' : Nd) (h1 : n'.p = n.p) (h2 : n'.fr = n.fr) (h3 : n'.fo = n.fo) (h4 : n'.fc = n.fc) : sameN nds0 (nds.set i n') := by
  have hi := (List.getElem?_eq_some_iff.1 hn).1
  refine ⟨by rw [List.length_set]; exact h.1, fun j m hm => ?_⟩
  by_cases hj : i = j
  · subst hj
    rw [List.getElem?_set_self hi] at hm
    cases hm
    obtain ⟨n0, a1, a2, a3, a4, a5⟩ := h.2 i n hn
    exact ⟨n0, a1, h1.trans a2, h2.trans a3, h3.trans a4, h4.trans a5⟩
  · rw [List.getElem?_set_ne hj] at hm
    exact h.2 j m hm
/-- On the way. -/
structure SI (nxt : Nat → List Nat) (v0 : Nat → Nat) (fr : Nat → List Nat) (nds0 nds : List Nd) (known : List Nat) (k p : Nat) : Prop where
  q : QI nds0.length nxt v0 fr (aOf nds) (lOf nds) known k p
  same : sameN nds0 nds
  pos : ∀ (i : Nat) (n : Nd), nds[i]? = some n → 0 ≤ n.v ∧ 0 ≤ n.d
  di : ∀ a x : Nat, known[a]? = some x → (aOf nds x).2 ≤ a
section
variable {nxt : Nat → List Nat} {v0 : Nat → Nat} {fr : Nat → List Nat} {nds0 nds : List Nd} {known : List Nat} {k p : Nat}
theorem nodup_len : ∀ {N : Nat} {l : List Nat}, l.Nodup → (∀ x ∈ l, x < N) → l.length ≤ N
  | 0, l, _, hl => by
    cases l with
    | nil => exact Nat.le_refl _
    | cons a l => exact absurd (hl a (by simp)) (by omega)
  | N + 1, l, hn, hl => by
    by_cases hN : N ∈ l
    · have h1 := List.length_erase_of_mem hN
      have h2 := nodup_len (N := N) (l := l.erase N) (hn.erase N) (fun x hx => by
        have h3 := (hn.mem_erase_iff).1 hx
        have := hl x h3.2
        have := h3.1
        omega)
      omega
    · have h2 := nodup_len (N := N) (l := l) hn (fun x hx => by
        have h3 := hl x hx
        have h4 : x ≠ N := fun e => hN (e ▸ hx)
        omega)
      omega
theorem SI.klen (h : SI nxt v0 fr nds0 nds known k p) : known.length ≤ nds0.length := nodup_len h.q.nd (fun x hx => ((h.q.kn x).1 hx).1)
theorem SI.dist (h : SI nxt v0 fr nds0 nds known k p) {j : Nat} (hj : known[k]? = some j) : (aOf nds j).2 ≤ nds0.length := by
  have h1 := h.di k j hj
  have h2 := (List.getElem?_eq_some_iff.1 hj).1
  have h3 := h.klen
  omega
theorem SI.next (h : SI nxt v0 fr nds0 nds known k p) (hfr : ∀ i j, i < nds0.length → (fr j).count i = (nxt i).count j) {j : Nat} (hj : known[k]? = some j) (hp : (fr j).length ≤ p) : SI nxt v0 fr nds0 nds known (k + 1) 0 := ⟨h.q.next hfr hj hp, h.same, h.pos, h.di⟩
theorem SI.edge0 (h : SI nxt v0 fr nds0 nds known k p) {j i : Nat} (hj : known[k]? = some j) (hi : (fr j)[p]? = some i) {n : Nd} (hn : nds[i]? = some n) (hv : n.v ≠ 0) : SI nxt v0 fr nds0 nds known k (p + 1) := by
  refine ⟨h.q.edge0 hj hi ?_, h.same, h.pos, h.di⟩
  have := (h.pos i n hn).1
  rw [aOf_at hn]
  simp only
  omega
theorem SI.open_ (h : SI nxt v0 fr nds0 nds known k p) {i : Nat} {n : Nd} (hn : nds[i]? = some n) (hv : n.v = 0) : v0 i = 0 ∧ i < nds0.length ∧ 0 < n.l ∧ n.l ≤ ((nxt i).length : Int) := by
  have hi : i < nds0.length := by rw [← h.same.1]; exact (List.getElem?_eq_some_iff.1 hn).1
  have ha : (aOf nds i).1 = 0 := by rw [aOf_at hn, hv]; rfl
  have h0 : v0 i = 0 := Classical.byContradiction fun hne => by
    rw [h.q.over i hi hne] at ha
    exact hne ha
  obtain ⟨-, u2, u3, -, -⟩ := h.q.unk i hi h0 ha
  rw [lOf_at hn] at u2 u3
  have : ((nxt i).filter (fun j => decide (j ∉ known.take k))).length ≤ (nxt i).length := List.length_filter_le _ _
  exact ⟨h0, hi, u3, by omega⟩
/-- Only counted. -/
theorem SI.edge1 (h : SI nxt v0 fr nds0 nds known k p) {j i : Nat} (hj : known[k]? = some j) (hi : (fr j)[p]? = some i) {n : Nd} (hn : nds[i]? = some n) (hv : n.v = 0) {m : Nd} (hm : nds[j]? = some m) (hjl : m.v ≠ 2) (hnz : n.l - 1 ≠ 0) : SI nxt v0 fr nds0 (nds.set i { n with l := n.l - 1 }) known k (p + 1) := by
  have hil := (List.getElem?_eq_some_iff.1 hn).1
  have hA : aOf (nds.set i { n with l := n.l - 1 }) = aOf nds := by
    funext x
    by_cases hx : x = i
    · subst hx; rw [aOf_self hil, aOf_at hn]
    · exact aOf_other hx _
  have hm0 := (h.pos j m hm).1
  obtain ⟨h0, hiN, -, -⟩ := h.open_ hn hv
  refine ⟨?_, h.same.set hn _ rfl rfl rfl rfl, fun x y hy => ?_, ?_⟩
  · rw [hA]
    refine h.q.edge1 hj hi hiN h0 (by rw [aOf_at hn, hv]; rfl) _ ?_ (fun x hx => lOf_other hx _) ?_ ?_
    · rw [lOf_self hil, lOf_at hn]
    · rw [lOf_self hil]; exact hnz
    · rw [aOf_at hm]; simp only; omega
  · by_cases hx : i = x
    · subst hx
      rw [List.getElem?_set_self hil] at hy
      cases hy
      exact h.pos i n hn
    · rw [List.getElem?_set_ne hx] at hy
      exact h.pos x y hy
  · rw [hA]; exact h.di
/-- Something is known thereby. -/
theorem SI.edge2 (h : SI nxt v0 fr nds0 nds known k p) (hnN : ∀ i, i < nds0.length → ∀ j ∈ nxt i, j < nds0.length) (hfr : ∀ i j, i < nds0.length → (fr j).count i = (nxt i).count j) {j i : Nat} (hj : known[k]? = some j) (hi : (fr j)[p]? = some i) {n : Nd} (hn : nds[i]? = some n) (hv : n.v = 0) {m : Nd} (hm : nds[j]? = some m) (v : Int) (hcase : (m.v = 2 ∧ v = 1) ∨ (m.v ≠ 2 ∧ n.l - 1 = 0 ∧ v = 2)) : SI nxt v0 fr nds0 (nds.set i { n with l := n.l - 1, v := v, d := m.d + 1 }) (known ++ [i]) k (p + 1) := by
  have hil := (List.getElem?_eq_some_iff.1 hn).1
  obtain ⟨h0, hiN, -, -⟩ := h.open_ hn hv
  have hm0 := h.pos j m hm
  have hv12 : v = 1 ∨ v = 2 := by rcases hcase with ⟨_, h⟩ | ⟨_, _, h⟩ <;> omega
  have hself : aOf (nds.set i { n with l := n.l - 1, v := v, d := m.d + 1 }) i = (v.toNat, (aOf nds j).2 + 1) := by
    rw [aOf_self hil, aOf_at hm]
    simp only [Prod.mk.injEq, true_and]
    omega
  refine ⟨?_, h.same.set hn _ rfl rfl rfl rfl, fun x y hy => ?_, fun a x hx => ?_⟩
  · refine h.q.edge2 hnN hfr hj hi hiN h0 (by rw [aOf_at hn, hv]; rfl) _ ?_ (fun x hx => lOf_other hx _) _ (fun x hx => aOf_other hx _) v.toNat hself ?_
    · rw [lOf_self hil, lOf_at hn]
    · rw [aOf_at hm, lOf_self hil]
      simp only
      rcases hcase with ⟨a1, a2⟩ | ⟨a1, a2, a3⟩
      · left; omega
      · right; exact ⟨by omega, a2, by omega⟩
  · by_cases hx : i = x
    · subst hx
      rw [List.getElem?_set_self hil] at hy
      cases hy
      show 0 ≤ v ∧ 0 ≤ m.d + 1
      omega
    · rw [List.getElem?_set_ne hx] at hy
      exact h.pos x y hy
  · have hkl := (List.getElem?_eq_some_iff.1 hj).1
    by_cases ha : a < known.length
    · rw [List.getElem?_append_left ha] at hx
      have hxi : x ≠ i := fun e => by
        have := ((h.q.kn x).1 (List.mem_of_getElem? hx)).2
        rw [e, aOf_at hn, hv] at this
        simp at this
      rw [aOf_other hxi]
      exact h.di a x hx
    · have hxi : x = i := by
        rw [List.getElem?_append_right (by omega)] at hx
        have := List.mem_of_getElem? hx
        simpa using this
      rw [hxi, hself]
      simp only
      have := h.di k j hj
      omega
end
end Go.Proofs.YtbijadnekoeofaaGreatDoor

namespace Go.Proofs.YtbijadnekoeofaaGreatDoor
open Go.RowKit

/-- Nodes, and the row of those that are known. -/
structure SM (base gN cap : Nat) (w : World) (nds : List Nd) (ko : Option Addr) (kc : Nat) (known : List Nat) (u : World) : Prop where
  nd : NdR u base gN cap nds
  kn : u.ownsRow w.heap.size 3 1 (.slice ko known.length kc) known.length (ivs known)
  gr : w.grownBy u (some gN)
  lo : gN < w.heap.size
  fb : ∀ (i : Nat) (n : Nd), nds[i]? = some n → ∀ g, (Value.slice n.fo n.fr.length n.fc).ownBlock = some g → g < w.heap.size
section
variable {base gN cap : Nat} {w : World} {nds : List Nd} {ko : Option Addr} {kc : Nat} {known : List Nat} {u u' : World}
theorem SM.start (h : NdR w base gN cap nds) : SM base gN cap w nds none 0 [] w :=
  ⟨h, ⟨rfl, .inl ⟨rfl, rfl⟩⟩, ⟨rfl, rfl, rfl, Nat.le_refl _, fun _ _ _ => rfl⟩, h.lt.2, fun i n hn _ hg => (row_block (h.fr i n hn) hg).2⟩
theorem SM.below (h : SM base gN cap w nds ko kc known u) (hb : Below u.heap.size u u') : SM base gN cap w nds ko kc known u' := by
  have hs := h.gr.size
  refine ⟨h.nd.below hb, ?_, ⟨hb.os.trans h.gr.os, hb.tape.trans h.gr.tape, hb.output.trans h.gr.output, Nat.le_trans hs hb.size, fun k hk hne => (hb.block k (by omega)).trans (h.gr.block k hk hne)⟩, h.lo, h.fb⟩
  refine row_off h.kn (b := u.heap.size) ⟨hb.os, hb.tape, hb.output, hb.size, fun k hk _ => hb.block k hk⟩ (fun e => ?_)
  have := (row_block h.kn e).2
  omega
/-- A cell of a node changes. -/
theorem SM.set (h : SM base gN cap w nds ko kc known u) {i : Nat} {n n' : Nd} (hn : nds[i]? = some n) (j : Nat) (hj : j < 10) (v : Value) (hv : n'.vs = n.vs.set j v) (hfo : n'.fo = n.fo) (hfr : n'.fr = n.fr) (hfc : n'.fc = n.fc) : SM base gN cap w (nds.set i n') ko kc known (u.setCell ⟨gN, i * 10 + j, none⟩ v) := by
  obtain ⟨r1, g1⟩ := h.nd.set hn j hj v hv hfo hfr hfc
  have hi := (List.getElem?_eq_some_iff.1 hn).1
  have hlo := h.lo
  refine ⟨r1, row_off h.kn g1 (fun e => by have := (row_block h.kn e).1; omega), h.gr.andThen g1 (fun _ hk => .inr hk), h.lo, fun a m hm => ?_⟩
  by_cases ha : i = a
  · subst ha
    rw [List.getElem?_set_self hi] at hm
    cases hm
    rw [hfo, hfr, hfc]
    exact h.fb i n hn
  · rw [List.getElem?_set_ne ha] at hm
    exact h.fb a m hm
/-- One more is known. -/
theorem SM.push (h : SM base gN cap w nds ko kc known u) (i : Nat) (hl : known.length ≤ 5000) :
    ∃ ko' kc' u2, (Builtin.append_ #[52, 52] 52 #[.slice ko known.length kc, .slice (some ⟨u.heap.size, 0, none⟩) 1 1]).run Tryz.prog (u.alloc (.cells #[.int .i64 (i : Int)] 3 (0, 0))) = .ok (.slice ko' (known.length + 1) kc') u2 ∧ SM base gN cap w nds ko' kc' (known ++ [i]) u2 ∧ u.heap.size ≤ u2.heap.size ∧ ∀ g, g < u.heap.size → (Value.slice ko known.length kc).ownBlock ≠ some g → u2.heap[g]? = u.heap[g]? ∧ (Value.slice ko' (known.length + 1) kc').ownBlock ≠ some g := by
  obtain ⟨i0, hinfo, hz0, hz1, hz2⟩ := info_parts infoInt
  have hba : Below u.heap.size u (u.alloc (.cells #[.int .i64 (i : Int)] 3 (0, 0))) := (Below.refl _ _).alloc (Nat.le_refl _) _
  have ha := h.below hba
  obtain ⟨v2, u2, hrun, hr, hg, -, hob⟩ := run_append_own_at (P := Tryz.prog) (u.alloc (.cells #[.int .i64 (i : Int)] 3 (0, 0))) w.heap.size 52 52 3 i0 _ 1 8 Tryz.underlying52 hinfo hz0 hz1 hz2 rfl (by omega) (.slice ko known.length kc) known.length (ivs known) ha.kn ⟨u.heap.size, 0, none⟩ 1 1 [.int .i64 (i : Int)] rfl
    (fun a x hx => by
      have ha0 : a = 0 := by
        have := (List.getElem?_eq_some_iff.1 hx).1
        simp at this
        omega
      subst ha0
      simp only [List.getElem?_cons_zero, Option.some.injEq] at hx
      subst hx
      have hh := heap_alloc_new u (.cells #[.int .i64 (i : Int)] 3 (0, 0))
      show World.cell? _ ⟨u.heap.size, 0 + 0, none⟩ = _
      unfold World.cell?
      rw [hh]
      rfl)
    (fun x hx => by rw [List.mem_singleton.1 hx]; rfl) (by unfold maxLen; omega) (by omega) (Nat.le_trans h.gr.size hba.size)
  obtain ⟨ko', kc', rfl⟩ : ∃ ko' kc', v2 = .slice ko' (known.length + 1) kc' := by
    rcases hr.2 with ⟨_, h0⟩ | ⟨g, cp, cur, e, _⟩
    · omega
    · exact ⟨_, _, e⟩
  have hle : (known ++ [i]).length = known.length + 1 := by simp
  have hlo := h.lo
  refine ⟨ko', kc', u2, hrun, ⟨?_, ?_, ?_, h.lo, h.fb⟩, Nat.le_trans hba.size hg.size, fun g hgl hne => ⟨(hg.block g (Nat.lt_of_lt_of_le hgl hba.size) (fun e => hne e.symm)).trans (hba.block g hgl), fun e => ?_⟩⟩
  · cases hb : (Value.slice ko known.length kc).ownBlock with
    | none =>
      rw [hb] at hg
      exact ha.nd.below ⟨hg.os, hg.tape, hg.output, hg.size, fun k hk => hg.block k hk (by simp)⟩
    | some g =>
      rw [hb] at hg
      have hgw := (row_block ha.kn hb).1
      exact ha.nd.off hg (by omega) (fun a m hm e => by have := h.fb a m hm g e; omega)
  · rw [hle, show ivs (known ++ [i]) = ivs known ++ [.int .i64 (i : Int)] by simp [ivs]]
    exact hr
  · have hs := ha.gr.size
    refine ⟨hg.os.trans ha.gr.os, hg.tape.trans ha.gr.tape, hg.output.trans ha.gr.output, Nat.le_trans hs hg.size, fun k hk hne => (hg.block k (by omega) (fun e => ?_)).trans (ha.gr.block k hk hne)⟩
    have := (row_block ha.kn e.symm).1
    omega
  · rcases hob with e2 | e2
    · exact hne (e2.symm.trans e)
    · rw [e2] at e
      simp at e
      omega
/-- The k-th of those that are known. -/
theorem SM.at_ (h : SM base gN cap w nds ko kc known u) {k j : Nat} (hj : known[k]? = some j) : ∃ gk, ko = some ⟨gk, 0, none⟩ ∧ w.heap.size ≤ gk ∧ gk < u.heap.size ∧ u.cell? ⟨gk, k, none⟩ = some (.int .i64 (j : Int)) ∧ known.length ≤ kc ∧ kc ≤ 9223372036854775807 := by
  have hk := (List.getElem?_eq_some_iff.1 hj).1
  rcases h.kn.2 with ⟨e, h0⟩ | ⟨g, c, cur, e, hb, hg, h1, h2, _⟩
  · omega
  · simp only [Value.slice.injEq, true_and] at e
    obtain ⟨rfl, rfl⟩ := e
    unfold maxLen at h2
    refine ⟨g, rfl, hb, (Array.getElem?_eq_some_iff.1 hg).1, ?_, h1, h2⟩
    rw [h.kn.cellAt k (by omega)]
    unfold ivs
    rw [List.getElem?_map, hj]
    rfl
/-- The p-th of those who lead to it. -/
theorem SM.from (h : SM base gN cap w nds ko kc known u) {j p i : Nat} {m : Nd} (hm : nds[j]? = some m) (hi : m.fr[p]? = some i) : ∃ gf, m.fo = some ⟨gf, 0, none⟩ ∧ gf < w.heap.size ∧ gf ≠ gN ∧ u.cell? ⟨gf, p, none⟩ = some (.int .i64 (i : Int)) ∧ m.fr.length ≤ m.fc ∧ m.fc ≤ 9223372036854775807 := by
  have hp := (List.getElem?_eq_some_iff.1 hi).1
  have hr := h.nd.fr j m hm
  rcases hr.2 with ⟨e, h0⟩ | ⟨g, c, cur, e, hb, hg, h1, h2, _⟩
  · omega
  · have hob : (Value.slice m.fo m.fr.length m.fc).ownBlock = some g := by rw [e]; rfl
    have hlt := h.fb j m hm g hob
    have hne : g ≠ gN := fun e2 => h.nd.ne j m hm (by rw [hob, e2])
    rw [e] at hr
    simp only [Value.slice.injEq, true_and] at e
    unfold maxLen at h2
    refine ⟨g, e.1, hlt, hne, ?_, by rw [e.2]; exact h1, by rw [e.2]; exact h2⟩
    rw [hr.cellAt p (by omega)]
    unfold ivs
    rw [List.getElem?_map, hi]
    rfl
end
end Go.Proofs.YtbijadnekoeofaaGreatDoor
