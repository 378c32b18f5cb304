/-
  Rows of structs in general; nodes of a table in memory.
  A row of entries in memory, filled one by one (for table.Make), and as the sort takes it.
  A sorted row of entries: the same ones, in strict order (plain mathematics).
  Behind the sort of entries the same row is owned, and nothing else has turned.
  table.Make: the row of entries while it is filled.
  Maps that number positions.
-/
import Derived.Test.YtbijadnekoeofaaGreatDoorJ0
import Derived.Test.YtbijadnekoeofaaGreatDoorT3
import Derived.Maps.AppendAt
import Derived.Laws.OwnMore
import Derived.Test.YtbijadnekoeofaaGreatDoorJ26
import Derived.Test.YtbijadnekoeofaaGreatDoorJ21
import Derived.Sort.OwnSorted
import Derived.Test.YtbijadnekoeofaaGreatDoorJ1
import Derived.Maps.OwnSet
namespace Go.Proofs.YtbijadnekoeofaaGreatDoor
open Go.RowKit

section
variable {α : Type} {f : α → List Value} {c : Nat}
theorem fm_len (hc : ∀ x, (f x).length = c) : ∀ l : List α, (l.flatMap f).length = l.length * c
  | [] => by simp
  | x :: l => by
    rw [List.flatMap_cons, List.length_append, hc, fm_len hc l, List.length_cons, Nat.add_mul]
    omega
theorem fm_at (hc : ∀ x, (f x).length = c) : ∀ (l : List α) (i j : Nat) (x : α), l[i]? = some x → j < c → (l.flatMap f)[i * c + j]? = (f x)[j]?
  | [], _, _, _, h, _ => by simp at h
  | a :: l, 0, j, x, h, hj => by
    simp only [List.getElem?_cons_zero, Option.some.injEq] at h
    subst h
    rw [List.flatMap_cons, Nat.zero_mul, Nat.zero_add, List.getElem?_append_left (by rw [hc]; exact hj)]
  | a :: l, i + 1, j, x, h, hj => by
    have ih := fm_at hc l i j x (by simpa using h) hj
    have e : (i + 1) * c + j = c + (i * c + j) := by rw [Nat.add_mul]; omega
    rw [List.flatMap_cons, List.getElem?_append_right (by rw [hc, e]; omega), ← ih, hc, e]
    congr 1
    omega
theorem fm_set (hc : ∀ x, (f x).length = c) : ∀ (l : List α) (i j : Nat) (x x' : α) (v : Value), l[i]? = some x → j < c → f x' = (f x).set j v → (l.flatMap f).set (i * c + j) v = (l.set i x').flatMap f
  | [], _, _, _, _, _, h, _, _ => by simp at h
  | a :: l, 0, j, x, x', v, h, hj, hx => by
    simp only [List.getElem?_cons_zero, Option.some.injEq] at h
    subst h
    rw [List.set_cons_zero, List.flatMap_cons, List.flatMap_cons, Nat.zero_mul, Nat.zero_add, List.set_append_left _ _ (by rw [hc]; exact hj), hx]
  | a :: l, i + 1, j, x, x', v, h, hj, hx => by
    have ih := fm_set hc l i j x x' v (by simpa using h) hj hx
    have e : (i + 1) * c + j = c + (i * c + j) := by rw [Nat.add_mul]; omega
    rw [List.set_cons_succ, List.flatMap_cons, List.flatMap_cons, List.set_append_right _ _ (by rw [hc, e]; omega), ← ih, hc, e]
    congr 2
    omega
end

/-- A node of a table, as it stands in a row. -/
structure Nd where
  p : Po
  v : Int
  d : Int
  fo : Option Addr
  fc : Nat
  fr : List Nat
  l : Int
def Nd.vs (n : Nd) : List Value := [.int .i64 n.p.W, .int .i64 n.p.H, .string n.p.C, .int .i64 n.p.T, .string n.p.A, .string n.p.B, .int .i64 n.v, .int .i64 n.d, .slice n.fo n.fr.length n.fc, .int .i64 n.l]
theorem Nd.vs_len (n : Nd) : n.vs.length = 10 := rfl
def ndv (l : List Nd) : List Value := l.flatMap Nd.vs
/-- The cells of a row of ints. -/
def ivs (l : List Nat) : List Value := l.map fun x : Nat => .int .i64 (x : Int)
theorem row_off {w w' : World} {base b : Nat} {e : TypeId} {size n : Nat} {v : Value} {xs : List Value} (h : w.ownsRow base e size v n xs) (hg : w.grownBy w' (some b)) (hne : v.ownBlock ≠ some b) : w'.ownsRow base e size v n xs := by
  obtain ⟨h1, h2⟩ := h
  refine ⟨h1, ?_⟩
  rcases h2 with h2 | ⟨g, cap, cur, e1, hb, hg', r⟩
  · exact .inl h2
  · refine .inr ⟨g, cap, cur, e1, hb, ?_, r⟩
    subst e1
    exact (hg.block g (Array.getElem?_eq_some_iff.1 hg').1 (fun e2 => hne (by simp only [Value.ownBlock]; exact e2))).trans hg'
theorem row_block {w : World} {base : Nat} {e : TypeId} {size n : Nat} {v : Value} {xs : List Value} (h : w.ownsRow base e size v n xs) {g : Nat} (hg : v.ownBlock = some g) : base ≤ g ∧ g < w.heap.size := by
  rcases h.2 with ⟨e1, _⟩ | ⟨g', cap, cur, e1, hb, hg', _⟩
  · subst e1; simp [Value.ownBlock] at hg
  · subst e1
    simp only [Value.ownBlock, Option.some.injEq] at hg
    subst hg
    exact ⟨hb, (Array.getElem?_eq_some_iff.1 hg').1⟩
/-- A map's block is none of a row's. -/
theorem row_map {w : World} {base b : Nat} {e : TypeId} {size n : Nat} {v : Value} {xs : List Value} {es : Array MapEntry} {ck : Nat} (h : w.ownsRow base e size v n xs) (hm : w.heap[b]? = some (.map es ck)) : v.ownBlock ≠ some b := by
  intro hb
  rcases h.2 with ⟨e1, _⟩ | ⟨g', cap, cur, e1, _, hg', _⟩
  · subst e1; simp [Value.ownBlock] at hb
  · subst e1
    simp only [Value.ownBlock, Option.some.injEq] at hb
    subst hb
    rw [hm] at hg'
    cases hg'
/-- Nodes in memory: in a row, each with a row of its own of those that lead to it. -/
structure NdR (u : World) (base gN cap : Nat) (nds : List Nd) : Prop where
  row : u.ownsRow base 54 10 (.slice (some ⟨gN, 0, none⟩) nds.length cap) nds.length (ndv nds)
  fr : ∀ (i : Nat) (n : Nd), nds[i]? = some n → u.ownsRow base 3 1 (.slice n.fo n.fr.length n.fc) n.fr.length (ivs n.fr)
  ne : ∀ (i : Nat) (n : Nd), nds[i]? = some n → (Value.slice n.fo n.fr.length n.fc).ownBlock ≠ some gN
  inj : ∀ (i j : Nat) (n m : Nd), nds[i]? = some n → nds[j]? = some m → i ≠ j → ∀ g, (Value.slice n.fo n.fr.length n.fc).ownBlock = some g → (Value.slice m.fo m.fr.length m.fc).ownBlock ≠ some g
section
variable {u u' : World} {base gN cap : Nat} {nds : List Nd}
theorem NdR.off (h : NdR u base gN cap nds) {b : Nat} (hg : u.grownBy u' (some b)) (hne : gN ≠ b) (hf : ∀ (i : Nat) (n : Nd), nds[i]? = some n → (Value.slice n.fo n.fr.length n.fc).ownBlock ≠ some b) : NdR u' base gN cap nds :=
  ⟨row_off h.row hg (by simpa [Value.ownBlock] using hne), fun i n hn => row_off (h.fr i n hn) hg (hf i n hn), h.ne, h.inj⟩
/-- A map has changed, or nothing but what is new. -/
theorem NdR.map (h : NdR u base gN cap nds) {b : Nat} {es : Array MapEntry} {ck : Nat} (hm : u.heap[b]? = some (.map es ck)) (hg : u.grownBy u' (some b)) : NdR u' base gN cap nds :=
  h.off hg (fun e => row_map h.row hm (by rw [← e]; rfl)) (fun i n hn => row_map (h.fr i n hn) hm)
theorem NdR.below (h : NdR u base gN cap nds) (hb : Below u.heap.size u u') : NdR u' base gN cap nds := by
  have hg : u.grownBy u' (some u.heap.size) := ⟨hb.os, hb.tape, hb.output, hb.size, fun k hk _ => hb.block k hk⟩
  refine h.off hg ?_ (fun i n hn => ?_)
  · have := (row_block h.row (g := gN) rfl).2
    omega
  · intro e
    have := (row_block (h.fr i n hn) e).2
    omega
theorem NdR.lt (h : NdR u base gN cap nds) : base ≤ gN ∧ gN < u.heap.size := row_block h.row rfl
theorem NdR.cell (h : NdR u base gN cap nds) {i : Nat} {n : Nd} (hn : nds[i]? = some n) (j : Nat) (hj : j < 10) : u.cell? ⟨gN, i * 10 + j, none⟩ = n.vs[j]? ∧ u.frozen? ⟨gN, i * 10 + j, none⟩ = false := by
  have hi := (List.getElem?_eq_some_iff.1 hn).1
  refine ⟨?_, h.row.frozenAt _⟩
  rw [h.row.cellAt (i * 10 + j) (by omega)]
  exact fm_at Nd.vs_len nds i j n hn hj
/-- A number of a node changes. -/
theorem NdR.set (h : NdR u base gN cap nds) {i : Nat} {n n' : Nd} (hn : nds[i]? = some n) (j : Nat) (hj : j < 10) (v : Value) (hv : n'.vs = n.vs.set j v) (hfo : n'.fo = n.fo) (hfr : n'.fr = n.fr) (hfc : n'.fc = n.fc) : NdR (u.setCell ⟨gN, i * 10 + j, none⟩ v) base gN cap (nds.set i n') ∧ u.grownBy (u.setCell ⟨gN, i * 10 + j, none⟩ v) (some gN) := by
  have hi := (List.getElem?_eq_some_iff.1 hn).1
  obtain ⟨hs, hg⟩ := h.row.stored (i * 10 + j) v
  have same : ∀ (k : Nat) (m : Nd), (nds.set i n')[k]? = some m → ∃ m', nds[k]? = some m' ∧ m.fo = m'.fo ∧ m.fr = m'.fr ∧ m.fc = m'.fc := fun k m hm => by
    by_cases hki : i = k
    · subst hki
      rw [List.getElem?_set_self hi] at hm
      cases hm
      exact ⟨n, hn, hfo, hfr, hfc⟩
    · rw [List.getElem?_set_ne hki] at hm
      exact ⟨m, hm, rfl, rfl, rfl⟩
  refine ⟨⟨?_, fun k m hm => ?_, fun k m hm => ?_, fun a b m1 m2 h1 h2 hab g => ?_⟩, hg⟩
  · rw [List.length_set]
    have e : (ndv nds).set (i * 10 + j) v = ndv (nds.set i n') := fm_set Nd.vs_len nds i j n n' v hn hj hv
    rw [← e]
    exact hs
  · obtain ⟨m', hm', e1, e2, e3⟩ := same k m hm
    rw [e1, e2, e3]
    exact row_off (h.fr k m' hm') hg (h.ne k m' hm')
  · obtain ⟨m', hm', e1, e2, e3⟩ := same k m hm
    rw [e1, e2, e3]
    exact h.ne k m' hm'
  · obtain ⟨x1, y1, a1, a2, a3⟩ := same a m1 h1
    obtain ⟨x2, y2, b1, b2, b3⟩ := same b m2 h2
    rw [a1, a2, a3, b1, b2, b3]
    exact h.inj a b x1 x2 y1 y2 hab g
/-- One more leads to it: its row is another one, or longer. -/
theorem NdR.from (h : NdR u base gN cap nds) {i : Nat} {n : Nd} (hn : nds[i]? = some n) (x : Nat) {v' : Value} (hg : u.grownBy u' (Value.slice n.fo n.fr.length n.fc).ownBlock) (hr : u'.ownsRow base 3 1 v' (n.fr.length + 1) (ivs n.fr ++ [.int .i64 (x : Int)])) (hob : v'.ownBlock = (Value.slice n.fo n.fr.length n.fc).ownBlock ∨ v'.ownBlock = some u.heap.size) :
    ∃ fo' fc', v' = .slice fo' (n.fr.length + 1) fc' ∧ NdR (u'.setCell ⟨gN, i * 10 + 8, none⟩ v') base gN cap (nds.set i { n with fo := fo', fc := fc', fr := n.fr ++ [x] }) ∧ u'.grownBy (u'.setCell ⟨gN, i * 10 + 8, none⟩ v') (some gN) := by
  have hi := (List.getElem?_eq_some_iff.1 hn).1
  obtain ⟨fo', fc', rfl⟩ : ∃ fo' fc', v' = .slice fo' (n.fr.length + 1) fc' := by
    rcases hr.2 with ⟨_, h0⟩ | ⟨g, cp, cur, e, _⟩
    · omega
    · exact ⟨_, _, e⟩
  refine ⟨fo', fc', rfl, ?_⟩
  have hgN := h.lt
  -- the row of nodes in u'
  have hrow : u'.ownsRow base 54 10 (.slice (some ⟨gN, 0, none⟩) nds.length cap) nds.length (ndv nds) := by
    cases hb : (Value.slice n.fo n.fr.length n.fc).ownBlock with
    | none =>
      rw [hb] at hg
      exact row_off h.row (b := u.heap.size) ⟨hg.os, hg.tape, hg.output, hg.size, fun k hk _ => hg.block k hk (by simp)⟩ (by simp only [Value.ownBlock, ne_eq, Option.some.injEq]; omega)
    | some b =>
      rw [hb] at hg
      exact row_off h.row hg (fun e => h.ne i n hn (by rw [hb, ← e]; rfl))
  obtain ⟨hs, hgs⟩ := hrow.stored (i * 10 + 8) (.slice fo' (n.fr.length + 1) fc')
  have hother : ∀ (k : Nat) (m : Nd), i ≠ k → nds[k]? = some m → u'.ownsRow base 3 1 (.slice m.fo m.fr.length m.fc) m.fr.length (ivs m.fr) ∧ (Value.slice m.fo m.fr.length m.fc).ownBlock ≠ some u.heap.size := fun k m hik hm => by
    have hlt : (Value.slice m.fo m.fr.length m.fc).ownBlock ≠ some u.heap.size := fun e => by
      have := (row_block (h.fr k m hm) e).2
      omega
    refine ⟨?_, hlt⟩
    cases hb : (Value.slice n.fo n.fr.length n.fc).ownBlock with
    | none =>
      rw [hb] at hg
      exact row_off (h.fr k m hm) (b := u.heap.size) ⟨hg.os, hg.tape, hg.output, hg.size, fun k hk _ => hg.block k hk (by simp)⟩ hlt
    | some b =>
      rw [hb] at hg
      exact row_off (h.fr k m hm) hg (h.inj i k n m hn hm hik b hb)
  have hnew : (Value.slice fo' (n.fr.length + 1) fc').ownBlock ≠ some gN := fun e => by
    rcases hob with e2 | e2
    · exact h.ne i n hn (e2.symm.trans e)
    · rw [e2] at e
      simp only [Option.some.injEq] at e
      omega
  have hle : (n.fr ++ [x]).length = n.fr.length + 1 := by simp
  refine ⟨⟨?_, fun k m hm => ?_, fun k m hm => ?_, fun a b m1 m2 h1 h2 hab g hg1 hg2 => ?_⟩, hgs⟩
  · rw [List.length_set]
    have e : (ndv nds).set (i * 10 + 8) (.slice fo' (n.fr.length + 1) fc') = ndv (nds.set i { n with fo := fo', fc := fc', fr := n.fr ++ [x] }) := fm_set Nd.vs_len nds i 8 n _ _ hn (by omega) (by simp [Nd.vs])
    rw [← e]
    exact hs
  · by_cases hki : i = k
    · subst hki
      rw [List.getElem?_set_self hi] at hm
      cases hm
      show (u'.setCell _ _).ownsRow base 3 1 (.slice fo' (n.fr ++ [x]).length fc') (n.fr ++ [x]).length (ivs (n.fr ++ [x]))
      rw [hle, show ivs (n.fr ++ [x]) = ivs n.fr ++ [.int .i64 (x : Int)] by simp [ivs]]
      exact row_off hr hgs hnew
    · rw [List.getElem?_set_ne hki] at hm
      exact row_off (hother k m hki hm).1 hgs (h.ne k m hm)
  · by_cases hki : i = k
    · subst hki
      rw [List.getElem?_set_self hi] at hm
      cases hm
      show (Value.slice fo' (n.fr ++ [x]).length fc').ownBlock ≠ some gN
      rw [hle]
      exact hnew
    · rw [List.getElem?_set_ne hki] at hm
      exact h.ne k m hm
  · have key : ∀ (k : Nat) (m : Nd), i ≠ k → nds[k]? = some m → ∀ g, (Value.slice fo' (n.fr.length + 1) fc').ownBlock = some g → (Value.slice m.fo m.fr.length m.fc).ownBlock ≠ some g := fun k m hik hm g e1 e2 => by
      rcases hob with e3 | e3
      · exact h.inj i k n m hn hm hik g (e3.symm.trans e1) e2
      · rw [e3] at e1
        simp only [Option.some.injEq] at e1
        rw [← e1] at e2
        exact (hother k m hik hm).2 e2
    by_cases hia : i = a
    · subst hia
      rw [List.getElem?_set_self hi] at h1
      cases h1
      rw [List.getElem?_set_ne hab] at h2
      have hg1' : (Value.slice fo' (n.fr.length + 1) fc').ownBlock = some g := by rw [← hle]; exact hg1
      exact key b m2 hab h2 g hg1' hg2
    · rw [List.getElem?_set_ne hia] at h1
      by_cases hib : i = b
      · subst hib
        rw [List.getElem?_set_self hi] at h2
        cases h2
        have hg2' : (Value.slice fo' (n.fr.length + 1) fc').ownBlock = some g := by rw [← hle]; exact hg2
        exact key a m1 hia h1 g hg2' hg1
      · rw [List.getElem?_set_ne hib] at h2
        exact h.inj a b m1 m2 h1 h2 hab g hg1 hg2
/-- One node more: the row is another one, or longer. -/
theorem NdR.more (h : NdR u base gN cap nds) (q : Po) {v' : Value} (hg : u.grownBy u' (some gN)) (hr : u'.ownsRow base 54 10 v' (nds.length + 1) (ndv nds ++ Nd.vs ⟨q, 0, 0, none, 0, [], 0⟩)) (hob : v'.ownBlock = some gN ∨ v'.ownBlock = some u.heap.size) :
    ∃ gN' cap', v' = .slice (some ⟨gN', 0, none⟩) (nds.length + 1) cap' ∧ NdR u' base gN' cap' (nds ++ [⟨q, 0, 0, none, 0, [], 0⟩]) := by
  obtain ⟨gN', cap', rfl⟩ : ∃ gN' cap', v' = .slice (some ⟨gN', 0, none⟩) (nds.length + 1) cap' := by
    rcases hr.2 with ⟨_, h0⟩ | ⟨g, cp, cur, e, _⟩
    · omega
    · exact ⟨_, _, e⟩
  refine ⟨gN', cap', rfl, ?_⟩
  have hgN : gN' = gN ∨ gN' = u.heap.size := by simpa [Value.ownBlock] using hob
  have at_ : ∀ (k : Nat) (m : Nd), (nds ++ [⟨q, 0, 0, none, 0, [], 0⟩])[k]? = some m → nds[k]? = some m ∨ (m = ⟨q, 0, 0, none, 0, [], 0⟩) := fun k m hm => by
    by_cases hk : k < nds.length
    · rw [List.getElem?_append_left hk] at hm
      exact .inl hm
    · rw [List.getElem?_append_right (by omega)] at hm
      have := List.mem_of_getElem? hm
      exact .inr (by simpa using this)
  refine ⟨?_, fun k m hm => ?_, fun k m hm => ?_, fun a b m1 m2 h1 h2 hab g hg1 hg2 => ?_⟩
  · rw [List.length_append, show ndv (nds ++ [⟨q, 0, 0, none, 0, [], 0⟩]) = ndv nds ++ Nd.vs ⟨q, 0, 0, none, 0, [], 0⟩ by simp [ndv]]
    exact hr
  · rcases at_ k m hm with hm | rfl
    · exact row_off (h.fr k m hm) hg (h.ne k m hm)
    · exact ⟨rfl, .inl ⟨rfl, rfl⟩⟩
  · rcases at_ k m hm with hm | rfl
    · intro e
      rcases hgN with e1 | e1
      · rw [e1] at e
        exact h.ne k m hm e
      · have := (row_block (h.fr k m hm) e).2
        omega
    · simp [Value.ownBlock]
  · rcases at_ a m1 h1 with h1' | rfl
    · rcases at_ b m2 h2 with h2' | rfl
      · exact h.inj a b m1 m2 h1' h2' hab g hg1 hg2
      · simp [Value.ownBlock] at hg2
    · simp [Value.ownBlock] at hg1
end
end Go.Proofs.YtbijadnekoeofaaGreatDoor

namespace Go.Proofs.YtbijadnekoeofaaGreatDoor
open Go.RowKit Go.Sort

/-- The cells of a row of entries. -/
def evs (l : List (Po × Int × Int)) : List Value := l.flatMap encE
theorem evs_len (l : List (Po × Int × Int)) : (evs l).length = l.length * 8 := fm_len (f := encE) (c := 8) (fun _ => rfl) l
theorem evs_app (a b : List (Po × Int × Int)) : evs (a ++ b) = evs a ++ evs b := by simp [evs]
/-- One entry more. -/
theorem evs_set {a : List (Po × Int × Int)} {r : List Value} (q : Po × Int × Int) (n : Nat) (hn : n = a.length * 8) (h : 8 ≤ r.length) :
    (((((((((evs a ++ r).set n (.int .i64 q.1.W)).set (n + 1) (.int .i64 q.1.H)).set (n + 2) (.string q.1.C)).set (n + 3) (.int .i64 q.1.T)).set (n + 4) (.string q.1.A)).set (n + 5) (.string q.1.B)).set (n + 6) (.int .i64 q.2.1)).set (n + 7) (.int .i64 q.2.2)) = evs (a ++ [q]) ++ r.drop 8 := by
  have hl := evs_len a
  match r, h with
  | r0 :: r1 :: r2 :: r3 :: r4 :: r5 :: r6 :: r7 :: rest, _ =>
    rw [set_behind _ _ n 0 _ (by omega), set_behind _ _ (n + 1) 1 _ (by omega), set_behind _ _ (n + 2) 2 _ (by omega), set_behind _ _ (n + 3) 3 _ (by omega), set_behind _ _ (n + 4) 4 _ (by omega), set_behind _ _ (n + 5) 5 _ (by omega), set_behind _ _ (n + 6) 6 _ (by omega), set_behind _ _ (n + 7) 7 _ (by omega), evs_app, List.append_assoc]
    rfl
/-- A row of entries of the call's own: eight cells are set, one entry more stands in it. -/
theorem row_set8 {w : World} {base g n cap : Nat} {a : List (Po × Int × Int)} {r : List Value} (q : Po × Int × Int) (t : TypeId) (hr : w.ownsRow base t 8 (.slice (some ⟨g, 0, none⟩) n cap) n (evs a ++ r)) (h : 8 ≤ r.length) (j : Nat) (hj : j = a.length * 8) :
    let w' := ((((((((w.setCell ⟨g, j, none⟩ (.int .i64 q.1.W)).setCell ⟨g, j + 1, none⟩ (.int .i64 q.1.H)).setCell ⟨g, j + 2, none⟩ (.string q.1.C)).setCell ⟨g, j + 3, none⟩ (.int .i64 q.1.T)).setCell ⟨g, j + 4, none⟩ (.string q.1.A)).setCell ⟨g, j + 5, none⟩ (.string q.1.B)).setCell ⟨g, j + 6, none⟩ (.int .i64 q.2.1)).setCell ⟨g, j + 7, none⟩ (.int .i64 q.2.2))
    w'.ownsRow base t 8 (.slice (some ⟨g, 0, none⟩) n cap) n (evs (a ++ [q]) ++ r.drop 8) ∧ w.grownBy w' (some g) := by
  intro w'
  obtain ⟨h0, g0⟩ := hr.stored j (.int .i64 q.1.W)
  obtain ⟨h1, g1⟩ := h0.stored (j + 1) (.int .i64 q.1.H)
  obtain ⟨h2, g2⟩ := h1.stored (j + 2) (.string q.1.C)
  obtain ⟨h3, g3⟩ := h2.stored (j + 3) (.int .i64 q.1.T)
  obtain ⟨h4, g4⟩ := h3.stored (j + 4) (.string q.1.A)
  obtain ⟨h5, g5⟩ := h4.stored (j + 5) (.string q.1.B)
  obtain ⟨h6, g6⟩ := h5.stored (j + 6) (.int .i64 q.2.1)
  obtain ⟨h7, g7⟩ := h6.stored (j + 7) (.int .i64 q.2.2)
  rw [evs_set q j hj h] at h7
  refine ⟨h7, ?_⟩
  have k1 := g0.andThen g1 (fun k hk => .inr hk)
  have k2 := k1.andThen g2 (fun k hk => .inr hk)
  have k3 := k2.andThen g3 (fun k hk => .inr hk)
  have k4 := k3.andThen g4 (fun k hk => .inr hk)
  have k5 := k4.andThen g5 (fun k hk => .inr hk)
  have k6 := k5.andThen g6 (fun k hk => .inr hk)
  exact k6.andThen g7 (fun k hk => .inr hk)
/-- As the sort takes it. -/
theorem holdsE {w : World} {base g cap : Nat} {t : TypeId} {l : List (Po × Int × Int)} (h : w.ownsRow base t 8 (.slice (some ⟨g, 0, none⟩) l.length cap) l.length (evs l)) : HoldsK encE 8 w g 0 l.toArray := by
  obtain ⟨hl, hh⟩ := h
  rcases hh with ⟨e, _⟩ | ⟨g', c', cur, e, hb, hg, h1, h2, h3, h4⟩
  · simp at e
  · simp only [Value.slice.injEq, Option.some.injEq, Addr.mk.injEq, and_true, true_and] at e
    obtain ⟨rfl, rfl⟩ := e
    intro j hj
    rw [size_flatK, List.size_toArray] at hj
    have hi : j / 8 < l.length := by omega
    have hm : j % 8 < 8 := by omega
    have e1 := fm_at (f := encE) (c := 8) (fun _ => rfl) l (j / 8) (j % 8) l[j / 8] (List.getElem?_eq_getElem hi) hm
    have e2 : j / 8 * 8 + j % 8 = j := by omega
    rw [e2] at e1
    have e3 : cur[j]? = (encE l[j / 8])[j % 8]? := by
      rw [← e1]
      show _ = (evs l)[j]?
      rw [← h4, List.getElem?_take, if_pos hj, Array.getElem?_toList]
    have e4 : (encE l[j / 8])[j % 8]? = some ((encE l[j / 8])[j % 8]!) := by
      rw [getElem!_pos (encE l[j / 8]) (j % 8) (show j % 8 < (encE l[j / 8]).length from hm)]
      exact List.getElem?_eq_getElem (show j % 8 < (encE l[j / 8]).length from hm)
    have e5 : l.toArray[j / 8]! = l[j / 8] := by
      rw [getElem!_pos l.toArray (j / 8) (by simpa using hi)]
      rfl
    refine ⟨?_, by simp [World.frozen?, hg]⟩
    rw [get_flatK _ _ _ _ (by simpa using hj), e5]
    simp only [World.cell?, hg, Nat.zero_add, Option.isSome_none, Bool.false_eq_true, if_false]
    exact e3.trans e4
end Go.Proofs.YtbijadnekoeofaaGreatDoor

namespace Go.Proofs.YtbijadnekoeofaaGreatDoor
open Go.Sort

end Go.Proofs.YtbijadnekoeofaaGreatDoor

namespace Go.Proofs.YtbijadnekoeofaaGreatDoor
open Go.RowKit Go.Sort

theorem grown_sortE {w : World} {g n : Nat} {os : Array Obj} (d : Array (Po × Int × Int)) : w.grownBy (sortWorldK encE 8 w g 0 n d os) (some g) := by
  unfold sortWorldK putRowK
  refine ⟨rfl, rfl, rfl, by simp, fun k hk hne => ?_⟩
  rw [heap_grow_old _ _ (by simpa using hk)]
  have : g ≠ k := fun e => hne (by rw [e])
  simp [putRow, mapBlock, Sort.ahead, Array.getElem?_modify, this]

theorem evs_flat (ts : List (Po × Int × Int)) (j : Nat) (hj : j < ts.length * 8) : (evs ts)[j]? = some ((flatK encE 8 ts.toArray)[j]!) := by
  have hi : j / 8 < ts.length := by omega
  have hm : j % 8 < 8 := by omega
  have e1 := fm_at (f := encE) (c := 8) (fun _ => rfl) ts (j / 8) (j % 8) ts[j / 8] (List.getElem?_eq_getElem hi) hm
  have e2 : j / 8 * 8 + j % 8 = j := by omega
  rw [e2] at e1
  have e4 : (encE ts[j / 8])[j % 8]? = some ((encE ts[j / 8])[j % 8]!) := by
    rw [getElem!_pos (encE ts[j / 8]) (j % 8) (show j % 8 < (encE ts[j / 8]).length from hm)]
    exact List.getElem?_eq_getElem (show j % 8 < (encE ts[j / 8]).length from hm)
  have e5 : ts.toArray[j / 8]! = ts[j / 8] := by
    rw [getElem!_pos ts.toArray (j / 8) (by simpa using hi)]
    rfl
  rw [get_flatK _ _ _ _ (by simpa using hj), e5]
  exact e1.trans e4

theorem row_sortE {w : World} {base g cap n m : Nat} {t : TypeId} {os : Array Obj} {xs : List Value} {ts : List (Po × Int × Int)} (hl : ts.length = m) (h : w.ownsRow base t 8 (.slice (some ⟨g, 0, none⟩) m cap) m xs) :
    (sortWorldK encE 8 w g 0 n ts.toArray os).ownsRow base t 8 (.slice (some ⟨g, 0, none⟩) m cap) m (evs ts) := by
  obtain ⟨-, hh⟩ := h
  rcases hh with ⟨e, _⟩ | ⟨g', c', cur, e, hb, hg, h1, h2, h3, h4⟩
  · simp at e
  · simp only [Value.slice.injEq, Option.some.injEq, Addr.mk.injEq, and_true, true_and] at e
    obtain ⟨rfl, rfl⟩ := e
    have hlt : g < w.heap.size := (Array.getElem?_eq_some_iff.1 hg).1
    refine ⟨by rw [evs_len, hl], .inr ⟨g, cap, putCells id 0 (flatK encE 8 ts.toArray) cur, rfl, hb, ?_, h1, h2, by simp [putCells, h3], ?_⟩⟩
    · unfold sortWorldK putRowK
      rw [heap_grow_old _ _ (by simpa using hlt)]
      simp [putRow, mapBlock, Sort.ahead, Array.getElem?_modify, hg, onCells]
    · subst hl
      apply List.ext_getElem?
      intro j
      by_cases hj : j < ts.length * 8
      · have hjc : j < cur.size := by rw [h3]; exact Nat.lt_of_lt_of_le hj (Nat.mul_le_mul_right 8 h1)
        rw [List.getElem?_take_of_lt hj, Array.getElem?_toList, evs_flat ts j hj]
        simp [putCells, hj, hjc]
      · rw [List.getElem?_take_eq_none (by omega), List.getElem?_eq_none (by rw [evs_len]; omega)]
end Go.Proofs.YtbijadnekoeofaaGreatDoor

namespace Go.Proofs.YtbijadnekoeofaaGreatDoor
open Go.RowKit

/-- A node's entry. -/
def enN (n : Nd) : Po × Int × Int := (n.p, n.v, n.d)
/-- The first k entries stand in the row; nothing else has turned. -/
structure MkI (nds : List Nd) (base g k : Nat) (w5 u : World) : Prop where
  row : ∃ r : List Value, r.length = (nds.length - k) * 8 ∧ u.ownsRow base 34 8 (.slice (some ⟨g, 0, none⟩) nds.length nds.length) nds.length (evs ((nds.take k).map enN) ++ r)
  gr : w5.grownBy u (some g)
theorem MkI.below {nds : List Nd} {base g k : Nat} {w5 u u1 : World} (h : MkI nds base g k w5 u) (hb : Below u.heap.size u u1) : MkI nds base g k w5 u1 := by
  obtain ⟨⟨r, hr, hrow⟩, hg⟩ := h
  have hgu : u.grownBy u1 (some u.heap.size) := ⟨hb.os, hb.tape, hb.output, hb.size, fun k hk _ => hb.block k hk⟩
  have hgl : g < u.heap.size := (row_block hrow rfl).2
  refine ⟨⟨r, hr, row_off hrow hgu (by simp [Value.ownBlock]; omega)⟩, ?_⟩
  exact hg.andThen (show u.grownBy u1 none from ⟨hb.os, hb.tape, hb.output, hb.size, fun j hj _ => hb.block j hj⟩) (fun j hj => by cases hj)
theorem MkI.next {nds : List Nd} {base g k : Nat} {w5 u1 : World} {n : Nd} (h : MkI nds base g k w5 u1) (hn : nds[k]? = some n) :
    MkI nds base g (k + 1) w5 ((((((((u1.setCell ⟨g, k * 8, none⟩ (.int .i64 n.p.W)).setCell ⟨g, k * 8 + 1, none⟩ (.int .i64 n.p.H)).setCell ⟨g, k * 8 + 2, none⟩ (.string n.p.C)).setCell ⟨g, k * 8 + 3, none⟩ (.int .i64 n.p.T)).setCell ⟨g, k * 8 + 4, none⟩ (.string n.p.A)).setCell ⟨g, k * 8 + 5, none⟩ (.string n.p.B)).setCell ⟨g, k * 8 + 6, none⟩ (.int .i64 n.v)).setCell ⟨g, k * 8 + 7, none⟩ (.int .i64 n.d)) := by
  obtain ⟨⟨r, hr, hrow⟩, hg⟩ := h
  have hk : k < nds.length := (List.getElem?_eq_some_iff.1 hn).1
  have hl : ((nds.take k).map enN).length = k := by rw [List.length_map, List.length_take]; omega
  obtain ⟨h1, h2⟩ := row_set8 (enN n) 34 hrow (by omega) (k * 8) (by rw [hl])
  refine ⟨⟨r.drop 8, by rw [List.length_drop, hr]; omega, ?_⟩, hg.andThen h2 (fun j hj => .inr hj)⟩
  rw [List.take_add_one, hn, Option.toList_some, List.map_append]
  exact h1
theorem MkI.fin {nds : List Nd} {base g : Nat} {w5 u : World} (h : MkI nds base g nds.length w5 u) : u.ownsRow base 34 8 (.slice (some ⟨g, 0, none⟩) (nds.map enN).length nds.length) (nds.map enN).length (evs (nds.map enN)) := by
  obtain ⟨⟨r, hr, hrow⟩, -⟩ := h
  have hr0 : r = [] := List.length_eq_zero_iff.1 (by rw [hr]; omega)
  subst hr0
  rw [List.take_length, List.append_nil] at hrow
  rw [List.length_map]
  exact hrow
end Go.Proofs.YtbijadnekoeofaaGreatDoor

namespace Go.Proofs.YtbijadnekoeofaaGreatDoor
open Go.Maps (Keyed)
open Go.RowKit

/-- The map in block b tells of each position of the list at which place it stands (and s more). -/
def numM (w : World) (b : Nat) (all : List Po) (s : Nat) : Prop :=
  all.Nodup ∧ (∀ p ∈ all, p.ok) ∧ ∃ D : DataW Unit, w.ownsMap Tryz.prog 24 (plainElem Tryz.prog 3) b all.length D ∧ ∀ p : Po, p.ok → Maps.has D (litP p) = decide (p ∈ all) ∧ D.atKey (litP p) (.lit (.int .i64 0)) = .lit (.int .i64 (if p ∈ all then ((all.idxOf p + s : Nat) : Int) else 0))
section
variable {w w' : World} {b s : Nat} {all : List Po}
theorem numM.lt (h : numM w b all s) : b < w.heap.size := by
  obtain ⟨_, _, D, hown, _⟩ := h
  exact hown.lt
theorem numM.of_block (h : numM w b all s) (hb : w'.heap[b]? = w.heap[b]?) : numM w' b all s := by
  obtain ⟨h1, h2, D, ⟨es, clock, h3, h4⟩, h5⟩ := h
  exact ⟨h1, h2, D, ⟨es, clock, hb.trans h3, h4⟩, h5⟩
theorem numM_made (w : World) (s : Nat) : numM (w.alloc (.map #[] 0)) w.heap.size [] s :=
  ⟨List.nodup_nil, fun p hp => by simp at hp, .map [], World.ownsMap_made w Tryz.prog 24 _, fun p _ => ⟨by simp [Maps.has], by simp [DataW.atKey]⟩⟩
theorem numM.look_all (h : numM w b all s) {p : Po} (hp : p.ok) : ∀ u : World, u.heap[b]? = w.heap[b]? → (Instr.lookup 36 (.map (some b)) (.agg #[.int .i64 p.W, .int .i64 p.H, .string p.C, .int .i64 p.T, .string p.A, .string p.B]) false).run Tryz.prog u = .ok (.int .i64 (if p ∈ all then ((all.idxOf p + s : Nat) : Int) else 0)) u := by
  intro u hu
  obtain ⟨_, _, D, hown, hD⟩ := h.of_block hu
  obtain ⟨c, hrun, hat, _⟩ := hown.lookup_int (Keyed.of_law posLaw) posMap Tryz.underlying3 (posZ u) ((poKey posT posKT posD).key p hp)
  have h2 := (hD p hp).2
  have hat' : D.atKey (litP p) (.lit (.int .i64 0)) = .lit (.int .i64 c) := hat
  rw [h2] at hat'
  simp only [DataW.lit.injEq, Lit.int.injEq, true_and] at hat'
  rw [hat']
  exact hrun
theorem numM.look_ok (h : numM w b all s) {p : Po} (hp : p.ok) : ∀ u : World, u.heap[b]? = w.heap[b]? → (Instr.lookup 36 (.map (some b)) (.agg #[.int .i64 p.W, .int .i64 p.H, .string p.C, .int .i64 p.T, .string p.A, .string p.B]) true).run Tryz.prog u = .ok (.tuple #[.int .i64 (if p ∈ all then ((all.idxOf p + s : Nat) : Int) else 0), .bool (decide (p ∈ all))]) u := by
  intro u hu
  obtain ⟨_, _, D, hown, hD⟩ := h.of_block hu
  obtain ⟨v, ps, hrun, hv⟩ := hown.look_ok (Keyed.of_law posLaw) posMap (posZ u) (plainElem_int Tryz.underlying3 (by decide)) ((poKey posT posKT posD).key p hp)
  obtain ⟨h1, h2⟩ := hD p hp
  obtain ⟨c, rfl, hc, _⟩ := plainElem_int_inv Tryz.underlying3 hv
  have hat' : D.atKey (litP p) (.lit (.int .i64 0)) = .lit (.int .i64 c) := (Prod.mk.inj hc).1
  have hh : Maps.has D ((poKey posT posKT posD).lit p) = decide (p ∈ all) := h1
  rw [hh] at hrun
  rw [h2] at hat'
  simp only [DataW.lit.injEq, Lit.int.injEq, true_and] at hat'
  rw [hat']
  exact hrun
/-- One more. -/
theorem numM.put (h : numM w b all s) (hl : all.length + s < 1000000) {p : Po} (hp : p.ok) (hn : p ∉ all) : ∃ w', (Instr.mapUpdate 36 (.map (some b)) (.agg #[.int .i64 p.W, .int .i64 p.H, .string p.C, .int .i64 p.T, .string p.A, .string p.B]) (.int .i64 ((all.length + s : Nat) : Int))).run Tryz.prog w = .ok () w' ∧ numM w' b (all ++ [p]) s ∧ w.grownBy w' (some b) := by
  obtain ⟨hnd, hok, D, hown, hD⟩ := h
  have hk := (poKey posT posKT posD).key p hp
  obtain ⟨w', hrun, ho, hg⟩ := hown.update (Keyed.of_law posLaw) posMap (by unfold maxLen; omega) hk (val := .int .i64 ((all.length + s : Nat) : Int)) (plainElem_int Tryz.underlying3 (WalkArith.wf_i64 (by omega)))
  refine ⟨w', hrun, ⟨?_, ?_, D.put (litP p) (.lit (.int .i64 ((all.length + s : Nat) : Int))), ?_, fun q hq => ?_⟩, hg⟩
  · have := add_nodup hnd p
    unfold addL at this
    rwa [if_neg hn] at this
  · intro q hq
    rw [List.mem_append, List.mem_singleton] at hq
    rcases hq with hq | rfl
    · exact hok q hq
    · exact hp
  · rw [List.length_append]
    exact ho
  · have hkl := (Keyed.of_law posLaw).key hk
    by_cases hqp : q = p
    · subst hqp
      refine ⟨?_, ?_⟩
      · rw [show decide (q ∈ all ++ [q]) = true by simp]
        exact Maps.has_put_same hown.isMap hkl _
      · rw [if_pos (by simp), idx_new hn]
        exact Maps.atKey_put_same hown.isMap hkl _ _
    · have hne : litP q ≠ litP p := fun e1 => hqp (KeyMk.lit_inj (M := poKey posT posKT posD) posLaw hq hp e1)
      obtain ⟨h1, h2⟩ := hD q hq
      have hmem : (q ∈ all ++ [p]) ↔ q ∈ all := by
        rw [List.mem_append, List.mem_singleton]
        exact ⟨fun hh => by rcases hh with hh | hh; exact hh; exact absurd hh hqp, .inl⟩
      refine ⟨?_, ?_⟩
      · rw [show decide (q ∈ all ++ [p]) = decide (q ∈ all) from decide_eq_decide.2 hmem, ← h1]
        exact Maps.has_put_other hne _
      · have e : (if q ∈ all ++ [p] then (((all ++ [p]).idxOf q + s : Nat) : Int) else 0) = (if q ∈ all then ((all.idxOf q + s : Nat) : Int) else 0) := by
          by_cases hqa : q ∈ all
          · rw [if_pos (hmem.2 hqa), if_pos hqa, idx_pre hqa]
          · rw [if_neg (fun hh => hqa (hmem.1 hh)), if_neg hqa]
        rw [e, ← h2]
        exact Maps.atKey_put_other hne _ _
end
end Go.Proofs.YtbijadnekoeofaaGreatDoor
