/-
  table.reached: what holds on the way.
  table.reached: what holds on the way, in memory.
  table.reached: a new position, in memory.
-/
import Derived.Test.YtbijadnekoeofaaGreatDoorJ30
import Derived.Test.YtbijadnekoeofaaGreatDoorJ21
import Derived.Deep.Cut
namespace Go.Proofs.YtbijadnekoeofaaGreatDoor
open Go.RowKit

/-- Those who lead to q, of the first i. -/
def frN (S : Nat → List Po) : Nat → Po → List Nat
  | 0, _ => []
  | i + 1, q => frN S i q ++ List.replicate ((S i).count q) i
/-- What each leads to. -/
def sucL (nx : Po → List Po) (all : List Po) (a : Nat) : List Po :=
  match all[a]? with
  | some p => nx p
  | none => []
theorem frN_cong {S S' : Nat → List Po} : ∀ {i : Nat}, (∀ a, a < i → S a = S' a) → ∀ q, frN S i q = frN S' i q
  | 0, _, _ => rfl
  | i + 1, h, q => by
    rw [frN, frN, frN_cong (fun a ha => h a (by omega)) q, h i (by omega)]
theorem frN_none {S : Nat → List Po} {q : Po} : ∀ {i : Nat}, (∀ a, a < i → q ∉ S a) → frN S i q = []
  | 0, _ => rfl
  | i + 1, h => by
    rw [frN, frN_none (fun a ha => h a (by omega)), List.count_eq_zero_of_not_mem (h i (by omega))]
    rfl
theorem frN_len {S : Nat → List Po} {q : Po} (hS : ∀ a, (S a).length ≤ 4608) : ∀ i : Nat, (frN S i q).length ≤ i * 4608
  | 0 => by simp [frN]
  | i + 1 => by
    have h1 := frN_len hS (q := q) i
    have h2 := hS i
    have h3 : (S i).count q ≤ (S i).length := List.count_le_length
    rw [frN, List.length_append, List.length_replicate]
    omega

/-- On the way: i have been gone through, and k of what the one at i leads to (when it has been looked at: b). -/
structure RW (nx : Po → List Po) (ev : Po → Int) (s : Po) (i k : Nat) (look : Bool) (ps : List Po) (nds : List Nd) : Prop where
  pos : nds.map Nd.p = extL (bfsN nx s i) (ps.take k)
  pr : ∀ (j : Nat) (n : Nd), nds[j]? = some n → n.d = 0 ∧ ((j < i ∨ (j = i ∧ look = true)) → n.v = (if nx n.p = [] then ev n.p else 0) ∧ n.l = ((nx n.p).length : Int)) ∧ (¬ (j < i ∨ (j = i ∧ look = true)) → n.v = 0 ∧ n.l = 0) ∧ n.fr = frN (sucL nx (bfsN nx s i)) i n.p ++ List.replicate ((ps.take k).count n.p) i
section
variable {nx : Po → List Po} {ev : Po → Int} {s : Po} {i k : Nat} {ps : List Po} {nds : List Nd}
theorem RW.at_ {look : Bool} (h : RW nx ev s i k look ps nds) {j : Nat} {n : Nd} (hn : nds[j]? = some n) : (extL (bfsN nx s i) (ps.take k))[j]? = some n.p := by
  rw [← h.pos, List.getElem?_map, hn]
  rfl
theorem RW.len {look : Bool} (h : RW nx ev s i k look ps nds) : nds.length = (extL (bfsN nx s i) (ps.take k)).length := by
  rw [← h.pos, List.length_map]
theorem RW.start (ps : List Po) : RW nx ev s 0 0 false ps [⟨s, 0, 0, none, 0, [], 0⟩] := by
  refine ⟨by simp [bfsN, extL], fun j n hn => ?_⟩
  have hj : n = ⟨s, 0, 0, none, 0, [], 0⟩ := by
    have := List.mem_of_getElem? hn
    simpa using this
  subst hj
  exact ⟨rfl, fun h => by rcases h with h | ⟨_, h⟩; omega; exact absurd h (by simp), fun _ => ⟨rfl, rfl⟩, by simp [frN]⟩
/-- The one at i has been looked at. -/
theorem RW.look (h : RW nx ev s i 0 false ps nds) {n : Nd} (hn : nds[i]? = some n) : RW nx ev s i 0 true ps (nds.set i { n with v := (if nx n.p = [] then ev n.p else 0), l := ((nx n.p).length : Int) }) := by
  have hi := (List.getElem?_eq_some_iff.1 hn).1
  refine ⟨?_, fun j m hm => ?_⟩
  · rw [← h.pos, List.map_set]
    show (nds.map Nd.p).set i n.p = _
    apply List.ext_getElem?
    intro j
    by_cases hj : i = j
    · subst hj
      rw [List.getElem?_set_self (by simpa using hi), List.getElem?_map, hn]
      rfl
    · rw [List.getElem?_set_ne hj]
  · by_cases hj : i = j
    · subst hj
      rw [List.getElem?_set_self hi] at hm
      cases hm
      obtain ⟨a1, a2, a3, a4⟩ := h.pr i n hn
      exact ⟨a1, fun _ => ⟨rfl, rfl⟩, fun hh => absurd (.inr ⟨rfl, rfl⟩) hh, a4⟩
    · rw [List.getElem?_set_ne hj] at hm
      obtain ⟨a1, a2, a3, a4⟩ := h.pr j m hm
      refine ⟨a1, fun hh => a2 ?_, fun hh => a3 (fun h2 => hh ?_), a4⟩
      · rcases hh with hh | ⟨hh, _⟩
        · exact .inl hh
        · exact absurd hh.symm hj
      · rcases h2 with h2 | ⟨_, h2⟩
        · exact .inl h2
        · exact absurd h2 (by simp)
/-- It leads to one that is there. -/
theorem RW.old (h : RW nx ev s i k true ps nds) {q : Po} (hq : ps[k]? = some q) {j : Nat} {n : Nd} (hj : nds[j]? = some n) (hp : n.p = q) (hnd : (nds.map Nd.p).Nodup) (fo : Option Addr) (fc : Nat) : RW nx ev s i (k + 1) true ps (nds.set j { n with fo := fo, fc := fc, fr := n.fr ++ [i] }) := by
  have hjl := (List.getElem?_eq_some_iff.1 hj).1
  have hin : q ∈ extL (bfsN nx s i) (ps.take k) := by
    rw [← hp]
    exact List.mem_of_getElem? (h.at_ hj)
  have htk : ps.take (k + 1) = ps.take k ++ [q] := by rw [List.take_add_one, hq]; rfl
  refine ⟨?_, fun a m hm => ?_⟩
  · rw [ext_take hq]
    unfold addL
    rw [if_pos hin, ← h.pos, List.map_set]
    show (nds.map Nd.p).set j n.p = _
    apply List.ext_getElem?
    intro x
    by_cases hx : j = x
    · subst hx
      rw [List.getElem?_set_self (by simpa using hjl), List.getElem?_map, hj]
      rfl
    · rw [List.getElem?_set_ne hx]
  · by_cases ha : j = a
    · subst ha
      rw [List.getElem?_set_self hjl] at hm
      cases hm
      obtain ⟨a1, a2, a3, a4⟩ := h.pr j n hj
      refine ⟨a1, a2, a3, ?_⟩
      show n.fr ++ [i] = _ ++ List.replicate ((ps.take (k + 1)).count n.p) i
      rw [a4, htk, List.count_append, hp, List.count_singleton_self, List.replicate_succ', List.append_assoc]
    · rw [List.getElem?_set_ne ha] at hm
      obtain ⟨a1, a2, a3, a4⟩ := h.pr a m hm
      refine ⟨a1, a2, a3, ?_⟩
      have hne : m.p ≠ q := fun e => by
        have h1 : (nds.map Nd.p)[a]? = some q := by rw [List.getElem?_map, hm, Option.map_some, e]
        have h2 : (nds.map Nd.p)[j]? = some q := by rw [List.getElem?_map, hj, Option.map_some, hp]
        have e1 := idx_of hnd h1
        have e2 := idx_of hnd h2
        omega
      rw [a4, htk, List.count_append, List.count_singleton]
      simp [Ne.symm hne]
theorem suc_pre {all r : List Po} {a : Nat} (ha : a < all.length) : sucL nx (all ++ r) a = sucL nx all a := by
  unfold sucL
  rw [List.getElem?_append_left ha]
/-- It leads to a new one. -/
theorem RW.new (h : RW nx ev s i k true ps nds) (hil : i < (bfsN nx s i).length) {q : Po} (hq : ps[k]? = some q) (hn : q ∉ nds.map Nd.p) (hbl : ∀ a, a < i → a < (bfsN nx s a).length) (fo : Option Addr) (fc : Nat) : RW nx ev s i (k + 1) true ps (nds ++ [⟨q, 0, 0, fo, fc, [i], 0⟩]) := by
  have htk : ps.take (k + 1) = ps.take k ++ [q] := by rw [List.take_add_one, hq]; rfl
  have hn2 : q ∉ extL (bfsN nx s i) (ps.take k) := by rw [← h.pos]; exact hn
  have hle : (bfsN nx s i).length ≤ nds.length := by rw [h.len]; exact (ext_len_le _ _).1
  have hno : ∀ a, a < i → q ∉ sucL nx (bfsN nx s i) a := fun a ha hm => by
    unfold sucL at hm
    split at hm
    · rename_i p hp
      exact hn2 (ext_mem.2 (.inl (bfs_there ha hp (hbl a ha) hm)))
    · simp at hm
  have hcnt : (ps.take k).count q = 0 := List.count_eq_zero_of_not_mem (fun hm => hn2 (ext_mem.2 (.inr hm)))
  refine ⟨?_, fun a m hm => ?_⟩
  · rw [ext_take hq]
    unfold addL
    rw [if_neg hn2, ← h.pos, List.map_append]
    rfl
  · by_cases ha : a < nds.length
    · rw [List.getElem?_append_left ha] at hm
      obtain ⟨a1, a2, a3, a4⟩ := h.pr a m hm
      refine ⟨a1, a2, a3, ?_⟩
      have hne : q ≠ m.p := fun e => hn (by rw [e]; exact List.mem_map.2 ⟨m, List.mem_of_getElem? hm, rfl⟩)
      rw [a4, htk, List.count_append, List.count_singleton]
      simp [hne]
    · have hal : a = nds.length := by
        have := (List.getElem?_eq_some_iff.1 hm).1
        simp at this
        omega
      subst hal
      rw [List.getElem?_append_right (Nat.le_refl _), Nat.sub_self] at hm
      simp only [List.getElem?_cons_zero, Option.some.injEq] at hm
      subst hm
      refine ⟨rfl, fun hh => by rcases hh with hh | ⟨hh, _⟩ <;> omega, fun _ => ⟨rfl, rfl⟩, ?_⟩
      show [i] = frN (sucL nx (bfsN nx s i)) i q ++ List.replicate ((ps.take (k + 1)).count q) i
      rw [frN_none hno, htk, List.count_append, hcnt, List.count_singleton_self]
      rfl
/-- The next one. -/
theorem RW.next (h : RW nx ev s i k true ps nds) {p : Po} (hp : (bfsN nx s i)[i]? = some p) (hps : ps = nx p) (hk : ps.length ≤ k) (ps' : List Po) : RW nx ev s (i + 1) 0 false ps' nds := by
  have hil := (List.getElem?_eq_some_iff.1 hp).1
  have htk : ps.take k = ps := List.take_of_length_le hk
  have hb : bfsN nx s (i + 1) = extL (bfsN nx s i) (nx p) := bfs_step hp
  obtain ⟨r, hr⟩ := ext_pre (bfsN nx s i) (nx p)
  refine ⟨?_, fun j n hn => ?_⟩
  · rw [h.pos, htk, hps, hb, List.take_zero]
    rfl
  · obtain ⟨a1, a2, a3, a4⟩ := h.pr j n hn
    refine ⟨a1, fun hh => a2 ?_, fun hh => a3 (fun h2 => hh ?_), ?_⟩
    · rcases hh with hh | ⟨_, hh⟩
      · rcases Nat.lt_or_ge j i with h1 | h1
        · exact .inl h1
        · exact .inr ⟨by omega, rfl⟩
      · exact absurd hh (by simp)
    · rcases h2 with h2 | ⟨h2, _⟩
      · exact .inl (by omega)
      · exact .inl (by omega)
    · rw [a4, htk, List.take_zero, List.count_nil, List.replicate_zero, List.append_nil, frN]
      have e1 : ∀ a, a < i → sucL nx (bfsN nx s i) a = sucL nx (bfsN nx s (i + 1)) a := fun a ha => by
        rw [hb, hr, suc_pre (by omega)]
      have e2 : sucL nx (bfsN nx s (i + 1)) i = nx p := by
        rw [hb, hr, suc_pre hil]
        unfold sucL
        rw [hp]
      rw [frN_cong e1, e2, hps]
end
end Go.Proofs.YtbijadnekoeofaaGreatDoor

namespace Go.Proofs.YtbijadnekoeofaaGreatDoor
open Go.RowKit

theorem infoNode : (Tryz.prog.info? 54).map (fun i => (i.zero, i.size, i.bytes)) = some (some (.agg #[.int .i64 0, .int .i64 0, .string ⟨#[]⟩, .int .i64 0, .string ⟨#[]⟩, .string ⟨#[]⟩, .int .i64 0, .int .i64 0, .slice none 0 0, .int .i64 0]), 10, 120) := by kernel_rfl
theorem infoInt : (Tryz.prog.info? 3).map (fun i => (i.zero, i.size, i.bytes)) = some (some (.int .i64 0), 1, 8) := by kernel_rfl
/-- In memory, on the way. -/
structure RM (nx : Po → List Po) (ev : Po → Int) (s : Po) (most b : Nat) (w1 : World) (i k : Nat) (look : Bool) (ps : List Po) (gN cap : Nat) (nds : List Nd) (u : World) : Prop where
  nd : NdR u w1.heap.size gN cap nds
  rw_ : RW nx ev s i k look ps nds
  le : nds.length ≤ most
  nm : numM u b (nds.map Nd.p) 0
  bb : w1.heap.size ≤ b
  bw : Below w1.heap.size w1 u
  bl : ∀ a, a < i → a < (bfsN nx s a).length
theorem numM.is {w : World} {b s : Nat} {all : List Po} (h : numM w b all s) : ∃ es ck, w.heap[b]? = some (.map es ck) := by
  obtain ⟨_, _, D, ⟨es, ck, hb, _⟩, _⟩ := h
  exact ⟨es, ck, hb⟩
theorem below_row {w1 u u' : World} {g : Nat} (h : Below w1.heap.size w1 u) (hB : w1.heap.size ≤ g) (hg : u.grownBy u' (some g)) : Below w1.heap.size w1 u' := by
  have hs := h.size
  exact ⟨hg.os.trans h.os, hg.tape.trans h.tape, hg.output.trans h.output, Nat.le_trans h.size hg.size, fun j hj => (hg.block j (by omega) (by simp; omega)).trans (h.block j hj)⟩
/-- A block that no node has. -/
def offN (gN gy : Nat) (nds : List Nd) : Prop := gN ≠ gy ∧ ∀ (j : Nat) (n : Nd), nds[j]? = some n → (Value.slice n.fo n.fr.length n.fc).ownBlock ≠ some gy
section
variable {nx : Po → List Po} {ev : Po → Int} {s : Po} {most b : Nat} {w1 : World} {i k : Nat} {ps : List Po} {gN cap : Nat} {nds : List Nd} {u u' : World} {lk : Bool}
theorem RM.below (h : RM nx ev s most b w1 i k lk ps gN cap nds u) (hb : Below u.heap.size u u') : RM nx ev s most b w1 i k lk ps gN cap nds u' := by
  have hBu : w1.heap.size ≤ u.heap.size := h.bw.size
  exact ⟨h.nd.below hb, h.rw_, h.le, h.nm.of_block (hb.block b h.nm.lt), h.bb, h.bw.trans (hb.mono hBu), h.bl⟩
theorem NdR.offN {base : Nat} (h : NdR u base gN cap nds) {gy : Nat} (hgy : u.heap.size ≤ gy) : offN gN gy nds :=
  ⟨by have := h.lt.2; omega, fun j n hn e => by have := (row_block (h.fr j n hn) e).2; omega⟩
theorem numM.row {base : Nat} (h : numM u b (nds.map Nd.p) 0) (hr : NdR u base gN cap nds) : b ≠ gN := by
  obtain ⟨es, ck, hb⟩ := h.is
  intro e
  exact row_map hr.row hb (by rw [e]; rfl)
theorem RW.any (h : RW nx ev s i 0 lk ps nds) (ps' : List Po) : RW nx ev s i 0 lk ps' nds := ⟨h.pos, h.pr⟩
/-- It has been looked at: what it is worth, how many it leads to. -/
theorem RM.look {N : Int} (h : RM nx ev s most b w1 i 0 false ps gN cap nds u) {n : Nd} (hn : nds[i]? = some n) (hN : ((nx n.p).length : Int) = N) (ps' : List Po) :
    (nx n.p = [] → ∃ nds', nds'.length = nds.length ∧ RM nx ev s most b w1 i 0 true ps' gN cap nds' ((u.setCell ⟨gN, i * 10 + 6, none⟩ (.int .i64 (ev n.p))).setCell ⟨gN, i * 10 + 9, none⟩ (.int .i64 N)) ∧ ∀ gy, offN gN gy nds → offN gN gy nds') ∧
    (nx n.p ≠ [] → ∃ nds', nds'.length = nds.length ∧ RM nx ev s most b w1 i 0 true ps' gN cap nds' (u.setCell ⟨gN, i * 10 + 9, none⟩ (.int .i64 N)) ∧ ∀ gy, offN gN gy nds → offN gN gy nds') := by
  subst hN
  have hi := (List.getElem?_eq_some_iff.1 hn).1
  have hlk := (h.rw_.any ps').look hn
  have hgN := h.nd.lt
  have hbN := h.nm.row h.nd
  have hoff : ∀ gy, offN gN gy nds → offN gN gy (nds.set i { n with v := (if nx n.p = [] then ev n.p else 0), l := ((nx n.p).length : Int) }) := fun gy ⟨o1, o2⟩ => ⟨o1, fun j m hm => by
    by_cases hj : i = j
    · subst hj
      rw [List.getElem?_set_self hi] at hm
      cases hm
      exact o2 i n hn
    · rw [List.getElem?_set_ne hj] at hm
      exact o2 j m hm⟩
  have hmap : (nds.set i { n with v := (if nx n.p = [] then ev n.p else 0), l := ((nx n.p).length : Int) }).map Nd.p = nds.map Nd.p := by rw [hlk.pos, h.rw_.pos, List.take_zero, List.take_zero]
  constructor
  · intro h0
    obtain ⟨r1, g1⟩ := h.nd.set hn 6 (by omega) (.int .i64 (ev n.p)) (n' := { n with v := ev n.p }) rfl rfl rfl rfl
    obtain ⟨r2, g2⟩ := r1.set (i := i) (n := { n with v := ev n.p }) (List.getElem?_set_self hi) 9 (by omega) (.int .i64 ((nx n.p).length : Int)) (n' := { n with v := ev n.p, l := ((nx n.p).length : Int) }) rfl rfl rfl rfl
    rw [List.set_set] at r2
    refine ⟨_, ?_, ⟨?_, hlk, by rw [List.length_set]; exact h.le, ?_, h.bb, below_row (below_row h.bw hgN.1 g1) hgN.1 g2, h.bl⟩, hoff⟩
    · rw [List.length_set]
    · rw [if_pos h0]; exact r2
    · rw [hmap]
      have := h.nm.lt
      exact h.nm.of_block ((g2.block b (Nat.lt_of_lt_of_le this g1.size) (by simpa using hbN)).trans (g1.block b this (by simpa using hbN)))
  · intro h0
    obtain ⟨r1, g1⟩ := h.nd.set hn 9 (by omega) (.int .i64 ((nx n.p).length : Int)) (n' := { n with l := ((nx n.p).length : Int) }) rfl rfl rfl rfl
    have hv0 : n.v = 0 := ((h.rw_.pr i n hn).2.2.1 (fun hh => by rcases hh with hh | ⟨_, hh⟩; omega; exact absurd hh (by simp))).1
    refine ⟨_, ?_, ⟨?_, hlk, by rw [List.length_set]; exact h.le, ?_, h.bb, below_row h.bw hgN.1 g1, h.bl⟩, hoff⟩
    · rw [List.length_set]
    · rw [if_neg h0]
      have e : ({ n with v := (0 : Int), l := ((nx n.p).length : Int) } : Nd) = { n with l := ((nx n.p).length : Int) } := by rw [← hv0]
      rw [e]
      exact r1
    · rw [hmap]
      exact h.nm.of_block (g1.block b h.nm.lt (by simpa using hbN))
/-- What a link in memory leaves. -/
structure LkE (nx : Po → List Po) (ev : Po → Int) (s : Po) (most b : Nat) (w1 : World) (i k : Nat) (ps : List Po) (gN cap : Nat) (j len : Nat) (gO : Nat) (ndO : List Nd) (u0 u2 : World) (v2 : Value) : Prop where
  cell : ∃ y, u2.cell? ⟨gN, j * 10 + 8, none⟩ = some y
  frz : u2.frozen? ⟨gN, j * 10 + 8, none⟩ = false
  sz : u0.heap.size ≤ u2.heap.size
  sl : ∃ fo fl fc, v2 = .slice fo fl fc
  ex : ∃ nds', nds'.length = len ∧ RM nx ev s most b w1 i (k + 1) true ps gN cap nds' (u2.setCell ⟨gN, j * 10 + 8, none⟩ v2) ∧ ∀ gy, gy < u0.heap.size → gy ≠ b → offN gO gy ndO → offN gN gy nds' ∧ (u2.setCell ⟨gN, j * 10 + 8, none⟩ v2).heap[gy]? = u0.heap[gy]?
theorem RM.old (h : RM nx ev s most b w1 i k true ps gN cap nds u) (hi5 : i ≤ 5000) (hlen : ∀ p, (nx p).length ≤ 4608) (hpl : ps.length ≤ 4608) {q : Po} (hq : ps[k]? = some q) {j : Nat} {n : Nd} (hj : nds[j]? = some n) (hp : n.p = q) :
    ∃ v2 u2, (Builtin.append_ #[52, 52] 52 #[.slice n.fo n.fr.length n.fc, .slice (some ⟨u.heap.size, 0, none⟩) 1 1]).run Tryz.prog (u.alloc (.cells #[.int .i64 (i : Int)] 3 (0, 0))) = .ok v2 u2 ∧ LkE nx ev s most b w1 i k ps gN cap j nds.length gN nds u u2 v2 := by
  obtain ⟨i0, hinfo, hz0, hz1, hz2⟩ := info_parts infoInt
  have hjl := (List.getElem?_eq_some_iff.1 hj).1
  have hba : Below u.heap.size u (u.alloc (.cells #[.int .i64 (i : Int)] 3 (0, 0))) := (Below.refl _ _).alloc (Nat.le_refl _) _
  have ha := h.below hba
  have hfl : n.fr.length ≤ 30000000 := by
    rw [(h.rw_.pr j n hj).2.2.2, List.length_append, List.length_replicate]
    have h1 := frN_len (S := sucL nx (bfsN nx s i)) (q := n.p) (fun a => by unfold sucL; split; exact hlen _; simp) i
    have h2 : (ps.take k).count n.p ≤ (ps.take k).length := List.count_le_length
    have h3 : (ps.take k).length ≤ ps.length := List.length_take_le' _ _
    have h4 : i * 4608 ≤ 5000 * 4608 := Nat.mul_le_mul hi5 (Nat.le_refl _)
    omega
  obtain ⟨v2, u2, hrun, hr, hg, -, hob⟩ := run_append_own_at (P := Tryz.prog) (u.alloc (.cells #[.int .i64 (i : Int)] 3 (0, 0))) w1.heap.size 52 52 3 i0 _ 1 8 Tryz.underlying52 hinfo hz0 hz1 hz2 rfl (by omega) (.slice n.fo n.fr.length n.fc) n.fr.length (ivs n.fr) (ha.nd.fr j n hj) ⟨u.heap.size, 0, none⟩ 1 1 [.int .i64 (i : Int)] rfl
    (fun a x hx => by
      have ha0 : a = 0 := by
        have := (List.getElem?_eq_some_iff.1 hx).1
        simp at this
        omega
      subst ha0
      simp only [List.getElem?_cons_zero, Option.some.injEq] at hx
      subst hx
      have hh := heap_alloc_new u (.cells #[.int .i64 (i : Int)] 3 (0, 0))
      show World.cell? _ ⟨u.heap.size, 0 + 0, none⟩ = _
      unfold World.cell?
      rw [hh]
      rfl)
    (fun x hx => by rw [List.mem_singleton.1 hx]; rfl) (by unfold maxLen; omega) (by omega) (Nat.le_trans h.bw.size hba.size)
  obtain ⟨fo', fc', rfl, hnd, hgs⟩ := ha.nd.from hj i hg hr hob
  have hgN := h.nd.lt
  have hbN := h.nm.row h.nd
  have hbf : ∀ g, (Value.slice n.fo n.fr.length n.fc).ownBlock = some g → b ≠ g := fun g e e2 => by
    obtain ⟨es, ck, hb⟩ := h.nm.is
    exact row_map (h.nd.fr j n hj) hb (by rw [e, e2])
  have hnd2 : (nds.map Nd.p).Nodup := h.nm.1
  have hrow2 : (u2.cell? ⟨gN, j * 10 + 8, none⟩ = some (.slice n.fo n.fr.length n.fc) ∧ u2.frozen? ⟨gN, j * 10 + 8, none⟩ = false) := by
    have hkeep : u2.heap[gN]? = (u.alloc (.cells #[.int .i64 (i : Int)] 3 (0, 0))).heap[gN]? := hg.block gN ha.nd.lt.2 (fun e => ha.nd.ne j n hj e.symm)
    obtain ⟨c1, c2⟩ := ha.nd.cell hj 8 (by omega)
    exact ⟨(World.cell?_of_block (a := ⟨gN, j * 10 + 8, none⟩) hkeep).trans c1, by simpa [World.frozen?, hkeep] using c2⟩
  have hother : ∀ g, g < u.heap.size → g ≠ gN → (Value.slice n.fo n.fr.length n.fc).ownBlock ≠ some g → (u2.setCell ⟨gN, j * 10 + 8, none⟩ (.slice fo' (n.fr.length + 1) fc')).heap[g]? = u.heap[g]? := fun g hgl hne hnf => by
    have h1 : g < (u.alloc (.cells #[.int .i64 (i : Int)] 3 (0, 0))).heap.size := Nat.lt_of_lt_of_le hgl hba.size
    exact (hgs.block g (Nat.lt_of_lt_of_le h1 hg.size) (by simpa using hne)).trans ((hg.block g h1 (fun e => hnf e.symm)).trans (hba.block g hgl))
  refine ⟨_, u2, hrun, ⟨⟨_, hrow2.1⟩, hrow2.2, Nat.le_trans hba.size hg.size, ⟨_, _, _, rfl⟩, ⟨_, ?_, ⟨hnd, h.rw_.old hq hj hp hnd2 fo' fc', by rw [List.length_set]; exact h.le, ?_, h.bb, ?_, h.bl⟩, fun gy hgy hgb ⟨o1, o2⟩ => ⟨⟨o1, fun a m hm => ?_⟩, hother gy hgy (Ne.symm o1) (o2 j n hj)⟩⟩⟩⟩
  · rw [List.length_set]
  · have e : (nds.set j { n with fo := fo', fc := fc', fr := n.fr ++ [i] }).map Nd.p = nds.map Nd.p := by
      apply List.ext_getElem?
      intro x
      rw [List.getElem?_map, List.getElem?_map]
      by_cases hx : j = x
      · subst hx
        rw [List.getElem?_set_self hjl, hj]
        rfl
      · rw [List.getElem?_set_ne hx]
    rw [e]
    exact h.nm.of_block (hother b h.nm.lt hbN (fun e => hbf b e rfl))
  · have hb2 : Below w1.heap.size w1 u2 := by
      cases hbk : (Value.slice n.fo n.fr.length n.fc).ownBlock with
      | none =>
        rw [hbk] at hg
        have hs := ha.bw.size
        exact ⟨hg.os.trans ha.bw.os, hg.tape.trans ha.bw.tape, hg.output.trans ha.bw.output, Nat.le_trans hs hg.size, fun x hx => (hg.block x (by omega) (by simp)).trans (ha.bw.block x hx)⟩
      | some g =>
        rw [hbk] at hg
        exact below_row ha.bw (row_block (ha.nd.fr j n hj) hbk).1 hg
    exact below_row hb2 hgN.1 hgs
  · by_cases ha2 : j = a
    · subst ha2
      rw [List.getElem?_set_self hjl] at hm
      cases hm
      show (Value.slice fo' (n.fr ++ [i]).length fc').ownBlock ≠ some gy
      rw [show (n.fr ++ [i]).length = n.fr.length + 1 by simp]
      intro e
      rcases hob with e2 | e2
      · exact o2 j n hj (e2.symm.trans e)
      · rw [e2] at e
        simp at e
        omega
    · rw [List.getElem?_set_ne ha2] at hm
      exact o2 a m hm
end
end Go.Proofs.YtbijadnekoeofaaGreatDoor

namespace Go.Proofs.YtbijadnekoeofaaGreatDoor
open Go.RowKit

theorem RM.new {nx : Po → List Po} {ev : Po → Int} {s : Po} {most b : Nat} {w1 : World} {i k : Nat} {ps : List Po} {gN cap : Nat} {nds : List Nd} {u : World} (h : RM nx ev s most b w1 i k true ps gN cap nds u) (hm5 : most ≤ 5000) (hlt : nds.length < most) (hil : i < (bfsN nx s i).length) {q : Po} (hq : ps[k]? = some q) (hqok : q.ok) (hn : q ∉ nds.map Nd.p) :
    ∃ (um : World) (u1 : World) (gN' cap' : Nat) (v2 : Value) (u2 : World),
      (Instr.mapUpdate 36 (.map (some b)) (.agg #[.int .i64 q.W, .int .i64 q.H, .string q.C, .int .i64 q.T, .string q.A, .string q.B]) (.int .i64 (nds.length : Int))).run Tryz.prog u = .ok () um ∧ u.grownBy um (some b) ∧
      (Builtin.append_ #[48, 48] 48 #[.slice (some ⟨gN, 0, none⟩) nds.length cap, .slice (some ⟨um.heap.size, 0, none⟩) 1 1]).run Tryz.prog (um.alloc (.cells #[.int .i64 q.W, .int .i64 q.H, .string q.C, .int .i64 q.T, .string q.A, .string q.B, .int .i64 0, .int .i64 0, .slice none 0 0, .int .i64 0] 54 (0, 0))) = .ok (.slice (some ⟨gN', 0, none⟩) (nds.length + 1) cap') u1 ∧
      nds.length + 1 ≤ cap' ∧ cap' ≤ maxLen ∧ u1.cell? ⟨gN', nds.length * 10 + 8, none⟩ = some (.slice none 0 0) ∧
      (Builtin.append_ #[52, 52] 52 #[.slice none 0 0, .slice (some ⟨u1.heap.size, 0, none⟩) 1 1]).run Tryz.prog (u1.alloc (.cells #[.int .i64 (i : Int)] 3 (0, 0))) = .ok v2 u2 ∧
      LkE nx ev s most b w1 i k ps gN' cap' nds.length (nds.length + 1) gN nds u u2 v2 := by
  obtain ⟨i0, hinfo, hz0, hz1, hz2⟩ := info_parts infoInt
  obtain ⟨n0, ninfo, nz0, nz1, nz2⟩ := info_parts infoNode
  have hml : (nds.map Nd.p).length + 0 = nds.length := by rw [List.length_map]; rfl
  obtain ⟨um, hrun1, hnm1, hg1⟩ := h.nm.put (by rw [hml]; omega) hqok hn
  rw [hml] at hrun1
  obtain ⟨es, ck, hmb⟩ := h.nm.is
  have hnd1 : NdR um w1.heap.size gN cap nds := h.nd.map hmb hg1
  have hbw1 : Below w1.heap.size w1 um := below_row h.bw h.bb hg1
  -- the new node in a row of one
  obtain ⟨ub, hub⟩ : ∃ ub, ub = um.alloc (.cells #[.int .i64 q.W, .int .i64 q.H, .string q.C, .int .i64 q.T, .string q.A, .string q.B, .int .i64 0, .int .i64 0, .slice none 0 0, .int .i64 0] 54 (0, 0)) := ⟨_, rfl⟩
  have hbb : Below um.heap.size um ub := by rw [hub]; exact (Below.refl _ _).alloc (Nat.le_refl _) _
  have hblk : ub.heap[um.heap.size]? = some (.cells #[.int .i64 q.W, .int .i64 q.H, .string q.C, .int .i64 q.T, .string q.A, .string q.B, .int .i64 0, .int .i64 0, .slice none 0 0, .int .i64 0] 54 (0, 0)) := by rw [hub]; exact heap_alloc_new um _
  have hnd2 := hnd1.below hbb
  have hbw2 : Below w1.heap.size w1 ub := hbw1.trans (hbb.mono hbw1.size)
  have hub_sz : um.heap.size < ub.heap.size := (Array.getElem?_eq_some_iff.1 hblk).1
  obtain ⟨v1, u1, hrun2, hr2, hg2, -, hob2⟩ := run_append_own_at (P := Tryz.prog) ub w1.heap.size 48 48 54 n0 _ 10 120 Tryz.underlying48 ninfo nz0 nz1 nz2 rfl (by omega) (.slice (some ⟨gN, 0, none⟩) nds.length cap) nds.length (ndv nds) hnd2.row ⟨um.heap.size, 0, none⟩ 1 1 (Nd.vs ⟨q, 0, 0, none, 0, [], 0⟩) rfl
    (fun a x hx => by
      have hc : ub.cell? ⟨um.heap.size, 0 + a, none⟩ = (Nd.vs ⟨q, 0, 0, none, 0, [], 0⟩)[a]? := by
        unfold World.cell?
        rw [hblk, Nat.zero_add]
        simp [Nd.vs]
      rw [show (⟨um.heap.size, 0, none⟩ : Addr).add a = ⟨um.heap.size, 0 + a, none⟩ by (simp [Addr.add]; try omega)]
      exact hc.trans hx)
    (fun x hx => by
      unfold Nd.vs at hx
      simp only [List.mem_cons, List.not_mem_nil, or_false] at hx
      rcases hx with rfl | rfl | rfl | rfl | rfl | rfl | rfl | rfl | rfl | rfl <;> rfl)
    (by unfold maxLen; omega) (by omega) hbw2.size
  obtain ⟨gN', cap', rfl, hnd3⟩ := hnd2.more q (by simpa [Value.ownBlock] using hg2) hr2 (by simpa [Value.ownBlock] using hob2)
  have hg2' : ub.grownBy u1 (some gN) := by simpa [Value.ownBlock] using hg2
  have hgN' : gN' = gN ∨ gN' = ub.heap.size := by simpa [Value.ownBlock] using hob2
  have hgN := h.nd.lt
  have hbN := h.nm.row h.nd
  have hbl1 := hnm1.lt
  have hnm3 : numM u1 b (nds.map Nd.p ++ [q]) 0 := hnm1.of_block ((hg2'.block b (Nat.lt_of_lt_of_le hbl1 hbb.size) (by simpa using hbN)).trans (hbb.block b hbl1))
  have hbw3 : Below w1.heap.size w1 u1 := below_row hbw2 hgN.1 hg2'
  have hcap : nds.length + 1 ≤ cap' ∧ cap' ≤ maxLen := by
    rcases hnd3.row.2 with ⟨e, _⟩ | ⟨g', c', cur, e, _, _, h1, h2, _⟩
    · simp at e
    · simp only [Value.slice.injEq, Option.some.injEq, Addr.mk.injEq, and_true] at e
      obtain ⟨-, -, rfl⟩ := e
      rw [List.length_append] at h1
      exact ⟨h1, h2⟩
  have hat : (nds ++ [(⟨q, 0, 0, none, 0, [], 0⟩ : Nd)])[nds.length]? = some ⟨q, 0, 0, none, 0, [], 0⟩ := by
    rw [List.getElem?_append_right (Nat.le_refl _), Nat.sub_self]
    rfl
  have hcell := (hnd3.cell hat 8 (by omega)).1
  -- the link
  obtain ⟨ui, hui⟩ : ∃ ui, ui = u1.alloc (.cells #[.int .i64 (i : Int)] 3 (0, 0)) := ⟨_, rfl⟩
  have hbi : Below u1.heap.size u1 ui := by rw [hui]; exact (Below.refl _ _).alloc (Nat.le_refl _) _
  have hblk2 : ui.heap[u1.heap.size]? = some (.cells #[.int .i64 (i : Int)] 3 (0, 0)) := by rw [hui]; exact heap_alloc_new u1 _
  have hnd4 := hnd3.below hbi
  obtain ⟨v2, u2, hrun3, hr3, hg3, -, hob3⟩ := run_append_own_at (P := Tryz.prog) ui w1.heap.size 52 52 3 i0 _ 1 8 Tryz.underlying52 hinfo hz0 hz1 hz2 rfl (by omega) (.slice none 0 0) 0 (ivs []) (hnd4.fr nds.length _ hat) ⟨u1.heap.size, 0, none⟩ 1 1 [.int .i64 (i : Int)] rfl
    (fun a x hx => by
      have ha0 : a = 0 := by
        have := (List.getElem?_eq_some_iff.1 hx).1
        simp at this
        omega
      subst ha0
      simp only [List.getElem?_cons_zero, Option.some.injEq] at hx
      subst hx
      show World.cell? _ ⟨u1.heap.size, 0 + 0, none⟩ = _
      unfold World.cell?
      rw [hblk2]
      rfl)
    (fun x hx => by rw [List.mem_singleton.1 hx]; rfl) (by unfold maxLen; omega) (by omega) (Nat.le_trans hbw3.size hbi.size)
  have hg3' : ui.grownBy u2 none := hg3
  obtain ⟨fo', fc', rfl, hnd5, hgs⟩ := hnd4.from hat i hg3 hr3 hob3
  have hset : (nds ++ [(⟨q, 0, 0, none, 0, [], 0⟩ : Nd)]).set nds.length ⟨q, 0, 0, fo', fc', [] ++ [i], 0⟩ = nds ++ [⟨q, 0, 0, fo', fc', [i], 0⟩] := by
    rw [List.set_append_right _ _ (Nat.le_refl _), Nat.sub_self]
    rfl
  have hnd6 : NdR (u2.setCell ⟨gN', nds.length * 10 + 8, none⟩ (.slice fo' 1 fc')) w1.heap.size gN' cap' (nds ++ [⟨q, 0, 0, fo', fc', [i], 0⟩]) := by
    rw [← hset]
    exact hnd5
  have hrow2 : u2.cell? ⟨gN', nds.length * 10 + 8, none⟩ = some (.slice none 0 0) ∧ u2.frozen? ⟨gN', nds.length * 10 + 8, none⟩ = false := by
    have hkeep : u2.heap[gN']? = ui.heap[gN']? := hg3'.block gN' hnd4.lt.2 (by simp)
    obtain ⟨c1, c2⟩ := hnd4.cell hat 8 (by omega)
    exact ⟨(World.cell?_of_block (a := ⟨gN', nds.length * 10 + 8, none⟩) hkeep).trans c1, by simpa [World.frozen?, hkeep] using c2⟩
  have hsz1 := hg1.size
  have hsz2 := hbb.size
  have hsz3 := hg2'.size
  have hsz4 := hbi.size
  have hsz5 := hg3'.size
  have hbN' : b ≠ gN' := by
    rcases hgN' with e | e
    · rw [e]; exact hbN
    · omega
  have hb4 : Below w1.heap.size w1 u2 := by
    have hs := hbw3.size
    exact ⟨hg3'.os.trans (hbi.os.trans hbw3.os), hg3'.tape.trans (hbi.tape.trans hbw3.tape), hg3'.output.trans (hbi.output.trans hbw3.output), Nat.le_trans hs (Nat.le_trans hsz4 hg3'.size), fun x hx => (hg3'.block x (by omega) (by simp)).trans ((hbi.block x (by omega)).trans (hbw3.block x hx))⟩
  have hown2 : (Value.slice fo' 1 fc').ownBlock = none ∨ (Value.slice fo' 1 fc').ownBlock = some ui.heap.size := hob3
  refine ⟨um, u1, gN', cap', _, u2, hrun1, hg1, by rw [← hub]; exact hrun2, hcap.1, hcap.2, hcell, by rw [← hui]; exact hrun3, ⟨⟨_, hrow2.1⟩, hrow2.2, by omega, ⟨_, _, _, rfl⟩, ⟨_, by rw [List.length_append]; rfl, ⟨hnd6, h.rw_.new hil hq hn h.bl fo' fc', by rw [List.length_append]; exact hlt, ?_, h.bb, below_row hb4 hnd4.lt.1 hgs, h.bl⟩, fun gy hgy hgb ⟨o1, o2⟩ => ⟨⟨?_, fun a m hm => ?_⟩, ?_⟩⟩⟩⟩
  · rw [List.map_append]
    exact hnm3.of_block ((hgs.block b (by omega) (by simpa using hbN')).trans ((hg3'.block b (by omega) (by simp)).trans (hbi.block b (by omega))))
  · rcases hgN' with e | e
    · rw [e]; exact o1
    · omega
  · by_cases ha : a < nds.length
    · rw [List.getElem?_append_left ha] at hm
      exact o2 a m hm
    · have hmn : m = ⟨q, 0, 0, fo', fc', [i], 0⟩ := by
        rw [List.getElem?_append_right (by omega)] at hm
        have := List.mem_of_getElem? hm
        simpa using this
      subst hmn
      intro e
      have e' : (Value.slice fo' 1 fc').ownBlock = some gy := e
      rcases hown2 with e2 | e2
      · rw [e2] at e'; simp at e'
      · rw [e2] at e'
        simp only [Option.some.injEq] at e'
        omega
  · have hne : gy ≠ gN' := by
      rcases hgN' with e | e
      · rw [e]; exact Ne.symm o1
      · omega
    exact (hgs.block gy (by omega) (by simpa using hne)).trans ((hg3'.block gy (by omega) (by simp)).trans ((hbi.block gy (by omega)).trans ((hg2'.block gy (by omega) (by simpa using Ne.symm o1)).trans ((hbb.block gy (by omega)).trans (hg1.block gy hgy (by simpa using hgb))))))
end Go.Proofs.YtbijadnekoeofaaGreatDoor
