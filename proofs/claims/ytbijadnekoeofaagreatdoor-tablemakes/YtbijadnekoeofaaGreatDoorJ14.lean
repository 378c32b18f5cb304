/-
  table.reached and table.settle, tied together (plain mathematics): what the nodes hold behind reached is what settle asks for.
  gameref.Tabled: plain mathematics: the numbers of what each leads to stay; lists of entries.
  package moves, walked: what is done at each cell that a piece comes to.
  package moves, walked: what is done at each step of a way.
-/
import Derived.Test.YtbijadnekoeofaaGreatDoorT16
import Derived.Test.YtbijadnekoeofaaGreatDoorJ12
import Derived.Test.YtbijadnekoeofaaGreatDoorJ5
import Derived.Laws.Bits64b
import Derived.Shelf.Abstract
namespace Go.Proofs.YtbijadnekoeofaaGreatDoor
open Go.RowKit

theorem frN_count (S : Nat → List Po) (q : Po) (i : Nat) : ∀ n, (frN S n q).count i = if i < n then (S i).count q else 0
  | 0 => by simp [frN]
  | n + 1 => by
    rw [frN, List.count_append, frN_count S q i n, List.count_replicate]
    simp only [beq_iff_eq]
    by_cases h : i < n
    · rw [if_pos h, if_neg (show ¬ n = i by omega), if_pos (show i < n + 1 by omega)]; rfl
    · rw [if_neg h]
      by_cases h2 : n = i
      · subst h2; simp
      · rw [if_neg h2, if_neg (show ¬ i < n + 1 by omega)]
theorem frN_lt {S : Nat → List Po} {q : Po} {i n : Nat} (h : i ∈ frN S n q) : i < n := by
  have h1 := List.count_pos_iff.2 h
  rw [frN_count] at h1
  by_cases h2 : i < n
  · exact h2
  · rw [if_neg h2] at h1; omega

def nxtG (nx : Po → List Po) (all : List Po) (i : Nat) : List Nat := (sucL nx all i).map all.idxOf
def v0G (nx : Po → List Po) (ev : Po → Int) (all : List Po) (i : Nat) : Nat :=
  match all[i]? with
  | some p => if nx p = [] then (ev p).toNat else 0
  | none => 0
def frG (nx : Po → List Po) (all : List Po) (i : Nat) : List Nat :=
  match all[i]? with
  | some p => frN (sucL nx all) all.length p
  | none => []

theorem count_idx {all : List Po} (hnd : all.Nodup) {j : Nat} {q : Po} (hj : all[j]? = some q) : ∀ l : List Po, (∀ x ∈ l, x ∈ all) → (l.map all.idxOf).count j = l.count q
  | [], _ => rfl
  | x :: l, h => by
    rw [List.map_cons, List.count_cons, List.count_cons, count_idx hnd hj l (fun y hy => h y (List.mem_cons_of_mem _ hy))]
    have hx := idx_at (h x List.mem_cons_self)
    have e : (all.idxOf x == j) = (x == q) := by
      by_cases hxq : x = q
      · subst hxq
        rw [idx_of hnd hj, beq_self_eq_true, beq_self_eq_true]
      · have : all.idxOf x ≠ j := fun hh => by
          rw [hh, hj] at hx
          exact hxq (Option.some.inj hx).symm
        rw [beq_eq_false_iff_ne.2 this, beq_eq_false_iff_ne.2 hxq]
    rw [e]

/-- What settle asks for. -/
structure Glue (nx : Po → List Po) (ev : Po → Int) (all : List Po) (nds : List Nd) : Prop where
  hv : ∀ (i : Nat) (n : Nd), nds[i]? = some n → n.v = (v0G nx ev all i : Int) ∧ n.d = 0 ∧ n.l = ((nxtG nx all i).length : Int) ∧ n.fr = frG nx all i
  hne : ∀ i, i < nds.length → v0G nx ev all i = 0 → nxtG nx all i ≠ []
  hnN : ∀ i, i < nds.length → ∀ j ∈ nxtG nx all i, j < nds.length
  hfr : ∀ i j, i < nds.length → (frG nx all j).count i = (nxtG nx all i).count j
  hfN : ∀ j, ∀ i ∈ frG nx all j, i < nds.length
  hlen : ∀ i, (nxtG nx all i).length ≤ 4608

theorem glue {nx : Po → List Po} {ev : Po → Int} {s : Po} {nds : List Nd} (h : RW nx ev s nds.length 0 false [] nds) (hev : ∀ p ∈ bfsN nx s nds.length, nx p = [] → 1 ≤ ev p) (hl : ∀ p, (nx p).length ≤ 4608) :
    nds.map Nd.p = bfsN nx s nds.length ∧ Glue nx ev (bfsN nx s nds.length) nds := by
  have hp : nds.map Nd.p = bfsN nx s nds.length := by have := h.pos; simpa [extL] using this
  obtain ⟨all, hall⟩ : ∃ all, all = bfsN nx s nds.length := ⟨_, rfl⟩
  have hL : all.length = nds.length := by rw [hall, ← hp, List.length_map]
  have hnd : all.Nodup := by rw [hall]; exact bfs_nodup _
  have hcl : ∀ p ∈ all, ∀ q ∈ nx p, q ∈ all := by
    rw [hall]
    exact fun p hp2 q hq => bfs_closed (by rw [← hall, hL]; exact Nat.le_refl _) hp2 hq
  have hat : ∀ i, i < nds.length → ∃ p, all[i]? = some p ∧ p ∈ all := fun i hi => ⟨all[i]'(by omega), List.getElem?_eq_getElem (by omega), List.getElem_mem _⟩
  have hsu : ∀ {i p}, all[i]? = some p → sucL nx all i = nx p := fun {i p} hi => by unfold sucL; rw [hi]
  refine ⟨hp, ?_⟩
  rw [← hall]
  rw [← hall] at hev hp
  refine ⟨fun i n hn => ?_, fun i hi h0 => ?_, fun i hi j hj => ?_, fun i j hi => ?_, fun j i hi => ?_, fun i => ?_⟩
  · have hi : all[i]? = some n.p := by rw [← hp, List.getElem?_map, hn]; rfl
    have hin := (List.getElem?_eq_some_iff.1 hn).1
    obtain ⟨a1, a2, a3, a4⟩ := h.pr i n hn
    obtain ⟨b1, b2⟩ := a2 (.inl hin)
    refine ⟨?_, a1, ?_, ?_⟩
    · rw [b1]
      unfold v0G
      rw [hi]
      by_cases hx : nx n.p = []
      · have := hev n.p (List.mem_of_getElem? hi) hx
        simp only [hx, if_true]
        omega
      · simp only [hx, if_false]; rfl
    · rw [b2, nxtG, List.length_map, hsu hi]
    · rw [a4, ← hall]
      unfold frG
      rw [hi, hL]
      simp
  · obtain ⟨p, hp1, hp2⟩ := hat i hi
    unfold v0G at h0
    rw [hp1] at h0
    unfold nxtG
    rw [hsu hp1]
    intro hh
    have hx : nx p = [] := List.map_eq_nil_iff.1 hh
    have := hev p hp2 hx
    simp only [hx, if_true] at h0
    omega
  · obtain ⟨p, hp1, hp2⟩ := hat i hi
    unfold nxtG at hj
    rw [hsu hp1] at hj
    obtain ⟨q, hq, rfl⟩ := List.mem_map.1 hj
    rw [← hL]
    exact List.idxOf_lt_length_iff.2 (hcl p hp2 q hq)
  · obtain ⟨p, hp1, hp2⟩ := hat i hi
    unfold frG nxtG
    rw [hsu hp1]
    cases hj : all[j]? with
    | none =>
      symm
      simp only [List.count_nil]
      refine List.count_eq_zero_of_not_mem (fun hh => ?_)
      obtain ⟨q, hq, hqj⟩ := List.mem_map.1 hh
      have h1 := List.idxOf_lt_length_iff.2 (hcl p hp2 q hq)
      rw [hqj] at h1
      rw [List.getElem?_eq_none_iff] at hj
      omega
    | some q =>
      simp only []
      rw [frN_count, if_pos (by omega), hsu hp1, count_idx hnd hj _ (hcl p hp2)]
  · unfold frG at hi
    cases hj : all[j]? with
    | none => rw [hj] at hi; simp at hi
    | some q => rw [hj] at hi; rw [← hL]; exact frN_lt hi
  · unfold nxtG
    rw [List.length_map]
    unfold sucL
    split
    · exact hl _
    · simp
end Go.Proofs.YtbijadnekoeofaaGreatDoor

namespace Go.Proofs.YtbijadnekoeofaaGreatDoor

section
variable {nx : Po → List Po} {s : Po}
/-- What each of the first i leads to, by number. -/
def nxL (nx : Po → List Po) (s : Po) (i : Nat) : List (List Nat) := (List.range i).map (nxtG nx (bfsN nx s i))
theorem nxL_len (i : Nat) : (nxL nx s i).length = i := by simp [nxL]
theorem nxtG_stay {i a : Nat} (ha : a < i) (hbl : ∀ a, a < i → a < (bfsN nx s a).length) (hil : i < (bfsN nx s i).length) : nxtG nx (bfsN nx s (i + 1)) a = nxtG nx (bfsN nx s i) a := by
  obtain ⟨r, hr⟩ := bfs_pre (nx := nx) (s := s) i
  have h1 : sucL nx (bfsN nx s (i + 1)) a = sucL nx (bfsN nx s i) a := by rw [hr]; exact suc_pre (by omega)
  unfold nxtG
  rw [h1]
  apply List.map_congr_left
  intro q hq
  unfold sucL at hq
  split at hq
  · rename_i p hp
    have := bfs_there ha hp (hbl a ha) hq
    rw [hr, idx_pre this]
  · simp at hq
theorem nxL_step {i : Nat} {p : Po} (hbl : ∀ a, a < i → a < (bfsN nx s a).length) (hp : (bfsN nx s i)[i]? = some p) : nxL nx s (i + 1) = nxL nx s i ++ [(nx p).map (bfsN nx s (i + 1)).idxOf] := by
  have hil := (List.getElem?_eq_some_iff.1 hp).1
  unfold nxL
  rw [List.range_succ, List.map_append]
  congr 1
  · apply List.map_congr_left
    intro a ha
    exact nxtG_stay (List.mem_range.1 ha) hbl hil
  · obtain ⟨r, hr⟩ := bfs_pre (nx := nx) (s := s) i
    simp only [List.map_cons, List.map_nil]
    unfold nxtG
    rw [show sucL nx (bfsN nx s (i + 1)) i = nx p by rw [hr, suc_pre hil]; unfold sucL; rw [hp]]
theorem nxL_at {i a : Nat} (ha : a < i) : (nxL nx s i)[a]? = some (nxtG nx (bfsN nx s i) a) := by
  unfold nxL
  rw [List.getElem?_map, List.getElem?_range ha]
  rfl
/-- What has been numbered on the way. -/
theorem tl_step {acc ps : List Po} {k : Nat} {q : Po} (hq : ps[k]? = some q) (hin : ∀ x ∈ ps.take k, x ∈ acc) : (ps.take (k + 1)).map (addL acc q).idxOf = (ps.take k).map acc.idxOf ++ [(addL acc q).idxOf q] := by
  rw [List.take_add_one, hq, Option.toList_some, List.map_append]
  congr 1
  apply List.map_congr_left
  intro x hx
  obtain ⟨r, hr⟩ := add_pre acc q
  rw [hr, idx_pre (hin x hx)]
end

/-! Entries. -/
def enF (all : List Po) (A : Nat → Nat × Nat) : List (Po × Int × Int) := all.mapIdx fun j p => (p, ((A j).1 : Int), ((A j).2 : Int))
section
variable {all : List Po} {A B : Nat → Nat × Nat}
theorem enF_len : (enF all A).length = all.length := by simp [enF]
theorem enF_get (i : Nat) : (enF all A)[i]? = (all[i]?).map fun p => (p, ((A i).1 : Int), ((A i).2 : Int)) := by
  unfold enF
  rw [List.getElem?_mapIdx]
theorem enF_at {i : Nat} {p : Po} (h : all[i]? = some p) : (enF all A)[i]? = some (p, ((A i).1 : Int), ((A i).2 : Int)) := by rw [enF_get, h]; rfl
theorem enF_cong (h : ∀ i, i < all.length → A i = B i) : enF all A = enF all B := by
  apply List.ext_getElem?
  intro i
  rw [enF_get, enF_get]
  cases hi : all[i]? with
  | none => rfl
  | some p =>
    have := h i (List.getElem?_eq_some_iff.1 hi).1
    rw [this]
theorem enF_set {i : Nat} {p : Po} (hp : all[i]? = some p) {v d : Int} (hv : v = ((B i).1 : Int)) (hd : d = ((B i).2 : Int)) (h : ∀ j, j ≠ i → A j = B j) : (enF all A).set i (p, v, d) = enF all B := by
  have hil := (List.getElem?_eq_some_iff.1 hp).1
  apply List.ext_getElem?
  intro j
  by_cases hj : i = j
  · subst hj
    rw [List.getElem?_set_self (by rw [enF_len]; exact hil), enF_at hp, hv, hd]
  · rw [List.getElem?_set_ne hj, enF_get, enF_get, h j (Ne.symm hj)]
theorem enF_pos : (enF all A).map (fun x => x.1) = all := by
  apply List.ext_getElem?
  intro i
  rw [List.getElem?_map, enF_get]
  cases all[i]? <;> rfl
/-- A round, one after the other. -/
theorem enF_prt {nxt : Nat → List Nat} {d i : Nat} {p : Po} (hp : all[i]? = some p) : (enF all (prt nxt A d i)).set i (p, ((rnd nxt A d i).1 : Int), ((rnd nxt A d i).2 : Int)) = enF all (prt nxt A d (i + 1)) := by
  refine enF_set hp ?_ ?_ (fun j hj => ?_)
  · unfold prt; rw [if_pos (by omega)]
  · unfold prt; rw [if_pos (by omega)]
  · unfold prt
    by_cases h : j < i
    · rw [if_pos h, if_pos (by omega)]
    · rw [if_neg h, if_neg (by omega)]
theorem enF_stay {nxt : Nat → List Nat} {d i : Nat} (hr : rnd nxt A d i = A i) : enF all (prt nxt A d i) = enF all (prt nxt A d (i + 1)) := by
  apply enF_cong
  intro j _
  unfold prt
  by_cases h : j < i
  · rw [if_pos h, if_pos (by omega)]
  · by_cases h2 : j = i
    · subst h2
      rw [if_neg h, if_pos (by omega), hr]
    · rw [if_neg h, if_neg (by omega)]
theorem enF_prt0 {nxt : Nat → List Nat} {d : Nat} : enF all (prt nxt A d 0) = enF all A := enF_cong (fun j _ => by unfold prt; rw [if_neg (by omega)])
theorem enF_prtN {nxt : Nat → List Nat} {d : Nat} : enF all (prt nxt A d all.length) = enF all (rnd nxt A d) := enF_cong (fun j hj => by unfold prt; rw [if_pos hj])
/-- What is looked at, at an entry of a round. -/
theorem rnd_known {nxt : Nat → List Nat} {d i : Nat} (h : (A i).1 ≠ 0) : rnd nxt A d i = A i := by unfold rnd; rw [if_pos h]
theorem rnd_lost {nxt : Nat → List Nat} {d i : Nat} (h : (A i).1 = 0) (h1 : (nxt i).any (fun j => (A j).1 == 2) = true) : rnd nxt A d i = (1, d) := by unfold rnd; rw [if_neg (by omega), if_pos h1]
theorem rnd_won {nxt : Nat → List Nat} {d i : Nat} (h : (A i).1 = 0) (h1 : (nxt i).any (fun j => (A j).1 == 2) = false) (h2 : (nxt i).all (fun j => (A j).1 == 1) = true) : rnd nxt A d i = (2, d) := by unfold rnd; rw [if_neg (by omega), if_neg (by rw [h1]; simp), if_pos h2]
theorem rnd_open {nxt : Nat → List Nat} {d i : Nat} (h : (A i).1 = 0) (h1 : (nxt i).any (fun j => (A j).1 == 2) = false) (h2 : (nxt i).all (fun j => (A j).1 == 1) = false) : rnd nxt A d i = A i := by unfold rnd; rw [if_neg (by omega), if_neg (by rw [h1]; simp), if_neg (by rw [h2]; simp)]
/-- One more is looked at. -/
theorem any_take {f : Nat → Bool} {l : List Nat} {k x : Nat} (h : l[k]? = some x) : (l.take (k + 1)).any f = ((l.take k).any f || f x) := by
  rw [List.take_add_one, h]
  simp
theorem all_take {f : Nat → Bool} {l : List Nat} {k x : Nat} (h : l[k]? = some x) : (l.take (k + 1)).all f = ((l.take k).all f && f x) := by
  rw [List.take_add_one, h]
  simp
end
end Go.Proofs.YtbijadnekoeofaaGreatDoor

namespace Go.Proofs.YtbijadnekoeofaaGreatDoor
open Go.RowKit
attribute [local go_sem ↓] Go.wp_at_zero Go.wp_at_succ

/-- All as it was but block g. -/
structure Bt (g : Nat) (w w' : World) : Prop where
  os : w'.os = w.os
  tape : w'.tape = w.tape
  output : w'.output = w.output
  size : w.heap.size ≤ w'.heap.size
  block : ∀ k, k < w.heap.size → k ≠ g → w'.heap[k]? = w.heap[k]?
theorem Bt.refl (g : Nat) (w : World) : Bt g w w := ⟨rfl, rfl, rfl, Nat.le_refl _, fun _ _ _ => rfl⟩
theorem Bt.of {g : Nat} {w w' : World} (h : Below w.heap.size w w') : Bt g w w' := ⟨h.os, h.tape, h.output, h.size, fun k hk _ => h.block k hk⟩
theorem Bt.trans {g : Nat} {w w' w'' : World} (h : Bt g w w') (h' : Bt g w' w'') : Bt g w w'' := ⟨h'.os.trans h.os, h'.tape.trans h.tape, h'.output.trans h.output, Nat.le_trans h.size h'.size, fun k hk hn => (h'.block k (Nat.lt_of_lt_of_le hk h.size) hn).trans (h.block k hk hn)⟩
theorem Bt.put {g : Nat} {w w' : World} (h : Bt g w w') (i : Nat) (v : Value) : Bt g w (w'.setCell ⟨g, i, none⟩ v) :=
  ⟨h.os, h.tape, h.output, by rw [show (w'.setCell ⟨g, i, none⟩ v).heap.size = w'.heap.size by simp [World.setCell]]; exact h.size, fun k hk hn => (Below.heap_setCell _ _ _ _ (by simp only; omega)).trans (h.block k hk hn)⟩
theorem isPb.bt {w w' : World} {b g : Nat} {W H T : Int} {C A B : ByteArray} (h : isPb w b W H T C A B) (hh : Bt g w w') (hb : b ≠ g) : isPb w' b W H T C A B := by
  have hl := h.lt
  unfold isPb at h ⊢; rw [hh.block b hl hb]; exact h
/-- A way in a box. -/
def isWb (w : World) (b : Nat) (k x y t : Int) : Prop := w.heap[b]? = some (.cells #[.int .i64 k, .int .i64 x, .int .i64 y, .int .i64 t] 93 (0, 0))
theorem isWb.all {w : World} {b : Nat} {k x y t : Int} (h : isWb w b k x y t) : w.cell? ⟨b, 0, none⟩ = some (.int .i64 k) ∧ w.cell? ⟨b, 1, none⟩ = some (.int .i64 x) ∧ w.cell? ⟨b, 2, none⟩ = some (.int .i64 y) ∧ w.cell? ⟨b, 3, none⟩ = some (.int .i64 t) := by
  unfold isWb at h; simp [World.cell?, h]
theorem isWb.lt {w : World} {b : Nat} {k x y t : Int} (h : isWb w b k x y t) : b < w.heap.size := (Array.getElem?_eq_some_iff.1 h).1
theorem isWb.bt {w w' : World} {b g : Nat} {k x y t : Int} (h : isWb w b k x y t) (hh : Bt g w w') (hb : b ≠ g) : isWb w' b k x y t := by
  have hl := h.lt
  unfold isWb at h ⊢; rw [hh.block b hl hb]; exact h
/-- A set of cells in a box. -/
def isGb (w : World) (b : Nat) (G : Nat) : Prop := w.heap[b]? = some (.cells #[.int .u64 (G : Int)] 136 (0, 0))
theorem isGb.all {w : World} {b : Nat} {G : Nat} (h : isGb w b G) : w.cell? ⟨b, 0, none⟩ = some (.int .u64 (G : Int)) ∧ w.frozen? ⟨b, 0, none⟩ = false := by
  unfold isGb at h; simp [World.cell?, World.frozen?, h]
theorem isGb.lt {w : World} {b : Nat} {G : Nat} (h : isGb w b G) : b < w.heap.size := (Array.getElem?_eq_some_iff.1 h).1
theorem isGb.below {w w' : World} {b B : Nat} {G : Nat} (h : isGb w b G) (hh : Below B w w') (hb : b < B) : isGb w' b G := by
  unfold isGb at h ⊢; rw [hh.block b hb]; exact h
theorem isGb.set {w : World} {b : Nat} {G : Nat} (h : isGb w b G) (G' : Nat) : isGb (w.setCell ⟨b, 0, none⟩ (.int .u64 (G' : Int))) b G' := by
  unfold isGb at h ⊢; simp [World.setCell, Array.getElem?_modify, h]
/-- The byte of a cell. -/
def cellN (C : ByteArray) (c : Nat) : Nat := (C.get! c).toNat
/-- What is gone to, one cell more. -/
def goalN (t : Int) (T : Nat) (C : ByteArray) (G c : Nat) : Nat := if entB t T (cellN C c) then G ||| 2 ^ c else G

set_option maxHeartbeats 2000000 in
set_option maxRecDepth 100000 in
theorem goal1_any (W H : Int) (T : Nat) (C A B : ByteArray) (k x y t : Int) (pb wb gb G c : Nat) (w : World) (hp : isPb w pb W H T C A B) (hw : isWb w wb k x y t) (hg : isGb w gb G) (hT : T ≤ 1) (hC : C.size ≤ 64) (hc : c < C.size) (hG : G < 18446744073709551616) (hne : wb ≠ gb) :
    Calls Tryz.prog 122 #[.int .i64 (c : Int), .pointer (some ⟨pb, 0, none⟩), .pointer (some ⟨wb, 0, none⟩), .pointer (some ⟨gb, 0, none⟩)] w fun e w' => e = .returned (.bool (decide (k = 2) && decide (cellN C c = 46))) ∧ isGb w' gb (goalN t T C G c) ∧ Bt gb w w' := by
  obtain ⟨p0, p1, p2, p3, p4, p5⟩ := hp.all
  obtain ⟨w0, w1, w2, w3⟩ := hw.all
  have hglt := hg.lt
  have hcn : (C[c]'hc).toNat = cellN C c := by
    unfold cellN
    cases C with
    | mk d => exact congrArg UInt8.toNat (getElem!_pos d c hc).symm
  obtain ⟨N, hN⟩ : ∃ N, N = cellN C c := ⟨_, rfl⟩
  rw [← hN] at hcn ⊢
  have hN256 : N < 256 := by rw [← hcn]; exact UInt8.toNat_lt _
  have hci : (c : Int) < (C.size : Int) := by omega
  have HEN := hide (fun u => mayEnter_any k x y t T N u hT hN256)
  have HG := hide hg
  have HW := hide hw
  have HNE := hide hne
  have HN : Hid (goalN t T C G c = if entB t T N then G ||| 2 ^ c else G) := hide (by unfold goalN; rw [← hN])
  clear hp hw hg hN
  go_enter Tryz.func122, Tryz.ntmps122
  go_wp2_with fail
  refine (unhide HEN _).mono ?_
  rintro e w4 ⟨rfl, hb4⟩
  have hg4 := (unhide HG).below hb4 hglt
  have hbt4 : Bt gb w w4 := Bt.of hb4
  have hw4 := (unhide HW).bt hbt4 (unhide HNE)
  obtain ⟨g0, gf⟩ := hg4.all
  obtain ⟨v0, -, -, -⟩ := hw4.all
  have HG4 := hide hg4
  have HBT4 := hide hbt4
  have HW4 := hide hw4
  clear hg4 hbt4 hw4 hb4
  cases hen : entB t T N with
  | true =>
    have hgo : goalN t T C G c = G ||| 2 ^ c := by rw [unhide HN, hen]; rfl
    have HGO := hide hgo
    have hg5 := (unhide HG4).set (G ||| 2 ^ c)
    have hbt5 := (unhide HBT4).put 0 (.int .u64 ((G ||| 2 ^ c : Nat) : Int))
    have hw5 := (unhide HW4).bt ((Bt.refl gb w4).put 0 (.int .u64 ((G ||| 2 ^ c : Nat) : Int))) (unhide HNE)
    obtain ⟨y0, -, -, -⟩ := hw5.all
    have h2c : (2 : Nat) ^ c < 18446744073709551616 := Nat.lt_of_lt_of_le (Nat.pow_lt_pow_right (by decide) (show c < 64 by omega)) (by decide)
    have hor := bits_or_u64_nat G (2 ^ c) hG h2c
    have e2 : ((2 : Int) ^ c) = ((2 ^ c : Nat) : Int) := by rw [Int.natCast_pow]; rfl
    rw [← e2] at hor
    have hsh : IntKind.u64.wrap ((2 : Int) ^ c) = (2 : Int) ^ c := by
      rw [e2]
      generalize (2 : Nat) ^ c = P at h2c
      unfold IntKind.wrap
      simp [IntKind.signed, IntKind.bits]
      omega
    have hc0 : ¬ (c : Int) < 0 := by omega
    clear hen hgo
    have HG5 := hide hg5
    have HBT5 := hide hbt5
    clear hg5 hbt5 hw5 e2 h2c
    by_cases hk : k = 2
    · have hkb : (k == 2) = true := by simp [hk]
      have HK := hide hk
      clear hk
      go_wp2
      go_region
      go_wp2
      go_ret
      refine ⟨ret_bool ?_, by rw [unhide HGO]; exact unhide HG5, ⟨(unhide HBT5).os, (unhide HBT5).tape, (unhide HBT5).output, (unhide HBT5).size, (unhide HBT5).block⟩⟩
      rw [decide_eq_true (unhide HK), Bool.true_and, Bool.eq_iff_iff]
      simp
      omega
    · have hkb : (k == 2) = false := by simpa using hk
      have HK := hide hk
      clear hk
      go_wp2
      go_region
      go_wp2
      go_ret
      refine ⟨ret_bool ?_, by rw [unhide HGO]; exact unhide HG5, ⟨(unhide HBT5).os, (unhide HBT5).tape, (unhide HBT5).output, (unhide HBT5).size, (unhide HBT5).block⟩⟩
      rw [decide_eq_false (unhide HK), Bool.false_and]
  | false =>
    have hgo : goalN t T C G c = G := by rw [unhide HN, hen]; rfl
    have HGO := hide hgo
    clear hen hgo
    by_cases hk : k = 2
    · have hkb : (k == 2) = true := by simp [hk]
      have HK := hide hk
      clear hk
      go_wp2
      go_ret
      refine ⟨ret_bool ?_, by rw [unhide HGO]; exact unhide HG4, unhide HBT4⟩
      rw [decide_eq_true (unhide HK), Bool.true_and, Bool.eq_iff_iff]
      simp
      omega
    · have hkb : (k == 2) = false := by simpa using hk
      have HK := hide hk
      clear hk
      go_wp2
      go_ret
      refine ⟨ret_bool ?_, by rw [unhide HGO]; exact unhide HG4, unhide HBT4⟩
      rw [decide_eq_false (unhide HK), Bool.false_and]
end Go.Proofs.YtbijadnekoeofaaGreatDoor

namespace Go.Proofs.YtbijadnekoeofaaGreatDoor
open Go.RowKit
attribute [local go_sem ↓] Go.wp_at_zero Go.wp_at_succ

theorem goalN_lt {t : Int} {T : Nat} {C : ByteArray} {G c : Nat} (hG : G < 18446744073709551616) (hc : c < 64) : goalN t T C G c < 18446744073709551616 := by
  unfold goalN
  split
  · have h2c : (2 : Nat) ^ c < 2 ^ 64 := Nat.pow_lt_pow_right (by decide) hc
    exact Nat.or_lt_two_pow (n := 64) hG h2c
  · exact hG
/-- A number in a box. -/
def isIb (w : World) (b : Nat) (n : Int) : Prop := w.heap[b]? = some (.cells #[.int .i64 n] 3 (0, 0))
theorem isIb.all {w : World} {b : Nat} {n : Int} (h : isIb w b n) : w.cell? ⟨b, 0, none⟩ = some (.int .i64 n) ∧ w.frozen? ⟨b, 0, none⟩ = false := by
  unfold isIb at h; simp [World.cell?, World.frozen?, h]
theorem isIb.lt {w : World} {b : Nat} {n : Int} (h : isIb w b n) : b < w.heap.size := (Array.getElem?_eq_some_iff.1 h).1
theorem isIb.bt {w w' : World} {b g : Nat} {n : Int} (h : isIb w b n) (hh : Bt g w w') (hb : b ≠ g) : isIb w' b n := by
  have hl := h.lt
  unfold isIb at h ⊢; rw [hh.block b hl hb]; exact h
theorem entG : ∀ args (u : World), (callFunc 122 args).run Tryz.prog u = .ok (.enter 122 args) u := enters_of Tryz.func122 (by kernel_rfl) rfl
theorem Bt.hi {g B : Nat} {u u' : World} (h : Bt g u u') (hg : g < B) : Hi B u u' := ⟨h.os, h.tape, h.output, h.size, fun k hk hl => h.block k hl (by omega)⟩
/-- What a piece goes to by a step of a way. -/
def rayG (W H : Nat) (k t : Int) (T : Nat) (C : ByteArray) (from_ : Nat) (dx dy : Int) (G : Nat) : Nat :=
  (rayL W H (fun c => decide (k = 2) && decide (cellN C c = 46)) dx dy 8 ((from_ % W : Nat) : Int) ((from_ / W : Nat) : Int)).foldl (goalN t T C) G
theorem rayL_lt {W H : Nat} {on : Nat → Bool} {dx dy : Int} : ∀ (f : Nat) (x y : Int), ∀ c ∈ rayL W H on dx dy f x y, c < W * H
  | 0, x, y, c, h => by rw [rayL] at h; simp at h
  | f + 1, x, y, c, h => by
    rw [rayL] at h
    split at h
    · rename_i hin
      obtain ⟨i0, i1, i2, i3⟩ := hin
      have hc := (cell_no i0 i1 i2 i3).2
      split at h
      · rcases List.mem_cons.1 h with rfl | h
        · exact hc
        · exact rayL_lt f _ _ c h
      · simp only [List.mem_singleton] at h
        subst h; exact hc
    · simp at h
theorem fold_lt {t : Int} {T : Nat} {C : ByteArray} : ∀ (l : List Nat) (G : Nat), (∀ c ∈ l, c < 64) → G < 18446744073709551616 → l.foldl (goalN t T C) G < 18446744073709551616
  | [], G, _, h => h
  | c :: l, G, hl, h => fold_lt l _ (fun d hd => hl d (by simp [hd])) (goalN_lt h (hl c (by simp)))

set_option maxHeartbeats 2000000 in
set_option maxRecDepth 100000 in
theorem step1_any (W H from_ T : Nat) (C A B : ByteArray) (k x y t dx dy : Int) (pb fb wb gb G : Nat) (w : World) (hp : isPb w pb W H T C A B) (hf : isIb w fb from_) (hw : isWb w wb k x y t) (hg : isGb w gb G) (hT : T ≤ 1) (hW : 1 ≤ W ∧ W ≤ 8) (hH : 1 ≤ H ∧ H ≤ 8) (hC : C.size = W * H) (hfr : from_ < W * H) (hG : G < 18446744073709551616)
    (hd : -8 ≤ dx ∧ dx ≤ 8 ∧ -8 ≤ dy ∧ dy ≤ 8 ∧ ¬ (dx = 0 ∧ dy = 0)) (hn1 : pb ≠ gb) (hn2 : wb ≠ gb) :
    Calls Tryz.prog 120 #[.int .i64 dx, .int .i64 dy, .pointer (some ⟨pb, 0, none⟩), .pointer (some ⟨fb, 0, none⟩), .pointer (some ⟨wb, 0, none⟩), .pointer (some ⟨gb, 0, none⟩)] w fun e w' => e = .returned (.tuple #[]) ∧ isGb w' gb (rayG W H k t T C from_ dx dy G) ∧ Bt gb w w' := by
  have h64 : W * H ≤ 64 := Nat.mul_le_mul hW.2 hH.2
  have hglt := hg.lt
  have hI : ∀ (vs : List Nat) (u u' : World), ((∀ c ∈ vs, c < 64) ∧ isGb u gb (vs.foldl (goalN t T C) G) ∧ Bt gb w u) → Below u.heap.size u u' → ((∀ c ∈ vs, c < 64) ∧ isGb u' gb (vs.foldl (goalN t T C) G) ∧ Bt gb w u') :=
    fun vs u u' ⟨h0, h1, h2⟩ hb => ⟨h0, h1.below hb h1.lt, h2.trans (Bt.of hb)⟩
  have hWK := walk_any W H from_ (T : Int) C A B dx dy 122 #[.pointer (some ⟨pb, 0, none⟩), .pointer (some ⟨wb, 0, none⟩), .pointer (some ⟨gb, 0, none⟩)] (fun c => decide (k = 2) && decide (cellN C c = 46))
    (fun vs u => (∀ c ∈ vs, c < 64) ∧ isGb u gb (vs.foldl (goalN t T C) G) ∧ Bt gb w u) w hW hH hfr hd entG hI
    (fun vs c u _ hc hu ⟨h0, h1, h2⟩ => by
      refine (goal1_any W H T C A B k x y t pb wb gb (vs.foldl (goalN t T C) G) c u (hp.bt h2 hn1) (hw.bt h2 hn2) h1 hT (by omega) (by omega) (fold_lt vs G h0 hG) hn2).mono ?_
      rintro e u' ⟨rfl, h3, h4⟩
      refine ⟨rfl, ⟨fun d hd => ?_, ?_, h2.trans h4⟩, h4.hi (by omega)⟩
      · rcases List.mem_append.1 hd with hd | hd
        · exact h0 d hd
        · simp only [List.mem_singleton] at hd; omega
      · rw [List.foldl_append]; exact h3)
    ⟨fun c hc => by simp at hc, hg, Bt.refl _ _⟩
  obtain ⟨p0, p1, p2, p3, p4, p5⟩ := hp.all
  obtain ⟨f0, -⟩ := hf.all
  have hmf : ∀ (fn : Fn) (first cap : Array Value) (w : World), (Instr.makeFunc fn first cap).run Tryz.prog w = .ok (.func fn first cap) w := fun _ _ _ _ => rfl
  have HWK := hide hWK
  clear hWK hI hp hf hw hg
  go_enter Tryz.func120, Tryz.ntmps120
  go_wp2_with fail
  refine (unhide HWK).mono ?_
  rintro e w1 ⟨rfl, -, h1, h2⟩
  go_wp2
  go_end0
  exact ⟨rfl, h1, h2⟩
end Go.Proofs.YtbijadnekoeofaaGreatDoor
