/-
  Positions as keys of maps.
  package proof, walked: isBare, isWon; certs in memory.
  Positions as keys: in this program.
  Maps that tell, of positions, what is known of each.
-/
import Derived.Test.YtlogengkhlmcbaaGreatDoorJ13
import Derived.DeepKeys4
import Derived.Test.YtlogengkhlmcbaaGreatDoorChecked
namespace Go.Proofs.YtlogengkhlmcbaaGreatDoor
open Go.RowKit

/-- A position, as a value. -/
structure Po where
  W : Int
  H : Int
  C : ByteArray
  T : Int
  A : ByteArray
  B : ByteArray
  deriving DecidableEq
def Po.cells (p : Po) : List Value := [.int .i64 p.W, .int .i64 p.H, .string p.C, .int .i64 p.T, .string p.A, .string p.B]
def Po.val (p : Po) : Value := .agg #[.int .i64 p.W, .int .i64 p.H, .string p.C, .int .i64 p.T, .string p.A, .string p.B]
def Po.lits (p : Po) : List Lit := [.int .i64 p.W, .int .i64 p.H, .string p.C.data.toList, .int .i64 p.T, .string p.A.data.toList, .string p.B.data.toList]
structure Po.ok (p : Po) : Prop where
  w : (Lit.int .i64 p.W).wf = true
  h : (Lit.int .i64 p.H).wf = true
  t : (Lit.int .i64 p.T).wf = true
  c : p.C.size ≤ maxLen
  a : p.A.size ≤ maxLen
  b : p.B.size ≤ maxLen
theorem Po.val_inj (p q : Po) (h : p.val = q.val) : p = q := by
  unfold Po.val at h
  simp only [Value.agg.injEq, Array.mk.injEq, List.cons.injEq, Value.int.injEq, Value.string.injEq, true_and, and_true] at h
  cases p; cases q
  simp_all

theorem keyLits_i64 {P : Program} {t : TypeId} (ht : P.underlying t = some (.int .i64)) (d : Nat) {c : Value} {L : List Lit} (h : P.keyLits (d + 1) t [c] = some L) : ∃ n, c = .int .i64 n ∧ (Lit.int .i64 n).wf = true ∧ L = [.int .i64 n] := by
  unfold Program.keyLits at h
  rw [ht] at h
  cases c <;> simp at h
  obtain ⟨⟨rfl, h1⟩, rfl⟩ := h
  exact ⟨_, rfl, h1, rfl⟩
theorem keyLits_i64_mk {P : Program} {t : TypeId} (ht : P.underlying t = some (.int .i64)) (d : Nat) {n : Int} (hn : (Lit.int .i64 n).wf = true) : P.keyLits (d + 1) t [.int .i64 n] = some [.int .i64 n] := by
  unfold Program.keyLits
  simp [ht, hn]
theorem keyLits_str {P : Program} {t : TypeId} (ht : P.underlying t = some .string) (d : Nat) {c : Value} {L : List Lit} (h : P.keyLits (d + 1) t [c] = some L) : ∃ s, c = .string s ∧ s.size ≤ maxLen ∧ L = [.string s.data.toList] := by
  unfold Program.keyLits at h
  rw [ht] at h
  cases c <;> simp at h
  exact ⟨_, rfl, h.1, h.2.symm⟩
theorem keyLits_str_mk {P : Program} {t : TypeId} (ht : P.underlying t = some .string) (d : Nat) {s : ByteArray} (hs : s.size ≤ maxLen) : P.keyLits (d + 1) t [.string s] = some [.string s.data.toList] := by
  unfold Program.keyLits
  simp [ht, hs]
theorem keyLits_two {P : Program} {t e : TypeId} (ht : P.underlying t = some (.array 2 e)) (ct : P.cellsOf t = 2) (ce : P.cellsOf e = 1) (d : Nat) {a b : Value} : P.keyLits (d + 2) t [a, b] = ((P.keyLits (d + 1) e [a]).bind fun x => (P.keyLits (d + 1) e [b]).map fun y => x ++ y) := by
  conv => lhs; unfold Program.keyLits
  rw [ht]
  simp only [ct, ce]
  simp [List.range_succ]
  cases P.keyLits (d + 1) e [a] <;> simp
  cases P.keyLits (d + 1) e [b] <;> simp

/-- What the key's type is. -/
structure PoType (P : Program) (tp ti ts ta : TypeId) (f0 f1 f2 f3 f4 : Field) : Prop where
  hp : P.underlying tp = some (.struct #[f0, f1, f2, f3, f4])
  n : (#[f0, f1, f2, f3, f4] : Array Field).all (·.name != "_") = true
  t0 : f0.type = ti ∧ f0.offset = 0
  t1 : f1.type = ti ∧ f1.offset = 1
  t2 : f2.type = ts ∧ f2.offset = 2
  t3 : f3.type = ti ∧ f3.offset = 3
  t4 : f4.type = ta ∧ f4.offset = 4
  hi : P.underlying ti = some (.int .i64)
  hs : P.underlying ts = some .string
  ha : P.underlying ta = some (.array 2 ts)
  cp : P.cellsOf tp = 6
  ci : P.cellsOf ti = 1
  cs : P.cellsOf ts = 1
  ca : P.cellsOf ta = 2

theorem keyLits_po {P : Program} {tp ti ts ta : TypeId} {f0 f1 f2 f3 f4 : Field} (h : PoType P tp ti ts ta f0 f1 f2 f3 f4) (d : Nat) (c0 c1 c2 c3 c4 c5 : Value) : P.keyLits (d + 3) tp [c0, c1, c2, c3, c4, c5] =
    ((P.keyLits (d + 2) ti [c0]).bind fun x0 => (P.keyLits (d + 2) ti [c1]).bind fun x1 => (P.keyLits (d + 2) ts [c2]).bind fun x2 => (P.keyLits (d + 2) ti [c3]).bind fun x3 => (P.keyLits (d + 2) ta [c4, c5]).map fun x4 => x0 ++ (x1 ++ (x2 ++ (x3 ++ x4)))) := by
  conv => lhs; unfold Program.keyLits
  rw [h.hp]
  simp only [h.cp]
  rw [if_pos ⟨rfl, h.n⟩]
  simp only [List.mapM_cons, List.mapM_nil, h.t0, h.t1, h.t2, h.t3, h.t4, h.ci, h.cs, h.ca, List.drop_zero, List.drop_succ_cons, List.take_succ_cons, List.take_zero]
  cases P.keyLits (d + 2) ti [c0] <;> simp
  cases P.keyLits (d + 2) ti [c1] <;> simp
  cases P.keyLits (d + 2) ts [c2] <;> simp
  cases P.keyLits (d + 2) ti [c3] <;> simp
  cases P.keyLits (d + 2) ta [c4, c5] <;> simp

theorem po_mk {P : Program} {tp ti ts ta : TypeId} {f0 f1 f2 f3 f4 : Field} (h : PoType P tp ti ts ta f0 f1 f2 f3 f4) (hk : P.keyType tp = true) (d : Nat) (hd : P.types.size = d + 2) (p : Po) (hok : p.ok) : keyOf P tp p.val = some (.string (keyBytes p.lits)) := by
  unfold keyOf
  rw [h.hp]
  have hf : p.val.formed P tp = true := by
    unfold Po.val Value.formed
    rw [h.hp]
    simp [h.cp]
  have e1 : P.keyLits (P.types.size + 1) tp p.val.cells.toList = some p.lits := by
    rw [hd]
    show P.keyLits (d + 3) tp [.int .i64 p.W, .int .i64 p.H, .string p.C, .int .i64 p.T, .string p.A, .string p.B] = _
    rw [keyLits_po h, keyLits_i64_mk h.hi _ hok.w, keyLits_i64_mk h.hi _ hok.h, keyLits_str_mk h.hs _ hok.c, keyLits_i64_mk h.hi _ hok.t, keyLits_two h.ha h.ca h.cs, keyLits_str_mk h.hs _ hok.a, keyLits_str_mk h.hs _ hok.b]
    rfl
  simp only [hk, hf, Bool.and_self, if_true, e1, Option.map_some]

theorem po_inv {P : Program} {tp ti ts ta : TypeId} {f0 f1 f2 f3 f4 : Field} (h : PoType P tp ti ts ta f0 f1 f2 f3 f4) (d : Nat) (hd : P.types.size = d + 2) (v : Value) (l : Lit) (hv : keyOf P tp v = some l) : ∃ p : Po, v = p.val ∧ p.ok := by
  obtain ⟨xs, L, rfl, hL, _⟩ := keyOf_top (by rw [h.hp]) hv
  have hsz : xs.toList.length = 6 := by
    rw [hd] at hL
    unfold Program.keyLits at hL
    rw [h.hp] at hL
    simp only [h.cp] at hL
    split at hL
    · rename_i h1; exact h1.1
    · cases hL
  rw [hd] at hL
  obtain ⟨xs⟩ := xs
  simp only at hsz hL
  match xs, hsz with
  | [c0, c1, c2, c3, c4, c5], _ =>
    rw [keyLits_po h] at hL
    simp only [Option.bind_eq_some_iff, Option.map_eq_some_iff] at hL
    obtain ⟨x0, h0, x1, h1, x2, h2, x3, h3, x4, h4, _⟩ := hL
    obtain ⟨n0, rfl, w0, _⟩ := keyLits_i64 h.hi _ h0
    obtain ⟨n1, rfl, w1, _⟩ := keyLits_i64 h.hi _ h1
    obtain ⟨s2, rfl, w2, _⟩ := keyLits_str h.hs _ h2
    obtain ⟨n3, rfl, w3, _⟩ := keyLits_i64 h.hi _ h3
    rw [keyLits_two h.ha h.ca h.cs] at h4
    simp only [Option.bind_eq_some_iff, Option.map_eq_some_iff] at h4
    obtain ⟨x5, h5, x6, h6, _⟩ := h4
    obtain ⟨s4, rfl, w4, _⟩ := keyLits_str h.hs _ h5
    obtain ⟨s5, rfl, w5, _⟩ := keyLits_str h.hs _ h6
    exact ⟨⟨n0, n1, s2, n3, s4, s5⟩, rfl, ⟨w0, w1, w3, w2, w4, w5⟩⟩

def poKey {P : Program} {tp ti ts ta : TypeId} (h : ∃ f0 f1 f2 f3 f4, PoType P tp ti ts ta f0 f1 f2 f3 f4) (hk : P.keyType tp = true) (hd : ∃ d, P.types.size = d + 2) : KeyMk P tp Po where
  val := Po.val
  lit p := .string (keyBytes p.lits)
  ok := Po.ok
  key := fun p hp => by
    obtain ⟨_, _, _, _, _, h⟩ := h
    obtain ⟨d, hd⟩ := hd
    exact po_mk h hk d hd p hp
  inv := fun v l hv => by
    obtain ⟨_, _, _, _, _, h⟩ := h
    obtain ⟨d, hd⟩ := hd
    exact po_inv h d hd v l hv
  inj := Po.val_inj
end Go.Proofs.YtlogengkhlmcbaaGreatDoor

namespace Go.Proofs.YtlogengkhlmcbaaGreatDoor
open Go.RowKit
attribute [local go_sem ↓] Go.wp_at_zero Go.wp_at_succ

/-- A cert. -/
inductive Ct where
  | mk (s : Bool) (f t : Int) (c : Nat) (ks : List Ct)
def Ct.s : Ct → Bool | .mk s _ _ _ _ => s
def Ct.f : Ct → Int | .mk _ f _ _ _ => f
def Ct.t : Ct → Int | .mk _ _ t _ _ => t
def Ct.c : Ct → Nat | .mk _ _ _ c _ => c
def Ct.ks : Ct → List Ct | .mk _ _ _ _ ks => ks
/-- Certs in memory, all in blocks below B, no more than so many within one another. -/
def isCts : Nat → World → Nat → Option Addr → Nat → List Ct → Prop
  | 0, _, _, ao, cap, l => l = [] ∧ cap ≤ maxLen ∧ (ao = none → cap = 0)
  | d + 1, w, B, ao, cap, l => l.length ≤ cap ∧ cap ≤ maxLen ∧ (ao = none → cap = 0) ∧ (l ≠ [] → ∃ g off, ao = some ⟨g, off, none⟩ ∧ g < B ∧ ∀ (i : Nat) (x : Ct), l[i]? = some x →
      x.c < 256 ∧ ∃ no nc, w.cell? ⟨g, off + i * 5, none⟩ = some (.bool x.s) ∧ w.cell? ⟨g, off + i * 5 + 1, none⟩ = some (.int .i64 x.f) ∧ w.cell? ⟨g, off + i * 5 + 2, none⟩ = some (.int .i64 x.t) ∧ w.cell? ⟨g, off + i * 5 + 3, none⟩ = some (.int .u8 (x.c : Int)) ∧ w.cell? ⟨g, off + i * 5 + 4, none⟩ = some (.slice no x.ks.length nc) ∧ isCts d w B no nc x.ks)
theorem isCts.below {w w' : World} {B B' : Nat} (hb : Below B' w w') (hB : B ≤ B') : ∀ (d : Nat) (ao : Option Addr) (cap : Nat) (l : List Ct), isCts d w B ao cap l → isCts d w' B ao cap l
  | 0, _, _, _, h => h
  | d + 1, ao, cap, l, h => by
    obtain ⟨h1, h2, h3, h4⟩ := h
    refine ⟨h1, h2, h3, fun hl => ?_⟩
    obtain ⟨g, off, e, hg, hc⟩ := h4 hl
    refine ⟨g, off, e, hg, fun i x hx => ?_⟩
    obtain ⟨k, no, nc, c0, c1, c2, c3, c4, c5⟩ := hc i x hx
    exact ⟨k, no, nc, (hb.cell (by dsimp only; omega)).trans c0, (hb.cell (by dsimp only; omega)).trans c1, (hb.cell (by dsimp only; omega)).trans c2, (hb.cell (by dsimp only; omega)).trans c3, (hb.cell (by dsimp only; omega)).trans c4, isCts.below hb hB d no nc x.ks c5⟩
theorem isCts.bound {w : World} {B B' : Nat} (hB : B ≤ B') : ∀ (d : Nat) (ao : Option Addr) (cap : Nat) (l : List Ct), isCts d w B ao cap l → isCts d w B' ao cap l
  | 0, _, _, _, h => h
  | d + 1, ao, cap, l, h => by
    obtain ⟨h1, h2, h3, h4⟩ := h
    refine ⟨h1, h2, h3, fun hl => ?_⟩
    obtain ⟨g, off, e, hg, hc⟩ := h4 hl
    refine ⟨g, off, e, by omega, fun i x hx => ?_⟩
    obtain ⟨k, no, nc, c0, c1, c2, c3, c4, c5⟩ := hc i x hx
    exact ⟨k, no, nc, c0, c1, c2, c3, c4, isCts.bound hB d no nc x.ks c5⟩
/-- Without a move. -/
def bareB (s : Bool) (f t : Int) (c : Nat) : Bool := !s && (decide (f = 0) && decide (t = 0) && decide (c = 0))

/-- A cert in a box. -/
def isCb (w : World) (g : Nat) (s : Bool) (f t : Int) (c : Nat) (kv : Value) : Prop := w.heap[g]? = some (.cells #[.bool s, .int .i64 f, .int .i64 t, .int .u8 (c : Int), kv] 32 (0, 0))
theorem isCb.all {w : World} {g : Nat} {s : Bool} {f t : Int} {c : Nat} {kv : Value} (h : isCb w g s f t c kv) : w.cell? ⟨g, 0, none⟩ = some (.bool s) ∧ w.cell? ⟨g, 1, none⟩ = some (.int .i64 f) ∧ w.cell? ⟨g, 2, none⟩ = some (.int .i64 t) ∧ w.cell? ⟨g, 3, none⟩ = some (.int .u8 (c : Int)) ∧ w.cell? ⟨g, 4, none⟩ = some kv := by
  unfold isCb at h; simp [World.cell?, h]
theorem isCb.lt {w : World} {g : Nat} {s : Bool} {f t : Int} {c : Nat} {kv : Value} (h : isCb w g s f t c kv) : g < w.heap.size := (Array.getElem?_eq_some_iff.1 h).1
theorem isCb.below {w w' : World} {g B : Nat} {s : Bool} {f t : Int} {c : Nat} {kv : Value} (h : isCb w g s f t c kv) (hb : Below B w w') (hg : g < B) : isCb w' g s f t c kv := (hb.block g hg).trans h
/-- A claim in a box. -/
def isCl (w : World) (g : Nat) (v0 v1 v2 v3 v4 v5 v6 v7 v8 v9 v10 v11 v12 : Value) (win : Int) : Prop := w.heap[g]? = some (.cells #[v0, v1, v2, v3, v4, v5, v6, v7, v8, v9, v10, v11, v12, .int .i64 win] 46 (0, 0))
theorem isCl.all {w : World} {g : Nat} {v0 v1 v2 v3 v4 v5 v6 v7 v8 v9 v10 v11 v12 : Value} {win : Int} (h : isCl w g v0 v1 v2 v3 v4 v5 v6 v7 v8 v9 v10 v11 v12 win) : w.cell? ⟨g, 0, none⟩ = some v0 ∧ w.cell? ⟨g, 1, none⟩ = some v1 ∧ w.cell? ⟨g, 2, none⟩ = some v2 ∧ w.cell? ⟨g, 3, none⟩ = some v3 ∧ w.cell? ⟨g, 4, none⟩ = some v4 ∧ w.cell? ⟨g, 5, none⟩ = some v5 ∧ w.cell? ⟨g, 6, none⟩ = some v6 ∧ w.cell? ⟨g, 7, none⟩ = some v7 ∧ w.cell? ⟨g, 8, none⟩ = some v8 ∧ w.cell? ⟨g, 9, none⟩ = some v9 ∧ w.cell? ⟨g, 10, none⟩ = some v10 ∧ w.cell? ⟨g, 11, none⟩ = some v11 ∧ w.cell? ⟨g, 12, none⟩ = some v12 ∧ w.cell? ⟨g, 13, none⟩ = some (.int .i64 win) := by
  unfold isCl at h; simp [World.cell?, h]
theorem isCl.lt {w : World} {g : Nat} {v0 v1 v2 v3 v4 v5 v6 v7 v8 v9 v10 v11 v12 : Value} {win : Int} (h : isCl w g v0 v1 v2 v3 v4 v5 v6 v7 v8 v9 v10 v11 v12 win) : g < w.heap.size := (Array.getElem?_eq_some_iff.1 h).1
theorem isCl.below {w w' : World} {g B : Nat} {v0 v1 v2 v3 v4 v5 v6 v7 v8 v9 v10 v11 v12 : Value} {win : Int} (h : isCl w g v0 v1 v2 v3 v4 v5 v6 v7 v8 v9 v10 v11 v12 win) (hb : Below B w w') (hg : g < B) : isCl w' g v0 v1 v2 v3 v4 v5 v6 v7 v8 v9 v10 v11 v12 win := (hb.block g hg).trans h

set_option maxHeartbeats 2000000 in
set_option maxRecDepth 100000 in
theorem isBare_any (s : Bool) (f t : Int) (c : Nat) (kv : Value) (w : World) :
    Calls Tryz.prog 31 #[.agg #[.bool s, .int .i64 f, .int .i64 t, .int .u8 (c : Int), kv]] w fun e w' => e = .returned (.bool (bareB s f t c)) ∧ Below w.heap.size w w' := by
  obtain ⟨b, hb⟩ : ∃ b, b = (decide (f = 0) && decide (t = 0) && decide (c = 0)) := ⟨_, rfl⟩
  have heq : ∀ u, (Op.equalIn 10000 29 (.agg #[.int .i64 f, .int .i64 t, .int .u8 (c : Int)]) (.agg #[.int .i64 0, .int .i64 0, .int .u8 0])).run Tryz.prog u = .ok b u := fun u => by
    rw [eqMove, hb]
    congr 1
    rw [Bool.eq_iff_iff]
    simp
  obtain ⟨w1, hw1⟩ : ∃ w1, w1 = w.alloc (.cells #[.bool s, .int .i64 f, .int .i64 t, .int .u8 (c : Int), kv] 32 (0, 0)) := ⟨_, rfl⟩
  have HB1 := hide (show Below w.heap.size w w1 by rw [hw1]; exact (Below.refl _ _).alloc (Nat.le_refl _) _)
  unfold bareB
  rw [← hb]
  have HW1 := hide hw1
  clear hb hw1
  cases s with
  | true =>
    go_enter Tryz.func31, Tryz.ntmps31
    go_wp2
    rw [← unhide HW1]
    go_ret
    exact ⟨rfl, unhide HB1⟩
  | false =>
    go_enter Tryz.func31, Tryz.ntmps31
    go_wp2
    rw [← unhide HW1]
    go_ret
    exact ⟨rfl, unhide HB1⟩

set_option maxHeartbeats 2000000 in
set_option maxRecDepth 100000 in
theorem isWon_any (v0 v1 v2 v3 v4 v5 v6 v7 v8 v9 v10 v11 v12 : Value) (win : Int) (W H T : Int) (C A B : ByteArray) (o e0 : Int) (w : World) (hwin : win = 0 ∨ win = 1)
    (hO : ∀ u, Below w.heap.size w u → Calls Tryz.prog 47 #[.agg #[v0, v1, v2, v3, v4, v5, v6, v7, v8, v9, v10, v11, v12], .agg #[.int .i64 W, .int .i64 H, .string C, .int .i64 T, .string A, .string B]] u fun e w' => e = .returned (.tuple #[.int .i64 o, .int .i64 e0]) ∧ Below u.heap.size u w') :
    Calls Tryz.prog 23 #[.agg #[v0, v1, v2, v3, v4, v5, v6, v7, v8, v9, v10, v11, v12, .int .i64 win], .agg #[.int .i64 W, .int .i64 H, .string C, .int .i64 T, .string A, .string B]] w fun e w' => e = .returned (.bool (o == win + 1)) ∧ Below w.heap.size w w' := by
  obtain ⟨w1, hw1⟩ : ∃ w1, w1 = w.alloc (.cells #[v0, v1, v2, v3, v4, v5, v6, v7, v8, v9, v10, v11, v12, .int .i64 win] 46 (0, 0)) := ⟨_, rfl⟩
  obtain ⟨w2, hw2⟩ : ∃ w2, w2 = w1.alloc (.cells #[.int .i64 W, .int .i64 H, .string C, .int .i64 T, .string A, .string B] 24 (0, 0)) := ⟨_, rfl⟩
  have hb1 : Below w.heap.size w w1 := by rw [hw1]; exact (Below.refl _ _).alloc (Nat.le_refl _) _
  have hb2 : Below w1.heap.size w1 w2 := by rw [hw2]; exact (Below.refl _ _).alloc (Nat.le_refl _) _
  have s1 : w1.heap.size = w.heap.size + 1 := by rw [hw1]; simp
  have hcl : isCl w2 w.heap.size v0 v1 v2 v3 v4 v5 v6 v7 v8 v9 v10 v11 v12 win := isCl.below (show isCl w1 w.heap.size v0 v1 v2 v3 v4 v5 v6 v7 v8 v9 v10 v11 v12 win by rw [hw1]; exact heap_alloc_new w _) hb2 (by omega)
  have hbw : Below w.heap.size w w2 := hb1.trans (hb2.mono (by omega))
  obtain ⟨q, hq⟩ : ∃ q : Int, q = win + 1 := ⟨_, rfl⟩
  have hix : ∀ u, (Instr.index 98 (.agg #[.int .i64 1, .int .i64 2]) (.int .i64 win)).run Tryz.prog u = .ok (.int .i64 q) u := fun u => by
    rcases hwin with rfl | rfl <;> (rw [hq]; kernel_rfl)
  rw [← hq]
  have HO := hide (hO w2 hbw)
  have HCL := hide hcl
  have HB2 := hide hbw
  have HW1 := hide hw1
  have HW2 := hide hw2
  clear hO hw1 hw2 hb1 hb2 s1 hcl hbw hq
  go_enter Tryz.func23, Tryz.ntmps23
  go_wp2_with fail
  rw [← unhide HW1, ← unhide HW2]
  refine (unhide HO).mono ?_
  rintro e w3 ⟨rfl, hb3⟩
  have hcl3 := (unhide HCL).below hb3 (unhide HCL).lt
  have HB3 := hide ((unhide HB2).trans (hb3.mono (unhide HB2).size))
  obtain ⟨-, -, -, -, -, -, -, -, -, -, -, -, -, c13⟩ := hcl3.all
  clear hcl3 hb3 HO HCL HB2 HW1 HW2
  go_wp2
  go_ret
  exact ⟨rfl, unhide HB3⟩
end Go.Proofs.YtlogengkhlmcbaaGreatDoor

namespace Go.Proofs.YtlogengkhlmcbaaGreatDoor
open Go.RowKit
open Go.WideMaps (KeyLaw)

theorem posT : ∃ f0 f1 f2 f3 f4, PoType Tryz.prog 24 3 9 22 f0 f1 f2 f3 f4 :=
  ⟨_, _, _, _, _, Tryz.underlying24, by kernel_rfl, ⟨rfl, rfl⟩, ⟨rfl, rfl⟩, ⟨rfl, rfl⟩, ⟨rfl, rfl⟩, ⟨rfl, rfl⟩, Tryz.underlying3, Tryz.underlying9, Tryz.underlying22, by kernel_rfl, by kernel_rfl, by kernel_rfl, by kernel_rfl⟩
theorem posRow0 : Nat.ble (24 + 1 + 2) Tryz.prog.types.size = true := by kernel_rfl
theorem posRow : 24 < Tryz.prog.types.size := by
  have := Nat.le_of_ble_eq_true posRow0
  omega
theorem posD : ∃ d, Tryz.prog.types.size = d + 2 := by
  have := Nat.le_of_ble_eq_true posRow0
  exact ⟨Tryz.prog.types.size - 2, by omega⟩
theorem posKT : Tryz.prog.keyType 24 = true := by kernel_rfl
theorem posKT5 : Tryz.prog.keyTypeAt 5 24 = true := by kernel_rfl
theorem posLO : laidOutB Tryz.prog = true := by kernel_rfl
theorem posLaw : KeyLaw Tryz.prog 24 :=
  deep_law_laid posLO (m := 5) (by decide) posRow posKT5 (by rw [Tryz.underlying24])
theorem posZ (w : World) : (zeroValue 3).run Tryz.prog w = .ok (.int .i64 0) w := by kernel_rfl
/-- The map in block b tells how often each position stands in l. -/
def countsP (w : World) (b : Nat) (l : List Po) : Prop := countsM w (poKey posT posKT posD) 3 b l
def rangesP (w : World) (b r : Nat) (l : List Po) (left : Lit → Bool) : Prop := rangesM w (poKey posT posKT posD) 3 b r l left
def litP (p : Po) : Lit := .string (keyBytes p.lits)
theorem countsP_made (w : World) : countsP (w.alloc (.map #[] 0)) w.heap.size [] := countsM_made w _ _
theorem countsP.lt {w : World} {b : Nat} {l : List Po} (h : countsP w b l) : b < w.heap.size := countsM.lt h
theorem countsP.of_block {w w' : World} {b : Nat} {l : List Po} (h : countsP w b l) (hb : w'.heap[b]? = w.heap[b]?) : countsP w' b l := countsM.of_block h hb
theorem countsP.below {w w' : World} {b B : Nat} {l : List Po} (h : countsP w b l) (hb : Below B w w') (hB : b < B) : countsP w' b l := countsM.of_block h (hb.block b hB)
theorem countsP.perm {w : World} {b : Nat} {l l' : List Po} (h : countsP w b l) (hp : l.Perm l') : countsP w b l' := countsM.perm h hp
theorem countsP.ok {w : World} {b : Nat} {l : List Po} (h : countsP w b l) : ∀ p ∈ l, p.ok := h.1
theorem rangesP.counts {w : World} {b r : Nat} {l : List Po} {left : Lit → Bool} (h : rangesP w b r l left) : countsP w b l := rangesM.counts h
theorem rangesP.of_blocks {w w' : World} {b r : Nat} {l : List Po} {left : Lit → Bool} (h : rangesP w b r l left) (hb : w'.heap[b]? = w.heap[b]?) (hr : w'.heap[r]? = w.heap[r]?) : rangesP w' b r l left := rangesM.of_blocks h hb hr
theorem rangesP.lt {w : World} {b r : Nat} {l : List Po} {left : Lit → Bool} (h : rangesP w b r l left) : r < w.heap.size := rangesM.lt h
theorem rangesP.ne {w : World} {b r : Nat} {l : List Po} {left : Lit → Bool} (h : rangesP w b r l left) : r ≠ b := rangesM.ne h
theorem litP_same {p q : Po} (hp : p.ok) (hq : q.ok) : (litP p).sameKey (litP q) = decide (p = q) := by
  by_cases h : p = q
  · subst h
    rw [WideAt.sameKey_self (by exact trivial)]
    simp
  · rw [decide_eq_false h]
    exact Maps.sameKey_ne (fun e1 => h (KeyMk.lit_inj (M := poKey posT posKT posD) posLaw hp hq e1))
theorem gone_stepP {left : Lit → Bool} {l : List Po} {p : Po} (hl : left (litP p) = true) (hok : ∀ q ∈ l, q.ok) (hp : p.ok) : (gone (fun z => left z && !z.sameKey (litP p)) litP l).Perm (gone left litP l ++ List.replicate (l.count p) p) :=
  gone_step hl (fun c hc => litP_same (hok c hc) hp)
section
variable (w : World) {ops : Array Oper} {rest : List Oper} {o : Oper} {a : Act} {Q : Exit → Act → World → Prop}
theorem wpList_next_P (hg : o.guard = none) (it : Operand) (hop : o.op = Op.next it false) (b r : Nat) (l : List Po) (left : Lit → Bool) (hit : a.eval it = .pointer (some ⟨r, 0, none⟩)) (h : rangesP w b r l left)
    (hDone : (∀ kl, left kl = false) → wpList Tryz.prog ops Q rest (a.put o.dst (.tuple #[.bool false])) w)
    (hMore : ∀ (p : Po) (w' : World), p ∈ l → left (litP p) = true → rangesP w' b r l (fun z => left z && !z.sameKey (litP p)) → w'.rangeLeft b r < w.rangeLeft b r → w.grownBy w' (some r) → w'.heap.size = w.heap.size →
      (Instr.entry (.pointer (some ⟨r, 0, none⟩))).run Tryz.prog w' = .ok (.tuple #[.agg #[.int .i64 p.W, .int .i64 p.H, .string p.C, .int .i64 p.T, .string p.A, .string p.B], .int .i64 (l.count p : Nat)]) w' → wpList Tryz.prog ops Q rest (a.put o.dst (.tuple #[.bool true, .agg #[.int .i64 p.W, .int .i64 p.H, .string p.C, .int .i64 p.T, .string p.A, .string p.B], .int .i64 (l.count p : Nat)])) w') :
    wpList Tryz.prog ops Q (o :: rest) a w :=
  wpList_next_M w hg it hop 24 3 (poKey posT posKT posD) posLaw Tryz.underlying3 b r l left hit h hDone hMore
end
end Go.Proofs.YtlogengkhlmcbaaGreatDoor

namespace Go.Proofs.YtlogengkhlmcbaaGreatDoor
open Go.Maps (Keyed)
open Go.WideMaps (KeyLaw)
open Go.WideElems (Fit)
open Go.ChangeMaps (setBlock heap_setBlock_same heap_setBlock_other)
open Go.MapKept (stamped_iff)
open Go.RowKit

/-- How a finding reads. -/
def fndR (v : Value) : Option (DataW Unit × List MemPlace) :=
  match v with
  | .agg cs =>
    match cs.toList with
    | [.int k n, .bool s] => if k = .i64 then some (.lit (.int .i64 (2 * n + if s then 1 else 0)), []) else none
    | _ => none
  | _ => none
theorem fndR_of (n : Int) (s : Bool) : fndR (.agg #[.int .i64 n, .bool s]) = some (.lit (.int .i64 (2 * n + if s then 1 else 0)), []) := rfl
theorem fndR_inv {v : Value} {d : DataW Unit} {ps : List MemPlace} (h : fndR v = some (d, ps)) : ∃ n s, v = .agg #[.int .i64 n, .bool s] ∧ d = .lit (.int .i64 (2 * n + if s then 1 else 0)) := by
  unfold fndR at h
  split at h
  · rename_i cs
    split at h
    · rename_i k n s hcs
      split at h
      · rename_i hk
        subst hk
        simp only [Option.some.injEq, Prod.mk.injEq] at h
        refine ⟨n, s, ?_, h.1.symm⟩
        have : cs = #[.int .i64 n, .bool s] := Array.ext' hcs
        rw [this]
      · exact absurd h (by simp)
    · exact absurd h (by simp)
  · exact absurd h (by simp)
theorem fndMap : Tryz.prog.underlying 60 = some (.map 24 64) := Tryz.underlying60
theorem fndZ (w : World) : (zeroValue 64).run Tryz.prog w = .ok (.agg #[.int .i64 0, .bool false]) w := by kernel_rfl
/-- The map in block b has N entries at most; what it tells of each position (of one that it lacks: nothing) is so. -/
def knows (w : World) (b N : Nat) (F : Po → Nat → Bool → Prop) : Prop :=
  ∃ D : DataW Unit, w.ownsMap Tryz.prog 24 fndR b N D ∧ ∀ p : Po, p.ok → ∃ (n : Nat) (s : Bool), D.atKey (litP p) (.lit (.int .i64 0)) = .lit (.int .i64 (2 * (n : Int) + if s then 1 else 0)) ∧ F p n s
variable {w w' : World} {b N : Nat} {F : Po → Nat → Bool → Prop}
theorem knows.lt (h : knows w b N F) : b < w.heap.size := by
  obtain ⟨D, hown, _⟩ := h
  exact hown.lt
theorem knows.of_block (h : knows w b N F) (hb : w'.heap[b]? = w.heap[b]?) : knows w' b N F := by
  obtain ⟨D, ⟨es, clock, h3, h4⟩, h2⟩ := h
  exact ⟨D, ⟨es, clock, hb.trans h3, h4⟩, h2⟩
theorem knows_made (w : World) (h0 : ∀ p : Po, p.ok → F p 0 false) : knows (w.alloc (.map #[] 0)) w.heap.size 0 F :=
  ⟨.map [], World.ownsMap_made w Tryz.prog 24 fndR, fun p hp => ⟨0, false, by simp [DataW.atKey], h0 p hp⟩⟩
/-- 'm[k]'. -/
theorem knows.look (h : knows w b N F) {p : Po} (hp : p.ok) : ∃ (n : Nat) (s : Bool), (Instr.lookup 60 (.map (some b)) p.val false).run Tryz.prog w = .ok (.agg #[.int .i64 (n : Int), .bool s]) w ∧ F p n s := by
  obtain ⟨D, hown, h2⟩ := h
  obtain ⟨n, s, hat, hF⟩ := h2 p hp
  obtain ⟨v, ps, hrun, hv⟩ := hown.lookup (Keyed.of_law posLaw) fndMap (fndZ w) (zd := .lit (.int .i64 0)) (zp := []) (fndR_of 0 false) ((poKey posT posKT posD).key p hp)
  have hat' : D.atKey ((poKey posT posKT posD).lit p) (.lit (.int .i64 0)) = .lit (.int .i64 (2 * (n : Int) + if s then 1 else 0)) := hat
  rw [hat'] at hv
  obtain ⟨n', s', rfl, hd⟩ := fndR_inv hv
  simp only [DataW.lit.injEq, Lit.int.injEq, true_and] at hd
  have : n' = (n : Int) ∧ s' = s := by
    cases s <;> cases s' <;> simp at hd ⊢ <;> omega
  rw [this.1, this.2] at hrun
  exact ⟨n, s, hrun, hF⟩
/-- 'm[k] = f'. -/
theorem knows.put (h : knows w b N F) (hN : N < maxLen) {p : Po} (hp : p.ok) {n : Nat} {s : Bool} (hF : F p n s) : ∃ w', (Instr.mapUpdate 60 (.map (some b)) p.val (.agg #[.int .i64 (n : Int), .bool s])).run Tryz.prog w = .ok () w' ∧ knows w' b (N + 1) F ∧ w.grownBy w' (some b) := by
  obtain ⟨D, hown, h2⟩ := h
  have hk := (poKey posT posKT posD).key p hp
  obtain ⟨w', hrun, ho, hg⟩ := hown.update (Keyed.of_law posLaw) fndMap hN hk (val := .agg #[.int .i64 (n : Int), .bool s]) (d := .lit (.int .i64 (2 * (n : Int) + if s then 1 else 0))) (ps := []) (fndR_of _ _)
  refine ⟨w', hrun, ⟨_, ho, fun q hq => ?_⟩, hg⟩
  have hkl := (Keyed.of_law posLaw).key hk
  by_cases hqp : q = p
  · subst hqp
    refine ⟨n, s, ?_, hF⟩
    exact Maps.atKey_put_same hown.isMap hkl _ _
  · obtain ⟨n', s', hat, hF'⟩ := h2 q hq
    refine ⟨n', s', ?_, hF'⟩
    rw [← hat]
    exact Maps.atKey_put_other (fun e1 => hqp (KeyMk.lit_inj (M := poKey posT posKT posD) posLaw hq hp e1)) _ _
/-- 'len(m)': and so many it has. -/
theorem knows.len (h : knows w b N F) : ∃ k : Nat, k ≤ N ∧ (∀ ty, (Builtin.len_ #[60] ty #[.map (some b)]).run Tryz.prog w = .ok (.int .i64 (k : Int)) w) ∧ knows w b k F := by
  obtain ⟨D, hown, h2⟩ := h
  refine ⟨Maps.size D, hown.size_le, fun ty => hown.len fndMap ty, D, ?_, h2⟩
  obtain ⟨es, clock, hb, Ft, hs, rfl⟩ := hown
  exact ⟨es, clock, hb, Ft, by simp [Maps.size, length_sorted], rfl⟩
/-- 'clear(m)'. -/
theorem knows.clear (h : knows w b N F) (h0 : ∀ p : Po, p.ok → F p 0 false) : ∃ w', (∀ ty, (Builtin.clear_ #[60] ty #[.map (some b)]).run Tryz.prog w = .ok (.tuple #[]) w') ∧ knows w' b 0 F ∧ w.grownBy w' (some b) := by
  obtain ⟨D, ⟨es, clock, hb, Ft, hs, rfl⟩, h2⟩ := h
  refine ⟨setBlock w b (.map #[] clock), fun ty => ?_, ⟨.map [], ⟨#[], clock, heap_setBlock_same hb _, ⟨by simp, ?_, by simp⟩, Nat.le_refl _, rfl⟩, fun p hp => ⟨0, false, by simp [DataW.atKey], h0 p hp⟩⟩, ⟨rfl, rfl, rfl, by simp [setBlock], fun i _ hi => heap_setBlock_other hb _ (fun e => hi (by rw [e]))⟩⟩
  · simp [Builtin.clear_, run_underlying fndMap, MapKept.run_getObj_map hb, MapKept.run_setObj_map _ hb, Result.andThen, setBlock]
  · simp [stamped_iff]
end Go.Proofs.YtlogengkhlmcbaaGreatDoor
