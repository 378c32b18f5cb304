/-
  Positions as keys of maps.
  Positions as keys: in this program.
  slices.Sort of at most twelve bytes, walked.
-/
import Derived.Test.YtbglppcbgfkhmabGreatDoorJ20
import Derived.DeepKeys4
import Derived.Test.YtbglppcbgfkhmabGreatDoorChecked
import Derived.Test.YtbglppcbgfkhmabGreatDoorJ5
import Derived.Test.YtbglppcbgfkhmabGreatDoorJ10
import Derived.BigQuiet
namespace Go.Proofs.YtbglppcbgfkhmabGreatDoor
open Go.RowKit

/-- A position, as a value. -/
structure Po where
  W : Int
  H : Int
  C : ByteArray
  T : Int
  A : ByteArray
  B : ByteArray
  deriving DecidableEq
def Po.cells (p : Po) : List Value := [.int .i64 p.W, .int .i64 p.H, .string p.C, .int .i64 p.T, .string p.A, .string p.B]
def Po.val (p : Po) : Value := .agg #[.int .i64 p.W, .int .i64 p.H, .string p.C, .int .i64 p.T, .string p.A, .string p.B]
def Po.lits (p : Po) : List Lit := [.int .i64 p.W, .int .i64 p.H, .string p.C.data.toList, .int .i64 p.T, .string p.A.data.toList, .string p.B.data.toList]
structure Po.ok (p : Po) : Prop where
  w : (Lit.int .i64 p.W).wf = true
  h : (Lit.int .i64 p.H).wf = true
  t : (Lit.int .i64 p.T).wf = true
  c : p.C.size ≤ maxLen
  a : p.A.size ≤ maxLen
  b : p.B.size ≤ maxLen
theorem Po.val_inj (p q : Po) (h : p.val = q.val) : p = q := by
  unfold Po.val at h
  simp only [Value.agg.injEq, Array.mk.injEq, List.cons.injEq, Value.int.injEq, Value.string.injEq, true_and, and_true] at h
  cases p; cases q
  simp_all

theorem keyLits_i64 {P : Program} {t : TypeId} (ht : P.underlying t = some (.int .i64)) (d : Nat) {c : Value} {L : List Lit} (h : P.keyLits (d + 1) t [c] = some L) : ∃ n, c = .int .i64 n ∧ (Lit.int .i64 n).wf = true ∧ L = [.int .i64 n] := by
  unfold Program.keyLits at h
  rw [ht] at h
  cases c <;> simp at h
  obtain ⟨⟨rfl, h1⟩, rfl⟩ := h
  exact ⟨_, rfl, h1, rfl⟩
theorem keyLits_i64_mk {P : Program} {t : TypeId} (ht : P.underlying t = some (.int .i64)) (d : Nat) {n : Int} (hn : (Lit.int .i64 n).wf = true) : P.keyLits (d + 1) t [.int .i64 n] = some [.int .i64 n] := by
  unfold Program.keyLits
  simp [ht, hn]
theorem keyLits_str {P : Program} {t : TypeId} (ht : P.underlying t = some .string) (d : Nat) {c : Value} {L : List Lit} (h : P.keyLits (d + 1) t [c] = some L) : ∃ s, c = .string s ∧ s.size ≤ maxLen ∧ L = [.string s.data.toList] := by
  unfold Program.keyLits at h
  rw [ht] at h
  cases c <;> simp at h
  exact ⟨_, rfl, h.1, h.2.symm⟩
theorem keyLits_str_mk {P : Program} {t : TypeId} (ht : P.underlying t = some .string) (d : Nat) {s : ByteArray} (hs : s.size ≤ maxLen) : P.keyLits (d + 1) t [.string s] = some [.string s.data.toList] := by
  unfold Program.keyLits
  simp [ht, hs]
theorem keyLits_two {P : Program} {t e : TypeId} (ht : P.underlying t = some (.array 2 e)) (ct : P.cellsOf t = 2) (ce : P.cellsOf e = 1) (d : Nat) {a b : Value} : P.keyLits (d + 2) t [a, b] = ((P.keyLits (d + 1) e [a]).bind fun x => (P.keyLits (d + 1) e [b]).map fun y => x ++ y) := by
  conv => lhs; unfold Program.keyLits
  rw [ht]
  simp only [ct, ce]
  simp [List.range_succ]
  cases P.keyLits (d + 1) e [a] <;> simp
  cases P.keyLits (d + 1) e [b] <;> simp

/-- What the key's type is. -/
structure PoType (P : Program) (tp ti ts ta : TypeId) (f0 f1 f2 f3 f4 : Field) : Prop where
  hp : P.underlying tp = some (.struct #[f0, f1, f2, f3, f4])
  n : (#[f0, f1, f2, f3, f4] : Array Field).all (·.name != "_") = true
  t0 : f0.type = ti ∧ f0.offset = 0
  t1 : f1.type = ti ∧ f1.offset = 1
  t2 : f2.type = ts ∧ f2.offset = 2
  t3 : f3.type = ti ∧ f3.offset = 3
  t4 : f4.type = ta ∧ f4.offset = 4
  hi : P.underlying ti = some (.int .i64)
  hs : P.underlying ts = some .string
  ha : P.underlying ta = some (.array 2 ts)
  cp : P.cellsOf tp = 6
  ci : P.cellsOf ti = 1
  cs : P.cellsOf ts = 1
  ca : P.cellsOf ta = 2

theorem keyLits_po {P : Program} {tp ti ts ta : TypeId} {f0 f1 f2 f3 f4 : Field} (h : PoType P tp ti ts ta f0 f1 f2 f3 f4) (d : Nat) (c0 c1 c2 c3 c4 c5 : Value) : P.keyLits (d + 3) tp [c0, c1, c2, c3, c4, c5] =
    ((P.keyLits (d + 2) ti [c0]).bind fun x0 => (P.keyLits (d + 2) ti [c1]).bind fun x1 => (P.keyLits (d + 2) ts [c2]).bind fun x2 => (P.keyLits (d + 2) ti [c3]).bind fun x3 => (P.keyLits (d + 2) ta [c4, c5]).map fun x4 => x0 ++ (x1 ++ (x2 ++ (x3 ++ x4)))) := by
  conv => lhs; unfold Program.keyLits
  rw [h.hp]
  simp only [h.cp]
  rw [if_pos ⟨rfl, h.n⟩]
  simp only [List.mapM_cons, List.mapM_nil, h.t0, h.t1, h.t2, h.t3, h.t4, h.ci, h.cs, h.ca, List.drop_zero, List.drop_succ_cons, List.take_succ_cons, List.take_zero]
  cases P.keyLits (d + 2) ti [c0] <;> simp
  cases P.keyLits (d + 2) ti [c1] <;> simp
  cases P.keyLits (d + 2) ts [c2] <;> simp
  cases P.keyLits (d + 2) ti [c3] <;> simp
  cases P.keyLits (d + 2) ta [c4, c5] <;> simp

theorem po_mk {P : Program} {tp ti ts ta : TypeId} {f0 f1 f2 f3 f4 : Field} (h : PoType P tp ti ts ta f0 f1 f2 f3 f4) (hk : P.keyType tp = true) (d : Nat) (hd : P.types.size = d + 2) (p : Po) (hok : p.ok) : keyOf P tp p.val = some (.string (keyBytes p.lits)) := by
  unfold keyOf
  rw [h.hp]
  have hf : p.val.formed P tp = true := by
    unfold Po.val Value.formed
    rw [h.hp]
    simp [h.cp]
  have e1 : P.keyLits (P.types.size + 1) tp p.val.cells.toList = some p.lits := by
    rw [hd]
    show P.keyLits (d + 3) tp [.int .i64 p.W, .int .i64 p.H, .string p.C, .int .i64 p.T, .string p.A, .string p.B] = _
    rw [keyLits_po h, keyLits_i64_mk h.hi _ hok.w, keyLits_i64_mk h.hi _ hok.h, keyLits_str_mk h.hs _ hok.c, keyLits_i64_mk h.hi _ hok.t, keyLits_two h.ha h.ca h.cs, keyLits_str_mk h.hs _ hok.a, keyLits_str_mk h.hs _ hok.b]
    rfl
  simp only [hk, hf, Bool.and_self, if_true, e1, Option.map_some]

theorem po_inv {P : Program} {tp ti ts ta : TypeId} {f0 f1 f2 f3 f4 : Field} (h : PoType P tp ti ts ta f0 f1 f2 f3 f4) (d : Nat) (hd : P.types.size = d + 2) (v : Value) (l : Lit) (hv : keyOf P tp v = some l) : ∃ p : Po, v = p.val ∧ p.ok := by
  obtain ⟨xs, L, rfl, hL, _⟩ := keyOf_top (by rw [h.hp]) hv
  have hsz : xs.toList.length = 6 := by
    rw [hd] at hL
    unfold Program.keyLits at hL
    rw [h.hp] at hL
    simp only [h.cp] at hL
    split at hL
    · rename_i h1; exact h1.1
    · cases hL
  rw [hd] at hL
  obtain ⟨xs⟩ := xs
  simp only at hsz hL
  match xs, hsz with
  | [c0, c1, c2, c3, c4, c5], _ =>
    rw [keyLits_po h] at hL
    simp only [Option.bind_eq_some_iff, Option.map_eq_some_iff] at hL
    obtain ⟨x0, h0, x1, h1, x2, h2, x3, h3, x4, h4, _⟩ := hL
    obtain ⟨n0, rfl, w0, _⟩ := keyLits_i64 h.hi _ h0
    obtain ⟨n1, rfl, w1, _⟩ := keyLits_i64 h.hi _ h1
    obtain ⟨s2, rfl, w2, _⟩ := keyLits_str h.hs _ h2
    obtain ⟨n3, rfl, w3, _⟩ := keyLits_i64 h.hi _ h3
    rw [keyLits_two h.ha h.ca h.cs] at h4
    simp only [Option.bind_eq_some_iff, Option.map_eq_some_iff] at h4
    obtain ⟨x5, h5, x6, h6, _⟩ := h4
    obtain ⟨s4, rfl, w4, _⟩ := keyLits_str h.hs _ h5
    obtain ⟨s5, rfl, w5, _⟩ := keyLits_str h.hs _ h6
    exact ⟨⟨n0, n1, s2, n3, s4, s5⟩, rfl, ⟨w0, w1, w3, w2, w4, w5⟩⟩

def poKey {P : Program} {tp ti ts ta : TypeId} (h : ∃ f0 f1 f2 f3 f4, PoType P tp ti ts ta f0 f1 f2 f3 f4) (hk : P.keyType tp = true) (hd : ∃ d, P.types.size = d + 2) : KeyMk P tp Po where
  val := Po.val
  lit p := .string (keyBytes p.lits)
  ok := Po.ok
  key := fun p hp => by
    obtain ⟨_, _, _, _, _, h⟩ := h
    obtain ⟨d, hd⟩ := hd
    exact po_mk h hk d hd p hp
  inv := fun v l hv => by
    obtain ⟨_, _, _, _, _, h⟩ := h
    obtain ⟨d, hd⟩ := hd
    exact po_inv h d hd v l hv
  inj := Po.val_inj
end Go.Proofs.YtbglppcbgfkhmabGreatDoor

namespace Go.Proofs.YtbglppcbgfkhmabGreatDoor
open Go.RowKit
open Go.WideMaps (KeyLaw)

theorem posT : ∃ f0 f1 f2 f3 f4, PoType Tryz.prog 24 3 9 22 f0 f1 f2 f3 f4 :=
  ⟨_, _, _, _, _, Tryz.underlying24, by kernel_rfl, ⟨rfl, rfl⟩, ⟨rfl, rfl⟩, ⟨rfl, rfl⟩, ⟨rfl, rfl⟩, ⟨rfl, rfl⟩, Tryz.underlying3, Tryz.underlying9, Tryz.underlying22, by kernel_rfl, by kernel_rfl, by kernel_rfl, by kernel_rfl⟩
theorem posRow0 : Nat.ble (24 + 1 + 2) Tryz.prog.types.size = true := by kernel_rfl
theorem posRow : 24 < Tryz.prog.types.size := by
  have := Nat.le_of_ble_eq_true posRow0
  omega
theorem posD : ∃ d, Tryz.prog.types.size = d + 2 := by
  have := Nat.le_of_ble_eq_true posRow0
  exact ⟨Tryz.prog.types.size - 2, by omega⟩
theorem posKT : Tryz.prog.keyType 24 = true := by kernel_rfl
theorem posKT5 : Tryz.prog.keyTypeAt 5 24 = true := by kernel_rfl
theorem posLO : laidOutB Tryz.prog = true := by kernel_rfl
theorem posLaw : KeyLaw Tryz.prog 24 :=
  deep_law_laid posLO (m := 5) (by decide) posRow posKT5 (by rw [Tryz.underlying24])
theorem posMap : Tryz.prog.underlying 70 = some (.map 24 3) := Tryz.underlying70
theorem posZ (w : World) : (zeroValue 3).run Tryz.prog w = .ok (.int .i64 0) w := by kernel_rfl
/-- The map in block b tells how often each position stands in l. -/
def countsP (w : World) (b : Nat) (l : List Po) : Prop := countsM w (poKey posT posKT posD) 3 b l
def rangesP (w : World) (b r : Nat) (l : List Po) (left : Lit → Bool) : Prop := rangesM w (poKey posT posKT posD) 3 b r l left
def litP (p : Po) : Lit := .string (keyBytes p.lits)
theorem countsP_made (w : World) : countsP (w.alloc (.map #[] 0)) w.heap.size [] := countsM_made w _ _
theorem countsP.lt {w : World} {b : Nat} {l : List Po} (h : countsP w b l) : b < w.heap.size := countsM.lt h
theorem countsP.of_block {w w' : World} {b : Nat} {l : List Po} (h : countsP w b l) (hb : w'.heap[b]? = w.heap[b]?) : countsP w' b l := countsM.of_block h hb
theorem countsP.below {w w' : World} {b B : Nat} {l : List Po} (h : countsP w b l) (hb : Below B w w') (hB : b < B) : countsP w' b l := countsM.of_block h (hb.block b hB)
theorem countsP.perm {w : World} {b : Nat} {l l' : List Po} (h : countsP w b l) (hp : l.Perm l') : countsP w b l' := countsM.perm h hp
theorem countsP.ok {w : World} {b : Nat} {l : List Po} (h : countsP w b l) : ∀ p ∈ l, p.ok := h.1
theorem countsP.insert {w : World} {b : Nat} {p : Po} (h : countsP w b []) (hp : p.ok) :
    ∃ w', (Instr.mapUpdate 70 (.map (some b)) p.val (.int .i64 1)).run Tryz.prog w = .ok () w' ∧ countsP w' b [p] ∧ w.grownBy w' (some b) := by
  have := countsM.insert (n := 1) posLaw posMap Tryz.underlying3 h (a := p) hp (by simp) (by omega) (by simp)
  exact this
theorem countsP.look {w : World} {b : Nat} {l : List Po} {p : Po} (h : countsP w b l) (hp : p.ok) : (Instr.lookup 70 (.map (some b)) p.val false).run Tryz.prog w = .ok (.int .i64 (l.count p : Nat)) w := countsM.look posLaw posMap Tryz.underlying3 posZ h hp
/-- The entry of p has been made. -/
def enteredP (w : World) (b : Nat) (l : List Po) (p : Po) (st : Nat) : Prop := enteredM w (poKey posT posKT posD) 3 70 b l p st
theorem countsP.entry {w : World} {b : Nat} {l : List Po} {p : Po} (h : countsP w b l) (hlen : l.length < 2 ^ 61) (hp : p.ok) :
    ∃ (st : Nat) (w1 : World), (Instr.mapEntry 70 (.map (some b)) p.val).run Tryz.prog w = .ok (.tuple #[.int .i64 (l.count p : Nat), goInt st]) w1 ∧ w.grownBy w1 (some b) ∧ w1.heap.size = w.heap.size ∧ enteredP w1 b l p st := countsM.entry posLaw posMap Tryz.underlying3 posZ h hlen hp
theorem enteredP.look {w : World} {b : Nat} {l : List Po} {p : Po} {st : Nat} (h : enteredP w b l p st) : (Instr.lookup 70 (.map (some b)) p.val false).run Tryz.prog w = .ok (.int .i64 (l.count p : Nat)) w := h.2.1
theorem enteredP.store {w : World} {b : Nat} {l : List Po} {p : Po} {st : Nat} (h : enteredP w b l p st) (n : Nat) (hn : 1 ≤ n) (hr : l.length + n < 2 ^ 62) :
    ∃ w3, (Instr.entryStore 70 (.map (some b)) (goInt st) (.int .i64 ((l.count p + n : Nat) : Int))).run Tryz.prog w = .ok () w3 ∧ countsP w3 b (l ++ List.replicate n p) ∧ w.grownBy w3 (some b) ∧ w3.heap.size = w.heap.size := h.2.2 n hn hr
theorem rangesP.counts {w : World} {b r : Nat} {l : List Po} {left : Lit → Bool} (h : rangesP w b r l left) : countsP w b l := rangesM.counts h
theorem rangesP.of_blocks {w w' : World} {b r : Nat} {l : List Po} {left : Lit → Bool} (h : rangesP w b r l left) (hb : w'.heap[b]? = w.heap[b]?) (hr : w'.heap[r]? = w.heap[r]?) : rangesP w' b r l left := rangesM.of_blocks h hb hr
theorem rangesP.lt {w : World} {b r : Nat} {l : List Po} {left : Lit → Bool} (h : rangesP w b r l left) : r < w.heap.size := rangesM.lt h
theorem rangesP.ne {w : World} {b r : Nat} {l : List Po} {left : Lit → Bool} (h : rangesP w b r l left) : r ≠ b := rangesM.ne h
theorem litP_same {p q : Po} (hp : p.ok) (hq : q.ok) : (litP p).sameKey (litP q) = decide (p = q) := by
  by_cases h : p = q
  · subst h
    rw [WideAt.sameKey_self (by exact trivial)]
    simp
  · rw [decide_eq_false h]
    exact Maps.sameKey_ne (fun e1 => h (KeyMk.lit_inj (M := poKey posT posKT posD) posLaw hp hq e1))
theorem gone_stepP {left : Lit → Bool} {l : List Po} {p : Po} (hl : left (litP p) = true) (hok : ∀ q ∈ l, q.ok) (hp : p.ok) : (gone (fun z => left z && !z.sameKey (litP p)) litP l).Perm (gone left litP l ++ List.replicate (l.count p) p) :=
  gone_step hl (fun c hc => litP_same (hok c hc) hp)
section
variable (w : World) {ops : Array Oper} {rest : List Oper} {o : Oper} {a : Act} {Q : Exit → Act → World → Prop}
theorem wpList_range_P (hg : o.guard = none) (m : Operand) (hop : o.op = Op.range 70 m) (b : Nat) (l : List Po) (hm : a.eval m = .map (some b)) (h : countsP w b l)
    (hK : ∀ w' left, rangesP w' b w.heap.size l left → (∀ c ∈ l, left (litP c) = true) → w.grownBy w' none → w'.heap.size = w.heap.size + 1 → wpList Tryz.prog ops Q rest (a.put o.dst (.pointer (some ⟨w.heap.size, 0, none⟩))) w') : wpList Tryz.prog ops Q (o :: rest) a w :=
  wpList_range_M w hg m 70 hop 24 3 (poKey posT posKT posD) posLaw posMap b l hm h hK
theorem wpList_next_P (hg : o.guard = none) (it : Operand) (hop : o.op = Op.next it false) (b r : Nat) (l : List Po) (left : Lit → Bool) (hit : a.eval it = .pointer (some ⟨r, 0, none⟩)) (h : rangesP w b r l left)
    (hDone : (∀ kl, left kl = false) → wpList Tryz.prog ops Q rest (a.put o.dst (.tuple #[.bool false])) w)
    (hMore : ∀ (p : Po) (w' : World), p ∈ l → left (litP p) = true → rangesP w' b r l (fun z => left z && !z.sameKey (litP p)) → w'.rangeLeft b r < w.rangeLeft b r → w.grownBy w' (some r) → w'.heap.size = w.heap.size →
      (Instr.entry (.pointer (some ⟨r, 0, none⟩))).run Tryz.prog w' = .ok (.tuple #[.agg #[.int .i64 p.W, .int .i64 p.H, .string p.C, .int .i64 p.T, .string p.A, .string p.B], .int .i64 (l.count p : Nat)]) w' → wpList Tryz.prog ops Q rest (a.put o.dst (.tuple #[.bool true, .agg #[.int .i64 p.W, .int .i64 p.H, .string p.C, .int .i64 p.T, .string p.A, .string p.B], .int .i64 (l.count p : Nat)])) w') :
    wpList Tryz.prog ops Q (o :: rest) a w :=
  wpList_next_M w hg it hop 24 3 (poKey posT posKT posD) posLaw Tryz.underlying3 b r l left hit h hDone hMore
end
end Go.Proofs.YtbglppcbgfkhmabGreatDoor

namespace Go.Proofs.YtbglppcbgfkhmabGreatDoor
open Go.RowKit
attribute [local go_sem ↓] Go.wp_at_zero Go.wp_at_succ

/-- A row of bytes that can be written. -/
def RowB (w : World) (g : Nat) (l : List UInt8) : Prop := ∃ (cur : Array Value) (fz : Nat × Nat), w.heap[g]? = some (.cells cur 5 fz) ∧ (fz = (0, 0) ∨ cur.size ≤ fz.1) ∧ cur.toList.take l.length = bvals l
theorem RowB.cell {w : World} {g : Nat} {l : List UInt8} (h : RowB w g l) (j : Nat) (hj : j < l.length) : w.cell? ⟨g, j, none⟩ = some (.int .u8 (l[j].toNat : Int)) := by
  obtain ⟨cur, m, h1, h2, h3⟩ := h
  rw [cell_of_row w g j cur _ _ h1]
  have : (cur.toList.take l.length)[j]? = (bvals l)[j]? := by rw [h3]
  rw [List.getElem?_take, if_pos hj] at this
  simpa [bvals, hj] using this
theorem RowB.frozen {w : World} {g : Nat} {l : List UInt8} (h : RowB w g l) (j : Nat) (hj : j < l.length) : w.frozen? ⟨g, j, none⟩ = false := by
  obtain ⟨cur, fz, h1, h2, h3⟩ := h
  have := RowM.le h3
  simp [World.frozen?, h1]
  rcases h2 with rfl | h2
  · simp
  · omega
theorem RowB.set {w : World} {g : Nat} {l : List UInt8} (h : RowB w g l) (j : Nat) (c : UInt8) : RowB (w.setCell ⟨g, j, none⟩ (.int .u8 (c.toNat : Int))) g (l.set j c) := by
  obtain ⟨cur, fz, h1, h2, h3⟩ := h
  refine ⟨cur.setIfInBounds j (.int .u8 (c.toNat : Int)), fz, ?_, by simpa using h2, ?_⟩
  · rw [setCell_eq_setRow w g j cur _ _ _ h1]
    exact setRow_heap w g cur _ _ _ h1
  · rw [Array.toList_setIfInBounds, List.length_set, List.take_set, h3]
    simp [bvals, List.map_set]
theorem RowB.conv {w : World} {g cap n : Nat} {l : List UInt8} (h : RowB w g l) (hn : Hid (l.length = n)) :
    (convert 69 9 (.slice (some ⟨g, 0, none⟩) n cap)).run Tryz.prog w = .ok (.string ⟨l.toArray⟩) w := by
  have hn' := unhide hn
  subst hn'
  refine run_convert_bytes_back w 69 9 5 ⟨g, 0, none⟩ cap l Tryz.underlying69 Tryz.underlying5 Tryz.underlying9 fun j hj => ?_
  have e : (⟨g, 0, none⟩ : Addr).add j = ⟨g, 0 + j, none⟩ := by unfold Addr.add; split <;> simp_all
  rw [Nat.zero_add] at e
  rw [e, h.cell j hj]
theorem RowB.drew {w : World} {g : Nat} {l : List UInt8} (q : Nat) (h : RowB w g l) : RowB (w.drewN q) g l := h
theorem RowB.lt {w : World} {g : Nat} {l : List UInt8} (h : RowB w g l) : g < w.heap.size := by
  obtain ⟨cur, m, h1, -⟩ := h
  exact (Array.getElem?_eq_some_iff.1 h1).1
theorem Bt.drew' {g : Nat} {w w' : World} (q : Nat) (h : Bt g w w') : Bt g w (w'.drewN q) := ⟨h.os, h.tape, h.output, h.size, h.block⟩

/-- Two bytes change places. -/
def swapB (l : List UInt8) (j : Nat) : List UInt8 := (l.set j l[j - 1]!).set (j - 1) l[j]!
/-- A byte goes down to its place. -/
def sinkB : Nat → List UInt8 → List UInt8
  | 0, l => l
  | j + 1, l => if l[j + 1]! < l[j]! then sinkB j (swapB l (j + 1)) else l
def isortB (l : List UInt8) (n : Nat) : List UInt8 := (List.range' 1 (n - 1)).foldl (fun l i => sinkB i l) l
theorem swapB_len (l : List UInt8) (j : Nat) : (swapB l j).length = l.length := by simp [swapB]
theorem sinkB_len : ∀ (j : Nat) (l : List UInt8), (sinkB j l).length = l.length
  | 0, _ => rfl
  | j + 1, l => by
    rw [sinkB]
    split
    · rw [sinkB_len j, swapB_len]
    · rfl

set_option maxHeartbeats 400000 in
theorem isNaN_any (x : Int) (w : World) :
    Calls Tryz.prog 153 #[.int .u8 x] w fun e w' => e = .returned (.bool false) ∧ w' = w := by
  go_enter Tryz.func153, Tryz.ntmps153
  go_wp2
  go_ret
  exact ⟨ret_bool (by simp), rfl⟩
set_option maxHeartbeats 1000000 in
theorem LessB_any (x y : Nat) (w : World) :
    Calls Tryz.prog 136 #[.int .u8 (x : Int), .int .u8 (y : Int)] w fun e w' => e = .returned (.bool (decide (x < y))) ∧ w' = w := by
  go_enter Tryz.func136, Tryz.ntmps136
  go_wp2_with fail
  refine (isNaN_any _ _).mono ?_
  rintro e w1 ⟨rfl, rfl⟩
  go_wp2
  go_ret
  exact ⟨ret_bool (by simp), rfl⟩

set_option maxHeartbeats 4000000 in
set_option maxRecDepth 100000 in
theorem insertB_any (g n cap : Nat) (d : List UInt8) (w : World) (hrow : RowB w g d) (hn : d.length = n) (h64 : n ≤ 64) :
    Calls Tryz.prog 130 #[.slice (some ⟨g, 0, none⟩) n cap, .int .i64 0, .int .i64 (n : Int)] w fun e w' => e = .returned (.tuple #[]) ∧ RowB w' g (isortB d n) ∧ Bt g w w' := by
  have HROW := hide hrow
  have HN := hide hn
  clear hrow hn
  go_enter Tryz.func130, Tryz.ntmps130
  go_wp2
  go_loopw [6] (fun iv wr => ∃ (i : Nat) (l : List UInt8), iv = .int .i64 (i : Int) ∧ 1 ≤ i ∧ (i ≤ n ∨ i = 1) ∧ RowB wr g l ∧ Bt g w wr ∧ Hid (l.length = n ∧ (List.range' 1 (i - 1)).foldl (fun l i => sinkB i l) d = l)) (fun iv _ => n - (intOf iv).toNat)
  case atStart => exact ⟨1, d, rfl, Nat.le_refl _, .inr rfl, unhide HROW, Bt.refl _ _, hide ⟨unhide HN, rfl⟩⟩
  case round =>
    obtain ⟨i, l, rfl, hi1, hin, hrow, hbt, HL⟩ := hrel
    clear HROW
    by_cases hlt : i < n
    · have hlti : (i : Int) < (n : Int) := by omega
      have HROW := hide hrow
      have HBT := hide hbt
      clear hrow hbt
      go_wp2
      go_loopw [7] (fun jv wr => ∃ (j : Nat) (l2 : List UInt8), jv = .int .i64 (j : Int) ∧ j ≤ i ∧ RowB wr g l2 ∧ Bt g w wr ∧ Hid (l2.length = n ∧ sinkB j l2 = sinkB i l)) (fun jv _ => (intOf jv).toNat)
      case atStart => exact ⟨i, l, rfl, Nat.le_refl _, unhide HROW, unhide HBT, hide ⟨(unhide HL).1, rfl⟩⟩
      case round =>
        obtain ⟨j, l2, rfl, hji, hrow, hbt, HL2⟩ := hrel
        clear HROW HBT
        obtain ⟨e1, e2⟩ := unhide HL2
        have HROW := hide hrow
        have HBT := hide hbt
        by_cases hj0 : j = 0
        · subst hj0
          have HSI : Hid ((List.range' 1 (i + 1 - 1)).foldl (fun l i => sinkB i l) d = l2) := by
            refine hide ?_
            rw [show i + 1 - 1 = (i - 1) + 1 by omega, List.range'_concat, List.foldl_append, (unhide HL).2]
            simp only [List.foldl_cons, List.foldl_nil]
            rw [show 1 + 1 * (i - 1) = i by omega, ← e2]
            rfl
          have HE1 := hide e1
          clear hrow hbt e1 e2
          go_wp2_with fail
          go_quiet (fail)
          have HROW2 := hide ((unhide HROW).drew nq)
          have HBT2 := hide ((unhide HBT).drew' nq)
          clear HROW HBT
          go_wp2
          go_roundw
          case rel => exact ⟨i + 1, l2, by go_num, by omega, .inl (by omega), unhide HROW2, unhide HBT2, hide ⟨unhide HE1, unhide HSI⟩⟩
          case measure => simp only [intOf]; omega
        · have hjp : (0 : Int) < (j : Int) := by omega
          obtain ⟨k, rfl⟩ : ∃ k, j = k + 1 := ⟨j - 1, by omega⟩
          have hkl : k + 1 < l2.length := by omega
          have c1 := hrow.cell (k + 1) hkl
          have c0 := hrow.cell k (by omega)
          have f1 := hrow.frozen (k + 1) hkl
          have f0 := hrow.frozen k (by omega)
          obtain ⟨x, hx⟩ : ∃ x, x = l2[k + 1] := ⟨_, rfl⟩
          obtain ⟨y, hy⟩ : ∃ y, y = l2[k] := ⟨_, rfl⟩
          rw [← hx] at c1
          rw [← hy] at c0
          have hx' : l2[k + 1]! = x := by rw [hx]; exact getElem!_pos l2 _ hkl
          have hy' : l2[k]! = y := by rw [hy]; exact getElem!_pos l2 _ (by omega)
          rw [sinkB, hx', hy'] at e2
          have HLS := hide (fun u => LessB_any x.toNat y.toNat u)
          have hsub : ((k + 1 : Nat) : Int) - 1 = (k : Int) := by omega
          have hki : (k : Int) < (n : Int) := by omega
          have hk1i : ((k + 1 : Nat) : Int) < (n : Int) := by omega
          by_cases hls : x < y
          · have hd : decide (x.toNat < y.toNat) = true := decide_eq_true hls
            rw [if_pos hls] at e2
            have hr1 := ((hrow.set (k + 1) y).set k x)
            have hb1 := (hbt.put (k + 1) (.int .u8 (y.toNat : Int))).put k (.int .u8 (x.toNat : Int))
            have hsw : swapB l2 (k + 1) = (l2.set (k + 1) y).set k x := by unfold swapB; rw [hx', show k + 1 - 1 = k by omega, hy']
            rw [hsw] at e2
            have HE := hide (show ((l2.set (k + 1) y).set k x).length = n ∧ sinkB k ((l2.set (k + 1) y).set k x) = sinkB i l from ⟨by simp [e1], e2⟩)
            rw [hd] at HLS
            have HR1 := hide hr1
            have HB1 := hide hb1
            clear hrow hbt e1 e2 hx hy hx' hy' hls hd hr1 hb1 hsw HROW HBT
            go_wp2_with fail
            go_quiet ((go_at_call 136; exact Calls.quiet_of_same (unhide HLS _)))
            go_wp2
            go_region
            go_wp2
            go_roundw
            case rel => exact ⟨k, (l2.set (k + 1) y).set k x, by go_num, by omega, unhide HR1, ⟨(unhide HB1).os, (unhide HB1).tape, (unhide HB1).output, (unhide HB1).size, (unhide HB1).block⟩, unhide HE⟩
            case measure => simp only [intOf]; omega
          · have hd : decide (x.toNat < y.toNat) = false := decide_eq_false hls
            rw [if_neg hls] at e2
            have HSI : Hid ((List.range' 1 (i + 1 - 1)).foldl (fun l i => sinkB i l) d = l2) := by
              refine hide ?_
              rw [show i + 1 - 1 = (i - 1) + 1 by omega, List.range'_concat, List.foldl_append, (unhide HL).2]
              simp only [List.foldl_cons, List.foldl_nil]
              rw [show 1 + 1 * (i - 1) = i by omega, ← e2]
            have HE1 := hide e1
            rw [hd] at HLS
            clear hrow hbt e1 e2 hx hy hx' hy' hls hd f0 f1
            go_wp2_with fail
            go_quiet ((go_at_call 136; exact Calls.quiet_of_same (unhide HLS _)))
            have HROW2 := hide ((unhide HROW).drew nq)
            have HBT2 := hide ((unhide HBT).drew' nq)
            clear HROW HBT
            go_wp2
            go_roundw
            case rel => exact ⟨i + 1, l2, by go_num, by omega, .inl (by omega), unhide HROW2, unhide HBT2, hide ⟨unhide HE1, unhide HSI⟩⟩
            case measure => simp only [intOf]; omega
    · have hlti : ¬ (i : Int) < (n : Int) := by omega
      have HROW := hide hrow
      have HBT := hide hbt
      have HIS : Hid (isortB d n = l) := by
        refine hide ?_
        have e := (unhide HL).2
        unfold isortB
        rcases hin with h | h
        · rw [show n = i by omega]; exact e
        · rw [show n - 1 = i - 1 by omega]; exact e
      clear hrow hbt
      go_wp2
      go_end0
      exact ⟨rfl, by rw [unhide HIS]; exact unhide HROW, unhide HBT⟩
end Go.Proofs.YtbglppcbgfkhmabGreatDoor
