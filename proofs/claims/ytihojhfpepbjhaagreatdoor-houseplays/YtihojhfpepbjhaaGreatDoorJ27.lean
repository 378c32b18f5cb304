/-
  Maps that count: keys of one shape, elements that tell how often each stands in a list.
  Positions as keys of maps.
  Positions as keys: in this program.
-/
import Derived.Maps.RangeWalk
import Derived.Maps.OwnSet
import Derived.WideKeyEntry
import Derived.WalkKit
import Derived.DeepKeys4
import Derived.Test.YtihojhfpepbjhaaGreatDoorChecked
namespace Go.Proofs.YtihojhfpepbjhaaGreatDoor
open Go.Maps (Keyed)
open Go.WideMaps (KeyLaw)
open Go.ChangeMaps (modify_eq_set setBlock heap_setBlock_same heap_setBlock_other)
open Go.MapKept (stamped_iff)
open Go.RowKit

/-- Keys of one shape. -/
structure KeyMk (P : Program) (k : TypeId) (α : Type) where
  val : α → Value
  lit : α → Lit
  ok : α → Prop
  key : ∀ a, ok a → keyOf P k (val a) = some (lit a)
  inv : ∀ v l, keyOf P k v = some l → ∃ a, v = val a ∧ ok a
  inj : ∀ a b, val a = val b → a = b

section
variable {P : Program} {k e t : TypeId} {α : Type} [DecidableEq α] {M : KeyMk P k α} {w : World} {b r : Nat} {l : List α} {left : Lit → Bool}

omit [DecidableEq α] in
/-- The map in block b tells of each key how often it stands in l; and it has no others. -/
def Told (M : KeyMk P k α) (D : DataW Unit) (l : List α) : Prop :=
  (∀ a, M.ok a → D.atKey (M.lit a) (.lit (.int .i64 0)) = .lit (.int .i64 (l.count a : Nat))) ∧ ∀ kl, Maps.has D kl = true ↔ ∃ a ∈ l, M.lit a = kl
def countsM (w : World) (M : KeyMk P k α) (e : TypeId) (b : Nat) (l : List α) : Prop :=
  (∀ a ∈ l, M.ok a) ∧ ∃ D : DataW Unit, w.ownsMap P k (plainElem P e) b l.length D ∧ Told M D l
def rangesM (w : World) (M : KeyMk P k α) (e : TypeId) (b r : Nat) (l : List α) (left : Lit → Bool) : Prop :=
  (∀ a ∈ l, M.ok a) ∧ ∃ (D : DataW Unit) (cnt : Nat), w.ranges P k (plainElem P e) b r l.length D left cnt ∧ Told M D l

theorem countsM.lt (h : countsM w M e b l) : b < w.heap.size := by
  obtain ⟨_, D, hown, _⟩ := h
  exact hown.lt

theorem countsM.of_block {w' : World} (h : countsM w M e b l) (hb : w'.heap[b]? = w.heap[b]?) : countsM w' M e b l := by
  obtain ⟨h1, D, ⟨es, clock, h3, h4⟩, h2⟩ := h
  exact ⟨h1, D, ⟨es, clock, hb.trans h3, h4⟩, h2⟩

theorem countsM.block {w' : World} (h : countsM w M e b l) (hb : Below w.heap.size w w') : countsM w' M e b l := h.of_block (hb.block b h.lt)

/-- The range begins. -/
theorem countsM.range (K : KeyLaw P k) (ht : P.underlying t = some (.map k e)) (h : countsM w M e b l) :
    ∃ w', (Instr.range t (.map (some b))).run P w = .ok (.pointer (some ⟨w.heap.size, 0, none⟩)) w' ∧ (∃ left, rangesM w' M e b w.heap.size l left ∧ ∀ a ∈ l, left (M.lit a) = true) ∧ w.grownBy w' none ∧ w'.heap.size = w.heap.size + 1 := by
  obtain ⟨h1, D, hown, h2⟩ := h
  obtain ⟨w', hrun, hr, hg, hs⟩ := hown.range (Keyed.of_law K) ht
  exact ⟨w', hrun, ⟨_, ⟨h1, D, _, hr, h2⟩, fun a ha => (h2.2 _).2 ⟨a, ha, rfl⟩⟩, hg, hs⟩

theorem rangesM.lt (h : rangesM w M e b r l left) : r < w.heap.size := by
  obtain ⟨h1, D, cnt, hr, h2⟩ := h
  exact hr.lt
theorem rangesM.ne (h : rangesM w M e b r l left) : r ≠ b := by
  obtain ⟨h1, D, cnt, hr, h2⟩ := h
  exact hr.ne

end

section
variable {P : Program} {α : Type} [DecidableEq α] (w : World) {ops : Array Oper} {rest : List Oper} {o : Oper} {a : Act} {Q : Exit → Act → World → Prop}

end

/-! What has been gone through. -/
section
variable {α : Type} [DecidableEq α]
def gone (left : Lit → Bool) (lit : α → Lit) (l : List α) : List α := l.filter (fun a => !left (lit a))
omit [DecidableEq α] in
omit [DecidableEq α] in
end
end Go.Proofs.YtihojhfpepbjhaaGreatDoor

namespace Go.Proofs.YtihojhfpepbjhaaGreatDoor
open Go.RowKit

/-- A position, as a value. -/
structure Po where
  W : Int
  H : Int
  C : ByteArray
  T : Int
  A : ByteArray
  B : ByteArray
  deriving DecidableEq
def Po.cells (p : Po) : List Value := [.int .i64 p.W, .int .i64 p.H, .string p.C, .int .i64 p.T, .string p.A, .string p.B]
def Po.val (p : Po) : Value := .agg #[.int .i64 p.W, .int .i64 p.H, .string p.C, .int .i64 p.T, .string p.A, .string p.B]
def Po.lits (p : Po) : List Lit := [.int .i64 p.W, .int .i64 p.H, .string p.C.data.toList, .int .i64 p.T, .string p.A.data.toList, .string p.B.data.toList]
structure Po.ok (p : Po) : Prop where
  w : (Lit.int .i64 p.W).wf = true
  h : (Lit.int .i64 p.H).wf = true
  t : (Lit.int .i64 p.T).wf = true
  c : p.C.size ≤ maxLen
  a : p.A.size ≤ maxLen
  b : p.B.size ≤ maxLen
theorem Po.val_inj (p q : Po) (h : p.val = q.val) : p = q := by
  unfold Po.val at h
  simp only [Value.agg.injEq, Array.mk.injEq, List.cons.injEq, Value.int.injEq, Value.string.injEq, true_and, and_true] at h
  cases p; cases q
  simp_all

theorem keyLits_i64 {P : Program} {t : TypeId} (ht : P.underlying t = some (.int .i64)) (d : Nat) {c : Value} {L : List Lit} (h : P.keyLits (d + 1) t [c] = some L) : ∃ n, c = .int .i64 n ∧ (Lit.int .i64 n).wf = true ∧ L = [.int .i64 n] := by
  unfold Program.keyLits at h
  rw [ht] at h
  cases c <;> simp at h
  obtain ⟨⟨rfl, h1⟩, rfl⟩ := h
  exact ⟨_, rfl, h1, rfl⟩
theorem keyLits_i64_mk {P : Program} {t : TypeId} (ht : P.underlying t = some (.int .i64)) (d : Nat) {n : Int} (hn : (Lit.int .i64 n).wf = true) : P.keyLits (d + 1) t [.int .i64 n] = some [.int .i64 n] := by
  unfold Program.keyLits
  simp [ht, hn]
theorem keyLits_str {P : Program} {t : TypeId} (ht : P.underlying t = some .string) (d : Nat) {c : Value} {L : List Lit} (h : P.keyLits (d + 1) t [c] = some L) : ∃ s, c = .string s ∧ s.size ≤ maxLen ∧ L = [.string s.data.toList] := by
  unfold Program.keyLits at h
  rw [ht] at h
  cases c <;> simp at h
  exact ⟨_, rfl, h.1, h.2.symm⟩
theorem keyLits_str_mk {P : Program} {t : TypeId} (ht : P.underlying t = some .string) (d : Nat) {s : ByteArray} (hs : s.size ≤ maxLen) : P.keyLits (d + 1) t [.string s] = some [.string s.data.toList] := by
  unfold Program.keyLits
  simp [ht, hs]
theorem keyLits_two {P : Program} {t e : TypeId} (ht : P.underlying t = some (.array 2 e)) (ct : P.cellsOf t = 2) (ce : P.cellsOf e = 1) (d : Nat) {a b : Value} : P.keyLits (d + 2) t [a, b] = ((P.keyLits (d + 1) e [a]).bind fun x => (P.keyLits (d + 1) e [b]).map fun y => x ++ y) := by
  conv => lhs; unfold Program.keyLits
  rw [ht]
  simp only [ct, ce]
  simp [List.range_succ]
  cases P.keyLits (d + 1) e [a] <;> simp
  cases P.keyLits (d + 1) e [b] <;> simp

/-- What the key's type is. -/
structure PoType (P : Program) (tp ti ts ta : TypeId) (f0 f1 f2 f3 f4 : Field) : Prop where
  hp : P.underlying tp = some (.struct #[f0, f1, f2, f3, f4])
  n : (#[f0, f1, f2, f3, f4] : Array Field).all (·.name != "_") = true
  t0 : f0.type = ti ∧ f0.offset = 0
  t1 : f1.type = ti ∧ f1.offset = 1
  t2 : f2.type = ts ∧ f2.offset = 2
  t3 : f3.type = ti ∧ f3.offset = 3
  t4 : f4.type = ta ∧ f4.offset = 4
  hi : P.underlying ti = some (.int .i64)
  hs : P.underlying ts = some .string
  ha : P.underlying ta = some (.array 2 ts)
  cp : P.cellsOf tp = 6
  ci : P.cellsOf ti = 1
  cs : P.cellsOf ts = 1
  ca : P.cellsOf ta = 2

theorem keyLits_po {P : Program} {tp ti ts ta : TypeId} {f0 f1 f2 f3 f4 : Field} (h : PoType P tp ti ts ta f0 f1 f2 f3 f4) (d : Nat) (c0 c1 c2 c3 c4 c5 : Value) : P.keyLits (d + 3) tp [c0, c1, c2, c3, c4, c5] =
    ((P.keyLits (d + 2) ti [c0]).bind fun x0 => (P.keyLits (d + 2) ti [c1]).bind fun x1 => (P.keyLits (d + 2) ts [c2]).bind fun x2 => (P.keyLits (d + 2) ti [c3]).bind fun x3 => (P.keyLits (d + 2) ta [c4, c5]).map fun x4 => x0 ++ (x1 ++ (x2 ++ (x3 ++ x4)))) := by
  conv => lhs; unfold Program.keyLits
  rw [h.hp]
  simp only [h.cp]
  rw [if_pos ⟨rfl, h.n⟩]
  simp only [List.mapM_cons, List.mapM_nil, h.t0, h.t1, h.t2, h.t3, h.t4, h.ci, h.cs, h.ca, List.drop_zero, List.drop_succ_cons, List.take_succ_cons, List.take_zero]
  cases P.keyLits (d + 2) ti [c0] <;> simp
  cases P.keyLits (d + 2) ti [c1] <;> simp
  cases P.keyLits (d + 2) ts [c2] <;> simp
  cases P.keyLits (d + 2) ti [c3] <;> simp
  cases P.keyLits (d + 2) ta [c4, c5] <;> simp

theorem po_mk {P : Program} {tp ti ts ta : TypeId} {f0 f1 f2 f3 f4 : Field} (h : PoType P tp ti ts ta f0 f1 f2 f3 f4) (hk : P.keyType tp = true) (d : Nat) (hd : P.types.size = d + 2) (p : Po) (hok : p.ok) : keyOf P tp p.val = some (.string (keyBytes p.lits)) := by
  unfold keyOf
  rw [h.hp]
  have hf : p.val.formed P tp = true := by
    unfold Po.val Value.formed
    rw [h.hp]
    simp [h.cp]
  have e1 : P.keyLits (P.types.size + 1) tp p.val.cells.toList = some p.lits := by
    rw [hd]
    show P.keyLits (d + 3) tp [.int .i64 p.W, .int .i64 p.H, .string p.C, .int .i64 p.T, .string p.A, .string p.B] = _
    rw [keyLits_po h, keyLits_i64_mk h.hi _ hok.w, keyLits_i64_mk h.hi _ hok.h, keyLits_str_mk h.hs _ hok.c, keyLits_i64_mk h.hi _ hok.t, keyLits_two h.ha h.ca h.cs, keyLits_str_mk h.hs _ hok.a, keyLits_str_mk h.hs _ hok.b]
    rfl
  simp only [hk, hf, Bool.and_self, if_true, e1, Option.map_some]

theorem po_inv {P : Program} {tp ti ts ta : TypeId} {f0 f1 f2 f3 f4 : Field} (h : PoType P tp ti ts ta f0 f1 f2 f3 f4) (d : Nat) (hd : P.types.size = d + 2) (v : Value) (l : Lit) (hv : keyOf P tp v = some l) : ∃ p : Po, v = p.val ∧ p.ok := by
  obtain ⟨xs, L, rfl, hL, _⟩ := keyOf_top (by rw [h.hp]) hv
  have hsz : xs.toList.length = 6 := by
    rw [hd] at hL
    unfold Program.keyLits at hL
    rw [h.hp] at hL
    simp only [h.cp] at hL
    split at hL
    · rename_i h1; exact h1.1
    · cases hL
  rw [hd] at hL
  obtain ⟨xs⟩ := xs
  simp only at hsz hL
  match xs, hsz with
  | [c0, c1, c2, c3, c4, c5], _ =>
    rw [keyLits_po h] at hL
    simp only [Option.bind_eq_some_iff, Option.map_eq_some_iff] at hL
    obtain ⟨x0, h0, x1, h1, x2, h2, x3, h3, x4, h4, _⟩ := hL
    obtain ⟨n0, rfl, w0, _⟩ := keyLits_i64 h.hi _ h0
    obtain ⟨n1, rfl, w1, _⟩ := keyLits_i64 h.hi _ h1
    obtain ⟨s2, rfl, w2, _⟩ := keyLits_str h.hs _ h2
    obtain ⟨n3, rfl, w3, _⟩ := keyLits_i64 h.hi _ h3
    rw [keyLits_two h.ha h.ca h.cs] at h4
    simp only [Option.bind_eq_some_iff, Option.map_eq_some_iff] at h4
    obtain ⟨x5, h5, x6, h6, _⟩ := h4
    obtain ⟨s4, rfl, w4, _⟩ := keyLits_str h.hs _ h5
    obtain ⟨s5, rfl, w5, _⟩ := keyLits_str h.hs _ h6
    exact ⟨⟨n0, n1, s2, n3, s4, s5⟩, rfl, ⟨w0, w1, w3, w2, w4, w5⟩⟩

def poKey {P : Program} {tp ti ts ta : TypeId} (h : ∃ f0 f1 f2 f3 f4, PoType P tp ti ts ta f0 f1 f2 f3 f4) (hk : P.keyType tp = true) (hd : ∃ d, P.types.size = d + 2) : KeyMk P tp Po where
  val := Po.val
  lit p := .string (keyBytes p.lits)
  ok := Po.ok
  key := fun p hp => by
    obtain ⟨_, _, _, _, _, h⟩ := h
    obtain ⟨d, hd⟩ := hd
    exact po_mk h hk d hd p hp
  inv := fun v l hv => by
    obtain ⟨_, _, _, _, _, h⟩ := h
    obtain ⟨d, hd⟩ := hd
    exact po_inv h d hd v l hv
  inj := Po.val_inj
end Go.Proofs.YtihojhfpepbjhaaGreatDoor

namespace Go.Proofs.YtihojhfpepbjhaaGreatDoor
open Go.RowKit
open Go.WideMaps (KeyLaw)

theorem posT : ∃ f0 f1 f2 f3 f4, PoType Tryz.prog 24 3 9 22 f0 f1 f2 f3 f4 :=
  ⟨_, _, _, _, _, Tryz.underlying24, by kernel_rfl, ⟨rfl, rfl⟩, ⟨rfl, rfl⟩, ⟨rfl, rfl⟩, ⟨rfl, rfl⟩, ⟨rfl, rfl⟩, Tryz.underlying3, Tryz.underlying9, Tryz.underlying22, by kernel_rfl, by kernel_rfl, by kernel_rfl, by kernel_rfl⟩
theorem posRow0 : Nat.ble (24 + 1 + 2) Tryz.prog.types.size = true := by kernel_rfl
theorem posD : ∃ d, Tryz.prog.types.size = d + 2 := by
  have := Nat.le_of_ble_eq_true posRow0
  exact ⟨Tryz.prog.types.size - 2, by omega⟩
theorem posKT : Tryz.prog.keyType 24 = true := by kernel_rfl
/-- The map in block b tells how often each position stands in l. -/
def countsP (w : World) (b : Nat) (l : List Po) : Prop := countsM w (poKey posT posKT posD) 3 b l
def rangesP (w : World) (b r : Nat) (l : List Po) (left : Lit → Bool) : Prop := rangesM w (poKey posT posKT posD) 3 b r l left
theorem countsP.lt {w : World} {b : Nat} {l : List Po} (h : countsP w b l) : b < w.heap.size := countsM.lt h
theorem countsP.of_block {w w' : World} {b : Nat} {l : List Po} (h : countsP w b l) (hb : w'.heap[b]? = w.heap[b]?) : countsP w' b l := countsM.of_block h hb
theorem countsP.below {w w' : World} {b B : Nat} {l : List Po} (h : countsP w b l) (hb : Below B w w') (hB : b < B) : countsP w' b l := countsM.of_block h (hb.block b hB)
theorem countsP.ok {w : World} {b : Nat} {l : List Po} (h : countsP w b l) : ∀ p ∈ l, p.ok := h.1
theorem rangesP.lt {w : World} {b r : Nat} {l : List Po} {left : Lit → Bool} (h : rangesP w b r l left) : r < w.heap.size := rangesM.lt h
theorem rangesP.ne {w : World} {b r : Nat} {l : List Po} {left : Lit → Bool} (h : rangesP w b r l left) : r ≠ b := rangesM.ne h
section
variable (w : World) {ops : Array Oper} {rest : List Oper} {o : Oper} {a : Act} {Q : Exit → Act → World → Prop}
end
end Go.Proofs.YtihojhfpepbjhaaGreatDoor
