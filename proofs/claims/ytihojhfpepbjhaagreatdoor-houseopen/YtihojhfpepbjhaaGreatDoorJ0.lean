/-
  Maps that count: keys of one shape, elements that tell how often each stands in a list.
  Positions as keys of maps.
  Positions as keys: in this program.
  The small functions of package board, walked: what each returns, for every argument; the world stands.
  board.areCells and board.isHand, walked: for every text, the answer is what the plain functions say; the world stands.
  strings.Clone and board.copied, walked: the same text, the same two texts; of what was there nothing has turned.
  board.copied, walked: the same two texts; of what was there nothing has turned.
  Plain mathematics of turned boards, no program: cells by number, where each comes from.
-/
import Derived.Maps.RangeWalk
import Derived.Maps.OwnSet
import Derived.WideKeyEntry
import Derived.WalkKit
import Derived.DeepKeys4
import Derived.Test.YtihojhfpepbjhaaGreatDoorChecked
import Derived.Test.YtihojhfpepbjhaaGreatDoorProg
import Derived.WalkSpells
import Derived.WalkLawsBesides
import Derived.Deep.QuietTactic
import Derived.BigQuiet
import Derived.Lib.BufferWrite
import Derived.Lib.UnsafeStr
import Derived.Lib.Strings
import Derived.Lib.Walk
import Derived.Laws.MakeOwn
import Derived.Deep.RegionHeld3
import Derived.Deep.DrawnRows
namespace Go.Proofs.YtihojhfpepbjhaaGreatDoor
open Go.Maps (Keyed)
open Go.WideMaps (KeyLaw)
open Go.ChangeMaps (modify_eq_set setBlock heap_setBlock_same heap_setBlock_other)
open Go.MapKept (stamped_iff)
open Go.RowKit

/-- Keys of one shape. -/
structure KeyMk (P : Program) (k : TypeId) (α : Type) where
  val : α → Value
  lit : α → Lit
  ok : α → Prop
  key : ∀ a, ok a → keyOf P k (val a) = some (lit a)
  inv : ∀ v l, keyOf P k v = some l → ∃ a, v = val a ∧ ok a
  inj : ∀ a b, val a = val b → a = b

section
variable {P : Program} {k e t : TypeId} {α : Type} [DecidableEq α] {M : KeyMk P k α} {w : World} {b r : Nat} {l : List α} {left : Lit → Bool}

omit [DecidableEq α] in
/-- The map in block b tells of each key how often it stands in l; and it has no others. -/
def Told (M : KeyMk P k α) (D : DataW Unit) (l : List α) : Prop :=
  (∀ a, M.ok a → D.atKey (M.lit a) (.lit (.int .i64 0)) = .lit (.int .i64 (l.count a : Nat))) ∧ ∀ kl, Maps.has D kl = true ↔ ∃ a ∈ l, M.lit a = kl
def countsM (w : World) (M : KeyMk P k α) (e : TypeId) (b : Nat) (l : List α) : Prop :=
  (∀ a ∈ l, M.ok a) ∧ ∃ D : DataW Unit, w.ownsMap P k (plainElem P e) b l.length D ∧ Told M D l
def rangesM (w : World) (M : KeyMk P k α) (e : TypeId) (b r : Nat) (l : List α) (left : Lit → Bool) : Prop :=
  (∀ a ∈ l, M.ok a) ∧ ∃ (D : DataW Unit) (cnt : Nat), w.ranges P k (plainElem P e) b r l.length D left cnt ∧ Told M D l

theorem countsM.lt (h : countsM w M e b l) : b < w.heap.size := by
  obtain ⟨_, D, hown, _⟩ := h
  exact hown.lt

theorem countsM.of_block {w' : World} (h : countsM w M e b l) (hb : w'.heap[b]? = w.heap[b]?) : countsM w' M e b l := by
  obtain ⟨h1, D, ⟨es, clock, h3, h4⟩, h2⟩ := h
  exact ⟨h1, D, ⟨es, clock, hb.trans h3, h4⟩, h2⟩

theorem countsM.block {w' : World} (h : countsM w M e b l) (hb : Below w.heap.size w w') : countsM w' M e b l := h.of_block (hb.block b h.lt)

/-- The range begins. -/
theorem countsM.range (K : KeyLaw P k) (ht : P.underlying t = some (.map k e)) (h : countsM w M e b l) :
    ∃ w', (Instr.range t (.map (some b))).run P w = .ok (.pointer (some ⟨w.heap.size, 0, none⟩)) w' ∧ (∃ left, rangesM w' M e b w.heap.size l left ∧ ∀ a ∈ l, left (M.lit a) = true) ∧ w.grownBy w' none ∧ w'.heap.size = w.heap.size + 1 := by
  obtain ⟨h1, D, hown, h2⟩ := h
  obtain ⟨w', hrun, hr, hg, hs⟩ := hown.range (Keyed.of_law K) ht
  exact ⟨w', hrun, ⟨_, ⟨h1, D, _, hr, h2⟩, fun a ha => (h2.2 _).2 ⟨a, ha, rfl⟩⟩, hg, hs⟩

theorem rangesM.lt (h : rangesM w M e b r l left) : r < w.heap.size := by
  obtain ⟨h1, D, cnt, hr, h2⟩ := h
  exact hr.lt
end

section
variable {P : Program} {α : Type} [DecidableEq α] (w : World) {ops : Array Oper} {rest : List Oper} {o : Oper} {a : Act} {Q : Exit → Act → World → Prop}

end

/-! What has been gone through. -/
section
variable {α : Type} [DecidableEq α]
def gone (left : Lit → Bool) (lit : α → Lit) (l : List α) : List α := l.filter (fun a => !left (lit a))
omit [DecidableEq α] in
omit [DecidableEq α] in
end
end Go.Proofs.YtihojhfpepbjhaaGreatDoor

namespace Go.Proofs.YtihojhfpepbjhaaGreatDoor
open Go.RowKit

/-- A position, as a value. -/
structure Po where
  W : Int
  H : Int
  C : ByteArray
  T : Int
  A : ByteArray
  B : ByteArray
  deriving DecidableEq
def Po.cells (p : Po) : List Value := [.int .i64 p.W, .int .i64 p.H, .string p.C, .int .i64 p.T, .string p.A, .string p.B]
def Po.val (p : Po) : Value := .agg #[.int .i64 p.W, .int .i64 p.H, .string p.C, .int .i64 p.T, .string p.A, .string p.B]
def Po.lits (p : Po) : List Lit := [.int .i64 p.W, .int .i64 p.H, .string p.C.data.toList, .int .i64 p.T, .string p.A.data.toList, .string p.B.data.toList]
structure Po.ok (p : Po) : Prop where
  w : (Lit.int .i64 p.W).wf = true
  h : (Lit.int .i64 p.H).wf = true
  t : (Lit.int .i64 p.T).wf = true
  c : p.C.size ≤ maxLen
  a : p.A.size ≤ maxLen
  b : p.B.size ≤ maxLen
theorem Po.val_inj (p q : Po) (h : p.val = q.val) : p = q := by
  unfold Po.val at h
  simp only [Value.agg.injEq, Array.mk.injEq, List.cons.injEq, Value.int.injEq, Value.string.injEq, true_and, and_true] at h
  cases p; cases q
  simp_all

theorem keyLits_i64 {P : Program} {t : TypeId} (ht : P.underlying t = some (.int .i64)) (d : Nat) {c : Value} {L : List Lit} (h : P.keyLits (d + 1) t [c] = some L) : ∃ n, c = .int .i64 n ∧ (Lit.int .i64 n).wf = true ∧ L = [.int .i64 n] := by
  unfold Program.keyLits at h
  rw [ht] at h
  cases c <;> simp at h
  obtain ⟨⟨rfl, h1⟩, rfl⟩ := h
  exact ⟨_, rfl, h1, rfl⟩
theorem keyLits_i64_mk {P : Program} {t : TypeId} (ht : P.underlying t = some (.int .i64)) (d : Nat) {n : Int} (hn : (Lit.int .i64 n).wf = true) : P.keyLits (d + 1) t [.int .i64 n] = some [.int .i64 n] := by
  unfold Program.keyLits
  simp [ht, hn]
theorem keyLits_str {P : Program} {t : TypeId} (ht : P.underlying t = some .string) (d : Nat) {c : Value} {L : List Lit} (h : P.keyLits (d + 1) t [c] = some L) : ∃ s, c = .string s ∧ s.size ≤ maxLen ∧ L = [.string s.data.toList] := by
  unfold Program.keyLits at h
  rw [ht] at h
  cases c <;> simp at h
  exact ⟨_, rfl, h.1, h.2.symm⟩
theorem keyLits_str_mk {P : Program} {t : TypeId} (ht : P.underlying t = some .string) (d : Nat) {s : ByteArray} (hs : s.size ≤ maxLen) : P.keyLits (d + 1) t [.string s] = some [.string s.data.toList] := by
  unfold Program.keyLits
  simp [ht, hs]
theorem keyLits_two {P : Program} {t e : TypeId} (ht : P.underlying t = some (.array 2 e)) (ct : P.cellsOf t = 2) (ce : P.cellsOf e = 1) (d : Nat) {a b : Value} : P.keyLits (d + 2) t [a, b] = ((P.keyLits (d + 1) e [a]).bind fun x => (P.keyLits (d + 1) e [b]).map fun y => x ++ y) := by
  conv => lhs; unfold Program.keyLits
  rw [ht]
  simp only [ct, ce]
  simp [List.range_succ]
  cases P.keyLits (d + 1) e [a] <;> simp
  cases P.keyLits (d + 1) e [b] <;> simp

/-- What the key's type is. -/
structure PoType (P : Program) (tp ti ts ta : TypeId) (f0 f1 f2 f3 f4 : Field) : Prop where
  hp : P.underlying tp = some (.struct #[f0, f1, f2, f3, f4])
  n : (#[f0, f1, f2, f3, f4] : Array Field).all (·.name != "_") = true
  t0 : f0.type = ti ∧ f0.offset = 0
  t1 : f1.type = ti ∧ f1.offset = 1
  t2 : f2.type = ts ∧ f2.offset = 2
  t3 : f3.type = ti ∧ f3.offset = 3
  t4 : f4.type = ta ∧ f4.offset = 4
  hi : P.underlying ti = some (.int .i64)
  hs : P.underlying ts = some .string
  ha : P.underlying ta = some (.array 2 ts)
  cp : P.cellsOf tp = 6
  ci : P.cellsOf ti = 1
  cs : P.cellsOf ts = 1
  ca : P.cellsOf ta = 2

theorem keyLits_po {P : Program} {tp ti ts ta : TypeId} {f0 f1 f2 f3 f4 : Field} (h : PoType P tp ti ts ta f0 f1 f2 f3 f4) (d : Nat) (c0 c1 c2 c3 c4 c5 : Value) : P.keyLits (d + 3) tp [c0, c1, c2, c3, c4, c5] =
    ((P.keyLits (d + 2) ti [c0]).bind fun x0 => (P.keyLits (d + 2) ti [c1]).bind fun x1 => (P.keyLits (d + 2) ts [c2]).bind fun x2 => (P.keyLits (d + 2) ti [c3]).bind fun x3 => (P.keyLits (d + 2) ta [c4, c5]).map fun x4 => x0 ++ (x1 ++ (x2 ++ (x3 ++ x4)))) := by
  conv => lhs; unfold Program.keyLits
  rw [h.hp]
  simp only [h.cp]
  rw [if_pos ⟨rfl, h.n⟩]
  simp only [List.mapM_cons, List.mapM_nil, h.t0, h.t1, h.t2, h.t3, h.t4, h.ci, h.cs, h.ca, List.drop_zero, List.drop_succ_cons, List.take_succ_cons, List.take_zero]
  cases P.keyLits (d + 2) ti [c0] <;> simp
  cases P.keyLits (d + 2) ti [c1] <;> simp
  cases P.keyLits (d + 2) ts [c2] <;> simp
  cases P.keyLits (d + 2) ti [c3] <;> simp
  cases P.keyLits (d + 2) ta [c4, c5] <;> simp

theorem po_mk {P : Program} {tp ti ts ta : TypeId} {f0 f1 f2 f3 f4 : Field} (h : PoType P tp ti ts ta f0 f1 f2 f3 f4) (hk : P.keyType tp = true) (d : Nat) (hd : P.types.size = d + 2) (p : Po) (hok : p.ok) : keyOf P tp p.val = some (.string (keyBytes p.lits)) := by
  unfold keyOf
  rw [h.hp]
  have hf : p.val.formed P tp = true := by
    unfold Po.val Value.formed
    rw [h.hp]
    simp [h.cp]
  have e1 : P.keyLits (P.types.size + 1) tp p.val.cells.toList = some p.lits := by
    rw [hd]
    show P.keyLits (d + 3) tp [.int .i64 p.W, .int .i64 p.H, .string p.C, .int .i64 p.T, .string p.A, .string p.B] = _
    rw [keyLits_po h, keyLits_i64_mk h.hi _ hok.w, keyLits_i64_mk h.hi _ hok.h, keyLits_str_mk h.hs _ hok.c, keyLits_i64_mk h.hi _ hok.t, keyLits_two h.ha h.ca h.cs, keyLits_str_mk h.hs _ hok.a, keyLits_str_mk h.hs _ hok.b]
    rfl
  simp only [hk, hf, Bool.and_self, if_true, e1, Option.map_some]

theorem po_inv {P : Program} {tp ti ts ta : TypeId} {f0 f1 f2 f3 f4 : Field} (h : PoType P tp ti ts ta f0 f1 f2 f3 f4) (d : Nat) (hd : P.types.size = d + 2) (v : Value) (l : Lit) (hv : keyOf P tp v = some l) : ∃ p : Po, v = p.val ∧ p.ok := by
  obtain ⟨xs, L, rfl, hL, _⟩ := keyOf_top (by rw [h.hp]) hv
  have hsz : xs.toList.length = 6 := by
    rw [hd] at hL
    unfold Program.keyLits at hL
    rw [h.hp] at hL
    simp only [h.cp] at hL
    split at hL
    · rename_i h1; exact h1.1
    · cases hL
  rw [hd] at hL
  obtain ⟨xs⟩ := xs
  simp only at hsz hL
  match xs, hsz with
  | [c0, c1, c2, c3, c4, c5], _ =>
    rw [keyLits_po h] at hL
    simp only [Option.bind_eq_some_iff, Option.map_eq_some_iff] at hL
    obtain ⟨x0, h0, x1, h1, x2, h2, x3, h3, x4, h4, _⟩ := hL
    obtain ⟨n0, rfl, w0, _⟩ := keyLits_i64 h.hi _ h0
    obtain ⟨n1, rfl, w1, _⟩ := keyLits_i64 h.hi _ h1
    obtain ⟨s2, rfl, w2, _⟩ := keyLits_str h.hs _ h2
    obtain ⟨n3, rfl, w3, _⟩ := keyLits_i64 h.hi _ h3
    rw [keyLits_two h.ha h.ca h.cs] at h4
    simp only [Option.bind_eq_some_iff, Option.map_eq_some_iff] at h4
    obtain ⟨x5, h5, x6, h6, _⟩ := h4
    obtain ⟨s4, rfl, w4, _⟩ := keyLits_str h.hs _ h5
    obtain ⟨s5, rfl, w5, _⟩ := keyLits_str h.hs _ h6
    exact ⟨⟨n0, n1, s2, n3, s4, s5⟩, rfl, ⟨w0, w1, w3, w2, w4, w5⟩⟩

def poKey {P : Program} {tp ti ts ta : TypeId} (h : ∃ f0 f1 f2 f3 f4, PoType P tp ti ts ta f0 f1 f2 f3 f4) (hk : P.keyType tp = true) (hd : ∃ d, P.types.size = d + 2) : KeyMk P tp Po where
  val := Po.val
  lit p := .string (keyBytes p.lits)
  ok := Po.ok
  key := fun p hp => by
    obtain ⟨_, _, _, _, _, h⟩ := h
    obtain ⟨d, hd⟩ := hd
    exact po_mk h hk d hd p hp
  inv := fun v l hv => by
    obtain ⟨_, _, _, _, _, h⟩ := h
    obtain ⟨d, hd⟩ := hd
    exact po_inv h d hd v l hv
  inj := Po.val_inj
end Go.Proofs.YtihojhfpepbjhaaGreatDoor

namespace Go.Proofs.YtihojhfpepbjhaaGreatDoor
open Go.RowKit
open Go.WideMaps (KeyLaw)

theorem posT : ∃ f0 f1 f2 f3 f4, PoType Tryz.prog 24 3 9 22 f0 f1 f2 f3 f4 :=
  ⟨_, _, _, _, _, Tryz.underlying24, by kernel_rfl, ⟨rfl, rfl⟩, ⟨rfl, rfl⟩, ⟨rfl, rfl⟩, ⟨rfl, rfl⟩, ⟨rfl, rfl⟩, Tryz.underlying3, Tryz.underlying9, Tryz.underlying22, by kernel_rfl, by kernel_rfl, by kernel_rfl, by kernel_rfl⟩
theorem posRow0 : Nat.ble (24 + 1 + 2) Tryz.prog.types.size = true := by kernel_rfl
theorem posD : ∃ d, Tryz.prog.types.size = d + 2 := by
  have := Nat.le_of_ble_eq_true posRow0
  exact ⟨Tryz.prog.types.size - 2, by omega⟩
theorem posKT : Tryz.prog.keyType 24 = true := by kernel_rfl
/-- The map in block b tells how often each position stands in l. -/
def countsP (w : World) (b : Nat) (l : List Po) : Prop := countsM w (poKey posT posKT posD) 3 b l
def rangesP (w : World) (b r : Nat) (l : List Po) (left : Lit → Bool) : Prop := rangesM w (poKey posT posKT posD) 3 b r l left
theorem countsP.lt {w : World} {b : Nat} {l : List Po} (h : countsP w b l) : b < w.heap.size := countsM.lt h
theorem countsP.of_block {w w' : World} {b : Nat} {l : List Po} (h : countsP w b l) (hb : w'.heap[b]? = w.heap[b]?) : countsP w' b l := countsM.of_block h hb
theorem countsP.below {w w' : World} {b B : Nat} {l : List Po} (h : countsP w b l) (hb : Below B w w') (hB : b < B) : countsP w' b l := countsM.of_block h (hb.block b hB)
theorem countsP.ok {w : World} {b : Nat} {l : List Po} (h : countsP w b l) : ∀ p ∈ l, p.ok := h.1
theorem rangesP.lt {w : World} {b r : Nat} {l : List Po} {left : Lit → Bool} (h : rangesP w b r l left) : r < w.heap.size := rangesM.lt h
section
variable (w : World) {ops : Array Oper} {rest : List Oper} {o : Oper} {a : Act} {Q : Exit → Act → World → Prop}
end
end Go.Proofs.YtihojhfpepbjhaaGreatDoor

namespace Go.Proofs.YtihojhfpepbjhaaGreatDoor
open Go.RowKit

theorem hide {p : Prop} (h : p) : Hid p := h
theorem unhide {p : Prop} (h : Hid p) : p := h
theorem ret_bool {a b : Bool} (h : a = b) : Ending.returned (.bool a) = .returned (.bool b) := by rw [h]
theorem ret_int {k : IntKind} {a b : Int} (h : a = b) : Ending.returned (.int k a) = .returned (.int k b) := by rw [h]

/-- 'A' to 'Z'. -/
def capB (c : Int) : Bool := decide (65 ≤ c) && decide (c ≤ 90)
/-- '.', 'A' to 'Z', 'a' to 'z'. -/
def cellB (c : Int) : Bool := decide (c = 46) || capB c || (decide (97 ≤ c) && decide (c ≤ 122))
def sideB (n : Int) : Bool := decide (1 ≤ n) && decide (n ≤ 8)
def turnB (n : Int) : Bool := decide (0 ≤ n) && decide (n < 8)

set_option maxHeartbeats 400000 in
theorem isCapital_any (c : Int) (w : World) :
    Calls Tryz.prog 139 #[.int .u8 c] w fun e w' => e = .returned (.bool (capB c)) ∧ w' = w := by
  go_enter Tryz.func139, Tryz.ntmps139
  go_wp2
  all_goals go_ret
  all_goals refine ⟨ret_bool ?_, rfl⟩
  all_goals (unfold capB; simp; try omega)

set_option maxHeartbeats 400000 in
theorem isSide_any (n : Int) (w : World) :
    Calls Tryz.prog 97 #[.int .i64 n] w fun e w' => e = .returned (.bool (sideB n)) ∧ w' = w := by
  go_enter Tryz.func97, Tryz.ntmps97
  go_wp2
  all_goals go_ret
  all_goals refine ⟨ret_bool ?_, rfl⟩
  all_goals (unfold sideB; simp; try omega)

set_option maxHeartbeats 400000 in
theorem isTurn_any (n : Int) (w : World) :
    Calls Tryz.prog 101 #[.int .i64 n] w fun e w' => e = .returned (.bool (turnB n)) ∧ w' = w := by
  go_enter Tryz.func101, Tryz.ntmps101
  go_wp2
  all_goals go_ret
  all_goals refine ⟨ret_bool ?_, rfl⟩
  all_goals (unfold turnB; simp; try omega)

theorem andNot_cap : ∀ c : Nat, c < 256 → (capB (bits .andNot .u8 (c : Int) 32) = (capB c || (decide (97 ≤ (c : Int)) && decide ((c : Int) ≤ 122)))) := by decide +kernel

set_option maxHeartbeats 400000 in
theorem Capital_any (c : Nat) (w : World) :
    Calls Tryz.prog 100 #[.int .u8 c] w fun e w' => e = .returned (.int .u8 (bits .andNot .u8 (c : Int) 32)) ∧ w' = w := by
  go_enter Tryz.func100, Tryz.ntmps100
  go_wp2
  go_ret
  exact ⟨rfl, rfl⟩

set_option maxHeartbeats 400000 in
theorem isCell_any (c : Nat) (w : World) (h1 : c < 256) :
    Calls Tryz.prog 138 #[.int .u8 c] w fun e w' => e = .returned (.bool (cellB c)) ∧ w' = w := by
  have hB := hide (andNot_cap c h1)
  by_cases h46 : (c : Int) = 46
  · obtain rfl : c = 46 := by omega
    go_enter Tryz.func138, Tryz.ntmps138
    go_wp2_with (first | (go_at_call 100; refine (Capital_any _ _).mono ?_; rintro e w' ⟨rfl, rfl⟩) | (go_at_call 139; refine (isCapital_any _ _).mono ?_; rintro e w' ⟨rfl, rfl⟩))
    go_ret
    exact ⟨ret_bool (by decide), rfl⟩
  · have hd : ((c : Int) == 46) = false := by simpa using h46
    go_enter Tryz.func138, Tryz.ntmps138
    go_wp2_with (first | (go_at_call 100; refine (Capital_any _ _).mono ?_; rintro e w' ⟨rfl, rfl⟩) | (go_at_call 139; refine (isCapital_any _ _).mono ?_; rintro e w' ⟨rfl, rfl⟩))
    go_ret
    exact ⟨ret_bool (by rw [unhide hB]; simp [cellB, h46]), rfl⟩

/-- Where the cell x, y of a board of W columns and H rows, turned by k, comes from. -/
def srcX (W : Int) (k : Nat) (x y : Int) : Int :=
  if k / 4 % 2 = 1 then (if k / 2 % 2 = 1 then W - 1 - y else y) else (if k % 2 = 1 then W - 1 - x else x)
def srcY (H : Int) (k : Nat) (x y : Int) : Int :=
  if k / 4 % 2 = 1 then (if k % 2 = 1 then H - 1 - x else x) else (if k / 2 % 2 = 1 then H - 1 - y else y)

theorem mul_small {u W : Int} (h0 : -8 ≤ u) (h1 : u ≤ 8) (hW0 : 1 ≤ W) (hW1 : W ≤ 8) : -64 ≤ u * W ∧ u * W ≤ 64 := by
  constructor
  · have h2 := Int.mul_le_mul_of_nonneg_right h0 (show (0 : Int) ≤ W by omega)
    omega
  · have h2 := Int.mul_le_mul_of_nonneg_right h1 (show (0 : Int) ≤ W by omega)
    omega
theorem wrap_in (n : Int) (h : -9223372036854775808 ≤ n ∧ n ≤ 9223372036854775807) : wrap64 n = n := by unfold wrap64; omega
theorem wrap_mul {u W v : Int} (h0 : -8 ≤ u) (h1 : u ≤ 8) (hW0 : 1 ≤ W) (hW1 : W ≤ 8) (v0 : -16 ≤ v) (v1 : v ≤ 16) : wrap64 (wrap64 (u * W) + v) = u * W + v := by
  have hm := mul_small h0 h1 hW0 hW1
  rw [wrap_in (u * W) (by omega), wrap_in _ (by omega)]

set_option maxHeartbeats 800000 in
theorem origin_any (W H T : Int) (C A B : ByteArray) (k : Nat) (x y : Int) (w : World) (hk : k < 8) (hW0 : 1 ≤ W) (hW1 : W ≤ 8) (hH0 : 1 ≤ H) (hH1 : H ≤ 8) (hx0 : 0 ≤ x) (hx1 : x ≤ 8) (hy0 : 0 ≤ y) (hy1 : y ≤ 8) :
    Calls Tryz.prog 140 #[.agg #[.int .i64 W, .int .i64 H, .string C, .int .i64 T, .string A, .string B], .int .i64 k, .int .i64 x, .int .i64 y] w fun e w' => e = .returned (.int .i64 (srcY H k x y * W + srcX W k x y)) ∧ Below w.heap.size w w' := by
  obtain rfl | rfl | rfl | rfl | rfl | rfl | rfl | rfl : k = 0 ∨ k = 1 ∨ k = 2 ∨ k = 3 ∨ k = 4 ∨ k = 5 ∨ k = 6 ∨ k = 7 := by omega
  all_goals
    go_enter Tryz.func140, Tryz.ntmps140
    go_wp2
    go_quiet (fail)
    go_wp2
    go_ret
    refine ⟨ret_int ?_, below_drewN ((Below.refl _ _).alloc (Nat.le_refl _) _) _⟩
    rw [wrap_mul (by omega) (by omega) hW0 hW1 (by omega) (by omega)]
    simp [srcX, srcY]
end Go.Proofs.YtihojhfpepbjhaaGreatDoor

namespace Go.Proofs.YtihojhfpepbjhaaGreatDoor
open Go.RowKit

def cellsB (l : List UInt8) : Bool := l.all fun c => cellB c.toNat
/-- Capital letters, none below m, none behind a greater one. -/
def capsB : Int → List UInt8 → Bool
  | _, [] => true
  | m, c :: t => capB c.toNat && decide (m ≤ c.toNat) && capsB c.toNat t
def handB (l : List UInt8) : Bool := decide (l.length ≤ 8) && capsB 65 l

theorem take_snoc (s : ByteArray) (k : Nat) (h : k < s.size) : s.data.toList.take (k + 1) = s.data.toList.take k ++ [s[k]] := by
  rw [List.take_succ_eq_append_getElem (by simpa using h)]; rfl
theorem len_data (s : ByteArray) : s.data.toList.length = s.size := by simp
theorem take_all (s : ByteArray) (k : Nat) (h : s.size ≤ k) : s.data.toList.take k = s.data.toList := List.take_of_length_le (by rw [len_data]; exact h)
theorem cellsB_snoc (l : List UInt8) (c : UInt8) : cellsB (l ++ [c]) = (cellsB l && cellB c.toNat) := by simp [cellsB]
theorem cellsB_take {l : List UInt8} (k : Nat) (h : cellsB (l.take k) = false) : cellsB l = false := by
  cases hl : cellsB l with
  | false => rfl
  | true =>
    simp only [cellsB, List.all_eq_true] at hl
    have : cellsB (l.take k) = true := by
      simp only [cellsB, List.all_eq_true]; intro c hc; exact hl c (List.mem_of_mem_take hc)
    simp [this] at h

theorem drop_cons (s : ByteArray) (k : Nat) (h : k < s.size) : s.data.toList.drop k = s[k] :: s.data.toList.drop (k + 1) := by
  rw [List.drop_eq_getElem_cons (by simpa using h)]; rfl
theorem drop_all (s : ByteArray) (k : Nat) (h : s.size ≤ k) : s.data.toList.drop k = [] := List.drop_of_length_le (by rw [len_data]; exact h)

set_option maxHeartbeats 400000 in
theorem areCells_any (s : ByteArray) (n : Int) (w : World) (hs : s.size ≤ maxLen) :
    Calls Tryz.prog 98 #[.string s, .int .i64 n] w fun e w' => e = .returned (.bool (decide ((s.size : Int) = n) && cellsB s.data.toList)) ∧ w' = w := by
  unfold maxLen at hs
  by_cases hn : (s.size : Int) = n
  · have hd : ((s.size : Int) != n) = false := by simpa using hn
    have HN := hide hn
    clear hn
    go_enter Tryz.func98, Tryz.ntmps98
    go_wp2
    go_loop [12] (fun i => ∃ k : Nat, k ≤ s.size ∧ i = .int .i64 k ∧ cellsB (s.data.toList.take k) = true) (fun i => s.size - (intOf i).toNat)
    case atStart => exact ⟨0, Nat.zero_le _, rfl, rfl⟩
    case round =>
      obtain ⟨k, hk, rfl, hc⟩ := hrel
      have HC := hide hc
      clear hc
      by_cases hlt : k < s.size
      · have HS := hide (take_snoc s k hlt)
        have hb : s[k].toNat < 256 := s[k].toNat_lt
        go_wp2_with (go_at_call 138; refine (isCell_any _ _ hb).mono ?_; rintro e w' ⟨rfl, rfl⟩)
        · have hf : (!cellB ↑s[k].toNat) = true := by assumption
          go_ret
          refine ⟨ret_bool ?_, rfl⟩
          rw [cellsB_take (k + 1) (by rw [unhide HS, cellsB_snoc]; simp at hf; simp [hf])]
          simp
        · have hf : (!cellB ↑s[k].toNat) = false := by assumption
          go_round
          case rel => exact ⟨k + 1, by omega, by go_num, by rw [unhide HS, cellsB_snoc, unhide HC]; simpa using hf⟩
          case measure => simp [intOf]; omega
      · go_wp2
        go_ret
        refine ⟨ret_bool ?_, rfl⟩
        have h1 := unhide HC
        rw [take_all s k (by omega)] at h1
        simp [h1, unhide HN]
  · have hd : ((s.size : Int) != n) = true := by simpa using hn
    go_enter Tryz.func98, Tryz.ntmps98
    go_wp2
    go_ret
    exact ⟨ret_bool (by simp [hn]), rfl⟩

set_option maxHeartbeats 400000 in
theorem isHand_any (s : ByteArray) (w : World) (hs : s.size ≤ maxLen) :
    Calls Tryz.prog 99 #[.string s] w fun e w' => e = .returned (.bool (handB s.data.toList)) ∧ w' = w := by
  unfold maxLen at hs
  by_cases hn : s.size ≤ 8
  · have HN := hide hn
    go_enter Tryz.func99, Tryz.ntmps99
    go_wp2
    go_loop [3, 10] (fun t i => ∃ (k : Nat) (m : Int), k ≤ s.size ∧ i = .int .i64 k ∧ t = .int .u8 m ∧ handB s.data.toList = capsB m (s.data.toList.drop k)) (fun _ i => s.size - (intOf i).toNat)
    case atStart => exact ⟨0, 65, Nat.zero_le _, rfl, rfl, by simp [handB, hn]⟩
    case round =>
      obtain ⟨k, m, hk, rfl, rfl, hc⟩ := hrel
      have HC := hide hc
      clear hc
      by_cases hlt : k < s.size
      · have HS := hide (drop_cons s k hlt)
        go_wp2_with (go_at_call 139; refine (isCapital_any _ _).mono ?_; rintro e w' ⟨rfl, rfl⟩)
        · have h1 : ↑s[k].toNat < m := by assumption
          go_ret
          refine ⟨ret_bool ?_, rfl⟩
          rw [unhide HC, unhide HS]
          simp only [capsB, show decide (m ≤ ↑s[k].toNat) = false by simpa using h1, Bool.and_false, Bool.false_and]
        · have h1 : m ≤ ↑s[k].toNat := by assumption
          have h2 : capB ↑s[k].toNat = true := by assumption
          go_round
          case rel => exact ⟨k + 1, ↑s[k].toNat, by omega, by go_num, rfl, by rw [unhide HC, unhide HS]; simp [capsB, h1, h2]⟩
          case measure => simp [intOf]; omega
        · have h2 : ¬ capB ↑s[k].toNat = true := by assumption
          go_ret
          refine ⟨ret_bool ?_, rfl⟩
          rw [unhide HC, unhide HS]
          simp [capsB, h2]
      · go_wp2
        go_ret
        refine ⟨ret_bool ?_, rfl⟩
        rw [unhide HC, drop_all s k (by omega)]; rfl
  · go_enter Tryz.func99, Tryz.ntmps99
    go_wp2
    go_ret
    exact ⟨ret_bool (by simp [handB, hn]), rfl⟩

/-- What a position is (P3). -/
def posB (W H : Int) (C : List UInt8) (T : Int) (A B : List UInt8) : Bool :=
  sideB W && sideB H && (decide ((C.length : Int) = W * H) && cellsB C) && (decide (T = 0) || decide (T = 1)) && handB A && handB B
/-- 0, or 1 where it is none. -/
def errI (b : Bool) : Int := if b then 0 else 1

theorem wrapWH (W H : Int) (h : sideB W = true) (h' : sideB H = true) : wrap64 (W * H) = W * H := by
  simp only [sideB, Bool.and_eq_true, decide_eq_true_eq] at h h'
  have := mul_small (u := W) (W := H) (by omega) (by omega) h'.1 h'.2
  exact wrap_in _ (by omega)

set_option maxHeartbeats 800000 in
theorem Check_any (W H T : Int) (C A B : ByteArray) (w : World) (hC : C.size ≤ maxLen) (hA : A.size ≤ maxLen) (hB : B.size ≤ maxLen) :
    Calls Tryz.prog 53 #[.agg #[.int .i64 W, .int .i64 H, .string C, .int .i64 T, .string A, .string B]] w fun e w' => e = .returned (.int .i64 (errI (posB W H C.data.toList T A.data.toList B.data.toList))) ∧ Below w.heap.size w w' := by
  go_enter Tryz.func53, Tryz.ntmps53
  go_wp2_with (first | (go_at_call 97; refine (isSide_any _ _).mono ?_; rintro e w' ⟨rfl, rfl⟩) | (go_at_call 98; refine (areCells_any _ _ _ hC).mono ?_; rintro e w' ⟨rfl, rfl⟩) | (go_at_call 99; refine (isHand_any _ _ ?_).mono ?_; assumption; rintro e w' ⟨rfl, rfl⟩))
  all_goals go_ret
  all_goals refine ⟨ret_int ?_, (Below.refl _ _).alloc (Nat.le_refl _) _⟩
  all_goals have hw := wrapWH W H
  all_goals clear hC hA hB
  all_goals simp_all [errI, posB]
  intro a b
  rcases ‹¬ (C.size : Int) = W * H ∨ cellsB C.data.toList = false› with h | h
  · exact absurd a h
  · simp [h] at b
end Go.Proofs.YtihojhfpepbjhaaGreatDoor

namespace Go.Proofs.YtihojhfpepbjhaaGreatDoor
open Go.RowKit

theorem Tryz.info5 : (Tryz.prog.info? 5).map (fun i => (i.zero, i.size, i.bytes)) = some (some (.int .u8 0), 1, 1) := by kernel_rfl

set_option maxHeartbeats 1000000 in
set_option maxRecDepth 100000 in
theorem liteClone_any (s : ByteArray) (w : World) (hlim : s.size ≤ maxLen) (hlim' : s.size ≤ 140737488355328) :
    Calls Tryz.prog 63 #[.string s] w fun e w' => e = .returned (.string s) ∧ Below w.heap.size w w' := by
  by_cases h0 : s.size = 0
  · have hs : s = ⟨#[]⟩ := by
      apply ByteArray.ext
      exact Array.eq_empty_of_size_eq_zero h0
    subst hs
    go_enter Tryz.func63, Tryz.ntmps63
    go_wp2
    go_ret
    exact ⟨rfl, Below.refl _ _⟩
  · obtain ⟨i0, hi, hz0, hz1, hz2⟩ := info_parts Tryz.info5
    have hinfo : (Tryz.prog.info? 5).map (·.size) = some 1 := by rw [hi]; simp [hz1]
    have hco : Tryz.prog.cellsOf 5 = 1 := by simp [Program.cellsOf, hi, hz1]
    obtain ⟨M, hM⟩ : ∃ M, M = madeCells (Value.int .u8 0).cells (((s.size : Nat) : Int).toNat * i0.size) := ⟨_, rfl⟩
    have hMs : M.size = s.size := by rw [hM, size_madeCells, hz1]; simp
    have hmk : ∀ W : World, (Instr.makeSlice 127 (.int .i64 (s.size : Int)) (.int .i64 (s.size : Int))).run Tryz.prog W = .ok (.slice (some ⟨W.heap.size, 0, none⟩) s.size s.size) (W.alloc (.cells M 5)) := fun W => by
      have h := run_make (P := Tryz.prog) W 127 5 i0 (.int .u8 0) Tryz.underlying127 hi hz0 .i64 .i64 (s.size : Int) (s.size : Int) (by omega) (by omega) (by rw [hz2]; omega) (by unfold maxLen at hlim; omega)
      rw [← hM] at h
      simpa using h
    clear hM
    have hcp := Lib.run_copy_row_string (P := Tryz.prog) (w.alloc (.cells M 5)) 127 9 3 5 w.heap.size 0 s.size s.size s M 5 Tryz.underlying127 hinfo (heap_alloc_new w _) (Nat.le_refl _) (by omega)
    obtain ⟨Y, hY⟩ : ∃ Y, Y = (M.toList.take 0 ++ Lib.byteCells s.data.toList ++ M.toList.drop (0 + s.size)).toArray := ⟨_, rfl⟩
    rw [← hY] at hcp
    have hYl : Y.toList = Lib.byteCells s.data.toList := by
      rw [hY, List.toList_toArray, List.take_zero, List.nil_append, List.drop_of_length_le (by rw [Array.length_toList]; omega), List.append_nil]
    have hYs : Y.size = s.size := by rw [← Array.length_toList, hYl, Lib.byteCells_length, ← Lib.size_eq]
    have hgY : ((w.alloc (.cells M 5)).setRow w.heap.size Y).heap[w.heap.size]? = some (.cells Y 5 (0, 0)) := setRow_heap _ _ M _ 5 (0, 0) (heap_alloc_new w _)
    have hne : s.data.toList ≠ [] := fun e => h0 (by rw [Lib.size_eq, e]; rfl)
    have hUS := Lib.run_unsafeString_row (P := Tryz.prog) ((w.alloc (.cells M 5)).setRow w.heap.size Y) 156 3 9 5 Tryz.underlying156 hco w.heap.size Y.size (by unfold World.shape?; rw [hgY]) s.data.toList hne (by rw [← Lib.size_eq]; omega) (by rw [← Lib.size_eq]; omega)
      (fun j x hx => Lib.cells_of_row hgY Y.size j _ (by rw [List.take_of_length_le (by rw [Array.length_toList]; exact Nat.le_refl _), hYl]; simp [Lib.byteCells, hx]))
    rw [← Lib.size_eq] at hUS
    clear hY
    unfold maxLen at hlim
    go_enter Tryz.func63, Tryz.ntmps63
    go_wp2
    go_ret
    have hb1 : Below w.heap.size w (w.alloc (.cells M 5)) := (Below.refl _ w).alloc (Nat.le_refl _) _
    have hb2 : Below w.heap.size (w.alloc (.cells M 5)) ((w.alloc (.cells M 5)).setRow w.heap.size Y) := ⟨rfl, rfl, rfl, by simp, fun k hk => setRow_other _ _ _ _ (by omega)⟩
    exact ⟨rfl, Lib.below_freeze (hb1.trans hb2) (p := ⟨w.heap.size, 0, none⟩) (Nat.le_refl _) _⟩

set_option maxHeartbeats 400000 in
theorem Clone_any (s : ByteArray) (w : World) (hlim : s.size ≤ maxLen) (hlim' : s.size ≤ 140737488355328) :
    Calls Tryz.prog 35 #[.string s] w fun e w' => e = .returned (.string s) ∧ Below w.heap.size w w' := by
  go_enter Tryz.func35, Tryz.ntmps35
  go_wp2_with (go_at_call 63; refine (liteClone_any _ _ hlim hlim').mono ?_; rintro e w' ⟨rfl, hb⟩)
  go_ret
  exact ⟨rfl, hb⟩
end Go.Proofs.YtihojhfpepbjhaaGreatDoor

namespace Go.Proofs.YtihojhfpepbjhaaGreatDoor
open Go.RowKit
attribute [local go_sem ↓] Go.wp_at_zero Go.wp_at_succ

set_option maxHeartbeats 2000000 in
set_option maxRecDepth 100000 in
theorem copied_any (A B : ByteArray) (w : World) (hA : A.size ≤ 8) (hB : B.size ≤ 8) :
    Calls Tryz.prog 141 #[.agg #[.string A, .string B]] w fun e w' => e = .returned (.agg #[.string A, .string B]) ∧ Below w.heap.size w w' := by
  have hA' : A.size ≤ maxLen := by unfold maxLen; omega
  have hB' : B.size ≤ maxLen := by unfold maxLen; omega
  go_enter Tryz.func141, Tryz.ntmps141
  go_wp2_with fail
  have hb0 : Below w.heap.size w ((w.alloc (Obj.cells #[Value.string A, Value.string B] 22)).alloc (Obj.cells #[Value.string ⟨#[]⟩, Value.string ⟨#[]⟩] 22)) := ((Below.refl _ _).alloc (Nat.le_refl _) _).alloc (by simp) _
  go_region_held3 (fun w' => w'.cell? ⟨w.heap.size, 0, none⟩ = some (.string A) ∧ w'.cell? ⟨w.heap.size, 1, none⟩ = some (.string B) ∧ Below w.heap.size w w' ∧ w.heap.size + 1 < w'.heap.size)
    (first
      | (go_keep; done)
      | ((try go_split_ands); (try dsimp only); (repeat' apply And.intro) <;> first
           | (go_keep; done)
           | exact hb0.drew
           | (rw [hb.cell (by dsimp only; omega)]; assumption)
           | exact Below.trans (by assumption) (hb.mono (by omega))
           | exact Below.setCell (Below.setCell (by assumption) (by dsimp only; omega) _) (by dsimp only; omega) _
           | exact Nat.lt_of_lt_of_le (by assumption) hb.size))
    (first | (go_at_call 35; refine (Clone_any A _ hA' (by omega)).mono ?_; rintro e w' ⟨rfl, hb⟩; have hz := Nat.lt_of_lt_of_le (show w.heap.size + 1 < _ by first | (simp; done) | (simp; omega) | assumption) hb.size; have q0 := hb.cell (p := ⟨w.heap.size + 1, 0, none⟩) (by first | (simp; done) | (simp; omega) | assumption); have q1 := hb.cell (p := ⟨w.heap.size + 1, 1, none⟩) (by first | (simp; done) | (simp; omega) | assumption); have f0 := hb.frozen (p := ⟨w.heap.size + 1, 0, none⟩) (by first | (simp; done) | (simp; omega) | assumption); have f1 := hb.frozen (p := ⟨w.heap.size + 1, 1, none⟩) (by first | (simp; done) | (simp; omega) | assumption)) | (go_at_call 35; refine (Clone_any B _ hB' (by omega)).mono ?_; rintro e w' ⟨rfl, hb⟩; have hz := Nat.lt_of_lt_of_le (show w.heap.size + 1 < _ by first | (simp; done) | (simp; omega) | assumption) hb.size; have q0 := hb.cell (p := ⟨w.heap.size + 1, 0, none⟩) (by first | (simp; done) | (simp; omega) | assumption); have q1 := hb.cell (p := ⟨w.heap.size + 1, 1, none⟩) (by first | (simp; done) | (simp; omega) | assumption); have f0 := hb.frozen (p := ⟨w.heap.size + 1, 0, none⟩) (by first | (simp; done) | (simp; omega) | assumption); have f1 := hb.frozen (p := ⟨w.heap.size + 1, 1, none⟩) (by first | (simp; done) | (simp; omega) | assumption)))
  go_wp2
  rename_i hH
  exact bodyPost_ret (v := .agg #[.string A, .string B]) (by clear hH hb; simp [results, Tryz.results141, go_sem, *]) rfl ⟨rfl, hH.2.2.1⟩
end Go.Proofs.YtihojhfpepbjhaaGreatDoor

namespace Go.Proofs.YtihojhfpepbjhaaGreatDoor
open Go.RowKit

/-- The i-th cell of a board C of W columns and H rows, turned by k, that then has dw columns. -/
def tcell (C : List UInt8) (W H k dw i : Nat) : UInt8 :=
  C.getD (srcY H k (i % dw : Nat) (i / dw : Nat) * W + srcX W k (i % dw : Nat) (i / dw : Nat)).toNat 0
def tcells (C : List UInt8) (W H k dw n : Nat) : List UInt8 := (List.range n).map (tcell C W H k dw)
def bvals (l : List UInt8) : List Value := l.map fun c => Value.int .u8 (c.toNat : Int)

theorem tcells_succ (C : List UInt8) (W H k dw n : Nat) : tcells C W H k dw (n + 1) = tcells C W H k dw n ++ [tcell C W H k dw n] := by
  simp [tcells, List.range_succ]
theorem bvals_snoc (l : List UInt8) (c : UInt8) : bvals (l ++ [c]) = bvals l ++ [Value.int .u8 (c.toNat : Int)] := by simp [bvals]
theorem tcells_length (C : List UInt8) (W H k dw n : Nat) : (tcells C W H k dw n).length = n := by simp [tcells]

theorem src_bounds (W H : Nat) (k : Nat) (x y : Int) (dw dh : Nat) (hd : if k / 4 % 2 = 1 then dw = H ∧ dh = W else dw = W ∧ dh = H) (hx0 : 0 ≤ x) (hx1 : x < dw) (hy0 : 0 ≤ y) (hy1 : y < dh) :
    0 ≤ srcX W k x y ∧ srcX W k x y < W ∧ 0 ≤ srcY H k x y ∧ srcY H k x y < H := by
  unfold srcX srcY
  by_cases h4 : k / 4 % 2 = 1
  · simp only [h4, if_true] at hd ⊢
    obtain ⟨rfl, rfl⟩ := hd
    by_cases h2 : k / 2 % 2 = 1 <;> by_cases h1 : k % 2 = 1 <;> simp only [h1, h2, if_true, if_false] <;> omega
  · simp only [h4, if_false] at hd ⊢
    obtain ⟨rfl, rfl⟩ := hd
    by_cases h2 : k / 2 % 2 = 1 <;> by_cases h1 : k % 2 = 1 <;> simp only [h1, h2, if_true, if_false] <;> omega

theorem idx_bound (u v W H : Int) (hu0 : 0 ≤ u) (hu : u < H) (hv0 : 0 ≤ v) (hv : v < W) : 0 ≤ u * W + v ∧ u * W + v < W * H := by
  have h1 : u * W ≤ (H - 1) * W := Int.mul_le_mul_of_nonneg_right (by omega) (by omega)
  have h2 : 0 ≤ u * W := Int.mul_nonneg hu0 (by omega)
  have h3 : (H - 1) * W = W * H - W := by rw [Int.sub_mul, Int.one_mul, Int.mul_comm]
  omega

/-- Where the cell x, y of the turned board lies in C: a number below its size; and it is the turned board's cell number y dw + x. -/
theorem turned_idx (C : ByteArray) (W H k dw dh x y : Nat) (hC : C.size = W * H) (hd : if k / 4 % 2 = 1 then dw = H ∧ dh = W else dw = W ∧ dh = H) (hx : x < dw) (hy : y < dh) :
    ∃ (n : Nat) (hn : n < C.size), srcY H k x y * W + srcX W k x y = (n : Int) ∧ tcell C.data.toList W H k dw (y * dw + x) = C[n] := by
  obtain ⟨a0, a1, b0, b1⟩ := src_bounds W H k x y dw dh hd (by omega) (by omega) (by omega) (by omega)
  obtain ⟨c0, c1⟩ := idx_bound (srcY H k x y) (srcX W k x y) W H b0 b1 a0 a1
  have e1 : (y * dw + x) % dw = x := by rw [Nat.mul_comm, Nat.mul_add_mod, Nat.mod_eq_of_lt hx]
  have e2 : (y * dw + x) / dw = y := by rw [Nat.mul_comm, Nat.mul_add_div (by omega), Nat.div_eq_of_lt hx]; rfl
  have hWH : ((W * H : Nat) : Int) = (W : Int) * H := by simp
  have hn : (srcY H k x y * W + srcX W k x y).toNat < C.size := by rw [hC]; omega
  refine ⟨(srcY H k x y * W + srcX W k x y).toNat, hn, by omega, ?_⟩
  unfold tcell
  rw [e1, e2]
  rw [List.getD_eq_getElem?_getD, List.getElem?_eq_getElem (by rw [len_data]; exact hn)]
  rfl
end Go.Proofs.YtihojhfpepbjhaaGreatDoor
