/-
  A position that came in, opened: its six cells; its texts' sizes.
  Rules that came in, opened: their cells, their pieces in memory.
  package rules, walked: texts of ways.
-/
import Derived.Test.YtihojhfpepbjhaaGreatDoorRows
import Derived.Test.YtihojhfpepbjhaaGreatDoorProg
import Derived.WalkKit
import Derived.ProofKit
import Derived.OpenShut
import Derived.ShutString
import Derived.ChangeOld
import Derived.Below
import Derived.Test.YtihojhfpepbjhaaGreatDoorJ2
import Derived.Deep.Slices
import Derived.Test.YtihojhfpepbjhaaGreatDoorJ5
import Derived.BigQuiet
import Derived.IntWalk
namespace Go.Proofs.YtihojhfpepbjhaaGreatDoor
open Go.ChangeShapes Go.WideShapes Go.ChangeAt Go.RowKit
open Go.ChangeMaps (open_string shut_string)

theorem cells_pos : Tryz.prog.cellsOf 24 = 6 := by kernel_rfl
theorem cells_hands : Tryz.prog.cellsOf 22 = 2 := by kernel_rfl
theorem cells_string : Tryz.prog.cellsOf 9 = 1 := by kernel_rfl
theorem cells_int : Tryz.prog.cellsOf 3 = 1 := by kernel_rfl

theorem list5 {α : Type} {l : List α} (h : l.length = 5) : ∃ c0 c1 c2 c3 c4, l = [c0, c1, c2, c3, c4] := by
  match l, h with
  | [c0, c1, c2, c3, c4], _ => exact ⟨c0, c1, c2, c3, c4, rfl⟩
theorem list2 {α : Type} {l : List α} (h : l.length = 2) : ∃ c0 c1, l = [c0, c1] := by
  match l, h with
  | [c0, c1], _ => exact ⟨c0, c1, rfl⟩

end Go.Proofs.YtihojhfpepbjhaaGreatDoor

namespace Go.Proofs.YtihojhfpepbjhaaGreatDoor
open Go.ChangeShapes Go.WideShapes Go.ChangeAt Go.RowKit
open Go.ChangeMaps (open_string shut_string)

theorem cells_way : Tryz.prog.cellsOf 68 = 4 := by kernel_rfl
theorem cells_piece : Tryz.prog.cellsOf 71 = 3 := by kernel_rfl
theorem cells_rules : Tryz.prog.cellsOf 27 = 13 := by kernel_rfl
theorem cells_byte : Tryz.prog.cellsOf 5 = 1 := by kernel_rfl
theorem cells_bool : Tryz.prog.cellsOf 4 = 1 := by kernel_rfl
theorem cells_ways : Tryz.prog.cellsOf 69 = 1 := by kernel_rfl
theorem cells_pieces : Tryz.prog.cellsOf 25 = 1 := by kernel_rfl
theorem list3 {α : Type} {l : List α} (h : l.length = 3) : ∃ c0 c1 c2, l = [c0, c1, c2] := by
  match l, h with
  | [c0, c1, c2], _ => exact ⟨c0, c1, c2, rfl⟩
theorem list4 {α : Type} {l : List α} (h : l.length = 4) : ∃ c0 c1 c2 c3, l = [c0, c1, c2, c3] := by
  match l, h with
  | [c0, c1, c2, c3], _ => exact ⟨c0, c1, c2, c3, rfl⟩
theorem list6 {α : Type} {l : List α} (h : l.length = 6) : ∃ c0 c1 c2 c3 c4 c5, l = [c0, c1, c2, c3, c4, c5] := by
  match l, h with
  | [c0, c1, c2, c3, c4, c5], _ => exact ⟨c0, c1, c2, c3, c4, c5, rfl⟩
theorem list8 {α : Type} {l : List α} (h : l.length = 8) : ∃ c0 c1 c2 c3 c4 c5 c6 c7, l = [c0, c1, c2, c3, c4, c5, c6, c7] := by
  match l, h with
  | [c0, c1, c2, c3, c4, c5, c6, c7], _ => exact ⟨c0, c1, c2, c3, c4, c5, c6, c7, rfl⟩
theorem array13 {cs : Array Value} (h : cs.size = 13) : ∃ c0 c1 c2 c3 c4 c5 c6 c7 c8 c9 c10 c11 c12, cs = #[c0, c1, c2, c3, c4, c5, c6, c7, c8, c9, c10, c11, c12] := by
  obtain ⟨l⟩ := cs
  match l, h with
  | [c0, c1, c2, c3, c4, c5, c6, c7, c8, c9, c10, c11, c12], _ => exact ⟨c0, c1, c2, c3, c4, c5, c6, c7, c8, c9, c10, c11, c12, rfl⟩

section
variable {H : Type} {enc : TypeId × Value → H} {w : World} {base : Nat} {spare : Nat → Bool} {held : Bool} {fuel : Nat} {cs : List Value} {x : DataW H × List MemPlace}

theorem open_six (h : DataW.trod enc Tryz.prog w base spare held fuel 24 cs = some x) :
    ∃ (W Ht T : Int) (C A B : ByteArray), cs = [.int .i64 W, .int .i64 Ht, .string C, .int .i64 T, .string A, .string B] ∧ C.size ≤ maxLen ∧ A.size ≤ maxLen ∧ B.size ≤ maxLen := by
  obtain ⟨xs, n, _, hx, hl, hlen, hfd⟩ := DataW.trod_struct Tryz.underlying24 h
  rw [cells_pos] at hl
  obtain ⟨c0, c1, c2, c3, c4, c5, rfl⟩ := list6 hl
  obtain ⟨y0, y1, y2, y3, y4, rfl⟩ := list5 hlen
  have f0 := hfd 0 _ rfl
  have f1 := hfd 1 _ rfl
  have f2 := hfd 2 _ rfl
  have f3 := hfd 3 _ rfl
  have f4 := hfd 4 _ rfl
  simp [cells_int, cells_string, cells_hands] at f0 f1 f2 f3 f4
  obtain ⟨W, e0, _, _⟩ := DataW.trod_int Tryz.underlying3 f0
  obtain ⟨Ht, e1, _, _⟩ := DataW.trod_int Tryz.underlying3 f1
  obtain ⟨C, e2, _, hC⟩ := DataW.trod_string Tryz.underlying9 f2
  obtain ⟨T, e3, _, _⟩ := DataW.trod_int Tryz.underlying3 f3
  obtain ⟨zs, m, _, _, _, hzl, hz⟩ := DataW.trod_array Tryz.underlying22 f4
  obtain ⟨z0, z1, rfl⟩ := list2 hzl
  have g0 := hz 0 (by omega)
  have g1 := hz 1 (by omega)
  simp [cells_string] at g0 g1
  obtain ⟨A, e4, _, hA⟩ := DataW.trod_string Tryz.underlying9 g0
  obtain ⟨B, e5, _, hB⟩ := DataW.trod_string Tryz.underlying9 g1
  simp at e0 e1 e2 e3 e4 e5
  subst e0 e1 e2 e3 e4 e5
  exact ⟨W, Ht, T, C, A, B, rfl, hC, hA, hB⟩

theorem open_way (h : DataW.trod enc Tryz.prog w base spare held fuel 68 cs = some x) : ∃ z : Wy, cs = [.int .i64 z.k, .int .i64 z.x, .int .i64 z.y, .int .i64 z.t] := by
  obtain ⟨xs, n, _, hx, hl, hlen, hfd⟩ := DataW.trod_struct Tryz.underlying68 h
  rw [cells_way] at hl
  obtain ⟨c0, c1, c2, c3, rfl⟩ := list4 hl
  obtain ⟨y0, y1, y2, y3, rfl⟩ := list4 hlen
  have f0 := hfd 0 _ rfl
  have f1 := hfd 1 _ rfl
  have f2 := hfd 2 _ rfl
  have f3 := hfd 3 _ rfl
  simp [cells_int] at f0 f1 f2 f3
  obtain ⟨a, e0, _, _⟩ := DataW.trod_int Tryz.underlying3 f0
  obtain ⟨b, e1, _, _⟩ := DataW.trod_int Tryz.underlying3 f1
  obtain ⟨c, e2, _, _⟩ := DataW.trod_int Tryz.underlying3 f2
  obtain ⟨d, e3, _, _⟩ := DataW.trod_int Tryz.underlying3 f3
  simp at e0 e1 e2 e3
  subst e0 e1 e2 e3
  exact ⟨⟨a, b, c, d⟩, rfl⟩

instance : Inhabited Wy := ⟨⟨0, 0, 0, 0⟩⟩
instance : Inhabited Pc := ⟨⟨0, 0, []⟩⟩
theorem open_ways {v : Value} (h : DataW.trod enc Tryz.prog w base spare held fuel 69 [v] = some x) : ∃ (ao : Option Addr) (cap : Nat) (ws : List Wy), v = .slice ao ws.length cap ∧ isWys w ao cap ws := by
  rcases Go.Deep.open_slice Tryz.underlying69 h with ⟨e, -⟩ | ⟨a, len, cap, m, n, D, Pl, e, hb, hl, hm, hmm, -, hx⟩
  · simp only [List.cons.injEq, and_true] at e
    exact ⟨none, 0, [], e, ⟨Nat.le_refl _, by unfold maxLen; omega, fun _ => rfl, fun h => absurd rfl h⟩⟩
  · simp only [List.cons.injEq, and_true] at e
    have hlm : len ≤ m := by rw [hmm]; split <;> omega
    have each : ∀ i, i < len → ∃ z : Wy, w.cell? (a.add (i * 4)) = some (.int .i64 z.k) ∧ w.cell? (a.add (i * 4 + 1)) = some (.int .i64 z.x) ∧ w.cell? (a.add (i * 4 + 2)) = some (.int .i64 z.y) ∧ w.cell? (a.add (i * 4 + 3)) = some (.int .i64 z.t) := by
      intro i hi
      obtain ⟨cs', h1, h2⟩ := hx i (by omega)
      rw [cells_way] at h1
      obtain ⟨_, hlen, hcell⟩ := World.cells?_some h1
      obtain ⟨z, rfl⟩ := open_way h2
      have e0 := hcell 0 (by omega)
      have e1 := hcell 1 (by omega)
      have e2 := hcell 2 (by omega)
      have e3 := hcell 3 (by omega)
      rw [Go.Deep.add_add] at e0 e1 e2 e3
      exact ⟨z, by simpa using e0, by simpa using e1, by simpa using e2, by simpa using e3⟩
    obtain ⟨q, hq⟩ := Go.Deep.choose_lt each
    refine ⟨some a, cap, (List.range len).map q, by simp [e], ⟨by simp; omega, hm, fun e => (nomatch e), fun hne => ?_⟩⟩
    have hp : 0 < len := by
      rcases Nat.eq_zero_or_pos len with h0 | h0
      · subst h0; exact absurd rfl hne
      · exact h0
    obtain ⟨b, off, spot⟩ := a
    have hspot : spot = none := by simpa [Addr.add] using World.cell?_spot (hq 0 hp).1
    subst hspot
    have hlt : b < w.heap.size := by
      have := World.block_lt_of_cell? w _ (hq 0 hp).1
      rw [add_plain] at this
      exact this
    refine ⟨b, off, rfl, hlt, fun i z hz => ?_⟩
    have hi : i < len := by
      have := (List.getElem?_eq_some_iff.1 hz).1
      simpa using this
    have hqz : q i = z := by simpa [hi] using hz
    have := hq i hi
    rw [add_plain, add_plain, add_plain, add_plain, hqz] at this
    exact this

theorem open_piece (h : DataW.trod enc Tryz.prog w base spare held fuel 71 cs = some x) : ∃ (p : Pc) (wo : Option Addr) (wc : Nat), p.l < 256 ∧ cs = [.int .u8 (p.l : Int), .int .i64 p.v, .slice wo p.ws.length wc] ∧ isWys w wo wc p.ws := by
  obtain ⟨xs, n, _, hx, hl, hlen, hfd⟩ := DataW.trod_struct Tryz.underlying71 h
  rw [cells_piece] at hl
  obtain ⟨c0, c1, c2, rfl⟩ := list3 hl
  obtain ⟨y0, y1, y2, rfl⟩ := list3 hlen
  have f0 := hfd 0 _ rfl
  have f1 := hfd 1 _ rfl
  have f2 := hfd 2 _ rfl
  simp [cells_int, cells_byte, cells_ways] at f0 f1 f2
  obtain ⟨a, e0, _, ha⟩ := DataW.trod_int Tryz.underlying5 f0
  obtain ⟨b, e1, _, _⟩ := DataW.trod_int Tryz.underlying3 f1
  obtain ⟨ao, cap, ws, e2, hw⟩ := open_ways f2
  simp at e0 e1
  subst e0 e1 e2
  have hb := bounds_u8 ha
  obtain ⟨l, rfl⟩ : ∃ l : Nat, a = l := ⟨a.toNat, by omega⟩
  exact ⟨⟨l, b, ws⟩, ao, cap, by simp only; omega, rfl, hw⟩

theorem open_pieces {v : Value} (h : DataW.trod enc Tryz.prog w base spare held fuel 25 [v] = some x) : ∃ (ao : Option Addr) (cap : Nat) (ps : List Pc), v = .slice ao ps.length cap ∧ isPcs w ao cap ps := by
  rcases Go.Deep.open_slice Tryz.underlying25 h with ⟨e, -⟩ | ⟨a, len, cap, m, n, D, Pl, e, hb, hl, hm, hmm, -, hx⟩
  · simp only [List.cons.injEq, and_true] at e
    exact ⟨none, 0, [], e, ⟨Nat.le_refl _, by unfold maxLen; omega, fun _ => rfl, fun h => absurd rfl h⟩⟩
  · simp only [List.cons.injEq, and_true] at e
    have hlm : len ≤ m := by rw [hmm]; split <;> omega
    have each : ∀ i, i < len → ∃ p : Pc, p.l < 256 ∧ ∃ wo wc, w.cell? (a.add (i * 3)) = some (.int .u8 (p.l : Int)) ∧ w.cell? (a.add (i * 3 + 1)) = some (.int .i64 p.v) ∧ w.cell? (a.add (i * 3 + 2)) = some (.slice wo p.ws.length wc) ∧ isWys w wo wc p.ws := by
      intro i hi
      obtain ⟨cs', h1, h2⟩ := hx i (by omega)
      rw [cells_piece] at h1
      obtain ⟨_, hlen, hcell⟩ := World.cells?_some h1
      obtain ⟨p, wo, wc, hp, rfl, hw⟩ := open_piece h2
      have e0 := hcell 0 (by omega)
      have e1 := hcell 1 (by omega)
      have e2 := hcell 2 (by omega)
      rw [Go.Deep.add_add] at e0 e1 e2
      exact ⟨p, hp, wo, wc, by simpa using e0, by simpa using e1, by simpa using e2, hw⟩
    obtain ⟨q, hq⟩ := Go.Deep.choose_lt each
    refine ⟨some a, cap, (List.range len).map q, by simp [e], ⟨by simp; omega, hm, fun e => (nomatch e), fun hne => ?_⟩⟩
    have hp : 0 < len := by
      rcases Nat.eq_zero_or_pos len with h0 | h0
      · subst h0; exact absurd rfl hne
      · exact h0
    obtain ⟨b, off, spot⟩ := a
    obtain ⟨-, wo0, wc0, hq0, -⟩ := hq 0 hp
    have hspot : spot = none := by simpa [Addr.add] using World.cell?_spot hq0
    subst hspot
    have hlt : b < w.heap.size := by
      have := World.block_lt_of_cell? w _ hq0
      rw [add_plain] at this
      exact this
    refine ⟨b, off, rfl, hlt, fun i z hz => ?_⟩
    have hi : i < len := by
      have := (List.getElem?_eq_some_iff.1 hz).1
      simpa using this
    have hqz : q i = z := by simpa [hi] using hz
    obtain ⟨g1, wo, wc, g2, g3, g4, g5⟩ := hq i hi
    rw [add_plain, hqz] at g2 g3 g4
    rw [hqz] at g1 g5
    exact ⟨g1, wo, wc, g2, g3, g4, g5⟩

set_option maxRecDepth 100000 in
theorem open_rules {b0 : Nat} {r : Reach} {v : Value} {d : DataW H} {pl : List MemPlace}
    (hv : Value.okWide Tryz.prog w r b0 27 v) (h : DataW.Trod enc Tryz.prog w base spare held 27 v d pl) :
    ∃ (W Ht T : Int) (C A B : ByteArray) (ao : Option Addr) (cap : Nat) (ps : List Pc) (dr st : Bool) (lo re : UInt8) (li plies : Int), v = .agg #[.int .i64 W, .int .i64 Ht, .string C, .int .i64 T, .string A, .string B, .slice ao ps.length cap, .bool dr, .int .u8 (lo.toNat : Int), .int .i64 li, .int .u8 (re.toNat : Int), .bool st, .int .i64 plies] ∧
      C.size ≤ maxLen ∧ A.size ≤ maxLen ∧ B.size ≤ maxLen ∧ isPcs w ao cap ps := by
  obtain ⟨cs, rfl, hsz⟩ := okWide_struct Tryz.underlying27 hv
  rw [cells_rules] at hsz
  obtain ⟨c0, c1, c2, c3, c4, c5, c6, c7, c8, c9, c10, c11, c12, rfl⟩ := array13 hsz
  obtain ⟨fuel, hf⟩ := h
  obtain ⟨xs, n, _, hx, hl, hlen, hfd⟩ := DataW.trod_struct Tryz.underlying27 hf
  obtain ⟨y0, y1, y2, y3, y4, y5, y6, y7, rfl⟩ := list8 hlen
  have f0 := hfd 0 _ rfl
  have f1 := hfd 1 _ rfl
  have f2 := hfd 2 _ rfl
  have f3 := hfd 3 _ rfl
  have f4 := hfd 4 _ rfl
  have f5 := hfd 5 _ rfl
  have f6 := hfd 6 _ rfl
  have f7 := hfd 7 _ rfl
  simp [cells_int, cells_pos, cells_byte, cells_bool, cells_pieces, Value.cells] at f0 f1 f2 f3 f4 f5 f6 f7
  obtain ⟨W, Ht, T, C, A, B, e0, hC, hA, hB⟩ := open_six f0
  obtain ⟨ao, cap, ps, e1, hps⟩ := open_pieces f1
  obtain ⟨dr, e2, _⟩ := DataW.trod_bool Tryz.underlying4 f2
  obtain ⟨lo, e3, _, hlo⟩ := DataW.trod_int Tryz.underlying5 f3
  obtain ⟨li, e4, _, _⟩ := DataW.trod_int Tryz.underlying3 f4
  obtain ⟨re, e5, _, hre⟩ := DataW.trod_int Tryz.underlying5 f5
  obtain ⟨st, e6, _⟩ := DataW.trod_bool Tryz.underlying4 f6
  obtain ⟨pls, e7, _, _⟩ := DataW.trod_int Tryz.underlying3 f7
  have b1 := bounds_u8 hlo
  have b2 := bounds_u8 hre
  have u1 : lo = ((UInt8.ofNat lo.toNat).toNat : Int) := by rw [UInt8.toNat_ofNat']; omega
  have u2 : re = ((UInt8.ofNat re.toNat).toNat : Int) := by rw [UInt8.toNat_ofNat']; omega
  simp only [List.cons.injEq, and_true] at e0 e2 e3 e4 e5 e6 e7
  obtain ⟨rfl, rfl, rfl, rfl, rfl, rfl⟩ := e0
  subst e1 e2 e3 e4 e5 e6 e7
  refine ⟨W, Ht, T, C, A, B, ao, cap, ps, dr, st, UInt8.ofNat lo.toNat, UInt8.ofNat re.toNat, li, pls, ?_, hC, hA, hB, hps⟩
  rw [← u1, ← u2]
end
end Go.Proofs.YtihojhfpepbjhaaGreatDoor

namespace Go.Proofs.YtihojhfpepbjhaaGreatDoor
open Go.RowKit
attribute [local go_sem ↓] Go.wp_at_zero Go.wp_at_succ

theorem grow_below (w : World) (k : Nat) (os : Array Obj) : Below w.heap.size w (Go.Sort.grow (w.drewN k) os) := by
  refine ⟨rfl, rfl, rfl, ?_, ?_⟩
  · simp [Go.Sort.grow, World.drewN]
  · intro i hi
    simp only [Go.Sort.grow, World.drewN]
    rw [Array.getElem?_append_left hi]
/-- Go's table of the powers of ten lies as the program lays it. -/
def isTab (w : World) : Prop := Lib.TabIs Tryz.prog w "internal/strconv.uint64pow10" .u64 Lib.pow10Tab
theorem isTab.below {w w' : World} (h : isTab w) (hb : Below w.heap.size w w') : isTab w' := by
  unfold isTab Lib.TabIs World.var? at *
  cases hg : Tryz.prog.globalNamed "internal/strconv.uint64pow10" with
  | none => simp [hg] at h
  | some g =>
    simp only [hg, Option.bind_some] at h ⊢
    have hlt : g < w.heap.size := by
      rcases Nat.lt_or_ge g w.heap.size with h' | h'
      · exact h'
      · rw [Array.getElem?_eq_none h'] at h; simp at h
    rw [hb.block g hlt]
    exact h
end Go.Proofs.YtihojhfpepbjhaaGreatDoor
