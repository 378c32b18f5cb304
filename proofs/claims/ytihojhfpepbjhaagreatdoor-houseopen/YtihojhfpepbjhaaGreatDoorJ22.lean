/-
  A position that came in, opened: its six cells; its texts' sizes.
  Rules that came in, opened: their cells, their pieces in memory.
  (*strings.Builder).copyCheck, WriteByte, WriteString, walked at this program: what the builder holds grows by what is written; nothing below its block turns.
  Texts of positions, plain mathematics: what is written is read, what is read to its end is written so.
  board.writeHand and board.Write, walked: the text of a position.
  board.Write, walked at a position.
  package rules, walked: texts of ways.
-/
import Derived.Test.YtihojhfpepbjhaaGreatDoorRows
import Derived.Test.YtihojhfpepbjhaaGreatDoorProg
import Derived.WalkKit
import Derived.ProofKit
import Derived.OpenShut
import Derived.ShutString
import Derived.ChangeOld
import Derived.Below
import Derived.Test.YtihojhfpepbjhaaGreatDoorJ2
import Derived.Deep.Slices
import Derived.Test.YtihojhfpepbjhaaGreatDoorJ0
import Derived.Shelf.Strings.Builder1
import Derived.Test.YtihojhfpepbjhaaGreatDoorJ1
import Derived.Test.YtihojhfpepbjhaaGreatDoorJ5
import Derived.Test.YtihojhfpepbjhaaGreatDoorJ4
import Derived.BigQuiet
import Derived.IntWalk
namespace Go.Proofs.YtihojhfpepbjhaaGreatDoor
open Go.ChangeShapes Go.WideShapes Go.ChangeAt Go.RowKit
open Go.ChangeMaps (open_string shut_string)

theorem cells_pos : Tryz.prog.cellsOf 24 = 6 := by kernel_rfl
theorem cells_hands : Tryz.prog.cellsOf 22 = 2 := by kernel_rfl
theorem cells_string : Tryz.prog.cellsOf 9 = 1 := by kernel_rfl
theorem cells_int : Tryz.prog.cellsOf 3 = 1 := by kernel_rfl

theorem list5 {α : Type} {l : List α} (h : l.length = 5) : ∃ c0 c1 c2 c3 c4, l = [c0, c1, c2, c3, c4] := by
  match l, h with
  | [c0, c1, c2, c3, c4], _ => exact ⟨c0, c1, c2, c3, c4, rfl⟩
theorem list2 {α : Type} {l : List α} (h : l.length = 2) : ∃ c0 c1, l = [c0, c1] := by
  match l, h with
  | [c0, c1], _ => exact ⟨c0, c1, rfl⟩

end Go.Proofs.YtihojhfpepbjhaaGreatDoor

namespace Go.Proofs.YtihojhfpepbjhaaGreatDoor
open Go.ChangeShapes Go.WideShapes Go.ChangeAt Go.RowKit
open Go.ChangeMaps (open_string shut_string)

theorem cells_way : Tryz.prog.cellsOf 68 = 4 := by kernel_rfl
theorem cells_piece : Tryz.prog.cellsOf 71 = 3 := by kernel_rfl
theorem cells_rules : Tryz.prog.cellsOf 27 = 13 := by kernel_rfl
theorem cells_byte : Tryz.prog.cellsOf 5 = 1 := by kernel_rfl
theorem cells_bool : Tryz.prog.cellsOf 4 = 1 := by kernel_rfl
theorem cells_ways : Tryz.prog.cellsOf 69 = 1 := by kernel_rfl
theorem cells_pieces : Tryz.prog.cellsOf 25 = 1 := by kernel_rfl
theorem list3 {α : Type} {l : List α} (h : l.length = 3) : ∃ c0 c1 c2, l = [c0, c1, c2] := by
  match l, h with
  | [c0, c1, c2], _ => exact ⟨c0, c1, c2, rfl⟩
theorem list4 {α : Type} {l : List α} (h : l.length = 4) : ∃ c0 c1 c2 c3, l = [c0, c1, c2, c3] := by
  match l, h with
  | [c0, c1, c2, c3], _ => exact ⟨c0, c1, c2, c3, rfl⟩
theorem list6 {α : Type} {l : List α} (h : l.length = 6) : ∃ c0 c1 c2 c3 c4 c5, l = [c0, c1, c2, c3, c4, c5] := by
  match l, h with
  | [c0, c1, c2, c3, c4, c5], _ => exact ⟨c0, c1, c2, c3, c4, c5, rfl⟩
theorem list8 {α : Type} {l : List α} (h : l.length = 8) : ∃ c0 c1 c2 c3 c4 c5 c6 c7, l = [c0, c1, c2, c3, c4, c5, c6, c7] := by
  match l, h with
  | [c0, c1, c2, c3, c4, c5, c6, c7], _ => exact ⟨c0, c1, c2, c3, c4, c5, c6, c7, rfl⟩
theorem array13 {cs : Array Value} (h : cs.size = 13) : ∃ c0 c1 c2 c3 c4 c5 c6 c7 c8 c9 c10 c11 c12, cs = #[c0, c1, c2, c3, c4, c5, c6, c7, c8, c9, c10, c11, c12] := by
  obtain ⟨l⟩ := cs
  match l, h with
  | [c0, c1, c2, c3, c4, c5, c6, c7, c8, c9, c10, c11, c12], _ => exact ⟨c0, c1, c2, c3, c4, c5, c6, c7, c8, c9, c10, c11, c12, rfl⟩

section
variable {H : Type} {enc : TypeId × Value → H} {w : World} {base : Nat} {spare : Nat → Bool} {held : Bool} {fuel : Nat} {cs : List Value} {x : DataW H × List MemPlace}

theorem open_six (h : DataW.trod enc Tryz.prog w base spare held fuel 24 cs = some x) :
    ∃ (W Ht T : Int) (C A B : ByteArray), cs = [.int .i64 W, .int .i64 Ht, .string C, .int .i64 T, .string A, .string B] ∧ C.size ≤ maxLen ∧ A.size ≤ maxLen ∧ B.size ≤ maxLen := by
  obtain ⟨xs, n, _, hx, hl, hlen, hfd⟩ := DataW.trod_struct Tryz.underlying24 h
  rw [cells_pos] at hl
  obtain ⟨c0, c1, c2, c3, c4, c5, rfl⟩ := list6 hl
  obtain ⟨y0, y1, y2, y3, y4, rfl⟩ := list5 hlen
  have f0 := hfd 0 _ rfl
  have f1 := hfd 1 _ rfl
  have f2 := hfd 2 _ rfl
  have f3 := hfd 3 _ rfl
  have f4 := hfd 4 _ rfl
  simp [cells_int, cells_string, cells_hands] at f0 f1 f2 f3 f4
  obtain ⟨W, e0, _, _⟩ := DataW.trod_int Tryz.underlying3 f0
  obtain ⟨Ht, e1, _, _⟩ := DataW.trod_int Tryz.underlying3 f1
  obtain ⟨C, e2, _, hC⟩ := DataW.trod_string Tryz.underlying9 f2
  obtain ⟨T, e3, _, _⟩ := DataW.trod_int Tryz.underlying3 f3
  obtain ⟨zs, m, _, _, _, hzl, hz⟩ := DataW.trod_array Tryz.underlying22 f4
  obtain ⟨z0, z1, rfl⟩ := list2 hzl
  have g0 := hz 0 (by omega)
  have g1 := hz 1 (by omega)
  simp [cells_string] at g0 g1
  obtain ⟨A, e4, _, hA⟩ := DataW.trod_string Tryz.underlying9 g0
  obtain ⟨B, e5, _, hB⟩ := DataW.trod_string Tryz.underlying9 g1
  simp at e0 e1 e2 e3 e4 e5
  subst e0 e1 e2 e3 e4 e5
  exact ⟨W, Ht, T, C, A, B, rfl, hC, hA, hB⟩

theorem open_way (h : DataW.trod enc Tryz.prog w base spare held fuel 68 cs = some x) : ∃ z : Wy, cs = [.int .i64 z.k, .int .i64 z.x, .int .i64 z.y, .int .i64 z.t] := by
  obtain ⟨xs, n, _, hx, hl, hlen, hfd⟩ := DataW.trod_struct Tryz.underlying68 h
  rw [cells_way] at hl
  obtain ⟨c0, c1, c2, c3, rfl⟩ := list4 hl
  obtain ⟨y0, y1, y2, y3, rfl⟩ := list4 hlen
  have f0 := hfd 0 _ rfl
  have f1 := hfd 1 _ rfl
  have f2 := hfd 2 _ rfl
  have f3 := hfd 3 _ rfl
  simp [cells_int] at f0 f1 f2 f3
  obtain ⟨a, e0, _, _⟩ := DataW.trod_int Tryz.underlying3 f0
  obtain ⟨b, e1, _, _⟩ := DataW.trod_int Tryz.underlying3 f1
  obtain ⟨c, e2, _, _⟩ := DataW.trod_int Tryz.underlying3 f2
  obtain ⟨d, e3, _, _⟩ := DataW.trod_int Tryz.underlying3 f3
  simp at e0 e1 e2 e3
  subst e0 e1 e2 e3
  exact ⟨⟨a, b, c, d⟩, rfl⟩

instance : Inhabited Wy := ⟨⟨0, 0, 0, 0⟩⟩
instance : Inhabited Pc := ⟨⟨0, 0, []⟩⟩
theorem open_ways {v : Value} (h : DataW.trod enc Tryz.prog w base spare held fuel 69 [v] = some x) : ∃ (ao : Option Addr) (cap : Nat) (ws : List Wy), v = .slice ao ws.length cap ∧ isWys w ao cap ws := by
  rcases Go.Deep.open_slice Tryz.underlying69 h with ⟨e, -⟩ | ⟨a, len, cap, m, n, D, Pl, e, hb, hl, hm, hmm, -, hx⟩
  · simp only [List.cons.injEq, and_true] at e
    exact ⟨none, 0, [], e, ⟨Nat.le_refl _, by unfold maxLen; omega, fun _ => rfl, fun h => absurd rfl h⟩⟩
  · simp only [List.cons.injEq, and_true] at e
    have hlm : len ≤ m := by rw [hmm]; split <;> omega
    have each : ∀ i, i < len → ∃ z : Wy, w.cell? (a.add (i * 4)) = some (.int .i64 z.k) ∧ w.cell? (a.add (i * 4 + 1)) = some (.int .i64 z.x) ∧ w.cell? (a.add (i * 4 + 2)) = some (.int .i64 z.y) ∧ w.cell? (a.add (i * 4 + 3)) = some (.int .i64 z.t) := by
      intro i hi
      obtain ⟨cs', h1, h2⟩ := hx i (by omega)
      rw [cells_way] at h1
      obtain ⟨_, hlen, hcell⟩ := World.cells?_some h1
      obtain ⟨z, rfl⟩ := open_way h2
      have e0 := hcell 0 (by omega)
      have e1 := hcell 1 (by omega)
      have e2 := hcell 2 (by omega)
      have e3 := hcell 3 (by omega)
      rw [Go.Deep.add_add] at e0 e1 e2 e3
      exact ⟨z, by simpa using e0, by simpa using e1, by simpa using e2, by simpa using e3⟩
    obtain ⟨q, hq⟩ := Go.Deep.choose_lt each
    refine ⟨some a, cap, (List.range len).map q, by simp [e], ⟨by simp; omega, hm, fun e => (nomatch e), fun hne => ?_⟩⟩
    have hp : 0 < len := by
      rcases Nat.eq_zero_or_pos len with h0 | h0
      · subst h0; exact absurd rfl hne
      · exact h0
    obtain ⟨b, off, spot⟩ := a
    have hspot : spot = none := by simpa [Addr.add] using World.cell?_spot (hq 0 hp).1
    subst hspot
    have hlt : b < w.heap.size := by
      have := World.block_lt_of_cell? w _ (hq 0 hp).1
      rw [add_plain] at this
      exact this
    refine ⟨b, off, rfl, hlt, fun i z hz => ?_⟩
    have hi : i < len := by
      have := (List.getElem?_eq_some_iff.1 hz).1
      simpa using this
    have hqz : q i = z := by simpa [hi] using hz
    have := hq i hi
    rw [add_plain, add_plain, add_plain, add_plain, hqz] at this
    exact this

theorem open_piece (h : DataW.trod enc Tryz.prog w base spare held fuel 71 cs = some x) : ∃ (p : Pc) (wo : Option Addr) (wc : Nat), p.l < 256 ∧ cs = [.int .u8 (p.l : Int), .int .i64 p.v, .slice wo p.ws.length wc] ∧ isWys w wo wc p.ws := by
  obtain ⟨xs, n, _, hx, hl, hlen, hfd⟩ := DataW.trod_struct Tryz.underlying71 h
  rw [cells_piece] at hl
  obtain ⟨c0, c1, c2, rfl⟩ := list3 hl
  obtain ⟨y0, y1, y2, rfl⟩ := list3 hlen
  have f0 := hfd 0 _ rfl
  have f1 := hfd 1 _ rfl
  have f2 := hfd 2 _ rfl
  simp [cells_int, cells_byte, cells_ways] at f0 f1 f2
  obtain ⟨a, e0, _, ha⟩ := DataW.trod_int Tryz.underlying5 f0
  obtain ⟨b, e1, _, _⟩ := DataW.trod_int Tryz.underlying3 f1
  obtain ⟨ao, cap, ws, e2, hw⟩ := open_ways f2
  simp at e0 e1
  subst e0 e1 e2
  have hb := bounds_u8 ha
  obtain ⟨l, rfl⟩ : ∃ l : Nat, a = l := ⟨a.toNat, by omega⟩
  exact ⟨⟨l, b, ws⟩, ao, cap, by simp only; omega, rfl, hw⟩

theorem open_pieces {v : Value} (h : DataW.trod enc Tryz.prog w base spare held fuel 25 [v] = some x) : ∃ (ao : Option Addr) (cap : Nat) (ps : List Pc), v = .slice ao ps.length cap ∧ isPcs w ao cap ps := by
  rcases Go.Deep.open_slice Tryz.underlying25 h with ⟨e, -⟩ | ⟨a, len, cap, m, n, D, Pl, e, hb, hl, hm, hmm, -, hx⟩
  · simp only [List.cons.injEq, and_true] at e
    exact ⟨none, 0, [], e, ⟨Nat.le_refl _, by unfold maxLen; omega, fun _ => rfl, fun h => absurd rfl h⟩⟩
  · simp only [List.cons.injEq, and_true] at e
    have hlm : len ≤ m := by rw [hmm]; split <;> omega
    have each : ∀ i, i < len → ∃ p : Pc, p.l < 256 ∧ ∃ wo wc, w.cell? (a.add (i * 3)) = some (.int .u8 (p.l : Int)) ∧ w.cell? (a.add (i * 3 + 1)) = some (.int .i64 p.v) ∧ w.cell? (a.add (i * 3 + 2)) = some (.slice wo p.ws.length wc) ∧ isWys w wo wc p.ws := by
      intro i hi
      obtain ⟨cs', h1, h2⟩ := hx i (by omega)
      rw [cells_piece] at h1
      obtain ⟨_, hlen, hcell⟩ := World.cells?_some h1
      obtain ⟨p, wo, wc, hp, rfl, hw⟩ := open_piece h2
      have e0 := hcell 0 (by omega)
      have e1 := hcell 1 (by omega)
      have e2 := hcell 2 (by omega)
      rw [Go.Deep.add_add] at e0 e1 e2
      exact ⟨p, hp, wo, wc, by simpa using e0, by simpa using e1, by simpa using e2, hw⟩
    obtain ⟨q, hq⟩ := Go.Deep.choose_lt each
    refine ⟨some a, cap, (List.range len).map q, by simp [e], ⟨by simp; omega, hm, fun e => (nomatch e), fun hne => ?_⟩⟩
    have hp : 0 < len := by
      rcases Nat.eq_zero_or_pos len with h0 | h0
      · subst h0; exact absurd rfl hne
      · exact h0
    obtain ⟨b, off, spot⟩ := a
    obtain ⟨-, wo0, wc0, hq0, -⟩ := hq 0 hp
    have hspot : spot = none := by simpa [Addr.add] using World.cell?_spot hq0
    subst hspot
    have hlt : b < w.heap.size := by
      have := World.block_lt_of_cell? w _ hq0
      rw [add_plain] at this
      exact this
    refine ⟨b, off, rfl, hlt, fun i z hz => ?_⟩
    have hi : i < len := by
      have := (List.getElem?_eq_some_iff.1 hz).1
      simpa using this
    have hqz : q i = z := by simpa [hi] using hz
    obtain ⟨g1, wo, wc, g2, g3, g4, g5⟩ := hq i hi
    rw [add_plain, hqz] at g2 g3 g4
    rw [hqz] at g1 g5
    exact ⟨g1, wo, wc, g2, g3, g4, g5⟩

set_option maxRecDepth 100000 in
theorem open_rules {b0 : Nat} {r : Reach} {v : Value} {d : DataW H} {pl : List MemPlace}
    (hv : Value.okWide Tryz.prog w r b0 27 v) (h : DataW.Trod enc Tryz.prog w base spare held 27 v d pl) :
    ∃ (W Ht T : Int) (C A B : ByteArray) (ao : Option Addr) (cap : Nat) (ps : List Pc) (dr st : Bool) (lo re : UInt8) (li plies : Int), v = .agg #[.int .i64 W, .int .i64 Ht, .string C, .int .i64 T, .string A, .string B, .slice ao ps.length cap, .bool dr, .int .u8 (lo.toNat : Int), .int .i64 li, .int .u8 (re.toNat : Int), .bool st, .int .i64 plies] ∧
      C.size ≤ maxLen ∧ A.size ≤ maxLen ∧ B.size ≤ maxLen ∧ isPcs w ao cap ps := by
  obtain ⟨cs, rfl, hsz⟩ := okWide_struct Tryz.underlying27 hv
  rw [cells_rules] at hsz
  obtain ⟨c0, c1, c2, c3, c4, c5, c6, c7, c8, c9, c10, c11, c12, rfl⟩ := array13 hsz
  obtain ⟨fuel, hf⟩ := h
  obtain ⟨xs, n, _, hx, hl, hlen, hfd⟩ := DataW.trod_struct Tryz.underlying27 hf
  obtain ⟨y0, y1, y2, y3, y4, y5, y6, y7, rfl⟩ := list8 hlen
  have f0 := hfd 0 _ rfl
  have f1 := hfd 1 _ rfl
  have f2 := hfd 2 _ rfl
  have f3 := hfd 3 _ rfl
  have f4 := hfd 4 _ rfl
  have f5 := hfd 5 _ rfl
  have f6 := hfd 6 _ rfl
  have f7 := hfd 7 _ rfl
  simp [cells_int, cells_pos, cells_byte, cells_bool, cells_pieces, Value.cells] at f0 f1 f2 f3 f4 f5 f6 f7
  obtain ⟨W, Ht, T, C, A, B, e0, hC, hA, hB⟩ := open_six f0
  obtain ⟨ao, cap, ps, e1, hps⟩ := open_pieces f1
  obtain ⟨dr, e2, _⟩ := DataW.trod_bool Tryz.underlying4 f2
  obtain ⟨lo, e3, _, hlo⟩ := DataW.trod_int Tryz.underlying5 f3
  obtain ⟨li, e4, _, _⟩ := DataW.trod_int Tryz.underlying3 f4
  obtain ⟨re, e5, _, hre⟩ := DataW.trod_int Tryz.underlying5 f5
  obtain ⟨st, e6, _⟩ := DataW.trod_bool Tryz.underlying4 f6
  obtain ⟨pls, e7, _, _⟩ := DataW.trod_int Tryz.underlying3 f7
  have b1 := bounds_u8 hlo
  have b2 := bounds_u8 hre
  have u1 : lo = ((UInt8.ofNat lo.toNat).toNat : Int) := by rw [UInt8.toNat_ofNat']; omega
  have u2 : re = ((UInt8.ofNat re.toNat).toNat : Int) := by rw [UInt8.toNat_ofNat']; omega
  simp only [List.cons.injEq, and_true] at e0 e2 e3 e4 e5 e6 e7
  obtain ⟨rfl, rfl, rfl, rfl, rfl, rfl⟩ := e0
  subst e1 e2 e3 e4 e5 e6 e7
  refine ⟨W, Ht, T, C, A, B, ao, cap, ps, dr, st, UInt8.ofNat lo.toNat, UInt8.ofNat re.toNat, li, pls, ?_, hC, hA, hB, hps⟩
  rw [← u1, ← u2]
end
end Go.Proofs.YtihojhfpepbjhaaGreatDoor

namespace Go.Proofs.YtihojhfpepbjhaaGreatDoor
open Go.RowKit

theorem info_u8 : (Tryz.prog.info? 5).map (fun i => (i.zero, i.size, i.bytes)) = some (some (.int .u8 0), 1, 1) := by kernel_rfl
theorem size_bld : (Tryz.prog.info? 129).map (·.size) = some 2 := by kernel_rfl
theorem lies_bld : liesAt Tryz.prog Tryz.prog.depth 129 (2 / Tryz.prog.cellsOf 129) 0 129 1 = true := by kernel_rfl

/-- A builder in block b, all of its own from b on, that holds the bytes bs. -/
abbrev Bld (b : Nat) (l : List UInt8) (w : World) : Prop := Lib.IsBuilder 129 5 b b (Lib.byteCells l) w

set_option maxHeartbeats 1000000 in
set_option maxRecDepth 100000 in
theorem copyCheck_any (b : Nat) (l : List UInt8) (w : World) (h : Bld b l w) :
    Calls Tryz.prog 106 #[.pointer (some ⟨b, 0, none⟩)] w fun e w' => e = .returned (.tuple #[]) ∧ Lib.BuilderAt 129 5 b b (.pointer (some ⟨b, 0, none⟩)) (Lib.byteCells l) w' ∧ Below b w w' := by
  obtain ⟨j, hj, hjs⟩ := Option.map_eq_some_iff.1 size_bld
  rcases h with h | h
  · have h0 := h.cell0
    have hsh := h.shape
    have hfz := h.frozen0
    go_enter Tryz.func106, Tryz.ntmps106
    go_wp2
    rw [Lib.run_to_unsafe w ⟨b, 0, none⟩ Tryz.underlying126 Tryz.underlying192 hj (by rw [hjs]; decide) hsh (Nat.zero_lt_succ 1)]
    simp only [Result.andThen]
    rw [Oper.upon_value]
    go_wp2
    rw [run_callFunc_extern Tryz.func146 (by kernel_rfl) (by kernel_rfl) (by kernel_rfl) (e := Extern.AbiNoEscape.same) (by kernel_rfl)]
    rw [Lib.run_noEscape]
    simp only [Result.andThen]
    rw [Oper.upon_value]
    go_wp2
    rw [Lib.run_from_unsafe w ⟨b, 0, none⟩ Tryz.underlying192 Tryz.underlying126 hj hsh lies_bld]
    simp only [Result.andThen]
    rw [Oper.upon_value]
    go_wp2
    go_end0
    exact ⟨rfl, h.used _, (Below.refl b w).setCell (p := ⟨b, 0, none⟩) (Nat.le_refl _) _⟩
  · have h0 := h.cell0
    go_enter Tryz.func106, Tryz.ntmps106
    go_wp2
    rw [Lib.run_neq_ptr_same w _ Tryz.underlying126 hj]
    go_wp2
    go_end0
    exact ⟨rfl, h, Below.refl b _⟩

set_option maxHeartbeats 2000000 in
set_option maxRecDepth 100000 in
theorem WriteByte_any (b : Nat) (l : List UInt8) (c : UInt8) (w : World) (h : Bld b l w) (hlen : l.length < 1000000) :
    Calls Tryz.prog 70 #[.pointer (some ⟨b, 0, none⟩), .int .u8 (c.toNat : Int)] w fun e w' => e = .returned .nilIface ∧ Bld b (l ++ [c]) w' ∧ Below b w w' := by
  obtain ⟨i0, hi, hz0, hz1, hz2⟩ := info_parts info_u8
  have hbs : b < w.heap.size := by
    rcases h with h | h
    · exact h.lt
    · exact h.lt
  go_enter Tryz.func70, Tryz.ntmps70
  go_wp2_with (go_at_call 106; refine (copyCheck_any b l _ h).mono ?_)
  rintro e w1 ⟨rfl, h1, hb1⟩
  have hsz := hb1.size
  obtain ⟨hB, v, hbk, hown, hne⟩ := h1
  have c0 : w1.cell? ⟨b, 0, none⟩ = some (.pointer (some ⟨b, 0, none⟩)) := by rw [Lib.cell_of_heap hbk]; rfl
  have c1 : w1.cell? ⟨b, 1, none⟩ = some v := by rw [Lib.cell_of_heap hbk]; rfl
  have hll : (Lib.byteCells l).length = l.length := Lib.byteCells_length l
  go_wp2_with (at_builtin; refine wpList_append_own _ rfl _ _ 127 rfl b 5 i0 (.int .u8 0) 1 1 Tryz.underlying127 hi hz0 hz1 hz2 rfl (by decide) _ _ _ rfl (hown.alloc _) ⟨w1.heap.size, 0, none⟩ 1 1 [.int .u8 (c.toNat : Int)] rfl rfl ?c1 ?c2 ?c3 ?c4 ?c5 ?_)
  case c1 =>
    intro j u hj
    match j, hj with
    | 0, hj => simp at hj; subst hj; simp [Addr.add]
  case c2 => intro u hu; simp at hu; subst hu; rfl
  case c3 => unfold maxLen; omega
  case c4 => omega
  case c5 => simp; omega
  intro v' w2 hown' hgrow _
  have hlt : b < w1.heap.size := by omega
  have hb2 : w2.heap[b]? = some (.cells #[.pointer (some ⟨b, 0, none⟩), v] 129 (0, 0)) := by
    rw [hgrow.block b (by simp; omega) (fun e => hne e.symm), Lib.alloc_old w1 _ b hlt]
    exact hbk
  have d0 : w2.cell? ⟨b, 0, none⟩ = some (.pointer (some ⟨b, 0, none⟩)) := by rw [Lib.cell_of_heap hb2]; rfl
  have d1 : w2.cell? ⟨b, 1, none⟩ = some v := by rw [Lib.cell_of_heap hb2]; rfl
  have f1 : w2.frozen? ⟨b, 1, none⟩ = false := Lib.frozen_of_heap hb2 1
  obtain ⟨g, cap, rfl⟩ : ∃ g cap, v' = .slice (some ⟨g, 0, none⟩) (l.length + 1) cap := by
    rcases hown'.2 with ⟨_, h0⟩ | ⟨g, cap, cur, hv, _⟩
    · omega
    · exact ⟨g, cap, hv⟩
  go_wp2
  go_ret
  refine ⟨rfl, Or.inr ?_, ?_⟩
  · have hcs : Lib.byteCells (l ++ [c]) = Lib.byteCells l ++ [.int .u8 (c.toNat : Int)] := by simp [Lib.byteCells]
    rw [hcs]
    exact Lib.BuilderAt.put (T := 129) (e := 5) hB hb2 (bs' := Lib.byteCells l ++ [.int .u8 (c.toNat : Int)]) (by simpa [hll] using hown') (by decide)
  · exact ((hb1.alloc (by omega) _).grown hgrow (by simp; omega) (fun k hk => (hown.lt k hk).1)).setCell (p := ⟨b, 1, none⟩) hB _

set_option maxHeartbeats 2000000 in
set_option maxRecDepth 100000 in
theorem WriteString_any (b : Nat) (l : List UInt8) (s : ByteArray) (w : World) (h : Bld b l w) (hlen : l.length < 1000000) (hs : s.size < 1000000) :
    Calls Tryz.prog 69 #[.pointer (some ⟨b, 0, none⟩), .string s] w fun e w' => e = .returned (.tuple #[.int .i64 s.size, .nilIface]) ∧ Bld b (l ++ s.data.toList) w' ∧ Below b w w' := by
  obtain ⟨i0, hi, hz0, hz1, hz2⟩ := info_parts info_u8
  have hbs : b < w.heap.size := by
    rcases h with h | h
    · exact h.lt
    · exact h.lt
  go_enter Tryz.func69, Tryz.ntmps69
  go_wp2_with (go_at_call 106; refine (copyCheck_any b l _ h).mono ?_)
  rintro e w1 ⟨rfl, h1, hb1⟩
  have hsz := hb1.size
  obtain ⟨hB, v, hbk, hown, hne⟩ := h1
  have c0 : w1.cell? ⟨b, 0, none⟩ = some (.pointer (some ⟨b, 0, none⟩)) := by rw [Lib.cell_of_heap hbk]; rfl
  have c1 : w1.cell? ⟨b, 1, none⟩ = some v := by rw [Lib.cell_of_heap hbk]; rfl
  have hll : (Lib.byteCells l).length = l.length := Lib.byteCells_length l
  go_wp2_with (at_builtin; refine Lib.wpList_append_own_string _ rfl _ _ 127 9 rfl b 5 i0 Tryz.underlying127 Tryz.underlying9 hi hz0 hz1 hz2 _ _ _ rfl hown s rfl ?c3 ?c4 ?c5 ?_)
  case c3 => unfold maxLen; omega
  case c4 => omega
  case c5 => omega
  intro v' w2 hown' hgrow _
  have hlt : b < w1.heap.size := by omega
  have hb2 : w2.heap[b]? = some (.cells #[.pointer (some ⟨b, 0, none⟩), v] 129 (0, 0)) := by
    rw [hgrow.block b hlt (fun e => hne e.symm)]
    exact hbk
  have d0 : w2.cell? ⟨b, 0, none⟩ = some (.pointer (some ⟨b, 0, none⟩)) := by rw [Lib.cell_of_heap hb2]; rfl
  have d1 : w2.cell? ⟨b, 1, none⟩ = some v := by rw [Lib.cell_of_heap hb2]; rfl
  have f1 : w2.frozen? ⟨b, 1, none⟩ = false := Lib.frozen_of_heap hb2 1
  obtain ⟨ao, n', cap, rfl⟩ : ∃ ao n' cap, v' = .slice ao n' cap := by
    rcases hown'.2 with ⟨hv, _⟩ | ⟨g, cap, cur, hv, _⟩
    · exact ⟨_, _, _, hv⟩
    · exact ⟨_, _, _, hv⟩
  go_wp2
  go_ret2
  have hcs : Lib.byteCells (l ++ s.data.toList) = Lib.byteCells l ++ Lib.strCells s := by simp [Lib.byteCells, Lib.strCells]
  refine ⟨rfl, Or.inr ?_, ?_⟩
  · rw [hcs]
    exact Lib.BuilderAt.put (T := 129) (e := 5) hB hb2 (bs' := Lib.byteCells l ++ Lib.strCells s) (by simpa [Lib.strCells_length, hll] using hown') (by decide)
  · exact (hb1.grown hgrow (by omega) (fun k hk => (hown.lt k hk).1)).setCell (p := ⟨b, 1, none⟩) hB _

/-! ### (*strings.Builder).String: the library's contract, at this program's numbers -/
def str_ren : Go.Shelf.Ren := ⟨fun | 169 => 72 | n => n, fun | 0 => 0 | 3 => 3 | 5 => 5 | 9 => 9 | 37 => 127 | 70 => 126 | 72 => 129 | 127 => 156 | n => n, fun | n => n⟩
theorem str_lays : Go.Proofs.Lays.n169 Tryz.prog str_ren := {
  mixed := by kernel_rfl
  f169 := Tryz.func72.trans (congrArg some (by kernel_rfl))
  t0 := Tryz.underlying0
  a0 := Tryz.isAgg0
  z0 := Tryz.sizeOf0
  v0 := Tryz.zeroValue0
  t3 := Tryz.underlying3
  a3 := Tryz.isAgg3
  z3 := Tryz.sizeOf3
  v3 := Tryz.zeroValue3
  t9 := Tryz.underlying9
  a9 := Tryz.isAgg9
  z9 := Tryz.sizeOf9
  v9 := Tryz.zeroValue9
  t37 := Tryz.underlying127
  a37 := Tryz.isAgg127
  z37 := Tryz.sizeOf127
  v37 := Tryz.zeroValue127
  t70 := Tryz.underlying126
  a70 := Tryz.isAgg126
  z70 := Tryz.sizeOf126
  v70 := Tryz.zeroValue126
  t72 := Tryz.underlying129
  a72 := Tryz.isAgg129
  z72 := Tryz.sizeOf129
  v72 := Tryz.zeroValue129
  t127 := Tryz.underlying156
  a127 := Tryz.isAgg156
  z127 := Tryz.sizeOf156
  v127 := Tryz.zeroValue156 }
theorem str_extra : Builder.Extra Tryz.prog str_ren := {
  sizeBuilder := by kernel_rfl
  liesBuilder := by kernel_rfl
  t5 := Tryz.underlying5
  a5 := Tryz.isAgg5
  z5 := Tryz.sizeOf5
  v5 := Tryz.zeroValue5
  infoByte := by kernel_rfl
  cellsByte := by kernel_rfl
  sizeByte := by kernel_rfl
  neB5 := by decide }
theorem String_any (b : Nat) (l : List UInt8) (w : World) (h : Bld b l w) :
    Calls Tryz.prog 72 #[.pointer (some ⟨b, 0, none⟩)] w fun e w' => e = .returned (.string ⟨l.toArray⟩) ∧ Below b w w' :=
  Any.Builder_String_any str_lays str_extra b b l w h (by
    rcases h with h | h
    · exact Nat.le_of_lt h.lt
    · exact Nat.le_of_lt h.lt)
end Go.Proofs.YtihojhfpepbjhaaGreatDoor

namespace Go.Proofs.YtihojhfpepbjhaaGreatDoor

/-! ### Texts of positions: what is written, what is read -/

/-- The rows from the top one (of y) down, '/' between two. -/
def wrows (W : Nat) (C : List UInt8) : Nat → List UInt8
  | 0 => []
  | y + 1 => (C.drop (y * W)).take W ++ (if y = 0 then [] else 47 :: wrows W C y)
def whand (A : List UInt8) : List UInt8 := if A = [] then [45] else A
def wtxt (W H : Nat) (C : List UInt8) (T : Int) (A B : List UInt8) : List UInt8 :=
  wrows W C H ++ 32 :: (if T = 0 then 119 else 98) :: 32 :: (whand A ++ 47 :: whand B)

/-- How many capital letters stand at the head, none below b, none behind a greater one, at most m. -/
def hN : Nat → Int → List UInt8 → Nat
  | 0, _, _ => 0
  | _, _, [] => 0
  | m + 1, b, x :: l => if capB x.toNat && decide (b ≤ x.toNat) then hN m x.toNat l + 1 else 0

/-! ### Hands, and the whole -/

end Go.Proofs.YtihojhfpepbjhaaGreatDoor

namespace Go.Proofs.YtihojhfpepbjhaaGreatDoor
open Go.RowKit

theorem Bld.lt {b : Nat} {l : List UInt8} {w : World} (h : Bld b l w) : b < w.heap.size := by
  rcases h with h | h
  · exact h.lt
  · exact h.lt

theorem Bld.fresh (w : World) : Bld w.heap.size [] (w.alloc (.cells #[.pointer none, .slice none 0 0] 129 (0, 0))) := by
  refine Or.inl ⟨Nat.le_refl _, .slice none 0 0, heap_alloc_new w _, ?_, by simp [Value.ownBlock]⟩
  exact ⟨rfl, Or.inl ⟨rfl, rfl⟩⟩

theorem Bld.drew {b : Nat} {l : List UInt8} {w : World} (h : Bld b l w) : Bld b l w.drew := h

set_option maxHeartbeats 400000 in
theorem writeHand_any (b : Nat) (l : List UInt8) (s : ByteArray) (w : World) (h : Bld b l w) (hlen : l.length < 1000000) (hs : s.size < 1000000) :
    Calls Tryz.prog 71 #[.pointer (some ⟨b, 0, none⟩), .string s] w fun e w' => e = .returned (.tuple #[]) ∧ Bld b (l ++ whand s.data.toList) w' ∧ Below b w w' := by
  by_cases h0 : s.size = 0
  · have hs : s = ⟨#[]⟩ := by
      apply ByteArray.ext
      exact Array.eq_empty_of_size_eq_zero h0
    subst hs
    go_enter Tryz.func71, Tryz.ntmps71
    go_wp2_with (go_at_call 70; refine (WriteByte_any b l 45 _ h hlen).mono ?_)
    rintro e w1 ⟨rfl, h1, hb1⟩
    go_wp2
    refine bodyPost_ret (v := .tuple #[]) (by simp [results, Tryz.results71]) rfl ⟨rfl, h1, hb1⟩
  · have hne : s.data.toList ≠ [] := fun e => h0 (by rw [← len_data, e]; rfl)
    have hw : whand s.data.toList = s.data.toList := by rw [whand, if_neg hne]
    have hne2 : s.toList.isEmpty = false := by rw [Lib.toList_data, List.isEmpty_eq_false_iff]; exact hne
    go_enter Tryz.func71, Tryz.ntmps71
    go_wp2_with (go_at_call 69; refine (WriteString_any b l s _ h hlen hs).mono ?_)
    rintro e w1 ⟨rfl, h1, hb1⟩
    go_wp2
    go_end0
    exact ⟨rfl, by rw [hw]; exact h1, hb1⟩

end Go.Proofs.YtihojhfpepbjhaaGreatDoor

namespace Go.Proofs.YtihojhfpepbjhaaGreatDoor
open Go.RowKit

theorem wrows_length (W : Nat) (C : List UInt8) : ∀ n, (wrows W C n).length ≤ n * (W + 1)
  | 0 => by simp [wrows]
  | n + 1 => by
    have := wrows_length W C n
    rw [wrows, List.length_append, Nat.succ_mul]
    have h1 : (List.take W (List.drop (n * W) C)).length ≤ W := by simp; omega
    split <;> simp <;> omega

set_option maxHeartbeats 1000000 in
set_option maxRecDepth 100000 in
theorem Write_ok {W H : Nat} {T : Int} {C A B : ByteArray} (w : World) (p : IsPos W H C T A B) :
    Calls Tryz.prog 37 #[.agg #[.int .i64 W, .int .i64 H, .string C, .int .i64 T, .string A, .string B]] w fun e w' =>
      e = .returned (.tuple #[.string ⟨(wtxt W H C.data.toList T A.data.toList B.data.toList).toArray⟩, .int .i64 0]) ∧ Below w.heap.size w w' := by
  have HP := hide p
  have h64 := p.c64
  have hA := p.as
  have hB := p.bs
  have hW0 := p.w0
  have hW1 := p.w1
  have hH0 := p.h0
  have hH1 := p.h1
  have HC : Hid (C.size = W * H) := p.c
  have hT := p.t
  clear p
  go_enter Tryz.func37, Tryz.ntmps37
  go_wp2_with fail
  refine (Check_ok _ _ _ _ _ _ _ (by unfold maxLen; omega) (by unfold maxLen; omega) (by unfold maxLen; omega) (unhide HP).posB).mono ?_
  rintro e w1 ⟨rfl, hb1⟩
  have hs1 : w.heap.size + 1 ≤ w1.heap.size := by have := hb1.size; simp at this; omega
  obtain ⟨hc1, hf1⟩ := bcell hb1
  have d0 : w1.cell? ⟨w.heap.size, 0, none⟩ = some (.int .i64 W) := (hc1 w.heap.size 0 (by simp)).trans (by simp)
  have d1 : w1.cell? ⟨w.heap.size, 1, none⟩ = some (.int .i64 H) := (hc1 w.heap.size 1 (by simp)).trans (by simp)
  have d2 : w1.cell? ⟨w.heap.size, 2, none⟩ = some (.string C) := (hc1 w.heap.size 2 (by simp)).trans (by simp)
  have d3 : w1.cell? ⟨w.heap.size, 3, none⟩ = some (.int .i64 T) := (hc1 w.heap.size 3 (by simp)).trans (by simp)
  have d4 : w1.cell? ⟨w.heap.size, 4, none⟩ = some (.string A) := (hc1 w.heap.size 4 (by simp)).trans (by simp)
  have d5 : w1.cell? ⟨w.heap.size, 5, none⟩ = some (.string B) := (hc1 w.heap.size 5 (by simp)).trans (by simp)
  have hbw : Below w.heap.size w w1 := Below.trans ((Below.refl _ _).alloc (Nat.le_refl _) _) (hb1.mono (by simp))
  clear hc1 hf1 hb1
  have a1 : ∀ o, (w1.alloc o).cell? ⟨w.heap.size, 1, none⟩ = some (.int .i64 H) := fun o => (((Below.refl w1.heap.size w1).alloc (Nat.le_refl _) o).cell (p := ⟨w.heap.size, 1, none⟩) (by dsimp only; omega)).trans d1
  go_wp2
  clear a1
  have hfr := Bld.fresh w1
  go_loopw [6] (fun i wr => ∃ (k : Nat) (pre : List UInt8), k ≤ H ∧ i = .int .i64 ((k : Int) - 1) ∧ pre ++ wrows W C.data.toList k = wrows W C.data.toList H ∧ Bld w1.heap.size pre wr ∧ Below w1.heap.size w1 wr) (fun i _ => (intOf i + 1).toNat)
  case atStart => exact ⟨H, [], Nat.le_refl _, by go_num, rfl, hfr, (Below.refl _ _).alloc (Nat.le_refl _) _⟩
  case round =>
    obtain ⟨k, pre, hk, rfl, hpre, hbl, hbr⟩ := hrel
    clear hfr
    have hsz : w1.heap.size ≤ wr.heap.size := hbr.size
    have e0 := (hbr.cell (p := ⟨w.heap.size, 0, none⟩) (by dsimp only; omega)).trans d0
    have e2 := (hbr.cell (p := ⟨w.heap.size, 2, none⟩) (by dsimp only; omega)).trans d2
    have e3 := (hbr.cell (p := ⟨w.heap.size, 3, none⟩) (by dsimp only; omega)).trans d3
    have e4 := (hbr.cell (p := ⟨w.heap.size, 4, none⟩) (by dsimp only; omega)).trans d4
    have e5 := (hbr.cell (p := ⟨w.heap.size, 5, none⟩) (by dsimp only; omega)).trans d5
    have hpl : pre.length ≤ 72 := by
      have h1 := congrArg List.length hpre
      have h2 := wrows_length W C.data.toList H
      have h3 : H * (W + 1) ≤ 8 * 9 := Nat.mul_le_mul hH1 (by omega)
      rw [List.length_append] at h1
      omega
    cases k with
    | zero =>
      have hpe : pre = wrows W C.data.toList H := by rw [← hpre]; simp [wrows]
      have HPE := hide hpe
      have hA9 : A.data.toList.length ≤ 8 := by rw [len_data]; exact hA
      have hwA : (whand A.data.toList).length ≤ 8 := by unfold whand; split <;> simp <;> omega
      clear hpe hpre
      rcases hT with rfl | rfl
      · go_wp2_with fail
        refine (WriteString_any _ pre ⟨#[32, 119, 32]⟩ _ hbl (by omega) (by decide)).mono ?_
        rintro e w2 ⟨rfl, hbl2, hb2⟩
        have hs2 := hb2.size
        have q4 := (hb2.cell (p := ⟨w.heap.size, 4, none⟩) (by dsimp only; omega)).trans e4
        have q5 := (hb2.cell (p := ⟨w.heap.size, 5, none⟩) (by dsimp only; omega)).trans e5
        go_wp2_with fail
        refine (writeHand_any _ _ A _ hbl2 (by rw [List.length_append]; simp; omega) (by omega)).mono ?_
        rintro e w3 ⟨rfl, hbl3, hb3⟩
        have hs3 := hb3.size
        have t5 := (hb3.cell (p := ⟨w.heap.size, 5, none⟩) (by dsimp only; omega)).trans q5
        go_wp2_with fail
        refine (WriteByte_any _ _ 47 _ hbl3 (by rw [List.length_append, List.length_append]; simp; omega)).mono ?_
        rintro e w4 ⟨rfl, hbl4, hb4⟩
        have hs4 := hb4.size
        have v5 := (hb4.cell (p := ⟨w.heap.size, 5, none⟩) (by dsimp only; omega)).trans t5
        go_wp2_with fail
        refine (writeHand_any _ _ B _ hbl4 (by rw [List.length_append, List.length_append, List.length_append]; simp; omega) (by omega)).mono ?_
        rintro e w5 ⟨rfl, hbl5, hb5⟩
        go_wp2_with fail
        refine (String_any _ _ _ hbl5).mono ?_
        rintro e w6 ⟨rfl, hb6⟩
        go_wp2
        go_ret2
        refine ⟨?_, hbw.trans (((((hbr.trans hb2).trans hb3).trans hb4).trans hb5).trans hb6 |>.mono (by omega))⟩
        rw [unhide HPE]
        simp [wtxt]
      · go_wp2_with fail
        refine (WriteString_any _ pre ⟨#[32, 98, 32]⟩ _ hbl (by omega) (by decide)).mono ?_
        rintro e w2 ⟨rfl, hbl2, hb2⟩
        have hs2 := hb2.size
        have q4 := (hb2.cell (p := ⟨w.heap.size, 4, none⟩) (by dsimp only; omega)).trans e4
        have q5 := (hb2.cell (p := ⟨w.heap.size, 5, none⟩) (by dsimp only; omega)).trans e5
        go_wp2_with fail
        refine (writeHand_any _ _ A _ hbl2 (by rw [List.length_append]; simp; omega) (by omega)).mono ?_
        rintro e w3 ⟨rfl, hbl3, hb3⟩
        have hs3 := hb3.size
        have t5 := (hb3.cell (p := ⟨w.heap.size, 5, none⟩) (by dsimp only; omega)).trans q5
        go_wp2_with fail
        refine (WriteByte_any _ _ 47 _ hbl3 (by rw [List.length_append, List.length_append]; simp; omega)).mono ?_
        rintro e w4 ⟨rfl, hbl4, hb4⟩
        have hs4 := hb4.size
        have v5 := (hb4.cell (p := ⟨w.heap.size, 5, none⟩) (by dsimp only; omega)).trans t5
        go_wp2_with fail
        refine (writeHand_any _ _ B _ hbl4 (by rw [List.length_append, List.length_append, List.length_append]; simp; omega) (by omega)).mono ?_
        rintro e w5 ⟨rfl, hbl5, hb5⟩
        go_wp2_with fail
        refine (String_any _ _ _ hbl5).mono ?_
        rintro e w6 ⟨rfl, hb6⟩
        go_wp2
        go_ret2
        refine ⟨?_, hbw.trans (((((hbr.trans hb2).trans hb3).trans hb4).trans hb5).trans hb6 |>.mono (by omega))⟩
        rw [unhide HPE]
        simp [wtxt]
    | succ j =>
      obtain ⟨m, hm⟩ : ∃ m, m = j * W := ⟨_, rfl⟩
      have hmW : m + W = (j + 1) * W := by rw [hm, Nat.succ_mul]
      have hle : m + W ≤ C.size := by rw [hmW, unhide HC, Nat.mul_comm W H]; exact Nat.mul_le_mul_right _ hk
      have hmi : (j : Int) * (W : Int) = (m : Int) := by rw [hm]; simp
      have hni : ((j : Int) + 1) * (W : Int) = ((m + W : Nat) : Int) := by rw [hmW]; simp
      have hji : ((j + 1 : Nat) : Int) - 1 = (j : Int) := by omega
      rw [hji]
      clear hji
      have HM := hide hm
      have HMW := hide hmW
      clear hm hmW
      have hx : (C.extract m (m + W)).data.toList = (C.data.toList.drop m).take W := by
        rw [ByteArray.data_extract, Array.toList_extract, List.extract_eq_take_drop]
        congr 1
        omega
      have hxs : (C.extract m (m + W)).size ≤ 8 := by rw [ByteArray.size_extract]; omega
      have HX := hide hx
      clear hx
      have hrow : pre ++ ((C.data.toList.drop m).take W ++ (if j = 0 then [] else 47 :: wrows W C.data.toList j)) = wrows W C.data.toList H := by
        rw [← hpre, wrows, ← unhide HM]
      have HROW := hide hrow
      clear hrow
      go_wp2_with fail
      generalize C.extract m (m + W) = X at HX hxs ⊢
      refine (WriteString_any _ pre X _ hbl (by omega) (by omega)).mono ?_
      rintro e w2 ⟨rfl, hbl2, hb2⟩
      rw [unhide HX] at hbl2
      have hbr2 := hbr.trans hb2
      by_cases hj : j = 0
      · subst hj
        go_wp2
        go_roundw
        case rel => exact ⟨0, pre ++ (C.data.toList.drop m).take W, by omega, by go_num, by rw [← unhide HROW]; simp [wrows], hbl2, hbr2⟩
        case measure => simp [intOf]
      · have hj0 : (0 : Int) < (j : Int) := by omega
        go_wp2_with fail
        refine (WriteByte_any _ _ 47 _ hbl2 (by rw [List.length_append, List.length_take]; omega)).mono ?_
        rintro e w3 ⟨rfl, hbl3, hb3⟩
        have hbr3 := hbr2.trans hb3
        go_wp2
        go_roundw
        case rel => exact ⟨j, _, by omega, by go_num, by rw [← unhide HROW, if_neg hj, List.append_assoc, List.append_assoc]; rfl, hbl3, hbr3⟩
        case measure => simp [intOf]
end Go.Proofs.YtihojhfpepbjhaaGreatDoor

namespace Go.Proofs.YtihojhfpepbjhaaGreatDoor
open Go.RowKit
attribute [local go_sem ↓] Go.wp_at_zero Go.wp_at_succ

theorem grow_below (w : World) (k : Nat) (os : Array Obj) : Below w.heap.size w (Go.Sort.grow (w.drewN k) os) := by
  refine ⟨rfl, rfl, rfl, ?_, ?_⟩
  · simp [Go.Sort.grow, World.drewN]
  · intro i hi
    simp only [Go.Sort.grow, World.drewN]
    rw [Array.getElem?_append_left hi]
/-- Go's table of the powers of ten lies as the program lays it. -/
def isTab (w : World) : Prop := Lib.TabIs Tryz.prog w "internal/strconv.uint64pow10" .u64 Lib.pow10Tab
theorem isTab.below {w w' : World} (h : isTab w) (hb : Below w.heap.size w w') : isTab w' := by
  unfold isTab Lib.TabIs World.var? at *
  cases hg : Tryz.prog.globalNamed "internal/strconv.uint64pow10" with
  | none => simp [hg] at h
  | some g =>
    simp only [hg, Option.bind_some] at h ⊢
    have hlt : g < w.heap.size := by
      rcases Nat.lt_or_ge g w.heap.size with h' | h'
      · exact h'
      · rw [Array.getElem?_eq_none h'] at h; simp at h
    rw [hb.block g hlt]
    exact h
end Go.Proofs.YtihojhfpepbjhaaGreatDoor
