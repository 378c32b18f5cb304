/-
  A position that came in, opened: its six cells; its texts' sizes.
-/
import Derived.Test.YtbcedjjocpjkjaaDoorRows
import Derived.Test.YtbcedjjocpjkjaaDoorProg
import Derived.WalkKit
import Derived.ProofKit
import Derived.OpenShut
import Derived.ShutString
import Derived.ChangeOld
import Derived.Below
namespace Go.Proofs.YtbcedjjocpjkjaaDoor
open Go.ChangeShapes Go.WideShapes Go.ChangeAt Go.RowKit
open Go.ChangeMaps (open_string shut_string)

theorem cells_pos : Tryd.prog.cellsOf 24 = 6 := by kernel_rfl
theorem cells_hands : Tryd.prog.cellsOf 22 = 2 := by kernel_rfl
theorem cells_string : Tryd.prog.cellsOf 9 = 1 := by kernel_rfl
theorem cells_int : Tryd.prog.cellsOf 3 = 1 := by kernel_rfl

theorem array6 {cs : Array Value} (h : cs.size = 6) : ∃ c0 c1 c2 c3 c4 c5, cs = #[c0, c1, c2, c3, c4, c5] := by
  obtain ⟨l⟩ := cs
  match l, h with
  | [c0, c1, c2, c3, c4, c5], _ => exact ⟨c0, c1, c2, c3, c4, c5, rfl⟩
theorem list5 {α : Type} {l : List α} (h : l.length = 5) : ∃ c0 c1 c2 c3 c4, l = [c0, c1, c2, c3, c4] := by
  match l, h with
  | [c0, c1, c2, c3, c4], _ => exact ⟨c0, c1, c2, c3, c4, rfl⟩
theorem list2 {α : Type} {l : List α} (h : l.length = 2) : ∃ c0 c1, l = [c0, c1] := by
  match l, h with
  | [c0, c1], _ => exact ⟨c0, c1, rfl⟩

set_option maxRecDepth 100000 in
theorem open_pos {H : Type} {enc : TypeId × Value → H} {w : World} {base b0 : Nat} {spare : Nat → Bool} {held : Bool} {r : Reach} {v : Value} {d : DataW H} {pl : List MemPlace}
    (hv : Value.okWide Tryd.prog w r b0 24 v) (h : DataW.Trod enc Tryd.prog w base spare held 24 v d pl) :
    ∃ (W Ht T : Int) (C A B : ByteArray), v = .agg #[.int .i64 W, .int .i64 Ht, .string C, .int .i64 T, .string A, .string B] ∧ C.size ≤ maxLen ∧ A.size ≤ maxLen ∧ B.size ≤ maxLen := by
  obtain ⟨cs, rfl, hsz⟩ := okWide_struct Tryd.underlying24 hv
  rw [cells_pos] at hsz
  obtain ⟨c0, c1, c2, c3, c4, c5, rfl⟩ := array6 hsz
  obtain ⟨fuel, hf⟩ := h
  obtain ⟨xs, n, _, hx, hl, hlen, hfd⟩ := DataW.trod_struct Tryd.underlying24 hf
  obtain ⟨y0, y1, y2, y3, y4, rfl⟩ := list5 hlen
  have f0 := hfd 0 _ rfl
  have f1 := hfd 1 _ rfl
  have f2 := hfd 2 _ rfl
  have f3 := hfd 3 _ rfl
  have f4 := hfd 4 _ rfl
  simp [cells_int, cells_string, cells_hands, Value.cells] at f0 f1 f2 f3 f4
  obtain ⟨W, e0, _, _⟩ := DataW.trod_int Tryd.underlying3 f0
  obtain ⟨Ht, e1, _, _⟩ := DataW.trod_int Tryd.underlying3 f1
  obtain ⟨C, e2, _, hC⟩ := DataW.trod_string Tryd.underlying9 f2
  obtain ⟨T, e3, _, _⟩ := DataW.trod_int Tryd.underlying3 f3
  obtain ⟨zs, m, _, _, _, hzl, hz⟩ := DataW.trod_array Tryd.underlying22 f4
  obtain ⟨z0, z1, rfl⟩ := list2 hzl
  have g0 := hz 0 (by omega)
  have g1 := hz 1 (by omega)
  simp [cells_string] at g0 g1
  obtain ⟨A, e4, _, hA⟩ := DataW.trod_string Tryd.underlying9 g0
  obtain ⟨B, e5, _, hB⟩ := DataW.trod_string Tryd.underlying9 g1
  simp at e0 e1 e2 e3 e4 e5
  subst e0 e1 e2 e3 e4 e5
  exact ⟨W, Ht, T, C, A, B, rfl, hC, hA, hB⟩
end Go.Proofs.YtbcedjjocpjkjaaDoor
