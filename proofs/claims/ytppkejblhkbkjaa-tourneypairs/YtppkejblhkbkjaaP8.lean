/-
  Twos of ints that came in, opened.
-/
import Derived.Test.YtppkejblhkbkjaaZ31
import Derived.Test.YtppkejblhkbkjaaRows
import Derived.WalkKit
import Derived.ProofKit
import Derived.OpenShut
import Derived.ShutString
import Derived.ChangeOld
import Derived.Below
import Derived.Deep.Slices
namespace Go.Proofs.Ytppkejblhkbkjaa
open Go.ChangeShapes Go.WideShapes Go.ChangeAt Go.RowKit

theorem plain_at (b off : Nat) (k : Nat) : (⟨b, off, none⟩ : Addr).add k = ⟨b, off + k, none⟩ := by simp [Addr.add]
theorem cells_two : Try.prog.cellsOf 45 = 2 := by kernel_rfl
theorem cells_int : Try.prog.cellsOf 3 = 1 := by kernel_rfl
theorem list2 {α : Type} {l : List α} (h : l.length = 2) : ∃ c0 c1, l = [c0, c1] := by
  match l, h with
  | [c0, c1], _ => exact ⟨c0, c1, rfl⟩
section
variable {H : Type} {enc : TypeId × Value → H} {w : World} {base : Nat} {spare : Nat → Bool} {held : Bool} {fuel : Nat} {cs : List Value} {x : DataW H × List MemPlace}
theorem open_two (h : DataW.trod enc Try.prog w base spare held fuel 45 cs = some x) : ∃ z : Int × Int, cs = [.int .i64 z.1, .int .i64 z.2] := by
  obtain ⟨xs, n, _, hx, hl, hlen, hfd⟩ := DataW.trod_array Try.underlying45 h
  rw [cells_two] at hl
  obtain ⟨c0, c1, rfl⟩ := list2 hl
  obtain ⟨y0, y1, rfl⟩ := list2 hlen
  have f0 := hfd 0 (by omega)
  have f1 := hfd 1 (by omega)
  simp [cells_int] at f0 f1
  obtain ⟨a, e0, _, _⟩ := DataW.trod_int Try.underlying3 f0
  obtain ⟨b, e1, _, _⟩ := DataW.trod_int Try.underlying3 f1
  simp at e0 e1
  subst e0 e1
  exact ⟨(a, b), rfl⟩
theorem open_twos {v : Value} (h : DataW.trod enc Try.prog w base spare held fuel 40 [v] = some x) : ∃ (ao : Option Addr) (cap : Nat) (l : List (Int × Int)), v = .slice ao l.length cap ∧ isTw w w.heap.size ao cap l := by
  rcases Go.Deep.open_slice Try.underlying40 h with ⟨e, -⟩ | ⟨a, len, cap, m, n, D, Pl, e, hb, hl, hm, hmm, -, hx⟩
  · simp only [List.cons.injEq, and_true] at e
    exact ⟨none, 0, [], e, ⟨Nat.le_refl _, by unfold maxLen; omega, fun h => absurd rfl h⟩⟩
  · simp only [List.cons.injEq, and_true] at e
    have hlm : len ≤ m := by rw [hmm]; split <;> omega
    have each : ∀ i, i < len → ∃ z : Int × Int, w.cell? (a.add (i * 2)) = some (.int .i64 z.1) ∧ w.cell? (a.add (i * 2 + 1)) = some (.int .i64 z.2) := by
      intro i hi
      obtain ⟨cs', h1, h2⟩ := hx i (by omega)
      rw [cells_two] at h1
      obtain ⟨_, hlen, hcell⟩ := World.cells?_some h1
      obtain ⟨z, rfl⟩ := open_two h2
      have e0 := hcell 0 (by omega)
      have e1 := hcell 1 (by omega)
      rw [Go.Deep.add_add] at e0 e1
      exact ⟨z, by simpa using e0, by simpa using e1⟩
    obtain ⟨q, hq⟩ := Go.Deep.choose_lt each
    refine ⟨some a, cap, (List.range len).map q, by simp [e], ⟨by simp; omega, hm, fun hne => ?_⟩⟩
    have hp : 0 < len := by
      rcases Nat.eq_zero_or_pos len with h0 | h0
      · subst h0; exact absurd rfl hne
      · exact h0
    obtain ⟨b, off, spot⟩ := a
    have hspot : spot = none := by simpa [Addr.add] using World.cell?_spot (hq 0 hp).1
    subst hspot
    have hlt : b < w.heap.size := by
      have := World.block_lt_of_cell? w _ (hq 0 hp).1
      rw [plain_at] at this
      exact this
    refine ⟨b, off, rfl, hlt, fun i z hz => ?_⟩
    have hi : i < len := by
      have := (List.getElem?_eq_some_iff.1 hz).1
      simpa using this
    have hqz : q i = z := by simpa [hi] using hz
    have := hq i hi
    rw [plain_at, plain_at, hqz] at this
    exact this
end
end Go.Proofs.Ytppkejblhkbkjaa
