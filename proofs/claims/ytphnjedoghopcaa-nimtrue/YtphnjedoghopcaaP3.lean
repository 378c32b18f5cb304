/-
  Lists of numbers, and lists of lists of them, that came in, opened.
-/
import Derived.Test.YtphnjedoghopcaaQ1
import Derived.Test.YtphnjedoghopcaaRows
import Derived.WalkKit
import Derived.ProofKit
import Derived.OpenShut
import Derived.ShutString
import Derived.ChangeOld
import Derived.Below
import Derived.Deep.Slices
namespace Go.Proofs.Ytphnjedoghopcaa
open Go.ChangeShapes Go.WideShapes Go.ChangeAt Go.RowKit
open Go.ChangeMaps (open_string shut_string)

theorem plain_at (b off : Nat) (k : Nat) : (⟨b, off, none⟩ : Addr).add k = ⟨b, off + k, none⟩ := by simp [Addr.add]
theorem open_is {H : Type} {enc : TypeId × Value → H} {w : World} {base : Nat} {spare : Nat → Bool} {held : Bool} {fuel : Nat} {v : Value} {x : DataW H × List MemPlace} (h : DataW.trod enc Try.prog w base spare held fuel 22 [v] = some x) :
    ∃ (ao : Option Addr) (cap : Nat) (r : List Int), v = .slice ao r.length cap ∧ isIs w w.heap.size ao cap r := by
  rcases open_ints Try.underlying22 Try.underlying3 (by kernel_rfl) h with ⟨hcs, _⟩ | ⟨a, l, c, zs, hcs, _, hl, hm, hz, _, hcell, _⟩
  · simp only [List.cons.injEq, and_true] at hcs
    exact ⟨none, 0, [], hcs, Nat.le_refl _, by unfold maxLen; omega, fun h => absurd rfl h⟩
  · simp only [List.cons.injEq, and_true] at hcs
    have hlz : l ≤ zs.length := by rw [hz]; split <;> omega
    have htl : (zs.take l).length = l := by rw [List.length_take]; omega
    refine ⟨some a, c, zs.take l, by rw [htl]; exact hcs, by rw [htl]; exact hl, hm, fun hne => ?_⟩
    have hp : 0 < zs.length := by
      rcases Nat.eq_zero_or_pos zs.length with h0 | h0
      · exact absurd (by rw [List.eq_nil_of_length_eq_zero h0]; simp) hne
      · exact h0
    obtain ⟨b, off, spot⟩ := a
    have hc0 := hcell 0 hp
    have hspot : spot = none := by simpa [Addr.add] using World.cell?_spot hc0
    subst hspot
    have hlt : b < w.heap.size := by
      have := World.block_lt_of_cell? w _ hc0
      rw [plain_at] at this
      exact this
    refine ⟨b, off, rfl, hlt, fun k y hy => ?_⟩
    have hk : k < l := by have := (List.getElem?_eq_some_iff.1 hy).1; omega
    have := hcell k (by omega)
    rw [plain_at] at this
    rw [this]
    rw [List.getElem?_take, if_pos hk] at hy
    simp [List.getD, hy]
theorem open_graph {H : Type} {enc : TypeId × Value → H} {w : World} {base : Nat} {spare : Nat → Bool} {held : Bool} {fuel : Nat} {v : Value} {x : DataW H × List MemPlace} (h : DataW.trod enc Try.prog w base spare held fuel 33 [v] = some x) :
    ∃ (ao : Option Addr) (cap : Nat) (G : List (List Int)), v = .slice ao G.length cap ∧ isG w w.heap.size ao cap G := by
  rcases Go.Deep.open_slice1 Try.underlying33 (by kernel_rfl) h with ⟨e, rfl⟩ | ⟨a, len, cap, m, n, V, D, Pl, e, hb, hl, hcm, hmm, rfl, hx⟩
  · simp only [List.cons.injEq, and_true] at e
    exact ⟨none, 0, [], e, Nat.le_refl _, by unfold maxLen; omega, fun h => absurd rfl h⟩
  · simp only [List.cons.injEq, and_true] at e
    have hlm : len ≤ m := by rw [hmm]; split <;> omega
    have each : ∀ i, i < len → ∃ r : List Int, ∃ ro rc, w.cell? (a.add i) = some (.slice ro r.length rc) ∧ isIs w w.heap.size ro rc r := by
      intro i hi
      obtain ⟨h1, h2⟩ := hx i (by omega)
      obtain ⟨ro, rc, r, e2, h3⟩ := open_is h2
      exact ⟨r, ro, rc, by rw [h1, e2], h3⟩
    obtain ⟨q, hq⟩ := Go.Deep.choose_lt each
    refine ⟨some a, cap, (List.range len).map q, by simp [e], by simp; omega, hcm, fun hne => ?_⟩
    have hp : 0 < len := by
      rcases Nat.eq_zero_or_pos len with h0 | h0
      · subst h0; exact absurd rfl hne
      · exact h0
    obtain ⟨b, off, spot⟩ := a
    obtain ⟨no0, nc0, hq0, -⟩ := hq 0 hp
    have hspot : spot = none := by simpa [Addr.add] using World.cell?_spot hq0
    subst hspot
    have hlt : b < w.heap.size := by
      have := World.block_lt_of_cell? w _ hq0
      rw [plain_at] at this
      exact this
    refine ⟨b, off, rfl, hlt, fun i z hz => ?_⟩
    have hi : i < len := by
      have := (List.getElem?_eq_some_iff.1 hz).1
      simpa using this
    have hqz : q i = z := by simpa [hi] using hz
    obtain ⟨no, nc, g1, g2⟩ := hq i hi
    rw [plain_at, hqz] at g1
    rw [hqz] at g2
    exact ⟨no, nc, g1, g2⟩
end Go.Proofs.Ytphnjedoghopcaa
