/-
  Floats that came in, opened.
-/
import Derived.Test.YtdpjkfmhmjgokaaP5
import Derived.Test.YtdpjkfmhmjgokaaY14
import Derived.Laws.Cover2
namespace Go.Proofs.Ytdpjkfmhmjgokaa
open Go.ChangeShapes Go.WideShapes Go.ChangeAt Go.RowKit

theorem cells_float : Try.prog.cellsOf 24 = 1 := by kernel_rfl
section
variable {H : Type} {enc : TypeId × Value → H} {w : World} {base : Nat} {spare : Nat → Bool} {held : Bool} {fuel : Nat} {cs : List Value} {x : DataW H × List MemPlace}
theorem trod_float' {P : Program} {t : TypeId} {k : FloatKind} (ht : P.underlying t = some (.float k)) (h : DataW.trod enc P w base spare held fuel t cs = some x) : ∃ b : Nat, cs = [.float k b] ∧ (Lit.float k b).wf = true := by
  cases fuel with
  | zero => simp [DataW.trod] at h
  | succ n =>
    unfold DataW.trod at h
    rw [ht] at h
    split at h <;> simp_all
theorem trod_float (h : DataW.trod enc Try.prog w base spare held fuel 24 cs = some x) : ∃ b : Nat, cs = [.float .f64 b] ∧ b < 2 ^ 64 := by
  obtain ⟨b, e, hw⟩ := trod_float' Try.underlying24 h
  exact ⟨b, e, of_decide_eq_true hw⟩
theorem open_floats {v : Value} (h : DataW.trod enc Try.prog w base spare held fuel 23 [v] = some x) : ∃ (ao : Option Addr) (cap : Nat) (l : List Nat), v = .slice ao l.length cap ∧ isFs w w.heap.size ao cap l ∧ ∀ x ∈ l, x < 2 ^ 64 := by
  rcases Go.Deep.open_slice1 Try.underlying23 cells_float h with ⟨e, -⟩ | ⟨a, len, cap, m, n, V, D, Pl, e, hb, hl, hm, hmm, -, hx⟩
  · simp only [List.cons.injEq, and_true] at e
    exact ⟨none, 0, [], e, ⟨Nat.le_refl _, by unfold maxLen; omega, fun _ => rfl, fun h => absurd rfl h⟩, by simp⟩
  · simp only [List.cons.injEq, and_true] at e
    have hlm : len ≤ m := by rw [hmm]; split <;> omega
    have each : ∀ i, i < len → ∃ z : Nat, w.cell? (a.add i) = some (.float .f64 z) ∧ z < 2 ^ 64 := by
      intro i hi
      obtain ⟨h1, h2⟩ := hx i (by omega)
      obtain ⟨z, hz, hz2⟩ := trod_float h2
      simp only [List.cons.injEq, and_true] at hz
      exact ⟨z, by rw [h1, hz], hz2⟩
    obtain ⟨q, hq⟩ := Go.Deep.choose_lt each
    refine ⟨some a, cap, (List.range len).map q, by simp [e], ⟨by simp; omega, hm, (fun h => by cases h), fun hne => ?_⟩, fun x hx => ?_⟩
    · have hp : 0 < len := by
        rcases Nat.eq_zero_or_pos len with h0 | h0
        · subst h0; exact absurd rfl hne
        · exact h0
      obtain ⟨b, off, spot⟩ := a
      have hspot : spot = none := by simpa [Addr.add] using World.cell?_spot (hq 0 hp).1
      subst hspot
      have hlt : b < w.heap.size := by
        have := World.block_lt_of_cell? w _ (hq 0 hp).1
        rw [plain_at] at this
        exact this
      refine ⟨b, off, rfl, hlt, fun i z hz => ?_⟩
      have hi : i < len := by
        have := (List.getElem?_eq_some_iff.1 hz).1
        simpa using this
      have hqz : q i = z := by simpa [hi] using hz
      have := (hq i hi).1
      rw [plain_at, hqz] at this
      exact this
    · obtain ⟨i, hi, rfl⟩ := List.mem_map.1 hx
      exact (hq i (List.mem_range.1 hi)).2
end
end Go.Proofs.Ytdpjkfmhmjgokaa
