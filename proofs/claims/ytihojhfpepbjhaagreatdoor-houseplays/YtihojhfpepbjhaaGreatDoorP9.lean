/-
  Messages that came in, opened; the table of the powers of ten.
-/
import Derived.Test.YtihojhfpepbjhaaGreatDoorHoI
import Derived.Test.YtihojhfpepbjhaaGreatDoorJ35
import Derived.Lib.LaidTab
import Derived.LaidMore
import Derived.Lay
import Derived.Handed
namespace Go.Proofs.YtihojhfpepbjhaaGreatDoor
open Go.ChangeShapes Go.WideShapes Go.ChangeAt Go.RowKit

theorem cells_msg : Tryz.prog.cellsOf 43 = 4 := by kernel_rfl
section
variable {H : Type} {enc : TypeId × Value → H} {w : World} {base : Nat} {spare : Nat → Bool} {held : Bool} {fuel : Nat} {cs : List Value} {x : DataW H × List MemPlace}
theorem open_msg (h : DataW.trod enc Tryz.prog w base spare held fuel 43 cs = some x) : ∃ m : Ms, cs = [.int .i64 m.seat, .int .i64 m.ply, .string m.mv, .int .i64 m.at_] ∧ m.at_ < 9223372036854775808 := by
  obtain ⟨xs, n, _, hx, hl, hlen, hfd⟩ := DataW.trod_struct Tryz.underlying43 h
  rw [cells_msg] at hl
  obtain ⟨c0, c1, c2, c3, rfl⟩ := list4 hl
  obtain ⟨y0, y1, y2, y3, rfl⟩ := list4 hlen
  have f0 := hfd 0 _ rfl
  have f1 := hfd 1 _ rfl
  have f2 := hfd 2 _ rfl
  have f3 := hfd 3 _ rfl
  simp [cells_int, cells_string] at f0 f1 f2 f3
  obtain ⟨a, e0, _, _⟩ := DataW.trod_int Tryz.underlying3 f0
  obtain ⟨b, e1, _, _⟩ := DataW.trod_int Tryz.underlying3 f1
  obtain ⟨s, e2, _, _⟩ := DataW.trod_string Tryz.underlying9 f2
  obtain ⟨c, e3, _, hc⟩ := DataW.trod_int Tryz.underlying3 f3
  simp at e0 e1 e2 e3
  subst e0 e1 e2 e3
  have := bounds_i64 hc
  exact ⟨⟨a, b, s, c⟩, rfl, by show c < _; omega⟩
theorem open_msgs {v : Value} (h : DataW.trod enc Tryz.prog w base spare held fuel 28 [v] = some x) : ∃ (ao : Option Addr) (cap : Nat) (l : List Ms), v = .slice ao l.length cap ∧ isMl w ao cap l ∧ ∀ m ∈ l, m.at_ < 9223372036854775808 := by
  rcases Go.Deep.open_slice Tryz.underlying28 h with ⟨e, -⟩ | ⟨a, len, cap, m, n, D, Pl, e, hb, hl, hm, hmm, -, hx⟩
  · simp only [List.cons.injEq, and_true] at e
    exact ⟨none, 0, [], e, ⟨Nat.le_refl _, by unfold maxLen; omega, fun h => absurd rfl h⟩, fun m hm => by cases hm⟩
  · simp only [List.cons.injEq, and_true] at e
    have hlm : len ≤ m := by rw [hmm]; split <;> omega
    have each : ∀ i, i < len → ∃ z : Ms, z.at_ < 9223372036854775808 ∧ w.cell? (a.add (i * 4)) = some (.int .i64 z.seat) ∧ w.cell? (a.add (i * 4 + 1)) = some (.int .i64 z.ply) ∧ w.cell? (a.add (i * 4 + 2)) = some (.string z.mv) ∧ w.cell? (a.add (i * 4 + 3)) = some (.int .i64 z.at_) := by
      intro i hi
      obtain ⟨cs', h1, h2⟩ := hx i (by omega)
      rw [cells_msg] at h1
      obtain ⟨_, hlen, hcell⟩ := World.cells?_some h1
      obtain ⟨z, rfl, hz⟩ := open_msg h2
      have e0 := hcell 0 (by omega)
      have e1 := hcell 1 (by omega)
      have e2 := hcell 2 (by omega)
      have e3 := hcell 3 (by omega)
      rw [Go.Deep.add_add] at e0 e1 e2 e3
      exact ⟨z, hz, by simpa using e0, by simpa using e1, by simpa using e2, by simpa using e3⟩
    have hinh : Inhabited Ms := ⟨⟨0, 0, ⟨#[]⟩, 0⟩⟩
    obtain ⟨q, hq⟩ := Go.Deep.choose_lt each
    refine ⟨some a, cap, (List.range len).map q, by simp [e], ⟨by simp; omega, hm, fun hne => ?_⟩, fun z hz => ?_⟩
    · have hp : 0 < len := by
        rcases Nat.eq_zero_or_pos len with h0 | h0
        · subst h0; exact absurd rfl hne
        · exact h0
      obtain ⟨b, off, spot⟩ := a
      have hspot : spot = none := by simpa [Addr.add] using World.cell?_spot (hq 0 hp).2.1
      subst hspot
      have hlt : b < w.heap.size := by
        have := World.block_lt_of_cell? w _ (hq 0 hp).2.1
        rw [add_plain] at this
        exact this
      refine ⟨b, off, rfl, hlt, fun i z hz => ?_⟩
      have hi : i < len := by
        have := (List.getElem?_eq_some_iff.1 hz).1
        simpa using this
      have hqz : q i = z := by simpa [hi] using hz
      have := (hq i hi).2
      rw [add_plain, add_plain, add_plain, add_plain, hqz] at this
      exact this
    · simp only [List.mem_map, List.mem_range] at hz
      obtain ⟨i, hi, rfl⟩ := hz
      exact (hq i hi).1
end
theorem laid_tailH {P : Program} {w : World} {x : String × DataW Unit} {l : List (String × DataW Unit)} (h : laidMet P (x :: l) w) : laidMet P l w := by
  obtain ⟨ps, ⟨g, t, cs, fuel, p, q, h1, h2, h3, h4, h5, rfl⟩, hnd, hc⟩ := h
  exact ⟨q, h5, (List.nodup_append.1 hnd).2.1, fun b off hm => hc b off (List.mem_append_right _ hm)⟩
theorem gTabH : Tryz.prog.globalNamed "internal/strconv.uint64pow10" = some 3 := by kernel_rfl
theorem gTabTypeH : (Tryz.prog.globals[3]?).map (·.type) = some 239 := by kernel_rfl
theorem cells_tabH : Tryz.prog.cellsOf 239 = 20 := by kernel_rfl
theorem cells_u64H : Tryz.prog.cellsOf 175 = 1 := by kernel_rfl
theorem tabH {W : World} {a b : String × DataW Unit} {l : List (String × DataW Unit)} (h : laidMet Tryz.prog (a :: b :: ("internal/strconv.uint64pow10", Rows.laid_internal_strconv_uint64pow10) :: l) W) : isTab W :=
  Lib.tabIs_of_head gTabH gTabTypeH Tryz.underlying239 Tryz.underlying175 cells_u64H cells_tabH (laid_tailH (laid_tailH h))
end Go.Proofs.YtihojhfpepbjhaaGreatDoor
