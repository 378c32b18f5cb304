/-
  A matrix that came in, opened; the two tables that are read.
-/
import Derived.Test.YthplbfjpmnpjmaaDoorJ43
import Derived.Test.YthplbfjpmnpjmaaDoorRows
import Derived.WalkKit
import Derived.ProofKit
import Derived.OpenShut
import Derived.ShutString
import Derived.ChangeOld
import Derived.Below
import Derived.Deep.Slices
import Derived.LaidMore
import Derived.Lay
import Derived.Lib.LaidTab
namespace Go.Proofs.YthplbfjpmnpjmaaDoor
open Go.ChangeShapes Go.WideShapes Go.ChangeAt Go.RowKit

theorem plain_at (b off : Nat) (k : Nat) : (⟨b, off, none⟩ : Addr).add k = ⟨b, off + k, none⟩ := by simp [Addr.add]
theorem open_wl {H : Type} {enc : TypeId × Value → H} {w : World} {base : Nat} {spare : Nat → Bool} {held : Bool} {fuel : Nat} {v : Value} {x : DataW H × List MemPlace} (h : DataW.trod enc Tryd.prog w base spare held fuel 31 [v] = some x) :
    ∃ (ao : Option Addr) (cap : Nat) (r : List Int), v = .slice ao r.length cap ∧ isWl w w.heap.size ao cap r := by
  rcases Go.Deep.open_slice1 Tryd.underlying31 (by kernel_rfl) h with ⟨e, -⟩ | ⟨a, len, cap, m, n, V, D, Pl, e, hb, hl, hm, hmm, -, hx⟩
  · simp only [List.cons.injEq, and_true] at e
    exact ⟨none, 0, [], e, ⟨Nat.le_refl _, by unfold maxLen; omega, fun _ => rfl, by simp, fun h => absurd rfl h⟩⟩
  · simp only [List.cons.injEq, and_true] at e
    have hlm : len ≤ m := by rw [hmm]; split <;> omega
    have each : ∀ i, i < len → ∃ z : Int, w.cell? (a.add i) = some (.int .i64 z) ∧ i64B z := by
      intro i hi
      obtain ⟨h1, h2⟩ := hx i (by omega)
      obtain ⟨z, hz, -, hz2⟩ := DataW.trod_int Tryd.underlying3 h2
      simp only [List.cons.injEq, and_true] at hz
      refine ⟨z, by rw [h1, hz], ?_⟩
      simp only [Lit.wf, Bool.and_eq_true, decide_eq_true_eq] at hz2
      exact hz2
    obtain ⟨q, hq⟩ := Go.Deep.choose_lt each
    refine ⟨some a, cap, (List.range len).map q, by simp [e], ⟨by simp; omega, hm, (fun h => by cases h), fun x hx => ?_, fun hne => ?_⟩⟩
    · obtain ⟨i, hi, rfl⟩ := List.mem_map.1 hx
      exact (hq i (List.mem_range.1 hi)).2
    · have hp : 0 < len := by
        rcases Nat.eq_zero_or_pos len with h0 | h0
        · subst h0; exact absurd rfl hne
        · exact h0
      obtain ⟨b, off, spot⟩ := a
      have hspot : spot = none := by simpa [Addr.add] using World.cell?_spot (hq 0 hp).1
      subst hspot
      have hlt : b < w.heap.size := by
        have := World.block_lt_of_cell? w _ (hq 0 hp).1
        rw [plain_at] at this
        exact this
      refine ⟨b, off, rfl, hlt, fun i z hz => ?_⟩
      have hi : i < len := by
        have := (List.getElem?_eq_some_iff.1 hz).1
        simpa using this
      have hqz : q i = z := by simpa [hi] using hz
      have := (hq i hi).1
      rw [plain_at, hqz] at this
      exact this
theorem open_mx {H : Type} {enc : TypeId × Value → H} {w : World} {base : Nat} {spare : Nat → Bool} {held : Bool} {fuel : Nat} {v : Value} {x : DataW H × List MemPlace} (h : DataW.trod enc Tryd.prog w base spare held fuel 22 [v] = some x) :
    ∃ (ao : Option Addr) (cap : Nat) (G : List (List Int)), v = .slice ao G.length cap ∧ isMx w w.heap.size ao cap G := by
  rcases Go.Deep.open_slice1 Tryd.underlying22 (by kernel_rfl) h with ⟨e, rfl⟩ | ⟨a, len, cap, m, n, V, D, Pl, e, hb, hl, hcm, hmm, rfl, hx⟩
  · simp only [List.cons.injEq, and_true] at e
    exact ⟨none, 0, [], e, ⟨Nat.le_refl _, by unfold maxLen; omega, fun _ => rfl, fun h => absurd rfl h⟩⟩
  · simp only [List.cons.injEq, and_true] at e
    have hlm : len ≤ m := by rw [hmm]; split <;> omega
    have each : ∀ i, i < len → ∃ r : List Int, ∃ ro rc, w.cell? (a.add i) = some (.slice ro r.length rc) ∧ isWl w w.heap.size ro rc r := by
      intro i hi
      obtain ⟨h1, h2⟩ := hx i (by omega)
      obtain ⟨ro, rc, r, e2, h3⟩ := open_wl h2
      exact ⟨r, ro, rc, by rw [h1, e2], h3⟩
    obtain ⟨q, hq⟩ := Go.Deep.choose_lt each
    refine ⟨some a, cap, (List.range len).map q, by simp [e], ⟨by simp; omega, hcm, (fun h => by cases h), fun hne => ?_⟩⟩
    have hp : 0 < len := by
      rcases Nat.eq_zero_or_pos len with h0 | h0
      · subst h0; exact absurd rfl hne
      · exact h0
    obtain ⟨b, off, spot⟩ := a
    obtain ⟨no0, nc0, hq0, -⟩ := hq 0 hp
    have hspot : spot = none := by simpa [Addr.add] using World.cell?_spot hq0
    subst hspot
    have hlt : b < w.heap.size := by
      have := World.block_lt_of_cell? w _ hq0
      rw [plain_at] at this
      exact this
    refine ⟨b, off, rfl, hlt, fun i z hz => ?_⟩
    have hi : i < len := by
      have := (List.getElem?_eq_some_iff.1 hz).1
      simpa using this
    have hqz : q i = z := by simpa [hi] using hz
    obtain ⟨no, nc, g1, g2⟩ := hq i hi
    rw [plain_at, hqz] at g1
    rw [hqz] at g2
    exact ⟨no, nc, g1, g2⟩
theorem laid_tail {P : Program} {w : World} {x : String × DataW Unit} {l : List (String × DataW Unit)} (h : laidMet P (x :: l) w) : laidMet P l w := by
  obtain ⟨ps, ⟨g, t, cs, fuel, p, q, h1, h2, h3, h4, h5, rfl⟩, hnd, hc⟩ := h
  exact ⟨q, h5, (List.nodup_append.1 hnd).2.1, fun b off hm => hc b off (List.mem_append_right _ hm)⟩
theorem gTab : Tryd.prog.globalNamed "internal/strconv.uint64pow10" = some 0 := by kernel_rfl
theorem gTabType : (Tryd.prog.globals[0]?).map (·.type) = some 127 := by kernel_rfl
theorem cells_tab : Tryd.prog.cellsOf 127 = 20 := by kernel_rfl
theorem cells_u64 : Tryd.prog.cellsOf 100 = 1 := by kernel_rfl
theorem gDb : Tryd.prog.globalNamed "math/bits.deBruijn64tab" = some 2 := by kernel_rfl
theorem gDbType : (Tryd.prog.globals[2]?).map (·.type) = some 130 := by kernel_rfl
theorem cells_db : Tryd.prog.cellsOf 130 = 64 := by kernel_rfl
theorem cells_u8 : Tryd.prog.cellsOf 5 = 1 := by kernel_rfl
def dbT : List Int := [0, 1, 56, 2, 57, 49, 28, 3, 61, 58, 42, 50, 38, 29, 17, 4, 62, 47, 59, 36, 45, 43, 51, 22, 53, 39, 33, 30, 24, 18, 12, 5, 63, 55, 48, 27, 60, 41, 37, 16, 46, 35, 44, 21, 52, 32, 23, 11, 54, 26, 40, 15, 34, 20, 31, 10, 25, 14, 19, 9, 13, 8, 7, 6]
theorem mx_tab {W : World} (h : laidMetH Tryd.prog Rows.matrixSaddleRow.laid W) : isTab W := by
  rw [MakeChecks.laidMetH_plain _ _ _ (by kernel_rfl)] at h
  exact Lib.tabIs_of_head gTab gTabType Tryd.underlying127 Tryd.underlying100 cells_u64 cells_tab (laid_tail (laid_tail h))
theorem db_of {W : World} (h : Lib.TabIs Tryd.prog W "math/bits.deBruijn64tab" .u8 dbT) : isDb W := by
  have hc := fun i hi => h.cell gDb i hi
  exact ⟨World.block_lt_of_cell? W _ (hc 0 (by decide)), hc 0 (by decide), hc 1 (by decide), hc 3 (by decide), hc 7 (by decide), hc 15 (by decide), hc 31 (by decide)⟩
theorem mx_db {W : World} (h : laidMetH Tryd.prog Rows.matrixSaddleRow.laid W) : isDb W := by
  rw [MakeChecks.laidMetH_plain _ _ _ (by kernel_rfl)] at h
  exact db_of (Lib.tabIs_of_head (zs := dbT) gDb gDbType Tryd.underlying130 Tryd.underlying5 cells_u8 cells_db (laid_tail h))
end Go.Proofs.YthplbfjpmnpjmaaDoor
