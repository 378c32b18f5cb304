/-
  Notes that came in, opened: in memory, no more within one another than they hold values.
-/
import Derived.Test.YtdibjdpnleepmacDoorN3
import Derived.Test.YtdibjdpnleepmacDoorRows
import Derived.WalkKit
import Derived.ProofKit
import Derived.OpenShut
import Derived.ShutString
import Derived.ChangeOld
import Derived.Below
import Derived.Deep.Slices
namespace Go.Proofs.YtdibjdpnleepmacDoor
open Go.ChangeShapes Go.WideShapes Go.ChangeAt Go.RowKit
open Go.ChangeMaps (open_string shut_string)

theorem ncells_note : Tryd.prog.cellsOf 47 = 3 := by kernel_rfl
theorem ncells_string : Tryd.prog.cellsOf 9 = 1 := by kernel_rfl
theorem ncells_notes : Tryd.prog.cellsOf 22 = 1 := by kernel_rfl
theorem nlist3 {α : Type} {l : List α} (h : l.length = 3) : ∃ c0 c1 c2, l = [c0, c1, c2] := by
  match l, h with
  | [c0, c1, c2], _ => exact ⟨c0, c1, c2, rfl⟩
theorem bulk_mem {H : Type} {d : DataW H} : ∀ {l : List (DataW H)}, d ∈ l → Rows.uptoBulk d ≤ Rows.uptoBulkAll l
  | [], h => by simp at h
  | x :: l, h => by
    rw [Rows.uptoBulkAll]
    rcases List.mem_cons.1 h with rfl | h
    · omega
    · have := bulk_mem h; omega
theorem isNts.deeper {w : World} {B : Nat} : ∀ {d : Nat} {ao : Option Addr} {cap : Nat} {l : List Nt}, isNts d w B ao cap l → isNts (d + 1) w B ao cap l
  | 0, ao, cap, l, h => by
    obtain ⟨rfl, h2, h3⟩ := h
    exact ⟨Nat.zero_le _, h2, h3, fun e => absurd rfl e⟩
  | d + 1, ao, cap, l, h => by
    obtain ⟨h1, h2, h3, h4⟩ := h
    refine ⟨h1, h2, h3, fun hl => ?_⟩
    obtain ⟨g, off, e, hg, hc⟩ := h4 hl
    refine ⟨g, off, e, hg, fun i t ht => ?_⟩
    obtain ⟨s1, s2, no, nc, c0, c1, c2, c3⟩ := hc i t ht
    exact ⟨s1, s2, no, nc, c0, c1, c2, isNts.deeper c3⟩
theorem plain_at (b off : Nat) (k : Nat) : (⟨b, off, none⟩ : Addr).add k = ⟨b, off + k, none⟩ := by simp [Addr.add]
instance : Inhabited Nt := ⟨.mk ⟨#[]⟩ ⟨#[]⟩ []⟩

theorem open_notes {H : Type} {enc : TypeId × Value → H} {w : World} {base : Nat} {spare : Nat → Bool} {held : Bool} : ∀ (k fuel : Nat) (v : Value) (x : DataW H × List MemPlace), Rows.uptoBulk x.1 ≤ k → k ≤ 1048576 → DataW.trod enc Tryd.prog w base spare held fuel 22 [v] = some x →
    ∃ (ao : Option Addr) (cap : Nat) (l : List Nt), v = .slice ao l.length cap ∧ isNts k w w.heap.size ao cap l
  | 0, fuel, v, x, hk, hm, h => by
    rcases Go.Deep.open_slice Tryd.underlying22 h with ⟨e, rfl⟩ | ⟨a, len, cap, m, n, D, Pl, e, hb, hl, hm, hmm, rfl, hx⟩
    · rw [Rows.uptoBulk] at hk; omega
    · rw [Rows.uptoBulk] at hk; omega
  | k + 1, fuel, v, x, hk, hm, h => by
    rcases Go.Deep.open_slice Tryd.underlying22 h with ⟨e, rfl⟩ | ⟨a, len, cap, m, n, D, Pl, e, hb, hl, hcm, hmm, rfl, hx⟩
    · simp only [List.cons.injEq, and_true] at e
      exact ⟨none, 0, [], e, ⟨Nat.le_refl _, by unfold maxLen; omega, fun _ => rfl, fun h => absurd rfl h⟩⟩
    · simp only [List.cons.injEq, and_true] at e
      have hlm : len ≤ m := by rw [hmm]; split <;> omega
      have hbulk : ∀ i, i < len → Rows.uptoBulk (D i) ≤ k := by
        intro i hi
        rw [Rows.uptoBulk] at hk
        have := bulk_mem (d := D i) (l := (List.range len).map D) (List.mem_map_of_mem (List.mem_range.2 hi))
        omega
      have each : ∀ i, i < len → ∃ t : Nt, t.mv.size < 2000000 ∧ t.cm.size < 2000000 ∧ ∃ no nc, w.cell? (a.add (i * 3)) = some (.string t.mv) ∧ w.cell? (a.add (i * 3 + 1)) = some (.string t.cm) ∧ w.cell? (a.add (i * 3 + 2)) = some (.slice no t.nx.length nc) ∧ isNts k w w.heap.size no nc t.nx := by
        intro i hi
        obtain ⟨cs', h1, h2⟩ := hx i (by omega)
        rw [ncells_note] at h1
        obtain ⟨_, hlen, hcell⟩ := World.cells?_some h1
        obtain ⟨xs, n', _, hxx, hl', hlen', hfd⟩ := DataW.trod_struct Tryd.underlying47 h2
        rw [ncells_note] at hl'
        obtain ⟨c0, c1, c2, rfl⟩ := nlist3 hl'
        obtain ⟨y0, y1, y2, rfl⟩ := nlist3 hlen'
        have f0 := hfd 0 _ rfl
        have f1 := hfd 1 _ rfl
        have f2 := hfd 2 _ rfl
        simp [ncells_string, ncells_notes] at f0 f1 f2
        obtain ⟨MV, e0, hy0, hM⟩ := DataW.trod_string Tryd.underlying9 f0
        obtain ⟨CM, e1, hy1, hC⟩ := DataW.trod_string Tryd.underlying9 f1
        have hb := hbulk i hi
        have hD : D i = .agg [y0.1, y1.1, y2.1] := congrArg Prod.fst hxx
        rw [hD] at hb
        simp only [Rows.uptoBulk, Rows.uptoBulkAll, hy0, hy1] at hb
        obtain ⟨no, nc, nx, e2, hnx⟩ := open_notes k n' c2 y2 (by omega) (by omega) f2
        simp only [List.cons.injEq, and_true] at e0 e1
        subst e0 e1 e2
        have g0 := hcell 0 (by omega)
        have g1 := hcell 1 (by omega)
        have g2 := hcell 2 (by omega)
        rw [Go.Deep.add_add] at g0 g1 g2
        have hm1 : MV.size = MV.data.toList.length := Lib.size_eq MV
        have hm2 : CM.size = CM.data.toList.length := Lib.size_eq CM
        exact ⟨.mk MV CM nx, by show MV.size < _; omega, by show CM.size < _; omega, no, nc, by show _ = some (Value.string MV); simpa using g0, by show _ = some (Value.string CM); simpa using g1, by show _ = some (Value.slice no nx.length nc); simpa using g2, hnx⟩
      obtain ⟨q, hq⟩ := Go.Deep.choose_lt each
      refine ⟨some a, cap, (List.range len).map q, by simp [e], ⟨by simp; omega, hcm, fun e => (nomatch e), fun hne => ?_⟩⟩
      have hp : 0 < len := by
        rcases Nat.eq_zero_or_pos len with h0 | h0
        · subst h0; exact absurd rfl hne
        · exact h0
      obtain ⟨b, off, spot⟩ := a
      obtain ⟨-, -, no0, nc0, hq0, -⟩ := hq 0 hp
      have hspot : spot = none := by simpa [Addr.add] using World.cell?_spot hq0
      subst hspot
      have hlt : b < w.heap.size := by
        have := World.block_lt_of_cell? w _ hq0
        rw [plain_at] at this
        exact this
      refine ⟨b, off, rfl, hlt, fun i z hz => ?_⟩
      have hi : i < len := by
        have := (List.getElem?_eq_some_iff.1 hz).1
        simpa using this
      have hqz : q i = z := by simpa [hi] using hz
      obtain ⟨g1, g2, no, nc, g3, g4, g5, g6⟩ := hq i hi
      rw [plain_at, hqz] at g3 g4 g5
      rw [hqz] at g1 g2 g6
      exact ⟨g1, g2, no, nc, g3, g4, g5, g6⟩
end Go.Proofs.YtdibjdpnleepmacDoor
