/-
  package nim, walked: rows of the call's own; slices.Index of bools, leastMissing.
-/
import Derived.Test.YtphnjedoghopcaaQ2
namespace Go.Proofs.Ytphnjedoghopcaa
open Go.RowKit
attribute [local go_sem ↓] Go.wp_at_zero Go.wp_at_succ

/-- A row of numbers of the call's own. -/
def nvals (l : List Nat) : List Value := l.map fun n : Nat => Value.int .i64 (n : Int)
def rowN (w : World) (g : Nat) (l : List Nat) : Prop := w.heap[g]? = some (.cells (nvals l).toArray 3 (0, 0))
theorem rowN.cell {w : World} {g : Nat} {l : List Nat} (h : rowN w g l) {k : Nat} (hk : k < l.length) : w.cell? ⟨g, k, none⟩ = some (.int .i64 (l[k]! : Int)) := by
  rw [cell_of_row _ _ _ _ _ _ h, getElem!_pos l k hk]
  simp [nvals, hk]
theorem rowN.frozen {w : World} {g : Nat} {l : List Nat} (h : rowN w g l) (k : Nat) : w.frozen? ⟨g, k, none⟩ = false := frozen_of_row w g k _ _ h
theorem rowN.set {w : World} {g : Nat} {l : List Nat} (h : rowN w g l) (k n : Nat) : rowN (w.setCell ⟨g, k, none⟩ (.int .i64 (n : Int))) g (l.set k n) := by
  unfold rowN
  rw [heap_setCell_same w g k _ _ (.int .i64 (n : Int)) h]
  simp [nvals, List.map_set]
theorem rowN.lt {w : World} {g : Nat} {l : List Nat} (h : rowN w g l) : g < w.heap.size := (Array.getElem?_eq_some_iff.1 h).1
theorem rowN.keep {w w' : World} {g : Nat} {l : List Nat} (h : rowN w g l) (hk : w'.heap[g]? = w.heap[g]?) : rowN w' g l := hk.trans h
theorem rowN.is {w : World} {g : Nat} {l : List Nat} (h : rowN w g l) (hl : l.length ≤ 100000) {B : Nat} (hB : g < B) : isIs w B (some ⟨g, 0, none⟩) l.length (l.map fun n : Nat => (n : Int)) := by
  refine ⟨by simp, by unfold maxLen; omega, fun _ => ⟨g, 0, rfl, hB, fun k x hx => ?_⟩⟩
  have hk : k < l.length := by simpa using (List.getElem?_eq_some_iff.1 hx).1
  rw [Nat.zero_add, h.cell hk, getElem!_pos l k hk]
  rw [List.getElem?_map, List.getElem?_eq_getElem hk] at hx
  simp at hx
  rw [hx]
theorem Try.infoI : (Try.prog.info? 3).map (fun i => (i.zero, i.size, i.bytes)) = some (some (.int .i64 0), 1, 8) := by kernel_rfl
theorem Try.infoB : (Try.prog.info? 4).map (fun i => (i.zero, i.size, i.bytes)) = some (some (.bool false), 1, 1) := by kernel_rfl
theorem made_ints (n : Nat) (hn : n ≤ 100000) (W : World) : (Instr.makeSlice 22 (.int .i64 (n : Int)) (.int .i64 (n : Int))).run Try.prog W = .ok (.slice (some ⟨W.heap.size, 0, none⟩) n n) (W.alloc (.cells (nvals (List.replicate n 0)).toArray 3 (0, 0))) := by
  obtain ⟨i0, hi, hz0, hz1, hz2⟩ := info_parts Try.infoI
  have h := run_make (P := Try.prog) W 22 3 i0 (.int .i64 0) Try.underlying22 hi hz0 .i64 .i64 (n : Int) (n : Int) (by omega) (by omega) (by rw [hz2]; omega) (by omega)
  rw [h, hz1]
  simp only [Int.toNat_natCast]
  have e : madeCells (Value.int .i64 0).cells (n * 1) = (nvals (List.replicate n 0)).toArray := by
    apply Array.toList_inj.1
    rw [show (Value.int .i64 0).cells = #[Value.int .i64 0] from rfl, toList_madeCells_one]
    simp [nvals]
  rw [e]
/-- A row of bools of the call's own. -/
def bvals (l : List Bool) : List Value := l.map fun b => Value.bool b
def rowB (w : World) (g : Nat) (l : List Bool) : Prop := w.heap[g]? = some (.cells (bvals l).toArray 4 (0, 0))
theorem rowB.cell {w : World} {g : Nat} {l : List Bool} (h : rowB w g l) {k : Nat} (hk : k < l.length) : w.cell? ⟨g, k, none⟩ = some (.bool l[k]!) := by
  rw [cell_of_row _ _ _ _ _ _ h, getElem!_pos l k hk]
  simp [bvals, hk]
theorem rowB.frozen {w : World} {g : Nat} {l : List Bool} (h : rowB w g l) (k : Nat) : w.frozen? ⟨g, k, none⟩ = false := frozen_of_row w g k _ _ h
theorem rowB.set {w : World} {g : Nat} {l : List Bool} (h : rowB w g l) (k : Nat) (b : Bool) : rowB (w.setCell ⟨g, k, none⟩ (.bool b)) g (l.set k b) := by
  unfold rowB
  rw [heap_setCell_same w g k _ _ (.bool b) h]
  simp [bvals, List.map_set]
theorem rowB.lt {w : World} {g : Nat} {l : List Bool} (h : rowB w g l) : g < w.heap.size := (Array.getElem?_eq_some_iff.1 h).1
theorem made_bools (n : Nat) (hn : n ≤ 100000) (W : World) : (Instr.makeSlice 57 (.int .i64 (n : Int)) (.int .i64 (n : Int))).run Try.prog W = .ok (.slice (some ⟨W.heap.size, 0, none⟩) n n) (W.alloc (.cells (bvals (List.replicate n false)).toArray 4 (0, 0))) := by
  obtain ⟨i0, hi, hz0, hz1, hz2⟩ := info_parts Try.infoB
  have h := run_make (P := Try.prog) W 57 4 i0 (.bool false) Try.underlying57 hi hz0 .i64 .i64 (n : Int) (n : Int) (by omega) (by omega) (by rw [hz2]; omega) (by omega)
  rw [h, hz1]
  simp only [Int.toNat_natCast]
  have e : madeCells (Value.bool false).cells (n * 1) = (bvals (List.replicate n false)).toArray := by
    apply Array.toList_inj.1
    rw [show (Value.bool false).cells = #[Value.bool false] from rfl, toList_madeCells_one]
    simp [bvals]
  rw [e]

set_option maxHeartbeats 1000000 in
set_option maxRecDepth 100000 in
theorem index_false (g cap : Nat) (l : List Bool) (m : Nat) (w : World) (h : rowB w g l) (hl : l.length ≤ 100000) (hm : m < l.length) (h0 : l[m]! = false) (h1 : ∀ j, j < m → l[j]! = true) (_hc : l.length ≤ cap) :
    Calls Try.prog 37 #[.slice (some ⟨g, 0, none⟩) l.length cap, .bool false] w fun e w' => e = .returned (.int .i64 (m : Int)) ∧ w' = w := by
  have H := hide h
  have H0 := hide h0
  have H1 := hide h1
  clear h h0 h1
  go_enter Try.func37, Try.ntmps37
  go_wp2
  go_loop [8] (fun i => ∃ k : Nat, k ≤ m ∧ i = .int .i64 (k : Int)) (fun i => l.length - (intOf i).toNat)
  case atStart => exact ⟨0, Nat.zero_le _, rfl⟩
  case round =>
    obtain ⟨k, hk, rfl⟩ := hrel
    have hlti : (k : Int) < (l.length : Int) := by omega
    have hk0 : (0 : Int) ≤ (k : Int) := by omega
    have c0 := (unhide H).cell (k := k) (by omega)
    by_cases hkm : k = m
    · have e : l[k]! = false := by rw [hkm]; exact unhide H0
      rw [e] at c0
      have HKM := hide hkm
      clear hkm e
      go_wp2
      go_ret
      exact ⟨ret_int (by rw [unhide HKM]), rfl⟩
    · rw [unhide H1 k (by omega)] at c0
      go_wp2
      go_round
      case rel => exact ⟨k + 1, by omega, by go_num⟩
      case measure => simp only [intOf]; omega

/-- Which of so many numbers are there. -/
def thereB (n : Nat) (V : List Nat) : List Bool := (List.range n).map fun k => V.contains k
theorem thereB_len (n : Nat) (V : List Nat) : (thereB n V).length = n := by simp [thereB]
theorem thereB_at {n : Nat} {V : List Nat} {k : Nat} (hk : k < n) : (thereB n V)[k]! = V.contains k := by
  rw [getElem!_pos _ k (by rw [thereB_len]; exact hk)]; simp [thereB]
theorem thereB_nil (n : Nat) : thereB n [] = List.replicate n false := by
  apply List.ext_getElem
  · simp [thereB]
  · intro i h1 h2; simp [thereB]
theorem thereB_in {n : Nat} {V : List Nat} {v : Nat} : thereB n (V ++ [v]) = (thereB n V).set v true := by
  apply List.ext_getElem
  · simp [thereB]
  · intro i h1 h2
    rw [List.getElem_set]
    by_cases e : v = i
    · simp [thereB, e]
    · have : ¬ i = v := fun x => e x.symm
      simp [thereB, e, this]
theorem thereB_out {n : Nat} {V : List Nat} {v : Nat} (h : n ≤ v) : thereB n (V ++ [v]) = thereB n V := by
  rw [thereB_in, List.set_eq_of_length_le (by rw [thereB_len]; exact h)]

set_option maxHeartbeats 2000000 in
set_option maxRecDepth 100000 in
theorem leastMissing_any (B : Nat) (ao : Option Addr) (cap : Nat) (V : List Nat) (w : World) (h : isIs w B ao cap (V.map fun n : Nat => (n : Int))) (hB : B ≤ w.heap.size) (hV : V.length ≤ 90000) :
    Calls Try.prog 31 #[.slice ao V.length cap] w fun e w' => e = .returned (.int .i64 (mexN V : Int)) ∧ Below w.heap.size w w' := by
  have hle := h.1
  have hmx := h.2.1
  rw [List.length_map] at hle
  unfold maxLen at hmx
  obtain ⟨N, hN⟩ : ∃ N : Nat, N = V.length + 1 := ⟨_, rfl⟩
  have hNi : (V.length : Int) + 1 = (N : Int) := by omega
  have hmk := made_bools N (by omega)
  obtain ⟨wa, hwa⟩ : ∃ wa, wa = w.alloc (.cells (bvals (List.replicate N false)).toArray 4 (0, 0)) := ⟨_, rfl⟩
  have hba : Below w.heap.size w wa := by rw [hwa]; exact (Below.refl _ _).alloc (Nat.le_refl _) _
  have hra : rowB wa w.heap.size (thereB N []) := by rw [hwa, thereB_nil]; exact heap_alloc_new w _
  have HH := hide h
  have HBA := hide hba
  have HRA := hide hra
  have HN := hide hN
  have HWA := hide hwa
  clear h hba hra hN hwa
  go_enter Try.func31, Try.ntmps31
  go_wp2
  rw [← unhide HWA]
  clear HWA hmk
  go_loopw [12] (fun iv wr => ∃ k : Nat, k ≤ V.length ∧ iv = .int .i64 (k : Int) ∧ rowB wr w.heap.size (thereB N (V.take k)) ∧ Below w.heap.size w wr) (fun iv _ => V.length - (intOf iv).toNat)
  case atStart => exact ⟨0, Nat.zero_le _, rfl, unhide HRA, unhide HBA⟩
  case round =>
    obtain ⟨k, hk, rfl, hrow, hbw⟩ := hrel
    clear HRA HBA
    by_cases hlt : k < V.length
    · have hlti : (k : Int) < (V.length : Int) := by omega
      have hk0 : (0 : Int) ≤ (k : Int) := by omega
      have hx : (V.map fun n : Nat => (n : Int))[k]? = some (V[k] : Int) := by rw [List.getElem?_map, List.getElem?_eq_getElem hlt]; rfl
      obtain ⟨g, off, e, hg, c0⟩ := (unhide HH).at_ hx
      subst e
      have c1 := (hbw.cell (p := ⟨g, off + k, none⟩) (by dsimp only; omega)).trans c0
      have htk : V.take (k + 1) = V.take k ++ [V[k]] := List.take_succ_eq_append_getElem hlt
      clear hx c0
      generalize V[k] = v at *
      by_cases hv : v < N
      · have hvi : (v : Int) < (N : Int) := by omega
        have hv0 : (0 : Int) ≤ (v : Int) := by omega
        have f0 := hrow.frozen v
        have d0 := hrow.cell (k := v) (by rw [thereB_len]; exact hv)
        have HR : Hid (rowB (wr.setCell ⟨w.heap.size, v, none⟩ (.bool true)) w.heap.size (thereB N (V.take (k + 1)))) := hide (by rw [htk, thereB_in]; exact hrow.set v true)
        have HB : Hid (Below w.heap.size w (wr.setCell ⟨w.heap.size, v, none⟩ (.bool true))) := hide (hbw.setCell (p := ⟨w.heap.size, v, none⟩) (Nat.le_refl _) _)
        clear hrow hbw htk
        go_wp2
        go_roundw
        case rel => exact ⟨k + 1, by omega, by go_num, unhide HR, unhide HB⟩
        case measure => simp only [intOf]; omega
      · have hvi : ¬ (v : Int) < (N : Int) := by omega
        have HR : Hid (rowB wr w.heap.size (thereB N (V.take (k + 1)))) := hide (by rw [htk, thereB_out (by omega)]; exact hrow)
        have HB := hide hbw
        clear hrow hbw htk
        go_wp2
        go_roundw
        case rel => exact ⟨k + 1, by omega, by go_num, unhide HR, unhide HB⟩
        case measure => simp only [intOf]; omega
    · have hlti : ¬ (k : Int) < (V.length : Int) := by omega
      rw [List.take_of_length_le (by omega)] at hrow
      have hml := mex_le V
      have hix := index_false w.heap.size N (thereB N V) (mexN V) wr hrow (by rw [thereB_len]; omega) (by rw [thereB_len]; have := unhide HN; omega) (by rw [thereB_at (by have := unhide HN; omega)]; simp [mex_no]) (fun j hj => by rw [thereB_at (by have := unhide HN; omega)]; simp [mex_low V hj]) (by rw [thereB_len]; exact Nat.le_refl _)
      rw [thereB_len] at hix
      have HIX := hide hix
      have HB := hide hbw
      clear hrow hbw hix
      go_wp2_with fail
      refine (unhide HIX).mono ?_
      rintro e w1 ⟨rfl, rfl⟩
      go_wp2
      go_ret
      exact ⟨rfl, unhide HB⟩
end Go.Proofs.Ytphnjedoghopcaa
