/-
  strings.Clone and board.copied, walked: the same text, the same two texts; of what was there nothing has turned.
  board.copied, walked: the same two texts; of what was there nothing has turned.
  Plain mathematics of turned boards, no program: cells by number, where each comes from.
-/
import Derived.Test.YtbcedjjocpjkjaaJ0
import Derived.Lib.BufferWrite
import Derived.Lib.UnsafeStr
import Derived.Lib.Strings
import Derived.Lib.Walk
import Derived.Laws.MakeOwn
import Derived.Deep.RegionHeld3
import Derived.Deep.DrawnRows
namespace Go.Proofs.Ytbcedjjocpjkjaa
open Go.RowKit

theorem Try.info5 : (Try.prog.info? 5).map (fun i => (i.zero, i.size, i.bytes)) = some (some (.int .u8 0), 1, 1) := by kernel_rfl

set_option maxHeartbeats 1000000 in
set_option maxRecDepth 100000 in
theorem liteClone_any (s : ByteArray) (w : World) (hlim : s.size ≤ maxLen) (hlim' : s.size ≤ 140737488355328) :
    Calls Try.prog 82 #[.string s] w fun e w' => e = .returned (.string s) ∧ Below w.heap.size w w' := by
  by_cases h0 : s.size = 0
  · have hs : s = ⟨#[]⟩ := by
      apply ByteArray.ext
      exact Array.eq_empty_of_size_eq_zero h0
    subst hs
    go_enter Try.func82, Try.ntmps82
    go_wp2
    go_ret
    exact ⟨rfl, Below.refl _ _⟩
  · obtain ⟨i0, hi, hz0, hz1, hz2⟩ := info_parts Try.info5
    have hinfo : (Try.prog.info? 5).map (·.size) = some 1 := by rw [hi]; simp [hz1]
    have hco : Try.prog.cellsOf 5 = 1 := by simp [Program.cellsOf, hi, hz1]
    obtain ⟨M, hM⟩ : ∃ M, M = madeCells (Value.int .u8 0).cells (((s.size : Nat) : Int).toNat * i0.size) := ⟨_, rfl⟩
    have hMs : M.size = s.size := by rw [hM, size_madeCells, hz1]; simp
    have hmk : ∀ W : World, (Instr.makeSlice 66 (.int .i64 (s.size : Int)) (.int .i64 (s.size : Int))).run Try.prog W = .ok (.slice (some ⟨W.heap.size, 0, none⟩) s.size s.size) (W.alloc (.cells M 5)) := fun W => by
      have h := run_make (P := Try.prog) W 66 5 i0 (.int .u8 0) Try.underlying66 hi hz0 .i64 .i64 (s.size : Int) (s.size : Int) (by omega) (by omega) (by rw [hz2]; omega) (by unfold maxLen at hlim; omega)
      rw [← hM] at h
      simpa using h
    clear hM
    have hcp := Lib.run_copy_row_string (P := Try.prog) (w.alloc (.cells M 5)) 66 9 3 5 w.heap.size 0 s.size s.size s M 5 Try.underlying66 hinfo (heap_alloc_new w _) (Nat.le_refl _) (by omega)
    obtain ⟨Y, hY⟩ : ∃ Y, Y = (M.toList.take 0 ++ Lib.byteCells s.data.toList ++ M.toList.drop (0 + s.size)).toArray := ⟨_, rfl⟩
    rw [← hY] at hcp
    have hYl : Y.toList = Lib.byteCells s.data.toList := by
      rw [hY, List.toList_toArray, List.take_zero, List.nil_append, List.drop_of_length_le (by rw [Array.length_toList]; omega), List.append_nil]
    have hYs : Y.size = s.size := by rw [← Array.length_toList, hYl, Lib.byteCells_length, ← Lib.size_eq]
    have hgY : ((w.alloc (.cells M 5)).setRow w.heap.size Y).heap[w.heap.size]? = some (.cells Y 5 (0, 0)) := setRow_heap _ _ M _ 5 (0, 0) (heap_alloc_new w _)
    have hne : s.data.toList ≠ [] := fun e => h0 (by rw [Lib.size_eq, e]; rfl)
    have hUS := Lib.run_unsafeString_row (P := Try.prog) ((w.alloc (.cells M 5)).setRow w.heap.size Y) 110 3 9 5 Try.underlying110 hco w.heap.size Y.size (by unfold World.shape?; rw [hgY]) s.data.toList hne (by rw [← Lib.size_eq]; omega) (by rw [← Lib.size_eq]; omega)
      (fun j x hx => Lib.cells_of_row hgY Y.size j _ (by rw [List.take_of_length_le (by rw [Array.length_toList]; exact Nat.le_refl _), hYl]; simp [Lib.byteCells, hx]))
    rw [← Lib.size_eq] at hUS
    clear hY
    unfold maxLen at hlim
    go_enter Try.func82, Try.ntmps82
    go_wp2
    go_ret
    have hb1 : Below w.heap.size w (w.alloc (.cells M 5)) := (Below.refl _ w).alloc (Nat.le_refl _) _
    have hb2 : Below w.heap.size (w.alloc (.cells M 5)) ((w.alloc (.cells M 5)).setRow w.heap.size Y) := ⟨rfl, rfl, rfl, by simp, fun k hk => setRow_other _ _ _ _ (by omega)⟩
    exact ⟨rfl, Lib.below_freeze (hb1.trans hb2) (p := ⟨w.heap.size, 0, none⟩) (Nat.le_refl _) _⟩

set_option maxHeartbeats 400000 in
theorem Clone_any (s : ByteArray) (w : World) (hlim : s.size ≤ maxLen) (hlim' : s.size ≤ 140737488355328) :
    Calls Try.prog 60 #[.string s] w fun e w' => e = .returned (.string s) ∧ Below w.heap.size w w' := by
  go_enter Try.func60, Try.ntmps60
  go_wp2_with (go_at_call 82; refine (liteClone_any _ _ hlim hlim').mono ?_; rintro e w' ⟨rfl, hb⟩)
  go_ret
  exact ⟨rfl, hb⟩
end Go.Proofs.Ytbcedjjocpjkjaa

namespace Go.Proofs.Ytbcedjjocpjkjaa
open Go.RowKit
attribute [local go_sem ↓] Go.wp_at_zero Go.wp_at_succ

set_option maxHeartbeats 2000000 in
set_option maxRecDepth 100000 in
theorem copied_any (A B : ByteArray) (w : World) (hA : A.size ≤ 8) (hB : B.size ≤ 8) :
    Calls Try.prog 34 #[.agg #[.string A, .string B]] w fun e w' => e = .returned (.agg #[.string A, .string B]) ∧ Below w.heap.size w w' := by
  have hA' : A.size ≤ maxLen := by unfold maxLen; omega
  have hB' : B.size ≤ maxLen := by unfold maxLen; omega
  go_enter Try.func34, Try.ntmps34
  go_wp2_with fail
  have hb0 : Below w.heap.size w ((w.alloc (Obj.cells #[Value.string A, Value.string B] 22)).alloc (Obj.cells #[Value.string ⟨#[]⟩, Value.string ⟨#[]⟩] 22)) := ((Below.refl _ _).alloc (Nat.le_refl _) _).alloc (by simp) _
  go_region_held3 (fun w' => w'.cell? ⟨w.heap.size, 0, none⟩ = some (.string A) ∧ w'.cell? ⟨w.heap.size, 1, none⟩ = some (.string B) ∧ Below w.heap.size w w' ∧ w.heap.size + 1 < w'.heap.size)
    (first
      | (go_keep; done)
      | ((try go_split_ands); (try dsimp only); (repeat' apply And.intro) <;> first
           | (go_keep; done)
           | exact hb0.drew
           | (rw [hb.cell (by dsimp only; omega)]; assumption)
           | exact Below.trans (by assumption) (hb.mono (by omega))
           | exact Below.setCell (Below.setCell (by assumption) (by dsimp only; omega) _) (by dsimp only; omega) _
           | exact Nat.lt_of_lt_of_le (by assumption) hb.size))
    (first | (go_at_call 60; refine (Clone_any A _ hA' (by omega)).mono ?_; rintro e w' ⟨rfl, hb⟩; have hz := Nat.lt_of_lt_of_le (show w.heap.size + 1 < _ by first | (simp; done) | (simp; omega) | assumption) hb.size; have q0 := hb.cell (p := ⟨w.heap.size + 1, 0, none⟩) (by first | (simp; done) | (simp; omega) | assumption); have q1 := hb.cell (p := ⟨w.heap.size + 1, 1, none⟩) (by first | (simp; done) | (simp; omega) | assumption); have f0 := hb.frozen (p := ⟨w.heap.size + 1, 0, none⟩) (by first | (simp; done) | (simp; omega) | assumption); have f1 := hb.frozen (p := ⟨w.heap.size + 1, 1, none⟩) (by first | (simp; done) | (simp; omega) | assumption)) | (go_at_call 60; refine (Clone_any B _ hB' (by omega)).mono ?_; rintro e w' ⟨rfl, hb⟩; have hz := Nat.lt_of_lt_of_le (show w.heap.size + 1 < _ by first | (simp; done) | (simp; omega) | assumption) hb.size; have q0 := hb.cell (p := ⟨w.heap.size + 1, 0, none⟩) (by first | (simp; done) | (simp; omega) | assumption); have q1 := hb.cell (p := ⟨w.heap.size + 1, 1, none⟩) (by first | (simp; done) | (simp; omega) | assumption); have f0 := hb.frozen (p := ⟨w.heap.size + 1, 0, none⟩) (by first | (simp; done) | (simp; omega) | assumption); have f1 := hb.frozen (p := ⟨w.heap.size + 1, 1, none⟩) (by first | (simp; done) | (simp; omega) | assumption)))
  go_wp2
  rename_i hH
  exact bodyPost_ret (v := .agg #[.string A, .string B]) (by clear hH hb; simp [results, Try.results34, go_sem, *]) rfl ⟨rfl, hH.2.2.1⟩
end Go.Proofs.Ytbcedjjocpjkjaa

namespace Go.Proofs.Ytbcedjjocpjkjaa
open Go.RowKit

/-- The i-th cell of a board C of W columns and H rows, turned by k, that then has dw columns. -/
def tcell (C : List UInt8) (W H k dw i : Nat) : UInt8 :=
  C.getD (srcY H k (i % dw : Nat) (i / dw : Nat) * W + srcX W k (i % dw : Nat) (i / dw : Nat)).toNat 0
def tcells (C : List UInt8) (W H k dw n : Nat) : List UInt8 := (List.range n).map (tcell C W H k dw)
def bvals (l : List UInt8) : List Value := l.map fun c => Value.int .u8 (c.toNat : Int)

theorem tcells_succ (C : List UInt8) (W H k dw n : Nat) : tcells C W H k dw (n + 1) = tcells C W H k dw n ++ [tcell C W H k dw n] := by
  simp [tcells, List.range_succ]
theorem bvals_snoc (l : List UInt8) (c : UInt8) : bvals (l ++ [c]) = bvals l ++ [Value.int .u8 (c.toNat : Int)] := by simp [bvals]
theorem tcells_length (C : List UInt8) (W H k dw n : Nat) : (tcells C W H k dw n).length = n := by simp [tcells]

theorem src_bounds (W H : Nat) (k : Nat) (x y : Int) (dw dh : Nat) (hd : if k / 4 % 2 = 1 then dw = H ∧ dh = W else dw = W ∧ dh = H) (hx0 : 0 ≤ x) (hx1 : x < dw) (hy0 : 0 ≤ y) (hy1 : y < dh) :
    0 ≤ srcX W k x y ∧ srcX W k x y < W ∧ 0 ≤ srcY H k x y ∧ srcY H k x y < H := by
  unfold srcX srcY
  by_cases h4 : k / 4 % 2 = 1
  · simp only [h4, if_true] at hd ⊢
    obtain ⟨rfl, rfl⟩ := hd
    by_cases h2 : k / 2 % 2 = 1 <;> by_cases h1 : k % 2 = 1 <;> simp only [h1, h2, if_true, if_false] <;> omega
  · simp only [h4, if_false] at hd ⊢
    obtain ⟨rfl, rfl⟩ := hd
    by_cases h2 : k / 2 % 2 = 1 <;> by_cases h1 : k % 2 = 1 <;> simp only [h1, h2, if_true, if_false] <;> omega

theorem idx_bound (u v W H : Int) (hu0 : 0 ≤ u) (hu : u < H) (hv0 : 0 ≤ v) (hv : v < W) : 0 ≤ u * W + v ∧ u * W + v < W * H := by
  have h1 : u * W ≤ (H - 1) * W := Int.mul_le_mul_of_nonneg_right (by omega) (by omega)
  have h2 : 0 ≤ u * W := Int.mul_nonneg hu0 (by omega)
  have h3 : (H - 1) * W = W * H - W := by rw [Int.sub_mul, Int.one_mul, Int.mul_comm]
  omega

/-- Where the cell x, y of the turned board lies in C: a number below its size; and it is the turned board's cell number y dw + x. -/
theorem turned_idx (C : ByteArray) (W H k dw dh x y : Nat) (hC : C.size = W * H) (hd : if k / 4 % 2 = 1 then dw = H ∧ dh = W else dw = W ∧ dh = H) (hx : x < dw) (hy : y < dh) :
    ∃ (n : Nat) (hn : n < C.size), srcY H k x y * W + srcX W k x y = (n : Int) ∧ tcell C.data.toList W H k dw (y * dw + x) = C[n] := by
  obtain ⟨a0, a1, b0, b1⟩ := src_bounds W H k x y dw dh hd (by omega) (by omega) (by omega) (by omega)
  obtain ⟨c0, c1⟩ := idx_bound (srcY H k x y) (srcX W k x y) W H b0 b1 a0 a1
  have e1 : (y * dw + x) % dw = x := by rw [Nat.mul_comm, Nat.mul_add_mod, Nat.mod_eq_of_lt hx]
  have e2 : (y * dw + x) / dw = y := by rw [Nat.mul_comm, Nat.mul_add_div (by omega), Nat.div_eq_of_lt hx]; rfl
  have hWH : ((W * H : Nat) : Int) = (W : Int) * H := by simp
  have hn : (srcY H k x y * W + srcX W k x y).toNat < C.size := by rw [hC]; omega
  refine ⟨(srcY H k x y * W + srcX W k x y).toNat, hn, by omega, ?_⟩
  unfold tcell
  rw [e1, e2]
  rw [List.getD_eq_getElem?_getD, List.getElem?_eq_getElem (by rw [len_data]; exact hn)]
  rfl
end Go.Proofs.Ytbcedjjocpjkjaa
