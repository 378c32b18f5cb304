/-
  The small functions of package board, walked: what each returns, for every argument; the world stands.
  board.areCells and board.isHand, walked: for every text, the answer is what the plain functions say; the world stands.
  strings.Clone and board.copied, walked: the same text, the same two texts; of what was there nothing has turned.
  board.copied, walked: the same two texts; of what was there nothing has turned.
  Plain mathematics of turned boards, no program: cells by number, where each comes from.
  board.turned, walked: the turned position, for every position and turn; of what was there nothing has turned.
  board.Check, board.turned and board.Turned, as their callers want them: for every position and every turn.
  package rules, walked: small functions; ways.
-/
import Derived.Test.YtlogengkhlmcbaaGreatDoorProg
import Derived.WalkKit
import Derived.WalkSpells
import Derived.WalkLawsBesides
import Derived.Deep.QuietTactic
import Derived.BigQuiet
import Derived.Lib.BufferWrite
import Derived.Lib.UnsafeStr
import Derived.Lib.Strings
import Derived.Lib.Walk
import Derived.Laws.MakeOwn
import Derived.Deep.RegionHeld3
import Derived.Deep.DrawnRows
import Derived.Deep.AppendLies
import Derived.OwnWalk
import Derived.Deep.DeepMust
namespace Go.Proofs.YtlogengkhlmcbaaGreatDoor
open Go.RowKit

theorem hide {p : Prop} (h : p) : Hid p := h
theorem unhide {p : Prop} (h : Hid p) : p := h
theorem ret_bool {a b : Bool} (h : a = b) : Ending.returned (.bool a) = .returned (.bool b) := by rw [h]
theorem ret_int {k : IntKind} {a b : Int} (h : a = b) : Ending.returned (.int k a) = .returned (.int k b) := by rw [h]

/-- 'A' to 'Z'. -/
def capB (c : Int) : Bool := decide (65 ≤ c) && decide (c ≤ 90)
/-- '.', 'A' to 'Z', 'a' to 'z'. -/
def cellB (c : Int) : Bool := decide (c = 46) || capB c || (decide (97 ≤ c) && decide (c ≤ 122))
def sideB (n : Int) : Bool := decide (1 ≤ n) && decide (n ≤ 8)
def turnB (n : Int) : Bool := decide (0 ≤ n) && decide (n < 8)

set_option maxHeartbeats 400000 in
theorem isCapital_any (c : Int) (w : World) :
    Calls Tryz.prog 75 #[.int .u8 c] w fun e w' => e = .returned (.bool (capB c)) ∧ w' = w := by
  go_enter Tryz.func75, Tryz.ntmps75
  go_wp2
  all_goals go_ret
  all_goals refine ⟨ret_bool ?_, rfl⟩
  all_goals (unfold capB; simp; try omega)

set_option maxHeartbeats 400000 in
theorem isSide_any (n : Int) (w : World) :
    Calls Tryz.prog 57 #[.int .i64 n] w fun e w' => e = .returned (.bool (sideB n)) ∧ w' = w := by
  go_enter Tryz.func57, Tryz.ntmps57
  go_wp2
  all_goals go_ret
  all_goals refine ⟨ret_bool ?_, rfl⟩
  all_goals (unfold sideB; simp; try omega)

theorem andNot_cap : ∀ c : Nat, c < 256 → (capB (bits .andNot .u8 (c : Int) 32) = (capB c || (decide (97 ≤ (c : Int)) && decide ((c : Int) ≤ 122)))) := by decide +kernel

set_option maxHeartbeats 400000 in
theorem Capital_any (c : Nat) (w : World) :
    Calls Tryz.prog 63 #[.int .u8 c] w fun e w' => e = .returned (.int .u8 (bits .andNot .u8 (c : Int) 32)) ∧ w' = w := by
  go_enter Tryz.func63, Tryz.ntmps63
  go_wp2
  go_ret
  exact ⟨rfl, rfl⟩

set_option maxHeartbeats 400000 in
theorem isCell_any (c : Nat) (w : World) (h1 : c < 256) :
    Calls Tryz.prog 74 #[.int .u8 c] w fun e w' => e = .returned (.bool (cellB c)) ∧ w' = w := by
  have hB := hide (andNot_cap c h1)
  by_cases h46 : (c : Int) = 46
  · obtain rfl : c = 46 := by omega
    go_enter Tryz.func74, Tryz.ntmps74
    go_wp2_with (first | (go_at_call 63; refine (Capital_any _ _).mono ?_; rintro e w' ⟨rfl, rfl⟩) | (go_at_call 75; refine (isCapital_any _ _).mono ?_; rintro e w' ⟨rfl, rfl⟩))
    go_ret
    exact ⟨ret_bool (by decide), rfl⟩
  · have hd : ((c : Int) == 46) = false := by simpa using h46
    go_enter Tryz.func74, Tryz.ntmps74
    go_wp2_with (first | (go_at_call 63; refine (Capital_any _ _).mono ?_; rintro e w' ⟨rfl, rfl⟩) | (go_at_call 75; refine (isCapital_any _ _).mono ?_; rintro e w' ⟨rfl, rfl⟩))
    go_ret
    exact ⟨ret_bool (by rw [unhide hB]; simp [cellB, h46]), rfl⟩

/-- Where the cell x, y of a board of W columns and H rows, turned by k, comes from. -/
def srcX (W : Int) (k : Nat) (x y : Int) : Int :=
  if k / 4 % 2 = 1 then (if k / 2 % 2 = 1 then W - 1 - y else y) else (if k % 2 = 1 then W - 1 - x else x)
def srcY (H : Int) (k : Nat) (x y : Int) : Int :=
  if k / 4 % 2 = 1 then (if k % 2 = 1 then H - 1 - x else x) else (if k / 2 % 2 = 1 then H - 1 - y else y)

theorem mul_small {u W : Int} (h0 : -8 ≤ u) (h1 : u ≤ 8) (hW0 : 1 ≤ W) (hW1 : W ≤ 8) : -64 ≤ u * W ∧ u * W ≤ 64 := by
  constructor
  · have h2 := Int.mul_le_mul_of_nonneg_right h0 (show (0 : Int) ≤ W by omega)
    omega
  · have h2 := Int.mul_le_mul_of_nonneg_right h1 (show (0 : Int) ≤ W by omega)
    omega
theorem wrap_in (n : Int) (h : -9223372036854775808 ≤ n ∧ n ≤ 9223372036854775807) : wrap64 n = n := by unfold wrap64; omega
theorem wrap_mul {u W v : Int} (h0 : -8 ≤ u) (h1 : u ≤ 8) (hW0 : 1 ≤ W) (hW1 : W ≤ 8) (v0 : -16 ≤ v) (v1 : v ≤ 16) : wrap64 (wrap64 (u * W) + v) = u * W + v := by
  have hm := mul_small h0 h1 hW0 hW1
  rw [wrap_in (u * W) (by omega), wrap_in _ (by omega)]

end Go.Proofs.YtlogengkhlmcbaaGreatDoor

namespace Go.Proofs.YtlogengkhlmcbaaGreatDoor
open Go.RowKit

def cellsB (l : List UInt8) : Bool := l.all fun c => cellB c.toNat
/-- Capital letters, none below m, none behind a greater one. -/
def capsB : Int → List UInt8 → Bool
  | _, [] => true
  | m, c :: t => capB c.toNat && decide (m ≤ c.toNat) && capsB c.toNat t
def handB (l : List UInt8) : Bool := decide (l.length ≤ 8) && capsB 65 l

theorem take_snoc (s : ByteArray) (k : Nat) (h : k < s.size) : s.data.toList.take (k + 1) = s.data.toList.take k ++ [s[k]] := by
  rw [List.take_succ_eq_append_getElem (by simpa using h)]; rfl
theorem len_data (s : ByteArray) : s.data.toList.length = s.size := by simp
theorem take_all (s : ByteArray) (k : Nat) (h : s.size ≤ k) : s.data.toList.take k = s.data.toList := List.take_of_length_le (by rw [len_data]; exact h)
theorem cellsB_snoc (l : List UInt8) (c : UInt8) : cellsB (l ++ [c]) = (cellsB l && cellB c.toNat) := by simp [cellsB]
theorem cellsB_take {l : List UInt8} (k : Nat) (h : cellsB (l.take k) = false) : cellsB l = false := by
  cases hl : cellsB l with
  | false => rfl
  | true =>
    simp only [cellsB, List.all_eq_true] at hl
    have : cellsB (l.take k) = true := by
      simp only [cellsB, List.all_eq_true]; intro c hc; exact hl c (List.mem_of_mem_take hc)
    simp [this] at h

theorem drop_cons (s : ByteArray) (k : Nat) (h : k < s.size) : s.data.toList.drop k = s[k] :: s.data.toList.drop (k + 1) := by
  rw [List.drop_eq_getElem_cons (by simpa using h)]; rfl
theorem drop_all (s : ByteArray) (k : Nat) (h : s.size ≤ k) : s.data.toList.drop k = [] := List.drop_of_length_le (by rw [len_data]; exact h)

set_option maxHeartbeats 400000 in
theorem areCells_any (s : ByteArray) (n : Int) (w : World) (hs : s.size ≤ maxLen) :
    Calls Tryz.prog 58 #[.string s, .int .i64 n] w fun e w' => e = .returned (.bool (decide ((s.size : Int) = n) && cellsB s.data.toList)) ∧ w' = w := by
  unfold maxLen at hs
  by_cases hn : (s.size : Int) = n
  · have hd : ((s.size : Int) != n) = false := by simpa using hn
    have HN := hide hn
    clear hn
    go_enter Tryz.func58, Tryz.ntmps58
    go_wp2
    go_loop [12] (fun i => ∃ k : Nat, k ≤ s.size ∧ i = .int .i64 k ∧ cellsB (s.data.toList.take k) = true) (fun i => s.size - (intOf i).toNat)
    case atStart => exact ⟨0, Nat.zero_le _, rfl, rfl⟩
    case round =>
      obtain ⟨k, hk, rfl, hc⟩ := hrel
      have HC := hide hc
      clear hc
      by_cases hlt : k < s.size
      · have HS := hide (take_snoc s k hlt)
        have hb : s[k].toNat < 256 := s[k].toNat_lt
        go_wp2_with (go_at_call 74; refine (isCell_any _ _ hb).mono ?_; rintro e w' ⟨rfl, rfl⟩)
        · have hf : (!cellB ↑s[k].toNat) = true := by assumption
          go_ret
          refine ⟨ret_bool ?_, rfl⟩
          rw [cellsB_take (k + 1) (by rw [unhide HS, cellsB_snoc]; simp at hf; simp [hf])]
          simp
        · have hf : (!cellB ↑s[k].toNat) = false := by assumption
          go_round
          case rel => exact ⟨k + 1, by omega, by go_num, by rw [unhide HS, cellsB_snoc, unhide HC]; simpa using hf⟩
          case measure => simp [intOf]; omega
      · go_wp2
        go_ret
        refine ⟨ret_bool ?_, rfl⟩
        have h1 := unhide HC
        rw [take_all s k (by omega)] at h1
        simp [h1, unhide HN]
  · have hd : ((s.size : Int) != n) = true := by simpa using hn
    go_enter Tryz.func58, Tryz.ntmps58
    go_wp2
    go_ret
    exact ⟨ret_bool (by simp [hn]), rfl⟩

set_option maxHeartbeats 400000 in
theorem isHand_any (s : ByteArray) (w : World) (hs : s.size ≤ maxLen) :
    Calls Tryz.prog 59 #[.string s] w fun e w' => e = .returned (.bool (handB s.data.toList)) ∧ w' = w := by
  unfold maxLen at hs
  by_cases hn : s.size ≤ 8
  · have HN := hide hn
    go_enter Tryz.func59, Tryz.ntmps59
    go_wp2
    go_loop [3, 10] (fun t i => ∃ (k : Nat) (m : Int), k ≤ s.size ∧ i = .int .i64 k ∧ t = .int .u8 m ∧ handB s.data.toList = capsB m (s.data.toList.drop k)) (fun _ i => s.size - (intOf i).toNat)
    case atStart => exact ⟨0, 65, Nat.zero_le _, rfl, rfl, by simp [handB, hn]⟩
    case round =>
      obtain ⟨k, m, hk, rfl, rfl, hc⟩ := hrel
      have HC := hide hc
      clear hc
      by_cases hlt : k < s.size
      · have HS := hide (drop_cons s k hlt)
        go_wp2_with (go_at_call 75; refine (isCapital_any _ _).mono ?_; rintro e w' ⟨rfl, rfl⟩)
        · have h1 : ↑s[k].toNat < m := by assumption
          go_ret
          refine ⟨ret_bool ?_, rfl⟩
          rw [unhide HC, unhide HS]
          simp only [capsB, show decide (m ≤ ↑s[k].toNat) = false by simpa using h1, Bool.and_false, Bool.false_and]
        · have h1 : m ≤ ↑s[k].toNat := by assumption
          have h2 : capB ↑s[k].toNat = true := by assumption
          go_round
          case rel => exact ⟨k + 1, ↑s[k].toNat, by omega, by go_num, rfl, by rw [unhide HC, unhide HS]; simp [capsB, h1, h2]⟩
          case measure => simp [intOf]; omega
        · have h2 : ¬ capB ↑s[k].toNat = true := by assumption
          go_ret
          refine ⟨ret_bool ?_, rfl⟩
          rw [unhide HC, unhide HS]
          simp [capsB, h2]
      · go_wp2
        go_ret
        refine ⟨ret_bool ?_, rfl⟩
        rw [unhide HC, drop_all s k (by omega)]; rfl
  · go_enter Tryz.func59, Tryz.ntmps59
    go_wp2
    go_ret
    exact ⟨ret_bool (by simp [handB, hn]), rfl⟩

/-- What a position is (P3). -/
def posB (W H : Int) (C : List UInt8) (T : Int) (A B : List UInt8) : Bool :=
  sideB W && sideB H && (decide ((C.length : Int) = W * H) && cellsB C) && (decide (T = 0) || decide (T = 1)) && handB A && handB B
/-- 0, or 1 where it is none. -/
def errI (b : Bool) : Int := if b then 0 else 1

theorem wrapWH (W H : Int) (h : sideB W = true) (h' : sideB H = true) : wrap64 (W * H) = W * H := by
  simp only [sideB, Bool.and_eq_true, decide_eq_true_eq] at h h'
  have := mul_small (u := W) (W := H) (by omega) (by omega) h'.1 h'.2
  exact wrap_in _ (by omega)

set_option maxHeartbeats 800000 in
theorem Check_any (W H T : Int) (C A B : ByteArray) (w : World) (hC : C.size ≤ maxLen) (hA : A.size ≤ maxLen) (hB : B.size ≤ maxLen) :
    Calls Tryz.prog 44 #[.agg #[.int .i64 W, .int .i64 H, .string C, .int .i64 T, .string A, .string B]] w fun e w' => e = .returned (.int .i64 (errI (posB W H C.data.toList T A.data.toList B.data.toList))) ∧ Below w.heap.size w w' := by
  go_enter Tryz.func44, Tryz.ntmps44
  go_wp2_with (first | (go_at_call 57; refine (isSide_any _ _).mono ?_; rintro e w' ⟨rfl, rfl⟩) | (go_at_call 58; refine (areCells_any _ _ _ hC).mono ?_; rintro e w' ⟨rfl, rfl⟩) | (go_at_call 59; refine (isHand_any _ _ ?_).mono ?_; assumption; rintro e w' ⟨rfl, rfl⟩))
  all_goals go_ret
  all_goals refine ⟨ret_int ?_, (Below.refl _ _).alloc (Nat.le_refl _) _⟩
  all_goals have hw := wrapWH W H
  all_goals clear hC hA hB
  all_goals simp_all [errI, posB]
  intro a b
  rcases ‹¬ (C.size : Int) = W * H ∨ cellsB C.data.toList = false› with h | h
  · exact absurd a h
  · simp [h] at b
end Go.Proofs.YtlogengkhlmcbaaGreatDoor

namespace Go.Proofs.YtlogengkhlmcbaaGreatDoor
open Go.RowKit

theorem Tryz.info5 : (Tryz.prog.info? 5).map (fun i => (i.zero, i.size, i.bytes)) = some (some (.int .u8 0), 1, 1) := by kernel_rfl

set_option maxHeartbeats 1000000 in
set_option maxRecDepth 100000 in
theorem liteClone_any (s : ByteArray) (w : World) (hlim : s.size ≤ maxLen) (hlim' : s.size ≤ 140737488355328) :
    Calls Tryz.prog 90 #[.string s] w fun e w' => e = .returned (.string s) ∧ Below w.heap.size w w' := by
  by_cases h0 : s.size = 0
  · have hs : s = ⟨#[]⟩ := by
      apply ByteArray.ext
      exact Array.eq_empty_of_size_eq_zero h0
    subst hs
    go_enter Tryz.func90, Tryz.ntmps90
    go_wp2
    go_ret
    exact ⟨rfl, Below.refl _ _⟩
  · obtain ⟨i0, hi, hz0, hz1, hz2⟩ := info_parts Tryz.info5
    have hinfo : (Tryz.prog.info? 5).map (·.size) = some 1 := by rw [hi]; simp [hz1]
    have hco : Tryz.prog.cellsOf 5 = 1 := by simp [Program.cellsOf, hi, hz1]
    obtain ⟨M, hM⟩ : ∃ M, M = madeCells (Value.int .u8 0).cells (((s.size : Nat) : Int).toNat * i0.size) := ⟨_, rfl⟩
    have hMs : M.size = s.size := by rw [hM, size_madeCells, hz1]; simp
    have hmk : ∀ W : World, (Instr.makeSlice 89 (.int .i64 (s.size : Int)) (.int .i64 (s.size : Int))).run Tryz.prog W = .ok (.slice (some ⟨W.heap.size, 0, none⟩) s.size s.size) (W.alloc (.cells M 5)) := fun W => by
      have h := run_make (P := Tryz.prog) W 89 5 i0 (.int .u8 0) Tryz.underlying89 hi hz0 .i64 .i64 (s.size : Int) (s.size : Int) (by omega) (by omega) (by rw [hz2]; omega) (by unfold maxLen at hlim; omega)
      rw [← hM] at h
      simpa using h
    clear hM
    have hcp := Lib.run_copy_row_string (P := Tryz.prog) (w.alloc (.cells M 5)) 89 9 3 5 w.heap.size 0 s.size s.size s M 5 Tryz.underlying89 hinfo (heap_alloc_new w _) (Nat.le_refl _) (by omega)
    obtain ⟨Y, hY⟩ : ∃ Y, Y = (M.toList.take 0 ++ Lib.byteCells s.data.toList ++ M.toList.drop (0 + s.size)).toArray := ⟨_, rfl⟩
    rw [← hY] at hcp
    have hYl : Y.toList = Lib.byteCells s.data.toList := by
      rw [hY, List.toList_toArray, List.take_zero, List.nil_append, List.drop_of_length_le (by rw [Array.length_toList]; omega), List.append_nil]
    have hYs : Y.size = s.size := by rw [← Array.length_toList, hYl, Lib.byteCells_length, ← Lib.size_eq]
    have hgY : ((w.alloc (.cells M 5)).setRow w.heap.size Y).heap[w.heap.size]? = some (.cells Y 5 (0, 0)) := setRow_heap _ _ M _ 5 (0, 0) (heap_alloc_new w _)
    have hne : s.data.toList ≠ [] := fun e => h0 (by rw [Lib.size_eq, e]; rfl)
    have hUS := Lib.run_unsafeString_row (P := Tryz.prog) ((w.alloc (.cells M 5)).setRow w.heap.size Y) 145 3 9 5 Tryz.underlying145 hco w.heap.size Y.size (by unfold World.shape?; rw [hgY]) s.data.toList hne (by rw [← Lib.size_eq]; omega) (by rw [← Lib.size_eq]; omega)
      (fun j x hx => Lib.cells_of_row hgY Y.size j _ (by rw [List.take_of_length_le (by rw [Array.length_toList]; exact Nat.le_refl _), hYl]; simp [Lib.byteCells, hx]))
    rw [← Lib.size_eq] at hUS
    clear hY
    unfold maxLen at hlim
    go_enter Tryz.func90, Tryz.ntmps90
    go_wp2
    go_ret
    have hb1 : Below w.heap.size w (w.alloc (.cells M 5)) := (Below.refl _ w).alloc (Nat.le_refl _) _
    have hb2 : Below w.heap.size (w.alloc (.cells M 5)) ((w.alloc (.cells M 5)).setRow w.heap.size Y) := ⟨rfl, rfl, rfl, by simp, fun k hk => setRow_other _ _ _ _ (by omega)⟩
    exact ⟨rfl, Lib.below_freeze (hb1.trans hb2) (p := ⟨w.heap.size, 0, none⟩) (Nat.le_refl _) _⟩

set_option maxHeartbeats 400000 in
theorem Clone_any (s : ByteArray) (w : World) (hlim : s.size ≤ maxLen) (hlim' : s.size ≤ 140737488355328) :
    Calls Tryz.prog 70 #[.string s] w fun e w' => e = .returned (.string s) ∧ Below w.heap.size w w' := by
  go_enter Tryz.func70, Tryz.ntmps70
  go_wp2_with (go_at_call 90; refine (liteClone_any _ _ hlim hlim').mono ?_; rintro e w' ⟨rfl, hb⟩)
  go_ret
  exact ⟨rfl, hb⟩
end Go.Proofs.YtlogengkhlmcbaaGreatDoor

namespace Go.Proofs.YtlogengkhlmcbaaGreatDoor
open Go.RowKit
attribute [local go_sem ↓] Go.wp_at_zero Go.wp_at_succ

end Go.Proofs.YtlogengkhlmcbaaGreatDoor

namespace Go.Proofs.YtlogengkhlmcbaaGreatDoor
open Go.RowKit

/-- The i-th cell of a board C of W columns and H rows, turned by k, that then has dw columns. -/
def tcell (C : List UInt8) (W H k dw i : Nat) : UInt8 :=
  C.getD (srcY H k (i % dw : Nat) (i / dw : Nat) * W + srcX W k (i % dw : Nat) (i / dw : Nat)).toNat 0
def tcells (C : List UInt8) (W H k dw n : Nat) : List UInt8 := (List.range n).map (tcell C W H k dw)
def bvals (l : List UInt8) : List Value := l.map fun c => Value.int .u8 (c.toNat : Int)

theorem tcells_succ (C : List UInt8) (W H k dw n : Nat) : tcells C W H k dw (n + 1) = tcells C W H k dw n ++ [tcell C W H k dw n] := by
  simp [tcells, List.range_succ]
theorem bvals_snoc (l : List UInt8) (c : UInt8) : bvals (l ++ [c]) = bvals l ++ [Value.int .u8 (c.toNat : Int)] := by simp [bvals]
theorem tcells_length (C : List UInt8) (W H k dw n : Nat) : (tcells C W H k dw n).length = n := by simp [tcells]

theorem src_bounds (W H : Nat) (k : Nat) (x y : Int) (dw dh : Nat) (hd : if k / 4 % 2 = 1 then dw = H ∧ dh = W else dw = W ∧ dh = H) (hx0 : 0 ≤ x) (hx1 : x < dw) (hy0 : 0 ≤ y) (hy1 : y < dh) :
    0 ≤ srcX W k x y ∧ srcX W k x y < W ∧ 0 ≤ srcY H k x y ∧ srcY H k x y < H := by
  unfold srcX srcY
  by_cases h4 : k / 4 % 2 = 1
  · simp only [h4, if_true] at hd ⊢
    obtain ⟨rfl, rfl⟩ := hd
    by_cases h2 : k / 2 % 2 = 1 <;> by_cases h1 : k % 2 = 1 <;> simp only [h1, h2, if_true, if_false] <;> omega
  · simp only [h4, if_false] at hd ⊢
    obtain ⟨rfl, rfl⟩ := hd
    by_cases h2 : k / 2 % 2 = 1 <;> by_cases h1 : k % 2 = 1 <;> simp only [h1, h2, if_true, if_false] <;> omega

theorem idx_bound (u v W H : Int) (hu0 : 0 ≤ u) (hu : u < H) (hv0 : 0 ≤ v) (hv : v < W) : 0 ≤ u * W + v ∧ u * W + v < W * H := by
  have h1 : u * W ≤ (H - 1) * W := Int.mul_le_mul_of_nonneg_right (by omega) (by omega)
  have h2 : 0 ≤ u * W := Int.mul_nonneg hu0 (by omega)
  have h3 : (H - 1) * W = W * H - W := by rw [Int.sub_mul, Int.one_mul, Int.mul_comm]
  omega

/-- Where the cell x, y of the turned board lies in C: a number below its size; and it is the turned board's cell number y dw + x. -/
theorem turned_idx (C : ByteArray) (W H k dw dh x y : Nat) (hC : C.size = W * H) (hd : if k / 4 % 2 = 1 then dw = H ∧ dh = W else dw = W ∧ dh = H) (hx : x < dw) (hy : y < dh) :
    ∃ (n : Nat) (hn : n < C.size), srcY H k x y * W + srcX W k x y = (n : Int) ∧ tcell C.data.toList W H k dw (y * dw + x) = C[n] := by
  obtain ⟨a0, a1, b0, b1⟩ := src_bounds W H k x y dw dh hd (by omega) (by omega) (by omega) (by omega)
  obtain ⟨c0, c1⟩ := idx_bound (srcY H k x y) (srcX W k x y) W H b0 b1 a0 a1
  have e1 : (y * dw + x) % dw = x := by rw [Nat.mul_comm, Nat.mul_add_mod, Nat.mod_eq_of_lt hx]
  have e2 : (y * dw + x) / dw = y := by rw [Nat.mul_comm, Nat.mul_add_div (by omega), Nat.div_eq_of_lt hx]; rfl
  have hWH : ((W * H : Nat) : Int) = (W : Int) * H := by simp
  have hn : (srcY H k x y * W + srcX W k x y).toNat < C.size := by rw [hC]; omega
  refine ⟨(srcY H k x y * W + srcX W k x y).toNat, hn, by omega, ?_⟩
  unfold tcell
  rw [e1, e2]
  rw [List.getD_eq_getElem?_getD, List.getElem?_eq_getElem (by rw [len_data]; exact hn)]
  rfl
end Go.Proofs.YtlogengkhlmcbaaGreatDoor

namespace Go.Proofs.YtlogengkhlmcbaaGreatDoor
open Go.RowKit
attribute [local go_sem ↓] Go.wp_at_zero Go.wp_at_succ

theorem own_below {w w1 : World} {base e size : Nat} {v : Value} {n : Nat} {xs : List Value} (h : w.ownsRow base e size v n xs) (hb : Below w.heap.size w w1) : w1.ownsRow base e size v n xs := by
  refine ⟨h.1, ?_⟩
  rcases h.2 with h0 | ⟨g, cap, cur, h1, h2, h3, h4⟩
  · exact .inl h0
  · refine .inr ⟨g, cap, cur, h1, h2, ?_, h4⟩
    rw [hb.block g ?_]
    · exact h3
    · rcases Nat.lt_or_ge g w.heap.size with hlt | hge
      · exact hlt
      · rw [Array.getElem?_eq_none hge] at h3; cases h3
theorem own_ne {w : World} {base e size : Nat} {v : Value} {n : Nat} {xs : List Value} (h : w.ownsRow base e size v n xs) {a : Nat} (ha : a < base) : some a ≠ v.ownBlock := by
  rcases h.2 with ⟨rfl, _⟩ | ⟨g, cap, cur, rfl, h2, _⟩
  · simp [Value.ownBlock]
  · simp [Value.ownBlock]; omega

theorem own_ge {w : World} {base e size : Nat} {v : Value} {n : Nat} {xs : List Value} (h : w.ownsRow base e size v n xs) : ∀ k, v.ownBlock = some k → base ≤ k := by
  intro k hk
  rcases Nat.lt_or_ge k base with h1 | h1
  · exact absurd hk.symm (own_ne h h1)
  · exact h1

theorem own_set6 {w : World} {base e size : Nat} {v : Value} {n : Nat} {xs : List Value} {b : Nat} {u0 u1 u2 u3 u4 u5 : Value} (hb : b < base) (h : w.ownsRow base e size v n xs) :
    ((((((w.setCell ⟨b, 0, none⟩ u0).setCell ⟨b, 1, none⟩ u1).setCell ⟨b, 2, none⟩ u2).setCell ⟨b, 3, none⟩ u3).setCell ⟨b, 4, none⟩ u4).setCell ⟨b, 5, none⟩ u5).ownsRow base e size v n xs :=
  ownsRow_setCell_below (ownsRow_setCell_below (ownsRow_setCell_below (ownsRow_setCell_below (ownsRow_setCell_below (ownsRow_setCell_below h hb _) hb _) hb _) hb _) hb _) hb _
theorem below_set6 {B : Nat} {a w : World} {b : Nat} {u0 u1 u2 u3 u4 u5 : Value} (hb : B ≤ b) (h : Below B a w) :
    Below B a ((((((w.setCell ⟨b, 0, none⟩ u0).setCell ⟨b, 1, none⟩ u1).setCell ⟨b, 2, none⟩ u2).setCell ⟨b, 3, none⟩ u3).setCell ⟨b, 4, none⟩ u4).setCell ⟨b, 5, none⟩ u5) :=
  (((((h.setCell (p := ⟨b, 0, none⟩) hb _).setCell (p := ⟨b, 1, none⟩) hb _).setCell (p := ⟨b, 2, none⟩) hb _).setCell (p := ⟨b, 3, none⟩) hb _).setCell (p := ⟨b, 4, none⟩) hb _).setCell (p := ⟨b, 5, none⟩) hb _

/-- 'string(b)' of a row of the call's own. -/
theorem conv_own {w : World} {base n g cap : Nat} {l : List UInt8} (h : w.ownsRow base 5 1 (.slice (some ⟨g, 0, none⟩) n cap) n (bvals l)) (hn : Hid (l.length = n)) :
    (convert 89 9 (.slice (some ⟨g, 0, none⟩) n cap)).run Tryz.prog w = .ok (.string ⟨l.toArray⟩) w := by
  have hn' := unhide hn
  subst hn'
  refine run_convert_bytes_back w 89 9 5 ⟨g, 0, none⟩ cap l Tryz.underlying89 Tryz.underlying5 Tryz.underlying9 fun j hj => ?_
  have := h.cellAt j (by omega)
  have e : (⟨g, 0, none⟩ : Addr).add j = ⟨g, 0 + j, none⟩ := by unfold Addr.add; split <;> simp_all
  rw [Nat.zero_add] at e
  rw [e, this]
  simp [bvals, hj]

end Go.Proofs.YtlogengkhlmcbaaGreatDoor

namespace Go.Proofs.YtlogengkhlmcbaaGreatDoor
open Go.RowKit

theorem Check_ok (W H T : Int) (C A B : ByteArray) (w : World) (hC : C.size ≤ maxLen) (hA : A.size ≤ maxLen) (hB : B.size ≤ maxLen) (h : posB W H C.data.toList T A.data.toList B.data.toList = true) :
    Calls Tryz.prog 44 #[.agg #[.int .i64 W, .int .i64 H, .string C, .int .i64 T, .string A, .string B]] w fun e w' => e = .returned (.int .i64 0) ∧ Below w.heap.size w w' := by
  have := Check_any W H T C A B w hC hA hB
  rw [h] at this
  exact this
theorem Check_no (W H T : Int) (C A B : ByteArray) (w : World) (hC : C.size ≤ maxLen) (hA : A.size ≤ maxLen) (hB : B.size ≤ maxLen) (h : posB W H C.data.toList T A.data.toList B.data.toList = false) :
    Calls Tryz.prog 44 #[.agg #[.int .i64 W, .int .i64 H, .string C, .int .i64 T, .string A, .string B]] w fun e w' => e = .returned (.int .i64 1) ∧ Below w.heap.size w w' := by
  have := Check_any W H T C A B w hC hA hB
  rw [h] at this
  exact this

/-- A position's facts, in numbers. -/
structure IsPos (W H : Nat) (C : ByteArray) (T : Int) (A B : ByteArray) : Prop where
  w0 : 1 ≤ W
  w1 : W ≤ 8
  h0 : 1 ≤ H
  h1 : H ≤ 8
  c : C.size = W * H
  cs : cellsB C.data.toList = true
  t : T = 0 ∨ T = 1
  a : handB A.data.toList = true
  b : handB B.data.toList = true
theorem handB_size {A : ByteArray} (h : handB A.data.toList = true) : A.size ≤ 8 := by
  simp only [handB, Bool.and_eq_true, decide_eq_true_eq, len_data] at h
  exact h.1
theorem IsPos.as {W H : Nat} {C : ByteArray} {T : Int} {A B : ByteArray} (p : IsPos W H C T A B) : A.size ≤ 8 := handB_size p.a
theorem IsPos.bs {W H : Nat} {C : ByteArray} {T : Int} {A B : ByteArray} (p : IsPos W H C T A B) : B.size ≤ 8 := handB_size p.b
theorem IsPos.c64 {W H : Nat} {C : ByteArray} {T : Int} {A B : ByteArray} (p : IsPos W H C T A B) : C.size ≤ 64 := by
  rw [p.c]; exact Nat.mul_le_mul p.w1 p.h1
theorem IsPos.posB {W H : Nat} {C : ByteArray} {T : Int} {A B : ByteArray} (p : IsPos W H C T A B) : posB W H C.data.toList T A.data.toList B.data.toList = true := by
  have hc : (C.size : Int) = (W : Int) * H := by rw [p.c]; simp
  have := p.w0; have := p.w1; have := p.h0; have := p.h1
  simp only [YtlogengkhlmcbaaGreatDoor.posB, sideB, len_data, p.cs, p.a, p.b, hc, Bool.and_eq_true, Bool.or_eq_true, decide_eq_true_eq, and_true]
  refine ⟨⟨⟨?_, ?_⟩, ?_⟩, ?_⟩
  all_goals first | exact p.t | omega
theorem isPos_of {W H : Int} {C : ByteArray} {T : Int} {A B : ByteArray} (h : posB W H C.data.toList T A.data.toList B.data.toList = true) : ∃ w h : Nat, W = w ∧ H = h ∧ IsPos w h C T A B := by
  simp only [YtlogengkhlmcbaaGreatDoor.posB, sideB, len_data, Bool.and_eq_true, Bool.or_eq_true, decide_eq_true_eq] at h
  obtain ⟨⟨⟨⟨⟨hW, hH⟩, hc, hcs⟩, ht⟩, ha⟩, hb⟩ := h
  obtain ⟨w, rfl⟩ := Int.eq_ofNat_of_zero_le (show 0 ≤ W by omega)
  obtain ⟨h, rfl⟩ := Int.eq_ofNat_of_zero_le (show 0 ≤ H by omega)
  refine ⟨w, h, rfl, rfl, by omega, by omega, by omega, by omega, ?_, hcs, ht, ha, hb⟩
  have : ((w * h : Nat) : Int) = (w : Int) * h := by simp
  omega

def twd (W H k : Nat) : Nat := if k / 4 % 2 = 1 then H else W
def thd (W H k : Nat) : Nat := if k / 4 % 2 = 1 then W else H
def tstr (C : ByteArray) (W H k : Nat) : ByteArray := ⟨(tcells C.data.toList W H k (twd W H k) (W * H)).toArray⟩

theorem and4 : ∀ k : Nat, k < 8 → (bits .and .i64 (k : Int) 4 != 0) = decide (k / 4 % 2 = 1) := by decide +kernel

theorem bcell {W w1 : World} (hb : Below W.heap.size W w1) : (∀ b o, b < W.heap.size → w1.cell? ⟨b, o, none⟩ = W.cell? ⟨b, o, none⟩) ∧ (∀ b o, b < W.heap.size → w1.frozen? ⟨b, o, none⟩ = W.frozen? ⟨b, o, none⟩) :=
  ⟨fun b o h => hb.cell (p := ⟨b, o, none⟩) h, fun b o h => hb.frozen (p := ⟨b, o, none⟩) h⟩

/-- No position. -/
def zeroPos : Value := .agg #[.int .i64 0, .int .i64 0, .string ⟨#[]⟩, .int .i64 0, .string ⟨#[]⟩, .string ⟨#[]⟩]

end Go.Proofs.YtlogengkhlmcbaaGreatDoor

namespace Go.Proofs.YtlogengkhlmcbaaGreatDoor
open Go.RowKit
attribute [local go_sem ↓] Go.wp_at_zero Go.wp_at_succ

/-- A way. -/
structure Wy where
  k : Int
  x : Int
  y : Int
  t : Int
def Wy.v (z : Wy) : Value := .agg #[.int .i64 z.k, .int .i64 z.x, .int .i64 z.y, .int .i64 z.t]
def inB (n a b : Int) : Bool := decide (a ≤ n) && decide (n ≤ b)
/-- P6: is it one? -/
def Wy.ok (z : Wy) : Bool := inB z.x 0 7 && inB z.y 0 7 && !(decide (z.x = 0) && decide (z.y = 0)) && (decide (z.t = 0) || decide (z.t = 1) || decide (z.t = 2)) && (((decide (z.k = 1) || decide (z.k = 2)) && decide (z.x ≤ z.y)) || decide (z.k = 3))

set_option maxHeartbeats 400000 in
theorem isWithin_any (n a b : Int) (w : World) :
    Calls Tryz.prog 56 #[.int .i64 n, .int .i64 a, .int .i64 b] w fun e w' => e = .returned (.bool (inB n a b)) ∧ w' = w := by
  go_enter Tryz.func56, Tryz.ntmps56
  go_wp2
  all_goals go_ret
  all_goals refine ⟨ret_bool ?_, rfl⟩
  all_goals (unfold inB; simp; try omega)

set_option maxHeartbeats 400000 in
theorem rCapital_any (c : Int) (w : World) :
    Calls Tryz.prog 76 #[.int .u8 c] w fun e w' => e = .returned (.bool (capB c)) ∧ w' = w := by
  go_enter Tryz.func76, Tryz.ntmps76
  go_wp2
  all_goals go_ret
  all_goals refine ⟨ret_bool ?_, rfl⟩
  all_goals (unfold capB; simp; try omega)

set_option maxHeartbeats 1000000 in
theorem isWay_any (z : Wy) (w : World) :
    Calls Tryz.prog 77 #[z.v] w fun e w' => e = .returned (.bool z.ok) ∧ Below w.heap.size w w' := by
  obtain ⟨k, x, y, t⟩ := z
  unfold Wy.v
  dsimp only
  go_enter Tryz.func77, Tryz.ntmps77
  go_wp2_with (go_at_call 56; refine (isWithin_any _ _ _ _).mono ?_; rintro e w' ⟨rfl, rfl⟩)
  all_goals go_ret
  all_goals refine ⟨ret_bool ?_, (Below.refl _ w).alloc (Nat.le_refl _) _⟩
  all_goals (rw [Bool.eq_iff_iff]; simp_all [Wy.ok, inB]; try omega)
end Go.Proofs.YtlogengkhlmcbaaGreatDoor
