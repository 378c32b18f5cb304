/-
  The small functions of package board, walked: what each returns, for every argument; the world stands.
  board.areCells and board.isHand, walked: for every text, the answer is what the plain functions say; the world stands.
  A digit of a long division, estimated by the highest words; numbers by words (plain mathematics).
  Plain mathematics of one digit of a long division, no program: multiply and subtract, add back.
-/
import Derived.Test.YtbcedjjocpjkjaaProg
import Derived.WalkKit
import Derived.WalkSpells
import Derived.WalkLawsBesides
import Derived.Deep.QuietTactic
import Derived.BigQuiet
namespace Go.Proofs.Ytbcedjjocpjkjaa
open Go.RowKit

theorem hide {p : Prop} (h : p) : Hid p := h
theorem unhide {p : Prop} (h : Hid p) : p := h
theorem ret_bool {a b : Bool} (h : a = b) : Ending.returned (.bool a) = .returned (.bool b) := by rw [h]
theorem ret_int {k : IntKind} {a b : Int} (h : a = b) : Ending.returned (.int k a) = .returned (.int k b) := by rw [h]

/-- 'A' to 'Z'. -/
def capB (c : Int) : Bool := decide (65 ≤ c) && decide (c ≤ 90)
/-- '.', 'A' to 'Z', 'a' to 'z'. -/
def cellB (c : Int) : Bool := decide (c = 46) || capB c || (decide (97 ≤ c) && decide (c ≤ 122))
def sideB (n : Int) : Bool := decide (1 ≤ n) && decide (n ≤ 8)
def turnB (n : Int) : Bool := decide (0 ≤ n) && decide (n < 8)

set_option maxHeartbeats 400000 in
theorem isCapital_any (c : Int) (w : World) :
    Calls Try.prog 72 #[.int .u8 c] w fun e w' => e = .returned (.bool (capB c)) ∧ w' = w := by
  go_enter Try.func72, Try.ntmps72
  go_wp2
  all_goals go_ret
  all_goals refine ⟨ret_bool ?_, rfl⟩
  all_goals (unfold capB; simp; try omega)

set_option maxHeartbeats 400000 in
theorem isSide_any (n : Int) (w : World) :
    Calls Try.prog 48 #[.int .i64 n] w fun e w' => e = .returned (.bool (sideB n)) ∧ w' = w := by
  go_enter Try.func48, Try.ntmps48
  go_wp2
  all_goals go_ret
  all_goals refine ⟨ret_bool ?_, rfl⟩
  all_goals (unfold sideB; simp; try omega)

set_option maxHeartbeats 400000 in
theorem isTurn_any (n : Int) (w : World) :
    Calls Try.prog 35 #[.int .i64 n] w fun e w' => e = .returned (.bool (turnB n)) ∧ w' = w := by
  go_enter Try.func35, Try.ntmps35
  go_wp2
  all_goals go_ret
  all_goals refine ⟨ret_bool ?_, rfl⟩
  all_goals (unfold turnB; simp; try omega)

theorem andNot_cap : ∀ c : Nat, c < 256 → (capB (bits .andNot .u8 (c : Int) 32) = (capB c || (decide (97 ≤ (c : Int)) && decide ((c : Int) ≤ 122)))) := by decide +kernel

set_option maxHeartbeats 400000 in
theorem Capital_any (c : Nat) (w : World) :
    Calls Try.prog 88 #[.int .u8 c] w fun e w' => e = .returned (.int .u8 (bits .andNot .u8 (c : Int) 32)) ∧ w' = w := by
  go_enter Try.func88, Try.ntmps88
  go_wp2
  go_ret
  exact ⟨rfl, rfl⟩

set_option maxHeartbeats 400000 in
theorem isCell_any (c : Nat) (w : World) (h1 : c < 256) :
    Calls Try.prog 71 #[.int .u8 c] w fun e w' => e = .returned (.bool (cellB c)) ∧ w' = w := by
  have hB := hide (andNot_cap c h1)
  by_cases h46 : (c : Int) = 46
  · obtain rfl : c = 46 := by omega
    go_enter Try.func71, Try.ntmps71
    go_wp2_with (first | (go_at_call 88; refine (Capital_any _ _).mono ?_; rintro e w' ⟨rfl, rfl⟩) | (go_at_call 72; refine (isCapital_any _ _).mono ?_; rintro e w' ⟨rfl, rfl⟩))
    go_ret
    exact ⟨ret_bool (by decide), rfl⟩
  · have hd : ((c : Int) == 46) = false := by simpa using h46
    go_enter Try.func71, Try.ntmps71
    go_wp2_with (first | (go_at_call 88; refine (Capital_any _ _).mono ?_; rintro e w' ⟨rfl, rfl⟩) | (go_at_call 72; refine (isCapital_any _ _).mono ?_; rintro e w' ⟨rfl, rfl⟩))
    go_ret
    exact ⟨ret_bool (by rw [unhide hB]; simp [cellB, h46]), rfl⟩

/-- Where the cell x, y of a board of W columns and H rows, turned by k, comes from. -/
def srcX (W : Int) (k : Nat) (x y : Int) : Int :=
  if k / 4 % 2 = 1 then (if k / 2 % 2 = 1 then W - 1 - y else y) else (if k % 2 = 1 then W - 1 - x else x)
def srcY (H : Int) (k : Nat) (x y : Int) : Int :=
  if k / 4 % 2 = 1 then (if k % 2 = 1 then H - 1 - x else x) else (if k / 2 % 2 = 1 then H - 1 - y else y)

theorem mul_small {u W : Int} (h0 : -8 ≤ u) (h1 : u ≤ 8) (hW0 : 1 ≤ W) (hW1 : W ≤ 8) : -64 ≤ u * W ∧ u * W ≤ 64 := by
  constructor
  · have h2 := Int.mul_le_mul_of_nonneg_right h0 (show (0 : Int) ≤ W by omega)
    omega
  · have h2 := Int.mul_le_mul_of_nonneg_right h1 (show (0 : Int) ≤ W by omega)
    omega
theorem wrap_in (n : Int) (h : -9223372036854775808 ≤ n ∧ n ≤ 9223372036854775807) : wrap64 n = n := by unfold wrap64; omega
theorem wrap_mul {u W v : Int} (h0 : -8 ≤ u) (h1 : u ≤ 8) (hW0 : 1 ≤ W) (hW1 : W ≤ 8) (v0 : -16 ≤ v) (v1 : v ≤ 16) : wrap64 (wrap64 (u * W) + v) = u * W + v := by
  have hm := mul_small h0 h1 hW0 hW1
  rw [wrap_in (u * W) (by omega), wrap_in _ (by omega)]

set_option maxHeartbeats 800000 in
theorem origin_any (W H T : Int) (C A B : ByteArray) (k : Nat) (x y : Int) (w : World) (hk : k < 8) (hW0 : 1 ≤ W) (hW1 : W ≤ 8) (hH0 : 1 ≤ H) (hH1 : H ≤ 8) (hx0 : 0 ≤ x) (hx1 : x ≤ 8) (hy0 : 0 ≤ y) (hy1 : y ≤ 8) :
    Calls Try.prog 61 #[.agg #[.int .i64 W, .int .i64 H, .string C, .int .i64 T, .string A, .string B], .int .i64 k, .int .i64 x, .int .i64 y] w fun e w' => e = .returned (.int .i64 (srcY H k x y * W + srcX W k x y)) ∧ Below w.heap.size w w' := by
  obtain rfl | rfl | rfl | rfl | rfl | rfl | rfl | rfl : k = 0 ∨ k = 1 ∨ k = 2 ∨ k = 3 ∨ k = 4 ∨ k = 5 ∨ k = 6 ∨ k = 7 := by omega
  all_goals
    go_enter Try.func61, Try.ntmps61
    go_wp2
    go_quiet (fail)
    go_wp2
    go_ret
    refine ⟨ret_int ?_, below_drewN ((Below.refl _ _).alloc (Nat.le_refl _) _) _⟩
    rw [wrap_mul (by omega) (by omega) hW0 hW1 (by omega) (by omega)]
    simp [srcX, srcY]
end Go.Proofs.Ytbcedjjocpjkjaa

namespace Go.Proofs.Ytbcedjjocpjkjaa
open Go.RowKit

def cellsB (l : List UInt8) : Bool := l.all fun c => cellB c.toNat
/-- Capital letters, none below m, none behind a greater one. -/
def capsB : Int → List UInt8 → Bool
  | _, [] => true
  | m, c :: t => capB c.toNat && decide (m ≤ c.toNat) && capsB c.toNat t
def handB (l : List UInt8) : Bool := decide (l.length ≤ 8) && capsB 65 l

theorem take_snoc (s : ByteArray) (k : Nat) (h : k < s.size) : s.data.toList.take (k + 1) = s.data.toList.take k ++ [s[k]] := by
  rw [List.take_succ_eq_append_getElem (by simpa using h)]; rfl
theorem len_data (s : ByteArray) : s.data.toList.length = s.size := by simp
theorem take_all (s : ByteArray) (k : Nat) (h : s.size ≤ k) : s.data.toList.take k = s.data.toList := List.take_of_length_le (by rw [len_data]; exact h)
theorem cellsB_snoc (l : List UInt8) (c : UInt8) : cellsB (l ++ [c]) = (cellsB l && cellB c.toNat) := by simp [cellsB]
theorem cellsB_take {l : List UInt8} (k : Nat) (h : cellsB (l.take k) = false) : cellsB l = false := by
  cases hl : cellsB l with
  | false => rfl
  | true =>
    simp only [cellsB, List.all_eq_true] at hl
    have : cellsB (l.take k) = true := by
      simp only [cellsB, List.all_eq_true]; intro c hc; exact hl c (List.mem_of_mem_take hc)
    simp [this] at h

theorem drop_cons (s : ByteArray) (k : Nat) (h : k < s.size) : s.data.toList.drop k = s[k] :: s.data.toList.drop (k + 1) := by
  rw [List.drop_eq_getElem_cons (by simpa using h)]; rfl
theorem drop_all (s : ByteArray) (k : Nat) (h : s.size ≤ k) : s.data.toList.drop k = [] := List.drop_of_length_le (by rw [len_data]; exact h)

set_option maxHeartbeats 400000 in
theorem areCells_any (s : ByteArray) (n : Int) (w : World) (hs : s.size ≤ maxLen) :
    Calls Try.prog 49 #[.string s, .int .i64 n] w fun e w' => e = .returned (.bool (decide ((s.size : Int) = n) && cellsB s.data.toList)) ∧ w' = w := by
  unfold maxLen at hs
  by_cases hn : (s.size : Int) = n
  · have hd : ((s.size : Int) != n) = false := by simpa using hn
    have HN := hide hn
    clear hn
    go_enter Try.func49, Try.ntmps49
    go_wp2
    go_loop [12] (fun i => ∃ k : Nat, k ≤ s.size ∧ i = .int .i64 k ∧ cellsB (s.data.toList.take k) = true) (fun i => s.size - (intOf i).toNat)
    case atStart => exact ⟨0, Nat.zero_le _, rfl, rfl⟩
    case round =>
      obtain ⟨k, hk, rfl, hc⟩ := hrel
      have HC := hide hc
      clear hc
      by_cases hlt : k < s.size
      · have HS := hide (take_snoc s k hlt)
        have hb : s[k].toNat < 256 := s[k].toNat_lt
        go_wp2_with (go_at_call 71; refine (isCell_any _ _ hb).mono ?_; rintro e w' ⟨rfl, rfl⟩)
        · have hf : (!cellB ↑s[k].toNat) = true := by assumption
          go_ret
          refine ⟨ret_bool ?_, rfl⟩
          rw [cellsB_take (k + 1) (by rw [unhide HS, cellsB_snoc]; simp at hf; simp [hf])]
          simp
        · have hf : (!cellB ↑s[k].toNat) = false := by assumption
          go_round
          case rel => exact ⟨k + 1, by omega, by go_num, by rw [unhide HS, cellsB_snoc, unhide HC]; simpa using hf⟩
          case measure => simp [intOf]; omega
      · go_wp2
        go_ret
        refine ⟨ret_bool ?_, rfl⟩
        have h1 := unhide HC
        rw [take_all s k (by omega)] at h1
        simp [h1, unhide HN]
  · have hd : ((s.size : Int) != n) = true := by simpa using hn
    go_enter Try.func49, Try.ntmps49
    go_wp2
    go_ret
    exact ⟨ret_bool (by simp [hn]), rfl⟩

set_option maxHeartbeats 400000 in
theorem isHand_any (s : ByteArray) (w : World) (hs : s.size ≤ maxLen) :
    Calls Try.prog 50 #[.string s] w fun e w' => e = .returned (.bool (handB s.data.toList)) ∧ w' = w := by
  unfold maxLen at hs
  by_cases hn : s.size ≤ 8
  · have HN := hide hn
    go_enter Try.func50, Try.ntmps50
    go_wp2
    go_loop [3, 10] (fun t i => ∃ (k : Nat) (m : Int), k ≤ s.size ∧ i = .int .i64 k ∧ t = .int .u8 m ∧ handB s.data.toList = capsB m (s.data.toList.drop k)) (fun _ i => s.size - (intOf i).toNat)
    case atStart => exact ⟨0, 65, Nat.zero_le _, rfl, rfl, by simp [handB, hn]⟩
    case round =>
      obtain ⟨k, m, hk, rfl, rfl, hc⟩ := hrel
      have HC := hide hc
      clear hc
      by_cases hlt : k < s.size
      · have HS := hide (drop_cons s k hlt)
        go_wp2_with (go_at_call 72; refine (isCapital_any _ _).mono ?_; rintro e w' ⟨rfl, rfl⟩)
        · have h1 : ↑s[k].toNat < m := by assumption
          go_ret
          refine ⟨ret_bool ?_, rfl⟩
          rw [unhide HC, unhide HS]
          simp only [capsB, show decide (m ≤ ↑s[k].toNat) = false by simpa using h1, Bool.and_false, Bool.false_and]
        · have h1 : m ≤ ↑s[k].toNat := by assumption
          have h2 : capB ↑s[k].toNat = true := by assumption
          go_round
          case rel => exact ⟨k + 1, ↑s[k].toNat, by omega, by go_num, rfl, by rw [unhide HC, unhide HS]; simp [capsB, h1, h2]⟩
          case measure => simp [intOf]; omega
        · have h2 : ¬ capB ↑s[k].toNat = true := by assumption
          go_ret
          refine ⟨ret_bool ?_, rfl⟩
          rw [unhide HC, unhide HS]
          simp [capsB, h2]
      · go_wp2
        go_ret
        refine ⟨ret_bool ?_, rfl⟩
        rw [unhide HC, drop_all s k (by omega)]; rfl
  · go_enter Try.func50, Try.ntmps50
    go_wp2
    go_ret
    exact ⟨ret_bool (by simp [handB, hn]), rfl⟩

/-- What a position is (P3). -/
def posB (W H : Int) (C : List UInt8) (T : Int) (A B : List UInt8) : Bool :=
  sideB W && sideB H && (decide ((C.length : Int) = W * H) && cellsB C) && (decide (T = 0) || decide (T = 1)) && handB A && handB B
/-- 0, or 1 where it is none. -/
def errI (b : Bool) : Int := if b then 0 else 1

theorem wrapWH (W H : Int) (h : sideB W = true) (h' : sideB H = true) : wrap64 (W * H) = W * H := by
  simp only [sideB, Bool.and_eq_true, decide_eq_true_eq] at h h'
  have := mul_small (u := W) (W := H) (by omega) (by omega) h'.1 h'.2
  exact wrap_in _ (by omega)

set_option maxHeartbeats 800000 in
theorem Check_any (W H T : Int) (C A B : ByteArray) (w : World) (hC : C.size ≤ maxLen) (hA : A.size ≤ maxLen) (hB : B.size ≤ maxLen) :
    Calls Try.prog 23 #[.agg #[.int .i64 W, .int .i64 H, .string C, .int .i64 T, .string A, .string B]] w fun e w' => e = .returned (.int .i64 (errI (posB W H C.data.toList T A.data.toList B.data.toList))) ∧ Below w.heap.size w w' := by
  go_enter Try.func23, Try.ntmps23
  go_wp2_with (first | (go_at_call 48; refine (isSide_any _ _).mono ?_; rintro e w' ⟨rfl, rfl⟩) | (go_at_call 49; refine (areCells_any _ _ _ hC).mono ?_; rintro e w' ⟨rfl, rfl⟩) | (go_at_call 50; refine (isHand_any _ _ ?_).mono ?_; assumption; rintro e w' ⟨rfl, rfl⟩))
  all_goals go_ret
  all_goals refine ⟨ret_int ?_, (Below.refl _ _).alloc (Nat.le_refl _) _⟩
  all_goals have hw := wrapWH W H
  all_goals clear hC hA hB
  all_goals simp_all [errI, posB]
  intro a b
  rcases ‹¬ (C.size : Int) = W * H ∨ cellsB C.data.toList = false› with h | h
  · exact absurd a h
  · simp [h] at b
end Go.Proofs.Ytbcedjjocpjkjaa

namespace Go.Proofs.Ytbcedjjocpjkjaa
/-! ### A digit of a long division, estimated by the highest words -/

/-- V: what is divided by: its two highest words V2, VL below them (E: what a word there is worth); W: what is divided: its three highest words U3, WL below them. -/
structure Dig (E V2 VL U3 WL : Nat) : Prop where
  vl : VL < E
  wl : WL < E

theorem Dig.le {E V2 VL U3 WL q : Nat} (d : Dig E V2 VL U3 WL) (h : q * (V2 * E + VL) ≤ U3 * E + WL) : q * V2 ≤ U3 := by
  have h1 : q * V2 * E ≤ U3 * E + WL := by
    refine Nat.le_trans ?_ h
    rw [Nat.mul_assoc]
    exact Nat.mul_le_mul_left q (Nat.le_add_right _ _)
  have h2 : q * V2 * E < (U3 + 1) * E := by
    rw [Nat.add_mul, Nat.one_mul]
    exact Nat.lt_of_le_of_lt h1 (by have := d.wl; omega)
  exact Nat.lt_succ_iff.1 (Nat.lt_of_mul_lt_mul_right h2)

/-- The estimate is not too small .. -/
theorem Dig.first {E B top next VL h u2 WL q : Nat} (d : Dig E (top * B + next) VL (h * B + u2) WL) (hu : u2 < B) (ht : 0 < top) (hq : q * ((top * B + next) * E + VL) ≤ (h * B + u2) * E + WL) : q ≤ h / top := by
  have h1 := d.le hq
  rw [Nat.mul_add, ← Nat.mul_assoc] at h1
  have h2 : q * top * B < (h + 1) * B := by rw [Nat.add_mul, Nat.one_mul]; omega
  have h3 : q * top ≤ h := Nat.lt_succ_iff.1 (Nat.lt_of_mul_lt_mul_right h2)
  exact (Nat.le_div_iff_mul_le ht).2 h3
/-- .. and where it is counted down it was too great .. -/
theorem Dig.down {E V2 VL U3 WL q g : Nat} (d : Dig E V2 VL U3 WL) (hq : q * (V2 * E + VL) ≤ U3 * E + WL) (hg : U3 < g * V2) : q < g := by
  have h1 := d.le hq
  exact Nat.lt_of_mul_lt_mul_right (Nat.lt_of_le_of_lt h1 hg)
/-- .. and in the end it is at most one too great. -/
theorem Dig.last {E V2 VL U3 WL q g B : Nat} (d : Dig E V2 VL U3 WL) (hV : B ≤ V2) (hg : g * V2 ≤ U3) (hB : g < B) (hE : 0 < E) (hq : U3 * E + WL < (q + 1) * (V2 * E + VL)) : g ≤ q + 1 := by
  have h1 : g * (V2 * E + VL) ≤ U3 * E + g * E := by
    rw [Nat.mul_add, ← Nat.mul_assoc]
    exact Nat.add_le_add (Nat.mul_le_mul_right E hg) (Nat.mul_le_mul_left g (Nat.le_of_lt d.vl))
  have h2 : g * E < V2 * E + VL := by
    have : g * E < V2 * E := (Nat.mul_lt_mul_right hE).2 (by omega)
    omega
  have h3 : g * (V2 * E + VL) < (q + 1 + 1) * (V2 * E + VL) := by
    rw [Nat.add_mul (q + 1) 1, Nat.one_mul]
    omega
  exact Nat.lt_succ_iff.1 (Nat.lt_of_mul_lt_mul_right h3)

/-! ### Numbers by words -/
def val (B : Nat) : List Nat → Nat
  | [] => 0
  | x :: l => x + B * val B l
theorem val_app (B : Nat) : ∀ a b : List Nat, val B (a ++ b) = val B a + B ^ a.length * val B b
  | [], b => by simp [val]
  | x :: a, b => by
    rw [List.cons_append, val, val_app B a b, val, List.length_cons, Nat.pow_succ, Nat.mul_add, Nat.mul_comm (B ^ a.length) B, Nat.mul_assoc, Nat.add_assoc]
theorem val_lt (B : Nat) : ∀ l : List Nat, (∀ x ∈ l, x < B) → val B l < B ^ l.length
  | [], _ => by simp [val]
  | x :: l, h => by
    have h1 := h x (by simp)
    have h2 := val_lt B l (fun y hy => h y (by simp [hy]))
    rw [val, List.length_cons, Nat.pow_succ, Nat.mul_comm (B ^ l.length) B]
    have h3 : B * (val B l + 1) ≤ B * B ^ l.length := Nat.mul_le_mul_left B h2
    rw [Nat.mul_add, Nat.mul_one] at h3
    omega
theorem val_zeros (B n : Nat) : val B (List.replicate n 0) = 0 := by
  induction n with
  | zero => rfl
  | succ n ih => rw [List.replicate_succ, val, ih]; simp
end Go.Proofs.Ytbcedjjocpjkjaa

namespace Go.Proofs.Ytbcedjjocpjkjaa

/-- One word of 'subtract g times v': s is stored, c' carried, d' borrowed. -/
theorem sub_step (B new old vt g x uo c d lo s c' d' i : Nat) (hinv : new + g * vt = old + (c + d) * B ^ i) (hc : c + g * x = lo + B * c') (hs : s + (lo + d) = uo + d' * B) :
    (new + s * B ^ i) + g * (vt + x * B ^ i) = (old + uo * B ^ i) + (c' + d') * B ^ (i + 1) := by
  have e1 : B ^ (i + 1) = B * B ^ i := by rw [Nat.pow_succ, Nat.mul_comm]
  have e2 : g * (vt + x * B ^ i) = g * vt + g * x * B ^ i := by rw [Nat.mul_add, Nat.mul_assoc]
  have e3 : (c + g * x) * B ^ i = (lo + B * c') * B ^ i := by rw [hc]
  have e4 : (s + (lo + d)) * B ^ i = (uo + d' * B) * B ^ i := by rw [hs]
  have e5 : (c' + d') * (B * B ^ i) = B * c' * B ^ i + d' * B * B ^ i := by
    rw [Nat.add_mul, ← Nat.mul_assoc, ← Nat.mul_assoc, Nat.mul_comm c' B]
  simp only [Nat.add_mul] at e3 e4 hinv
  rw [e1, e2, e5]
  omega

/-- The subtraction came out: g is the digit, and what is left lies in the low words. -/
theorem sub_fits (B n V W old h new c d g q : Nat) (hW : W = old + h * B ^ n) (hend : new + g * V = old + (c + d) * B ^ n) (hle : c + d ≤ h) (hq1 : q * V ≤ W) (hq2 : W < (q + 1) * V) (hgq : q ≤ g) (hV : V < B ^ n) :
    g = q ∧ h = c + d ∧ new = W - q * V := by
  have hh : h * B ^ n = (c + d) * B ^ n + (h - (c + d)) * B ^ n := by rw [← Nat.add_mul]; congr 1; omega
  have hWe : W = g * V + (new + (h - (c + d)) * B ^ n) := by omega
  have hg : g = q := by
    rcases Nat.lt_or_ge q g with hl | hl
    · have : (q + 1) * V ≤ g * V := Nat.mul_le_mul_right V hl
      omega
    · omega
  subst hg
  rw [Nat.add_mul, Nat.one_mul] at hq2
  have h0 : h - (c + d) = 0 := by
    rcases Nat.eq_zero_or_pos (h - (c + d)) with h0 | h0
    · exact h0
    · have : 1 * B ^ n ≤ (h - (c + d)) * B ^ n := Nat.mul_le_mul_right _ h0
      omega
  rw [h0] at hWe
  exact ⟨rfl, by omega, by omega⟩

/-- It did not: g is one too great; v is added back. -/
theorem sub_back (B n V W old h new c d g q new2 c2 : Nat) (hW : W = old + h * B ^ n) (hend : new + g * V = old + (c + d) * B ^ n) (hgt : h < c + d) (hq1 : q * V ≤ W) (hq2 : W < (q + 1) * V) (hgq : g ≤ q + 1) (hnew : new < B ^ n) (hV : V < B ^ n)
    (hadd : new2 + c2 * B ^ n = new + V) (hn2 : new2 < B ^ n) :
    g = q + 1 ∧ c + d = h + 1 ∧ c2 = 1 ∧ new2 = W - q * V := by
  have hh : (c + d) * B ^ n = h * B ^ n + (c + d - h) * B ^ n := by rw [← Nat.add_mul]; congr 1; omega
  have h1 : 1 * B ^ n ≤ (c + d - h) * B ^ n := Nat.mul_le_mul_right _ (by omega)
  have hg : g = q + 1 := by
    rcases Nat.lt_or_ge q g with hl | hl
    · omega
    · have : g * V ≤ q * V := Nat.mul_le_mul_right V hl
      omega
  subst hg
  have hgV : (q + 1) * V = q * V + V := by rw [Nat.add_mul, Nat.one_mul]
  have e : new2 + c2 * B ^ n = (W - q * V) + (c + d - h) * B ^ n := by omega
  have hr : W - q * V < B ^ n := by omega
  have hc : c + d - h = 1 := by
    rcases Nat.lt_or_ge (c + d - h) 2 with h2 | h2
    · omega
    · have : 2 * B ^ n ≤ (c + d - h) * B ^ n := Nat.mul_le_mul_right _ h2
      omega
  rw [hc, Nat.one_mul] at e
  have hc2 : c2 = 1 := by
    rcases Nat.lt_trichotomy c2 1 with h2 | h2 | h2
    · have : c2 = 0 := by omega
      rw [this] at e
      omega
    · exact h2
    · have : 2 * B ^ n ≤ c2 * B ^ n := Nat.mul_le_mul_right _ h2
      omega
  rw [hc2, Nat.one_mul] at e
  exact ⟨rfl, by omega, hc2, by omega⟩
end Go.Proofs.Ytbcedjjocpjkjaa
