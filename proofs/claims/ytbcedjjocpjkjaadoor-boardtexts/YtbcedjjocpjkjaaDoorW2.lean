/-
  board.areCells and board.isHand, walked: for every text, the answer is what the plain functions say; the world stands.
-/
import Derived.Test.YtbcedjjocpjkjaaDoorW1
namespace Go.Proofs.YtbcedjjocpjkjaaDoor
open Go.RowKit

def cellsB (l : List UInt8) : Bool := l.all fun c => cellB c.toNat
/-- Capital letters, none below m, none behind a greater one. -/
def capsB : Int → List UInt8 → Bool
  | _, [] => true
  | m, c :: t => capB c.toNat && decide (m ≤ c.toNat) && capsB c.toNat t
def handB (l : List UInt8) : Bool := decide (l.length ≤ 8) && capsB 65 l

theorem take_snoc (s : ByteArray) (k : Nat) (h : k < s.size) : s.data.toList.take (k + 1) = s.data.toList.take k ++ [s[k]] := by
  rw [List.take_succ_eq_append_getElem (by simpa using h)]; rfl
theorem len_data (s : ByteArray) : s.data.toList.length = s.size := by simp
theorem take_all (s : ByteArray) (k : Nat) (h : s.size ≤ k) : s.data.toList.take k = s.data.toList := List.take_of_length_le (by rw [len_data]; exact h)
theorem cellsB_snoc (l : List UInt8) (c : UInt8) : cellsB (l ++ [c]) = (cellsB l && cellB c.toNat) := by simp [cellsB]
theorem cellsB_take {l : List UInt8} (k : Nat) (h : cellsB (l.take k) = false) : cellsB l = false := by
  cases hl : cellsB l with
  | false => rfl
  | true =>
    simp only [cellsB, List.all_eq_true] at hl
    have : cellsB (l.take k) = true := by
      simp only [cellsB, List.all_eq_true]; intro c hc; exact hl c (List.mem_of_mem_take hc)
    simp [this] at h

theorem drop_cons (s : ByteArray) (k : Nat) (h : k < s.size) : s.data.toList.drop k = s[k] :: s.data.toList.drop (k + 1) := by
  rw [List.drop_eq_getElem_cons (by simpa using h)]; rfl
theorem drop_all (s : ByteArray) (k : Nat) (h : s.size ≤ k) : s.data.toList.drop k = [] := List.drop_of_length_le (by rw [len_data]; exact h)

set_option maxHeartbeats 400000 in
theorem areCells_any (s : ByteArray) (n : Int) (w : World) (hs : s.size ≤ maxLen) :
    Calls Tryd.prog 21 #[.string s, .int .i64 n] w fun e w' => e = .returned (.bool (decide ((s.size : Int) = n) && cellsB s.data.toList)) ∧ w' = w := by
  unfold maxLen at hs
  by_cases hn : (s.size : Int) = n
  · have hd : ((s.size : Int) != n) = false := by simpa using hn
    have HN := hide hn
    clear hn
    go_enter Tryd.func21, Tryd.ntmps21
    go_wp2
    go_loop [12] (fun i => ∃ k : Nat, k ≤ s.size ∧ i = .int .i64 k ∧ cellsB (s.data.toList.take k) = true) (fun i => s.size - (intOf i).toNat)
    case atStart => exact ⟨0, Nat.zero_le _, rfl, rfl⟩
    case round =>
      obtain ⟨k, hk, rfl, hc⟩ := hrel
      have HC := hide hc
      clear hc
      by_cases hlt : k < s.size
      · have HS := hide (take_snoc s k hlt)
        have hb : s[k].toNat < 256 := s[k].toNat_lt
        go_wp2_with (go_at_call 30; refine (isCell_any _ _ hb).mono ?_; rintro e w' ⟨rfl, rfl⟩)
        · have hf : (!cellB ↑s[k].toNat) = true := by assumption
          go_ret
          refine ⟨ret_bool ?_, rfl⟩
          rw [cellsB_take (k + 1) (by rw [unhide HS, cellsB_snoc]; simp at hf; simp [hf])]
          simp
        · have hf : (!cellB ↑s[k].toNat) = false := by assumption
          go_round
          case rel => exact ⟨k + 1, by omega, by go_num, by rw [unhide HS, cellsB_snoc, unhide HC]; simpa using hf⟩
          case measure => simp [intOf]; omega
      · go_wp2
        go_ret
        refine ⟨ret_bool ?_, rfl⟩
        have h1 := unhide HC
        rw [take_all s k (by omega)] at h1
        simp [h1, unhide HN]
  · have hd : ((s.size : Int) != n) = true := by simpa using hn
    go_enter Tryd.func21, Tryd.ntmps21
    go_wp2
    go_ret
    exact ⟨ret_bool (by simp [hn]), rfl⟩

set_option maxHeartbeats 400000 in
theorem isHand_any (s : ByteArray) (w : World) (hs : s.size ≤ maxLen) :
    Calls Tryd.prog 22 #[.string s] w fun e w' => e = .returned (.bool (handB s.data.toList)) ∧ w' = w := by
  unfold maxLen at hs
  by_cases hn : s.size ≤ 8
  · have HN := hide hn
    go_enter Tryd.func22, Tryd.ntmps22
    go_wp2
    go_loop [3, 10] (fun t i => ∃ (k : Nat) (m : Int), k ≤ s.size ∧ i = .int .i64 k ∧ t = .int .u8 m ∧ handB s.data.toList = capsB m (s.data.toList.drop k)) (fun _ i => s.size - (intOf i).toNat)
    case atStart => exact ⟨0, 65, Nat.zero_le _, rfl, rfl, by simp [handB, hn]⟩
    case round =>
      obtain ⟨k, m, hk, rfl, rfl, hc⟩ := hrel
      have HC := hide hc
      clear hc
      by_cases hlt : k < s.size
      · have HS := hide (drop_cons s k hlt)
        go_wp2_with (go_at_call 31; refine (isCapital_any _ _).mono ?_; rintro e w' ⟨rfl, rfl⟩)
        · have h1 : ↑s[k].toNat < m := by assumption
          go_ret
          refine ⟨ret_bool ?_, rfl⟩
          rw [unhide HC, unhide HS]
          simp only [capsB, show decide (m ≤ ↑s[k].toNat) = false by simpa using h1, Bool.and_false, Bool.false_and]
        · have h1 : m ≤ ↑s[k].toNat := by assumption
          have h2 : capB ↑s[k].toNat = true := by assumption
          go_round
          case rel => exact ⟨k + 1, ↑s[k].toNat, by omega, by go_num, rfl, by rw [unhide HC, unhide HS]; simp [capsB, h1, h2]⟩
          case measure => simp [intOf]; omega
        · have h2 : ¬ capB ↑s[k].toNat = true := by assumption
          go_ret
          refine ⟨ret_bool ?_, rfl⟩
          rw [unhide HC, unhide HS]
          simp [capsB, h2]
      · go_wp2
        go_ret
        refine ⟨ret_bool ?_, rfl⟩
        rw [unhide HC, drop_all s k (by omega)]; rfl
  · go_enter Tryd.func22, Tryd.ntmps22
    go_wp2
    go_ret
    exact ⟨ret_bool (by simp [handB, hn]), rfl⟩

/-- What a position is (P3). -/
def posB (W H : Int) (C : List UInt8) (T : Int) (A B : List UInt8) : Bool :=
  sideB W && sideB H && (decide ((C.length : Int) = W * H) && cellsB C) && (decide (T = 0) || decide (T = 1)) && handB A && handB B
/-- 0, or 1 where it is none. -/
def errI (b : Bool) : Int := if b then 0 else 1

theorem wrapWH (W H : Int) (h : sideB W = true) (h' : sideB H = true) : wrap64 (W * H) = W * H := by
  simp only [sideB, Bool.and_eq_true, decide_eq_true_eq] at h h'
  have := mul_small (u := W) (W := H) (by omega) (by omega) h'.1 h'.2
  exact wrap_in _ (by omega)

set_option maxHeartbeats 800000 in
theorem Check_any (W H T : Int) (C A B : ByteArray) (w : World) (hC : C.size ≤ maxLen) (hA : A.size ≤ maxLen) (hB : B.size ≤ maxLen) :
    Calls Tryd.prog 8 #[.agg #[.int .i64 W, .int .i64 H, .string C, .int .i64 T, .string A, .string B]] w fun e w' => e = .returned (.int .i64 (errI (posB W H C.data.toList T A.data.toList B.data.toList))) ∧ Below w.heap.size w w' := by
  go_enter Tryd.func8, Tryd.ntmps8
  go_wp2_with (first | (go_at_call 20; refine (isSide_any _ _).mono ?_; rintro e w' ⟨rfl, rfl⟩) | (go_at_call 21; refine (areCells_any _ _ _ hC).mono ?_; rintro e w' ⟨rfl, rfl⟩) | (go_at_call 22; refine (isHand_any _ _ ?_).mono ?_; assumption; rintro e w' ⟨rfl, rfl⟩))
  all_goals go_ret
  all_goals refine ⟨ret_int ?_, (Below.refl _ _).alloc (Nat.le_refl _) _⟩
  all_goals have hw := wrapWH W H
  all_goals clear hC hA hB
  all_goals simp_all [errI, posB]
  intro a b
  rcases ‹¬ (C.size : Int) = W * H ∨ cellsB C.data.toList = false› with h | h
  · exact absurd a h
  · simp [h] at b
end Go.Proofs.YtbcedjjocpjkjaaDoor
