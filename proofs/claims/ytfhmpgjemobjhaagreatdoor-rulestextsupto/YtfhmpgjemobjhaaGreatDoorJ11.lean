/-
  package rules, walked: words of a line.
  package rules, walked: readNumber.
  package rules, walked: SplitN at a blank; a way's words.
  Plain mathematics: numbers' words there and back.
-/
import Derived.Test.YtfhmpgjemobjhaaGreatDoorR11
import Derived.Lib.Strings
import Derived.Lib.SplitLaws
namespace Go.Proofs.YtfhmpgjemobjhaaGreatDoor
open Go.RowKit
attribute [local go_sem ↓] Go.wp_at_zero Go.wp_at_succ

theorem ba_toList (s : ByteArray) : s.toList = s.data.toList := Lib.toList_data s
/-- What a word behind a way says. -/
def takeOf (l : List UInt8) : Nat := if l = [116, 97, 107, 101] then 1 else if l = [113, 117, 105, 101, 116] then 2 else 0
/-- What a way's first word says. -/
def kindOf (l : List UInt8) : Nat := if l = [108, 101, 97, 112] then 1 else if l = [115, 108, 105, 100, 101] then 2 else if l = [115, 116, 101, 112] then 3 else 0
/-- The kind of a line, by its first word. -/
def lineOf (l : List UInt8) : Nat := if l = [115, 116, 97, 114, 116] then 1 else if l = [112, 105, 101, 99, 101] then 2 else if l = [100, 114, 111, 112, 115] then 3 else if l = [108, 111, 115, 101] then 4 else if l = [108, 105, 110, 101] then 5 else if l = [114, 101, 97, 99, 104] then 6 else if l = [115, 116, 117, 99, 107] then 7 else if l = [112, 108, 105, 101, 115] then 8 else 0

set_option maxHeartbeats 400000 in
theorem readTake_any (s : ByteArray) (w : World) :
    Calls Tryz.prog 95 #[.string s] w fun e w' => e = .returned (.tuple #[.int .i64 (takeOf s.data.toList : Int), .bool (decide (takeOf s.data.toList ≠ 0))]) ∧ w' = w := by
  go_enter Tryz.func95, Tryz.ntmps95
  go_wp2
  all_goals (
    go_ret2
    refine ⟨?_, rfl⟩
    simp only [ba_toList, beq_iff_eq, beq_eq_false_iff_ne, ne_eq] at *
    simp_all [takeOf])

set_option maxHeartbeats 400000 in
theorem readKind_any (s : ByteArray) (w : World) :
    Calls Tryz.prog 94 #[.string s] w fun e w' => e = .returned (.tuple #[.int .i64 (kindOf s.data.toList : Int), .bool (decide (kindOf s.data.toList ≠ 0))]) ∧ w' = w := by
  go_enter Tryz.func94, Tryz.ntmps94
  go_wp2
  all_goals (
    go_ret2
    refine ⟨?_, rfl⟩
    simp only [ba_toList, beq_iff_eq, beq_eq_false_iff_ne, ne_eq] at *
    simp_all [kindOf])

set_option maxHeartbeats 1000000 in
theorem lineKind_any (s : ByteArray) (w : World) :
    Calls Tryz.prog 39 #[.string s] w fun e w' => e = .returned (.int .i64 (lineOf s.data.toList : Int)) ∧ w' = w := by
  go_enter Tryz.func39, Tryz.ntmps39
  go_wp2
  all_goals (
    go_ret
    refine ⟨?_, rfl⟩
    simp only [ba_toList, beq_iff_eq, beq_eq_false_iff_ne, ne_eq] at *
    simp_all [lineOf])

/-- May a line of that kind stand behind the last one? -/
def mayB (last kind : Nat) : Bool := if last = 0 then decide (kind = 1) else if last = 1 then decide (kind = 2) else if last = 2 then decide (2 ≤ kind) else decide (last < kind)

set_option maxHeartbeats 400000 in
theorem mayFollow_any (last kind : Nat) (w : World) :
    Calls Tryz.prog 40 #[.int .i64 (last : Int), .int .i64 (kind : Int)] w fun e w' => e = .returned (.bool (mayB last kind)) ∧ w' = w := by
  go_enter Tryz.func40, Tryz.ntmps40
  go_wp2
  all_goals (
    go_ret
    refine ⟨ret_bool ?_, rfl⟩
    simp only [beq_iff_eq, beq_eq_false_iff_ne, ne_eq] at *
    rw [Bool.eq_iff_iff]
    simp [mayB]
    repeat' split
    all_goals (try simp)
    all_goals omega)

/-- A capital letter's word. -/
def letterOf (l : List UInt8) : Option UInt8 := match l with
  | [c] => if capB (c.toNat : Nat) then some c else none
  | _ => none

set_option maxHeartbeats 400000 in
theorem readLetter_any (s : ByteArray) (w : World) :
    Calls Tryz.prog 43 #[.string s] w fun e w' => e = .returned (.tuple #[.int .u8 (((letterOf s.data.toList).getD 0).toNat : Int), .bool (letterOf s.data.toList).isSome]) ∧ w' = w := by
  by_cases h1 : s.size = 1
  · have hd : s.data.toList = [s[0]] := by
      have hl : s.data.toList.length = 1 := by rw [len_data]; exact h1
      match hm : s.data.toList, hl with
      | [c], _ =>
        have : s.data.toList[0]'(by rw [len_data]; omega) = s[0] := rfl
        simp [hm] at this
        rw [this]
    have h256 : s[0].toNat < 256 := s[0].toNat_lt
    have h1i : (s.size : Int) = 1 := by omega
    have h10 : (0 : Int) < (s.size : Int) := by omega
    cases hc : capB (s[0].toNat : Nat) with
    | false =>
      have hr : letterOf s.data.toList = none := by rw [hd]; simp [letterOf, hc]
      rw [hr]
      have HC := hide hc
      clear hc hr hd
      go_enter Tryz.func43, Tryz.ntmps43
      go_wp2_with fail
      refine (rCapital_any _ _).mono ?_
      rintro e w' ⟨rfl, rfl⟩
      rw [unhide HC]
      go_wp2
      go_ret2
      exact ⟨rfl, rfl⟩
    | true =>
      have hr : letterOf s.data.toList = some s[0] := by rw [hd]; simp [letterOf, hc]
      rw [hr]
      have HC := hide hc
      clear hc hr hd
      go_enter Tryz.func43, Tryz.ntmps43
      go_wp2_with fail
      refine (rCapital_any _ _).mono ?_
      rintro e w' ⟨rfl, rfl⟩
      rw [unhide HC]
      go_wp2
      go_ret2
      exact ⟨rfl, rfl⟩
  · have hr : letterOf s.data.toList = none := by
      have hl : s.data.toList.length ≠ 1 := by rw [len_data]; exact h1
      match hm : s.data.toList with
      | [] => rfl
      | [c] => rw [hm] at hl; simp at hl
      | _ :: _ :: _ => rfl
    rw [hr]
    have h1i : ¬ (s.size : Int) = 1 := by omega
    clear hr
    go_enter Tryz.func43, Tryz.ntmps43
    go_wp2
    go_ret2
    exact ⟨rfl, rfl⟩
end Go.Proofs.YtfhmpgjemobjhaaGreatDoor

namespace Go.Proofs.YtfhmpgjemobjhaaGreatDoor
open Go.RowKit
attribute [local go_sem ↓] Go.wp_at_zero Go.wp_at_succ

/-- Digits, read on from n. -/
def foldD : Nat → List UInt8 → Option Nat
  | n, [] => some n
  | n, c :: t => if 48 ≤ c.toNat ∧ c.toNat ≤ 57 then foldD (10 * n + (c.toNat - 48)) t else none
/-- A number's word: 0 to 9999. -/
def numOf (l : List UInt8) : Option Nat := if l.length < 1 ∨ 4 < l.length ∨ (l.head? = some 48 ∧ 1 < l.length) then none else foldD 0 l

theorem pow10_le (k : Nat) (h : k ≤ 4) : 10 ^ k ≤ 10000 := by
  have : (10 : Nat) ^ k ≤ 10 ^ 4 := Nat.pow_le_pow_right (by omega) h
  have e : (10 : Nat) ^ 4 = 10000 := by decide
  omega


set_option maxHeartbeats 1000000 in
set_option maxRecDepth 100000 in
theorem readNumber_any (s : ByteArray) (w : World) :
    Calls Tryz.prog 44 #[.string s] w fun e w' => e = .returned (.tuple #[.int .i64 (((numOf s.data.toList).getD 0 : Nat) : Int), .bool (numOf s.data.toList).isSome]) ∧ w' = w := by
  have hlen : s.data.toList.length = s.size := len_data s
  by_cases h1 : s.size < 1
  · have hr : numOf s.data.toList = none := by rw [numOf, if_pos (by omega)]
    rw [hr]
    have h1i : (s.size : Int) < 1 := by omega
    clear hr hlen
    go_enter Tryz.func44, Tryz.ntmps44
    go_wp2
    go_ret2
    exact ⟨rfl, rfl⟩
  by_cases h4 : 4 < s.size
  · have hr : numOf s.data.toList = none := by rw [numOf, if_pos (by omega)]
    rw [hr]
    have h1i : ¬ (s.size : Int) < 1 := by omega
    have h4i : (4 : Int) < (s.size : Int) := by omega
    clear hr hlen
    go_enter Tryz.func44, Tryz.ntmps44
    go_wp2
    go_ret2
    exact ⟨rfl, rfl⟩
  have h1i : ¬ (s.size : Int) < 1 := by omega
  have h4i : ¬ (4 : Int) < (s.size : Int) := by omega
  have h0i : (0 : Int) < (s.size : Int) := by omega
  have h256 : s[0].toNat < 256 := s[0].toNat_lt
  have hhd : s.data.toList.head? = some s[0] := by
    have := drop_cons s 0 (by omega)
    rw [List.drop_zero] at this
    rw [this]; rfl
  by_cases hz : s[0].toNat = 48 ∧ 1 < s.size
  · have hz48 : s[0] = 48 := UInt8.toNat_inj.1 hz.1
    have hr : numOf s.data.toList = none := by
      rw [numOf, if_pos]
      right; right
      rw [hhd, hz48, hlen]
      exact ⟨rfl, hz.2⟩
    rw [hr]
    have hzi : (s[0].toNat : Int) = 48 := by omega
    have hs1 : (1 : Int) < (s.size : Int) := by omega
    clear hr hlen hz48 hhd
    go_enter Tryz.func44, Tryz.ntmps44
    go_wp2
    go_ret2
    exact ⟨rfl, rfl⟩
  · have hr : numOf s.data.toList = foldD 0 s.data.toList := by
      rw [numOf, if_neg]
      rw [hhd, hlen]
      rintro (h | h | ⟨h, h'⟩)
      · omega
      · omega
      · apply hz
        refine ⟨?_, h'⟩
        rw [Option.some.inj h]; rfl
    obtain ⟨R, hR⟩ : ∃ R, R = foldD 0 s.data.toList := ⟨_, rfl⟩
    rw [hr, ← hR]
    have hzz : ¬ (s[0].toNat : Int) = 48 ∨ ¬ (1 : Int) < (s.size : Int) := by omega
    have HR := hide hR
    have HZZ := hide hzz
    clear hr hlen hhd hR hz hzz
    go_enter Tryz.func44, Tryz.ntmps44
    by_cases hz1 : (s[0].toNat : Int) = 48
    · have hs1 : ¬ (1 : Int) < (s.size : Int) := by
        rcases unhide HZZ with h | h
        · exact absurd hz1 h
        · exact h
      go_wp2
      go_loopw [4, 27] (fun nv iv wr => ∃ k n : Nat, k ≤ s.size ∧ iv = .int .i64 (k : Int) ∧ nv = .int .i64 (n : Int) ∧ n < 10 ^ k ∧ Hid (R = foldD n (s.data.toList.drop k)) ∧ wr = w) (fun _ iv _ => s.size - (intOf iv).toNat)
      case atStart => exact ⟨0, 0, Nat.zero_le _, rfl, rfl, by simp, HR, rfl⟩
      case round =>
        obtain ⟨k, n, hk, rfl, rfl, hn, HK, rfl⟩ := hrel
        by_cases hkl : k < s.size
        · have hki : (k : Int) < (s.size : Int) := by omega
          have hk0 : (0 : Int) ≤ (k : Int) := by omega
          have hc256 : s[k].toNat < 256 := s[k].toNat_lt
          have hK := unhide HK
          rw [drop_cons s k hkl] at hK
          simp only [foldD] at hK
          have hp := pow10_le k (by omega)
          by_cases hd : 48 ≤ s[k].toNat ∧ s[k].toNat ≤ 57
          · rw [if_pos hd] at hK
            obtain ⟨m, hm⟩ : ∃ m, m = 10 * n + (s[k].toNat - 48) := ⟨_, rfl⟩
            rw [← hm] at hK
            have hmb : m < 10 ^ (k + 1) := by rw [Nat.pow_succ]; omega
            have HK2 := hide hK
            have d1 : ¬ (s[k].toNat : Int) < 48 := by omega
            have d2 : ¬ (57 : Int) < (s[k].toNat : Int) := by omega
            have d3 : 10 * (n : Int) + ((s[k].toNat : Int) - 48) = (m : Int) := by omega
            have d4 : (48 : Int) ≤ (s[k].toNat : Int) := by omega
            have hnb : n < 10000 := by omega
            clear hK hm hn hp
            go_wp2
            go_roundw
            case rel => exact ⟨k + 1, m, by omega, by go_num, rfl, hmb, HK2, trivial⟩
            case measure => simp [intOf]; omega
          · rw [if_neg hd] at hK
            have HK2 := hide hK
            by_cases d1 : (s[k].toNat : Int) < 48
            · clear hK hn hp
              go_wp2
              go_ret2
              rw [unhide HK2]
              exact ⟨rfl, rfl⟩
            · have d2 : (57 : Int) < (s[k].toNat : Int) := by omega
              clear hK hn hp
              go_wp2
              go_ret2
              rw [unhide HK2]
              exact ⟨rfl, rfl⟩
        · obtain rfl : k = s.size := by omega
          have hki : ¬ (s.size : Int) < (s.size : Int) := by omega
          have hK := unhide HK
          rw [drop_all s s.size (Nat.le_refl _)] at hK
          simp only [foldD] at hK
          have HK2 := hide hK
          clear hK
          go_wp2
          go_ret2
          rw [unhide HK2]
          exact ⟨rfl, rfl⟩
    · skip
      go_wp2
      go_loopw [4, 27] (fun nv iv wr => ∃ k n : Nat, k ≤ s.size ∧ iv = .int .i64 (k : Int) ∧ nv = .int .i64 (n : Int) ∧ n < 10 ^ k ∧ Hid (R = foldD n (s.data.toList.drop k)) ∧ wr = w) (fun _ iv _ => s.size - (intOf iv).toNat)
      case atStart => exact ⟨0, 0, Nat.zero_le _, rfl, rfl, by simp, HR, rfl⟩
      case round =>
        obtain ⟨k, n, hk, rfl, rfl, hn, HK, rfl⟩ := hrel
        by_cases hkl : k < s.size
        · have hki : (k : Int) < (s.size : Int) := by omega
          have hk0 : (0 : Int) ≤ (k : Int) := by omega
          have hc256 : s[k].toNat < 256 := s[k].toNat_lt
          have hK := unhide HK
          rw [drop_cons s k hkl] at hK
          simp only [foldD] at hK
          have hp := pow10_le k (by omega)
          by_cases hd : 48 ≤ s[k].toNat ∧ s[k].toNat ≤ 57
          · rw [if_pos hd] at hK
            obtain ⟨m, hm⟩ : ∃ m, m = 10 * n + (s[k].toNat - 48) := ⟨_, rfl⟩
            rw [← hm] at hK
            have hmb : m < 10 ^ (k + 1) := by rw [Nat.pow_succ]; omega
            have HK2 := hide hK
            have d1 : ¬ (s[k].toNat : Int) < 48 := by omega
            have d2 : ¬ (57 : Int) < (s[k].toNat : Int) := by omega
            have d3 : 10 * (n : Int) + ((s[k].toNat : Int) - 48) = (m : Int) := by omega
            have d4 : (48 : Int) ≤ (s[k].toNat : Int) := by omega
            have hnb : n < 10000 := by omega
            clear hK hm hn hp
            go_wp2
            go_roundw
            case rel => exact ⟨k + 1, m, by omega, by go_num, rfl, hmb, HK2, trivial⟩
            case measure => simp [intOf]; omega
          · rw [if_neg hd] at hK
            have HK2 := hide hK
            by_cases d1 : (s[k].toNat : Int) < 48
            · clear hK hn hp
              go_wp2
              go_ret2
              rw [unhide HK2]
              exact ⟨rfl, rfl⟩
            · have d2 : (57 : Int) < (s[k].toNat : Int) := by omega
              clear hK hn hp
              go_wp2
              go_ret2
              rw [unhide HK2]
              exact ⟨rfl, rfl⟩
        · obtain rfl : k = s.size := by omega
          have hki : ¬ (s.size : Int) < (s.size : Int) := by omega
          have hK := unhide HK
          rw [drop_all s s.size (Nat.le_refl _)] at hK
          simp only [foldD] at hK
          have HK2 := hide hK
          clear hK
          go_wp2
          go_ret2
          rw [unhide HK2]
          exact ⟨rfl, rfl⟩
end Go.Proofs.YtfhmpgjemobjhaaGreatDoor

namespace Go.Proofs.YtfhmpgjemobjhaaGreatDoor
open Go.RowKit
attribute [local go_sem ↓] Go.wp_at_zero Go.wp_at_succ

/-- A way out of its words. -/
def wayW (P : List (List UInt8)) : Option Wy := match P with
  | [a, b, c] => if kindOf a = 0 then none else match numOf b, numOf c with
    | some x, some y => some ⟨(kindOf a : Nat), (x : Nat), (y : Nat), 0⟩
    | _, _ => none
  | [a, b, c, d] => if kindOf a = 0 ∨ takeOf d = 0 then none else match numOf b, numOf c with
    | some x, some y => some ⟨(kindOf a : Nat), (x : Nat), (y : Nat), (takeOf d : Nat)⟩
    | _, _ => none
  | _ => none
def wayOf (l : List UInt8) : Option Wy := wayW (Lib.splitN l [32] 4)

/-- What SplitN at one blank, four words at most, leaves. -/
theorem SplitN_any (s : ByteArray) (m : Int) (w : World) (hs : s.size < 2000000) (hm : w.cell? ⟨0, 0, none⟩ = some (.int .i64 m)) :
    Calls Tryz.prog 93 #[.string s, .string ⟨#[32]⟩, .int .i64 4] w fun e w' => ∃ (P : List ByteArray) (N : Nat), e = .returned (.slice (some ⟨w.heap.size, 0, none⟩) P.length N) ∧ P.map (·.data.toList) = Lib.splitN s.data.toList [32] 4 ∧ 1 ≤ P.length ∧ P.length ≤ 4 ∧ P.length ≤ N ∧ N ≤ 4 ∧ (∀ (j : Nat) x, P[j]? = some x → w'.cell? ⟨w.heap.size, j, none⟩ = some (.string x)) ∧ Below w.heap.size w w' ∧ w'.heap.size = w.heap.size + 1 := by
  have hd := Lib.splitB_data ⟨#[32]⟩ 0 (min 4 (s.size + 1) - 1) s
  have hl := Lib.splitB_length_le ⟨#[32]⟩ 0 (min 4 (s.size + 1) - 1) s
  obtain ⟨P, hP⟩ : ∃ P, P = Lib.splitB ⟨#[32]⟩ 0 (min 4 (s.size + 1) - 1) s := ⟨_, rfl⟩
  have h1 : 1 ≤ P.length := by
    rw [hP]
    cases (min 4 (s.size + 1) - 1) with
    | zero => simp [Lib.splitB]
    | succ k => unfold Lib.splitB; split <;> simp
  refine (Tryz.strings_SplitN s ⟨#[32]⟩ 4 m w (by omega) hm (by decide) (by omega) (by omega)).mono ?_
  rintro e w' ⟨rfl, rfl⟩
  rw [← hP] at hd hl ⊢
  refine ⟨P, min 4 (s.size + 1), rfl, ?_, h1, by omega, by omega, by omega, ?_, (Below.refl _ _).alloc (Nat.le_refl _) _, by simp⟩
  · rw [hd, Lib.splitN, len_data]
  · intro j x hx
    rw [cell_of_row _ _ _ _ _ _ (heap_alloc_new w _)]
    have hj := (List.getElem?_eq_some_iff.1 hx).1
    have hx2 : P[j] = x := by rw [List.getElem?_eq_getElem hj] at hx; exact Option.some.inj hx
    simp [Lib.cellsOf, List.getElem?_append_left, hj, hx2]
end Go.Proofs.YtfhmpgjemobjhaaGreatDoor

namespace Go.Proofs.YtfhmpgjemobjhaaGreatDoor

theorem foldD_app : ∀ (a b : List UInt8) (n : Nat), foldD n (a ++ b) = (foldD n a).bind fun m => foldD m b
  | [], b, n => rfl
  | c :: t, b, n => by
    simp only [List.cons_append, foldD]
    split
    · exact foldD_app t b _
    · rfl
theorem digit_nat (d : Nat) (h : d < 10) : (UInt8.ofNat (48 + d)).toNat = 48 + d := by
  rw [UInt8.toNat_ofNat']
  omega
theorem foldD_one (n d : Nat) (h : d < 10) : foldD n [UInt8.ofNat (48 + d)] = some (10 * n + d) := by
  simp only [foldD]
  rw [digit_nat d h, if_pos (by omega)]
  congr 1
  omega
theorem foldD_dec (n : Nat) : foldD 0 (Lib.decDigits n) = some n := by
  induction n using Nat.strongRecOn with
  | ind n ih =>
    rw [Lib.decDigits]
    split
    · rename_i h
      rw [foldD_one 0 n h]
      congr 1
      omega
    · rename_i h
      rw [foldD_app, ih (n / 10) (by omega)]
      show foldD (n / 10) _ = _
      rw [foldD_one _ _ (Nat.mod_lt _ (by omega))]
      congr 1
      omega
theorem dec_ne (n : Nat) : Lib.decDigits n ≠ [] := by
  rw [Lib.decDigits]
  split <;> simp
theorem dec_head (n : Nat) (h : (Lib.decDigits n).head? = some 48) : n = 0 := by
  induction n using Nat.strongRecOn with
  | ind n ih =>
    rw [Lib.decDigits] at h
    split at h
    · rename_i h10
      have := congrArg UInt8.toNat (Option.some.inj h)
      rw [digit_nat n h10] at this
      have e : (48 : UInt8).toNat = 48 := rfl
      omega
    · rename_i h10
      have h0 := ih (n / 10) (by omega) (by
        cases hl : Lib.decDigits (n / 10) with
        | nil => exact absurd hl (dec_ne _)
        | cons c t => rw [hl] at h; exact h)
      omega
theorem dec_small (n : Nat) (h : n ≤ 9999) : (Lib.decDigits n).length ≤ 4 := by
  rw [Lib.decDigits_length]
  by_cases h1 : n < 10
  · rw [Lib.nDigits_small h1]; omega
  rw [Lib.nDigits_big h1]
  by_cases h2 : n / 10 < 10
  · rw [Lib.nDigits_small h2]; omega
  rw [Lib.nDigits_big h2]
  by_cases h3 : n / 10 / 10 < 10
  · rw [Lib.nDigits_small h3]; omega
  rw [Lib.nDigits_big h3, Lib.nDigits_small (by omega)]
  omega
theorem numOf_dec (n : Nat) (h : n ≤ 9999) : numOf (Lib.decDigits n) = some n := by
  have h4 := dec_small n h
  have h1 : 1 ≤ (Lib.decDigits n).length := by
    have := dec_ne n
    cases hl : Lib.decDigits n with
    | nil => exact absurd hl this
    | cons c t => simp
  rw [numOf, if_neg, foldD_dec]
  rintro (h' | h' | ⟨h', h''⟩)
  · omega
  · omega
  · have := dec_head n h'
    subst this
    rw [Lib.decDigits_one (by omega)] at h''
    simp at h''
theorem foldD_back (l : List UInt8) : ∀ n, l ≠ [] → ¬ (l.head? = some 48 ∧ 1 < l.length) → foldD 0 l = some n → l = Lib.decDigits n := by
  induction h : l.length generalizing l with
  | zero => intro n hn; exact absurd (List.length_eq_zero_iff.1 h) hn
  | succ k ih =>
    intro n hne hz hf
    obtain ⟨t, c, rfl⟩ : ∃ t c, l = t ++ [c] := ⟨l.dropLast, l.getLast hne, (List.dropLast_concat_getLast hne).symm⟩
    have hk : t.length = k := by simpa using h
    rw [foldD_app] at hf
    cases hm : foldD 0 t with
    | none => rw [hm] at hf; cases hf
    | some m =>
      rw [hm] at hf
      replace hf : foldD m [c] = some n := hf
      simp only [foldD] at hf
      split at hf
      · rename_i hc
        have hn : 10 * m + (c.toNat - 48) = n := Option.some.inj hf
        by_cases ht : t = []
        · subst ht
          have hm0 : m = 0 := (Option.some.inj hm).symm
          subst hm0
          have hcc : c = UInt8.ofNat (48 + n) := by
            apply UInt8.toNat_inj.1
            rw [digit_nat n (by omega)]; omega
          rw [Lib.decDigits_one (by omega), hcc]; rfl
        · have hhd : ¬ t.head? = some 48 := by
            intro hh
            apply hz
            cases t with
            | nil => exact absurd rfl ht
            | cons a b => exact ⟨hh, by simp only [List.length_cons] at hk; omega⟩
          have e := ih t hk m ht (fun hh => hhd hh.1) hm
          have hm1 : m ≠ 0 := by
            rintro rfl
            apply hhd
            rw [e, Lib.decDigits_one (by omega)]; rfl
          have hcc : c = UInt8.ofNat (48 + n % 10) := by
            apply UInt8.toNat_inj.1
            rw [digit_nat _ (Nat.mod_lt _ (by omega))]; omega
          have hd : n / 10 = m := by omega
          rw [Lib.decDigits, dif_neg (by omega), hd, ← e, hcc]
      · cases hf
theorem numOf_back (l : List UInt8) (n : Nat) (h : numOf l = some n) : l = Lib.decDigits n := by
  unfold numOf at h
  split at h
  · cases h
  · rename_i hc
    refine foldD_back l n ?_ (fun hh => hc (Or.inr (Or.inr hh))) h
    rintro rfl
    exact hc (Or.inl (by simp))
theorem dec_digits (n : Nat) : ∀ c ∈ Lib.decDigits n, 48 ≤ c.toNat ∧ c.toNat ≤ 57 := by
  induction n using Nat.strongRecOn with
  | ind n ih =>
    intro c hc
    rw [Lib.decDigits] at hc
    split at hc
    · rename_i h
      rw [List.mem_singleton.1 hc, digit_nat n h]; omega
    · rename_i h
      rcases List.mem_append.1 hc with hc | hc
      · exact ih (n / 10) (by omega) c hc
      · have := Nat.mod_lt n (show 10 > 0 by omega)
        rw [List.mem_singleton.1 hc, digit_nat _ this]; omega
end Go.Proofs.YtfhmpgjemobjhaaGreatDoor
