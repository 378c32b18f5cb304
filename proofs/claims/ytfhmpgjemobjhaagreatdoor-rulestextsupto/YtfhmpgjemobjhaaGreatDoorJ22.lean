/-
  board.reader's peek, take and turn, walked: a reader in a block of its own; what else there was has not turned.
  board.reader's turn and row, walked.
  board.reader's hand, walked.
-/
import Derived.Test.YtfhmpgjemobjhaaGreatDoorJ1
import Derived.Test.YtfhmpgjemobjhaaGreatDoorM7
import Derived.Test.YtfhmpgjemobjhaaGreatDoorJ0
namespace Go.Proofs.YtfhmpgjemobjhaaGreatDoor
open Go.RowKit

/-- In block b stands a reader of s, at n. -/
def isRd (w : World) (b : Nat) (s : ByteArray) (n : Nat) : Prop := w.heap[b]? = some (.cells #[.string s, .int .i64 (n : Int)] 106 (0, 0))

theorem isRd.c0 {w : World} {b n : Nat} {s : ByteArray} (h : isRd w b s n) : w.cell? ⟨b, 0, none⟩ = some (.string s) := by
  unfold isRd at h; simp [World.cell?, h]
theorem isRd.c1 {w : World} {b n : Nat} {s : ByteArray} (h : isRd w b s n) : w.cell? ⟨b, 1, none⟩ = some (.int .i64 (n : Int)) := by
  unfold isRd at h; simp [World.cell?, h]
theorem isRd.f1 {w : World} {b n : Nat} {s : ByteArray} (h : isRd w b s n) : w.frozen? ⟨b, 1, none⟩ = false := by
  unfold isRd at h; simp [World.frozen?, h]
theorem isRd.lt {w : World} {b n : Nat} {s : ByteArray} (h : isRd w b s n) : b < w.heap.size := by
  rcases Nat.lt_or_ge b w.heap.size with h' | h'
  · exact h'
  · unfold isRd at h; simp [Array.getElem?_eq_none h'] at h
theorem isRd.drewN {w : World} {b n : Nat} {s : ByteArray} (h : isRd w b s n) (m : Nat) : isRd (w.drewN m) b s n := h
theorem isRd.set {w : World} {b n : Nat} {s : ByteArray} (h : isRd w b s n) (m : Nat) : isRd (w.setCell ⟨b, 1, none⟩ (.int .i64 (m : Int))) b s m := by
  unfold isRd at h ⊢
  simp [World.setCell, Array.getElem?_modify, h]
theorem isRd.below {w w' : World} {b n B : Nat} {s : ByteArray} (h : isRd w b s n) (hb : Below B w w') (hB : b < B) : isRd w' b s n := by
  unfold isRd at h ⊢
  rw [hb.block b hB, h]

/-- Below B the world w' is as w was, but for block b, in which a reader of s stands at n. -/
structure Rd (B b : Nat) (s : ByteArray) (n : Nat) (w w' : World) : Prop where
  os : w'.os = w.os
  tape : w'.tape = w.tape
  output : w'.output = w.output
  size : w.heap.size ≤ w'.heap.size
  block : ∀ k, k < B → k ≠ b → w'.heap[k]? = w.heap[k]?
  rd : isRd w' b s n

theorem Rd.refl {B b n : Nat} {s : ByteArray} {w : World} (h : isRd w b s n) : Rd B b s n w w := ⟨rfl, rfl, rfl, Nat.le_refl _, fun _ _ _ => rfl, h⟩
theorem Rd.trans {B b n m : Nat} {s : ByteArray} {u v w : World} (h : Rd B b s n u v) (k : Rd B b s m v w) : Rd B b s m u w :=
  ⟨k.os.trans h.os, k.tape.trans h.tape, k.output.trans h.output, Nat.le_trans h.size k.size, fun i hi hn => (k.block i hi hn).trans (h.block i hi hn), k.rd⟩
theorem Rd.mono {B B' b n : Nat} {s : ByteArray} {v w : World} (h : Rd B b s n v w) (hB : B' ≤ B) : Rd B' b s n v w :=
  ⟨h.os, h.tape, h.output, h.size, fun i hi hn => h.block i (by omega) hn, h.rd⟩
theorem Rd.drewN {B b n : Nat} {s : ByteArray} {v w : World} (h : Rd B b s n v w) (m : Nat) : Rd B b s n v (w.drewN m) := ⟨h.os, h.tape, h.output, h.size, h.block, h.rd⟩
theorem Rd.set {B b n : Nat} {s : ByteArray} {v w : World} (h : Rd B b s n v w) (m : Nat) : Rd B b s m v (w.setCell ⟨b, 1, none⟩ (.int .i64 (m : Int))) :=
  ⟨h.os, h.tape, h.output, by have := h.size; simpa [World.setCell] using this, fun i hi hn => (Below.heap_setCell _ _ _ _ hn).trans (h.block i hi hn), h.rd.set m⟩
theorem Rd.of_below {B b n : Nat} {s : ByteArray} {v w : World} (h : Below B v w) (hB : b < B) (hr : isRd v b s n) : Rd B b s n v w :=
  ⟨h.os, h.tape, h.output, h.size, fun i hi _ => h.block i hi, hr.below h hB⟩
theorem Rd.below {B b n : Nat} {s : ByteArray} {u v w : World} (h : Rd B b s n u v) (k : Below B v w) (hB : b < B) : Rd B b s n u w := h.trans (Rd.of_below k hB h.rd)
/-- Below the reader's own block nothing has turned. -/
theorem Rd.low {B b n : Nat} {s : ByteArray} {v w : World} (h : Rd B b s n v w) (hB : b ≤ B) : Below b v w :=
  ⟨h.os, h.tape, h.output, h.size, fun i hi => h.block i (by omega) (by omega)⟩
theorem Rd.cell {B b n : Nat} {s : ByteArray} {v w : World} (h : Rd B b s n v w) {p : Addr} (hp : p.block < B) (hn : p.block ≠ b) : w.cell? p = v.cell? p := World.cell?_of_block (w := v) (h.block p.block hp hn)
theorem Rd.frozen {B b n : Nat} {s : ByteArray} {v w : World} (h : Rd B b s n v w) {p : Addr} (hp : p.block < B) (hn : p.block ≠ b) : w.frozen? p = v.frozen? p := World.frozen?_of_block (w := v) (h.block p.block hp hn)

/-- Where the reader in block b stands. -/
def atOf (w : World) (b : Nat) : Nat := match w.cell? ⟨b, 1, none⟩ with | some (.int _ q) => q.toNat | _ => 0
theorem isRd.atOf {w : World} {b n : Nat} {s : ByteArray} (h : isRd w b s n) : atOf w b = n := by
  simp [YtfhmpgjemobjhaaGreatDoor.atOf, h.c1]

/-- The byte at n; 0 where there is none. -/
def pkN (l : List UInt8) (n : Nat) : Nat := match l[n]? with | some c => c.toNat | none => 0
theorem pkN_in (s : ByteArray) (n : Nat) (h : n < s.size) : pkN s.data.toList n = s[n].toNat := by
  have : s.data.toList[n]? = some s[n] := by rw [List.getElem?_eq_getElem (by simpa using h)]; rfl
  simp [pkN, this]
theorem pkN_out (s : ByteArray) (n : Nat) (h : s.size ≤ n) : pkN s.data.toList n = 0 := by
  have : s.data.toList[n]? = none := by rw [List.getElem?_eq_none]; rw [len_data]; exact h
  simp [pkN, this]
theorem pkN_lt (l : List UInt8) (n : Nat) : pkN l n < 256 := by
  unfold pkN
  split
  · rename_i c _; exact c.toNat_lt
  · omega
theorem atB_pk (l : List UInt8) (n : Nat) (c : UInt8) (hc : c ≠ 0) : atB l n c = decide (pkN l n = c.toNat) := by
  unfold atB pkN
  have h0 : c.toNat ≠ 0 := fun e => hc (UInt8.toNat.inj (by simpa using e))
  cases h : l[n]? with
  | none => simp; omega
  | some x => simp [UInt8.toNat_inj]

set_option maxHeartbeats 400000 in
theorem peek_any (b n : Nat) (s : ByteArray) (w : World) (h : isRd w b s n) :
    Calls Tryz.prog 106 #[.pointer (some ⟨b, 0, none⟩)] w fun e w' => e = .returned (.int .u8 ((pkN s.data.toList n : Nat) : Int)) ∧ ∃ m, w' = w.drewN m := by
  have c0 := h.c0
  have c1 := h.c1
  by_cases hn : n < s.size
  · have hp := pkN_in s n hn
    have HP := hide hp
    clear hp
    have hni : (n : Int) < (s.size : Int) := by omega
    go_enter Tryz.func106, Tryz.ntmps106
    go_wp2
    go_quiet (fail)
    go_wp2
    go_quiet (fail)
    go_wp2
    go_ret
    refine ⟨?_, _, World.drewN_drewN _ _ _⟩
    rw [unhide HP]
    rfl
  · have hp := pkN_out s n (by omega)
    have HP := hide hp
    clear hp
    have hni : (s.size : Int) ≤ (n : Int) := by omega
    go_enter Tryz.func106, Tryz.ntmps106
    go_wp2
    go_quiet (fail)
    go_wp2
    go_ret
    exact ⟨by rw [unhide HP]; rfl, _, rfl⟩

set_option maxHeartbeats 400000 in
theorem take_any (b n : Nat) (c : UInt8) (s : ByteArray) (w : World) (h : isRd w b s n) (hc : c ≠ 0) (hs : s.size ≤ maxLen) :
    Calls Tryz.prog 89 #[.pointer (some ⟨b, 0, none⟩), .int .u8 (c.toNat : Int)] w fun e w' =>
      e = .returned (.bool (atB s.data.toList n c)) ∧ Rd w.heap.size b s (if atB s.data.toList n c then n + 1 else n) w w' := by
  have hlt := h.lt
  have hat := atB_pk s.data.toList n c hc
  have HR := hide (Rd.refl (B := w.heap.size) h)
  have c1 := h.c1
  have f1 := h.f1
  by_cases he : pkN s.data.toList n = c.toNat
  · have h1 : atB s.data.toList n c = true := by rw [hat]; simp [he]
    rw [h1, if_pos rfl]
    have hb : ((pkN s.data.toList n : Nat) : Int) = (c.toNat : Int) := by omega
    clear hat h1
    have hn2 : n + 1 ≤ 9223372036854775807 := by
      rcases Nat.lt_or_ge n s.size with h2 | h2
      · unfold maxLen at hs; omega
      · rw [pkN_out s n h2] at he
        exact absurd (UInt8.toNat.inj (show (0 : UInt8).toNat = c.toNat from he)).symm hc
    go_enter Tryz.func89, Tryz.ntmps89
    go_wp2_with fail
    refine (peek_any b n s _ h).mono ?_
    rintro e w1 ⟨rfl, m, rfl⟩
    rw [hb]
    go_wp2
    go_ret
    refine ⟨rfl, ?_⟩
    have := ((unhide HR).drewN m).set (n + 1)
    simpa using this
  · have h1 : atB s.data.toList n c = false := by rw [hat]; simp [he]
    rw [h1, if_neg (by simp)]
    have hb : ¬ ((pkN s.data.toList n : Nat) : Int) = (c.toNat : Int) := by omega
    clear hat h1 he
    go_enter Tryz.func89, Tryz.ntmps89
    go_wp2_with fail
    refine (peek_any b n s _ h).mono ?_
    rintro e w1 ⟨rfl, m, rfl⟩
    generalize ((pkN s.data.toList n : Nat) : Int) = x at hb
    go_wp2
    go_ret
    exact ⟨rfl, (unhide HR).drewN m⟩
end Go.Proofs.YtfhmpgjemobjhaaGreatDoor

namespace Go.Proofs.YtfhmpgjemobjhaaGreatDoor
open Go.RowKit

set_option maxHeartbeats 400000 in
theorem turn_any (b n : Nat) (s : ByteArray) (w : World) (h : isRd w b s n) (hs : s.size ≤ maxLen) :
    Calls Tryz.prog 91 #[.pointer (some ⟨b, 0, none⟩)] w fun e w' =>
      e = .returned (.tuple #[.int .i64 (turnF s.data.toList n).2.1, .bool (turnF s.data.toList n).1]) ∧ Rd w.heap.size b s (turnF s.data.toList n).2.2 w w' := by
  have HT : Hid (turnF s.data.toList n = if atB s.data.toList n 119 then (true, 0, n + 1) else if atB s.data.toList n 98 then (true, 1, n + 1) else (false, 1, n)) := rfl
  generalize turnF s.data.toList n = F at HT ⊢
  go_enter Tryz.func91, Tryz.ntmps91
  go_wp2_with fail
  refine (take_any b n 119 s _ h (by decide) hs).mono ?_
  rintro e w1 ⟨rfl, hr1⟩
  cases h1 : atB s.data.toList n 119 with
  | true =>
    rw [h1, if_pos rfl] at hr1
    have HF := unhide HT
    rw [h1, if_pos rfl] at HF
    subst HF
    go_wp2
    go_ret2
    exact ⟨rfl, hr1⟩
  | false =>
    rw [h1, if_neg (by simp)] at hr1
    have HF := hide (unhide HT)
    go_wp2_with fail
    refine (take_any b n 98 s _ hr1.rd (by decide) hs).mono ?_
    rintro e w2 ⟨rfl, hr2⟩
    have hr3 := hr1.trans (hr2.mono hr1.size)
    have hF := unhide HF
    rw [h1, if_neg (by simp)] at hF
    cases h2 : atB s.data.toList n 98 with
    | true =>
      rw [h2, if_pos rfl] at hr3 hF
      subst hF
      go_wp2
      go_ret2
      exact ⟨rfl, hr3⟩
    | false =>
      rw [h2, if_neg (by simp)] at hr3 hF
      subst hF
      go_wp2
      go_ret2
      exact ⟨rfl, hr3⟩

theorem rowN_step (l : List UInt8) (n most j : Nat) (hj : j < most) :
    rowN (most - j) (l.drop (n + j)) = if cellB (pkN l (n + j) : Nat) then 1 + rowN (most - (j + 1)) (l.drop (n + (j + 1))) else 0 := by
  obtain ⟨m, hm⟩ : ∃ m, most - j = m + 1 := ⟨most - j - 1, by omega⟩
  have hm' : most - (j + 1) = m := by omega
  rw [hm, hm']
  cases hd : l.drop (n + j) with
  | nil =>
    have hp : pkN l (n + j) = 0 := by
      have : l[n + j]? = none := by rw [List.getElem?_eq_none]; exact List.drop_eq_nil_iff.1 hd
      simp [pkN, this]
    rw [hp]
    simp [rowN, cellB, capB]
  | cons x t =>
    have hx : l[n + j]? = some x := by rw [← List.head?_drop, hd]; rfl
    have ht : l.drop (n + (j + 1)) = t := by rw [← Nat.add_assoc, ← List.drop_drop, hd]; rfl
    have hp : pkN l (n + j) = x.toNat := by simp [pkN, hx]
    rw [hp, rowN, ht]
    split <;> omega
theorem rowN_out (l : List UInt8) (n most j : Nat) (hj : most ≤ j) : rowN (most - j) (l.drop (n + j)) = 0 := by
  rw [Nat.sub_eq_zero_of_le hj]
  cases l.drop (n + j) <;> simp [rowN]
theorem cell_lt (l : List UInt8) (n : Nat) (h : cellB (pkN l n : Nat) = true) : n < l.length := by
  rcases Nat.lt_or_ge n l.length with h1 | h1
  · exact h1
  · have : l[n]? = none := by rw [List.getElem?_eq_none]; exact h1
    simp [pkN, this, cellB, capB] at h

set_option maxHeartbeats 1000000 in
theorem row_any (b n most : Nat) (s : ByteArray) (w : World) (h : isRd w b s n) (hs : s.size ≤ maxLen) (hn : n ≤ s.size) (hm : most ≤ 8) :
    Calls Tryz.prog 105 #[.pointer (some ⟨b, 0, none⟩), .int .i64 (most : Int)] w fun e w' =>
      e = .returned (.string (s.extract n (n + rowN most (s.data.toList.drop n)))) ∧ Rd w.heap.size b s (n + rowN most (s.data.toList.drop n)) w w' := by
  have c1 := h.c1
  obtain ⟨N, hN⟩ : ∃ N, N = rowN most (s.data.toList.drop n) := ⟨_, rfl⟩
  rw [← hN]
  have hR0 := Rd.refl (B := w.heap.size) h
  go_enter Tryz.func105, Tryz.ntmps105
  go_wp2
  go_loopw [] (fun wr => ∃ j : Nat, j ≤ most ∧ n + j ≤ s.size ∧ N = j + rowN (most - j) (s.data.toList.drop (n + j)) ∧ Rd w.heap.size b s (n + j) w wr) (fun wr => n + most - atOf wr b)
  case atStart => exact ⟨0, Nat.zero_le _, hn, by rw [hN]; simp, hR0⟩
  case round =>
    obtain ⟨j, hj, hnj, hNj, hr⟩ := hrel
    clear c1 hR0
    have hat := hr.rd.atOf
    have hlt : b < w.heap.size := h.lt
    obtain ⟨a, ha⟩ : ∃ a, a = n + j := ⟨_, rfl⟩
    have HA := hide ha
    have HN := hide hN
    have HNJ := hide hNj
    rw [← ha] at hr hat hnj
    have c0 := hr.rd.c0
    have c1 := hr.rd.c1
    have f1 := hr.rd.f1
    have hsub : (a : Int) - (n : Int) = (j : Int) := by omega
    have hae : n ≤ a := by omega
    have hab : (a : Int) < 9223372036854775807 ∨ a = s.size := by
      unfold maxLen at hs; omega
    clear ha hN hNj
    by_cases hjm : j < most
    · have hji : (j : Int) < (most : Int) := by omega
      go_wp2_with fail
      refine (peek_any b a s _ hr.rd).mono ?_
      rintro e w1 ⟨rfl, m, rfl⟩
      go_wp2_with fail
      refine (isCell_any _ _ (pkN_lt _ _)).mono ?_
      rintro e w1 ⟨rfl, rfl⟩
      have hst := rowN_step s.data.toList n most j hjm
      have HST := hide hst
      clear hst
      cases hc : cellB ((pkN s.data.toList a : Nat) : Int) with
      | true =>
        have hal := cell_lt _ _ hc
        rw [len_data] at hal
        have ha1 : a + 1 ≤ 9223372036854775807 := by unfold maxLen at hs; omega
        have R := (hr.drewN m).set (a + 1)
        have e1 : ((a + 1 : Nat) : Int) = (a : Int) + 1 := by omega
        rw [e1] at R
        have HR := hide R
        clear R e1
        go_wp2
        go_roundw
        case rel =>
          refine ⟨j + 1, by omega, by have := unhide HA; omega, ?_, ?_⟩
          · have h1 := unhide HNJ
            rw [unhide HST, ← unhide HA, hc, if_pos rfl] at h1
            rw [h1]; omega
          · have h2 : n + (j + 1) = a + 1 := by rw [unhide HA]; omega
            rw [h2]; exact unhide HR
        case measure =>
          have h1 : atOf _ b = a + 1 := (unhide HR).rd.atOf
          rw [h1, hat]
          have := unhide HA
          omega
      | false =>
        have hNe : N = j := by
          have h1 := unhide HNJ
          rw [unhide HST, ← unhide HA, hc, if_neg (by simp)] at h1
          omega
        have HNE := hide hNe
        clear hNe
        go_wp2
        go_quiet (fail)
        go_wp2
        go_ret
        have h2 : n + N = a := by rw [unhide HNE, unhide HA]
        rw [h2]
        exact ⟨rfl, (hr.drewN m).drewN _⟩
    · have hji : ¬ (j : Int) < (most : Int) := by omega
      have hNe : N = j := by
        have h1 := unhide HNJ
        rw [rowN_out _ _ _ _ (by omega)] at h1
        omega
      have HNE := hide hNe
      clear hNe
      go_wp2
      go_quiet (fail)
      go_wp2
      go_ret
      have h2 : n + N = a := by rw [unhide HNE, unhide HA]
      rw [h2]
      exact ⟨rfl, hr.drewN _⟩
end Go.Proofs.YtfhmpgjemobjhaaGreatDoor

namespace Go.Proofs.YtfhmpgjemobjhaaGreatDoor
open Go.RowKit
attribute [local go_sem ↓] Go.wp_at_zero Go.wp_at_succ

theorem hN_step (l : List UInt8) (n j x : Nat) (hj : j < 8) :
    hN (8 - j) (x : Int) (l.drop (n + j)) = if capB (pkN l (n + j) : Nat) && decide ((x : Int) ≤ (pkN l (n + j) : Nat)) then 1 + hN (8 - (j + 1)) (pkN l (n + j) : Nat) (l.drop (n + (j + 1))) else 0 := by
  obtain ⟨m, hm⟩ : ∃ m, 8 - j = m + 1 := ⟨8 - j - 1, by omega⟩
  have hm' : 8 - (j + 1) = m := by omega
  rw [hm, hm']
  cases hd : l.drop (n + j) with
  | nil =>
    have hp : pkN l (n + j) = 0 := by
      have : l[n + j]? = none := by rw [List.getElem?_eq_none]; exact List.drop_eq_nil_iff.1 hd
      simp [pkN, this]
    rw [hp]
    simp [hN, capB]
  | cons y t =>
    have hx : l[n + j]? = some y := by rw [← List.head?_drop, hd]; rfl
    have ht : l.drop (n + (j + 1)) = t := by rw [← Nat.add_assoc, ← List.drop_drop, hd]; rfl
    have hp : pkN l (n + j) = y.toNat := by simp [pkN, hx]
    rw [hp, hN, ht]
    split <;> omega
theorem hN_out (l : List UInt8) (n j x : Nat) (hj : 8 ≤ j) : hN (8 - j) (x : Int) (l.drop (n + j)) = 0 := by
  rw [Nat.sub_eq_zero_of_le hj]
  cases l.drop (n + j) <;> simp [hN]
theorem cap_lt (l : List UInt8) (n : Nat) (h : capB (pkN l n : Nat) = true) : n < l.length := by
  rcases Nat.lt_or_ge n l.length with h1 | h1
  · exact h1
  · have : l[n]? = none := by rw [List.getElem?_eq_none]; exact h1
    simp [pkN, this, capB] at h

theorem ext_str (s : ByteArray) (n k : Nat) : s.extract n (n + k) = ⟨((s.data.toList.drop n).take k).toArray⟩ := by
  apply ByteArray.ext
  apply Array.ext'
  rw [ByteArray.data_extract, Array.toList_extract, List.extract_eq_take_drop, List.toList_toArray]
  congr 1
  omega

/-- What board.reader.hand answers at n. -/
def handV (s : ByteArray) (n : Nat) : Value := .tuple #[.string ⟨(handF (s.data.toList.drop n)).2.1.toArray⟩, .bool (handF (s.data.toList.drop n)).1]
def handE (s : ByteArray) (n : Nat) : Nat := n + (handF (s.data.toList.drop n)).2.2

theorem hand_dash (s : ByteArray) (n : Nat) (h : atB s.data.toList n 45 = true) : handV s n = .tuple #[.string ⟨#[]⟩, .bool true] ∧ handE s n = n + 1 := by
  have h1 : (s.data.toList.drop n).head? = some 45 := by rw [List.head?_drop]; simpa [atB] using h
  simp [handV, handE, handF, h1]
theorem hand_caps (s : ByteArray) (n N : Nat) (h : atB s.data.toList n 45 = false) (hN : N = YtfhmpgjemobjhaaGreatDoor.hN 8 65 (s.data.toList.drop n)) : handV s n = .tuple #[.string (s.extract n (n + N)), .bool (decide (n < n + N))] ∧ handE s n = n + N := by
  have h1 : ¬ (s.data.toList.drop n).head? = some 45 := by rw [List.head?_drop]; simpa [atB] using h
  rw [ext_str, handV, handE, handF, if_neg h1, ← hN]
  simp

set_option maxHeartbeats 1000000 in
theorem hand_any (b n : Nat) (s : ByteArray) (w : World) (h : isRd w b s n) (hs : s.size ≤ maxLen) (hn : n ≤ s.size) :
    Calls Tryz.prog 92 #[.pointer (some ⟨b, 0, none⟩)] w fun e w' => e = .returned (handV s n) ∧ Rd w.heap.size b s (handE s n) w w' := by
  have hlt : b < w.heap.size := h.lt
  cases h1 : atB s.data.toList n 45 with
  | true =>
    obtain ⟨e1, e2⟩ := hand_dash s n h1
    rw [e1, e2]
    clear e1 e2
    go_enter Tryz.func92, Tryz.ntmps92
    go_wp2_with fail
    refine (take_any b n 45 s _ h (by decide) hs).mono ?_
    rintro e w0 ⟨rfl, hr0⟩
    rw [h1, if_pos rfl] at hr0
    rw [h1]
    go_wp2
    go_ret2
    exact ⟨rfl, hr0⟩
  | false =>
    obtain ⟨N, hN⟩ : ∃ N, N = YtfhmpgjemobjhaaGreatDoor.hN 8 65 (s.data.toList.drop n) := ⟨_, rfl⟩
    obtain ⟨e1, e2⟩ := hand_caps s n N h1 hN
    rw [e1, e2]
    clear e1 e2
    go_enter Tryz.func92, Tryz.ntmps92
    go_wp2_with fail
    refine (take_any b n 45 s _ h (by decide) hs).mono ?_
    rintro e w0 ⟨rfl, hr0⟩
    rw [h1, if_neg (by simp)] at hr0
    rw [h1]
    have c1 := hr0.rd.c1
    go_wp2
    go_loopw [5] (fun v wr => ∃ j x : Nat, j ≤ 8 ∧ n + j ≤ s.size ∧ v = .int .u8 (x : Int) ∧ N = j + YtfhmpgjemobjhaaGreatDoor.hN (8 - j) (x : Int) (s.data.toList.drop (n + j)) ∧ Rd w.heap.size b s (n + j) w wr) (fun _ wr => n + 8 - atOf wr b)
    case atStart => exact ⟨0, 65, by omega, hn, rfl, by rw [hN]; simp, hr0⟩
    case round =>
      obtain ⟨j, x, hj, hnj, rfl, hNj, hr⟩ := hrel
      clear c1 hr0
      have hat := hr.rd.atOf
      obtain ⟨a, ha⟩ : ∃ a, a = n + j := ⟨_, rfl⟩
      have HA := hide ha
      have HN := hide hN
      rw [← ha] at hNj
      have HNJ := hide hNj
      rw [← ha] at hr hat hnj
      have hsw := hr.size
      have c0 := hr.rd.c0
      have c1 := hr.rd.c1
      have f1 := hr.rd.f1
      have hsub : (a : Int) - (n : Int) = (j : Int) := by omega
      have hae : n ≤ a := by omega
      clear ha hN hNj
      have hfin : N = j → Hid (N = j ∧ n + N = a) := fun e => ⟨e, by rw [e, unhide HA]⟩
      by_cases hjm : j < 8
      · have hji : (j : Int) < 8 := by omega
        have hst := hN_step s.data.toList n j x hjm
        rw [← unhide HA] at hst
        have HST := hide hst
        clear hst
        go_wp2_with fail
        refine (peek_any b a s _ hr.rd).mono ?_
        rintro e w1 ⟨rfl, m, rfl⟩
        go_wp2_with fail
        refine (isCapital_any _ _).mono ?_
        rintro e w1 ⟨rfl, rfl⟩
        cases hc : capB ((pkN s.data.toList a : Nat) : Int) with
        | true =>
          have hal := cap_lt _ _ hc
          rw [len_data] at hal
          have ha1 : a + 1 ≤ 9223372036854775807 := by unfold maxLen at hs; omega
          go_wp2_with fail
          refine (peek_any b a s _ (hr.rd.drewN m)).mono ?_
          rintro e w1 ⟨rfl, m2, rfl⟩
          have hpl := pkN_lt s.data.toList a
          obtain ⟨y, hy⟩ : ∃ y, y = pkN s.data.toList a := ⟨_, rfl⟩
          have HY := hide hy
          rw [← hy] at hc hpl ⊢
          clear hy
          by_cases hxy : x ≤ y
          · have hxi : (x : Int) ≤ (y : Int) := by omega
            clear hfin
            have hyb : y ≤ 255 := by omega
            go_wp2_with fail
            refine (peek_any b a s _ (hr.rd.drewN _)).mono ?_
            rintro e w1 ⟨rfl, m3, rfl⟩
            rw [← unhide HY]
            have R := (hr.drewN (m + m2 + m3)).set (a + 1)
            have e1 : ((a + 1 : Nat) : Int) = (a : Int) + 1 := by omega
            rw [e1] at R
            have HR := hide R
            clear R e1
            go_wp2
            go_roundw
            case rel =>
              refine ⟨j + 1, y, by omega, by have := unhide HA; omega, rfl, ?_, ?_⟩
              · have h1 := unhide HNJ
                rw [unhide HST, ← unhide HY, hc, Bool.true_and, if_pos (by simpa using hxi)] at h1
                rw [h1]; omega
              · have h2 : n + (j + 1) = a + 1 := by rw [unhide HA]; omega
                rw [h2]; exact unhide HR
            case measure =>
              have h1 : atOf _ b = a + 1 := (unhide HR).rd.atOf
              rw [h1, hat]
              have := unhide HA
              omega
          · have hxi : ¬ (x : Int) ≤ (y : Int) := by omega
            have HF := hfin (by
              have h1 := unhide HNJ
              rw [unhide HST, ← unhide HY, hc, Bool.true_and, if_neg (by simpa using hxi)] at h1
              omega)
            clear hfin
            go_wp2
            go_region_held3 (fun w' => w'.cell? ⟨b, 0, none⟩ = some (.string s) ∧ w'.cell? ⟨b, 1, none⟩ = some (.int .i64 (a : Int)))
              (first
                | (go_keep; done)
                | ((try go_split_ands); (try dsimp only); (repeat' apply And.intro) <;> first
                     | (go_keep; done)
                     | (rw [hbc.cell (by first | omega | (dsimp only [World.drew]; omega) | (simp; omega))]; assumption)))
              (first | (go_at_call 107; refine (Clone_any _ _ (by rw [ByteArray.size_extract]; unfold maxLen at hs ⊢; omega) (by rw [ByteArray.size_extract]; omega)).mono ?_; rintro e wc ⟨rfl, hbc⟩; have hsc := hbc.size))
            go_wp2
            go_ret2
            obtain ⟨h1, h2⟩ := unhide HF
            refine ⟨?_, ?_⟩
            · rw [h2]; rfl
            · rw [h2]; exact ((hr.drewN (m + m2)).drewN 1).below (hbc.mono (by first | omega | (dsimp only [World.drew]; omega) | (simp; omega))) hlt
        | false =>
          have HF := hfin (by
            have h1 := unhide HNJ
            rw [unhide HST, hc, Bool.false_and, if_neg (by simp)] at h1
            omega)
          clear hfin
          go_wp2
          go_region_held3 (fun w' => w'.cell? ⟨b, 0, none⟩ = some (.string s) ∧ w'.cell? ⟨b, 1, none⟩ = some (.int .i64 (a : Int)))
            (first
              | (go_keep; done)
              | ((try go_split_ands); (try dsimp only); (repeat' apply And.intro) <;> first
                   | (go_keep; done)
                   | (rw [hbc.cell (by first | omega | (dsimp only [World.drew]; omega) | (simp; omega))]; assumption)))
            (first | (go_at_call 107; refine (Clone_any _ _ (by rw [ByteArray.size_extract]; unfold maxLen at hs ⊢; omega) (by rw [ByteArray.size_extract]; omega)).mono ?_; rintro e wc ⟨rfl, hbc⟩; have hsc := hbc.size))
          go_wp2
          go_ret2
          obtain ⟨h1, h2⟩ := unhide HF
          refine ⟨?_, ?_⟩
          · rw [h2]; rfl
          · rw [h2]; exact ((hr.drewN m).drewN 1).below (hbc.mono (by first | omega | (dsimp only [World.drew]; omega) | (simp; omega))) hlt
      · have hji : ¬ (j : Int) < 8 := by omega
        have HF := hfin (by
          have h1 := unhide HNJ
          rw [unhide HA, hN_out _ _ _ _ (by omega)] at h1
          omega)
        clear hfin
        go_wp2
        go_region_held3 (fun w' => w'.cell? ⟨b, 0, none⟩ = some (.string s) ∧ w'.cell? ⟨b, 1, none⟩ = some (.int .i64 (a : Int)))
          (first
            | (go_keep; done)
            | ((try go_split_ands); (try dsimp only); (repeat' apply And.intro) <;> first
                 | (go_keep; done)
                 | (rw [hbc.cell (by first | omega | (dsimp only [World.drew]; omega) | (simp; omega))]; assumption)))
          (first | (go_at_call 107; refine (Clone_any _ _ (by rw [ByteArray.size_extract]; unfold maxLen at hs ⊢; omega) (by rw [ByteArray.size_extract]; omega)).mono ?_; rintro e wc ⟨rfl, hbc⟩; have hsc := hbc.size))
        go_wp2
        go_ret2
        obtain ⟨h1, h2⟩ := unhide HF
        refine ⟨?_, ?_⟩
        · rw [h2]; rfl
        · rw [h2]; exact (hr.drewN 1).below (hbc.mono (by first | omega | (dsimp only [World.drew]; omega) | (simp; omega))) hlt
end Go.Proofs.YtfhmpgjemobjhaaGreatDoor
