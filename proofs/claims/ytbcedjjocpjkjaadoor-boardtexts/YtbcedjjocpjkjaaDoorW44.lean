/-
  board.reader's turn and row, walked.
-/
import Derived.Test.YtbcedjjocpjkjaaDoorW43
namespace Go.Proofs.YtbcedjjocpjkjaaDoor
open Go.RowKit

set_option maxHeartbeats 400000 in
theorem turn_any (b n : Nat) (s : ByteArray) (w : World) (h : isRd w b s n) (hs : s.size ≤ maxLen) :
    Calls Tryd.prog 27 #[.pointer (some ⟨b, 0, none⟩)] w fun e w' =>
      e = .returned (.tuple #[.int .i64 (turnF s.data.toList n).2.1, .bool (turnF s.data.toList n).1]) ∧ Rd w.heap.size b s (turnF s.data.toList n).2.2 w w' := by
  have HT : Hid (turnF s.data.toList n = if atB s.data.toList n 119 then (true, 0, n + 1) else if atB s.data.toList n 98 then (true, 1, n + 1) else (false, 1, n)) := rfl
  generalize turnF s.data.toList n = F at HT ⊢
  go_enter Tryd.func27, Tryd.ntmps27
  go_wp2_with fail
  refine (take_any b n 119 s _ h (by decide) hs).mono ?_
  rintro e w1 ⟨rfl, hr1⟩
  cases h1 : atB s.data.toList n 119 with
  | true =>
    rw [h1, if_pos rfl] at hr1
    have HF := unhide HT
    rw [h1, if_pos rfl] at HF
    subst HF
    go_wp2
    go_ret2
    exact ⟨rfl, hr1⟩
  | false =>
    rw [h1, if_neg (by simp)] at hr1
    have HF := hide (unhide HT)
    go_wp2_with fail
    refine (take_any b n 98 s _ hr1.rd (by decide) hs).mono ?_
    rintro e w2 ⟨rfl, hr2⟩
    have hr3 := hr1.trans (hr2.mono hr1.size)
    have hF := unhide HF
    rw [h1, if_neg (by simp)] at hF
    cases h2 : atB s.data.toList n 98 with
    | true =>
      rw [h2, if_pos rfl] at hr3 hF
      subst hF
      go_wp2
      go_ret2
      exact ⟨rfl, hr3⟩
    | false =>
      rw [h2, if_neg (by simp)] at hr3 hF
      subst hF
      go_wp2
      go_ret2
      exact ⟨rfl, hr3⟩

theorem rowN_step (l : List UInt8) (n most j : Nat) (hj : j < most) :
    rowN (most - j) (l.drop (n + j)) = if cellB (pkN l (n + j) : Nat) then 1 + rowN (most - (j + 1)) (l.drop (n + (j + 1))) else 0 := by
  obtain ⟨m, hm⟩ : ∃ m, most - j = m + 1 := ⟨most - j - 1, by omega⟩
  have hm' : most - (j + 1) = m := by omega
  rw [hm, hm']
  cases hd : l.drop (n + j) with
  | nil =>
    have hp : pkN l (n + j) = 0 := by
      have : l[n + j]? = none := by rw [List.getElem?_eq_none]; exact List.drop_eq_nil_iff.1 hd
      simp [pkN, this]
    rw [hp]
    simp [rowN, cellB, capB]
  | cons x t =>
    have hx : l[n + j]? = some x := by rw [← List.head?_drop, hd]; rfl
    have ht : l.drop (n + (j + 1)) = t := by rw [← Nat.add_assoc, ← List.drop_drop, hd]; rfl
    have hp : pkN l (n + j) = x.toNat := by simp [pkN, hx]
    rw [hp, rowN, ht]
    split <;> omega
theorem rowN_out (l : List UInt8) (n most j : Nat) (hj : most ≤ j) : rowN (most - j) (l.drop (n + j)) = 0 := by
  rw [Nat.sub_eq_zero_of_le hj]
  cases l.drop (n + j) <;> simp [rowN]
theorem cell_lt (l : List UInt8) (n : Nat) (h : cellB (pkN l n : Nat) = true) : n < l.length := by
  rcases Nat.lt_or_ge n l.length with h1 | h1
  · exact h1
  · have : l[n]? = none := by rw [List.getElem?_eq_none]; exact h1
    simp [pkN, this, cellB, capB] at h

set_option maxHeartbeats 1000000 in
theorem row_any (b n most : Nat) (s : ByteArray) (w : World) (h : isRd w b s n) (hs : s.size ≤ maxLen) (hn : n ≤ s.size) (hm : most ≤ 8) :
    Calls Tryd.prog 33 #[.pointer (some ⟨b, 0, none⟩), .int .i64 (most : Int)] w fun e w' =>
      e = .returned (.string (s.extract n (n + rowN most (s.data.toList.drop n)))) ∧ Rd w.heap.size b s (n + rowN most (s.data.toList.drop n)) w w' := by
  have c1 := h.c1
  obtain ⟨N, hN⟩ : ∃ N, N = rowN most (s.data.toList.drop n) := ⟨_, rfl⟩
  rw [← hN]
  have hR0 := Rd.refl (B := w.heap.size) h
  go_enter Tryd.func33, Tryd.ntmps33
  go_wp2
  go_loopw [] (fun wr => ∃ j : Nat, j ≤ most ∧ n + j ≤ s.size ∧ N = j + rowN (most - j) (s.data.toList.drop (n + j)) ∧ Rd w.heap.size b s (n + j) w wr) (fun wr => n + most - atOf wr b)
  case atStart => exact ⟨0, Nat.zero_le _, hn, by rw [hN]; simp, hR0⟩
  case round =>
    obtain ⟨j, hj, hnj, hNj, hr⟩ := hrel
    clear c1 hR0
    have hat := hr.rd.atOf
    have hlt : b < w.heap.size := h.lt
    obtain ⟨a, ha⟩ : ∃ a, a = n + j := ⟨_, rfl⟩
    have HA := hide ha
    have HN := hide hN
    have HNJ := hide hNj
    rw [← ha] at hr hat hnj
    have c0 := hr.rd.c0
    have c1 := hr.rd.c1
    have f1 := hr.rd.f1
    have hsub : (a : Int) - (n : Int) = (j : Int) := by omega
    have hae : n ≤ a := by omega
    have hab : (a : Int) < 9223372036854775807 ∨ a = s.size := by
      unfold maxLen at hs; omega
    clear ha hN hNj
    by_cases hjm : j < most
    · have hji : (j : Int) < (most : Int) := by omega
      go_wp2_with fail
      refine (peek_any b a s _ hr.rd).mono ?_
      rintro e w1 ⟨rfl, m, rfl⟩
      go_wp2_with fail
      refine (isCell_any _ _ (pkN_lt _ _)).mono ?_
      rintro e w1 ⟨rfl, rfl⟩
      have hst := rowN_step s.data.toList n most j hjm
      have HST := hide hst
      clear hst
      cases hc : cellB ((pkN s.data.toList a : Nat) : Int) with
      | true =>
        have hal := cell_lt _ _ hc
        rw [len_data] at hal
        have ha1 : a + 1 ≤ 9223372036854775807 := by unfold maxLen at hs; omega
        have R := (hr.drewN m).set (a + 1)
        have e1 : ((a + 1 : Nat) : Int) = (a : Int) + 1 := by omega
        rw [e1] at R
        have HR := hide R
        clear R e1
        go_wp2
        go_roundw
        case rel =>
          refine ⟨j + 1, by omega, by have := unhide HA; omega, ?_, ?_⟩
          · have h1 := unhide HNJ
            rw [unhide HST, ← unhide HA, hc, if_pos rfl] at h1
            rw [h1]; omega
          · have h2 : n + (j + 1) = a + 1 := by rw [unhide HA]; omega
            rw [h2]; exact unhide HR
        case measure =>
          have h1 : atOf _ b = a + 1 := (unhide HR).rd.atOf
          rw [h1, hat]
          have := unhide HA
          omega
      | false =>
        have hNe : N = j := by
          have h1 := unhide HNJ
          rw [unhide HST, ← unhide HA, hc, if_neg (by simp)] at h1
          omega
        have HNE := hide hNe
        clear hNe
        go_wp2
        go_quiet (fail)
        go_wp2
        go_ret
        have h2 : n + N = a := by rw [unhide HNE, unhide HA]
        rw [h2]
        exact ⟨rfl, (hr.drewN m).drewN _⟩
    · have hji : ¬ (j : Int) < (most : Int) := by omega
      have hNe : N = j := by
        have h1 := unhide HNJ
        rw [rowN_out _ _ _ _ (by omega)] at h1
        omega
      have HNE := hide hNe
      clear hNe
      go_wp2
      go_quiet (fail)
      go_wp2
      go_ret
      have h2 : n + N = a := by rw [unhide HNE, unhide HA]
      rw [h2]
      exact ⟨rfl, hr.drewN _⟩
end Go.Proofs.YtbcedjjocpjkjaaDoor
