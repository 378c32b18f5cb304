/-
  board.reader's hand, walked.
-/
import Derived.Test.YtbcedjjocpjkjaaDoorW44
import Derived.Test.YtbcedjjocpjkjaaDoorW3
namespace Go.Proofs.YtbcedjjocpjkjaaDoor
open Go.RowKit
attribute [local go_sem ↓] Go.wp_at_zero Go.wp_at_succ

theorem hN_step (l : List UInt8) (n j x : Nat) (hj : j < 8) :
    hN (8 - j) (x : Int) (l.drop (n + j)) = if capB (pkN l (n + j) : Nat) && decide ((x : Int) ≤ (pkN l (n + j) : Nat)) then 1 + hN (8 - (j + 1)) (pkN l (n + j) : Nat) (l.drop (n + (j + 1))) else 0 := by
  obtain ⟨m, hm⟩ : ∃ m, 8 - j = m + 1 := ⟨8 - j - 1, by omega⟩
  have hm' : 8 - (j + 1) = m := by omega
  rw [hm, hm']
  cases hd : l.drop (n + j) with
  | nil =>
    have hp : pkN l (n + j) = 0 := by
      have : l[n + j]? = none := by rw [List.getElem?_eq_none]; exact List.drop_eq_nil_iff.1 hd
      simp [pkN, this]
    rw [hp]
    simp [hN, capB]
  | cons y t =>
    have hx : l[n + j]? = some y := by rw [← List.head?_drop, hd]; rfl
    have ht : l.drop (n + (j + 1)) = t := by rw [← Nat.add_assoc, ← List.drop_drop, hd]; rfl
    have hp : pkN l (n + j) = y.toNat := by simp [pkN, hx]
    rw [hp, hN, ht]
    split <;> omega
theorem hN_out (l : List UInt8) (n j x : Nat) (hj : 8 ≤ j) : hN (8 - j) (x : Int) (l.drop (n + j)) = 0 := by
  rw [Nat.sub_eq_zero_of_le hj]
  cases l.drop (n + j) <;> simp [hN]
theorem cap_lt (l : List UInt8) (n : Nat) (h : capB (pkN l n : Nat) = true) : n < l.length := by
  rcases Nat.lt_or_ge n l.length with h1 | h1
  · exact h1
  · have : l[n]? = none := by rw [List.getElem?_eq_none]; exact h1
    simp [pkN, this, capB] at h

theorem ext_str (s : ByteArray) (n k : Nat) : s.extract n (n + k) = ⟨((s.data.toList.drop n).take k).toArray⟩ := by
  apply ByteArray.ext
  apply Array.ext'
  rw [ByteArray.data_extract, Array.toList_extract, List.extract_eq_take_drop, List.toList_toArray]
  congr 1
  omega

/-- What board.reader.hand answers at n. -/
def handV (s : ByteArray) (n : Nat) : Value := .tuple #[.string ⟨(handF (s.data.toList.drop n)).2.1.toArray⟩, .bool (handF (s.data.toList.drop n)).1]
def handE (s : ByteArray) (n : Nat) : Nat := n + (handF (s.data.toList.drop n)).2.2

theorem hand_dash (s : ByteArray) (n : Nat) (h : atB s.data.toList n 45 = true) : handV s n = .tuple #[.string ⟨#[]⟩, .bool true] ∧ handE s n = n + 1 := by
  have h1 : (s.data.toList.drop n).head? = some 45 := by rw [List.head?_drop]; simpa [atB] using h
  simp [handV, handE, handF, h1]
theorem hand_caps (s : ByteArray) (n N : Nat) (h : atB s.data.toList n 45 = false) (hN : N = YtbcedjjocpjkjaaDoor.hN 8 65 (s.data.toList.drop n)) : handV s n = .tuple #[.string (s.extract n (n + N)), .bool (decide (n < n + N))] ∧ handE s n = n + N := by
  have h1 : ¬ (s.data.toList.drop n).head? = some 45 := by rw [List.head?_drop]; simpa [atB] using h
  rw [ext_str, handV, handE, handF, if_neg h1, ← hN]
  simp

set_option maxHeartbeats 1000000 in
theorem hand_any (b n : Nat) (s : ByteArray) (w : World) (h : isRd w b s n) (hs : s.size ≤ maxLen) (hn : n ≤ s.size) :
    Calls Tryd.prog 28 #[.pointer (some ⟨b, 0, none⟩)] w fun e w' => e = .returned (handV s n) ∧ Rd w.heap.size b s (handE s n) w w' := by
  have hlt : b < w.heap.size := h.lt
  cases h1 : atB s.data.toList n 45 with
  | true =>
    obtain ⟨e1, e2⟩ := hand_dash s n h1
    rw [e1, e2]
    clear e1 e2
    go_enter Tryd.func28, Tryd.ntmps28
    go_wp2_with fail
    refine (take_any b n 45 s _ h (by decide) hs).mono ?_
    rintro e w0 ⟨rfl, hr0⟩
    rw [h1, if_pos rfl] at hr0
    rw [h1]
    go_wp2
    go_ret2
    exact ⟨rfl, hr0⟩
  | false =>
    obtain ⟨N, hN⟩ : ∃ N, N = YtbcedjjocpjkjaaDoor.hN 8 65 (s.data.toList.drop n) := ⟨_, rfl⟩
    obtain ⟨e1, e2⟩ := hand_caps s n N h1 hN
    rw [e1, e2]
    clear e1 e2
    go_enter Tryd.func28, Tryd.ntmps28
    go_wp2_with fail
    refine (take_any b n 45 s _ h (by decide) hs).mono ?_
    rintro e w0 ⟨rfl, hr0⟩
    rw [h1, if_neg (by simp)] at hr0
    rw [h1]
    have c1 := hr0.rd.c1
    go_wp2
    go_loopw [5] (fun v wr => ∃ j x : Nat, j ≤ 8 ∧ n + j ≤ s.size ∧ v = .int .u8 (x : Int) ∧ N = j + YtbcedjjocpjkjaaDoor.hN (8 - j) (x : Int) (s.data.toList.drop (n + j)) ∧ Rd w.heap.size b s (n + j) w wr) (fun _ wr => n + 8 - atOf wr b)
    case atStart => exact ⟨0, 65, by omega, hn, rfl, by rw [hN]; simp, hr0⟩
    case round =>
      obtain ⟨j, x, hj, hnj, rfl, hNj, hr⟩ := hrel
      clear c1 hr0
      have hat := hr.rd.atOf
      obtain ⟨a, ha⟩ : ∃ a, a = n + j := ⟨_, rfl⟩
      have HA := hide ha
      have HN := hide hN
      rw [← ha] at hNj
      have HNJ := hide hNj
      rw [← ha] at hr hat hnj
      have hsw := hr.size
      have c0 := hr.rd.c0
      have c1 := hr.rd.c1
      have f1 := hr.rd.f1
      have hsub : (a : Int) - (n : Int) = (j : Int) := by omega
      have hae : n ≤ a := by omega
      clear ha hN hNj
      have hfin : N = j → Hid (N = j ∧ n + N = a) := fun e => ⟨e, by rw [e, unhide HA]⟩
      by_cases hjm : j < 8
      · have hji : (j : Int) < 8 := by omega
        have hst := hN_step s.data.toList n j x hjm
        rw [← unhide HA] at hst
        have HST := hide hst
        clear hst
        go_wp2_with fail
        refine (peek_any b a s _ hr.rd).mono ?_
        rintro e w1 ⟨rfl, m, rfl⟩
        go_wp2_with fail
        refine (isCapital_any _ _).mono ?_
        rintro e w1 ⟨rfl, rfl⟩
        cases hc : capB ((pkN s.data.toList a : Nat) : Int) with
        | true =>
          have hal := cap_lt _ _ hc
          rw [len_data] at hal
          have ha1 : a + 1 ≤ 9223372036854775807 := by unfold maxLen at hs; omega
          go_wp2_with fail
          refine (peek_any b a s _ (hr.rd.drewN m)).mono ?_
          rintro e w1 ⟨rfl, m2, rfl⟩
          have hpl := pkN_lt s.data.toList a
          obtain ⟨y, hy⟩ : ∃ y, y = pkN s.data.toList a := ⟨_, rfl⟩
          have HY := hide hy
          rw [← hy] at hc hpl ⊢
          clear hy
          by_cases hxy : x ≤ y
          · have hxi : (x : Int) ≤ (y : Int) := by omega
            clear hfin
            have hyb : y ≤ 255 := by omega
            go_wp2_with fail
            refine (peek_any b a s _ (hr.rd.drewN _)).mono ?_
            rintro e w1 ⟨rfl, m3, rfl⟩
            rw [← unhide HY]
            have R := (hr.drewN (m + m2 + m3)).set (a + 1)
            have e1 : ((a + 1 : Nat) : Int) = (a : Int) + 1 := by omega
            rw [e1] at R
            have HR := hide R
            clear R e1
            go_wp2
            go_roundw
            case rel =>
              refine ⟨j + 1, y, by omega, by have := unhide HA; omega, rfl, ?_, ?_⟩
              · have h1 := unhide HNJ
                rw [unhide HST, ← unhide HY, hc, Bool.true_and, if_pos (by simpa using hxi)] at h1
                rw [h1]; omega
              · have h2 : n + (j + 1) = a + 1 := by rw [unhide HA]; omega
                rw [h2]; exact unhide HR
            case measure =>
              have h1 : atOf _ b = a + 1 := (unhide HR).rd.atOf
              rw [h1, hat]
              have := unhide HA
              omega
          · have hxi : ¬ (x : Int) ≤ (y : Int) := by omega
            have HF := hfin (by
              have h1 := unhide HNJ
              rw [unhide HST, ← unhide HY, hc, Bool.true_and, if_neg (by simpa using hxi)] at h1
              omega)
            clear hfin
            go_wp2
            go_region_held3 (fun w' => w'.cell? ⟨b, 0, none⟩ = some (.string s) ∧ w'.cell? ⟨b, 1, none⟩ = some (.int .i64 (a : Int)))
              (first
                | (go_keep; done)
                | ((try go_split_ands); (try dsimp only); (repeat' apply And.intro) <;> first
                     | (go_keep; done)
                     | (rw [hbc.cell (by first | omega | (dsimp only [World.drew]; omega) | (simp; omega))]; assumption)))
              (first | (go_at_call 35; refine (Clone_any _ _ (by rw [ByteArray.size_extract]; unfold maxLen at hs ⊢; omega) (by rw [ByteArray.size_extract]; omega)).mono ?_; rintro e wc ⟨rfl, hbc⟩; have hsc := hbc.size))
            go_wp2
            go_ret2
            obtain ⟨h1, h2⟩ := unhide HF
            refine ⟨?_, ?_⟩
            · rw [h2]; rfl
            · rw [h2]; exact ((hr.drewN (m + m2)).drewN 1).below (hbc.mono (by first | omega | (dsimp only [World.drew]; omega) | (simp; omega))) hlt
        | false =>
          have HF := hfin (by
            have h1 := unhide HNJ
            rw [unhide HST, hc, Bool.false_and, if_neg (by simp)] at h1
            omega)
          clear hfin
          go_wp2
          go_region_held3 (fun w' => w'.cell? ⟨b, 0, none⟩ = some (.string s) ∧ w'.cell? ⟨b, 1, none⟩ = some (.int .i64 (a : Int)))
            (first
              | (go_keep; done)
              | ((try go_split_ands); (try dsimp only); (repeat' apply And.intro) <;> first
                   | (go_keep; done)
                   | (rw [hbc.cell (by first | omega | (dsimp only [World.drew]; omega) | (simp; omega))]; assumption)))
            (first | (go_at_call 35; refine (Clone_any _ _ (by rw [ByteArray.size_extract]; unfold maxLen at hs ⊢; omega) (by rw [ByteArray.size_extract]; omega)).mono ?_; rintro e wc ⟨rfl, hbc⟩; have hsc := hbc.size))
          go_wp2
          go_ret2
          obtain ⟨h1, h2⟩ := unhide HF
          refine ⟨?_, ?_⟩
          · rw [h2]; rfl
          · rw [h2]; exact ((hr.drewN m).drewN 1).below (hbc.mono (by first | omega | (dsimp only [World.drew]; omega) | (simp; omega))) hlt
      · have hji : ¬ (j : Int) < 8 := by omega
        have HF := hfin (by
          have h1 := unhide HNJ
          rw [unhide HA, hN_out _ _ _ _ (by omega)] at h1
          omega)
        clear hfin
        go_wp2
        go_region_held3 (fun w' => w'.cell? ⟨b, 0, none⟩ = some (.string s) ∧ w'.cell? ⟨b, 1, none⟩ = some (.int .i64 (a : Int)))
          (first
            | (go_keep; done)
            | ((try go_split_ands); (try dsimp only); (repeat' apply And.intro) <;> first
                 | (go_keep; done)
                 | (rw [hbc.cell (by first | omega | (dsimp only [World.drew]; omega) | (simp; omega))]; assumption)))
          (first | (go_at_call 35; refine (Clone_any _ _ (by rw [ByteArray.size_extract]; unfold maxLen at hs ⊢; omega) (by rw [ByteArray.size_extract]; omega)).mono ?_; rintro e wc ⟨rfl, hbc⟩; have hsc := hbc.size))
        go_wp2
        go_ret2
        obtain ⟨h1, h2⟩ := unhide HF
        refine ⟨?_, ?_⟩
        · rw [h2]; rfl
        · rw [h2]; exact (hr.drewN 1).below (hbc.mono (by first | omega | (dsimp only [World.drew]; omega) | (simp; omega))) hlt
end Go.Proofs.YtbcedjjocpjkjaaDoor
