/-
  The document's answer, walked: gameref.Results.
-/
import Derived.Test.YtdpjkfmhmjgokaaY1
namespace Go.Proofs.Ytdpjkfmhmjgokaa
open Go.RowKit
attribute [local go_sem ↓] Go.wp_at_zero Go.wp_at_succ

/-- While results are looked at. -/
def RsI (n : Int) (l : List Re) (k : Nat) (b : Bool) : Prop := (b = true ∧ l.length ≤ 10000 ∧ ∀ r ∈ l.take k, okRe n r) ∨ (b = false ∧ okLB n l = false)

set_option maxHeartbeats 4000000 in
theorem rResults_any (n : Int) (l : List Re) (ao : Option Addr) (cap : Nat) (w : World) (h : isRs w w.heap.size ao cap l) :
    Calls Try.prog 8 #[.int .i64 n, .slice ao l.length cap] w fun e w' => e = .returned (.bool (okLB n l)) ∧ Below w.heap.size w w' := by
  obtain ⟨N, hN⟩ : ∃ N, N = l.length := ⟨_, rfl⟩
  obtain ⟨b0, hb0⟩ : ∃ b : Bool, decide ((N : Int) ≤ 10000) = b := ⟨_, rfl⟩
  have HR := hide h
  have HN := hide hN
  have HS : Hid (RsI n l 0 b0) := hide (by
    rw [← hb0]
    by_cases hc : (N : Int) ≤ 10000
    · exact .inl ⟨decide_eq_true hc, by omega, by simp⟩
    · exact .inr ⟨decide_eq_false hc, okLB_f fun hh => by have := hh.1; omega⟩)
  rw [← hN]
  clear hN h
  go_enter Try.func8, Try.ntmps8
  go_wp2
  go_loopw [5, 6] (fun bv iv wr => ∃ (k : Nat) (b : Bool), k ≤ N ∧ bv = .bool b ∧ iv = .int .i64 (k : Int) ∧ RsI n l k b ∧ Below w.heap.size w wr) (fun _ iv _ => N - (intOf iv).toNat)
  case atStart => exact ⟨0, b0, Nat.zero_le _, by first | rfl | (rw [hb0]), rfl, unhide HS, Below.refl _ _⟩
  case round =>
    obtain ⟨k, b, hk, rfl, rfl, hinv, hbw⟩ := hrel
    rename World => wr
    clear HS hb0
    by_cases hlt : k < N
    · have hlti : (k : Int) < (N : Int) := by omega
      cases b
      · have HE : Hid (false = okLB n l) := hide (by
          rcases hinv with ⟨h1, -⟩ | ⟨-, h2⟩
          · cases h1
          · exact h2.symm)
        have HBW := hide hbw
        clear hinv hbw
        go_wp2
        go_ret
        exact ⟨ret_bool (unhide HE), unhide HBW⟩
      · have hk0 : (0 : Int) ≤ (k : Int) := by omega
        obtain ⟨z, hz⟩ : ∃ z, l[k]? = some z := ⟨_, List.getElem?_eq_getElem (by rw [← unhide HN]; exact hlt)⟩
        obtain ⟨g, off, rfl, hg, c0, c1, c2⟩ := ((unhide HR).below hbw (Nat.le_refl _)).at_ hz
        have hcap := (unhide HR).mx
        have hle := (unhide HR).le
        rw [← unhide HN] at hle
        unfold maxLen at hcap
        obtain ⟨hl, hall⟩ : l.length ≤ 10000 ∧ ∀ r ∈ l.take k, okRe n r := by
          rcases hinv with ⟨-, h1, h2⟩ | ⟨h1, -⟩
          · exact ⟨h1, h2⟩
          · cases h1
        have HNO : Hid (¬ okRe n z → RsI n l (k + 1) false) := hide (fun hf => .inr ⟨rfl, okLB_f fun h => hf (h.2 z (List.mem_of_getElem? hz))⟩)
        have HYE : Hid (okRe n z → RsI n l (k + 1) true) := hide (fun ht => .inl ⟨rfl, hl, all_snoc hz hall ht⟩)
        obtain ⟨a, ha⟩ : ∃ a, a = z.a := ⟨_, rfl⟩
        obtain ⟨c, hc⟩ : ∃ c, c = z.b := ⟨_, rfl⟩
        obtain ⟨d, hd⟩ : ∃ d, d = z.h := ⟨_, rfl⟩
        have HOK : Hid (okRe n z ↔ (a ≠ c ∧ 0 ≤ a ∧ a < n ∧ 0 ≤ c ∧ c < n ∧ 0 ≤ d ∧ d ≤ 2)) := hide (by
          rw [okRe_two, ha, hc, hd]
          constructor
          · rintro ⟨⟨q1, q2, q3, q4, q5⟩, q6, q7⟩; exact ⟨q5, q1, q2, q3, q4, q6, q7⟩
          · rintro ⟨q5, q1, q2, q3, q4, q6, q7⟩; exact ⟨⟨q1, q2, q3, q4, q5⟩, q6, q7⟩)
        rw [← ha] at c0
        rw [← hc] at c1
        rw [← hd] at c2
        obtain ⟨wi, hwi⟩ : ∃ wi, wi = wr.alloc (.cells #[.int .i64 a, .int .i64 c, .int .i64 d] 49 (0, 0)) := ⟨_, rfl⟩
        have hbx : wi.heap[wr.heap.size]? = some (.cells #[.int .i64 a, .int .i64 c, .int .i64 d] 49 (0, 0)) := by rw [hwi]; exact heap_alloc_new wr _
        have HBI : Hid (Below w.heap.size w wi) := hide (by rw [hwi]; exact hbw.alloc hbw.size _)
        have y0 : wi.cell? ⟨wr.heap.size, 0, none⟩ = some (.int .i64 a) := by simp [World.cell?, hbx]
        have y1 : wi.cell? ⟨wr.heap.size, 1, none⟩ = some (.int .i64 c) := by simp [World.cell?, hbx]
        have y2 : wi.cell? ⟨wr.heap.size, 2, none⟩ = some (.int .i64 d) := by simp [World.cell?, hbx]
        have HWI := hide hwi
        have HNO2 : Hid (¬ (a ≠ c ∧ 0 ≤ a ∧ a < n ∧ 0 ≤ c ∧ c < n ∧ 0 ≤ d ∧ d ≤ 2) → RsI n l (k + 1) false) := hide (fun hf => unhide HNO fun hh => hf ((unhide HOK).1 hh))
        have HYE2 : Hid ((a ≠ c ∧ 0 ≤ a ∧ a < n ∧ 0 ≤ c ∧ c < n ∧ 0 ≤ d ∧ d ≤ 2) → RsI n l (k + 1) true) := hide (fun ht => unhide HYE ((unhide HOK).2 ht))
        clear hwi hbx hall hbw hz hl ha hc hd HOK HNO HYE hinv
        go_upto_region 6 with fail
        rw [← unhide HWI]
        clear c0 c1 c2 HWI
        by_cases q1 : a = c
        · have HF := hide (unhide HNO2 fun hh => hh.1 q1)
          obtain ⟨E1, e1⟩ : ∃ E : Bool, (a != c) = E := ⟨_, rfl⟩
          obtain rfl : E1 = false := by rw [← e1]; simp [q1]
          clear q1 HNO2 HYE2
          go_wp2
          go_roundw
          case rel => exact ⟨k + 1, false, by omega, by first | rfl | trivial, by go_num, unhide HF, unhide HBI⟩
          case measure => simp only [intOf]; omega
        have e1 : (a != c) = true := by simp [q1]
        by_cases q2 : 0 ≤ a
        rotate_left
        · have HF := hide (unhide HNO2 fun hh => q2 hh.2.1)
          clear HNO2 HYE2 q1
          go_wp2
          go_roundw
          case rel => exact ⟨k + 1, false, by omega, by first | rfl | trivial, by go_num, unhide HF, unhide HBI⟩
          case measure => simp only [intOf]; omega
        by_cases q3 : a < n
        rotate_left
        · have HF := hide (unhide HNO2 fun hh => q3 hh.2.2.1)
          clear HNO2 HYE2 q1
          go_wp2
          go_roundw
          case rel => exact ⟨k + 1, false, by omega, by first | rfl | trivial, by go_num, unhide HF, unhide HBI⟩
          case measure => simp only [intOf]; omega
        by_cases q4 : 0 ≤ c
        rotate_left
        · have HF := hide (unhide HNO2 fun hh => q4 hh.2.2.2.1)
          clear HNO2 HYE2 q1
          go_wp2
          go_roundw
          case rel => exact ⟨k + 1, false, by omega, by first | rfl | trivial, by go_num, unhide HF, unhide HBI⟩
          case measure => simp only [intOf]; omega
        by_cases q5 : c < n
        rotate_left
        · have HF := hide (unhide HNO2 fun hh => q5 hh.2.2.2.2.1)
          clear HNO2 HYE2 q1
          go_wp2
          go_roundw
          case rel => exact ⟨k + 1, false, by omega, by first | rfl | trivial, by go_num, unhide HF, unhide HBI⟩
          case measure => simp only [intOf]; omega
        by_cases q6 : 0 ≤ d
        rotate_left
        · have HF := hide (unhide HNO2 fun hh => q6 hh.2.2.2.2.2.1)
          clear HNO2 HYE2 q1
          go_wp2
          go_roundw
          case rel => exact ⟨k + 1, false, by omega, by first | rfl | trivial, by go_num, unhide HF, unhide HBI⟩
          case measure => simp only [intOf]; omega
        by_cases q7 : d ≤ 2
        rotate_left
        · have HF := hide (unhide HNO2 fun hh => q7 hh.2.2.2.2.2.2)
          clear HNO2 HYE2 q1
          go_wp2
          go_roundw
          case rel => exact ⟨k + 1, false, by omega, by first | rfl | trivial, by go_num, unhide HF, unhide HBI⟩
          case measure => simp only [intOf]; omega
        have HF := hide (unhide HYE2 ⟨q1, q2, q3, q4, q5, q6, q7⟩)
        clear HNO2 HYE2 q1
        go_wp2
        go_roundw
        case rel => exact ⟨k + 1, true, by omega, by first | rfl | trivial, by go_num, unhide HF, unhide HBI⟩
        case measure => simp only [intOf]; omega
    · have hlti : ¬ (k : Int) < (N : Int) := by omega
      have HE : Hid (b = okLB n l) := hide (by
        rcases hinv with ⟨h1, h2, h3⟩ | ⟨h1, h2⟩
        · rw [h1, okLB_t ⟨h2, by rw [List.take_of_length_le (by have := unhide HN; omega)] at h3; exact h3⟩]
        · rw [h1, h2])
      have HBW := hide hbw
      clear hinv hbw
      go_wp2
      go_ret
      exact ⟨ret_bool (unhide HE), unhide HBW⟩
end Go.Proofs.Ytdpjkfmhmjgokaa
