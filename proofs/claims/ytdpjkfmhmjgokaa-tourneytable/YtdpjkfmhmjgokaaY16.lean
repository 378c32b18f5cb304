/-
  package tourney, walked: Rate.
-/
import Derived.Test.YtdpjkfmhmjgokaaY15
namespace Go.Proofs.Ytdpjkfmhmjgokaa
open Go.RowKit Ieee
attribute [local go_sem ↓] Go.wp_at_zero Go.wp_at_succ

/-- What Rate takes. -/
def okRt (xs : List Nat) (l : List Re) (k : Nat) : Prop := xs.length ≤ 200 ∧ okL xs.length l ∧ fairL xs = true ∧ fairB k = true
/-- What Rate leaves. -/
structure RtE (xs : List Nat) (l : List Re) (k : Nat) (w : World) (e : Ending) (w' : World) : Prop where
  bw : Below w.heap.size w w'
  out : (¬ okRt xs l k ∧ e = .returned (.tuple #[.slice none 0 0, .int .i64 1])) ∨
    (okRt xs l k ∧ ∃ g, e = .returned (.tuple #[.slice (some ⟨g, 0, none⟩) xs.length xs.length, .int .i64 0]) ∧ FlR w' w.heap.size g xs.length ((rat k xs l).map unsF))

set_option maxHeartbeats 4000000 in
theorem Rate_any (k : Nat) (hk : k < 2 ^ 64) (xs : List Nat) (hx : ∀ x ∈ xs, x < 2 ^ 64) (l : List Re) (so ao : Option Addr) (sc cap : Nat) (w : World) (hs : isFs w w.heap.size so sc xs) (h : isRs w w.heap.size ao cap l) :
    Calls Try.prog 7 #[.slice so xs.length sc, .slice ao l.length cap, .float .f64 k] w (RtE xs l k w) := by
  have HNO : Hid (¬ okRt xs l k → ∀ u, Below w.heap.size w u → RtE xs l k w (.returned (.tuple #[.slice none 0 0, .int .i64 1])) u) := hide (fun hn u hu => ⟨hu, .inl ⟨hn, rfl⟩⟩)
  obtain ⟨n, hn⟩ : ∃ n, n = xs.length := ⟨_, rfl⟩
  obtain ⟨N, hN⟩ : ∃ N, N = l.length := ⟨_, rfl⟩
  have hsc := hs.mx
  have hsl := hs.le
  have hcap := h.mx
  have hle := h.le
  rw [← hn] at hsl
  rw [← hN] at hle
  unfold maxLen at hsc hcap
  by_cases h1 : n ≤ 200
  · have HA := hide (areResults_any (n : Int) (by omega) (by omega) l ao cap w h)
    have HS : Hid (∀ u, Below w.heap.size w u → Calls Try.prog 21 #[.slice so n sc] u fun e w' => e = .returned (.bool (fairL xs)) ∧ w' = u) := hide (fun u hu => by rw [hn]; exact areRatings_any xs so sc u (hs.keep (fun k hk => hu.block k hk) hu.size))
    have HK := fun u => isRating_any k u
    have h1i : (n : Int) ≤ 200 := by omega
    have h1j : ¬ (200 : Int) < (n : Int) := by omega
    rw [← hN] at HA
    by_cases h2 : okL (n : Int) l
    · rw [okLB_t h2] at HA
      by_cases h3 : fairL xs = true
      · rw [h3] at HS
        by_cases h4 : fairB k = true
        · rw [h4] at HK
          have HR : Hid (∀ u, Below w.heap.size w u → Calls Try.prog 23 #[.slice so n sc, .slice ao N cap, .float .f64 k] u (RbE ((rat k xs l).map unsF) u)) := hide (fun u hu => by
            rw [hn, hN]
            refine ratingsBehind_walk k (fair_fl hk h4) xs (fun x hxx => fair_fl (hx x hxx) ?_) (by omega) l (by rw [← hn]; exact h2) so ao sc cap u (hs.keep (fun k hk => hu.block k hk) hu.size) (h.keep (fun k hk => hu.block k hk) hu.size)
            unfold fairL at h3
            exact List.all_eq_true.1 h3 x hxx)
          have HOK : Hid (okRt xs l k) := hide ⟨by omega, by rw [← hn]; exact h2, h3, h4⟩
          have HLN : Hid (((rat k xs l).map unsF).length = n) := hide (by rw [List.length_map, rat_len, hn])
          have HNN := hide hn
          rw [← hn, ← hN]
          clear h2 h3 h4 hn hN hs h hx hk HNO
          go_enter Try.func7, Try.ntmps7
          go_wp2_with fail
          refine (unhide HA).mono ?_
          rintro e w1 ⟨rfl, hb1⟩
          have HB1 := hide hb1
          have HS1 := hide (unhide HS w1 hb1)
          have HR1 := hide (unhide HR w1 hb1)
          clear hb1 HS HR HA
          go_wp2_with fail
          refine (unhide HS1).mono ?_
          rintro e w2 ⟨rfl, rfl⟩
          go_wp2_with fail
          refine (HK _).mono ?_
          rintro e w3 ⟨rfl, rfl⟩
          clear HS1 HK
          go_wp2_with fail
          refine (unhide HR1).mono ?_
          rintro e w4 ⟨hb4, g, rfl, hrow⟩
          have HE : Hid (RtE xs l k w (.returned (.tuple #[.slice (some ⟨g, 0, none⟩) n n, .int .i64 0])) w4) := hide (by
            have hs2 := (unhide HB1).size
            refine ⟨(unhide HB1).trans (hb4.mono hs2), .inr ⟨unhide HOK, g, by rw [← unhide HNN], ?_⟩⟩
            obtain ⟨r1, r2⟩ := hrow.row
            rw [unhide HLN] at r1 r2
            refine ⟨?_⟩
            rw [unhide HLN, ← unhide HNN]
            refine ⟨r1, ?_⟩
            rcases r2 with r2 | ⟨g', cp, cur, e1, hb, rr⟩
            · exact .inl r2
            · exact .inr ⟨g', cp, cur, e1, by omega, rr⟩)
          have e5 := unhide HLN
          rw [e5]
          clear hb4 hrow HR1 e5
          go_wp2
          refine bodyPost_ret (v := .tuple #[.slice (some ⟨g, 0, none⟩) n n, .int .i64 0]) (by simp [results, Try.results7, go_sem]) rfl ?_
          exact unhide HE
        · have h4f : fairB k = false := by simpa using h4
          rw [h4f] at HK
          have HC0 := hide (unhide HNO (fun hh => h4 hh.2.2.2))
          rw [← hn, ← hN]
          clear h2 h3 h4 h4f hn hN hs h hx hk HNO
          go_enter Try.func7, Try.ntmps7
          go_wp2_with fail
          refine (unhide HA).mono ?_
          rintro e w1 ⟨rfl, hb1⟩
          have HC := hide (unhide HC0 w1 hb1)
          have HS1 := hide (unhide HS w1 hb1)
          clear hb1 HS HC0 HA
          go_wp2_with fail
          refine (unhide HS1).mono ?_
          rintro e w2 ⟨rfl, rfl⟩
          go_wp2_with fail
          refine (HK _).mono ?_
          rintro e w3 ⟨rfl, rfl⟩
          clear HS1 HK
          go_wp2
          refine bodyPost_ret (v := .tuple #[.slice none 0 0, .int .i64 1]) (by simp [results, Try.results7, go_sem]) rfl ?_
          exact unhide HC
      · have h3f : fairL xs = false := by simpa using h3
        rw [h3f] at HS
        have HC0 := hide (unhide HNO (fun hh => h3 hh.2.2.1))
        rw [← hn, ← hN]
        clear h2 h3 h3f hn hN hs h hx hk HNO HK
        go_enter Try.func7, Try.ntmps7
        go_wp2_with fail
        refine (unhide HA).mono ?_
        rintro e w1 ⟨rfl, hb1⟩
        have HC := hide (unhide HC0 w1 hb1)
        have HS1 := hide (unhide HS w1 hb1)
        clear hb1 HS HC0 HA
        go_wp2_with fail
        refine (unhide HS1).mono ?_
        rintro e w2 ⟨rfl, rfl⟩
        clear HS1
        go_wp2
        refine bodyPost_ret (v := .tuple #[.slice none 0 0, .int .i64 1]) (by simp [results, Try.results7, go_sem]) rfl ?_
        exact unhide HC
    · rw [okLB_f h2] at HA
      have HC0 := hide (unhide HNO (fun hh => h2 (by rw [hn]; exact hh.2.1)))
      rw [← hn, ← hN]
      clear h2 hn hN hs h hx hk HNO HK HS
      go_enter Try.func7, Try.ntmps7
      go_wp2_with fail
      refine (unhide HA).mono ?_
      rintro e w1 ⟨rfl, hb1⟩
      have HC := hide (unhide HC0 w1 hb1)
      clear hb1 HC0 HA
      go_wp2
      refine bodyPost_ret (v := .tuple #[.slice none 0 0, .int .i64 1]) (by simp [results, Try.results7, go_sem]) rfl ?_
      exact unhide HC
  · have h1i : ¬ (n : Int) ≤ 200 := by omega
    have h1j : (200 : Int) < (n : Int) := by omega
    have HC := hide (unhide HNO (fun hh => h1 (by have := hh.1; omega)) w (Below.refl _ _))
    rw [← hn, ← hN]
    clear hn hN hs h hx hk HNO h1
    go_enter Try.func7, Try.ntmps7
    go_wp2
    refine bodyPost_ret (v := .tuple #[.slice none 0 0, .int .i64 1]) (by simp [results, Try.results7, go_sem]) rfl ?_
    exact unhide HC
end Go.Proofs.Ytdpjkfmhmjgokaa
