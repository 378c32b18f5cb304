/-
  gamekeep.TourneyPairs, walked: where there is a barrier.
-/
import Derived.Test.YtppkejblhkbkjaaZ27
namespace Go.Proofs.Ytppkejblhkbkjaa
open Go.RowKit Tu
attribute [local go_sem ↓] Go.wp_at_zero Go.wp_at_succ

theorem wrapZ {n : Int} (h : 0 ≤ n ∧ n ≤ 9223372036854775807) : IntKind.i64.wrap n = n := by unfold IntKind.wrap; simp [IntKind.signed, IntKind.bits]; omega
theorem barK_up (M : Nat → Option Nat) (S : Nat → Bool) (k i x y : Nat) (hx : (barK M S k)[i]? = some x) (hy : (barK M S k)[i + 1]? = some y) : x < y := by
  have hp : (barK M S k).Pairwise (· < ·) := List.Pairwise.filter _ (List.pairwise_lt_range)
  obtain ⟨h1, e1⟩ := List.getElem?_eq_some_iff.1 hx
  obtain ⟨h2, e2⟩ := List.getElem?_eq_some_iff.1 hy
  have := List.pairwise_iff_getElem.1 hp i (i + 1) h1 h2 (by omega)
  rw [e1, e2] at this
  exact this

set_option maxHeartbeats 4000000 in
set_option maxRecDepth 100000 in
theorem tp_bar (n : Nat) (l : List (Int × Int)) (ao : Option Addr) (cap : Nat) (w : World) (h : isTw w w.heap.size ao cap l) (hn : n ≤ 60) (hb : plB (n : Int) l = true)
    {r : Nat} {M : Nat → Option Nat} {S : Nat → Bool} {tn : Nat → Tn} {B ρ : Nat → Nat} (hbr : Brr n l r M S tn B ρ) (w1 : World) (v : Value) (hb1 : Below w.heap.size w w1) (hrow : w1.ownsRow w.heap.size 3 1 v (barK M S 60).length (qvals (barK M S 60)))
    (HP : Calls Try.prog 14 #[.int .i64 (n : Int), .slice ao l.length cap] w fun e w' => e = .returned (.tuple #[.slice none 0 0, v, .int .i64 0]) ∧ w' = w1) :
    Calls Try.prog 4 #[.int .i64 (n : Int), .slice ao l.length cap] w fun e w' => e = .returned (.bool true) ∧ Below w.heap.size w w' := by
  obtain ⟨bo, bc, rfl⟩ : ∃ o c, v = .slice o (barK M S 60).length c := by
    rcases hrow.2 with ⟨h1, h2⟩ | ⟨k, c, cur, h1, -⟩
    · exact ⟨none, 0, by rw [h1, h2]⟩
    · exact ⟨_, _, h1⟩
  have HPL : Hid (∀ u, Below w.heap.size w u → Calls Try.prog 15 #[.int .i64 (n : Int), .slice ao l.length cap] u fun e u' => e = .returned (.bool true) ∧ Below u.heap.size u u') := hide (fun u hu => by
    have h1 : isTw u u.heap.size ao cap l := h.keep (fun k hk => hu.block k hk) hu.size
    have := rPlayers_any (n : Int) l ao cap u h1
    rw [hb] at this
    exact this)
  have HOD : Hid (∀ u, Below w1.heap.size w1 u → Calls Try.prog 17 #[.int .i64 (n : Int), .slice ao l.length cap, .slice bo (barK M S 60).length bc] u fun e u' => Below u.heap.size u u' ∧ ∃ odd : Nat, odd ≤ 60 ∧ e = .returned (.int .i64 (odd : Int)) ∧ (barK M S 60).length < odd) := hide (fun u hu => by
    have hu0 : Below w.heap.size w u := hb1.trans (hu.mono hb1.size)
    have h1 : isTw u u.heap.size ao cap l := h.keep (fun k hk => hu0.block k hk) hu0.size
    refine rOdd_any hn hbr ao bo cap bc u w.heap.size h1 ⟨hrow.1, ?_⟩
    rcases hrow.2 with h2 | ⟨q, c, cur, e1, hq, hg, r⟩
    · exact .inl h2
    · exact .inr ⟨q, c, cur, e1, hq, (hu.block q (Array.getElem?_eq_some_iff.1 hg).1).trans hg, r⟩)
  have HROW : Hid (∀ i x : Nat, (barK M S 60)[i]? = some x → ∃ q, bo = some ⟨q, 0, none⟩ ∧ q < w1.heap.size ∧ (barK M S 60).length ≤ bc ∧ bc ≤ 9223372036854775807 ∧ w1.cell? ⟨q, i, none⟩ = some (.int .i64 (x : Int))) := hide (fun i x hi => by
    have hl := (List.getElem?_eq_some_iff.1 hi).1
    rcases hrow.2 with ⟨-, h2⟩ | ⟨q, c, cur, e1, _, hg, h1, h2, _⟩
    · omega
    · unfold maxLen at h2
      injection e1 with e1 e2 e3
      refine ⟨q, e1, (Array.getElem?_eq_some_iff.1 hg).1, by omega, by omega, ?_⟩
      have := hrow.cells (g := q) (by rw [e1]; rfl) i (.int .i64 (x : Int)) (by unfold qvals; rw [List.getElem?_map, hi]; rfl)
      rw [show (⟨q, 0, none⟩ : Addr).add i = ⟨q, i, none⟩ by (simp [Addr.add]; try omega)] at this
      exact this)
  have HLT : Hid (∀ i x : Nat, (barK M S 60)[i]? = some x → x < n) := hide (fun i x hi => by
    have := List.mem_of_getElem? hi
    rw [barK_all hn hbr.ti.mt] at this
    unfold barL at this
    simp only [List.mem_filter, List.mem_range] at this
    exact this.1)
  have HUP : Hid (∀ i x y : Nat, (barK M S 60)[i]? = some x → (barK M S 60)[i + 1]? = some y → x < y) := hide (fun i x y hx hy => barK_up M S 60 i x y hx hy)
  have hn1 : 1 ≤ n := by have := hbr.ti.rn; omega
  have hl60 := barK_le M S 60
  obtain ⟨L, hL⟩ : ∃ L, L = barK M S 60 := ⟨_, rfl⟩
  rw [← hL] at HOD HROW HLT HUP HP hl60
  obtain ⟨N1, hN1⟩ : ∃ N1, N1 = L.length := ⟨_, rfl⟩
  rw [← hN1] at HOD HROW HP hl60
  have HN1 := hide hN1
  have HPP := hide HP
  have HB1 := hide hb1
  have hne : ((0 : Int) == (n : Int)) = false := by simp; omega
  have hni : (n : Int) ≤ 60 := by omega
  have hn0 : (0 : Int) < (n : Int) := by omega
  clear h hb hbr hrow hb1 HP hL hN1
  go_enter Try.func4, Try.ntmps4
  go_wp2_with fail
  refine (unhide HPP).mono ?_
  rintro e w1' ⟨rfl, hw⟩
  subst hw
  have HP1 := hide (unhide HPL w1' (unhide HB1))
  clear HPP HPL
  go_wp2_with fail
  refine (unhide HP1).mono ?_
  rintro e w2 ⟨rfl, hb2⟩
  have HS2 : Hid (Below w1'.heap.size w1' w2) := hide hb2
  clear hb2 HP1
  go_wp2
  go_loopw [109] (fun iv wr => ∃ i : Nat, i ≤ N1 ∧ iv = .int .i64 (i : Int) ∧ Hid (Below w1'.heap.size w1' wr)) (fun iv _ => N1 - (intOf iv).toNat)
  case atStart => exact ⟨0, Nat.zero_le _, rfl, HS2⟩
  case round =>
    obtain ⟨i, hi, rfl, HI⟩ := hrel
    rename World => wr
    clear HS2
    by_cases hil : i < N1
    · have hii : (i : Int) < (N1 : Int) := by omega
      have hi0 : (0 : Int) ≤ (i : Int) := by omega
      obtain ⟨x, hx⟩ : ∃ x, L[i]? = some x := ⟨L[i]'(by rw [← unhide HN1]; exact hil), List.getElem?_eq_getElem _⟩
      obtain ⟨q, rfl, hq, hb1, hb2, hc⟩ := unhide HROW i x hx
      have hxn := unhide HLT i x hx
      have c1 := ((unhide HI).cell (p := ⟨q, i, none⟩) hq).trans hc
      have hx0 : ¬ (x : Int) < 0 := by omega
      have hx1 : ¬ (n : Int) ≤ (x : Int) := by omega
      by_cases hz : i = 0
      · have hz1 : ¬ (0 : Int) < (i : Int) := by omega
        have g1 : decide ((x : Int) < 0) = false := decide_eq_false (by omega)
        have g2 : decide ((n : Int) ≤ (x : Int)) = false := decide_eq_false (by omega)
        have g3 : decide (n ≤ x) = false := decide_eq_false (by omega)
        have g4 : decide ((0 : Int) < (i : Int)) = false := decide_eq_false (by omega)
        have g5 : decide (0 < i) = false := decide_eq_false (by omega)
        have HBQ : Hid (∀ k, Below w1'.heap.size w1' (wr.drewN k)) := hide (fun k => below_drewN (unhide HI) k)
        clear hx hc hz HI
        go_wp2_with fail
        go_quiet (fail)
        go_wp2
        go_roundw
        case rel => exact ⟨i + 1, by omega, by go_num, hide (unhide HBQ _)⟩
        case measure => simp only [intOf]; omega
      · obtain ⟨i1, hi1⟩ : ∃ i1, i = i1 + 1 := ⟨i - 1, by omega⟩
        obtain ⟨y, hy⟩ : ∃ y, L[i1]? = some y := ⟨L[i1]'(by rw [← unhide HN1]; omega), List.getElem?_eq_getElem _⟩
        have hxy := unhide HUP i1 y x hy (by rw [← hi1]; exact hx)
        obtain ⟨q', hq', hqq, -, -, hc'⟩ := unhide HROW i1 y hy
        have hqe : q' = q := by injection hq' with e; injection e with e1; exact e1.symm
        subst hqe
        have c2 := ((unhide HI).cell (p := ⟨q', i1, none⟩) hqq).trans hc'
        have hz1 : (0 : Int) < (i : Int) := by omega
        have hd1 : (i : Int) - 1 = (i1 : Int) := by omega
        have hd2 : IntKind.i64.wrap (i1 : Int) = (i1 : Int) := wrapZ (by omega)
        have hd3 : (0 : Int) ≤ (i1 : Int) := by omega
        have hd4 : (i1 : Int) < (N1 : Int) := by omega
        have hxy1 : ¬ (x : Int) ≤ (y : Int) := by omega
        have g1 : decide ((x : Int) < 0) = false := decide_eq_false (by omega)
        have g2 : decide ((n : Int) ≤ (x : Int)) = false := decide_eq_false (by omega)
        have g3 : decide (n ≤ x) = false := decide_eq_false (by omega)
        have g4 : decide ((0 : Int) < (i : Int)) = true := decide_eq_true (by omega)
        have g5 : decide (0 < i) = true := decide_eq_true (by omega)
        have g6 : decide ((x : Int) ≤ (y : Int)) = false := decide_eq_false (by omega)
        have g7 : decide (x ≤ y) = false := decide_eq_false (by omega)
        have HBQ : Hid (∀ k, Below w1'.heap.size w1' (wr.drewN k)) := hide (fun k => below_drewN (unhide HI) k)
        have HI1 := hide hi1
        clear hx hc hz HI hy hc' hi1 hq' hxy
        go_wp2_with fail
        go_quiet (fail)
        go_wp2
        go_roundw
        case rel => exact ⟨i + 1, by omega, by go_num, hide (unhide HBQ _)⟩
        case measure => simp only [intOf]; omega
    · obtain rfl : N1 = i := by omega
      have hii : ¬ (N1 : Int) < (N1 : Int) := by omega
      have HO := hide (unhide HOD wr (unhide HI))
      clear HOD HROW
      go_wp2_with fail
      refine (unhide HO).mono ?_
      rintro e w3 ⟨hb3, odd, ho1, rfl, ho2⟩
      have HE : Hid (Below w.heap.size w w3) := hide ((unhide HB1).trans (((unhide HI).trans (hb3.mono (unhide HI).size)).mono (unhide HB1).size))
      have hgt : (N1 : Int) < (odd : Int) := by omega
      clear hb3 HO
      go_wp2
      go_ret
      exact ⟨rfl, unhide HE⟩
end Go.Proofs.Ytppkejblhkbkjaa
