/-
  gamekeep.TourneyPairs, walked whole.
-/
import Derived.Test.YtppkejblhkbkjaaZ30
namespace Go.Proofs.Ytppkejblhkbkjaa
open Go.RowKit Tu
attribute [local go_sem ↓] Go.wp_at_zero Go.wp_at_succ

set_option maxHeartbeats 4000000 in
set_option maxRecDepth 100000 in
theorem tp_yes (n : Nat) (l : List (Int × Int)) (ao : Option Addr) (cap : Nat) (w : World) (h : isTw w w.heap.size ao cap l) (hb : plB (n : Int) l = true) :
    Calls Try.prog 4 #[.int .i64 (n : Int), .slice ao l.length cap] w fun e w' => e = .returned (.bool true) ∧ Below w.heap.size w w' := by
  have hfl : fldB (n : Int) = true ∧ l.all (okTw (n : Int)) = true := by unfold plB at hb; simpa using hb
  have hn : n ≤ 60 := by have := hfl.1; unfold fldB at this; simp at this; omega
  have HPP := hide (Pair_yes n l ao cap w h hfl.1 hfl.2)
  have HTW := hide h
  have HPB := hide hb
  clear h hb hfl
  go_enter Try.func4, Try.ntmps4
  go_wp2_with fail
  refine (unhide HPP).mono ?_
  rintro e w1 ⟨hb1, hcase⟩
  clear HPP
  have h := unhide HTW
  have hb := unhide HPB
  clear HTW HPB
  rcases hcase with ⟨M, v, hp, rfl, hrow⟩ | ⟨r, M, S, tn, B, ρ, v, hbr, rfl, hrow⟩
  · obtain ⟨po, pc, rfl⟩ : ∃ o c, v = .slice o (prK M n).length c := by
      rcases hrow.2 with ⟨h1, h2⟩ | ⟨k, c, cur, h1, -⟩
      · exact ⟨none, 0, by rw [h1, h2]⟩
      · exact ⟨_, _, h1⟩
    have HPL : Hid (∀ u, Below w.heap.size w u → Calls Try.prog 15 #[.int .i64 (n : Int), .slice ao l.length cap] u fun e u' => e = .returned (.bool true) ∧ Below u.heap.size u u') := hide (fun u hu => by
      have h1 : isTw u u.heap.size ao cap l := h.keep (fun k hk => hu.block k hk) hu.size
      have := rPlayers_any (n : Int) l ao cap u h1
      rw [hb] at this
      exact this)
    have HBA : Hid (∀ (i x y : Nat), (prK M n)[i]? = some (x, y) → ∀ u, Below w1.heap.size w1 u → Calls Try.prog 16 #[.slice ao l.length cap, .int .i64 (x : Int), .int .i64 (y : Int)] u fun e u' => e = .returned (.bool false) ∧ u' = u) := hide (fun i x y hi u hu => by
      have hu0 : Below w.heap.size w u := hb1.trans (hu.mono hb1.size)
      have h1 : isTw u w.heap.size ao cap l := h.keep (fun k hk => hu0.block k hk) (Nat.le_refl _)
      have := rBarred_any l ao cap (x : Int) (y : Int) u w.heap.size h1
      have hok := (prK_at hp.mt hi).2.2.2.1
      unfold okP barM at hok
      unfold brB at this
      simp only [Bool.and_eq_true, Bool.not_eq_true'] at hok
      rw [hok.2] at this
      exact this)
    have HROW : Hid (∀ i x y : Nat, (prK M n)[i]? = some (x, y) → ∃ q, po = some ⟨q, 0, none⟩ ∧ q < w1.heap.size ∧ (prK M n).length ≤ pc ∧ pc ≤ 9223372036854775807 ∧ w1.cell? ⟨q, i * 2, none⟩ = some (.int .i64 (x : Int)) ∧ w1.cell? ⟨q, i * 2 + 1, none⟩ = some (.int .i64 (y : Int))) := hide (fun i x y hi => by
      have hl := (List.getElem?_eq_some_iff.1 hi).1
      rcases hrow.2 with ⟨-, h2⟩ | ⟨q, c, cur, e1, _, hg, h1, h2, _⟩
      · omega
      · unfold maxLen at h2
        injection e1 with e1 e2 e3
        obtain ⟨p1, p2⟩ := pvals_at _ i x y hi
        refine ⟨q, e1, (Array.getElem?_eq_some_iff.1 hg).1, by omega, by omega, ?_, ?_⟩
        · have := hrow.cells (g := q) (by rw [e1]; rfl) (i * 2) _ p1
          rw [show (⟨q, 0, none⟩ : Addr).add (i * 2) = ⟨q, i * 2, none⟩ by (simp [Addr.add]; try omega)] at this
          exact this
        · have := hrow.cells (g := q) (by rw [e1]; rfl) (i * 2 + 1) _ p2
          rw [show (⟨q, 0, none⟩ : Addr).add (i * 2 + 1) = ⟨q, i * 2 + 1, none⟩ by (simp [Addr.add]; try omega)] at this
          exact this)
    have HAT : Hid (∀ i x y : Nat, (prK M n)[i]? = some (x, y) → x < n ∧ y < n ∧ x < y ∧ seenP (prK M n) i x = 0 ∧ seenP (prK M n) i y = 0 ∧ updT (updT (seenP (prK M n) i) x 1) y 1 = seenP (prK M n) (i + 1)) := hide (fun i x y hi => by
      obtain ⟨h1, h2, h3, -, h5, h6, h7⟩ := prK_at hp.mt hi
      exact ⟨h1, h2, h3, seenP_no h5, seenP_no h6, seenP_next h7⟩)
    have HUP : Hid (∀ i x y x' y' : Nat, (prK M n)[i]? = some (x, y) → (prK M n)[i + 1]? = some (x', y') → x < x') := hide (fun i x y x' y' hx hy => prK_up M n i hx hy)
    have hhalf := prs_half hp
    obtain ⟨L, hL⟩ : ∃ L, L = prK M n := ⟨_, rfl⟩
    rw [← hL] at HBA HROW HAT HUP hhalf ⊢
    obtain ⟨N1, hN1⟩ : ∃ N1, N1 = L.length := ⟨_, rfl⟩
    rw [← hN1] at HROW hhalf ⊢
    have HN1 := hide hN1
    have HB1 := hide hb1
    have hmk := made_n n (by omega)
    have h2n : 2 * (N1 : Int) = (n : Int) := by omega
    have hnr : IntKind.i64.wrap (n : Int) = (n : Int) := wrapZ (by omega)
    have heq : ((n : Int) == (n : Int)) = true := by simp
    have hni : (n : Int) ≤ 60 := by omega
    have hn0 : (0 : Int) ≤ (n : Int) := by omega
    have hNN : (N1 : Int) ≤ 60 := by omega
    have hhalf' := hide hhalf
    clear h hb hp hrow hb1 hL hN1 hhalf
    have HP1 := hide (unhide HPL w1 (unhide HB1))
    clear HPL
    go_wp2_with fail
    refine (unhide HP1).mono ?_
    rintro e w2 ⟨rfl, hb2⟩
    obtain ⟨gb, hgb⟩ : ∃ gb, gb = w2.heap.size := ⟨_, rfl⟩
    obtain ⟨W3, hW3⟩ : ∃ W3, W3 = w2.alloc (.cells (Array.replicate n (Value.int .i64 0)) 3 (0, 0)) := ⟨_, rfl⟩
    have HST : Hid (isGr W3 gb n (seenP L 0) ∧ Below w1.heap.size w1 W3 ∧ w1.heap.size ≤ gb) := hide (by
      refine ⟨?_, ?_, by rw [hgb]; exact hb2.size⟩
      · have := gr_new w2 W3 n hW3
        rw [hgb]
        have e : seenP L 0 = fun _ => 0 := by funext x; simp [seenP]
        rw [e]; exact this
      · rw [hW3]
        exact hb2.alloc hb2.size _)
    have HGB := hide hgb
    have HW3 := hide hW3
    have hmk2 := hmk w2
    clear hb2 HP1 hgb hW3 hmk
    go_upto_region 8 with fail
    rw [← unhide HW3, ← unhide HGB]
    clear HW3 hmk2
    go_wp2
    go_loopw [9, 53] (fun lv iv wr => ∃ (i : Nat) (z : Int), i ≤ N1 ∧ iv = .int .i64 (i : Int) ∧ lv = .int .i64 z ∧ Hid (∀ x y : Nat, L[i]? = some (x, y) → z < (x : Int)) ∧ Hid (isGr wr gb n (seenP L i) ∧ Below w1.heap.size w1 wr ∧ w1.heap.size ≤ gb)) (fun _ iv _ => N1 - (intOf iv).toNat)
    case atStart => exact ⟨0, -1, Nat.zero_le _, rfl, rfl, hide (fun x y _ => by omega), HST⟩
    case round =>
      obtain ⟨i, z, hi, rfl, rfl, HZ, HI⟩ := hrel
      rename World => wr
      clear HST
      by_cases hil : i < N1
      · have hii : (i : Int) < (N1 : Int) := by omega
        have hi0 : (0 : Int) ≤ (i : Int) := by omega
        obtain ⟨⟨x, y⟩, hx⟩ : ∃ p, L[i]? = some p := ⟨L[i]'(by rw [← unhide HN1]; exact hil), List.getElem?_eq_getElem _⟩
        obtain ⟨hxn, hyn, hxy, hsx, hsy, hnx⟩ := unhide HAT i x y hx
        obtain ⟨q, rfl, hq, hb1, hb2, hc, hd⟩ := unhide HROW i x y hx
        have c1 := ((unhide HI).2.1.cell (p := ⟨q, i * 2, none⟩) hq).trans hc
        have c2 := ((unhide HI).2.1.cell (p := ⟨q, i * 2 + 1, none⟩) hq).trans hd
        have hzx := unhide HZ x y hx
        have hxi : (x : Int) < (n : Int) := by omega
        have hx0 : (0 : Int) ≤ (x : Int) := by omega
        have hyi : (y : Int) < (n : Int) := by omega
        have hy0 : (0 : Int) ≤ (y : Int) := by omega
        have k1 : ¬ (x : Int) ≤ z := by omega
        have k2 : ¬ (y : Int) ≤ (x : Int) := by omega
        have k3 : ¬ (n : Int) ≤ (y : Int) := by omega
        have HK : Hid (∀ k, isGr (wr.drewN k) gb n (seenP L i) ∧ Below w1.heap.size w1 (wr.drewN k) ∧ w1.heap.size ≤ gb) := hide (fun k => ⟨(unhide HI).1.keep (by rfl), below_drewN (unhide HI).2.1 k, (unhide HI).2.2⟩)
        have HBX := hide (unhide HBA i x y hx)
        have HNX := hide hnx
        have HZN : Hid (∀ x' y' : Nat, L[i + 1]? = some (x', y') → (x : Int) < (x' : Int)) := hide (fun x' y' h => by have := unhide HUP i x y x' y' hx h; omega)
        clear hx hc hd HI HZ hnx hxy hzx
        go_wp2_with fail
        go_quiet (fail)
        go_wp2_with fail
        refine (unhide HBX _ (unhide HK _).2.1).mono ?_
        rintro e w4 ⟨rfl, hw4⟩
        have HK4 : Hid (isGr w4 gb n (seenP L i) ∧ Below w1.heap.size w1 w4 ∧ w1.heap.size ≤ gb) := hide (by rw [hw4]; exact unhide HK _)
        clear hw4 HK HBX c1 c2
        have c3 := (unhide HK4).1.at_ x hxn
        have c4 := (unhide HK4).1.at_ y hyn
        have f3 := (unhide HK4).1.fz x
        have f4 := (unhide HK4).1.fz y
        rw [hsx] at c3
        rw [hsy] at c4
        obtain ⟨w5, hw5⟩ : ∃ w5, w5 = w4.setCell ⟨gb, x, none⟩ (.int .i64 1) := ⟨_, rfl⟩
        have hg5 : Gb gb w4 w5 := by rw [hw5]; exact Gb.set _ _
        have hr5 : isGr w5 gb n (updT (seenP L i) x 1) := by rw [hw5]; exact (unhide HK4).1.put hxn 1
        have c5 : w5.cell? ⟨gb, y, none⟩ = some (.int .i64 0) := by
          have := hr5.at_ y hyn
          rw [updT_other _ _ (by omega), hsy] at this
          exact this
        have f5 := hr5.fz y
        have HN : Hid (isGr (w5.setCell ⟨gb, y, none⟩ (.int .i64 1)) gb n (seenP L (i + 1)) ∧ Below w1.heap.size w1 (w5.setCell ⟨gb, y, none⟩ (.int .i64 1)) ∧ w1.heap.size ≤ gb) := hide (by
          have hg6 : Gb gb w5 (w5.setCell ⟨gb, y, none⟩ (.int .i64 1)) := Gb.set _ _
          have hbs := (unhide HK4).2.2
          have hs4 : w1.heap.size ≤ w4.heap.size := (unhide HK4).2.1.size
          have hs5 : w4.heap.size ≤ w5.heap.size := hg5.size
          have b5 : Below w1.heap.size w4 w5 := ⟨hg5.os, hg5.tape, hg5.output, hg5.size, fun k hk => hg5.block (by omega) (by omega)⟩
          have b6 : Below w1.heap.size w5 (w5.setCell ⟨gb, y, none⟩ (.int .i64 1)) := ⟨hg6.os, hg6.tape, hg6.output, hg6.size, fun k hk => hg6.block (by omega) (by omega)⟩
          exact ⟨by rw [← unhide HNX]; exact hr5.put hyn 1, ((unhide HK4).2.1.trans b5).trans b6, hbs⟩)
        have HW5 := hide hw5
        clear hg5 hr5 hw5 hsx hsy HNX
        go_wp2_with fail
        rw [← unhide HW5]
        clear HW5
        go_wp2
        go_roundw
        case rel => exact ⟨i + 1, (x : Int), by omega, by go_num, rfl, HZN, HN⟩
        case measure => simp only [intOf]; omega
      · obtain rfl : N1 = i := by omega
        have hii : ¬ (N1 : Int) < (N1 : Int) := by omega
        have HE : Hid (Below w.heap.size w wr) := hide ((unhide HB1).trans ((unhide HI).2.1.mono (unhide HB1).size))
        clear HI HROW HZ
        go_wp2
        go_ret
        exact ⟨rfl, unhide HE⟩
  · obtain ⟨bo, bc, rfl⟩ : ∃ o c, v = .slice o (barK M S 60).length c := by
      rcases hrow.2 with ⟨h1, h2⟩ | ⟨k, c, cur, h1, -⟩
      · exact ⟨none, 0, by rw [h1, h2]⟩
      · exact ⟨_, _, h1⟩
    have HPL : Hid (∀ u, Below w.heap.size w u → Calls Try.prog 15 #[.int .i64 (n : Int), .slice ao l.length cap] u fun e u' => e = .returned (.bool true) ∧ Below u.heap.size u u') := hide (fun u hu => by
      have h1 : isTw u u.heap.size ao cap l := h.keep (fun k hk => hu.block k hk) hu.size
      have := rPlayers_any (n : Int) l ao cap u h1
      rw [hb] at this
      exact this)
    have HOD : Hid (∀ u, Below w1.heap.size w1 u → Calls Try.prog 17 #[.int .i64 (n : Int), .slice ao l.length cap, .slice bo (barK M S 60).length bc] u fun e u' => Below u.heap.size u u' ∧ ∃ odd : Nat, odd ≤ 60 ∧ e = .returned (.int .i64 (odd : Int)) ∧ (barK M S 60).length < odd) := hide (fun u hu => by
      have hu0 : Below w.heap.size w u := hb1.trans (hu.mono hb1.size)
      have h1 : isTw u u.heap.size ao cap l := h.keep (fun k hk => hu0.block k hk) hu0.size
      refine rOdd_any hn hbr ao bo cap bc u w.heap.size h1 ⟨hrow.1, ?_⟩
      rcases hrow.2 with h2 | ⟨q, c, cur, e1, hq, hg, r⟩
      · exact .inl h2
      · exact .inr ⟨q, c, cur, e1, hq, (hu.block q (Array.getElem?_eq_some_iff.1 hg).1).trans hg, r⟩)
    have HROW : Hid (∀ i x : Nat, (barK M S 60)[i]? = some x → ∃ q, bo = some ⟨q, 0, none⟩ ∧ q < w1.heap.size ∧ (barK M S 60).length ≤ bc ∧ bc ≤ 9223372036854775807 ∧ w1.cell? ⟨q, i, none⟩ = some (.int .i64 (x : Int))) := hide (fun i x hi => by
      have hl := (List.getElem?_eq_some_iff.1 hi).1
      rcases hrow.2 with ⟨-, h2⟩ | ⟨q, c, cur, e1, _, hg, h1, h2, _⟩
      · omega
      · unfold maxLen at h2
        injection e1 with e1 e2 e3
        refine ⟨q, e1, (Array.getElem?_eq_some_iff.1 hg).1, by omega, by omega, ?_⟩
        have := hrow.cells (g := q) (by rw [e1]; rfl) i (.int .i64 (x : Int)) (by unfold qvals; rw [List.getElem?_map, hi]; rfl)
        rw [show (⟨q, 0, none⟩ : Addr).add i = ⟨q, i, none⟩ by (simp [Addr.add]; try omega)] at this
        exact this)
    have HLT : Hid (∀ i x : Nat, (barK M S 60)[i]? = some x → x < n) := hide (fun i x hi => by
      have := List.mem_of_getElem? hi
      rw [barK_all hn hbr.ti.mt] at this
      unfold barL at this
      simp only [List.mem_filter, List.mem_range] at this
      exact this.1)
    have HUP : Hid (∀ i x y : Nat, (barK M S 60)[i]? = some x → (barK M S 60)[i + 1]? = some y → x < y) := hide (fun i x y hx hy => barK_up M S 60 i x y hx hy)
    have hn1 : 1 ≤ n := by have := hbr.ti.rn; omega
    have hl60 := barK_le M S 60
    obtain ⟨L, hL⟩ : ∃ L, L = barK M S 60 := ⟨_, rfl⟩
    rw [← hL] at HOD HROW HLT HUP hl60 ⊢
    obtain ⟨N1, hN1⟩ : ∃ N1, N1 = L.length := ⟨_, rfl⟩
    rw [← hN1] at HOD HROW hl60 ⊢
    have HN1 := hide hN1
    have HB1 := hide hb1
    have hne : ((0 : Int) == (n : Int)) = false := by simp; omega
    have hni : (n : Int) ≤ 60 := by omega
    have hn0 : (0 : Int) < (n : Int) := by omega
    clear h hb hbr hrow hb1 hL hN1
    have HP1 := hide (unhide HPL w1 (unhide HB1))
    clear HPL
    go_wp2_with fail
    refine (unhide HP1).mono ?_
    rintro e w2 ⟨rfl, hb2⟩
    have HS2 : Hid (Below w1.heap.size w1 w2) := hide hb2
    clear hb2 HP1
    go_wp2
    go_loopw [109] (fun iv wr => ∃ i : Nat, i ≤ N1 ∧ iv = .int .i64 (i : Int) ∧ Hid (Below w1.heap.size w1 wr)) (fun iv _ => N1 - (intOf iv).toNat)
    case atStart => exact ⟨0, Nat.zero_le _, rfl, HS2⟩
    case round =>
      obtain ⟨i, hi, rfl, HI⟩ := hrel
      rename World => wr
      clear HS2
      by_cases hil : i < N1
      · have hii : (i : Int) < (N1 : Int) := by omega
        have hi0 : (0 : Int) ≤ (i : Int) := by omega
        obtain ⟨x, hx⟩ : ∃ x, L[i]? = some x := ⟨L[i]'(by rw [← unhide HN1]; exact hil), List.getElem?_eq_getElem _⟩
        obtain ⟨q, rfl, hq, hb1, hb2, hc⟩ := unhide HROW i x hx
        have hxn := unhide HLT i x hx
        have c1 := ((unhide HI).cell (p := ⟨q, i, none⟩) hq).trans hc
        have hx0 : ¬ (x : Int) < 0 := by omega
        have hx1 : ¬ (n : Int) ≤ (x : Int) := by omega
        by_cases hz : i = 0
        · have hz1 : ¬ (0 : Int) < (i : Int) := by omega
          have g1 : decide ((x : Int) < 0) = false := decide_eq_false (by omega)
          have g2 : decide ((n : Int) ≤ (x : Int)) = false := decide_eq_false (by omega)
          have g3 : decide (n ≤ x) = false := decide_eq_false (by omega)
          have g4 : decide ((0 : Int) < (i : Int)) = false := decide_eq_false (by omega)
          have g5 : decide (0 < i) = false := decide_eq_false (by omega)
          have HBQ : Hid (∀ k, Below w1.heap.size w1 (wr.drewN k)) := hide (fun k => below_drewN (unhide HI) k)
          clear hx hc hz HI
          go_wp2_with fail
          go_quiet (fail)
          go_wp2
          go_roundw
          case rel => exact ⟨i + 1, by omega, by go_num, hide (unhide HBQ _)⟩
          case measure => simp only [intOf]; omega
        · obtain ⟨i1, hi1⟩ : ∃ i1, i = i1 + 1 := ⟨i - 1, by omega⟩
          obtain ⟨y, hy⟩ : ∃ y, L[i1]? = some y := ⟨L[i1]'(by rw [← unhide HN1]; omega), List.getElem?_eq_getElem _⟩
          have hxy := unhide HUP i1 y x hy (by rw [← hi1]; exact hx)
          obtain ⟨q', hq', hqq, -, -, hc'⟩ := unhide HROW i1 y hy
          have hqe : q' = q := by injection hq' with e; injection e with e1; exact e1.symm
          subst hqe
          have c2 := ((unhide HI).cell (p := ⟨q', i1, none⟩) hqq).trans hc'
          have hz1 : (0 : Int) < (i : Int) := by omega
          have hd1 : (i : Int) - 1 = (i1 : Int) := by omega
          have hd2 : IntKind.i64.wrap (i1 : Int) = (i1 : Int) := wrapZ (by omega)
          have hd3 : (0 : Int) ≤ (i1 : Int) := by omega
          have hd4 : (i1 : Int) < (N1 : Int) := by omega
          have hxy1 : ¬ (x : Int) ≤ (y : Int) := by omega
          have g1 : decide ((x : Int) < 0) = false := decide_eq_false (by omega)
          have g2 : decide ((n : Int) ≤ (x : Int)) = false := decide_eq_false (by omega)
          have g3 : decide (n ≤ x) = false := decide_eq_false (by omega)
          have g4 : decide ((0 : Int) < (i : Int)) = true := decide_eq_true (by omega)
          have g5 : decide (0 < i) = true := decide_eq_true (by omega)
          have g6 : decide ((x : Int) ≤ (y : Int)) = false := decide_eq_false (by omega)
          have g7 : decide (x ≤ y) = false := decide_eq_false (by omega)
          have HBQ : Hid (∀ k, Below w1.heap.size w1 (wr.drewN k)) := hide (fun k => below_drewN (unhide HI) k)
          have HI1 := hide hi1
          clear hx hc hz HI hy hc' hi1 hq' hxy
          go_wp2_with fail
          go_quiet (fail)
          go_wp2
          go_roundw
          case rel => exact ⟨i + 1, by omega, by go_num, hide (unhide HBQ _)⟩
          case measure => simp only [intOf]; omega
      · obtain rfl : N1 = i := by omega
        have hii : ¬ (N1 : Int) < (N1 : Int) := by omega
        have HO := hide (unhide HOD wr (unhide HI))
        clear HOD HROW
        go_wp2_with fail
        refine (unhide HO).mono ?_
        rintro e w3 ⟨hb3, odd, ho1, rfl, ho2⟩
        have HE : Hid (Below w.heap.size w w3) := hide ((unhide HB1).trans (((unhide HI).trans (hb3.mono (unhide HI).size)).mono (unhide HB1).size))
        have hgt : (N1 : Int) < (odd : Int) := by omega
        clear hb3 HO
        go_wp2
        go_ret
        exact ⟨rfl, unhide HE⟩

theorem tourneyPairs_any (n : Int) (l : List (Int × Int)) (ao : Option Addr) (cap : Nat) (w : World) (h : isTw w w.heap.size ao cap l) :
    Calls Try.prog 4 #[.int .i64 n, .slice ao l.length cap] w fun e w' => e = .returned (.bool true) ∧ Below w.heap.size w w' := by
  cases hb : plB n l with
  | false => exact tp_no n l ao cap w h hb
  | true =>
    have h0 : 0 ≤ n := by unfold plB fldB at hb; simp at hb; omega
    obtain ⟨m, rfl⟩ := Int.eq_ofNat_of_zero_le h0
    exact tp_yes m l ao cap w h hb
end Go.Proofs.Ytppkejblhkbkjaa
