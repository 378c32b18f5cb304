/-
  package record, walked: the reader's text.
-/
import Derived.Test.YtdibjdpnleepmacDoorN8
import Derived.Lib.QuoteLoop
namespace Go.Proofs.YtdibjdpnleepmacDoor
open Go.RowKit
attribute [local go_sem ↓] Go.wp_at_zero Go.wp_at_succ

/-- A rune at hand is one byte at least, and no more than there are. -/
theorem pk_width (s : ByteArray) (h0 : pkR s ≠ -1) : 1 ≤ (Lib.decodeGo s).2 ∧ (Lib.decodeGo s).2 ≤ s.size := by
  by_cases hz : s.size = 0
  · exfalso
    apply h0
    unfold pkR Lib.decodeGo
    simp [hz]
  · have hp : 0 < s.size := Nat.pos_of_ne_zero hz
    unfold Lib.decodeGo
    rw [if_neg hz]
    exact ⟨Lib.width_pos s 0, Lib.width_le s hp⟩
/-- Runes that fit, no more than most (false: one more stands there). -/
def Re.run (fits : Int → Bool) (most : Nat) : Nat → Nat → Re → Re × Bool
  | 0, _, x => (x, true)
  | f + 1, n, x => if fits (pkR x.rest) then (if n = most then (x, false) else Re.run fits most f (n + 1) x.on) else (x, true)
structure TextEnd (g : Nat) (x : Re) (r : Re × Bool) (w : World) (e : Ending) (w' : World) : Prop where
  ex : (r.2 = true ∧ e = .returned (.string (x.rest.extract 0 (x.rest.size - r.1.rest.size))) ∧ isRe w' g r.1 ∧ r.1.rest.size ≤ x.rest.size ∧ 0 ≤ r.1.at_ ∧ r.1.at_ + (r.1.rest.size : Int) ≤ x.at_ + (x.rest.size : Int)) ∨ (r.2 = false ∧ e = fltP r.1.at_)
  bu : Bu g w w'

set_option maxHeartbeats 2000000 in
set_option maxRecDepth 100000 in
theorem rtext_any (fits : Int → Bool) (F : FuncId) (most g : Nat) (x : Re) (w : World) (h : isRe w g x) (h2 : 2 ≤ g) (hT : Lib.Utf8Tabs 0 1 w) (ha : 0 ≤ x.at_ ∧ x.at_ + (x.rest.size : Int) ≤ 4000000) (hmost : most ≤ 1000)
    (hE : ∀ args (u : World), (callFunc F args).run Tryd.prog u = .ok (.enter F args) u)
    (hF : ∀ (c : Int) (u : World), Calls Tryd.prog F #[.int .i32 c] u fun e u' => e = .returned (.bool (fits c)) ∧ u' = u) (hf1 : fits (-1) = false) :
    Calls Tryd.prog 40 #[.pointer (some ⟨g, 0, none⟩), .int .i64 (most : Int), .func (.func F) #[] #[]] w fun e w' => TextEnd g x (Re.run fits most (x.rest.size + 1) 0 x) w e w' := by
  obtain ⟨Y, hY⟩ : ∃ Y, Y = Re.run fits most (x.rest.size + 1) 0 x := ⟨_, rfl⟩
  rw [← hY]
  have HY := hide hY
  have HT := hide hT
  have HX := hide h
  have HF := hide hF
  have hglt := h.lt
  obtain ⟨c0, -⟩ := h.cells
  obtain ⟨S, hS⟩ : ∃ S, S = x.rest := ⟨_, rfl⟩
  rw [← hS] at c0
  have hSs : S.size ≤ 4000000 := by rw [hS]; omega
  have HS := hide hS
  clear hY hT h hF hS
  go_enter Tryd.func40, Tryd.ntmps40
  go_wp2
  clear c0
  go_loopw [8] (fun nv wr => ∃ (f n : Nat) (y : Re), nv = .int .i64 (n : Int) ∧ isRe wr g y ∧ Hid (Y = Re.run fits most f n y) ∧ y.rest.size < f ∧ n ≤ most ∧ Bu g w wr ∧ 0 ≤ y.at_ ∧ y.at_ + (y.rest.size : Int) ≤ x.at_ + (x.rest.size : Int) ∧ y.rest.size ≤ x.rest.size) (fun _ wr => restSize wr g)
  case atStart => exact ⟨x.rest.size + 1, 0, x, rfl, unhide HX, HY, by omega, by omega, Bu.refl _ _, ha.1, Int.le_refl _, Nat.le_refl _⟩
  case round =>
    obtain ⟨f, n, y, rfl, hy, HYY, hf, hn, hbu, ha0, ha1, hys⟩ := hrel
    clear HX HY
    obtain ⟨f, rfl⟩ : ∃ f', f = f' + 1 := ⟨f - 1, by omega⟩
    have hgr := hy.lt
    have htr : Lib.Utf8Tabs 0 1 wr := Utf8Tabs_bu (unhide HT) hbu hglt h2
    have hst := unhide HYY
    rw [Re.run] at hst
    have hpk := peek_any g y wr hy htr
    obtain ⟨P, hP⟩ : ∃ P, P = pkR y.rest := ⟨_, rfl⟩
    rw [← hP] at hpk hst
    have HPK := hide hpk
    have HYR := hide hy
    have HTR := hide htr
    have HBU := hide hbu
    have HMS := hide hy.rest
    have HST := hide hst
    have HP := hide hP
    clear hpk hy htr hbu hst hP HYY
    go_wp2_with fail
    refine (unhide HPK).mono ?_
    rintro e w2 ⟨rfl, hb2⟩
    have hy2 := (unhide HYR).below hb2 hgr
    have HB2 : Hid (Bu g w w2) := hide ((unhide HBU).trans (Bu.of hb2))
    have ht2 := Utf8Tabs_below (unhide HTR) hb2
    have HY2 := hide hy2
    have HT2 := hide ht2
    clear hb2 hy2 ht2
    go_wp2_with fail
    refine (unhide HF _ _).mono ?_
    rintro e w3 ⟨rfl, rfl⟩
    cases hfit : fits P with
    | false =>
      have hYe : Y = (y, true) := by rw [unhide HST, hfit]; rfl
      have HYE := hide hYe
      obtain ⟨d0, -⟩ := (unhide HY2).cells
      obtain ⟨T, hTt⟩ : ∃ T, T = y.rest := ⟨_, rfl⟩
      rw [← hTt] at d0
      have hsz : T.size ≤ S.size := by rw [hTt, unhide HS]; exact hys
      have hdi : (S.size : Int) - (T.size : Int) = ((S.size - T.size : Nat) : Int) := by omega
      have HTT := hide hTt
      obtain ⟨D, hD⟩ : ∃ D, D = S.size - T.size := ⟨_, rfl⟩
      rw [← hD] at hdi
      have hDl : D ≤ S.size := by omega
      have hDb : D ≤ 4000000 := by omega
      have hDi : (D : Int) ≤ (S.size : Int) := by omega
      have HDD := hide hD
      clear hYe hfit hTt hD
      go_wp2
      go_ret
      rw [unhide HYE]
      refine ⟨Or.inl ⟨rfl, ?_, unhide HY2, hys, ha0, ha1⟩, unhide HB2⟩
      simp only [← unhide HS, ← unhide HTT, ← unhide HDD]
      rfl
    | true =>
      have hp1 : pkR y.rest ≠ -1 := by
        rw [← unhide HP]
        intro e
        rw [e, hf1] at hfit
        cases hfit
      obtain ⟨k1, k2⟩ := pk_width y.rest hp1
      by_cases hnm : n = most
      · have hYe : Y = (y, false) := by rw [unhide HST, hfit, if_pos rfl, if_pos hnm]
        have HYE := hide hYe
        have HFA := hide (fail_any g y _ (unhide HY2))
        have hnb : ((n : Int) == (most : Int)) = true := by simp; omega
        have hnb' : (n == most) = true := by simp; omega
        clear hYe hfit hnm
        go_wp2_with fail
        refine (unhide HFA).mono ?_
        rintro e w4 ⟨rfl, rfl⟩
        go_wp2
        simp only [bodyPost, true_and]
        rw [unhide HYE]
        exact ⟨Or.inr ⟨rfl, rfl⟩, unhide HB2⟩
      · have hYn : Y = Re.run fits most f (n + 1) y.on := by rw [unhide HST, hfit, if_pos rfl, if_neg hnm]
        have HYN := hide hYn
        have hos := on_size y
        have hoa : y.on.at_ = y.at_ + 1 := rfl
        have HSTP := hide (step_any g y _ (unhide HY2) (unhide HT2) k2 ⟨by omega, by omega⟩)
        have hnb : ((n : Int) == (most : Int)) = false := by simp; omega
        have hnb' : (n == most) = false := by simp; omega
        clear hYn hfit
        go_wp2_with fail
        refine (unhide HSTP).mono ?_
        rintro e w4 ⟨rfl, hr4, hb4⟩
        have hb5 := (unhide HB2).trans hb4
        clear hb4
        go_wp2
        go_roundw
        case rel => exact ⟨f, n + 1, y.on, by go_num, hr4, HYN, by omega, by omega, hb5, by omega, by omega, by omega⟩
        case measure => rw [hr4.rest, unhide HMS]; omega
end Go.Proofs.YtdibjdpnleepmacDoor
