/-
  package record, walked: the reader's blanks, take.
-/
import Derived.Test.YtdibjdpnleepmacDoorN6
namespace Go.Proofs.YtdibjdpnleepmacDoor
open Go.RowKit
attribute [local go_sem ↓] Go.wp_at_zero Go.wp_at_succ

theorem Utf8Tabs_bu {g : Nat} {w w' : World} (h : Lib.Utf8Tabs 0 1 w) (hb : Bu g w w') (hg : g < w.heap.size) (h2 : 2 ≤ g) : Lib.Utf8Tabs 0 1 w' :=
  ⟨fun c hc => ((hb.low hg).cell (p := ⟨0, c, none⟩) (by simp only; omega)).trans (h.1 c hc), fun i hi => ⟨((hb.low hg).cell (p := ⟨1, 2 * i, none⟩) (by simp only; omega)).trans (h.2 i hi).1, ((hb.low hg).cell (p := ⟨1, 2 * i + 1, none⟩) (by simp only; omega)).trans (h.2 i hi).2⟩⟩
/-- An ASCII rune at hand is one byte. -/
theorem pk_ascii (s : ByteArray) (h0 : 0 ≤ pkR s) (h1 : pkR s < 128) : (Lib.decodeGo s).2 = 1 ∧ 0 < s.size := by
  unfold pkR at h0 h1
  unfold Lib.decodeGo at *
  by_cases hz : s.size = 0
  · simp [hz] at h0
  · rw [if_neg hz] at *
    have hp : 0 < s.size := Nat.pos_of_ne_zero hz
    by_cases ha : (s[0]'hp).toNat < 128
    · rw [decode_ascii s 0 hp ha]
      exact ⟨rfl, hp⟩
    · have hd := decode_high s 0 hp (by omega)
      exfalso
      split at h0
      · rename_i hc
        rw [if_pos hc] at h1
        omega
      · split at h0 <;> omega
theorem on_size (x : Re) : x.on.rest.size = x.rest.size - (Lib.decodeGo x.rest).2 := by
  unfold Re.on
  simp only [ByteArray.size_extract]
  omega
def blR (s : ByteArray) : Bool := decide (pkR s = 32) || decide (pkR s = 10)
/-- Behind all blanks. -/
def Re.skip : Nat → Re → Re
  | 0, x => x
  | f + 1, x => if blR x.rest then Re.skip f x.on else x
theorem skip_no (f : Nat) (x : Re) (h : blR x.rest = false) : Re.skip f x = x := by
  cases f with
  | zero => rfl
  | succ f => rw [Re.skip, h]; rfl
def restSize (w : World) (g : Nat) : Nat := match w.cell? ⟨g, 0, none⟩ with | some (.string s) => s.size | _ => 0
theorem isRe.rest {w : World} {g : Nat} {x : Re} (h : isRe w g x) : restSize w g = x.rest.size := by unfold restSize; rw [h.cells.1]
structure BlEnd (g : Nat) (y : Re) (w : World) (e : Ending) (w' : World) : Prop where
  ret : e = .returned (.tuple #[])
  re : isRe w' g y
  bu : Bu g w w'

set_option maxHeartbeats 2000000 in
set_option maxRecDepth 100000 in
theorem blanks_any (g : Nat) (x : Re) (w : World) (h : isRe w g x) (h2 : 2 ≤ g) (hT : Lib.Utf8Tabs 0 1 w) (ha : 0 ≤ x.at_ ∧ x.at_ + (x.rest.size : Int) ≤ 4000000) :
    Calls Tryd.prog 19 #[.pointer (some ⟨g, 0, none⟩)] w fun e w' => BlEnd g (Re.skip x.rest.size x) w e w' := by
  obtain ⟨Y, hY⟩ : ∃ Y, Y = Re.skip x.rest.size x := ⟨_, rfl⟩
  rw [← hY]
  have HY := hide hY
  have HT := hide hT
  have HX := hide h
  have hglt := h.lt
  clear hY hT h
  go_enter Tryd.func19, Tryd.ntmps19
  go_wp2
  go_loopw [] (fun wr => ∃ (f : Nat) (y : Re), isRe wr g y ∧ Hid (Y = Re.skip f y) ∧ y.rest.size ≤ f ∧ Bu g w wr ∧ 0 ≤ y.at_ ∧ y.at_ + (y.rest.size : Int) ≤ 4000000) (fun wr => restSize wr g)
  case atStart => exact ⟨x.rest.size, x, unhide HX, HY, Nat.le_refl _, Bu.refl _ _, ha.1, ha.2⟩
  case round =>
    obtain ⟨f, y, hy, HYY, hf, hbu, ha0, ha1⟩ := hrel
    clear HX HY
    have hgr := hy.lt
    have htr : Lib.Utf8Tabs 0 1 wr := Utf8Tabs_bu (unhide HT) hbu hglt h2
    have hpk := peek_any g y wr hy htr
    obtain ⟨P, hP⟩ : ∃ P, P = pkR y.rest := ⟨_, rfl⟩
    rw [← hP] at hpk
    have HPK := hide hpk
    have HYR := hide hy
    have HTR := hide htr
    have HBU := hide hbu
    have hms := hy.rest
    have HMS := hide hms
    clear hpk hy htr hbu hms
    go_wp2_with fail
    refine (unhide HPK).mono ?_
    rintro e w2 ⟨rfl, hb2⟩
    have hy2 := (unhide HYR).below hb2 hgr
    have hbu2 := (unhide HBU).trans (Bu.of hb2)
    have ht2 := Utf8Tabs_below (unhide HTR) hb2
    clear hb2
    by_cases hbl : blR y.rest = true
    · have hpa : 0 ≤ pkR y.rest ∧ pkR y.rest < 128 := by
        unfold blR at hbl
        simp only [Bool.or_eq_true, decide_eq_true_eq] at hbl
        omega
      obtain ⟨k1, k2⟩ := pk_ascii y.rest hpa.1 hpa.2
      obtain ⟨f, rfl⟩ : ∃ f', f = f' + 1 := ⟨f - 1, by omega⟩
      have hnx : Y = Re.skip f y.on := by rw [unhide HYY, Re.skip, if_pos hbl]
      have hos := on_size y
      rw [k1] at hos
      have hoa : y.on.at_ = y.at_ + 1 := rfl
      have HNX := hide hnx
      by_cases h32 : P = 32
      · have HST := hide (step_any g y w2 hy2 ht2 (by omega) ⟨by omega, by omega⟩)
        have HB := hide hbu2
        subst h32
        clear hy2 ht2 hbu2 hbl hpa hnx
        go_wp2_with fail
        refine (unhide HST).mono ?_
        rintro e w3 ⟨rfl, hr3, hb3⟩
        have hb4 := (unhide HB).trans hb3
        go_wp2
        go_roundw
        case rel => exact ⟨f, y.on, hr3, HNX, by omega, hb4, by omega, by omega⟩
        case measure => rw [hr3.rest, unhide HMS]; omega
      · have h10 : P = 10 := by
          unfold blR at hbl
          simp only [Bool.or_eq_true, decide_eq_true_eq] at hbl
          omega
        have HPK2 := hide (peek_any g y w2 hy2 ht2)
        rw [← hP, h10] at HPK2
        have HY2 := hide hy2
        have HT2 := hide ht2
        have HB := hide hbu2
        have hg2 := hy2.lt
        subst h10
        clear hy2 ht2 hbu2 hbl hpa hnx h32
        go_wp2_with fail
        refine (unhide HPK2).mono ?_
        rintro e w3 ⟨rfl, hb3⟩
        have HST := hide (step_any g y w3 ((unhide HY2).below hb3 hg2) (Utf8Tabs_below (unhide HT2) hb3) (by omega) ⟨by omega, by omega⟩)
        have HB3 := hide ((unhide HB).trans (Bu.of hb3))
        clear hb3
        go_wp2_with fail
        refine (unhide HST).mono ?_
        rintro e w4 ⟨rfl, hr4, hb4⟩
        have hb5 := (unhide HB3).trans hb4
        go_wp2
        go_roundw
        case rel => exact ⟨f, y.on, hr4, HNX, by omega, hb5, by omega, by omega⟩
        case measure => rw [hr4.rest, unhide HMS]; omega
    · have hbf : blR y.rest = false := by simpa using hbl
      have hYe : Y = y := by rw [unhide HYY]; exact skip_no f y hbf
      have h32 : ¬ P = 32 := by
        intro e
        apply hbl
        unfold blR
        rw [← hP, e]; rfl
      have h10 : ¬ P = 10 := by
        intro e
        apply hbl
        unfold blR
        rw [← hP, e]; rfl
      have b32 : (P == 32) = false := by simpa using h32
      have b10 : (P == 10) = false := by simpa using h10
      have HPK2 := hide (peek_any g y w2 hy2 ht2)
      rw [← hP] at HPK2
      have HYE := hide hYe
      have HY2 := hide hy2
      have HB := hide hbu2
      have hg2 := hy2.lt
      clear hy2 ht2 hbu2 hbl hbf hYe hP
      go_wp2_with fail
      refine (unhide HPK2).mono ?_
      rintro e w3 ⟨rfl, hb3⟩
      have hy3 := (unhide HY2).below hb3 hg2
      have hb4 := (unhide HB).trans (Bu.of hb3)
      clear hb3
      go_wp2
      go_end0
      rw [unhide HYE]
      exact ⟨rfl, hy3, hb4⟩
end Go.Proofs.YtdibjdpnleepmacDoor
