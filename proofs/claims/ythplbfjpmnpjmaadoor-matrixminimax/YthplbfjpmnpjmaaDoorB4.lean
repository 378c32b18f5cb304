/-
  parlourbig.common, walked: the greatest common divisor.
-/
import Derived.Test.YthplbfjpmnpjmaaDoorB3
import Derived.IntWalk
namespace Go.Proofs.YthplbfjpmnpjmaaDoor
open Go.RowKit
attribute [local go_sem ↓] Go.wp_at_zero Go.wp_at_succ

/-- The number that a slice of words tells. -/
def rdW (w : World) : Value → Nat
  | .slice (some a) n _ => val 4294967296 ((List.range n).map fun k => match w.cell? ⟨a.block, k, none⟩ with | some (.int _ x) => x.toNat | _ => 0)
  | _ => 0
theorem rdW_is {w : World} {ao : Option Addr} {cap : Nat} {l : List Nat} (h : isWs w ao cap l) : rdW w (.slice ao l.length cap) = val 4294967296 l := by
  by_cases hl : l = []
  · subst hl
    cases ao <;> rfl
  · obtain ⟨g, rfl, _, hc⟩ := h.cells hl
    show val 4294967296 _ = _
    congr 1
    apply List.ext_getElem?
    intro k
    by_cases hk : k < l.length
    · have := hc k l[k] (List.getElem?_eq_getElem hk)
      simp [hk, this]
    · simp [hk]

structure GcE (G : Nat) (w : World) (e : Ending) (w' : World) : Prop where
  is : ∃ o cap l, e = .returned (.slice o l.length cap) ∧ isWs w' o cap l ∧ trimL l = l ∧ val 4294967296 l = G ∧ Below w.heap.size w w'

/-- Two numbers in words while their greatest common divisor is looked for. -/
structure GcI (w : World) (G : Nat) (av bv : Value) (wr : World) : Prop where
  is : ∃ ao ca al bo cb bl, av = .slice ao al.length ca ∧ bv = .slice bo bl.length cb ∧ isWs wr ao ca al ∧ isWs wr bo cb bl ∧ trimL al = al ∧ trimL bl = bl ∧ al.length ≤ 29000 ∧ bl.length ≤ 29000 ∧ Nat.gcd (val 4294967296 al) (val 4294967296 bl) = G ∧ Below w.heap.size w wr

theorem len2_lt {l : List Nat} (hs : ∀ x ∈ l, x < 4294967296) (h : l.length ≤ 2) : val 4294967296 l < 18446744073709551616 := by
  have := val_lt 4294967296 l hs
  have h2 : (4294967296 : Nat) ^ l.length ≤ 4294967296 ^ 2 := Nat.pow_le_pow_right (by omega) h
  have h3 : (4294967296 : Nat) ^ 2 = 18446744073709551616 := by decide
  omega

set_option maxHeartbeats 2000000 in
set_option maxRecDepth 100000 in
theorem common_any (ao0 bo0 : Option Addr) (ca0 cb0 : Nat) (a b : List Nat) (w : World) (h1 : isWs w ao0 ca0 a) (h2 : isWs w bo0 cb0 b) (h3 : trimL a = a) (h4 : trimL b = b) (h5 : a.length ≤ 29000) (h6 : b.length ≤ 29000) :
    Calls Tryd.prog 76 #[.slice ao0 a.length ca0, .slice bo0 b.length cb0] w (GcE (Nat.gcd (val 4294967296 a) (val 4294967296 b)) w) := by
  have hstart : GcI w (Nat.gcd (val 4294967296 a) (val 4294967296 b)) (.slice ao0 a.length ca0) (.slice bo0 b.length cb0) w := ⟨ao0, ca0, a, bo0, cb0, b, rfl, rfl, h1, h2, h3, h4, h5, h6, rfl, Below.refl _ _⟩
  generalize Nat.gcd (val 4294967296 a) (val 4294967296 b) = G at hstart
  clear h1 h2 h3 h4 h5 h6
  go_enter Tryd.func76, Tryd.ntmps76
  go_wp2
  go_loopw [0, 1] (fun av bv wr => GcI w G av bv wr) (fun _ bv wr => rdW wr bv)
  case atStart => exact hstart
  case round =>
    clear hstart
    obtain ⟨ao, ca, al, bo, cb, bl, rfl, rfl, ha, hb, ta, tb, hla, hlb, hg, hbl⟩ := hrel
    by_cases hl2 : bl.length ≤ 2
    · have hl2i : ¬ 2 < (bl.length : Int) := by omega
      clear hlb
      have hlb := hl2
      by_cases hb0 : bl = []
      · subst hb0
        have hgv : val 4294967296 al = G := by rw [← hg]; simp [val]
        have HGV := hide hgv
        have HA := hide ha
        have HTA := hide ta
        clear hgv hg ha ta tb hb
        go_wp2
        go_ret
        exact ⟨ao, ca, al, rfl, unhide HA, unhide HTA, unhide HGV, hbl⟩
      · have hbi : ¬ (bl.length : Int) = 0 := by have := List.length_pos_iff.2 hb0; omega
        by_cases ha2 : al.length ≤ 2
        · have ha2i : ¬ 2 < (al.length : Int) := by omega
          clear hla
          have hla := ha2
          have HPA := hide (plain_any ao ca al _ ha hla)
          have HPB := hide (plain_any bo cb bl _ hb hlb)
          obtain ⟨X, hX⟩ : ∃ X, X = val 4294967296 al := ⟨_, rfl⟩
          obtain ⟨Y, hY⟩ : ∃ Y, Y = val 4294967296 bl := ⟨_, rfl⟩
          have hXs : X < 18446744073709551616 := by rw [hX]; exact len2_lt ha.small hla
          have hYs : Y < 18446744073709551616 := by rw [hY]; exact len2_lt hb.small hlb
          rw [← hX] at HPA hg
          rw [← hY] at HPB hg
          have HG := hide hg
          clear hX hY hg ta tb ha hb
          go_wp2_with fail
          refine (unhide HPA).mono ?_
          rintro e w2 ⟨rfl, rfl⟩
          go_wp2_with fail
          refine (unhide HPB).mono ?_
          rintro e w2 ⟨rfl, rfl⟩
          clear HPA HPB
          go_wp2
          go_loopw [9, 10] (fun xv yv wq => ∃ x y : Nat, xv = .int .u64 (x : Int) ∧ yv = .int .u64 (y : Int) ∧ x < 18446744073709551616 ∧ y < 18446744073709551616 ∧ Nat.gcd x y = G ∧ Below w.heap.size w wq) (fun _ yv _ => (intOf yv).toNat)
          case atStart => exact ⟨X, Y, rfl, rfl, hXs, hYs, unhide HG, hbl⟩
          case round =>
            obtain ⟨x, y, rfl, rfl, hxs, hys, hgc, hbq⟩ := hrel
            by_cases hy0 : y = 0
            · subst hy0
              have hgx : x = G := by rw [← hgc, Nat.gcd_zero_right]
              have HGX := hide hgx
              clear hgx hgc
              go_wp2_with fail
              refine (words_val x _ hxs).mono ?_
              rintro e w3 ⟨o, cap, l, rfl, hw3, hv3, hb3⟩
              go_wp2
              go_ret
              exact ⟨o, cap, _, rfl, hw3, trimL_idem _, by rw [trimL_val, hv3]; exact unhide HGX, hbq.trans (hb3.mono hbq.size)⟩
            · have hyi : 0 < (y : Int) := by omega
              have hyi2 : ¬ (y : Int) = 0 := by omega
              obtain ⟨r, hr⟩ : ∃ r, r = x % y := ⟨_, rfl⟩
              have hri : (x : Int) % (y : Int) = (r : Int) := by rw [hr]; simp
              have hrt : (x : Int).tmod (y : Int) = (r : Int) := by rw [Int.tmod_eq_emod_of_nonneg (by omega)]; exact hri
              have hry : r < y := by rw [hr]; exact Nat.mod_lt _ (by omega)
              have hgr : Nat.gcd y r = G := by rw [hr, gcd_turn]; exact hgc
              have HGR := hide hgr
              clear hgr hgc hr
              go_wp2
              go_quiet (fail)
              go_wp2
              go_roundw
              case rel => exact ⟨y, r, rfl, rfl, hys, by omega, unhide HGR, below_drewN hbq _⟩
              case measure => simp [intOf]; omega
        · have ha2i : 2 < (al.length : Int) := by omega
          have HD := hide (div_any ao bo ca cb al bl _ ha hb ta tb hb0 hla)
          have hgt := gcd_turn (val 4294967296 al) (val 4294967296 bl)
          rw [hg] at hgt
          have hbpos : 0 < val 4294967296 bl := by
            have := trim_low bl tb 0 (List.length_pos_iff.2 hb0)
            simp at this; omega
          have HGT := hide hgt
          have HB0 := hide hb
          have HTB := hide tb
          have HBP := hide hbpos
          clear hg hgt ha ta hb tb hbpos hb0
          go_wp2_with fail
          refine (unhide HD).mono ?_
          rintro e w1 ⟨qo, qc, ql, ro, rc, rl, rfl, hq1, hr1, hqv, hrv, hb1⟩
          clear HD
          have ha := (unhide HB0).below hb1 (Nat.le_refl _)
          have ta := unhide HTB
          have hb := hr1
          have tb := trimL_idem rl
          have hg := unhide HGT
          rw [← hrv, ← trimL_val 4294967296 rl] at hg
          have hlb2 : (trimL rl).length ≤ bl.length := len_of_le tb (unhide HB0).small (by rw [trimL_val, hrv]; exact Nat.le_of_lt (Nat.mod_lt _ (unhide HBP)))
          have hla2 := hlb
          have hbl2 := hbl.trans (hb1.mono hbl.size)
          clear hrv hqv hq1 hr1 HGT HB0 HTB HBP hla hbl hb1
          have hlb3 : (trimL rl).length ≤ 2 := by omega
          clear hlb hlb2
          generalize trimL rl = rl2 at *
          have HPA := hide (plain_any bo cb bl _ ha hla2)
          have HPB := hide (plain_any ro rc rl2 _ hb hlb3)
          obtain ⟨X, hX⟩ : ∃ X, X = val 4294967296 bl := ⟨_, rfl⟩
          obtain ⟨Y, hY⟩ : ∃ Y, Y = val 4294967296 rl2 := ⟨_, rfl⟩
          have hXs : X < 18446744073709551616 := by rw [hX]; exact len2_lt ha.small hla2
          have hYs : Y < 18446744073709551616 := by rw [hY]; exact len2_lt hb.small hlb3
          rw [← hX] at HPA hg
          rw [← hY] at HPB hg
          have HG := hide hg
          clear hX hY hg ta tb ha hb
          go_wp2_with fail
          refine (unhide HPA).mono ?_
          rintro e w2 ⟨rfl, rfl⟩
          go_wp2_with fail
          refine (unhide HPB).mono ?_
          rintro e w2 ⟨rfl, rfl⟩
          clear HPA HPB
          go_wp2
          go_loopw [9, 10] (fun xv yv wq => ∃ x y : Nat, xv = .int .u64 (x : Int) ∧ yv = .int .u64 (y : Int) ∧ x < 18446744073709551616 ∧ y < 18446744073709551616 ∧ Nat.gcd x y = G ∧ Below w.heap.size w wq) (fun _ yv _ => (intOf yv).toNat)
          case atStart => exact ⟨X, Y, rfl, rfl, hXs, hYs, unhide HG, hbl2⟩
          case round =>
            obtain ⟨x, y, rfl, rfl, hxs, hys, hgc, hbq⟩ := hrel
            by_cases hy0 : y = 0
            · subst hy0
              have hgx : x = G := by rw [← hgc, Nat.gcd_zero_right]
              have HGX := hide hgx
              clear hgx hgc
              go_wp2_with fail
              refine (words_val x _ hxs).mono ?_
              rintro e w3 ⟨o, cap, l, rfl, hw3, hv3, hb3⟩
              go_wp2
              go_ret
              exact ⟨o, cap, _, rfl, hw3, trimL_idem _, by rw [trimL_val, hv3]; exact unhide HGX, hbq.trans (hb3.mono hbq.size)⟩
            · have hyi : 0 < (y : Int) := by omega
              have hyi2 : ¬ (y : Int) = 0 := by omega
              obtain ⟨r, hr⟩ : ∃ r, r = x % y := ⟨_, rfl⟩
              have hri : (x : Int) % (y : Int) = (r : Int) := by rw [hr]; simp
              have hrt : (x : Int).tmod (y : Int) = (r : Int) := by rw [Int.tmod_eq_emod_of_nonneg (by omega)]; exact hri
              have hry : r < y := by rw [hr]; exact Nat.mod_lt _ (by omega)
              have hgr : Nat.gcd y r = G := by rw [hr, gcd_turn]; exact hgc
              have HGR := hide hgr
              clear hgr hgc hr
              go_wp2
              go_quiet (fail)
              go_wp2
              go_roundw
              case rel => exact ⟨y, r, rfl, rfl, hys, by omega, unhide HGR, below_drewN hbq _⟩
              case measure => simp [intOf]; omega
    · have hl2i : 2 < (bl.length : Int) := by omega
      have hb0 : bl ≠ [] := by rintro rfl; simp at hl2
      have HD := hide (div_any ao bo ca cb al bl _ ha hb ta tb hb0 hla)
      have hgt := gcd_turn (val 4294967296 al) (val 4294967296 bl)
      rw [hg] at hgt
      have hbpos : 0 < val 4294967296 bl := by
        have := trim_low bl tb 0 (List.length_pos_iff.2 hb0)
        simp at this; omega
      have HGT := hide hgt
      have HB0 := hide hb
      have HTB := hide tb
      have HBP := hide hbpos
      clear hg hgt ha ta hb tb hbpos hb0
      go_wp2_with fail
      refine (unhide HD).mono ?_
      rintro e w1 ⟨qo, qc, ql, ro, rc, rl, rfl, hq1, hr1, hqv, hrv, hb1⟩
      clear HD
      have hms : rdW w1 (.slice ro (trimL rl).length rc) < rdW wr (.slice bo bl.length cb) := by
        rw [rdW_is hr1, rdW_is (unhide HB0), trimL_val, hrv]
        exact Nat.mod_lt _ (unhide HBP)
      have hlb2 : (trimL rl).length ≤ bl.length := len_of_le (trimL_idem rl) (unhide HB0).small (by rw [trimL_val, hrv]; exact Nat.le_of_lt (Nat.mod_lt _ (unhide HBP)))
      have HMS := hide hms
      have HR : Hid (GcI w G (.slice bo bl.length cb) (.slice ro (trimL rl).length rc) w1) := ⟨bo, cb, bl, ro, rc, trimL rl, rfl, rfl, (unhide HB0).below hb1 (Nat.le_refl _), hr1, unhide HTB, trimL_idem _, hlb, by omega, by rw [trimL_val, hrv]; exact unhide HGT, hbl.trans (hb1.mono hbl.size)⟩
      clear hms hlb2 hrv hqv hq1 hr1 HGT HB0 HTB HBP
      go_wp2
      go_roundw
      case rel => exact unhide HR
      case measure => exact unhide HMS
end Go.Proofs.YthplbfjpmnpjmaaDoor
