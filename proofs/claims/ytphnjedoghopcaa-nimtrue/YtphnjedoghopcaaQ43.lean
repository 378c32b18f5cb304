/-
  gamekeep.NimTrue, walked: heaps that are lost.
-/
import Derived.Test.YtphnjedoghopcaaQ42
namespace Go.Proofs.Ytphnjedoghopcaa
open Go.RowKit
attribute [local go_sem ↓] Go.wp_at_zero Go.wp_at_succ

set_option maxHeartbeats 8000000 in
set_option maxRecDepth 100000 in
theorem nimTrue_lost (s : ByteArray) (hs : List Nat) (ho : Option Addr) (hc : Nat) (w : World) (hsz : s.size ≤ maxLen) (hH : isIs w w.heap.size ho hc (natI hs)) (hcd : codeB s = true) (hsl : hs.length ≤ 20) (h400 : ∀ n ∈ hs, n ≤ 400) (ho0 : winO (digs (dig s)) hs = none) :
    Calls Try.prog 5 #[.string s, .slice ho hs.length hc] w fun e w' => e = .returned (.bool true) ∧ Below w.heap.size w w' := by
  have hmf : ∀ (fn : Fn) (first cap : Array Value) (u : World), (Instr.makeFunc fn first cap).run Try.prog u = .ok (.func fn first cap) u := fun _ _ _ _ => rfl
  have hl := hH.1
  have hm := hH.2.1
  unfold maxLen at hm
  rw [natI_len] at hl
  obtain ⟨w1, hw1⟩ : ∃ w1, w1 = w.alloc (.cells #[.string s] 9 (0, 0)) := ⟨_, rfl⟩
  obtain ⟨w2, hw2⟩ : ∃ w2, w2 = w1.alloc (.cells #[.slice ho hs.length hc] 22 (0, 0)) := ⟨_, rfl⟩
  have hb1 : Below w.heap.size w w1 := by rw [hw1]; exact (Below.refl _ _).alloc (Nat.le_refl _) _
  have hb2 : Below w.heap.size w w2 := by rw [hw2]; exact hb1.alloc hb1.size _
  have hs1 : w1.heap.size = w.heap.size + 1 := by rw [hw1]; simp
  have q3 : isSb w2 (w.heap.size + 1) (.slice ho hs.length hc) 22 := by rw [hw2, ← hs1]; exact heap_alloc_new w1 _
  have q2 : isSb w2 w.heap.size (.string s) 9 := by
    rw [hw2]; refine (Below.heap_alloc _ _ _ (by omega)).trans ?_; rw [hw1]; exact heap_alloc_new w _
  obtain ⟨c2, -⟩ := q2.cell
  obtain ⟨c3, -⟩ := q3.cell
  have hWN := Win_any s (natI hs) ho hc w2 hsz (hH.up hb2)
  rw [natI_len] at hWN
  have HWN := hide hWN
  obtain ⟨D, hD⟩ : ∃ D, D = digs (dig s) := ⟨_, rfl⟩
  have HTK : Hid (∀ (k : Nat) (u : World), k ≤ 400 → Calls Try.prog 12 #[.string s, .int .i64 (k : Int)] u fun e w' => TkEnd (tks D k) u e w') := hide (fun k u hk => by rw [hD]; exact takings_any s k u hcd hk)
  have HFORM : Hid (∀ e w3, WiEnd s (natI hs) w2 e w3 → e = .returned (.tuple #[.bool false, .agg #[.int .i64 0, .slice none 0 0], .int .i64 0]) ∧ Below w2.heap.size w2 w3) := hide (fun e w3 h => ⟨h.lost hs hcd rfl ⟨hsl, h400⟩ ho0, h.low⟩)
  have HAF : Hid (∀ (k : Nat) (n : Nat) (x : List Nat) (xo : Option Addr) (xc : Nat) (u : World), hs[k]? = some n → x ∈ tks D n → Below w2.heap.size w2 u → isIs u u.heap.size xo xc (natI x) →
      Calls Try.prog 17 #[.int .i64 (k : Int), .slice xo x.length xc, .pointer (some ⟨w.heap.size + 1, 0, none⟩), .pointer (some ⟨w.heap.size, 0, none⟩)] u fun e w' => Below u.heap.size u w' ∧ ∃ (b : Bool) (E : Int), e = .returned (.tuple #[.bool b, .int .i64 E]) ∧ ((E == 0) = true ∧ b = true ∨ (E == 0) = false)) := hide (fun k n x xo xc u hk hx hu hX => by
    have hkl := (List.getElem?_eq_some_iff.1 hk).1
    have hn4 : n ≤ 400 := h400 n (List.mem_of_getElem? hk)
    obtain ⟨hxb, hx2⟩ := tks_lt hx
    refine (after_any s hs x k ho xo hc xc w.heap.size (w.heap.size + 1) u hsz hcd hkl hsl h400 (fun y hy => by have := hxb y hy; omega) (by omega) ((hH.up hb2).up hu) hX ((hu.block _ q3.lt).trans q3) ((hu.block _ q2.lt).trans q2)).mono ?_
    rintro e w' hae
    refine ⟨hae.low, ?_⟩
    by_cases hfew : (aft hs k x).length ≤ 20
    · have := hae.few hfew
      rw [after_lost ho0 hk (by rw [← hD]; exact hx)] at this
      exact ⟨true, 0, this, .inl ⟨rfl, rfl⟩⟩
    · exact ⟨false, 4, hae.many hfew, .inr rfl⟩)
  have HGR : Hid (∀ u, Calls Try.prog 7 #[.string ⟨#[48, 46, 51]⟩, .int .i64 5] u fun e w' => Below u.heap.size u w' ∧ ∃ go gc, e = .returned (.tuple #[.slice go 6 gc, .int .i64 0])) := hide (fun u => by
    refine (Grundy_any ⟨#[48, 46, 51]⟩ 5 u (by unfold maxLen; show 3 ≤ _; omega)).mono ?_
    rintro e w' hg
    obtain ⟨go, gl, gc, E, he, -, h2⟩ := hg.form lit_code
    obtain ⟨rfl, rfl, -⟩ := h2 (by decide)
    exact ⟨hg.low, go, gc, he⟩)
  have HH2 := hide (hH.up hb2)
  have H4 := hide h400
  have HD6 : Hid (D.length ≤ 6) := hide (by rw [hD, digs_len]; exact (code_dig hcd).1)
  have HB2 := hide hb2
  have HQ2 := hide q2
  have HQ3 := hide q3
  have HW1 := hide hw1
  have HW2 := hide hw2
  clear hw1 hw2 hb1 hb2 hs1 q2 q3 hH hsz hWN hD h400 ho0 hcd
  go_enter Try.func5, Try.ntmps5
  go_upto_region 1 with fail
  rw [← unhide HW1, ← unhide HW2]
  go_wp2_with fail
  refine (unhide HWN).mono ?_
  rintro e w3 hwi
  obtain ⟨rfl, hb3⟩ := unhide HFORM e w3 hwi
  have HB3 := hide hb3
  clear hb3 hwi HFORM HWN
  go_wp2_with fail
  refine (unhide HGR _).mono ?_
  rintro e w4 ⟨hb4, go, gc, rfl⟩
  have hb24 : Below w2.heap.size w2 w4 := ((unhide HB3).alloc (unhide HB3).size _).trans (hb4.mono (by have := (unhide HB3).size; simp; omega))
  have c3d : w4.cell? ⟨w.heap.size + 1, 0, none⟩ = some (.slice ho hs.length hc) := (hb24.cell (p := ⟨w.heap.size + 1, 0, none⟩) (unhide HQ3).lt).trans c3
  have HB24 := hide hb24
  clear hb4 hb24 HGR HB3
  go_wp2
  go_loopw [102] (fun iv wr => ∃ k : Nat, k ≤ hs.length ∧ iv = .int .i64 (k : Int) ∧ Below w2.heap.size w2 wr) (fun iv _ => hs.length - (intOf iv).toNat)
  case atStart => exact ⟨0, Nat.zero_le _, rfl, unhide HB24⟩
  case round =>
    obtain ⟨k, hk, rfl, hbr⟩ := hrel
    rename World => wr
    by_cases hlt : k < hs.length
    · have hlti : (k : Int) < (hs.length : Int) := by omega
      have hk0 : (0 : Int) ≤ (k : Int) := by omega
      have hHr := (unhide HH2).up hbr
      obtain ⟨g, off, e, hg, cx⟩ := hHr.nat hlt
      subst e
      have hkn : hs[k]? = some hs[k]! := by rw [getElem!_pos hs k hlt]; exact List.getElem?_eq_getElem hlt
      have hn4 : hs[k]! ≤ 400 := unhide H4 _ (List.mem_of_getElem? hkn)
      generalize hs[k]! = n at *
      have HQ : Hid (∀ u, Below wr.heap.size wr u → u.cell? ⟨w.heap.size, 0, none⟩ = some (.string s) ∧ u.cell? ⟨w.heap.size + 1, 0, none⟩ = some (.slice (some ⟨g, off, none⟩) hs.length hc) ∧ u.cell? ⟨g, off + k, none⟩ = some (.int .i64 (n : Int))) := hide (fun u hu => by
        have hbu := hbr.trans (hu.mono hbr.size)
        exact ⟨(hbu.cell (p := ⟨w.heap.size, 0, none⟩) (unhide HQ2).lt).trans c2, (hbu.cell (p := ⟨w.heap.size + 1, 0, none⟩) (unhide HQ3).lt).trans c3, (hu.cell (p := ⟨g, off + k, none⟩) hg).trans cx⟩)
      have HBD : Hid (Below wr.heap.size wr wr.drew) := hide (Below.refl _ _).drew
      have q1 := unhide HQ _ (unhide HBD)
      have HQ1 := hide q1
      have HT := hide (unhide HTK n wr.drew hn4)
      have HBR := hide hbr
      have HKN := hide hkn
      clear q1 hbr hHr cx hkn
      go_upto_region 23 with fail
      go_region_held3 (fun u => u.cell? ⟨w.heap.size, 0, none⟩ = some (.string s) ∧ u.cell? ⟨w.heap.size + 1, 0, none⟩ = some (.slice (some ⟨g, off, none⟩) hs.length hc) ∧ u.cell? ⟨g, off + k, none⟩ = some (.int .i64 (n : Int)))
        (first
          | with_reducible exact unhide HQ1
          | with_reducible exact j1)
        (first | (go_at_call 12; (with_reducible refine (unhide HT).mono ?_); rintro e w6 ⟨hb6, tv, rfl, htk⟩; have j1 := unhide HQ w6 ((unhide HBD).trans hb6); obtain ⟨tao, tc, htv, hG⟩ := htk.done; subst htv; have HB6 := hide ((unhide HBR).trans ((unhide HBD).trans hb6 |>.mono (unhide HBR).size)); have HG := hide hG; clear hb6 htk hG))
      obtain ⟨T, hT⟩ : ∃ T, T = tks D n := ⟨_, rfl⟩
      have hGl := (unhide HG).1
      have hGm := (unhide HG).2.1
      rw [List.length_map] at hGl
      unfold maxLen at hGm
      rw [← hT] at HG hGl
      have HTT := hide hT
      simp only [← hT]
      clear hT HT j1
      go_wp2
      go_loopw [113] (fun jv wz => ∃ j : Nat, j ≤ T.length ∧ jv = .int .i64 (j : Int) ∧ Below w6.heap.size w6 wz) (fun jv _ => T.length - (intOf jv).toNat)
      case atStart => exact ⟨0, Nat.zero_le _, rfl, Below.refl _ _⟩
      case round =>
        obtain ⟨j, hj, rfl, hbz⟩ := hrel
        rename World => wz
        by_cases hjt : j < T.length
        · have hjti : (j : Int) < (T.length : Int) := by omega
          have hj0 : (0 : Int) ≤ (j : Int) := by omega
          obtain ⟨x, hx⟩ : ∃ x, T[j]? = some x := ⟨_, List.getElem?_eq_getElem hjt⟩
          obtain ⟨g2, o2, ro, rc, e2, hg2, cy, hIy⟩ := ((unhide HG).up hbz).nat hx
          subst e2
          have HA := hide (unhide HAF k n x ro rc wz (unhide HKN) (by rw [← unhide HTT]; exact List.mem_of_getElem? hx) ((unhide HB6).trans (hbz.mono (unhide HB6).size)) hIy)
          have HBZ := hide hbz
          clear hbz hIy hx
          go_wp2_with fail
          refine (unhide HA).mono ?_
          rintro e w7 ⟨hb7, b, E, rfl, hor⟩
          have HB7 := hide ((unhide HBZ).trans (hb7.mono (unhide HBZ).size))
          clear hb7 HA
          rcases hor with ⟨hE, rfl⟩ | hE
          · go_wp2
            go_roundw
            case rel => exact ⟨j + 1, by omega, by go_num, unhide HB7⟩
            case measure => simp only [intOf]; omega
          · go_wp2
            go_roundw
            case rel => exact ⟨j + 1, by omega, by go_num, unhide HB7⟩
            case measure => simp only [intOf]; omega
        · have hjti : ¬ (j : Int) < (T.length : Int) := by omega
          have HBZ := hide ((unhide HB6).trans (hbz.mono (unhide HB6).size))
          clear hbz
          go_wp2
          go_roundw
          case rel => exact ⟨k + 1, by omega, by go_num, unhide HBZ⟩
          case measure => simp only [intOf]; omega
    · have hlti : ¬ (k : Int) < (hs.length : Int) := by omega
      have HBR := hide ((unhide HB2).trans (hbr.mono (unhide HB2).size))
      clear hbr
      go_wp2
      go_ret
      exact ⟨rfl, unhide HBR⟩
end Go.Proofs.Ytphnjedoghopcaa
