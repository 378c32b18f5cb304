/-
  The document's answer on rules (package gameref), walked: wayOf.
-/
import Derived.Test.YtfhmpgjemobjhaaGreatDoorJ17
import Derived.Deep.DeepCutAuto
namespace Go.Proofs.YtfhmpgjemobjhaaGreatDoor
open Go.RowKit
attribute [local go_sem ↓] Go.wp_at_zero Go.wp_at_succ

/-- What wayOf leaves. -/
structure WayEnd (s : ByteArray) (w : World) (e : Ending) (w' : World) : Prop where
  ex : ∃ (z : Wy) (ok : Bool), e = .returned (.tuple #[z.v, .bool ok]) ∧ wayOf s.data.toList = if ok then some z else none
  low : Below w.heap.size w w'
theorem cntI_some (l : List UInt8) (h : 0 ≤ cntI l) : ∃ n, numOf l = some n ∧ cntI l = (n : Nat) ∧ n ≤ 9999 := by
  unfold cntI at *
  cases hn : numOf l with
  | none => rw [hn] at h; simp at h
  | some n => exact ⟨n, rfl, rfl, numOf_le l n hn⟩

theorem isWx.lt {w : World} {p : Nat} {x0 x1 x2 x3 : Value} (h : isWx w p x0 x1 x2 x3) : p < w.heap.size := by
  rcases Nat.lt_or_ge p w.heap.size with h' | h'
  · exact h'
  · unfold isWx at h; rw [Array.getElem?_eq_none h'] at h; cases h
theorem isWx_new (w : World) : isWx (w.alloc (.cells #[.int .i64 0, .int .i64 0, .int .i64 0, .int .i64 0] 62 (0, 0))) w.heap.size (.int .i64 0) (.int .i64 0) (.int .i64 0) (.int .i64 0) := heap_alloc_new w _
theorem isWx_val (w : World) (a b c d : Value) : isWx (w.alloc (.cells #[a, b, c, d] 62 (0, 0))) w.heap.size a b c d := heap_alloc_new w _
theorem isWx_drew (w : World) : isWx (w.alloc (.cells #[.int .i64 0, .int .i64 0, .int .i64 0, .int .i64 0] 62 (0, 0))).drew w.heap.size (.int .i64 0) (.int .i64 0) (.int .i64 0) (.int .i64 0) := heap_alloc_new w _

set_option maxHeartbeats 2000000 in
set_option maxRecDepth 100000 in
theorem gWayOf_any (s : ByteArray) (m : Int) (w : World) (hs : s.size < 2000000) (hm : w.cell? ⟨0, 0, none⟩ = some (.int .i64 m)) (h0 : 0 < w.heap.size) (ht : isTab w) :
    Calls Tryz.prog 50 #[.string s] w fun e w' => WayEnd s w e w' := by
  have hwx : isWx (w.alloc (.cells #[.int .i64 0, .int .i64 0, .int .i64 0, .int .i64 0] 62 (0, 0))) w.heap.size (.int .i64 0) (.int .i64 0) (.int .i64 0) (.int .i64 0) := heap_alloc_new w _
  have hlow : Below w.heap.size w (w.alloc (.cells #[.int .i64 0, .int .i64 0, .int .i64 0, .int .i64 0] 62 (0, 0))) := (Below.refl _ w).alloc (Nat.le_refl _) _
  have hsz : (w.alloc (.cells #[.int .i64 0, .int .i64 0, .int .i64 0, .int .i64 0] 62 (0, 0))).heap.size = w.heap.size + 1 := by simp
  have hm1 : (w.alloc (.cells #[.int .i64 0, .int .i64 0, .int .i64 0, .int .i64 0] 62 (0, 0))).cell? ⟨0, 0, none⟩ = some (.int .i64 m) := by rw [hlow.cell (p := ⟨0, 0, none⟩) h0]; exact hm
  have HSP := hide (Split_any s 32 m _ hs hm1)
  have HT := hide ht
  clear hm1 ht
  obtain ⟨P, hP⟩ : ∃ P, P = spl 32 s.data.toList := ⟨_, rfl⟩
  rw [← hP, hsz] at HSP
  have HPE := hide hP
  clear hP
  go_enter Tryz.func50, Tryz.ntmps50
  go_wp2_with fail
  refine (unhide HSP).mono ?_
  rintro e w1 ⟨rfl, hb1, hrv⟩
  have hx1 := hwx.below hb1 (Nat.lt_succ_self _)
  have hl1 : Below w.heap.size w w1 := hlow.trans (hb1.mono (Nat.le_succ _))
  have hsz1 : w.heap.size + 1 < w1.heap.size := hrv.lt
  clear HSP hwx hlow hsz hb1
  by_cases h3 : P.length < 3
  · have h3i : (P.length : Int) < 3 := by omega
    have hno : wayOf s.data.toList = none := way_short _ (by rw [← unhide HPE]; exact h3)
    have HNO := hide hno
    obtain ⟨⟨c0, c1, c2, c3⟩, f0, f1, f2, f3⟩ := hx1.all
    clear hno
    go_wp2
    refine bodyPost_ret (v := .tuple #[(⟨0, 0, 0, 0⟩ : Wy).v, .bool false]) (by simp [results, Tryz.results50, go_sem, c0, c1, c2, c3, Wy.v]) rfl ?_
    exact ⟨⟨⟨0, 0, 0, 0⟩, false, rfl, unhide HNO⟩, below_set4 (Nat.le_refl _) hl1⟩
  · have h3i : ¬ (P.length : Int) < 3 := by omega
    obtain ⟨a, b, c, r, hPe⟩ : ∃ a b c r, P = a :: b :: c :: r := by
      match P, h3 with
      | [], h => exact absurd (by simp) h
      | [_], h => exact absurd (by simp) h
      | [_, _], h => exact absurd (by simp) h
      | a :: b :: c :: r, _ => exact ⟨a, b, c, r, rfl⟩
    have hr1 := hrv.cell (k := 1) (r := b) (by rw [hPe]; rfl)
    have hr2 := hrv.cell (k := 2) (r := c) (by rw [hPe]; rfl)
    have HTR := hide (way_tried s.data.toList a b c r (by rw [← unhide HPE, hPe]))
    obtain ⟨BB, hBB⟩ : ∃ BB : ByteArray, BB = ⟨b.toArray⟩ := ⟨_, rfl⟩
    obtain ⟨CC, hCC⟩ : ∃ CC : ByteArray, CC = ⟨c.toArray⟩ := ⟨_, rfl⟩
    rw [← hBB] at hr1
    rw [← hCC] at hr2
    obtain ⟨X, hX⟩ : ∃ X, X = cntI b := ⟨_, rfl⟩
    obtain ⟨Y, hY⟩ : ∃ Y, Y = cntI c := ⟨_, rfl⟩
    have HB : Hid (∀ u, isTab u → Calls Tryz.prog 51 #[.string BB] u fun e u' => e = .returned (.int .i64 X) ∧ Below u.heap.size u u') := by
      refine hide fun u hu => ?_
      rw [hX]
      have := count_any BB u hu
      rw [hBB] at this ⊢
      exact this
    have HC : Hid (∀ u, isTab u → Calls Tryz.prog 51 #[.string CC] u fun e u' => e = .returned (.int .i64 Y) ∧ Below u.heap.size u u') := by
      refine hide fun u hu => ?_
      rw [hY]
      have := count_any CC u hu
      rw [hCC] at this ⊢
      exact this
    have hp1 : (1 : Int) < (P.length : Int) := by omega
    have hp2 : (2 : Int) < (P.length : Int) := by omega
    have HX := hide hX
    have HY := hide hY
    have HX1 := hide hx1
    have HL1 := hide hl1
    clear hPe hBB hCC hX hY hrv hx1 hl1
    go_wp2
    go_loopw [5] (fun kv wr => ∃ k : Nat, 1 ≤ k ∧ k ≤ 4 ∧ kv = .int .i64 (k : Int) ∧ Hid (∀ z, wayOf s.data.toList = some z → (k : Int) ≤ z.k) ∧ Below w1.heap.size w1 wr) (fun kv _ => 4 - (intOf kv).toNat)
    case atStart => exact ⟨1, by omega, by omega, rfl, hide (fun z hz => by have := (wayOf_isWide _ z hz).1; omega), Below.refl _ _⟩
    case round =>
      obtain ⟨k, hk1, hk4, rfl, HK, hbr⟩ := hrel
      by_cases hkl : k ≤ 3
      · have hki : (k : Int) ≤ 3 := by omega
        go_wp2
        go_loopw [6] (fun tv wr => ∃ t : Nat, t ≤ 3 ∧ tv = .int .i64 (t : Int) ∧ Hid (∀ z, wayOf s.data.toList = some z → (k : Int) ≤ z.k ∧ (z.k = (k : Int) → (t : Int) ≤ z.t)) ∧ Below w1.heap.size w1 wr) (fun tv _ => 3 - (intOf tv).toNat)
        case atStart => exact ⟨0, by omega, rfl, hide (fun z hz => ⟨unhide HK z hz, fun _ => by have := (wayOf_isWide _ z hz).2.2.2; omega⟩), hbr⟩
        case round =>
          obtain ⟨t, ht3, rfl, HTT, hbt⟩ := hrel
          have hszt := hbt.size
          by_cases htl : t ≤ 2
          · have hti : (t : Int) ≤ 2 := by omega
            have htab : isTab wr := (unhide HT).below ((unhide HL1).trans (hbt.mono (by omega)))
            have q1 := (hbt.cell (p := ⟨w.heap.size + 1, 1, none⟩) hsz1).trans hr1
            have q2 := (hbt.cell (p := ⟨w.heap.size + 1, 2, none⟩) hsz1).trans hr2
            have hza : Below wr.heap.size wr wr := Below.refl _ _
            have q1' := fun o => ((hza.alloc (Nat.le_refl _) o).cell (p := ⟨w.heap.size + 1, 1, none⟩) (by simp only; omega)).trans q1
            have q2' := fun o => ((hza.alloc (Nat.le_refl _) o).cell (p := ⟨w.heap.size + 1, 2, none⟩) (by simp only; omega)).trans q2
            have htd : isTab wr.drew := htab
            have hta : ∀ o, isTab (wr.alloc o).drew := fun o => htab.below (((Below.refl _ _).alloc (Nat.le_refl _) o).drew)
            go_upto_region 10 with fail
            go_cut [7] from 18 to 47 (fun pv wx => ∃ g, pv = .pointer (some ⟨g, 0, none⟩) ∧ wr.heap.size ≤ g ∧ isWx wx g (.int .i64 (k : Int)) (.int .i64 X) (.int .i64 Y) (.int .i64 (t : Int)) ∧ Below wr.heap.size wr wx)
            case first =>
              go_region_with (first
                | (go_at_call 51; (with_reducible refine (unhide HB _ (by first | exact ht1 | exact htd | exact hta _ | exact hab _ | exact hac _)).mono ?_); rintro e wb ⟨rfl, hbb⟩; (have lw : Below wr.heap.size wr wb := (by first | exact (Below.refl wr.heap.size wr).drew.trans hbb | exact (((Below.refl wr.heap.size wr).alloc (Nat.le_refl _) _).drew).trans (hbb.mono (by simp)) | exact lw.trans (hbb.mono lw.size) | exact (lw.alloc lw.size _).trans (hbb.mono (by have := lw.size; simp; omega)))); have szb := lw.size; have ht1 := isTab.below (by first | exact ht1 | exact htd | exact hta _ | exact hab _ | exact hac _) hbb; have hsb := hbb.size; have hzb : w.heap.size + 1 < wb.heap.size := (by first | omega | (dsimp only [World.drew] at hsb; omega) | (simp at hsb; omega)); (try have p2 : wb.cell? ⟨w.heap.size + 1, 2, none⟩ = some (.string CC) := (hbb.cell (p := ⟨w.heap.size + 1, 2, none⟩) (by first | (dsimp only; omega) | (dsimp only [World.drew]; omega) | (simp; omega))).trans (by first | exact p2 | exact q2 | exact q2' _ | assumption)); (try have p2' := fun o => (((Below.refl wb.heap.size wb).alloc (Nat.le_refl _) o).cell (p := ⟨w.heap.size + 1, 2, none⟩) hzb).trans p2); have hab : ∀ o, isTab (wb.alloc o) := fun o => ht1.below ((Below.refl _ _).alloc (Nat.le_refl _) o); (try have bx := isWx.below bx hbb bx.lt); (try have bx := isWx.below (isWx_drew wr) hbb (isWx_drew wr).lt); (try have bx : isWx wb wr.heap.size _ _ _ _ := isWx.below (isWx_new wr.drew) hbb (isWx_new wr.drew).lt); (try have bx := isWx.below (isWx_new wc) hbb (isWx_new wc).lt); (try obtain ⟨⟨b0, b1, b2, b3⟩, g0, g1, g2, g3⟩ := bx.all))
                | (go_at_call 51; (with_reducible refine (unhide HC _ (by first | exact ht1 | exact htd | exact hta _ | exact hab _ | exact hac _)).mono ?_); rintro e wc ⟨rfl, hbc⟩; (have lw : Below wr.heap.size wr wc := (by first | exact (Below.refl wr.heap.size wr).drew.trans hbc | exact (((Below.refl wr.heap.size wr).alloc (Nat.le_refl _) _).drew).trans (hbc.mono (by simp)) | exact lw.trans (hbc.mono lw.size) | exact (lw.alloc lw.size _).trans (hbc.mono (by have := lw.size; simp; omega)))); have szc := lw.size; have ht1 := isTab.below (by first | exact ht1 | exact htd | exact hta _ | exact hab _ | exact hac _) hbc; have hsc := hbc.size; have hzc : w.heap.size + 1 < wc.heap.size := (by first | omega | (dsimp only [World.drew] at hsc; omega) | (simp at hsc; omega)); (try have p1 : wc.cell? ⟨w.heap.size + 1, 1, none⟩ = some (.string BB) := (hbc.cell (p := ⟨w.heap.size + 1, 1, none⟩) (by first | (dsimp only; omega) | (dsimp only [World.drew]; omega) | (simp; omega))).trans (by first | exact p1 | exact q1 | exact q1' _ | assumption)); (try have p1' := fun o => (((Below.refl wc.heap.size wc).alloc (Nat.le_refl _) o).cell (p := ⟨w.heap.size + 1, 1, none⟩) hzc).trans p1); have hac : ∀ o, isTab (wc.alloc o) := fun o => ht1.below ((Below.refl _ _).alloc (Nat.le_refl _) o); (try have bx := isWx.below bx hbc bx.lt); (try have bx := isWx.below (isWx_drew wr) hbc (isWx_drew wr).lt); (try have bx : isWx wc wr.heap.size _ _ _ _ := isWx.below (isWx_new wr.drew) hbc (isWx_new wr.drew).lt); (try have bx := isWx.below (isWx_new wb) hbc (isWx_new wb).lt); (try obtain ⟨⟨b0, b1, b2, b3⟩, g0, g1, g2, g3⟩ := bx.all)))
              all_goals go_wp2_with fail
              all_goals go_meet
              all_goals refine ⟨_, rfl, ?_, ?_, ?_⟩
              all_goals first
                | with_reducible exact szc
                | with_reducible exact szb
                | with_reducible exact Nat.le_refl _
                | with_reducible exact isWx_val _ _ _ _ _
                | with_reducible exact (((bx.set0 _).set1 _).set2 _).set3 _
                | with_reducible exact lw.alloc szc _
                | with_reducible exact lw.alloc szb _
                | with_reducible exact below_set4 szc lw
                | with_reducible exact below_set4 szb lw
                | with_reducible exact below_set4 (Nat.le_refl _) lw
            case rest =>
              obtain ⟨g, rfl, hg, hx, hbx⟩ := hcut
              have hbw : Below w1.heap.size w1 wc := hbt.trans (hbx.mono hszt)
              have hgw : g < wc.heap.size := hx.lt
              have htc : isTab wc := (unhide HT).below ((unhide HL1).trans (hbw.mono (by omega)))
              obtain ⟨⟨c0, c1, c2, c3⟩, -⟩ := hx.all
              clear hx hbx q1 q2 q1' q2' htd hta hza htab
              by_cases hXY : 0 ≤ X ∧ 0 ≤ Y
              · obtain ⟨hX0, hY0⟩ := hXY
                obtain ⟨n, hn1, hn2, hn3⟩ := cntI_some b (by rw [← unhide HX]; exact hX0)
                obtain ⟨m', hm1, hm2, hm3⟩ := cntI_some c (by rw [← unhide HY]; exact hY0)
                have hXn : X = (n : Int) := by rw [unhide HX]; exact hn2
                have hYn : Y = (m' : Int) := by rw [unhide HY]; exact hm2
                have hwide : wideW ⟨k, X, Y, t⟩ := by unfold wideW; dsimp only; omega
                have HWT := hide (fun u hu => gWayText_any ⟨k, X, Y, t⟩ u hwide hu)
                have HWI := hide hwide
                obtain ⟨WT, hWT⟩ : ∃ WT : ByteArray, WT = ⟨(wayL ⟨k, X, Y, t⟩).toArray⟩ := ⟨_, rfl⟩
                rw [← hWT] at HWT
                have HWTD : Hid (WT.data.toList = wayL ⟨k, X, Y, t⟩) := by rw [hWT]; simp [Hid]
                have HN1 : Hid (numOf b = some X.toNat) := by rw [hXn]; exact hn1
                have HM1 : Hid (numOf c = some Y.toNat) := by rw [hYn]; exact hm1
                clear hn1 hn2 hn3 hm1 hm2 hm3 hXn hYn hWT hwide
                by_cases hE : WT = s
                · have hyes : wayOf s.data.toList = some ⟨k, X, Y, t⟩ := ((unhide HTR) _).2 ⟨unhide HWI, unhide HN1, unhide HM1, by rw [← unhide HWTD, hE]⟩
                  have HYES := hide hyes
                  clear hyes
                  subst hE
                  have hrb := (unhide HX1).below hbw (by omega)
                  go_wp2_with fail
                  refine (unhide HWT _ htc).mono ?_
                  rintro e wd ⟨rfl, hbd⟩
                  obtain ⟨⟨d0, d1, d2, d3⟩, f0, f1, f2, f3⟩ := (hrb.below hbd (by omega)).all
                  have e0 := (hbd.cell (p := ⟨g, 0, none⟩) hgw).trans c0
                  have e1 := (hbd.cell (p := ⟨g, 1, none⟩) hgw).trans c1
                  have e2 := (hbd.cell (p := ⟨g, 2, none⟩) hgw).trans c2
                  have e3 := (hbd.cell (p := ⟨g, 3, none⟩) hgw).trans c3
                  have HBL : Hid (Below w.heap.size w wd) := hide (((unhide HL1).trans (hbw.mono (by omega))).trans (hbd.mono (by have := hbw.size; omega)))
                  clear hbd hrb hbw
                  go_wp2
                  refine bodyPost_ret (v := .tuple #[(⟨k, X, Y, t⟩ : Wy).v, .bool true]) (by simp [results, Tryz.results50, go_sem, d0, d1, d2, d3, Wy.v]) rfl ?_
                  exact ⟨⟨⟨k, X, Y, t⟩, true, rfl, unhide HYES⟩, below_set4 (Nat.le_refl _) (unhide HBL)⟩
                · have hnext : ∀ z, wayOf s.data.toList = some z → (k : Int) ≤ z.k ∧ (z.k = (k : Int) → ((t + 1 : Nat) : Int) ≤ z.t) := by
                    intro z hz
                    obtain ⟨h1, h2⟩ := unhide HTT z hz
                    refine ⟨h1, fun hk => ?_⟩
                    have h3 := h2 hk
                    rcases Int.lt_or_le (t : Int) z.t with h4 | h4
                    · omega
                    · exfalso
                      obtain ⟨hw, hx, hy, hl⟩ := ((unhide HTR) z).1 hz
                      rw [unhide HN1] at hx
                      rw [unhide HM1] at hy
                      injection hx with hx
                      injection hy with hy
                      unfold wideW at hw
                      have ez : z = ⟨k, X, Y, t⟩ := by
                        obtain ⟨z1, z2, z3, z4⟩ := z
                        simp only at *
                        simp only [Wy.mk.injEq]
                        omega
                      apply hE
                      rw [ez, ← unhide HWTD] at hl
                      exact ByteArray.ext (Array.toList_inj.1 hl)
                  have HNEXT := hide hnext
                  have hEl : (WT.toList == s.toList) = false := by
                    rw [Lib.toList_data, Lib.toList_data]
                    simp only [beq_eq_false_iff_ne, ne_eq]
                    intro h
                    exact hE (ByteArray.ext (Array.toList_inj.1 h))
                  clear hnext
                  go_wp2_with fail
                  refine (unhide HWT _ htc).mono ?_
                  rintro e wd ⟨rfl, hbd⟩
                  have hbl : Below w1.heap.size w1 wd := hbw.trans (hbd.mono hbw.size)
                  clear hbd hbw c0 c1 c2 c3
                  go_wp2
                  go_roundw
                  case rel => exact ⟨t + 1, by omega, by go_num, HNEXT, hbl⟩
                  case measure => simp [intOf]; omega
              · have hnone : ∀ z, ¬ wayOf s.data.toList = some z := by
                  intro z hz
                  obtain ⟨hw, hx, hy, hl⟩ := ((unhide HTR) z).1 hz
                  apply hXY
                  rw [unhide HX, unhide HY]
                  unfold cntI
                  rw [hx, hy]
                  exact ⟨Int.natCast_nonneg _, Int.natCast_nonneg _⟩
                have HNEXT : Hid (∀ z, wayOf s.data.toList = some z → (k : Int) ≤ z.k ∧ (z.k = (k : Int) → ((t + 1 : Nat) : Int) ≤ z.t)) := hide (fun z hz => absurd hz (hnone z))
                clear hnone
                by_cases hX0 : 0 ≤ X
                · have hY0 : ¬ 0 ≤ Y := fun h => hXY ⟨hX0, h⟩
                  clear hXY
                  go_wp2
                  go_roundw
                  case rel => exact ⟨t + 1, by omega, by go_num, HNEXT, hbw⟩
                  case measure => simp [intOf]; omega
                · clear hXY
                  go_wp2
                  go_roundw
                  case rel => exact ⟨t + 1, by omega, by go_num, HNEXT, hbw⟩
                  case measure => simp [intOf]; omega
          · obtain rfl : t = 3 := by omega
            have hti : ¬ ((3 : Nat) : Int) ≤ 2 := by omega
            have HNEXT : Hid (∀ z, wayOf s.data.toList = some z → ((k + 1 : Nat) : Int) ≤ z.k) := hide (fun z hz => by
              obtain ⟨h1, h2⟩ := unhide HTT z hz
              have hw := (wayOf_isWide _ z hz).2.2.2
              rcases Int.lt_or_le (k : Int) z.k with h | h
              · omega
              · have := h2 (by omega)
                omega)
            go_wp2
            go_roundw
            case rel => exact ⟨k + 1, by omega, by omega, by go_num, HNEXT, hbt⟩
            case measure => simp [intOf]; omega
      · obtain rfl : k = 4 := by omega
        have hki : ¬ ((4 : Nat) : Int) ≤ 3 := by omega
        have hno : wayOf s.data.toList = none := by
          cases hz : wayOf s.data.toList with
          | none => rfl
          | some z =>
            have h1 := unhide HK z hz
            have h2 := (wayOf_isWide _ z hz).1
            omega
        have HNO := hide hno
        obtain ⟨⟨c0, c1, c2, c3⟩, f0, f1, f2, f3⟩ := ((unhide HX1).below hbr (by omega)).all
        have hbl : Below w.heap.size w wr := (unhide HL1).trans (hbr.mono (by omega))
        clear hno hbr
        go_wp2
        refine bodyPost_ret (v := .tuple #[(⟨0, 0, 0, 0⟩ : Wy).v, .bool false]) (by simp [results, Tryz.results50, go_sem, c0, c1, c2, c3, Wy.v]) rfl ?_
        exact ⟨⟨⟨0, 0, 0, 0⟩, false, rfl, unhide HNO⟩, below_set4 (Nat.le_refl _) hbl⟩
end Go.Proofs.YtfhmpgjemobjhaaGreatDoor
