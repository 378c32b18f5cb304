/-
  package nim, walked: Win.
-/
import Derived.Test.YtphnjedoghopcaaQ27
namespace Go.Proofs.Ytphnjedoghopcaa
open Go.RowKit
attribute [local go_sem ↓] Go.wp_at_zero Go.wp_at_succ

set_option maxHeartbeats 4000000 in
set_option maxRecDepth 100000 in
theorem Win_any (s : ByteArray) (r : List Int) (ho : Option Addr) (hc : Nat) (w : World) (hs : s.size ≤ maxLen) (hH : isIs w w.heap.size ho hc r) :
    Calls Try.prog 8 #[.string s, .slice ho r.length hc] w fun e w' => WiEnd s r w e w' := by
  have hl := hH.1
  have hm := hH.2.1
  unfold maxLen at hm
  obtain ⟨wa, hwa⟩ : ∃ wa, wa = w.alloc (.cells #[.int .i64 0, .slice none 0 0] 27 (0, 0)) := ⟨_, rfl⟩
  have hba : Below w.heap.size w wa := by rw [hwa]; exact (Below.refl _ _).alloc (Nat.le_refl _) _
  have hxa : isHb wa w.heap.size 0 (.slice none 0 0) := by rw [hwa]; exact heap_alloc_new w _
  have hHa := hH.up hba
  have HT := hide (takingOf_any s wa hs)
  have HAH := hide (areHeaps_any _ ho hc r wa hHa)
  obtain ⟨x0, x1, z0, z1⟩ := hxa.all
  obtain ⟨wb, hwb⟩ : ∃ wb, wb = (wa.setCell ⟨w.heap.size, 0, none⟩ (.int .i64 0)).setCell ⟨w.heap.size, 1, none⟩ (.slice none 0 0) := ⟨_, rfl⟩
  have hxb : isHb wb w.heap.size 0 (.slice none 0 0) := by
    rw [hwb]; have := hxa; unfold isHb at this ⊢; simp [World.setCell, Array.getElem?_modify, this]
  have hbb : Below w.heap.size w wb := by
    rw [hwb]
    exact (hba.setCell (p := ⟨w.heap.size, 0, none⟩) (Nat.le_refl _) _).setCell (p := ⟨w.heap.size, 1, none⟩) (Nat.le_refl _) _
  obtain ⟨t0, t1, -, -⟩ := hxb.all
  have HWA := hide hwa
  have HWB := hide hwb
  cases hcd : codeB s with
  | false =>
    rw [hcd] at HT
    simp only [Bool.false_eq_true, if_false] at HT
    have HE : Hid (WiEnd s r w (.returned (.tuple #[.bool false, .agg #[.int .i64 0, .slice none 0 0], .int .i64 3])) wb) := hide ⟨hbb, fun _ => rfl, (fun h => by rw [hcd] at h; cases h), (fun _ h => by rw [hcd] at h; cases h), (fun _ _ _ h => by rw [hcd] at h; cases h)⟩
    clear hwa hwb hba hbb hxa hxb hHa hH hcd hs HAH
    go_enter Try.func8, Try.ntmps8
    go_wp2_with fail
    rw [← unhide HWA]
    refine (unhide HT).mono ?_
    rintro e w1 ⟨rfl, rfl⟩
    clear HWA
    go_wp2
    rw [← unhide HWB]
    exact bodyPost_ret (v := .tuple #[.bool false, .agg #[.int .i64 0, .slice none 0 0], .int .i64 3]) (by simp [results, Try.results8, go_sem, t0, t1]) rfl (unhide HE)
  | true =>
    rw [hcd] at HT
    simp only [if_true] at HT
    obtain ⟨h6, hdg⟩ := code_dig hcd
    by_cases hbad : r.length ≤ 20 ∧ r.all heapB = true
    · obtain ⟨h20, hall⟩ := hbad
      have h20i : ¬ (20 : Int) < (r.length : Int) := by omega
      obtain ⟨hr, h400⟩ := heaps_nat hall
      obtain ⟨hsl, hhs⟩ : ∃ hsl, hsl = r.map Int.toNat := ⟨_, rfl⟩
      rw [← hhs] at hr h400
      have hlen : r.length = hsl.length := by rw [hr, natI_len]
      rw [hall] at HAH
      have hHa' := hHa
      rw [hr] at hHa'
      have hWN := win_any (dig s) hsl ho hc wa h6 hdg h400 hHa'
      obtain ⟨o, hoo⟩ : ∃ o, o = winO (digs (dig s)) hsl := ⟨_, rfl⟩
      rw [← hoo, ← hlen] at hWN
      have HWN := hide hWN
      have HFIN : Hid (∀ (i : Int) (v : Value) (b : Bool) (u : World), Below w.heap.size w u → ((o = none → i = 0 ∧ v = .slice none 0 0 ∧ b = false) ∧ ∀ j x, o = some (j, x) → b = true ∧ i = (j : Int) ∧ ∃ ao cap, v = .slice ao x.length cap ∧ isIs u u.heap.size ao cap (natI x)) → WiEnd s r w (.returned (.tuple #[.bool b, .agg #[.int .i64 i, v], .int .i64 0])) u) := hide (fun i v b u hbu ⟨hn, hsm⟩ => by
        refine ⟨hbu, (fun h => by rw [hcd] at h; cases h), (fun _ h => absurd ⟨h20, hall⟩ h), fun hs2 _ e2 _ h0 => ?_, fun hs2 j x _ e2 _ h0 => ?_⟩
        · obtain rfl : hs2 = hsl := natI_inj (e2.symm.trans hr)
          obtain ⟨rfl, rfl, rfl⟩ := hn (hoo.trans h0)
          rfl
        · obtain rfl : hs2 = hsl := natI_inj (e2.symm.trans hr)
          obtain ⟨rfl, rfl, ao, cap, rfl, hI⟩ := hsm j x (hoo.trans h0)
          exact ⟨ao, cap, rfl, hI⟩)
      have HXA := hide hxa
      have HBA := hide hba
      generalize dig s = d at *
      clear hwa hwb hba hbb hxa hxb hHa hHa' hH hcd hs hr hhs hoo hWN h400 hall h6 hdg t0 t1 HWB hlen
      go_enter Try.func8, Try.ntmps8
      go_wp2_with fail
      rw [← unhide HWA]
      refine (unhide HT).mono ?_
      rintro e w1 ⟨rfl, rfl⟩
      clear HWA
      go_wp2_with fail
      refine (unhide HAH).mono ?_
      rintro e w2 ⟨rfl, rfl⟩
      go_wp2_with fail
      refine (unhide HWN).mono ?_
      rintro e w3 hwn
      have hb3 := hwn.low
      obtain ⟨i, v, b, rfl, hiv⟩ : ∃ (i : Int) (v : Value) (b : Bool), e = .returned (.tuple #[.agg #[.int .i64 i, v], .bool b]) ∧ ((o = none → i = 0 ∧ v = .slice none 0 0 ∧ b = false) ∧ ∀ j x, o = some (j, x) → b = true ∧ i = (j : Int) ∧ ∃ ao cap, v = .slice ao x.length cap ∧ isIs w3 w3.heap.size ao cap (natI x) ∧ ∀ k, (Value.slice ao x.length cap).ownBlock = some k → w.heap.size < k) ∧ (∃ vo vl vc, v = .slice vo vl vc) := by
        cases ho : o with
        | none => exact ⟨0, _, false, hwn.none_ ho, ⟨fun _ => ⟨rfl, rfl, rfl⟩, (fun j x h => by cases h)⟩, _, _, _, rfl⟩
        | some p =>
          obtain ⟨j, x⟩ := p
          obtain ⟨ao, cap, he, hI, hwk⟩ := hwn.some_ j x ho
          exact ⟨(j : Int), _, true, he, ⟨(fun h => by cases h), (fun j2 x2 h => by cases h; exact ⟨rfl, rfl, ao, cap, rfl, hI, fun k hk => Nat.lt_of_lt_of_le (unhide HXA).lt (hwk k hk)⟩)⟩, _, _, _, rfl⟩
      obtain ⟨hiv, vo, vl, vc, rfl⟩ := hiv
      have hx3 : isHb w3 w.heap.size 0 (.slice none 0 0) := (hb3.block _ (unhide HXA).lt).trans (unhide HXA)
      obtain ⟨w4, hw4⟩ : ∃ w4, w4 = w3.alloc (.cells #[.int .i64 i, .slice vo vl vc] 27 (0, 0)) := ⟨_, rfl⟩
      have hb4 : Below w3.heap.size w3 w4 := by rw [hw4]; exact (Below.refl _ _).alloc (Nat.le_refl _) _
      have hx4 : isHb w4 w3.heap.size i (.slice vo vl vc) := by rw [hw4]; exact heap_alloc_new w3 _
      have hx40 : isHb w4 w.heap.size 0 (.slice none 0 0) := (hb4.block _ hx3.lt).trans hx3
      have m0 : w4.drew.cell? ⟨w3.heap.size, 0, none⟩ = some (.int .i64 i) := hx4.all.1
      have m1 : w4.drew.cell? ⟨w3.heap.size, 1, none⟩ = some (.slice vo vl vc) := hx4.all.2.1
      have n0 : w4.drew.cell? ⟨w.heap.size, 0, none⟩ = some (.int .i64 0) := hx40.all.1
      have n1 : w4.drew.cell? ⟨w.heap.size, 1, none⟩ = some (.slice none 0 0) := hx40.all.2.1
      have p0 : w4.drew.frozen? ⟨w.heap.size, 0, none⟩ = false := hx40.all.2.2.1
      have p1 : w4.drew.frozen? ⟨w.heap.size, 1, none⟩ = false := hx40.all.2.2.2
      have n1' : w4.cell? ⟨w.heap.size, 1, none⟩ = some (.slice none 0 0) := hx40.all.2.1
      have p1' : w4.frozen? ⟨w.heap.size, 1, none⟩ = false := hx40.all.2.2.2
      obtain ⟨w6, hw6⟩ : ∃ w6, w6 = ((w4.setCell ⟨w.heap.size, 0, none⟩ (.int .i64 i)).setCell ⟨w.heap.size, 1, none⟩ (.slice vo vl vc)).drew := ⟨_, rfl⟩
      have hx6 : isHb w6 w.heap.size i (.slice vo vl vc) := by
        rw [hw6]; have := hx40; unfold isHb at this ⊢
        show ((w4.setCell ⟨w.heap.size, 0, none⟩ (.int .i64 i)).setCell ⟨w.heap.size, 1, none⟩ (.slice vo vl vc)).heap[w.heap.size]? = _
        simp [World.setCell, Array.getElem?_modify, this]
      have hs6 : w6.heap.size = w4.heap.size := by rw [hw6]; simp [World.setCell]
      have hoth : ∀ j, j ≠ w.heap.size → w6.heap[j]? = w4.heap[j]? := fun j hj => by
        rw [hw6]
        exact (Below.heap_setCell _ _ _ _ (by simp only; omega)).trans (Below.heap_setCell _ _ _ _ (by simp only; omega))
      have hbw4 : Below w.heap.size w w4 := ((unhide HBA).trans (hb3.mono (unhide HBA).size)).trans (hb4.mono (by have := hx3.lt; omega))
      have hlow6 : Below w.heap.size w w6 := by
        rw [hw6]
        exact ((hbw4.setCell (p := ⟨w.heap.size, 0, none⟩) (Nat.le_refl _) _).setCell (p := ⟨w.heap.size, 1, none⟩) (Nat.le_refl _) _).drew
      obtain ⟨t0, t1, -, -⟩ := hx6.all
      have HE := hide (unhide HFIN i (.slice vo vl vc) b w6 hlow6 ⟨hiv.1, fun j x h => by
        obtain ⟨e1, e2, ao, cap, e3, hI, hwk⟩ := hiv.2 j x h
        refine ⟨e1, e2, ao, cap, e3, ?_⟩
        have hI4 := hI.up hb4
        obtain ⟨q1, q2, q3⟩ := hI4
        refine ⟨q1, q2, fun hne => ?_⟩
        obtain ⟨g, off, e, hg, hcc⟩ := q3 hne
        refine ⟨g, off, e, by rw [hs6]; exact hg, fun j y hy => ?_⟩
        have hgb : g ≠ w.heap.size := fun hgw => by
          have := hwk g (by rw [e]; rfl)
          omega
        exact (World.cell?_of_block (a := ⟨g, off + j, none⟩) (hoth g hgb)).trans (hcc j y hy)⟩)
      have HW4 := hide hw4
      have HW6 := hide hw6
      clear hw4 hw6 hx4 hx40 hx6 hs6 hoth hlow6 hbw4 hb4 hb3 hx3 hiv hwn HFIN
      go_upto_region 7 with fail
      rw [← unhide HW4]
      go_region
      all_goals go_wp2
      all_goals rw [← unhide HW6]
      all_goals exact bodyPost_ret (v := .tuple #[.bool b, .agg #[.int .i64 i, .slice vo vl vc], .int .i64 0]) (by simp [results, Try.results8, go_sem, t0, t1]) rfl (unhide HE)
    · have HE : Hid (WiEnd s r w (.returned (.tuple #[.bool false, .agg #[.int .i64 0, .slice none 0 0], .int .i64 4])) wb) := hide ⟨hbb, (fun h => by rw [hcd] at h; cases h), fun _ _ => rfl, (fun hs2 _ e2 h2 => absurd ⟨by rw [e2, natI_len]; exact h2.1, by rw [e2]; exact natI_heaps h2.2⟩ hbad), (fun hs2 _ _ _ e2 h2 => absurd ⟨by rw [e2, natI_len]; exact h2.1, by rw [e2]; exact natI_heaps h2.2⟩ hbad)⟩
      generalize dig s = d at *
      by_cases h20 : 20 < r.length
      · have h20i : (20 : Int) < (r.length : Int) := by omega
        clear hwa hwb hba hbb hxa hxb hHa hH hcd hs HAH hbad h6 hdg h20
        go_enter Try.func8, Try.ntmps8
        go_wp2_with fail
        rw [← unhide HWA]
        refine (unhide HT).mono ?_
        rintro e w1 ⟨rfl, rfl⟩
        clear HWA
        go_wp2
        rw [← unhide HWB]
        exact bodyPost_ret (v := .tuple #[.bool false, .agg #[.int .i64 0, .slice none 0 0], .int .i64 4]) (by simp [results, Try.results8, go_sem, t0, t1]) rfl (unhide HE)
      · have h20i : ¬ (20 : Int) < (r.length : Int) := by omega
        have hall : r.all heapB = false := by
          cases h : r.all heapB with
          | false => rfl
          | true => exact absurd ⟨by omega, h⟩ hbad
        rw [hall] at HAH
        clear hwa hwb hba hbb hxa hxb hHa hH hcd hs hbad h6 hdg h20 hall
        go_enter Try.func8, Try.ntmps8
        go_wp2_with fail
        rw [← unhide HWA]
        refine (unhide HT).mono ?_
        rintro e w1 ⟨rfl, rfl⟩
        clear HWA
        go_wp2_with fail
        refine (unhide HAH).mono ?_
        rintro e w2 ⟨rfl, rfl⟩
        go_wp2
        rw [← unhide HWB]
        exact bodyPost_ret (v := .tuple #[.bool false, .agg #[.int .i64 0, .slice none 0 0], .int .i64 4]) (by simp [results, Try.results8, go_sem, t0, t1]) rfl (unhide HE)
end Go.Proofs.Ytphnjedoghopcaa
