/-
  board.reader.position, walked.
-/
import Derived.Test.YtbcedjjocpjkjaaDoorW48
import Derived.Deep.RegionHeld3
namespace Go.Proofs.YtbcedjjocpjkjaaDoor
open Go.RowKit
attribute [local go_sem ↓] Go.wp_at_zero Go.wp_at_succ

theorem isBx.lt {w : World} {p : Nat} {x0 x1 x2 x3 x4 x5 : Value} (h : isBx w p x0 x1 x2 x3 x4 x5) : p < w.heap.size := by
  rcases Nat.lt_or_ge p w.heap.size with h' | h'
  · exact h'
  · unfold isBx at h; simp [Array.getElem?_eq_none h'] at h
theorem cell_far {w : World} {g o p i : Nat} {u : Value} (h : g ≠ p) : (w.setCell ⟨p, i, none⟩ u).cell? ⟨g, o, none⟩ = w.cell? ⟨g, o, none⟩ := World.cell?_of_block (w := w) (Below.heap_setCell _ _ _ _ h)

set_option maxHeartbeats 2000000 in
set_option maxRecDepth 100000 in
theorem position_any (b : Nat) (s : ByteArray) (w : World) (h : isRd w b s 0) (hs : s.size ≤ maxLen) :
    Calls Tryd.prog 14 #[.pointer (some ⟨b, 0, none⟩)] w fun e w' => ∃ v, e = .returned (.tuple #[v, .bool (posF s.data.toList).1.isSome]) ∧ posV (posF s.data.toList).1 v ∧ Rd w.heap.size b s (posF s.data.toList).2 w w' := by
  have hlt : b < w.heap.size := h.lt
  have hR0 := Rd.refl (B := w.heap.size) h
  have hbr : isRd (w.alloc (.cells #[.int .i64 0, .int .i64 0, .string ⟨#[]⟩, .int .i64 0, .string ⟨#[]⟩, .string ⟨#[]⟩] 24 (0, 0))) b s 0 := h.below ((Below.refl _ _).alloc (Nat.le_refl _) _) hlt
  have hbx : isBx (w.alloc (.cells #[.int .i64 0, .int .i64 0, .string ⟨#[]⟩, .int .i64 0, .string ⟨#[]⟩, .string ⟨#[]⟩] 24 (0, 0))) w.heap.size (.int .i64 0) (.int .i64 0) (.string ⟨#[]⟩) (.int .i64 0) (.string ⟨#[]⟩) (.string ⟨#[]⟩) := heap_alloc_new w _
  have HW := hide (posWays s)
  generalize posF s.data.toList = P at HW ⊢
  have hrw := rows_any b 0 s _ hbr hs (Nat.zero_le _)
  rw [List.drop_zero, Nat.zero_add] at hrw
  have hsp := rowsF_s 7 1 8 s.data.toList
  have hre : (rowsF 8 1 8 s.data.toList).2.2 = rowsEnd s.data.toList := rfl
  rw [hre] at hrw hsp
  clear hre
  obtain ⟨E, hE⟩ : ∃ E, E = rowsEnd s.data.toList := ⟨_, rfl⟩
  rw [← hE] at hrw hsp
  have HE := hide hE
  clear hE
  obtain ⟨R, hR⟩ : ∃ R, R = (rowsF 8 1 8 s.data.toList).2.1 := ⟨_, rfl⟩
  rw [← hR] at hrw hsp
  have HR := hide hR
  clear hR
  have HS := hide hsp
  clear hsp
  go_enter Tryd.func14, Tryd.ntmps14
  go_wp2_with fail
  refine hrw.mono ?_
  rintro e w1 ⟨v, rfl, hr1, hown⟩
  clear hrw
  have hbx1 := hbx.rd hr1 (by simp) (by omega)
  have hr2 : Rd w.heap.size b s E w w1 := (hR0.below ((Below.refl _ _).alloc (Nat.le_refl _) _) hlt).trans (hr1.mono (by simp))
  have hs1 : w.heap.size + 1 ≤ w1.heap.size := by have := hr1.size; simpa using this
  clear hbx hR0 hbr hr1
  obtain ⟨⟨q0, q1, q2, q3, q4, q5⟩, z0, z1, z2, z3, z4, z5⟩ := hbx1.all
  cases k0 : (rowsF 8 1 8 s.data.toList).1 with
  | false =>
    have hP := (unhide HW).a k0
    have HP := hide hP
    clear hP
    go_wp2
    refine bodyPost_ret (v := .tuple #[sixV 0 0 ⟨#[]⟩ 0 ⟨#[]⟩ ⟨#[]⟩, .bool false]) (by simp [results, Tryd.results14, go_sem, q0, q1, q2, q3, q4, q5, sixV]) rfl ⟨_, by rw [unhide HP]; rfl, by rw [unhide HP]; exact posV_none _ _ _ _ _ _, by rw [unhide HP, ← unhide HE]; exact hr2.put6 (Nat.le_refl _) hlt⟩
  | true =>
    have hown1 := hown k0
    obtain ⟨r1, r2, r3, r4, V, r5, r6, r7⟩ := unhide HS k0
    rw [len_data] at r3
    clear hown
    go_wp2_with fail
    refine (take_any b E 32 s _ hr2.rd (by decide) hs).mono ?_
    rintro e w2 ⟨rfl, hr3⟩
    have hr4 := hr2.trans (hr3.mono hr2.size)
    have hbx2 := hbx1.rd hr3 (by omega) (by omega)
    have hown2 := own_rd hown1 hr3 (by simp; omega)
    have hs2 : w1.heap.size ≤ w2.heap.size := hr3.size
    clear hr3 hr2 hbx1 hown1 q0 q1 q2 q3 q4 q5 z0 z1 z2 z3 z4 z5
    obtain ⟨⟨q0, q1, q2, q3, q4, q5⟩, z0, z1, z2, z3, z4, z5⟩ := hbx2.all
    cases k1 : atB s.data.toList E 32 with
    | false =>
      have hP := (unhide HW).b k0 (by rw [← unhide HE]; exact k1)
      have HP := hide hP
      clear hP
      rw [k1, if_neg (by simp)] at hr4
      go_wp2
      refine bodyPost_ret (v := .tuple #[sixV 0 0 ⟨#[]⟩ 0 ⟨#[]⟩ ⟨#[]⟩, .bool false]) (by simp [results, Tryd.results14, go_sem, q0, q1, q2, q3, q4, q5, sixV]) rfl ⟨_, by rw [unhide HP]; rfl, by rw [unhide HP]; exact posV_none _ _ _ _ _ _, by rw [unhide HP, ← unhide HE]; exact hr4.put6 (Nat.le_refl _) hlt⟩
    | true =>
      rw [k1, if_pos rfl] at hr4
      have hE1 := atB_lt k1
      rw [len_data] at hE1
      obtain ⟨n, hn⟩ : ∃ n, n = R.length := ⟨_, rfl⟩
      have h0 : 0 < R.length := List.length_pos_iff.2 r1
      have h8 : ∀ r ∈ R, r.length ≤ 8 := fun r hr => by have := (r7 r hr).1; omega
      obtain ⟨g, cap, hv, hg1, hg2⟩ := hown2.form h0
      subst hv
      obtain ⟨x, hx⟩ : ∃ x, R[0]? = some x := ⟨R[0], List.getElem?_eq_getElem h0⟩
      have hxl : ((R.headD []).length : Int) = (x.length : Int) := by
        cases hR : R with
        | nil => rw [hR] at h0; simp at h0
        | cons y t => rw [hR] at hx; simp at hx; simp [hx]
      have hc0 : w2.cell? ⟨g, 0, none⟩ = some (.string ⟨x.toArray⟩) := by
        rw [World.ownsRow.cellAt hown2 0 (by omega)]
        simp [rvals, hx]
      have HXL := hide hxl
      have hgne : g ≠ w.heap.size := by simp at hg1; omega
      clear hxl hx r4 r5 r6 r7 hn n
      have hxs : (⟨x.toArray⟩ : ByteArray).size = x.length := by show x.toArray.size = _; simp
      go_wp2
      go_region_held3 (fun w' => w'.cell? ⟨g, 0, none⟩ = some (.string ⟨x.toArray⟩))
        (first
          | (go_keep; done)
          | ((repeat rw [cell_far hgne]); first | assumption | (rw [hbf.cell (by first | omega | (dsimp only [World.drew]; omega) | (simp; omega))]; assumption)))
        (first | (go_at_call 26; refine (fromBottom_any R _ g cap _ (hown2.drew) h0 r2 h8).mono ?_; rintro e wf ⟨rfl, hbf⟩; have hsf := hbf.size; have hbxf := isBx.below (w := w2.drew) hbx2 hbf (by first | omega | (dsimp only [World.drew]; omega) | (simp; omega)); obtain ⟨⟨y0, y1, y2, y3, y4, y5⟩, x0, x1, x2, x3, x4, x5⟩ := hbxf.all))
      have hr5 : Rd w.heap.size b s (E + 1) w wf := (hr4.drewN 1).below (hbf.mono (by dsimp only [World.drew]; omega)) hlt
      have hbx3 := hbxf.set012 (.int .i64 (x.length : Int)) (.int .i64 (R.length : Int)) (.string ⟨R.reverse.flatten.toArray⟩)
      have hr6 := ((hr5.put (p := ⟨w.heap.size, 0, none⟩) (Nat.le_refl _) hlt (.int .i64 (x.length : Int))).put (p := ⟨w.heap.size, 1, none⟩) (Nat.le_refl _) hlt (.int .i64 (R.length : Int))).put (p := ⟨w.heap.size, 2, none⟩) (Nat.le_refl _) hlt (.string ⟨R.reverse.flatten.toArray⟩)
      clear hr5 hbxf hbx2 hr4 hbf y0 y1 y2 y3 y4 y5 x0 x1 x2 x3 x4 x5 q0 q1 q2 q3 q4 q5 z0 z1 z2 z3 z4 z5 hown2 hc0
      go_wp2_with fail
      refine (turn_any b (E + 1) s _ hr6.rd hs).mono ?_
      rintro e w3 ⟨rfl, hr7⟩
      have hbx4 := hbx3.rd hr7 hbx3.lt (by omega)
      have hr8 := hr6.trans (hr7.mono hr6.size)
      clear hbx3 hr6 hr7
      have hno := turnF_no s.data.toList (E + 1)
      have hyes := turnF_yes s.data.toList (E + 1)
      have HTF : Hid (turnF s.data.toList (E + 1) = turnF s.data.toList (rowsEnd s.data.toList + 1)) := by show _ = _; rw [unhide HE]
      obtain ⟨F, hF⟩ : ∃ F, F = turnF s.data.toList (E + 1) := ⟨_, rfl⟩
      rw [← hF] at hno hyes hr8 ⊢
      have HF := hide hF
      clear hF
      obtain ⟨T, hT⟩ : ∃ T, T = F.2.1 := ⟨_, rfl⟩
      rw [← hT]
      have HT := hide hT
      clear hT
      obtain ⟨⟨q0, q1, q2, q3, q4, q5⟩, z0, z1, z2, z3, z4, z5⟩ := hbx4.all
      cases k2 : F.1 with
      | false =>
        have hP := (unhide HW).c k0 (by rw [← unhide HE]; exact k1) (by rw [← unhide HTF, ← unhide HF]; exact k2)
        have HP := hide hP
        clear hP
        have hn := hno k2
        rw [hn] at hr8
        clear hno hyes hn
        go_wp2
        refine bodyPost_ret (v := .tuple #[sixV (x.length : Int) (R.length : Int) ⟨R.reverse.flatten.toArray⟩ T ⟨#[]⟩ ⟨#[]⟩, .bool false]) (by simp [results, Tryd.results14, go_sem, q0, q1, q2, q3, q4, q5, sixV]) rfl ⟨_, by rw [unhide HP]; rfl, by rw [unhide HP]; exact posV_none _ _ _ _ _ _, by rw [unhide HP, ← unhide HE]; exact (hr8.put (p := ⟨w.heap.size, 3, none⟩) (Nat.le_refl _) hlt _).put6 (Nat.le_refl _) hlt⟩
      | true =>
        obtain ⟨hy, hyl⟩ := hyes k2
        rw [show F.2.2 = E + 2 by omega] at hr8
        rw [len_data] at hyl
        clear hno hyes hy
        have hbx5 := hbx4.set3 (.int .i64 T)
        have hr9 := hr8.put (p := ⟨w.heap.size, 3, none⟩) (Nat.le_refl _) hlt (.int .i64 T)
        go_wp2_with fail
        refine (take_any b (E + 2) 32 s _ hr9.rd (by decide) hs).mono ?_
        rintro e w4 ⟨rfl, hr10⟩
        have hbx6 := hbx5.rd hr10 hbx5.lt (by omega)
        have hr11 := hr9.trans (hr10.mono hr9.size)
        clear hr8 hr9 hr10 hbx4 hbx5 q0 q1 q2 q3 q4 q5 z0 z1 z2 z3 z4 z5
        obtain ⟨⟨q0, q1, q2, q3, q4, q5⟩, z0, z1, z2, z3, z4, z5⟩ := hbx6.all
        cases k3 : atB s.data.toList (E + 2) 32 with
        | false =>
          have hP := (unhide HW).d k0 (by rw [← unhide HE]; exact k1) (by rw [← unhide HTF, ← unhide HF]; exact k2) (by rw [← unhide HE]; exact k3)
          have HP := hide hP
          clear hP
          rw [k3, if_neg (by simp)] at hr11
          go_wp2
          refine bodyPost_ret (v := .tuple #[sixV (x.length : Int) (R.length : Int) ⟨R.reverse.flatten.toArray⟩ T ⟨#[]⟩ ⟨#[]⟩, .bool false]) (by simp [results, Tryd.results14, go_sem, q0, q1, q2, q3, q4, q5, sixV]) rfl ⟨_, by rw [unhide HP]; rfl, by rw [unhide HP]; exact posV_none _ _ _ _ _ _, by rw [unhide HP, ← unhide HE]; exact hr11.put6 (Nat.le_refl _) hlt⟩
        | true =>
          rw [k3, if_pos rfl] at hr11
          have hE3 := atB_lt k3
          rw [len_data] at hE3
          have hHle := handE_le s (E + 3) (by omega)
          go_wp2_with fail
          refine (hand_any b (E + 3) s _ hr11.rd hs (by omega)).mono ?_
          rintro e w5 ⟨rfl, hr12⟩
          have hbx7 := hbx6.rd hr12 hbx6.lt (by omega)
          have hr13 := hr11.trans (hr12.mono hr11.size)
          clear hr11 hr12 hbx6 q0 q1 q2 q3 q4 q5 z0 z1 z2 z3 z4 z5
          obtain ⟨⟨q0, q1, q2, q3, q4, q5⟩, z0, z1, z2, z3, z4, z5⟩ := hbx7.all
          unfold handV
          obtain ⟨A, hA⟩ : ∃ A : ByteArray, A = ⟨(handF (s.data.toList.drop (E + 3))).2.1.toArray⟩ := ⟨_, rfl⟩
          rw [← hA]
          have HA := hide hA
          obtain ⟨n1, hn1⟩ : ∃ n1, n1 = handE s (E + 3) := ⟨_, rfl⟩
          rw [← hn1] at hr13 hHle
          have HN1 : Hid (handE s (rowsEnd s.data.toList + 3) = n1) := by show _ = _; rw [← unhide HE, hn1]
          have HH1 : Hid (handF (s.data.toList.drop (rowsEnd s.data.toList + 3)) = handF (s.data.toList.drop (E + 3))) := by show _ = _; rw [← unhide HE]
          clear hA hn1
          cases k4 : (handF (s.data.toList.drop (E + 3))).1 with
          | false =>
            have hP := (unhide HW).e k0 (by rw [← unhide HE]; exact k1) (by rw [← unhide HTF, ← unhide HF]; exact k2) (by rw [← unhide HE]; exact k3) (by rw [unhide HH1]; exact k4)
            rw [unhide HN1] at hP
            have HP := hide hP
            clear hP
            go_wp2
            refine bodyPost_ret (v := .tuple #[sixV (x.length : Int) (R.length : Int) ⟨R.reverse.flatten.toArray⟩ T A ⟨#[]⟩, .bool false]) (by simp [results, Tryd.results14, go_sem, q0, q1, q2, q3, q4, q5, sixV]) rfl ⟨_, by rw [unhide HP]; rfl, by rw [unhide HP]; exact posV_none _ _ _ _ _ _, by rw [unhide HP]; exact (hr13.put (p := ⟨w.heap.size, 4, none⟩) (Nat.le_refl _) hlt _).put6 (Nat.le_refl _) hlt⟩
          | true =>
            have hn1s : n1 ≤ s.size := by
              rcases hHle with h1 | h1
              · exact h1
              · rw [k4] at h1; cases h1
            have hbx8 := hbx7.set4 (.string A)
            have hr14 := hr13.put (p := ⟨w.heap.size, 4, none⟩) (Nat.le_refl _) hlt (.string A)
            clear hHle
            go_wp2_with fail
            refine (take_any b n1 47 s _ hr14.rd (by decide) hs).mono ?_
            rintro e w6 ⟨rfl, hr15⟩
            have hbx9 := hbx8.rd hr15 hbx8.lt (by omega)
            have hr16 := hr14.trans (hr15.mono hr14.size)
            clear hr13 hr14 hr15 hbx7 hbx8 q0 q1 q2 q3 q4 q5 z0 z1 z2 z3 z4 z5
            obtain ⟨⟨q0, q1, q2, q3, q4, q5⟩, z0, z1, z2, z3, z4, z5⟩ := hbx9.all
            cases k5 : atB s.data.toList n1 47 with
            | false =>
              have hP := (unhide HW).f k0 (by rw [← unhide HE]; exact k1) (by rw [← unhide HTF, ← unhide HF]; exact k2) (by rw [← unhide HE]; exact k3) (by rw [unhide HH1]; exact k4) (by rw [unhide HN1]; exact k5)
              rw [unhide HN1] at hP
              have HP := hide hP
              clear hP
              rw [k5, if_neg (by simp)] at hr16
              go_wp2
              refine bodyPost_ret (v := .tuple #[sixV (x.length : Int) (R.length : Int) ⟨R.reverse.flatten.toArray⟩ T A ⟨#[]⟩, .bool false]) (by simp [results, Tryd.results14, go_sem, q0, q1, q2, q3, q4, q5, sixV]) rfl ⟨_, by rw [unhide HP]; rfl, by rw [unhide HP]; exact posV_none _ _ _ _ _ _, by rw [unhide HP]; exact hr16.put6 (Nat.le_refl _) hlt⟩
            | true =>
              rw [k5, if_pos rfl] at hr16
              have hE5 := atB_lt k5
              rw [len_data] at hE5
              go_wp2_with fail
              refine (hand_any b (n1 + 1) s _ hr16.rd hs (by omega)).mono ?_
              rintro e w7 ⟨rfl, hr17⟩
              have hbx10 := hbx9.rd hr17 hbx9.lt (by omega)
              have hr18 := hr16.trans (hr17.mono hr16.size)
              clear hr16 hr17 hbx9 q0 q1 q2 q3 q4 q5 z0 z1 z2 z3 z4 z5
              obtain ⟨⟨q0, q1, q2, q3, q4, q5⟩, z0, z1, z2, z3, z4, z5⟩ := hbx10.all
              unfold handV
              obtain ⟨B, hB⟩ : ∃ B : ByteArray, B = ⟨(handF (s.data.toList.drop (n1 + 1))).2.1.toArray⟩ := ⟨_, rfl⟩
              rw [← hB]
              have HB := hide hB
              clear hB
              cases k6 : (handF (s.data.toList.drop (n1 + 1))).1 with
              | false =>
                have hP := (unhide HW).g k0 (by rw [← unhide HE]; exact k1) (by rw [← unhide HTF, ← unhide HF]; exact k2) (by rw [← unhide HE]; exact k3) (by rw [unhide HH1]; exact k4) (by rw [unhide HN1]; exact k5) (by rw [unhide HN1]; exact k6)
                rw [unhide HN1] at hP
                have HP := hide hP
                clear hP
                go_wp2
                refine bodyPost_ret (v := .tuple #[sixV (x.length : Int) (R.length : Int) ⟨R.reverse.flatten.toArray⟩ T A B, .bool false]) (by simp [results, Tryd.results14, go_sem, q0, q1, q2, q3, q4, q5, sixV]) rfl ⟨_, by rw [unhide HP]; rfl, by rw [unhide HP]; exact posV_none _ _ _ _ _ _, by rw [unhide HP]; exact (hr18.put (p := ⟨w.heap.size, 5, none⟩) (Nat.le_refl _) hlt _).put6 (Nat.le_refl _) hlt⟩
              | true =>
                have hP := (unhide HW).h k0 (by rw [← unhide HE]; exact k1) (by rw [← unhide HTF, ← unhide HF]; exact k2) (by rw [← unhide HE]; exact k3) (by rw [unhide HH1]; exact k4) (by rw [unhide HN1]; exact k5) (by rw [unhide HN1]; exact k6)
                rw [unhide HN1, unhide HH1, ← unhide HTF, ← unhide HF, ← unhide HT, ← unhide HR] at hP
                have HP := hide hP
                clear hP
                go_wp2
                refine bodyPost_ret (v := .tuple #[sixV (x.length : Int) (R.length : Int) ⟨R.reverse.flatten.toArray⟩ T A B, .bool true]) (by simp [results, Tryd.results14, go_sem, q0, q1, q2, q3, q4, q5, sixV]) rfl ⟨_, by rw [unhide HP]; rfl, ?_, by rw [unhide HP]; exact (hr18.put (p := ⟨w.heap.size, 5, none⟩) (Nat.le_refl _) hlt _).put6 (Nat.le_refl _) hlt⟩
                rw [unhide HP]
                refine ⟨_, _, _, _, _, _, rfl, ?_⟩
                rintro y hy
                simp only [Option.some.injEq] at hy
                subst hy
                exact ⟨(unhide HXL).symm, rfl, rfl, rfl, unhide HA, unhide HB⟩
end Go.Proofs.YtbcedjjocpjkjaaDoor
