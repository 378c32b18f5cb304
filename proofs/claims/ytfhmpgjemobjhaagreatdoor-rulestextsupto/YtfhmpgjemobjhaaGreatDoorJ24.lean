/-
  board.reader.position, walked.
  board.Read, walked: the position that the whole text is, or where it goes wrong.
-/
import Derived.Test.YtfhmpgjemobjhaaGreatDoorJ23
import Derived.Deep.RegionHeld3
namespace Go.Proofs.YtfhmpgjemobjhaaGreatDoor
open Go.RowKit
attribute [local go_sem ↓] Go.wp_at_zero Go.wp_at_succ

theorem isBx.lt {w : World} {p : Nat} {x0 x1 x2 x3 x4 x5 : Value} (h : isBx w p x0 x1 x2 x3 x4 x5) : p < w.heap.size := by
  rcases Nat.lt_or_ge p w.heap.size with h' | h'
  · exact h'
  · unfold isBx at h; simp [Array.getElem?_eq_none h'] at h
theorem cell_far {w : World} {g o p i : Nat} {u : Value} (h : g ≠ p) : (w.setCell ⟨p, i, none⟩ u).cell? ⟨g, o, none⟩ = w.cell? ⟨g, o, none⟩ := World.cell?_of_block (w := w) (Below.heap_setCell _ _ _ _ h)

set_option maxHeartbeats 2000000 in
set_option maxRecDepth 100000 in
theorem position_any (b : Nat) (s : ByteArray) (w : World) (h : isRd w b s 0) (hs : s.size ≤ maxLen) :
    Calls Tryz.prog 67 #[.pointer (some ⟨b, 0, none⟩)] w fun e w' => ∃ v, e = .returned (.tuple #[v, .bool (posF s.data.toList).1.isSome]) ∧ posV (posF s.data.toList).1 v ∧ Rd w.heap.size b s (posF s.data.toList).2 w w' := by
  have hlt : b < w.heap.size := h.lt
  have hR0 := Rd.refl (B := w.heap.size) h
  have hbr : isRd (w.alloc (.cells #[.int .i64 0, .int .i64 0, .string ⟨#[]⟩, .int .i64 0, .string ⟨#[]⟩, .string ⟨#[]⟩] 24 (0, 0))) b s 0 := h.below ((Below.refl _ _).alloc (Nat.le_refl _) _) hlt
  have hbx : isBx (w.alloc (.cells #[.int .i64 0, .int .i64 0, .string ⟨#[]⟩, .int .i64 0, .string ⟨#[]⟩, .string ⟨#[]⟩] 24 (0, 0))) w.heap.size (.int .i64 0) (.int .i64 0) (.string ⟨#[]⟩) (.int .i64 0) (.string ⟨#[]⟩) (.string ⟨#[]⟩) := heap_alloc_new w _
  have HW := hide (posWays s)
  generalize posF s.data.toList = P at HW ⊢
  have hrw := rows_any b 0 s _ hbr hs (Nat.zero_le _)
  rw [List.drop_zero, Nat.zero_add] at hrw
  have hsp := rowsF_s 7 1 8 s.data.toList
  have hre : (rowsF 8 1 8 s.data.toList).2.2 = rowsEnd s.data.toList := rfl
  rw [hre] at hrw hsp
  clear hre
  obtain ⟨E, hE⟩ : ∃ E, E = rowsEnd s.data.toList := ⟨_, rfl⟩
  rw [← hE] at hrw hsp
  have HE := hide hE
  clear hE
  obtain ⟨R, hR⟩ : ∃ R, R = (rowsF 8 1 8 s.data.toList).2.1 := ⟨_, rfl⟩
  rw [← hR] at hrw hsp
  have HR := hide hR
  clear hR
  have HS := hide hsp
  clear hsp
  go_enter Tryz.func67, Tryz.ntmps67
  go_wp2_with fail
  refine hrw.mono ?_
  rintro e w1 ⟨v, rfl, hr1, hown⟩
  clear hrw
  have hbx1 := hbx.rd hr1 (by simp) (by omega)
  have hr2 : Rd w.heap.size b s E w w1 := (hR0.below ((Below.refl _ _).alloc (Nat.le_refl _) _) hlt).trans (hr1.mono (by simp))
  have hs1 : w.heap.size + 1 ≤ w1.heap.size := by have := hr1.size; simpa using this
  clear hbx hR0 hbr hr1
  obtain ⟨⟨q0, q1, q2, q3, q4, q5⟩, z0, z1, z2, z3, z4, z5⟩ := hbx1.all
  cases k0 : (rowsF 8 1 8 s.data.toList).1 with
  | false =>
    have hP := (unhide HW).a k0
    have HP := hide hP
    clear hP
    go_wp2
    refine bodyPost_ret (v := .tuple #[sixV 0 0 ⟨#[]⟩ 0 ⟨#[]⟩ ⟨#[]⟩, .bool false]) (by simp [results, Tryz.results67, go_sem, q0, q1, q2, q3, q4, q5, sixV]) rfl ⟨_, by rw [unhide HP]; rfl, by rw [unhide HP]; exact posV_none _ _ _ _ _ _, by rw [unhide HP, ← unhide HE]; exact hr2.put6 (Nat.le_refl _) hlt⟩
  | true =>
    have hown1 := hown k0
    obtain ⟨r1, r2, r3, r4, V, r5, r6, r7⟩ := unhide HS k0
    rw [len_data] at r3
    clear hown
    go_wp2_with fail
    refine (take_any b E 32 s _ hr2.rd (by decide) hs).mono ?_
    rintro e w2 ⟨rfl, hr3⟩
    have hr4 := hr2.trans (hr3.mono hr2.size)
    have hbx2 := hbx1.rd hr3 (by omega) (by omega)
    have hown2 := own_rd hown1 hr3 (by simp; omega)
    have hs2 : w1.heap.size ≤ w2.heap.size := hr3.size
    clear hr3 hr2 hbx1 hown1 q0 q1 q2 q3 q4 q5 z0 z1 z2 z3 z4 z5
    obtain ⟨⟨q0, q1, q2, q3, q4, q5⟩, z0, z1, z2, z3, z4, z5⟩ := hbx2.all
    cases k1 : atB s.data.toList E 32 with
    | false =>
      have hP := (unhide HW).b k0 (by rw [← unhide HE]; exact k1)
      have HP := hide hP
      clear hP
      rw [k1, if_neg (by simp)] at hr4
      go_wp2
      refine bodyPost_ret (v := .tuple #[sixV 0 0 ⟨#[]⟩ 0 ⟨#[]⟩ ⟨#[]⟩, .bool false]) (by simp [results, Tryz.results67, go_sem, q0, q1, q2, q3, q4, q5, sixV]) rfl ⟨_, by rw [unhide HP]; rfl, by rw [unhide HP]; exact posV_none _ _ _ _ _ _, by rw [unhide HP, ← unhide HE]; exact hr4.put6 (Nat.le_refl _) hlt⟩
    | true =>
      rw [k1, if_pos rfl] at hr4
      have hE1 := atB_lt k1
      rw [len_data] at hE1
      obtain ⟨n, hn⟩ : ∃ n, n = R.length := ⟨_, rfl⟩
      have h0 : 0 < R.length := List.length_pos_iff.2 r1
      have h8 : ∀ r ∈ R, r.length ≤ 8 := fun r hr => by have := (r7 r hr).1; omega
      obtain ⟨g, cap, hv, hg1, hg2⟩ := hown2.form h0
      subst hv
      obtain ⟨x, hx⟩ : ∃ x, R[0]? = some x := ⟨R[0], List.getElem?_eq_getElem h0⟩
      have hxl : ((R.headD []).length : Int) = (x.length : Int) := by
        cases hR : R with
        | nil => rw [hR] at h0; simp at h0
        | cons y t => rw [hR] at hx; simp at hx; simp [hx]
      have hc0 : w2.cell? ⟨g, 0, none⟩ = some (.string ⟨x.toArray⟩) := by
        rw [World.ownsRow.cellAt hown2 0 (by omega)]
        simp [rvals, hx]
      have HXL := hide hxl
      have hgne : g ≠ w.heap.size := by simp at hg1; omega
      clear hxl hx r4 r5 r6 r7 hn n
      have hxs : (⟨x.toArray⟩ : ByteArray).size = x.length := by show x.toArray.size = _; simp
      go_wp2
      go_region_held3 (fun w' => w'.cell? ⟨g, 0, none⟩ = some (.string ⟨x.toArray⟩))
        (first
          | (go_keep; done)
          | ((repeat rw [cell_far hgne]); first | assumption | (rw [hbf.cell (by first | omega | (dsimp only [World.drew]; omega) | (simp; omega))]; assumption)))
        (first | (go_at_call 90; refine (fromBottom_any R _ g cap _ (hown2.drew) h0 r2 h8).mono ?_; rintro e wf ⟨rfl, hbf⟩; have hsf := hbf.size; have hbxf := isBx.below (w := w2.drew) hbx2 hbf (by first | omega | (dsimp only [World.drew]; omega) | (simp; omega)); obtain ⟨⟨y0, y1, y2, y3, y4, y5⟩, x0, x1, x2, x3, x4, x5⟩ := hbxf.all))
      have hr5 : Rd w.heap.size b s (E + 1) w wf := (hr4.drewN 1).below (hbf.mono (by dsimp only [World.drew]; omega)) hlt
      have hbx3 := hbxf.set012 (.int .i64 (x.length : Int)) (.int .i64 (R.length : Int)) (.string ⟨R.reverse.flatten.toArray⟩)
      have hr6 := ((hr5.put (p := ⟨w.heap.size, 0, none⟩) (Nat.le_refl _) hlt (.int .i64 (x.length : Int))).put (p := ⟨w.heap.size, 1, none⟩) (Nat.le_refl _) hlt (.int .i64 (R.length : Int))).put (p := ⟨w.heap.size, 2, none⟩) (Nat.le_refl _) hlt (.string ⟨R.reverse.flatten.toArray⟩)
      clear hr5 hbxf hbx2 hr4 hbf y0 y1 y2 y3 y4 y5 x0 x1 x2 x3 x4 x5 q0 q1 q2 q3 q4 q5 z0 z1 z2 z3 z4 z5 hown2 hc0
      go_wp2_with fail
      refine (turn_any b (E + 1) s _ hr6.rd hs).mono ?_
      rintro e w3 ⟨rfl, hr7⟩
      have hbx4 := hbx3.rd hr7 hbx3.lt (by omega)
      have hr8 := hr6.trans (hr7.mono hr6.size)
      clear hbx3 hr6 hr7
      have hno := turnF_no s.data.toList (E + 1)
      have hyes := turnF_yes s.data.toList (E + 1)
      have HTF : Hid (turnF s.data.toList (E + 1) = turnF s.data.toList (rowsEnd s.data.toList + 1)) := by show _ = _; rw [unhide HE]
      obtain ⟨F, hF⟩ : ∃ F, F = turnF s.data.toList (E + 1) := ⟨_, rfl⟩
      rw [← hF] at hno hyes hr8 ⊢
      have HF := hide hF
      clear hF
      obtain ⟨T, hT⟩ : ∃ T, T = F.2.1 := ⟨_, rfl⟩
      rw [← hT]
      have HT := hide hT
      clear hT
      obtain ⟨⟨q0, q1, q2, q3, q4, q5⟩, z0, z1, z2, z3, z4, z5⟩ := hbx4.all
      cases k2 : F.1 with
      | false =>
        have hP := (unhide HW).c k0 (by rw [← unhide HE]; exact k1) (by rw [← unhide HTF, ← unhide HF]; exact k2)
        have HP := hide hP
        clear hP
        have hn := hno k2
        rw [hn] at hr8
        clear hno hyes hn
        go_wp2
        refine bodyPost_ret (v := .tuple #[sixV (x.length : Int) (R.length : Int) ⟨R.reverse.flatten.toArray⟩ T ⟨#[]⟩ ⟨#[]⟩, .bool false]) (by simp [results, Tryz.results67, go_sem, q0, q1, q2, q3, q4, q5, sixV]) rfl ⟨_, by rw [unhide HP]; rfl, by rw [unhide HP]; exact posV_none _ _ _ _ _ _, by rw [unhide HP, ← unhide HE]; exact (hr8.put (p := ⟨w.heap.size, 3, none⟩) (Nat.le_refl _) hlt _).put6 (Nat.le_refl _) hlt⟩
      | true =>
        obtain ⟨hy, hyl⟩ := hyes k2
        rw [show F.2.2 = E + 2 by omega] at hr8
        rw [len_data] at hyl
        clear hno hyes hy
        have hbx5 := hbx4.set3 (.int .i64 T)
        have hr9 := hr8.put (p := ⟨w.heap.size, 3, none⟩) (Nat.le_refl _) hlt (.int .i64 T)
        go_wp2_with fail
        refine (take_any b (E + 2) 32 s _ hr9.rd (by decide) hs).mono ?_
        rintro e w4 ⟨rfl, hr10⟩
        have hbx6 := hbx5.rd hr10 hbx5.lt (by omega)
        have hr11 := hr9.trans (hr10.mono hr9.size)
        clear hr8 hr9 hr10 hbx4 hbx5 q0 q1 q2 q3 q4 q5 z0 z1 z2 z3 z4 z5
        obtain ⟨⟨q0, q1, q2, q3, q4, q5⟩, z0, z1, z2, z3, z4, z5⟩ := hbx6.all
        cases k3 : atB s.data.toList (E + 2) 32 with
        | false =>
          have hP := (unhide HW).d k0 (by rw [← unhide HE]; exact k1) (by rw [← unhide HTF, ← unhide HF]; exact k2) (by rw [← unhide HE]; exact k3)
          have HP := hide hP
          clear hP
          rw [k3, if_neg (by simp)] at hr11
          go_wp2
          refine bodyPost_ret (v := .tuple #[sixV (x.length : Int) (R.length : Int) ⟨R.reverse.flatten.toArray⟩ T ⟨#[]⟩ ⟨#[]⟩, .bool false]) (by simp [results, Tryz.results67, go_sem, q0, q1, q2, q3, q4, q5, sixV]) rfl ⟨_, by rw [unhide HP]; rfl, by rw [unhide HP]; exact posV_none _ _ _ _ _ _, by rw [unhide HP, ← unhide HE]; exact hr11.put6 (Nat.le_refl _) hlt⟩
        | true =>
          rw [k3, if_pos rfl] at hr11
          have hE3 := atB_lt k3
          rw [len_data] at hE3
          have hHle := handE_le s (E + 3) (by omega)
          go_wp2_with fail
          refine (hand_any b (E + 3) s _ hr11.rd hs (by omega)).mono ?_
          rintro e w5 ⟨rfl, hr12⟩
          have hbx7 := hbx6.rd hr12 hbx6.lt (by omega)
          have hr13 := hr11.trans (hr12.mono hr11.size)
          clear hr11 hr12 hbx6 q0 q1 q2 q3 q4 q5 z0 z1 z2 z3 z4 z5
          obtain ⟨⟨q0, q1, q2, q3, q4, q5⟩, z0, z1, z2, z3, z4, z5⟩ := hbx7.all
          unfold handV
          obtain ⟨A, hA⟩ : ∃ A : ByteArray, A = ⟨(handF (s.data.toList.drop (E + 3))).2.1.toArray⟩ := ⟨_, rfl⟩
          rw [← hA]
          have HA := hide hA
          obtain ⟨n1, hn1⟩ : ∃ n1, n1 = handE s (E + 3) := ⟨_, rfl⟩
          rw [← hn1] at hr13 hHle
          have HN1 : Hid (handE s (rowsEnd s.data.toList + 3) = n1) := by show _ = _; rw [← unhide HE, hn1]
          have HH1 : Hid (handF (s.data.toList.drop (rowsEnd s.data.toList + 3)) = handF (s.data.toList.drop (E + 3))) := by show _ = _; rw [← unhide HE]
          clear hA hn1
          cases k4 : (handF (s.data.toList.drop (E + 3))).1 with
          | false =>
            have hP := (unhide HW).e k0 (by rw [← unhide HE]; exact k1) (by rw [← unhide HTF, ← unhide HF]; exact k2) (by rw [← unhide HE]; exact k3) (by rw [unhide HH1]; exact k4)
            rw [unhide HN1] at hP
            have HP := hide hP
            clear hP
            go_wp2
            refine bodyPost_ret (v := .tuple #[sixV (x.length : Int) (R.length : Int) ⟨R.reverse.flatten.toArray⟩ T A ⟨#[]⟩, .bool false]) (by simp [results, Tryz.results67, go_sem, q0, q1, q2, q3, q4, q5, sixV]) rfl ⟨_, by rw [unhide HP]; rfl, by rw [unhide HP]; exact posV_none _ _ _ _ _ _, by rw [unhide HP]; exact (hr13.put (p := ⟨w.heap.size, 4, none⟩) (Nat.le_refl _) hlt _).put6 (Nat.le_refl _) hlt⟩
          | true =>
            have hn1s : n1 ≤ s.size := by
              rcases hHle with h1 | h1
              · exact h1
              · rw [k4] at h1; cases h1
            have hbx8 := hbx7.set4 (.string A)
            have hr14 := hr13.put (p := ⟨w.heap.size, 4, none⟩) (Nat.le_refl _) hlt (.string A)
            clear hHle
            go_wp2_with fail
            refine (take_any b n1 47 s _ hr14.rd (by decide) hs).mono ?_
            rintro e w6 ⟨rfl, hr15⟩
            have hbx9 := hbx8.rd hr15 hbx8.lt (by omega)
            have hr16 := hr14.trans (hr15.mono hr14.size)
            clear hr13 hr14 hr15 hbx7 hbx8 q0 q1 q2 q3 q4 q5 z0 z1 z2 z3 z4 z5
            obtain ⟨⟨q0, q1, q2, q3, q4, q5⟩, z0, z1, z2, z3, z4, z5⟩ := hbx9.all
            cases k5 : atB s.data.toList n1 47 with
            | false =>
              have hP := (unhide HW).f k0 (by rw [← unhide HE]; exact k1) (by rw [← unhide HTF, ← unhide HF]; exact k2) (by rw [← unhide HE]; exact k3) (by rw [unhide HH1]; exact k4) (by rw [unhide HN1]; exact k5)
              rw [unhide HN1] at hP
              have HP := hide hP
              clear hP
              rw [k5, if_neg (by simp)] at hr16
              go_wp2
              refine bodyPost_ret (v := .tuple #[sixV (x.length : Int) (R.length : Int) ⟨R.reverse.flatten.toArray⟩ T A ⟨#[]⟩, .bool false]) (by simp [results, Tryz.results67, go_sem, q0, q1, q2, q3, q4, q5, sixV]) rfl ⟨_, by rw [unhide HP]; rfl, by rw [unhide HP]; exact posV_none _ _ _ _ _ _, by rw [unhide HP]; exact hr16.put6 (Nat.le_refl _) hlt⟩
            | true =>
              rw [k5, if_pos rfl] at hr16
              have hE5 := atB_lt k5
              rw [len_data] at hE5
              go_wp2_with fail
              refine (hand_any b (n1 + 1) s _ hr16.rd hs (by omega)).mono ?_
              rintro e w7 ⟨rfl, hr17⟩
              have hbx10 := hbx9.rd hr17 hbx9.lt (by omega)
              have hr18 := hr16.trans (hr17.mono hr16.size)
              clear hr16 hr17 hbx9 q0 q1 q2 q3 q4 q5 z0 z1 z2 z3 z4 z5
              obtain ⟨⟨q0, q1, q2, q3, q4, q5⟩, z0, z1, z2, z3, z4, z5⟩ := hbx10.all
              unfold handV
              obtain ⟨B, hB⟩ : ∃ B : ByteArray, B = ⟨(handF (s.data.toList.drop (n1 + 1))).2.1.toArray⟩ := ⟨_, rfl⟩
              rw [← hB]
              have HB := hide hB
              clear hB
              cases k6 : (handF (s.data.toList.drop (n1 + 1))).1 with
              | false =>
                have hP := (unhide HW).g k0 (by rw [← unhide HE]; exact k1) (by rw [← unhide HTF, ← unhide HF]; exact k2) (by rw [← unhide HE]; exact k3) (by rw [unhide HH1]; exact k4) (by rw [unhide HN1]; exact k5) (by rw [unhide HN1]; exact k6)
                rw [unhide HN1] at hP
                have HP := hide hP
                clear hP
                go_wp2
                refine bodyPost_ret (v := .tuple #[sixV (x.length : Int) (R.length : Int) ⟨R.reverse.flatten.toArray⟩ T A B, .bool false]) (by simp [results, Tryz.results67, go_sem, q0, q1, q2, q3, q4, q5, sixV]) rfl ⟨_, by rw [unhide HP]; rfl, by rw [unhide HP]; exact posV_none _ _ _ _ _ _, by rw [unhide HP]; exact (hr18.put (p := ⟨w.heap.size, 5, none⟩) (Nat.le_refl _) hlt _).put6 (Nat.le_refl _) hlt⟩
              | true =>
                have hP := (unhide HW).h k0 (by rw [← unhide HE]; exact k1) (by rw [← unhide HTF, ← unhide HF]; exact k2) (by rw [← unhide HE]; exact k3) (by rw [unhide HH1]; exact k4) (by rw [unhide HN1]; exact k5) (by rw [unhide HN1]; exact k6)
                rw [unhide HN1, unhide HH1, ← unhide HTF, ← unhide HF, ← unhide HT, ← unhide HR] at hP
                have HP := hide hP
                clear hP
                go_wp2
                refine bodyPost_ret (v := .tuple #[sixV (x.length : Int) (R.length : Int) ⟨R.reverse.flatten.toArray⟩ T A B, .bool true]) (by simp [results, Tryz.results67, go_sem, q0, q1, q2, q3, q4, q5, sixV]) rfl ⟨_, by rw [unhide HP]; rfl, ?_, by rw [unhide HP]; exact (hr18.put (p := ⟨w.heap.size, 5, none⟩) (Nat.le_refl _) hlt _).put6 (Nat.le_refl _) hlt⟩
                rw [unhide HP]
                refine ⟨_, _, _, _, _, _, rfl, ?_⟩
                rintro y hy
                simp only [Option.some.injEq] at hy
                subst hy
                exact ⟨(unhide HXL).symm, rfl, rfl, rfl, unhide HA, unhide HB⟩
end Go.Proofs.YtfhmpgjemobjhaaGreatDoor

namespace Go.Proofs.YtfhmpgjemobjhaaGreatDoor
open Go.RowKit
attribute [local go_sem ↓] Go.wp_at_zero Go.wp_at_succ

theorem isBx.alloc {w : World} {p : Nat} {x0 x1 x2 x3 x4 x5 : Value} (h : isBx w p x0 x1 x2 x3 x4 x5) (o : Obj) : isBx (w.alloc o) p x0 x1 x2 x3 x4 x5 :=
  h.below ((Below.refl w.heap.size w).alloc (Nat.le_refl _) o) h.lt
/-- A fault's two cells in block p. -/
def isFx (w : World) (p : Nat) (x0 x1 : Value) : Prop := w.heap[p]? = some (.cells #[x0, x1] 32 (0, 0))
theorem isFx.all {w : World} {p : Nat} {x0 x1 : Value} (h : isFx w p x0 x1) : (w.cell? ⟨p, 0, none⟩ = some x0 ∧ w.cell? ⟨p, 1, none⟩ = some x1) ∧ w.frozen? ⟨p, 0, none⟩ = false ∧ w.frozen? ⟨p, 1, none⟩ = false := by
  unfold isFx at h; simp [World.cell?, World.frozen?, h]
theorem isFx.lt {w : World} {p : Nat} {x0 x1 : Value} (h : isFx w p x0 x1) : p < w.heap.size := by
  rcases Nat.lt_or_ge p w.heap.size with h' | h'
  · exact h'
  · unfold isFx at h; simp [Array.getElem?_eq_none h'] at h
theorem isFx.alloc {w : World} {p : Nat} {x0 x1 : Value} (h : isFx w p x0 x1) (o : Obj) : isFx (w.alloc o) p x0 x1 := by
  have := h.lt
  unfold isFx at h ⊢; rw [Below.heap_alloc _ _ _ this, h]
theorem isFx.rd {w w' : World} {p B b n : Nat} {s : ByteArray} {x0 x1 : Value} (h : isFx w p x0 x1) (k : Rd B b s n w w') (hp : p < B) (hn : p ≠ b) : isFx w' p x0 x1 := by
  unfold isFx at h ⊢; rw [k.block p hp hn, h]

def faultV (c n : Int) : Value := .agg #[.int .i64 c, .int .i64 n]
theorem below_set8 {B : Nat} {a w : World} {b c : Nat} {u0 u1 u2 u3 u4 u5 u6 u7 : Value} (hb : B ≤ b) (hc : B ≤ c) (h : Below B a w) :
    Below B a ((((((((w.setCell ⟨b, 0, none⟩ u0).setCell ⟨b, 1, none⟩ u1).setCell ⟨b, 2, none⟩ u2).setCell ⟨b, 3, none⟩ u3).setCell ⟨b, 4, none⟩ u4).setCell ⟨b, 5, none⟩ u5).setCell ⟨c, 0, none⟩ u6).setCell ⟨c, 1, none⟩ u7) :=
  ((below_set6 hb h).setCell (p := ⟨c, 0, none⟩) hc u6).setCell (p := ⟨c, 1, none⟩) hc u7
theorem posF_le (s : List UInt8) (x : Six) (n : Nat) (h : posF s = (some x, n)) : n ≤ s.length := by
  unfold posF at h
  split at h; · simp at h
  split at h; · simp at h
  split at h; · simp at h
  split at h; · simp at h
  split at h; · simp at h
  split at h; · simp at h
  rename_i g5
  split at h; · simp at h
  rename_i g6
  simp only [Bool.not_eq_false] at g5 g6
  have h1 := atB_lt g5
  have h2 := (handF_s _ g6).2.1
  rw [List.length_drop] at h2
  simp only [Prod.mk.injEq] at h
  omega
/-- The text is read to its end, as x. -/
def readsAs (s : ByteArray) (x : Six) : Prop := posF s.data.toList = (some x, s.data.toList.length)
def sixOf (x : Six) : Value := sixV x.1 x.2.1 ⟨x.2.2.1.toArray⟩ x.2.2.2.1 ⟨x.2.2.2.2.1.toArray⟩ ⟨x.2.2.2.2.2.toArray⟩

set_option maxHeartbeats 1000000 in
set_option maxRecDepth 100000 in
theorem Read_any (s : ByteArray) (w : World) (hs : s.size ≤ maxLen) :
    Calls Tryz.prog 41 #[.string s] w fun e w' =>
      ((∃ x, readsAs s x ∧ e = .returned (.tuple #[sixOf x, faultV 0 0])) ∨ ((∀ x, ¬ readsAs s x) ∧ e = .returned (.tuple #[zeroPos, faultV 3 (posF s.data.toList).2]))) ∧ Below w.heap.size w w' := by
  have hrd : isRd (((w.alloc (.cells #[.int .i64 0, .int .i64 0, .string ⟨#[]⟩, .int .i64 0, .string ⟨#[]⟩, .string ⟨#[]⟩] 24 (0, 0))).alloc (.cells #[.int .i64 0, .int .i64 0] 32 (0, 0))).alloc (.cells #[.string s, .int .i64 0] 106 (0, 0))) (w.heap.size + 1 + 1) s 0 := by
    have := heap_alloc_new ((w.alloc (.cells #[.int .i64 0, .int .i64 0, .string ⟨#[]⟩, .int .i64 0, .string ⟨#[]⟩, .string ⟨#[]⟩] 24 (0, 0))).alloc (.cells #[.int .i64 0, .int .i64 0] 32 (0, 0))) (.cells #[.string s, .int .i64 0] 106 (0, 0))
    simpa [isRd] using this
  have hpa := position_any (w.heap.size + 1 + 1) s _ hrd hs
  have HL : Hid (∀ x n, posF s.data.toList = (some x, n) → n ≤ s.size) := fun x n h => by have := posF_le _ _ _ h; rwa [len_data] at this
  have HP : Hid (∀ x, readsAs s x ↔ posF s.data.toList = (some x, s.size)) := fun x => by rw [readsAs, len_data]
  generalize posF s.data.toList = P at HP HL hpa ⊢
  obtain ⟨o, n⟩ := P
  go_enter Tryz.func41, Tryz.ntmps41
  go_wp2_with fail
  refine hpa.mono ?_
  rintro e w1 ⟨v, rfl, hv, hr1⟩
  obtain ⟨W, H, C, T, A, B, rfl, hx⟩ := hv
  have hs1 : w.heap.size + 1 + 1 < w1.heap.size := by have := hr1.size; simp at this; omega
  have hlow : Below w.heap.size w w1 := ((((Below.refl _ w).alloc (Nat.le_refl _) _).alloc (by simp) _).alloc (by simp; omega) _).trans ((hr1.low (by simp)).mono (by omega))
  have hm : Below w1.heap.size w1 w1 := Below.refl _ _
  have c1 : ∀ o, (w1.alloc o).cell? ⟨w.heap.size + 1 + 1, 1, none⟩ = some (.int .i64 (n : Int)) := fun o => ((hm.alloc (Nat.le_refl _) o).cell (p := ⟨w.heap.size + 1 + 1, 1, none⟩) (by dsimp only; omega)).trans hr1.rd.c1
  have hbx0 : isBx (((w.alloc (.cells #[.int .i64 0, .int .i64 0, .string ⟨#[]⟩, .int .i64 0, .string ⟨#[]⟩, .string ⟨#[]⟩] 24 (0, 0))).alloc (.cells #[.int .i64 0, .int .i64 0] 32 (0, 0))).alloc (.cells #[.string s, .int .i64 0] 106 (0, 0))) w.heap.size (.int .i64 0) (.int .i64 0) (.string ⟨#[]⟩) (.int .i64 0) (.string ⟨#[]⟩) (.string ⟨#[]⟩) := isBx.alloc (isBx.alloc (heap_alloc_new w _) _) _
  have hfx0 : isFx (((w.alloc (.cells #[.int .i64 0, .int .i64 0, .string ⟨#[]⟩, .int .i64 0, .string ⟨#[]⟩, .string ⟨#[]⟩] 24 (0, 0))).alloc (.cells #[.int .i64 0, .int .i64 0] 32 (0, 0))).alloc (.cells #[.string s, .int .i64 0] 106 (0, 0))) (w.heap.size + 1) (.int .i64 0) (.int .i64 0) := by
    refine isFx.alloc ?_ _
    have := heap_alloc_new (w.alloc (.cells #[.int .i64 0, .int .i64 0, .string ⟨#[]⟩, .int .i64 0, .string ⟨#[]⟩, .string ⟨#[]⟩] 24 (0, 0))) (.cells #[.int .i64 0, .int .i64 0] 32 (0, 0))
    simpa [isFx] using this
  have hbx1 := hbx0.rd hr1 hbx0.lt (by omega)
  have hfx1 := hfx0.rd hr1 hfx0.lt (by omega)
  have r0 := fun o => (hbx1.alloc o).all.1.1
  have r1 := fun o => (hbx1.alloc o).all.1.2.1
  have r2 := fun o => (hbx1.alloc o).all.1.2.2.1
  have r3 := fun o => (hbx1.alloc o).all.1.2.2.2.1
  have r4 := fun o => (hbx1.alloc o).all.1.2.2.2.2.1
  have r5 := fun o => (hbx1.alloc o).all.1.2.2.2.2.2
  have z0 := fun o => (hbx1.alloc o).all.2.1
  have z1 := fun o => (hbx1.alloc o).all.2.2.1
  have z2 := fun o => (hbx1.alloc o).all.2.2.2.1
  have z3 := fun o => (hbx1.alloc o).all.2.2.2.2.1
  have z4 := fun o => (hbx1.alloc o).all.2.2.2.2.2.1
  have z5 := fun o => (hbx1.alloc o).all.2.2.2.2.2.2
  have r6 := fun o => (hfx1.alloc o).all.1.1
  have r7 := fun o => (hfx1.alloc o).all.1.2
  have z6 := fun o => (hfx1.alloc o).all.2.1
  have z7 := fun o => (hfx1.alloc o).all.2.2
  clear hbx0 hfx0 hbx1 hfx1 hm hrd hr1 hpa
  cases o with
  | none =>
    clear hx
    unfold sixV
    go_wp2
    go_region
    go_wp2
    refine bodyPost_ret (v := .tuple #[zeroPos, faultV 3 (n : Int)]) (by simp [results, Tryz.results41, go_sem, zeroPos, faultV, r0, r1, r2, r3, r4, r5, r6, r7]) rfl ⟨Or.inr ⟨fun x hx => ?_, rfl⟩, ?_⟩
    · have := (unhide HP x).1 hx
      simp at this
    · exact Below.drew (below_set8 (Nat.le_refl _) (by omega) (hlow.alloc (by omega) _))
  | some x =>
    obtain ⟨rfl, rfl, rfl, rfl, rfl, rfl⟩ := hx x rfl
    clear hx
    by_cases hn : n < s.size
    · have hni : (n : Int) < (s.size : Int) := by omega
      unfold sixV
      go_wp2
      go_region
      go_wp2
      refine bodyPost_ret (v := .tuple #[zeroPos, faultV 3 (n : Int)]) (by simp [results, Tryz.results41, go_sem, zeroPos, faultV, r0, r1, r2, r3, r4, r5, r6, r7]) rfl ⟨Or.inr ⟨fun y hy => ?_, rfl⟩, ?_⟩
      · have := (unhide HP y).1 hy
        simp at this
        omega
      · exact Below.drew (below_set8 (Nat.le_refl _) (by omega) (hlow.alloc (by omega) _))
    · have hni : ¬ (n : Int) < (s.size : Int) := by omega
      have hne := unhide HL x n rfl
      have HN : Hid (n = s.size) := by show n = s.size; omega
      unfold sixV
      go_wp2
      refine bodyPost_ret (v := .tuple #[sixOf x, faultV 0 0]) (by simp [results, Tryz.results41, go_sem, sixOf, sixV, faultV, r0, r1, r2, r3, r4, r5, r6, r7]) rfl ⟨Or.inl ⟨x, (unhide HP x).2 (by rw [unhide HN]), rfl⟩, ?_⟩
      exact below_set8 (Nat.le_refl _) (by omega) (hlow.alloc (by omega) _)
end Go.Proofs.YtfhmpgjemobjhaaGreatDoor
