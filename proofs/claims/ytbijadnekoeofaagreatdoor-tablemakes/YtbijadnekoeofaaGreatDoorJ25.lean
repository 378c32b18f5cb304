/-
  gameref.Tabled at wrong rules or numbers; gamelaw.TableMakes over what both sides come to.
  table.Make at wrong rules, or at a number that is not within 1 to 5000.
-/
import Derived.Test.YtbijadnekoeofaaGreatDoorJ20
import Derived.Test.YtbijadnekoeofaaGreatDoorJ5
import Derived.Test.YtbijadnekoeofaaGreatDoorJ22
namespace Go.Proofs.YtbijadnekoeofaaGreatDoor
open Go.RowKit
attribute [local go_sem ↓] Go.wp_at_zero Go.wp_at_succ

set_option maxHeartbeats 1000000 in
set_option maxRecDepth 100000 in
theorem tabled_no (v0 v1 v2 v3 v4 v5 v6 v7 v8 v9 v10 v11 v12 : Value) (R : Bool) (most : Int) (w : World) (hno : R = false ∨ most < 1 ∨ 5000 < most)
    (hRu : ∀ u, Below w.heap.size w u → Calls Tryz.prog 17 #[.agg #[v0, v1, v2, v3, v4, v5, v6, v7, v8, v9, v10, v11, v12]] u fun e w' => e = .returned (.bool R) ∧ Below u.heap.size u w') :
    Calls Tryz.prog 6 #[.agg #[v0, v1, v2, v3, v4, v5, v6, v7, v8, v9, v10, v11, v12], .int .i64 most] w fun e w' => e = .returned (.tuple #[.slice none 0 0, .int .i64 1]) ∧ Below w.heap.size w w' := by
  obtain ⟨w1, hw1⟩ : ∃ w1, w1 = w.alloc (.cells #[v0, v1, v2, v3, v4, v5, v6, v7, v8, v9, v10, v11, v12] 27 (0, 0)) := ⟨_, rfl⟩
  have b1 : Below w.heap.size w w1 := by rw [hw1]; exact (Below.refl _ _).alloc (Nat.le_refl _) _
  have hru1 : isRu w1 w.heap.size v0 v1 v2 v3 v4 v5 v6 v7 v8 v9 v10 v11 v12 := by rw [hw1]; exact heap_alloc_new w _
  have HCK := hide (hRu w1 b1)
  obtain ⟨r0, r1, r2, r3, r4, r5, r6, r7, r8, r9, r10, r11, r12⟩ := hru1.cells
  have HW1 := hide hw1
  have HB1 := hide b1
  clear hw1 b1 hru1 hRu
  cases R with
  | false =>
    clear hno
    go_enter Tryz.func6, Tryz.ntmps6
    go_upto_region 1 with fail
    rw [← unhide HW1]
    clear HW1
    go_wp2_with fail
    refine (unhide HCK).mono ?_
    rintro e w2 ⟨rfl, hb2⟩
    have HB2 : Hid (Below w.heap.size w w2) := hide ((unhide HB1).trans (hb2.mono (unhide HB1).size))
    clear hb2 r0 r1 r2 r3 r4 r5 r6 r7 r8 r9 r10 r11 r12 HCK
    go_wp2
    refine bodyPost_ret (v := .tuple #[.slice none 0 0, .int .i64 1]) (by simp [results, Tryz.results6, go_sem]) rfl ?_
    exact ⟨rfl, unhide HB2⟩
  | true =>
    by_cases h1 : most < 1
    · clear hno
      go_enter Tryz.func6, Tryz.ntmps6
      go_upto_region 1 with fail
      rw [← unhide HW1]
      clear HW1
      go_wp2_with fail
      refine (unhide HCK).mono ?_
      rintro e w2 ⟨rfl, hb2⟩
      have HB2 : Hid (Below w.heap.size w w2) := hide ((unhide HB1).trans (hb2.mono (unhide HB1).size))
      clear hb2 r0 r1 r2 r3 r4 r5 r6 r7 r8 r9 r10 r11 r12 HCK
      go_wp2
      refine bodyPost_ret (v := .tuple #[.slice none 0 0, .int .i64 1]) (by simp [results, Tryz.results6, go_sem]) rfl ?_
      exact ⟨rfl, unhide HB2⟩
    · have h2 : 5000 < most := by rcases hno with h | h | h; cases h; exact absurd h h1; exact h
      clear hno
      go_enter Tryz.func6, Tryz.ntmps6
      go_upto_region 1 with fail
      rw [← unhide HW1]
      clear HW1
      go_wp2_with fail
      refine (unhide HCK).mono ?_
      rintro e w2 ⟨rfl, hb2⟩
      have HB2 : Hid (Below w.heap.size w w2) := hide ((unhide HB1).trans (hb2.mono (unhide HB1).size))
      clear hb2 r0 r1 r2 r3 r4 r5 r6 r7 r8 r9 r10 r11 r12 HCK
      go_wp2
      refine bodyPost_ret (v := .tuple #[.slice none 0 0, .int .i64 1]) (by simp [results, Tryz.results6, go_sem]) rfl ?_
      exact ⟨rfl, unhide HB2⟩

/-- A row of entries, and an error. -/
structure EnP (P : Int → List (Po × Int × Int) → Prop) (w : World) (e : Ending) (w' : World) : Prop where
  out : ∃ va c ts, e = .returned (.tuple #[va, .int .i64 c]) ∧ w'.ownsRow w.heap.size 34 8 va ts.length (evs ts) ∧ P c ts
  bw : Below w.heap.size w w'

set_option maxHeartbeats 1000000 in
set_option maxRecDepth 100000 in
theorem law_tm (v0 v1 v2 v3 v4 v5 v6 v7 v8 v9 v10 v11 v12 : Value) (most : Int) (P P' : Int → List (Po × Int × Int) → Prop) (w : World) (hsame : ∀ c ts c' ts', P c ts → P' c' ts' → c = c' ∧ ts = ts')
    (hMk : ∀ u, Below w.heap.size w u → Calls Tryz.prog 5 #[.agg #[v0, v1, v2, v3, v4, v5, v6, v7, v8, v9, v10, v11, v12], .int .i64 most] u (EnP P u))
    (hTd : ∀ u, Below w.heap.size w u → Calls Tryz.prog 6 #[.agg #[v0, v1, v2, v3, v4, v5, v6, v7, v8, v9, v10, v11, v12], .int .i64 most] u (EnP P' u)) :
    Calls Tryz.prog 3 #[.agg #[v0, v1, v2, v3, v4, v5, v6, v7, v8, v9, v10, v11, v12], .int .i64 most] w fun e w' => e = .returned (.bool true) ∧ Below w.heap.size w w' := by
  obtain ⟨w1, hw1⟩ : ∃ w1, w1 = w.alloc (.cells #[v0, v1, v2, v3, v4, v5, v6, v7, v8, v9, v10, v11, v12] 27 (0, 0)) := ⟨_, rfl⟩
  have b1 : Below w.heap.size w w1 := by rw [hw1]; exact (Below.refl _ _).alloc (Nat.le_refl _) _
  have s1 : w1.heap.size = w.heap.size + 1 := by rw [hw1]; simp
  have hru1 : isRu w1 w.heap.size v0 v1 v2 v3 v4 v5 v6 v7 v8 v9 v10 v11 v12 := by rw [hw1]; exact heap_alloc_new w _
  have HMK := hide (hMk w1 b1)
  have HTD := hide (fun u (hu : Below w1.heap.size w1 u) => hTd u (b1.trans (hu.mono (by omega))))
  have HRU := hide (fun u (hu : Below w1.heap.size w1 u) => hru1.below hu (by omega))
  have HSM := hide hsame
  have HB1 := hide b1
  obtain ⟨r0, r1, r2, r3, r4, r5, r6, r7, r8, r9, r10, r11, r12⟩ := hru1.cells
  have HW1 := hide hw1
  clear hw1 b1 s1 hru1 hMk hTd hsame
  go_enter Tryz.func3, Tryz.ntmps3
  go_upto_region 1 with fail
  rw [← unhide HW1]
  clear HW1
  go_wp2_with fail
  refine (unhide HMK).mono ?_
  rintro e w2 ⟨⟨va, c, ts, rfl, hrow, hP⟩, hb2⟩
  clear r0 r1 r2 r3 r4 r5 r6 r7 r8 r9 r10 r11 r12 HMK
  obtain ⟨r0, r1, r2, r3, r4, r5, r6, r7, r8, r9, r10, r11, r12⟩ := (unhide HRU w2 hb2).cells
  have HT := hide (unhide HTD w2 hb2)
  have HROW := hide hrow
  have HP := hide hP
  have HB2 := hide hb2
  clear hrow hP hb2 HTD HRU
  go_wp2_with fail
  refine (unhide HT).mono ?_
  rintro e w3 ⟨⟨vb, c', ts', rfl, hrow', hP'⟩, hb3⟩
  obtain ⟨hc, ht⟩ := unhide HSM c ts c' ts' (unhide HP) hP'
  subst hc
  subst ht
  have hra : w3.ownsRow w1.heap.size 34 8 va ts.length (evs ts) := row_same (unhide HROW) (fun g hg => hb3.block g (row_block (unhide HROW) hg).2)
  have hrb : w3.ownsRow w1.heap.size 34 8 vb ts.length (evs ts) := rowBaseT hrow' (unhide HB2).size
  have HS := hide (SameE_same va vb w1.heap.size ts w3 hra hrb)
  have HB3 : Hid (Below w.heap.size w w3) := hide (((unhide HB1).trans ((unhide HB2).mono (unhide HB1).size)).trans (hb3.mono (Nat.le_trans (unhide HB1).size (unhide HB2).size)))
  have hcc : (c == c) = true := by simp
  clear hrow' hP' hb3 hra hrb HROW HP HT HSM r0 r1 r2 r3 r4 r5 r6 r7 r8 r9 r10 r11 r12
  go_wp2_with fail
  refine (unhide HS).mono ?_
  rintro e w4 ⟨rfl, hb4⟩
  have HB4 : Hid (Below w.heap.size w w4) := hide ((unhide HB3).trans (hb4.mono (unhide HB3).size))
  clear hb4
  go_wp2
  go_ret
  exact ⟨rfl, unhide HB4⟩
end Go.Proofs.YtbijadnekoeofaaGreatDoor

namespace Go.Proofs.YtbijadnekoeofaaGreatDoor
open Go.RowKit
attribute [local go_sem ↓] Go.wp_at_zero Go.wp_at_succ

set_option maxHeartbeats 1000000 in
set_option maxRecDepth 100000 in
theorem make_no (v0 v1 v2 v3 v4 v5 v6 v7 v8 v9 v10 v11 v12 : Value) (c most : Int) (w : World) (hno : c ≠ 0 ∨ most < 1 ∨ 5000 < most)
    (hCk : ∀ u, Below w.heap.size w u → Calls Tryz.prog 12 #[.agg #[v0, v1, v2, v3, v4, v5, v6, v7, v8, v9, v10, v11, v12]] u fun e w' => e = .returned (.int .i64 c) ∧ Below u.heap.size u w') :
    Calls Tryz.prog 5 #[.agg #[v0, v1, v2, v3, v4, v5, v6, v7, v8, v9, v10, v11, v12], .int .i64 most] w fun e w' => e = .returned (.tuple #[.slice none 0 0, .int .i64 1]) ∧ Below w.heap.size w w' := by
  obtain ⟨w1, hw1⟩ : ∃ w1, w1 = w.alloc (.cells #[v0, v1, v2, v3, v4, v5, v6, v7, v8, v9, v10, v11, v12] 27 (0, 0)) := ⟨_, rfl⟩
  have b1 : Below w.heap.size w w1 := by rw [hw1]; exact (Below.refl _ _).alloc (Nat.le_refl _) _
  have hru1 : isRu w1 w.heap.size v0 v1 v2 v3 v4 v5 v6 v7 v8 v9 v10 v11 v12 := by rw [hw1]; exact heap_alloc_new w _
  have HCK := hide (hCk w1 b1)
  obtain ⟨r0, r1, r2, r3, r4, r5, r6, r7, r8, r9, r10, r11, r12⟩ := hru1.cells
  have HW1 := hide hw1
  have HB1 := hide b1
  clear hw1 b1 hru1 hCk
  by_cases hc : c = 0
  · subst hc
    by_cases h1 : most < 1
    · clear hno
      go_enter Tryz.func5, Tryz.ntmps5
      go_upto_region 1 with fail
      rw [← unhide HW1]
      clear HW1
      go_wp2_with fail
      refine (unhide HCK).mono ?_
      rintro e w2 ⟨rfl, hb2⟩
      have HB2 : Hid (Below w.heap.size w w2) := hide ((unhide HB1).trans (hb2.mono (unhide HB1).size))
      clear hb2 r0 r1 r2 r3 r4 r5 r6 r7 r8 r9 r10 r11 r12 HCK
      go_wp2
      refine bodyPost_ret (v := .tuple #[.slice none 0 0, .int .i64 1]) (by simp [results, Tryz.results5, go_sem]) rfl ?_
      exact ⟨rfl, unhide HB2⟩
    · have h2 : 5000 < most := by rcases hno with h | h | h; exact absurd rfl h; exact absurd h h1; exact h
      clear hno
      go_enter Tryz.func5, Tryz.ntmps5
      go_upto_region 1 with fail
      rw [← unhide HW1]
      clear HW1
      go_wp2_with fail
      refine (unhide HCK).mono ?_
      rintro e w2 ⟨rfl, hb2⟩
      have HB2 : Hid (Below w.heap.size w w2) := hide ((unhide HB1).trans (hb2.mono (unhide HB1).size))
      clear hb2 r0 r1 r2 r3 r4 r5 r6 r7 r8 r9 r10 r11 r12 HCK
      go_wp2
      refine bodyPost_ret (v := .tuple #[.slice none 0 0, .int .i64 1]) (by simp [results, Tryz.results5, go_sem]) rfl ?_
      exact ⟨rfl, unhide HB2⟩
  · have hcb : (c == 0) = false := by simp [hc]
    have hcn : (c != 0) = true := by simp [hc]
    clear hc hno
    go_enter Tryz.func5, Tryz.ntmps5
    go_upto_region 1 with fail
    rw [← unhide HW1]
    clear HW1
    go_wp2_with fail
    refine (unhide HCK).mono ?_
    rintro e w2 ⟨rfl, hb2⟩
    have HB2 : Hid (Below w.heap.size w w2) := hide ((unhide HB1).trans (hb2.mono (unhide HB1).size))
    clear hb2 r0 r1 r2 r3 r4 r5 r6 r7 r8 r9 r10 r11 r12 HCK
    go_wp2
    refine bodyPost_ret (v := .tuple #[.slice none 0 0, .int .i64 1]) (by simp [results, Tryz.results5, go_sem]) rfl ?_
    exact ⟨rfl, unhide HB2⟩
end Go.Proofs.YtbijadnekoeofaaGreatDoor
