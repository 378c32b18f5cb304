/-
  gamelaw.BoardTexts, walked: it answers true.
-/
import Derived.Test.YtbcedjjocpjkjaaDoorW64
import Derived.Test.YtbcedjjocpjkjaaDoorW11b
import Derived.Deep.Cut
namespace Go.Proofs.YtbcedjjocpjkjaaDoor
open Go.RowKit
attribute [local go_sem ↓] Go.wp_at_zero Go.wp_at_succ

set_option maxHeartbeats 1000000 in
theorem eqFault (w : World) (c n : Int) : (Op.equalIn 10000 29 (.agg #[.int .i64 c, .int .i64 n]) (.agg #[.int .i64 c, .int .i64 n])).run Tryd.prog w = .ok true w := by
  rw [run_equalIn_agg w 9999 29 _ _ (by kernel_rfl) (by kernel_rfl)]
  unfold Program.fieldsOf
  rw [Tryd.underlying29]
  simp [go_sem]

/-- board.Read and gameref.Parsed answer the same. -/
theorem read_parsed (s : ByteArray) (hs : s.size ≤ maxLen) : ∃ (W H : Int) (C : ByteArray) (T : Int) (A B : ByteArray) (c n : Int),
    (∀ w : World, Calls Tryd.prog 5 #[.string s] w fun e w' => e = .returned (.tuple #[.agg #[.int .i64 W, .int .i64 H, .string C, .int .i64 T, .string A, .string B], .agg #[.int .i64 c, .int .i64 n]]) ∧ Below w.heap.size w w') ∧
    (∀ (m : Int) (w : World), w.cell? ⟨0, 0, none⟩ = some (.int .i64 m) → 0 < w.heap.size → Calls Tryd.prog 6 #[.string s] w fun e w' => e = .returned (.tuple #[.agg #[.int .i64 W, .int .i64 H, .string C, .int .i64 T, .string A, .string B], .agg #[.int .i64 c, .int .i64 n]]) ∧ Below w.heap.size w w') := by
  by_cases hx : ∃ x, readsAs s x
  · obtain ⟨x, hx⟩ := hx
    have huniq : ∀ y, readsAs s y → y = x := by
      intro y hy
      unfold readsAs at hx hy
      rw [hx] at hy
      simp only [Prod.mk.injEq, Option.some.injEq, and_true] at hy
      exact hy.symm
    refine ⟨(x.1 : Int), (x.2.1 : Int), ⟨x.2.2.1.toArray⟩, x.2.2.2.1, ⟨x.2.2.2.2.1.toArray⟩, ⟨x.2.2.2.2.2.toArray⟩, 0, 0, fun w => (Read_any s w hs).mono ?_, fun m w hm h0 => (Parsed_any s m w hm h0).mono ?_⟩
    · rintro e w' ⟨h, hb⟩
      rcases h with ⟨y, hy, rfl⟩ | ⟨hn, _⟩
      · rw [huniq y hy]
        exact ⟨rfl, hb⟩
      · exact absurd hx (hn x)
    · rintro e w' ⟨h, hb⟩
      rcases h with ⟨y, hy, rfl⟩ | ⟨hn, _⟩
      · rw [huniq y hy]
        exact ⟨rfl, hb⟩
      · exact absurd hx (hn x)
  · refine ⟨0, 0, ⟨#[]⟩, 0, ⟨#[]⟩, ⟨#[]⟩, 3, ((posF s.data.toList).2 : Int), fun w => (Read_any s w hs).mono ?_, fun m w hm h0 => (Parsed_any s m w hm h0).mono ?_⟩
    · rintro e w' ⟨h, hb⟩
      rcases h with ⟨y, hy, rfl⟩ | ⟨_, rfl⟩
      · exact absurd ⟨y, hy⟩ hx
      · exact ⟨rfl, hb⟩
    · rintro e w' ⟨h, hb⟩
      rcases h with ⟨y, hy, rfl⟩ | ⟨_, rfl⟩
      · exact absurd ⟨y, hy⟩ hx
      · exact ⟨rfl, hb⟩

set_option maxHeartbeats 2000000 in
set_option maxRecDepth 100000 in
theorem texts_any (W H T : Int) (C A B s : ByteArray) (m : Int) (w : World) (hC : C.size ≤ maxLen) (hA : A.size ≤ maxLen) (hB : B.size ≤ maxLen) (hs : s.size ≤ maxLen) (hm : w.cell? ⟨0, 0, none⟩ = some (.int .i64 m)) (h0 : 0 < w.heap.size) :
    Calls Tryd.prog 3 #[.agg #[.int .i64 W, .int .i64 H, .string C, .int .i64 T, .string A, .string B], .string s] w fun e w' => e = .returned (.bool true) ∧ Below w.heap.size w w' := by
  obtain ⟨W3, H3, C3, T3, A3, B3, c3, n3, hRd, hPa⟩ := read_parsed s hs
  have HRD := hide hRd
  have HPA := hide hPa
  clear hRd hPa
  have heq := fun w => (eqPos w W3 H3 T3 W3 H3 T3 C3 A3 B3 C3 A3 B3)
  simp only [samePos_refl] at heq
  have heqF := fun w => eqFault w c3 n3
  have hp0 : isBx (w.alloc (.cells #[.int .i64 W, .int .i64 H, .string C, .int .i64 T, .string A, .string B] 24 (0, 0))) w.heap.size (.int .i64 W) (.int .i64 H) (.string C) (.int .i64 T) (.string A) (.string B) := heap_alloc_new w _
  have hb0 : Below w.heap.size w (w.alloc (.cells #[.int .i64 W, .int .i64 H, .string C, .int .i64 T, .string A, .string B] 24 (0, 0))) := (Below.refl _ w).alloc (Nat.le_refl _) _
  cases hpos : posB W H C.data.toList T A.data.toList B.data.toList with
  | false =>
    have HP := hide hpos
    clear hpos
    go_enter Tryd.func3, Tryd.ntmps3
    go_wp2_with fail
    refine (Write_no W H T C A B _ hC hA hB (unhide HP)).mono ?_
    rintro e w1 ⟨rfl, hb1⟩
    have hp1 := hp0.below hb1 hp0.lt
    have hw1 := hb0.trans (hb1.mono (by simp))
    clear hp0 hb0 hb1
    go_wp2_with fail
    refine (unhide HRD _).mono ?_
    rintro e w2 ⟨rfl, hb2⟩
    have hp2 := hp1.below hb2 hp1.lt
    have hw2 := hw1.trans (hb2.mono (by have := hp1.lt; omega))
    clear hp1 hw1 hb2
    have hz2 : w.heap.size < w2.heap.size := hp2.lt
    have hw2o := fun o o' => (hw2.alloc (by omega) o).alloc (by simp; omega) o'
    have HM2 : Hid (∀ o o', ((w2.alloc o).alloc o').cell? ⟨0, 0, none⟩ = some (.int .i64 m)) := fun o o' => ((hw2o o o').cell (p := ⟨0, 0, none⟩) h0).trans hm
    have HW2 := hide hw2o
    clear hw2o
    go_wp2_with fail
    refine (unhide HPA m _ (unhide HM2 _ _) (by simp)).mono ?_
    rintro e w3 ⟨rfl, hb3⟩
    have hb3' := hb3
    have hp3 := isBx.below ((hp2.alloc _).alloc _) hb3 (by simp; omega)
    have hw3 := (unhide HW2 _ _).trans (hb3.mono (by simp; omega))
    have hq3 : isBx w3 w2.heap.size (.int .i64 W3) (.int .i64 H3) (.string C3) (.int .i64 T3) (.string A3) (.string B3) := isBx.below (isBx.alloc (heap_alloc_new w2 _) _) hb3 (by simp; omega)
    have hg3 : isFx w3 (w2.heap.size + 1) (.int .i64 c3) (.int .i64 n3) := by
      refine isFx.below (w := (w2.alloc (.cells #[.int .i64 W3, .int .i64 H3, .string C3, .int .i64 T3, .string A3, .string B3] 24 (0, 0))).alloc (.cells #[.int .i64 c3, .int .i64 n3] 29 (0, 0))) ?_ hb3 (by simp)
      have := heap_alloc_new (w2.alloc (.cells #[.int .i64 W3, .int .i64 H3, .string C3, .int .i64 T3, .string A3, .string B3] 24 (0, 0))) (.cells #[.int .i64 c3, .int .i64 n3] 29 (0, 0))
      simpa [isFx] using this
    clear hb3 hb3' HW2 HM2 HPA HRD hw2 hp2
    have hz3 : w2.heap.size + 1 < w3.heap.size := hg3.lt
    have hpo := fun o o' => ((hp3.alloc o).alloc o').all.1
    have c0 := fun o o' => (hpo o o').1
    have c1 := fun o o' => (hpo o o').2.1
    have c2 := fun o o' => (hpo o o').2.2.1
    have c3' := fun o o' => (hpo o o').2.2.2.1
    have c4 := fun o o' => (hpo o o').2.2.2.2.1
    have c5 := fun o o' => (hpo o o').2.2.2.2.2
    have hqo := fun o o' => ((hq3.alloc o).alloc o').all.1
    have d0 := fun o o' => (hqo o o').1
    have d1 := fun o o' => (hqo o o').2.1
    have d2 := fun o o' => (hqo o o').2.2.1
    have d3 := fun o o' => (hqo o o').2.2.2.1
    have d4 := fun o o' => (hqo o o').2.2.2.2.1
    have d5 := fun o o' => (hqo o o').2.2.2.2.2
    have hgo := fun o o' => ((hg3.alloc o).alloc o').all.1
    have g0 := fun o o' => (hgo o o').1
    have g1 := fun o o' => (hgo o o').2
    clear hpo hqo hgo
    go_wp2_with fail
    refine (refPosition_any W H T C A B _ hA hB).mono ?_
    rintro e w4 ⟨rfl, hb4⟩
    rw [unhide HP]
    have hp4 := isBx.below ((hp3.alloc _).alloc _) hb4 (by have := hp3.lt; simp; omega)
    have hw4 := ((hw3.alloc (by omega) _).alloc (by simp; omega) _).trans (hb4.mono (by simp; omega))
    clear hp3 hw3 hq3 hg3 hb4 c0 c1 c2 c3' c4 c5 d0 d1 d2 d3 d4 d5 g0 g1 heq heqF
    obtain ⟨⟨q0, q1, q2, q3, q4, q5⟩, _⟩ := hp4.all
    go_wp2_with fail
    refine (Check_no _ _ _ _ _ _ _ hC hA hB (unhide HP)).mono ?_
    rintro e w5 ⟨rfl, hb5⟩
    have hw5 := hw4.trans (hb5.mono (by have := hp4.lt; omega))
    go_wp2
    go_ret
    exact ⟨rfl, hw5⟩
  | true =>
    obtain ⟨W, H, rfl, rfl, p⟩ := isPos_of hpos
    have HPP := hide p
    clear hpos p
    go_enter Tryd.func3, Tryd.ntmps3
    go_wp2_with fail
    refine (Write_ok _ (unhide HPP)).mono ?_
    rintro e w1 ⟨rfl, hb1⟩
    have hp1 := hp0.below hb1 hp0.lt
    have hw1 := hb0.trans (hb1.mono (by simp))
    clear hp0 hb0 hb1
    go_wp2_with fail
    refine (unhide HRD _).mono ?_
    rintro e w2 ⟨rfl, hb2⟩
    have hp2 := hp1.below hb2 hp1.lt
    have hw2 := hw1.trans (hb2.mono (by have := hp1.lt; omega))
    clear hp1 hw1 hb2
    have hz2 : w.heap.size < w2.heap.size := hp2.lt
    have hw2o := fun o o' => (hw2.alloc (by omega) o).alloc (by simp; omega) o'
    have HM2 : Hid (∀ o o', ((w2.alloc o).alloc o').cell? ⟨0, 0, none⟩ = some (.int .i64 m)) := fun o o' => ((hw2o o o').cell (p := ⟨0, 0, none⟩) h0).trans hm
    have HW2 := hide hw2o
    clear hw2o
    go_wp2_with fail
    refine (unhide HPA m _ (unhide HM2 _ _) (by simp)).mono ?_
    rintro e w3 ⟨rfl, hb3⟩
    have hb3' := hb3
    have hp3 := isBx.below ((hp2.alloc _).alloc _) hb3 (by simp; omega)
    have hw3 := (unhide HW2 _ _).trans (hb3.mono (by simp; omega))
    have hq3 : isBx w3 w2.heap.size (.int .i64 W3) (.int .i64 H3) (.string C3) (.int .i64 T3) (.string A3) (.string B3) := isBx.below (isBx.alloc (heap_alloc_new w2 _) _) hb3 (by simp; omega)
    have hg3 : isFx w3 (w2.heap.size + 1) (.int .i64 c3) (.int .i64 n3) := by
      refine isFx.below (w := (w2.alloc (.cells #[.int .i64 W3, .int .i64 H3, .string C3, .int .i64 T3, .string A3, .string B3] 24 (0, 0))).alloc (.cells #[.int .i64 c3, .int .i64 n3] 29 (0, 0))) ?_ hb3 (by simp)
      have := heap_alloc_new (w2.alloc (.cells #[.int .i64 W3, .int .i64 H3, .string C3, .int .i64 T3, .string A3, .string B3] 24 (0, 0))) (.cells #[.int .i64 c3, .int .i64 n3] 29 (0, 0))
      simpa [isFx] using this
    clear hb3 hb3' HW2 HM2 HPA HRD hw2 hp2
    have hz3 : w2.heap.size + 1 < w3.heap.size := hg3.lt
    have hpo := fun o o' => ((hp3.alloc o).alloc o').all.1
    have c0 := fun o o' => (hpo o o').1
    have c1 := fun o o' => (hpo o o').2.1
    have c2 := fun o o' => (hpo o o').2.2.1
    have c3' := fun o o' => (hpo o o').2.2.2.1
    have c4 := fun o o' => (hpo o o').2.2.2.2.1
    have c5 := fun o o' => (hpo o o').2.2.2.2.2
    have hqo := fun o o' => ((hq3.alloc o).alloc o').all.1
    have d0 := fun o o' => (hqo o o').1
    have d1 := fun o o' => (hqo o o').2.1
    have d2 := fun o o' => (hqo o o').2.2.1
    have d3 := fun o o' => (hqo o o').2.2.2.1
    have d4 := fun o o' => (hqo o o').2.2.2.2.1
    have d5 := fun o o' => (hqo o o').2.2.2.2.2
    have hgo := fun o o' => ((hg3.alloc o).alloc o').all.1
    have g0 := fun o o' => (hgo o o').1
    have g1 := fun o o' => (hgo o o').2
    clear hpo hqo hgo
    go_wp2_with fail
    refine (refPosition_any _ _ T C A B _ hA hB).mono ?_
    rintro e w4 ⟨rfl, hb4⟩
    rw [(unhide HPP).posB]
    have hp4 := isBx.below ((hp3.alloc _).alloc _) hb4 (by have := hp3.lt; simp; omega)
    have hw4 := ((hw3.alloc (by omega) _).alloc (by simp; omega) _).trans (hb4.mono (by simp; omega))
    clear hp3 hw3 hq3 hg3 hb4 c0 c1 c2 c3' c4 c5 d0 d1 d2 d3 d4 d5 g0 g1 heq heqF
    obtain ⟨⟨q0, q1, q2, q3, q4, q5⟩, _⟩ := hp4.all
    go_wp2_with fail
    refine (Text_ok _ (unhide HPP)).mono ?_
    rintro e w5 ⟨rfl, hb5⟩
    have hp5 := hp4.below hb5 hp4.lt
    have hw5 := hw4.trans (hb5.mono (by have := hp4.lt; omega))
    clear hp4 hw4 hb5 q0 q1 q2 q3 q4 q5
    obtain ⟨⟨q0, q1, q2, q3, q4, q5⟩, _⟩ := hp5.all
    go_wp2_with fail
    refine (Check_ok _ _ _ _ _ _ _ hC hA hB (unhide HPP).posB).mono ?_
    rintro e w6 ⟨rfl, hb6⟩
    have hw6 := hw5.trans (hb6.mono (by have := hp5.lt; omega))
    go_wp2
    go_ret
    exact ⟨rfl, hw6⟩
end Go.Proofs.YtbcedjjocpjkjaaDoor
