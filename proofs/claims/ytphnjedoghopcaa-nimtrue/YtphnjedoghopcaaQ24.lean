/-
  package nim, walked: values of heaps.
-/
import Derived.Test.YtphnjedoghopcaaQ23
namespace Go.Proofs.Ytphnjedoghopcaa
open Go.RowKit
attribute [local go_sem ↓] Go.wp_at_zero Go.wp_at_succ

theorem nvals_ivals (L : List Nat) : nvals L = ivals (natI L) := by simp [nvals, ivals, natI]
theorem isIs_of_row {w : World} {base : Nat} {v : Value} {L : List Nat} (h : w.ownsRow base 3 1 v L.length (nvals L)) : ∃ ao cap, v = .slice ao L.length cap ∧ isIs w w.heap.size ao cap (natI L) := by
  obtain ⟨ao, cap, hv, hP⟩ := isIsP.of_row (w := w) (base := base) (v := v) (r := natI L) (by rw [natI_len, ← nvals_ivals]; exact h)
  rw [natI_len] at hv
  exact ⟨ao, cap, hv, hP.1, hP.2.1, fun hne => by obtain ⟨g, off, e, hS, hc⟩ := hP.2.2 hne; exact ⟨g, off, e, hS.2, hc⟩⟩
theorem entCl1 : ∀ args (u : World), (callFunc 29 args).run Try.prog u = .ok (.enter 29 args) u := enters_of Try.func29 (by kernel_rfl) rfl
theorem entLM : ∀ args (u : World), (callFunc 31 args).run Try.prog u = .ok (.enter 31 args) u := enters_of Try.func31 (by kernel_rfl) rfl
/-- What values leaves. -/
structure HvEnd (D : List Nat) (n : Nat) (w : World) (e : Ending) (w' : World) : Prop where
  low : Below w.heap.size w w'
  out : ∃ g, e = .returned (.slice (some ⟨g, 0, none⟩) (n + 1) (n + 1)) ∧ isIs w' w'.heap.size (some ⟨g, 0, none⟩) (n + 1) (natI (grL D (n + 1)))
/-- The closure's state. -/
def vI (W : List Nat) (b7 : Nat) (w2 : World) (P : List (List Nat)) (u : World) : Prop := (∃ vb, isSb u b7 vb 22 ∧ u.ownsRow (b7 + 1) 3 1 vb P.length (nvals (P.map (xorL W)))) ∧ Btb (b7 + 1) b7 w2 u ∧ b7 + 1 ≤ w2.heap.size

set_option maxHeartbeats 4000000 in
set_option maxRecDepth 100000 in
theorem hvals_any (d : ByteArray) (n : Nat) (w : World) (hd6 : d.size ≤ 6) (hdig : d.data.toList.all digB = true) (hn : n ≤ 400) :
    Calls Try.prog 20 #[.string d, .int .i64 (n : Int)] w fun e w' => HvEnd (digs d) n w e w' := by
  obtain ⟨N, hN⟩ : ∃ N : Nat, N = n + 1 := ⟨_, rfl⟩
  have hNi : (n : Int) + 1 = (N : Int) := by omega
  have hN401 : N ≤ 401 := by omega
  obtain ⟨D, hD⟩ : ∃ D, D = digs d := ⟨_, rfl⟩
  have hD6 : D.length ≤ 6 := by rw [hD, digs_len]; exact hd6
  rw [← hD]
  obtain ⟨M, hMs, hmk⟩ := made0 48 3 _ 8 Try.underlying48 Try.infoI (by omega) N (by omega)
  obtain ⟨wa, hwa⟩ : ∃ wa, wa = (w.alloc (.cells M 3 (0, 0))).alloc (.cells #[.slice (some ⟨w.heap.size, 0, none⟩) 0 N] 48 (0, 0)) := ⟨_, rfl⟩
  have hba : Below w.heap.size w wa := by rw [hwa]; exact ((Below.refl _ _).alloc (Nat.le_refl _) _).alloc (by simp) _
  have hra : wa.ownsRow w.heap.size 3 1 (.slice (some ⟨w.heap.size, 0, none⟩) 0 N) 0 (nvals (grL D 0)) := by rw [hwa]; exact (World.ownsRow_made w M N (Nat.le_refl _) (by unfold maxLen; omega) hMs).alloc _
  have hsa : isSb wa (w.heap.size + 1) (.slice (some ⟨w.heap.size, 0, none⟩) 0 N) 48 := by
    rw [hwa]; unfold isSb
    have := heap_alloc_new (w.alloc (.cells M 3 (0, 0))) (.cells #[.slice (some ⟨w.heap.size, 0, none⟩) 0 N] 48 (0, 0))
    rwa [show (w.alloc (.cells M 3 (0, 0))).heap.size = w.heap.size + 1 by simp] at this
  have hmf : ∀ (fn : Fn) (first cap : Array Value) (u : World), (Instr.makeFunc fn first cap).run Try.prog u = .ok (.func fn first cap) u := fun _ _ _ _ => rfl
  obtain ⟨i0, hi, hz0, hz1, hz2⟩ := info_parts Try.infoI
  have HI0 := hide hi
  have HZ1 := hide hz1
  have HBA := hide hba
  have HRA := hide hra
  have HSA := hide hsa
  have HWA := hide hwa
  have HN := hide hN
  have HD := hide hD
  have HDG := hide hdig
  clear hba hra hsa hwa hMs hN hD hdig hi hz0 hz1 hz2
  go_enter Try.func20, Try.ntmps20
  go_wp2
  rw [← unhide HWA]
  clear HWA hmk
  go_loopw [13] (fun iv wr => ∃ k : Nat, k ≤ N ∧ iv = .int .i64 (k : Int) ∧ isSb wr (w.heap.size + 1) (.slice (some ⟨w.heap.size, 0, none⟩) k N) 48 ∧ wr.ownsRow w.heap.size 3 1 (.slice (some ⟨w.heap.size, 0, none⟩) k N) k (nvals (grL D k)) ∧ Below w.heap.size w wr) (fun iv _ => N - (intOf iv).toNat)
  case atStart => exact ⟨0, Nat.zero_le _, rfl, unhide HSA, unhide HRA, unhide HBA⟩
  case round =>
    obtain ⟨k, hk, rfl, hsb, hrow, hb⟩ := hrel
    clear HSA HRA HBA
    rename World => wk
    by_cases hlt : k < N
    · have hlti : (k : Int) < (N : Int) := by omega
      have hk0 : (0 : Int) ≤ (k : Int) := by omega
      obtain ⟨W, hW⟩ : ∃ W, W = grL D k := ⟨_, rfl⟩
      have hWl : W.length = k := by rw [hW]; exact grL_len D k
      have hWv : ∀ i : Nat, W[i]! < 4096 := fun i => by
        by_cases hik : i < k
        · rw [hW, grL_at D hik]; exact gr_lt hD6 (by omega)
        · rw [getElem!_neg W i (by omega)]; show 0 < 4096; omega
      obtain ⟨w2, hw2⟩ : ∃ w2, w2 = wk.alloc (.cells #[.slice none 0 0] 22 (0, 0)) := ⟨_, rfl⟩
      have hb2 : Below wk.heap.size wk w2 := by rw [hw2]; exact (Below.refl _ _).alloc (Nat.le_refl _) _
      have hs2 : w2.heap.size = wk.heap.size + 1 := by rw [hw2]; simp
      have h7 : isSb w2 wk.heap.size (.slice none 0 0) 22 := by rw [hw2]; exact heap_alloc_new wk _
      have hgwk : w.heap.size < wk.heap.size := (World.ownsRow.lt hrow w.heap.size rfl).2
      have hsbl := hsb.lt
      rw [← hW] at hrow
      obtain ⟨T, hT⟩ : ∃ T, T = tks D k := ⟨_, rfl⟩
      have hTl : T.length ≤ 2412 := by rw [hT]; exact tks_len hD6 (by omega)
      have hEA := each_any d k 29 #[.pointer (some ⟨wk.heap.size, 0, none⟩), .pointer (some ⟨w.heap.size + 1, 0, none⟩)] (fun _ => false) (vI W wk.heap.size w2) w2 hd6 (unhide HDG) (by omega) entCl1
        (fun P u o ⟨⟨vb, g1, g2⟩, g3, g4⟩ => ⟨⟨vb, (Below.heap_alloc _ _ _ g1.lt).trans g1, g2.alloc o⟩, g3.alloc (Nat.le_trans g4 g3.size) o, g4⟩)
        (fun P x ao cap u hP _ ⟨⟨vb, g1, g2⟩, g3, g4⟩ hx hno => by
          rw [← unhide HD, ← hT] at hP
          obtain ⟨R, hP⟩ := hP
          have hPl : P.length ≤ 2412 := by
            have := congrArg List.length hP
            rw [List.length_append, List.length_cons] at this
            omega
          have hu5 : isSb u (w.heap.size + 1) (.slice (some ⟨w.heap.size, 0, none⟩) W.length N) 48 := by
            rw [hWl]
            exact (g3.block _ (by omega) (by omega)).trans ((hb2.block _ hsbl).trans hsb)
          have huW : isIs u u.heap.size (some ⟨w.heap.size, 0, none⟩) N (natI W) := by
            have hr2 : w2.ownsRow w.heap.size 3 1 (.slice (some ⟨w.heap.size, 0, none⟩) W.length N) W.length (nvals W) := by rw [hWl]; exact row_keep hrow (fun j _ hj => hb2.block j hj)
            obtain ⟨ao', cap', he, hI⟩ := isIs_of_row hr2
            cases he
            refine ⟨hI.1, hI.2.1, fun hne => ?_⟩
            obtain ⟨g', off', e', hg', hc'⟩ := hI.2.2 hne
            cases e'
            exact ⟨w.heap.size, 0, rfl, by have := g3.size; omega, fun j y hy => (World.cell?_of_block (a := ⟨w.heap.size, 0 + j, none⟩) (g3.block _ (by simp only; omega) (by simp only; omega))).trans (hc' j y hy)⟩
          have hxT : x ∈ tks D k := by rw [← hT, hP]; simp
          have hcl := close1_any W hWv (wk.heap.size + 1) wk.heap.size (w.heap.size + 1) u.heap.size (some ⟨w.heap.size, 0, none⟩) ao N cap vb (P.map (xorL W)) x u g1 hu5 (by rw [List.length_map]; exact g2) (by have := g3.size; omega) (by omega) huW hx (fun y hy => by rw [hWl]; exact ((tks_lt hxT).1 y hy).2) (by rw [List.length_map]; omega)
          refine hcl.mono ?_
          rintro e u' ⟨he, ⟨vb', q1, q2⟩, q3⟩
          refine ⟨he, ⟨vb', q1, ?_⟩, g3.trans q3, g4⟩
          rw [List.map_append, List.length_append]
          rw [List.length_append, List.length_map] at q2
          exact q2)
        ⟨⟨_, h7, ⟨rfl, .inl ⟨rfl, rfl⟩⟩⟩, Btb.refl _ _ _, by omega⟩
      rw [← unhide HD, ← hT, upTo_all _ _ (fun _ _ => rfl)] at hEA
      have HEA := hide hEA
      have HW2 := hide hw2
      have HB := hide (hb.trans (hb2.mono hb.size))
      have HR2 := hide (show w2.ownsRow w.heap.size 3 1 (.slice (some ⟨w.heap.size, 0, none⟩) k N) k (nvals W) from row_keep hrow (fun j _ hj => hb2.block j hj))
      have HS2 := hide (show isSb w2 (w.heap.size + 1) (.slice (some ⟨w.heap.size, 0, none⟩) k N) 48 from (hb2.block _ hsbl).trans hsb)
      have HW := hide hW
      have HT := hide hT
      clear hEA hw2 hb hb2 hrow hsb h7 hWv hW hT
      go_wp2_with fail
      rw [← unhide HW2]
      refine (unhide HEA).mono ?_
      rintro e w3 ⟨rfl, ⟨vb, g1, g2⟩, g3, g4⟩
      obtain ⟨uo, uc, hvb, hIV⟩ := isIs_of_row (L := T.map (xorL W)) (by rw [List.length_map]; exact g2)
      rw [List.length_map] at hvb
      subst hvb
      obtain ⟨c7, -⟩ := g1.cell
      have hs3 : isSb w3 (w.heap.size + 1) (.slice (some ⟨w.heap.size, 0, none⟩) k N) 48 := (g3.block _ (by omega) (by omega)).trans (unhide HS2)
      have hr3 : w3.ownsRow w.heap.size 3 1 (.slice (some ⟨w.heap.size, 0, none⟩) k N) k (nvals W) := by
        obtain ⟨q1, q2⟩ := unhide HR2
        refine ⟨q1, ?_⟩
        rcases q2 with ⟨e, -⟩ | ⟨g, cp, cur, e, hbg, hg, hr⟩
        · cases e
        · cases e
          exact .inr ⟨w.heap.size, N, cur, rfl, hbg, (g3.block _ (by omega) (by omega)).trans hg, hr⟩
      have hB3 : Below w.heap.size w w3 := (unhide HB).trans (g3.below (by omega) (by omega))
      obtain ⟨m, hm⟩ : ∃ m, m = mexN (T.map (xorL W)) := ⟨_, rfl⟩
      have hLM := leastMissing_any w3.heap.size uo uc (T.map (xorL W)) w3.drew hIV (Nat.le_refl _) (by rw [List.length_map]; omega)
      rw [List.length_map, ← hm] at hLM
      have hnx : nvals (grL D (k + 1)) = nvals W ++ [.int .i64 (m : Int)] := by
        rw [grL, hm, unhide HT, ← unhide HW]; simp [nvals]
      have c7d : w3.drew.cell? ⟨wk.heap.size, 0, none⟩ = some (.slice uo T.length uc) := c7
      have c5d : w3.drew.cell? ⟨w.heap.size + 1, 0, none⟩ = some (.slice (some ⟨w.heap.size, 0, none⟩) k N) := hs3.cell.1
      have hs3l := hs3.lt
      have HCB : Hid (∀ w4 : World, Below w3.drew.heap.size w3.drew w4 → w4.cell? ⟨w.heap.size + 1, 0, none⟩ = some (.slice (some ⟨w.heap.size, 0, none⟩) k N) ∧ (∀ o, (w4.alloc o).cell? ⟨w.heap.size + 1, 0, none⟩ = some (.slice (some ⟨w.heap.size, 0, none⟩) k N)) ∧ (∀ o, (w4.alloc o).ownsRow w.heap.size 3 1 (.slice (some ⟨w.heap.size, 0, none⟩) k N) k (nvals W)) ∧
          (∀ (j : Nat) (v : Value), [Value.int .i64 (m : Int)][j]? = some v → (w4.alloc (.cells #[.int .i64 (m : Int)] 3)).cell? ((⟨w4.heap.size, 0, none⟩ : Addr).add j) = some v) ∧
          ∀ o w9, w9.ownsRow w.heap.size 3 1 (.slice (some ⟨w.heap.size, 0, none⟩) (k + 1) N) (k + 1) (nvals W ++ [.int .i64 (m : Int)]) → (w4.alloc o).grownBy w9 (some w.heap.size) →
            w9.cell? ⟨w.heap.size + 1, 0, none⟩ = some (.slice (some ⟨w.heap.size, 0, none⟩) k N) ∧ w9.frozen? ⟨w.heap.size + 1, 0, none⟩ = false ∧
            isSb (w9.setCell ⟨w.heap.size + 1, 0, none⟩ (.slice (some ⟨w.heap.size, 0, none⟩) (k + 1) N)) (w.heap.size + 1) (.slice (some ⟨w.heap.size, 0, none⟩) (k + 1) N) 48 ∧
            (w9.setCell ⟨w.heap.size + 1, 0, none⟩ (.slice (some ⟨w.heap.size, 0, none⟩) (k + 1) N)).ownsRow w.heap.size 3 1 (.slice (some ⟨w.heap.size, 0, none⟩) (k + 1) N) (k + 1) (nvals (grL D (k + 1))) ∧
            Below w.heap.size w (w9.setCell ⟨w.heap.size + 1, 0, none⟩ (.slice (some ⟨w.heap.size, 0, none⟩) (k + 1) N))) := hide (fun w4 hb4 => by
        have hz4 : w3.heap.size ≤ w4.heap.size := hb4.size
        have hs4 : isSb w4 (w.heap.size + 1) (.slice (some ⟨w.heap.size, 0, none⟩) k N) 48 := (hb4.block _ hs3l).trans hs3
        have hsal : ∀ o, isSb (w4.alloc o) (w.heap.size + 1) (.slice (some ⟨w.heap.size, 0, none⟩) k N) 48 := fun o => (Below.heap_alloc _ _ _ hs4.lt).trans hs4
        have hr4 : w4.ownsRow w.heap.size 3 1 (.slice (some ⟨w.heap.size, 0, none⟩) k N) k (nvals W) := row_keep hr3 (fun j _ hj => hb4.block j hj)
        refine ⟨hs4.cell.1, fun o => (hsal o).cell.1, fun o => hr4.alloc o, fun j v hj => ?_, fun o w9 h9 g9 => ?_⟩
        · match j, hj with
          | 0, hj =>
            simp at hj; subst hj
            rw [show (⟨w4.heap.size, 0, none⟩ : Addr).add 0 = ⟨w4.heap.size, 0, none⟩ by simp [Addr.add]]
            exact cell_of_row _ _ _ _ _ _ (heap_alloc_new w4 _)
        · have hs9 : isSb w9 (w.heap.size + 1) (.slice (some ⟨w.heap.size, 0, none⟩) k N) 48 := (g9.block _ (hsal o).lt (by simp)).trans (hsal o)
          refine ⟨hs9.cell.1, hs9.cell.2, hs9.put _, ?_, ?_⟩
          · rw [hnx]
            obtain ⟨q1, q2⟩ := h9
            refine ⟨q1, ?_⟩
            rcases q2 with ⟨e, -⟩ | ⟨g, cp, cur, e, hbg, hg, hr⟩
            · cases e
            · cases e
              exact .inr ⟨w.heap.size, N, cur, rfl, hbg, (Below.heap_setCell _ _ _ _ (by simp only; omega)).trans hg, hr⟩
          · have hBB : Below w.heap.size w w4 := hB3.trans (undrew (hb4.mono (by show w.heap.size ≤ w3.heap.size; omega)))
            have hwz : w.heap.size ≤ w4.heap.size := hBB.size
            exact ((hBB.alloc hwz o).grown g9 (by simp; omega) (fun j hj => by cases hj; exact Nat.le_refl _)).setCell (p := ⟨w.heap.size + 1, 0, none⟩) (by simp only; omega) _)
      have HLM := hide hLM
      have HON : Hid (∀ v ∈ [Value.int .i64 (m : Int)], v.oneCell' = true) := hide (fun v hv => by simp only [List.mem_singleton] at hv; subst hv; rfl)
      have hkN : k + 1 ≤ N := hlt
      clear g1 g2 g3 hs3 hr3 hB3 hLM hIV hnx hm c7 HB HS2 HR2
      go_upto_region 7 with fail
      go_region_law (first
        | (refine step_call rfl 31 #[.tmp 21] #[22] rfl #[.slice uo T.length uc] (by simp [Act.eval]) entLM (unhide HLM) ?_; rintro e1 w4 ⟨rfl, hb4⟩; refine ⟨_, rfl, ?_⟩; obtain ⟨y1, y2, y3, y4, y5⟩ := unhide HCB w4 hb4; have Y3 := hide y3; have Y4 := hide y4; have Y5 := hide y5; clear y3 y4 y5 hb4)
        | (refine step_append_fits rfl (.tmp 20) (.tmp 23) 48 rfl w.heap.size 3 i0 1 Try.underlying48 (unhide HI0) (unhide HZ1) w.heap.size k N (nvals W) (by simp [Act.eval]) (unhide Y3 _) ⟨w4.heap.size, 0, none⟩ 1 1 [.int .i64 (m : Int)] (by simp [Act.eval]) rfl (unhide Y4) (unhide HON) hkN ?_; intro w9 hown9 hg9; obtain ⟨z1, z2, z3, z4, z5⟩ := unhide Y5 _ w9 hown9 hg9; have Z3 := hide z3; have Z4 := hide z4; have Z5 := hide z5; clear z3 z4 z5 hown9 hg9))
      all_goals
        go_wp2
        go_roundw
        case rel => exact ⟨k + 1, by omega, by go_num, unhide Z3, unhide Z4, unhide Z5⟩
        case measure => simp only [intOf]; omega
    · have hlti : ¬ (k : Int) < (N : Int) := by omega
      obtain rfl : k = N := by omega
      obtain ⟨c5, -⟩ := hsb.cell
      have HE : Hid (HvEnd D n w (.returned (.slice (some ⟨w.heap.size, 0, none⟩) k k)) wk) := hide ⟨hb, w.heap.size, by rw [unhide HN], by
        obtain ⟨ao', cap', he, hI⟩ := isIs_of_row (L := grL D k) (by rw [grL_len]; exact hrow)
        simp only [Value.slice.injEq] at he
        obtain ⟨rfl, -, rfl⟩ := he
        rw [← unhide HN]; exact hI⟩
      clear hb hrow hsb
      go_wp2
      go_ret
      exact unhide HE
end Go.Proofs.Ytphnjedoghopcaa
