/-
  package table, walked: Best, where a move leads on.
  gamekeep.ends$1, walked: the entry of a position of a table.
-/
import Derived.Test.YtbijadnekoeofaaGreatDoorJ39
import Derived.Test.YtbijadnekoeofaaGreatDoorJ15
import Derived.Deep.RegionHeld3
import Derived.Test.YtbijadnekoeofaaGreatDoorJ36
import Derived.BigQuiet
namespace Go.Proofs.YtbijadnekoeofaaGreatDoor
open Go.RowKit
attribute [local go_sem ↓] Go.wp_at_zero Go.wp_at_succ

theorem isMb.frozenT {w : World} {b : Nat} {f t c : Int} (h : isMb w b f t c) (k : Nat) : w.frozen? ⟨b, k, none⟩ = false := frozen_of_row w b k _ _ h
theorem gS_bound {dom : List Po} {ts : List (Po × Int × Int)} (h : ∀ x ∈ ts, 0 ≤ x.2.2 ∧ x.2.2 ≤ 5000) (q : Po) : 0 ≤ (gS dom ts q).2.1 ∧ (gS dom ts q).2.1 ≤ 5000 := by
  unfold gS
  split
  · have : ∀ l : List (Po × Int × Int), (∀ x ∈ l, 0 ≤ x.2.2 ∧ x.2.2 ≤ 5000) → 0 ≤ (clO (fstE l q)).2.1 ∧ (clO (fstE l q)).2.1 ≤ 5000 := by
      intro l
      induction l with
      | nil => intro _; simp [fstE, clO]
      | cons x l ih =>
        intro hl
        unfold fstE
        split
        · exact hl x (by simp)
        · exact ih (fun y hy => hl y (by simp [hy]))
    exact this ts h
  · simp
/-- What Best hands back. -/
structure BeE (Ls : List Mv) (lead : Mv → Bool) (w : World) (e : Ending) (w' : World) : Prop where
  out : ∃ m, m ∈ Ls ∧ lead m = true ∧ e = .returned (.tuple #[.agg #[.int .i64 m.f, .int .i64 (m.t : Int), .int .u8 (m.c : Int)], .int .i64 0])
  bw : Below w.heap.size w w'

set_option maxHeartbeats 4000000 in
set_option maxRecDepth 100000 in
theorem best_walk (v0 v1 v2 v3 v4 v5 v6 v7 v8 v9 v10 v11 v12 lv : Value) (bl : Nat) (ts : List (Po × Int × Int)) (p : Po) (Ls : List Mv) (beh : Mv → Po) (w : World) (hl : w.ownsRow bl 34 8 lv ts.length (evs ts)) (htl : ts.length ≤ 5000) (htok : ∀ x ∈ ts, x.1.ok) (htb : ∀ x ∈ ts, 0 ≤ x.2.2 ∧ x.2.2 ≤ 5000) (hp : p.ok) (hqok : ∀ m ∈ Ls, (beh m).ok) (hLl : Ls.length ≤ 4608)
    (hex : ∃ m ∈ Ls, leadsB (gS (Ls.map beh ++ [p]) ts p) (gS (Ls.map beh ++ [p]) ts (beh m)) = true)
    (hCk : ∀ u, Below w.heap.size w u → Calls Tryz.prog 12 #[.agg #[v0, v1, v2, v3, v4, v5, v6, v7, v8, v9, v10, v11, v12]] u fun e w' => e = .returned (.int .i64 0) ∧ Below u.heap.size u w')
    (hNx : ∀ u, Below w.heap.size w u → Calls Tryz.prog 35 #[.agg #[v0, v1, v2, v3, v4, v5, v6, v7, v8, v9, v10, v11, v12], .agg #[.int .i64 p.W, .int .i64 p.H, .string p.C, .int .i64 p.T, .string p.A, .string p.B]] u fun e w' => ∃ x y, e = .returned (.tuple #[x, y, .int .i64 0]) ∧ w'.ownsRow u.heap.size 45 3 x Ls.length (mvals Ls) ∧ w'.ownsRow u.heap.size 24 6 y Ls.length (povs (Ls.map beh)) ∧ Below u.heap.size u w') :
    Calls Tryz.prog 28 #[.agg #[v0, v1, v2, v3, v4, v5, v6, v7, v8, v9, v10, v11, v12], lv, .agg #[.int .i64 p.W, .int .i64 p.H, .string p.C, .int .i64 p.T, .string p.A, .string p.B]] w (BeE Ls (fun m => leadsB (gS (Ls.map beh ++ [p]) ts p) (gS (Ls.map beh ++ [p]) ts (beh m))) w) := by
  obtain ⟨i0, hinfo, hz0, hz1, hz2⟩ := info_parts infoPo
  obtain ⟨aq, haq⟩ : ∃ aq, aq = Ls.map beh ++ [p] := ⟨_, rfl⟩
  rw [← haq] at hex ⊢
  obtain ⟨Gp, hGp⟩ : ∃ Gp, Gp = gS aq ts p := ⟨_, rfl⟩
  rw [← hGp] at hex ⊢
  have HGP := hide hGp
  have HAQ := hide haq
  clear hGp haq
  obtain ⟨w1, hw1⟩ : ∃ w1, w1 = w.alloc (.cells #[v0, v1, v2, v3, v4, v5, v6, v7, v8, v9, v10, v11, v12] 27 (0, 0)) := ⟨_, rfl⟩
  obtain ⟨w2, hw2⟩ : ∃ w2, w2 = w1.alloc (.cells #[.int .i64 p.W, .int .i64 p.H, .string p.C, .int .i64 p.T, .string p.A, .string p.B] 24 (0, 0)) := ⟨_, rfl⟩
  obtain ⟨w3, hw3⟩ : ∃ w3, w3 = w2.alloc (.cells #[.int .i64 0, .int .i64 0, .int .u8 0] 45 (0, 0)) := ⟨_, rfl⟩
  have hb1 : Below w.heap.size w w1 := by rw [hw1]; exact (Below.refl _ _).alloc (Nat.le_refl _) _
  have hb2 : Below w1.heap.size w1 w2 := by rw [hw2]; exact (Below.refl _ _).alloc (Nat.le_refl _) _
  have hb3 : Below w2.heap.size w2 w3 := by rw [hw3]; exact (Below.refl _ _).alloc (Nat.le_refl _) _
  have s1 : w1.heap.size = w.heap.size + 1 := by rw [hw1]; simp
  have s2 : w2.heap.size = w.heap.size + 2 := by rw [hw2]; simp [s1]
  have s3 : w3.heap.size = w.heap.size + 3 := by rw [hw3]; simp [s2]
  have hru : isRu w3 w.heap.size v0 v1 v2 v3 v4 v5 v6 v7 v8 v9 v10 v11 v12 := isRu.below (isRu.below (show isRu w1 w.heap.size v0 v1 v2 v3 v4 v5 v6 v7 v8 v9 v10 v11 v12 by rw [hw1]; exact heap_alloc_new w _) hb2 (by omega)) hb3 (by omega)
  have hpb : isPb w3 (w.heap.size + 1) p.W p.H p.T p.C p.A p.B := (show isPb w2 (w.heap.size + 1) p.W p.H p.T p.C p.A p.B by rw [hw2, ← s1]; exact heap_alloc_new w1 _).below hb3 (by omega)
  have hmb : isMb w3 (w.heap.size + 1 + 1) 0 0 0 := by rw [hw3, ← s2]; exact heap_alloc_new w2 _
  have hbw : Below w.heap.size w w3 := (hb1.trans (hb2.mono (by omega))).trans (hb3.mono (by omega))
  have HBX : Hid (∀ u, (∀ k, k < w3.heap.size → u.heap[k]? = w3.heap[k]?) → isRu u w.heap.size v0 v1 v2 v3 v4 v5 v6 v7 v8 v9 v10 v11 v12 ∧ isPb u (w.heap.size + 1) p.W p.H p.T p.C p.A p.B ∧ isMb u (w.heap.size + 1 + 1) 0 0 0) := hide (fun u hu => ⟨(hu _ (by omega)).trans hru, (hu _ (by omega)).trans hpb, (hu _ (by omega)).trans hmb⟩)
  have HCK := hide (hCk w3 hbw)
  have HNX := hide hNx
  obtain ⟨r0, r1, r2, r3, r4, r5, r6, r7, r8, r9, r10, r11, r12⟩ := hru.cells
  have HW1 := hide hw1
  have HW2 := hide hw2
  have HW3 := hide hw3
  have HBW := hide hbw
  have HL := hide hl
  have HEX := hide hex
  have HQOK := hide hqok
  have HTOK := hide htok
  have HTB := hide htb
  have HPOK := hide hp
  have HI := hide hinfo
  have HZ0 := hide hz0
  have HZ1 := hide hz1
  have HZ2 := hide hz2
  have HS3 := hide s3
  have hM0 : 0 < Ls.length := by obtain ⟨m, hm, _⟩ := hex; exact List.length_pos_of_mem hm
  have HM0 := hide hM0
  clear hw1 hw2 hw3 hb1 hb2 hb3 s1 s2 s3 hru hpb hmb hbw hCk hNx hl hex hqok htok htb hp hinfo hz0 hz1 hz2 hM0
  go_enter Tryz.func28, Tryz.ntmps28
  go_upto_region 1 with fail
  rw [← unhide HW1, ← unhide HW2, ← unhide HW3]
  clear HW1 HW2 HW3
  go_wp2_with fail
  refine (unhide HCK).mono ?_
  rintro e w4 ⟨rfl, hb4⟩
  have hbw4 : Below w.heap.size w w4 := (unhide HBW).trans (hb4.mono (unhide HBW).size)
  clear r0 r1 r2 r3 r4 r5 r6 r7 r8 r9 r10 r11 r12
  obtain ⟨hru4, hpb4, -⟩ := unhide HBX w4 (fun k hk => hb4.block k hk)
  obtain ⟨r0, r1, r2, r3, r4, r5, r6, r7, r8, r9, r10, r11, r12⟩ := hru4.cells
  obtain ⟨p0, p1, p2, p3, p4, p5⟩ := hpb4.all
  have HN4 := hide (unhide HNX w4 hbw4)
  have HB4 := hide hb4
  have HBW4 := hide hbw4
  clear hb4 hbw4 hru4 hpb4 HCK HNX
  go_wp2_with fail
  refine (unhide HN4).mono ?_
  rintro e w5 ⟨xv, yv, rfl, hxr, hyr, hb5⟩
  obtain ⟨M, hM⟩ : ∃ M, M = Ls.length := ⟨_, rfl⟩
  rw [← hM] at hxr hyr hLl
  have hM1 : 0 < M := by rw [hM]; exact unhide HM0
  obtain ⟨gy, cy, rfl, hgy1, hgy2, hcy1, hcy2, hyc⟩ := row_posT hyr (by omega)
  obtain ⟨mo, mc, rfl, hmc1, hmc2, hmcs⟩ := row_movT hxr
  unfold maxLen at hcy2 hmc2
  have z34 := (unhide HB4).size
  have z45 := hb5.size
  have hs3 := unhide HS3
  have hbw5 : Below w.heap.size w w5 := (unhide HBW4).trans (hb5.mono (unhide HBW4).size)
  obtain ⟨v6', w6, hr6, hrow6, hk6, hs6, ho6, ht6, hp6, hold, hgy6⟩ := app_keep (base := w4.heap.size) Tryz.underlying58 (unhide HI) (unhide HZ0) (unhide HZ1) (unhide HZ2) rfl (by omega) hyr [.int .i64 p.W, .int .i64 p.H, .string p.C, .int .i64 p.T, .string p.A, .string p.B] rfl (fun x hx => by
      simp only [List.mem_cons, List.not_mem_nil, or_false] at hx
      rcases hx with rfl | rfl | rfl | rfl | rfl | rfl <;> rfl) (by unfold maxLen; omega) (by omega) z45
  have hbw6 : Below w.heap.size w w6 := ⟨ho6.trans hbw5.os, ht6.trans hbw5.tape, hp6.trans hbw5.output, Nat.le_trans hbw5.size hs6, fun k hk => (hk6 k (by omega) (by omega)).trans (hbw5.block k hk)⟩
  have hlow6 : ∀ k, k < w3.heap.size → w6.heap[k]? = w3.heap[k]? := fun k hk => (hk6 k (by omega) (by omega)).trans ((hb5.block k (by omega)).trans ((unhide HB4).block k hk))
  have hl6 : w6.ownsRow bl 34 8 lv ts.length (evs ts) := row_same (unhide HL) (fun g hg => hbw6.block g (row_block (unhide HL) hg).2)
  have hr6' : w6.ownsRow w4.heap.size 24 6 v6' (Ls.map beh ++ [p]).length (povs (Ls.map beh ++ [p])) := by
    rw [List.length_append, List.length_map, ← hM, povs_app]
    exact hrow6
  have haq := unhide HAQ
  rw [← haq] at hr6'
  have haok : ∀ q ∈ aq, q.ok := fun q hq => by
    rw [haq, List.mem_append, List.mem_singleton] at hq
    rcases hq with hq | rfl
    · obtain ⟨m, hm, rfl⟩ := List.mem_map.1 hq
      exact unhide HQOK m hm
    · exact unhide HPOK
  have HSA := hide (saidOf_walk lv v6' bl w4.heap.size ts aq w6 hl6 hr6' (by rw [haq, List.length_append, List.length_map, ← hM]; simp; omega) htl haok (unhide HTOK))
  obtain ⟨hru5, hpb5, -⟩ := unhide HBX w5 (fun k hk => (hb5.block k (by omega)).trans ((unhide HB4).block k hk))
  clear p0 p1 p2 p3 p4 p5 r0 r1 r2 r3 r4 r5 r6 r7 r8 r9 r10 r11 r12
  obtain ⟨p0, p1, p2, p3, p4, p5⟩ := hpb5.all
  obtain ⟨uo, uc, rfl⟩ := row_lenT hr6'
  have hal : aq.length = M + 1 := by rw [haq, List.length_append, List.length_map, ← hM]; rfl
  rw [hal] at hr6 HSA
  have HLOW := hide hlow6
  have HOLD : Hid (∀ (k : Nat) (m : Mv), Ls[k]? = some m → w6.cell? ⟨gy, k * 6, none⟩ = some (.int .i64 (beh m).W) ∧ w6.cell? ⟨gy, k * 6 + 1, none⟩ = some (.int .i64 (beh m).H) ∧ w6.cell? ⟨gy, k * 6 + 2, none⟩ = some (.string (beh m).C) ∧ w6.cell? ⟨gy, k * 6 + 3, none⟩ = some (.int .i64 (beh m).T) ∧ w6.cell? ⟨gy, k * 6 + 4, none⟩ = some (.string (beh m).A) ∧ w6.cell? ⟨gy, k * 6 + 5, none⟩ = some (.string (beh m).B)) := hide (fun k m hm => by
    have hk := (List.getElem?_eq_some_iff.1 hm).1
    have hq : (Ls.map beh)[k]? = some (beh m) := by rw [List.getElem?_map, hm]; rfl
    have key : ∀ c, c < 6 → w6.cell? ⟨gy, k * 6 + c, none⟩ = [Value.int .i64 (beh m).W, .int .i64 (beh m).H, .string (beh m).C, .int .i64 (beh m).T, .string (beh m).A, .string (beh m).B][c]? := fun c hc => by
      rw [hold (k * 6 + c) (by rw [hM]; omega)]
      exact fm_at (f := fun p : Po => [.int .i64 p.W, .int .i64 p.H, .string p.C, .int .i64 p.T, .string p.A, .string p.B]) (fun _ => rfl) (Ls.map beh) k c (beh m) hq hc
    exact ⟨key 0 (by omega), key 1 (by omega), key 2 (by omega), key 3 (by omega), key 4 (by omega), key 5 (by omega)⟩)
  have HGY6 := hide hgy6
  have HMCS : Hid (∀ (k : Nat) (m : Mv), Ls[k]? = some m → ∃ g, mo = some ⟨g, 0, none⟩ ∧ g < w6.heap.size ∧ w6.cell? ⟨g, k * 3, none⟩ = some (.int .i64 m.f) ∧ w6.cell? ⟨g, k * 3 + 1, none⟩ = some (.int .i64 (m.t : Int)) ∧ w6.cell? ⟨g, k * 3 + 2, none⟩ = some (.int .u8 (m.c : Int))) := hide (fun k m hm => by
    obtain ⟨g, e, hg1, hg2, hc⟩ := hmcs k m hm
    have hne : g ≠ gy := fun e2 => row_types hyr hxr (by decide) (b := g) (by rw [e]; rfl) (by rw [e2]; rfl)
    exact ⟨g, e, by omega, hc w6 (hk6 g hg2 hne)⟩)
  have HBW6 := hide hbw6
  have HMM := hide hM
  clear hxr hyr hb5 hyc hmcs hbw5 hrow6 hk6 hs6 ho6 ht6 hp6 hold hgy6 hbw6 hlow6 hl6 hr6' haq haok hru5 hpb5 hal hM z34 z45 hs3 HN4 hgy1 hgy2
  go_wp2_with (first | (at_builtin; refine wpList_appRun rfl _ _ 58 rfl _ _ _ _ rfl rfl hr6 ?_) | fail)
  refine (unhide HSA).mono ?_
  rintro e w7 ⟨b, rfl, HSD⟩
  clear p0 p1 p2 p3 p4 p5 hr6 HSA
  have hb7 := (unhide HSD).bw
  have HB7 := hide hb7
  have hMx : (M : Int) ≤ 9223372036854775807 := by omega
  clear hb7
  go_wp2
  go_loopw [36] (fun iv wr => ∃ i : Nat, i ≤ M ∧ iv = .int .i64 (i : Int) ∧ Hid (∀ j m, j < i → Ls[j]? = some m → leadsB Gp (gS aq ts (beh m)) = false) ∧ Hid (Below w7.heap.size w7 wr)) (fun iv _ => M - (intOf iv).toNat)
  case atStart => exact ⟨0, Nat.zero_le _, rfl, hide (fun j m hj => by omega), hide (Below.refl _ _)⟩
  case round =>
    obtain ⟨i, hi, rfl, HNO, HBR⟩ := hrel
    rename World => wr
    by_cases hlt : i < M
    · have hlti : (i : Int) < (M : Int) := by omega
      have hi0 : (0 : Int) ≤ (i : Int) := by omega
      obtain ⟨m, hm⟩ : ∃ m, Ls[i]? = some m := ⟨_, List.getElem?_eq_getElem (by rw [← unhide HMM]; exact hlt)⟩
      obtain ⟨q, hq⟩ : ∃ q, q = beh m := ⟨_, rfl⟩
      obtain ⟨gm, hgm, hgml, hm0, hm1, hm2⟩ := unhide HMCS i m hm
      subst hgm
      have hb6r : Below w6.heap.size w6 wr := (unhide HB7).trans ((unhide HBR).mono (unhide HB7).size)
      have m0 := (hb6r.cell (p := ⟨gm, i * 3, none⟩) hgml).trans hm0
      have m1 := (hb6r.cell (p := ⟨gm, i * 3 + 1, none⟩) hgml).trans hm1
      have m2 := (hb6r.cell (p := ⟨gm, i * 3 + 2, none⟩) hgml).trans hm2
      obtain ⟨wi, hwi⟩ : ∃ wi, wi = wr.alloc (.cells #[.int .i64 m.f, .int .i64 (m.t : Int), .int .u8 (m.c : Int)] 45 (0, 0)) := ⟨_, rfl⟩
      have hbi : Below wr.heap.size wr wi := by rw [hwi]; exact (Below.refl _ _).alloc (Nat.le_refl _) _
      have hmbi : isMb wi wr.heap.size m.f (m.t : Int) (m.c : Int) := by rw [hwi]; exact heap_alloc_new wr _
      have hb6i : Below w6.heap.size w6 wi := hb6r.trans (hbi.mono hb6r.size)
      obtain ⟨y0, y1, y2, y3, y4, y5⟩ := unhide HOLD i m hm
      rw [← hq] at y0 y1 y2 y3 y4 y5
      obtain ⟨-, hpb6, hmb6⟩ := unhide HBX w6 (unhide HLOW)
      obtain ⟨N, -, hsd⟩ := (unhide HSD).sd
      have hb7i : Below w7.heap.size w7 wi := (unhide HBR).trans (hbi.mono (unhide HBR).size)
      have hqk : q.ok := by rw [hq]; exact unhide HQOK m (List.mem_of_getElem? hm)
      obtain ⟨Gq, hGq⟩ : ∃ Gq, Gq = gS aq ts q := ⟨_, rfl⟩
      have hHS : ∀ u, Below wi.heap.size wi u → (u.cell? ⟨w.heap.size + 1, 0, none⟩ = some (.int .i64 p.W) ∧ u.cell? ⟨w.heap.size + 1, 1, none⟩ = some (.int .i64 p.H) ∧ u.cell? ⟨w.heap.size + 1, 2, none⟩ = some (.string p.C) ∧ u.cell? ⟨w.heap.size + 1, 3, none⟩ = some (.int .i64 p.T) ∧ u.cell? ⟨w.heap.size + 1, 4, none⟩ = some (.string p.A) ∧ u.cell? ⟨w.heap.size + 1, 5, none⟩ = some (.string p.B) ∧ u.cell? ⟨gy, i * 6, none⟩ = some (.int .i64 q.W) ∧ u.cell? ⟨gy, i * 6 + 1, none⟩ = some (.int .i64 q.H) ∧ u.cell? ⟨gy, i * 6 + 2, none⟩ = some (.string q.C) ∧ u.cell? ⟨gy, i * 6 + 3, none⟩ = some (.int .i64 q.T) ∧ u.cell? ⟨gy, i * 6 + 4, none⟩ = some (.string q.A) ∧ u.cell? ⟨gy, i * 6 + 5, none⟩ = some (.string q.B) ∧ (Instr.lookup 108 (.map (some b)) (.agg #[.int .i64 p.W, .int .i64 p.H, .string p.C, .int .i64 p.T, .string p.A, .string p.B]) false).run Tryz.prog u = .ok (.agg #[.int .i64 Gp.1, .int .i64 Gp.2.1, .bool Gp.2.2]) u ∧ (Instr.lookup 108 (.map (some b)) (.agg #[.int .i64 q.W, .int .i64 q.H, .string q.C, .int .i64 q.T, .string q.A, .string q.B]) false).run Tryz.prog u = .ok (.agg #[.int .i64 Gq.1, .int .i64 Gq.2.1, .bool Gq.2.2]) u ∧ Below wi.heap.size wi u) := fun u hu => by
        have h6u : Below w6.heap.size w6 u := hb6i.trans (hu.mono hb6i.size)
        have h7u : Below w7.heap.size w7 u := hb7i.trans (hu.mono hb7i.size)
        obtain ⟨c0, c1, c2, c3, c4, c5⟩ := (hpb6.below h6u hpb6.lt).all
        have hgl := unhide HGY6
        exact ⟨c0, c1, c2, c3, c4, c5, (h6u.cell (p := ⟨gy, i * 6, none⟩) hgl).trans y0, (h6u.cell (p := ⟨gy, i * 6 + 1, none⟩) hgl).trans y1, (h6u.cell (p := ⟨gy, i * 6 + 2, none⟩) hgl).trans y2, (h6u.cell (p := ⟨gy, i * 6 + 3, none⟩) hgl).trans y3, (h6u.cell (p := ⟨gy, i * 6 + 4, none⟩) hgl).trans y4, (h6u.cell (p := ⟨gy, i * 6 + 5, none⟩) hgl).trans y5, by rw [unhide HGP]; exact hsd.look (unhide HPOK) u (h7u.block b hsd.lt), by rw [hGq]; exact hsd.look hqk u (h7u.block b hsd.lt), hu⟩
      have HS9 := hide hHS
      have hgb := gS_bound (dom := aq) (unhide HTB) q
      rw [← hGq] at hgb
      have HLE := hide (fun u => leads_any Gp Gq u ⟨by omega, by omega⟩)
      obtain ⟨B, hB⟩ : ∃ B, B = leadsB Gp Gq := ⟨_, rfl⟩
      rw [← hB] at HLE
      have HB0 : Hid (Below wi.heap.size wi wi.drew) := hide (Below.refl _ _).drew
      have HBD : Hid (leadsB Gp (gS aq ts (beh m)) = B) := hide (by rw [hB, hGq, hq])
      have HM := hide hm
      have HMB := hide hmbi
      have HRB := hide hmb6
      have HBWI : Hid (Below w.heap.size w wi) := hide ((unhide HBW6).trans (hb6i.mono (unhide HBW6).size))
      have HB7I := hide hb7i
      have HB6I := hide hb6i
      have HWI := hide hwi
      have hiM2 : (i : Int) < (M : Int) := hlti
      clear hm hq hgml hm0 hm1 hm2 hb6r hwi hbi hmbi hb6i y0 y1 y2 y3 y4 y5 hpb6 hmb6 hsd hb7i hqk hGq hHS hgb hB
      go_upto_region 9 with fail
      rw [← unhide HWI]
      clear HWI m0 m1 m2
      go_region_held3 (fun u => u.cell? ⟨w.heap.size + 1, 0, none⟩ = some (.int .i64 p.W) ∧ u.cell? ⟨w.heap.size + 1, 1, none⟩ = some (.int .i64 p.H) ∧ u.cell? ⟨w.heap.size + 1, 2, none⟩ = some (.string p.C) ∧ u.cell? ⟨w.heap.size + 1, 3, none⟩ = some (.int .i64 p.T) ∧ u.cell? ⟨w.heap.size + 1, 4, none⟩ = some (.string p.A) ∧ u.cell? ⟨w.heap.size + 1, 5, none⟩ = some (.string p.B) ∧ u.cell? ⟨gy, i * 6, none⟩ = some (.int .i64 q.W) ∧ u.cell? ⟨gy, i * 6 + 1, none⟩ = some (.int .i64 q.H) ∧ u.cell? ⟨gy, i * 6 + 2, none⟩ = some (.string q.C) ∧ u.cell? ⟨gy, i * 6 + 3, none⟩ = some (.int .i64 q.T) ∧ u.cell? ⟨gy, i * 6 + 4, none⟩ = some (.string q.A) ∧ u.cell? ⟨gy, i * 6 + 5, none⟩ = some (.string q.B) ∧ (Instr.lookup 108 (.map (some b)) (.agg #[.int .i64 p.W, .int .i64 p.H, .string p.C, .int .i64 p.T, .string p.A, .string p.B]) false).run Tryz.prog u = .ok (.agg #[.int .i64 Gp.1, .int .i64 Gp.2.1, .bool Gp.2.2]) u ∧ (Instr.lookup 108 (.map (some b)) (.agg #[.int .i64 q.W, .int .i64 q.H, .string q.C, .int .i64 q.T, .string q.A, .string q.B]) false).run Tryz.prog u = .ok (.agg #[.int .i64 Gq.1, .int .i64 Gq.2.1, .bool Gq.2.2]) u ∧ Below wi.heap.size wi u)
        (first
          | with_reducible exact unhide HS9 _ (unhide HB0)
          | with_reducible exact unhide HS9 _ (unhide HX))
        (first
          | (go_at_call 64; (with_reducible refine (unhide HLE _).mono ?_); rintro e wx ⟨rfl, hbx⟩
             have HX : Hid (Below wi.heap.size wi wx) := hide ((unhide HB0).trans (hbx.mono (unhide HB0).size))
             clear hbx))
      all_goals
        have HBWX : Hid (Below w.heap.size w wx) := hide ((unhide HBWI).trans ((unhide HX).mono (unhide HBWI).size))
        cases B with
        | true =>
          have hmbx := (unhide HMB).below (unhide HX) (unhide HMB).lt
          have hrbx := (unhide HRB).below ((unhide HB6I).trans ((unhide HX).mono (unhide HB6I).size)) (unhide HRB).lt
          obtain ⟨a0, a1, a2⟩ := hmbx.all
          obtain ⟨c0, c1, c2⟩ := hrbx.all
          have f0 := hrbx.frozenT 0
          have f1 := hrbx.frozenT 1
          have f2 := hrbx.frozenT 2
          have HFIN : Hid (∀ u, Below w.heap.size w u → BeE Ls (fun m => leadsB Gp (gS aq ts (beh m))) w (.returned (.tuple #[.agg #[.int .i64 m.f, .int .i64 (m.t : Int), .int .u8 (m.c : Int)], .int .i64 0])) u) := hide (fun u hu => ⟨⟨m, List.mem_of_getElem? (unhide HM), unhide HBD, rfl⟩, hu⟩)
          clear hmbx hrbx HS9 HLE HB0 HX HM HMB HRB HBWI HB7I HB6I HBD HNO HBR
          go_wp2
          refine bodyPost_ret (v := .tuple #[.agg #[.int .i64 m.f, .int .i64 (m.t : Int), .int .u8 (m.c : Int)], .int .i64 0]) (by simp [results, Tryz.results28, go_sem, c0, c1, c2]) rfl ?_
          exact unhide HFIN _ ((((unhide HBWX).setCell (p := ⟨w.heap.size + 1 + 1, 0, none⟩) (show w.heap.size ≤ w.heap.size + 1 + 1 by omega) _).setCell (p := ⟨w.heap.size + 1 + 1, 1, none⟩) (show w.heap.size ≤ w.heap.size + 1 + 1 by omega) _).setCell (p := ⟨w.heap.size + 1 + 1, 2, none⟩) (show w.heap.size ≤ w.heap.size + 1 + 1 by omega) _)
        | false =>
          have HN2 : Hid (∀ j m, j < i + 1 → Ls[j]? = some m → leadsB Gp (gS aq ts (beh m)) = false) := hide (fun j m' hj hm' => by
            by_cases hji : j < i
            · exact unhide HNO j m' hji hm'
            · have hje : j = i := by omega
              subst hje
              rw [unhide HM] at hm'
              cases hm'
              exact unhide HBD)
          have HBR2 : Hid (Below w7.heap.size w7 wx) := hide ((unhide HB7I).trans ((unhide HX).mono (unhide HB7I).size))
          clear HS9 HLE HB0 HX HM HMB HRB HBWI HB7I HB6I HBD HNO HBR
          go_wp2
          go_roundw
          case rel => exact ⟨i + 1, by omega, by go_num, HN2, HBR2⟩
          case measure => simp only [intOf]; omega
    · exfalso
      obtain ⟨m, hm, hle⟩ := unhide HEX
      obtain ⟨j, hj⟩ := List.getElem?_of_mem hm
      have hjl := (List.getElem?_eq_some_iff.1 hj).1
      rw [unhide HNO j m (by rw [← unhide HMM] at hjl; omega) hj] at hle
      cases hle
end Go.Proofs.YtbijadnekoeofaaGreatDoor

namespace Go.Proofs.YtbijadnekoeofaaGreatDoor
open Go.RowKit
attribute [local go_sem ↓] Go.wp_at_zero Go.wp_at_succ

theorem samePos_ne {p q : Po} (h : p ≠ q) : samePos p.W p.H p.C p.T p.A p.B q.W q.H q.C q.T q.A q.B = false := by
  cases hs : samePos p.W p.H p.C p.T p.A p.B q.W q.H q.C q.T q.A q.B with
  | false => rfl
  | true =>
    exfalso
    apply h
    unfold samePos at hs
    simp only [Bool.and_eq_true, beq_iff_eq] at hs
    obtain ⟨⟨⟨⟨⟨h1, h2⟩, h3⟩, h4⟩, h5⟩, h6⟩ := hs
    have key : ∀ {a b : ByteArray}, a.toList = b.toList → a = b := fun {a b} e => by
      rw [ByteArray.toList_eq, ByteArray.toList_eq] at e
      cases a with | mk x => cases b with | mk y => simp only at e; rw [Array.toList_inj.1 e]
    have k3 := key h3
    have k5 := key h5
    have k6 := key h6
    cases p
    cases q
    simp only at *
    subst h1 h2 k3 h4 k5 k6
    rfl
/-- An entry in a box. -/
def isEb (w : World) (b : Nat) (p : Po) (v d : Int) : Prop := w.heap[b]? = some (.cells #[.int .i64 p.W, .int .i64 p.H, .string p.C, .int .i64 p.T, .string p.A, .string p.B, .int .i64 v, .int .i64 d] 34 (0, 0))
theorem isEb.all {w : World} {b : Nat} {p : Po} {v d : Int} (h : isEb w b p v d) : w.cell? ⟨b, 0, none⟩ = some (.int .i64 p.W) ∧ w.cell? ⟨b, 1, none⟩ = some (.int .i64 p.H) ∧ w.cell? ⟨b, 2, none⟩ = some (.string p.C) ∧ w.cell? ⟨b, 3, none⟩ = some (.int .i64 p.T) ∧ w.cell? ⟨b, 4, none⟩ = some (.string p.A) ∧ w.cell? ⟨b, 5, none⟩ = some (.string p.B) ∧ w.cell? ⟨b, 6, none⟩ = some (.int .i64 v) ∧ w.cell? ⟨b, 7, none⟩ = some (.int .i64 d) := by
  unfold isEb at h; simp [World.cell?, h]
theorem isEb.lt {w : World} {b : Nat} {p : Po} {v d : Int} (h : isEb w b p v d) : b < w.heap.size := (Array.getElem?_eq_some_iff.1 h).1
theorem isEb.below {w w' : World} {b B0 : Nat} {p : Po} {v d : Int} (h : isEb w b p v d) (hh : Below B0 w w') (hb : b < B0) : isEb w' b p v d := (hh.block b hb).trans h
theorem isEb.frozen {w : World} {b : Nat} {p : Po} {v d : Int} (h : isEb w b p v d) (k : Nat) : w.frozen? ⟨b, k, none⟩ = false := frozen_of_row w b k _ _ h

theorem below_set8 {B : Nat} {w u : World} {b : Nat} (h : Below B w u) (hb : B ≤ b) {q : Nat} (x0 x1 x2 x3 x4 x5 x6 x7 : Value) : Below B w (((((((((u.drewN q).setCell ⟨b, 0, none⟩ x0).setCell ⟨b, 1, none⟩ x1).setCell ⟨b, 2, none⟩ x2).setCell ⟨b, 3, none⟩ x3).setCell ⟨b, 4, none⟩ x4).setCell ⟨b, 5, none⟩ x5).setCell ⟨b, 6, none⟩ x6).setCell ⟨b, 7, none⟩ x7) := by
  have h' : Below B w (u.drewN q) := ⟨h.os, h.tape, h.output, h.size, h.block⟩
  exact (((((((h'.setCell (p := ⟨b, 0, none⟩) hb x0).setCell (p := ⟨b, 1, none⟩) hb x1).setCell (p := ⟨b, 2, none⟩) hb x2).setCell (p := ⟨b, 3, none⟩) hb x3).setCell (p := ⟨b, 4, none⟩) hb x4).setCell (p := ⟨b, 5, none⟩) hb x5).setCell (p := ⟨b, 6, none⟩) hb x6).setCell (p := ⟨b, 7, none⟩) hb x7

set_option maxHeartbeats 4000000 in
set_option maxRecDepth 100000 in
theorem find_any (bL bl : Nat) (lv : Value) (ts : List (Po × Int × Int)) (p : Po) (v d : Int) (k0 : Nat) (w : World) (hl : w.ownsRow bl 34 8 lv ts.length (evs ts)) (hL : w.cell? ⟨bL, 0, none⟩ = some lv) (htl : ts.length ≤ 5000) (hk0 : ts[k0]? = some (p, v, d)) (hfirst : ∀ j x, j < k0 → ts[j]? = some x → x.1 ≠ p) :
    Calls Tryz.prog 27 #[.agg #[.int .i64 p.W, .int .i64 p.H, .string p.C, .int .i64 p.T, .string p.A, .string p.B], .pointer (some ⟨bL, 0, none⟩)] w fun e w' => e = .returned (.agg #[.int .i64 p.W, .int .i64 p.H, .string p.C, .int .i64 p.T, .string p.A, .string p.B, .int .i64 v, .int .i64 d]) ∧ Below w.heap.size w w' := by
  obtain ⟨lo, lc, rfl⟩ := row_lenT hl
  have hkl := (List.getElem?_eq_some_iff.1 hk0).1
  obtain ⟨gl, rfl, hlc1, hlc2, hgl, hcs⟩ : ∃ gl, lo = some ⟨gl, 0, none⟩ ∧ ts.length ≤ lc ∧ lc ≤ 9223372036854775807 ∧ gl < w.heap.size ∧ ∀ (k : Nat) (x : Po × Int × Int), ts[k]? = some x → ∀ j, j < 8 → w.cell? ⟨gl, k * 8 + j, none⟩ = (encE x)[j]? := by
    rcases hl.2 with ⟨_, h0⟩ | ⟨g, cap, cur, e1, hb1, hg, h1, h2, -⟩
    · omega
    · rw [e1] at hl
      simp only [Value.slice.injEq, true_and] at e1
      obtain ⟨e1, rfl⟩ := e1
      unfold maxLen at h2
      refine ⟨g, e1, h1, h2, (Array.getElem?_eq_some_iff.1 hg).1, fun k x hx j hj => ?_⟩
      have hk := (List.getElem?_eq_some_iff.1 hx).1
      rw [hl.cellAt (k * 8 + j) (by omega)]
      exact fm_at (f := encE) (c := 8) (fun _ => rfl) ts k j x hx hj
  obtain ⟨n, hn⟩ : ∃ n, n = ts.length := ⟨_, rfl⟩
  rw [← hn] at hkl hlc1 htl hL
  have hbl : bL < w.heap.size := World.block_lt_of_cell? w ⟨bL, 0, none⟩ hL
  obtain ⟨w1, hw1⟩ : ∃ w1, w1 = w.alloc (.cells #[.int .i64 p.W, .int .i64 p.H, .string p.C, .int .i64 p.T, .string p.A, .string p.B] 24 (0, 0)) := ⟨_, rfl⟩
  obtain ⟨w2, hw2⟩ : ∃ w2, w2 = w1.alloc (.cells #[.int .i64 0, .int .i64 0, .string ⟨#[]⟩, .int .i64 0, .string ⟨#[]⟩, .string ⟨#[]⟩, .int .i64 0, .int .i64 0] 34 (0, 0)) := ⟨_, rfl⟩
  have hb1 : Below w.heap.size w w1 := by rw [hw1]; exact (Below.refl _ _).alloc (Nat.le_refl _) _
  have hb2 : Below w1.heap.size w1 w2 := by rw [hw2]; exact (Below.refl _ _).alloc (Nat.le_refl _) _
  have s1 : w1.heap.size = w.heap.size + 1 := by rw [hw1]; simp
  have hpb : isPb w2 w.heap.size p.W p.H p.T p.C p.A p.B := (show isPb w1 w.heap.size p.W p.H p.T p.C p.A p.B by rw [hw1]; exact heap_alloc_new w _).below hb2 (by omega)
  have heb : isEb w2 (w.heap.size + 1) ⟨0, 0, ⟨#[]⟩, 0, ⟨#[]⟩, ⟨#[]⟩⟩ 0 0 := by rw [hw2, ← s1]; exact heap_alloc_new w1 _
  have hbw : Below w.heap.size w w2 := hb1.trans (hb2.mono hb1.size)
  have hL2 := (hbw.cell (p := ⟨bL, 0, none⟩) hbl).trans hL
  have HCS : Hid (∀ (k : Nat) (x : Po × Int × Int), ts[k]? = some x → ∀ j, j < 8 → w2.cell? ⟨gl, k * 8 + j, none⟩ = (encE x)[j]?) := hide (fun k x hx j hj => (hbw.cell (p := ⟨gl, k * 8 + j, none⟩) hgl).trans (hcs k x hx j hj))
  have HN := hide hn
  have HK0 := hide hk0
  have HFI := hide hfirst
  have HW1 := hide hw1
  have HW2 := hide hw2
  have HBW := hide hbw
  have HEB := hide heb
  have HPB := hide hpb
  have HL2 := hide hL2
  clear hl hL hcs hn hk0 hfirst hw1 hw2 hb1 hb2 s1 hpb heb hbw hbl hgl
  go_enter Tryz.func27, Tryz.ntmps27
  go_upto_region 1 with fail
  rw [← unhide HW1, ← unhide HW2]
  clear HW1 HW2
  go_wp2
  go_loopw [7] (fun iv wr => ∃ k : Nat, k ≤ k0 ∧ iv = .int .i64 (k : Int) ∧ Hid (Below w2.heap.size w2 wr)) (fun iv _ => k0 - (intOf iv).toNat)
  case atStart => exact ⟨0, Nat.zero_le _, rfl, hide (Below.refl _ _)⟩
  case round =>
    obtain ⟨k, hk, rfl, HBR⟩ := hrel
    rename World => wr
    have hlti : (k : Int) < (n : Int) := by omega
    have hki : (0 : Int) ≤ (k : Int) := by omega
    obtain ⟨x, hx⟩ : ∃ x, ts[k]? = some x := ⟨_, List.getElem?_eq_getElem (by rw [← unhide HN]; omega)⟩
    have hcc := fun j hj => unhide HCS k x hx j hj
    have d0 := hcc 0 (by omega)
    have d1 := hcc 1 (by omega)
    have d2 := hcc 2 (by omega)
    have d3 := hcc 3 (by omega)
    have d4 := hcc 4 (by omega)
    have d5 := hcc 5 (by omega)
    have d6 := hcc 6 (by omega)
    have d7 := hcc 7 (by omega)
    rw [Nat.add_zero] at d0
    simp only [encE, List.getElem?_cons_zero, List.getElem?_cons_succ] at d0 d1 d2 d3 d4 d5 d6 d7
    have hbr := unhide HBR
    have lt : ∀ {a : Addr} {y : Value}, w2.cell? a = some y → wr.cell? a = some y := fun {a y} h => (hbr.cell (World.block_lt_of_cell? w2 a h)).trans h
    have e0 := lt d0
    have e1 := lt d1
    have e2 := lt d2
    have e3 := lt d3
    have e4 := lt d4
    have e5 := lt d5
    have e6 := lt d6
    have e7 := lt d7
    have eL := lt (unhide HL2)
    obtain ⟨p0, p1, p2, p3, p4, p5⟩ := ((unhide HPB).below hbr (unhide HPB).lt).all
    have hbw := unhide HBW
    obtain ⟨q, xv, xd⟩ := x
    simp only at e0 e1 e2 e3 e4 e5 e6 e7
    by_cases hkk : k = k0
    · have hqp : q = p ∧ xv = v ∧ xd = d := by
        have h1 := unhide HK0
        rw [← hkk, hx] at h1
        simp only [Option.some.injEq, Prod.mk.injEq] at h1
        exact h1
      obtain ⟨rfl, rfl, rfl⟩ := hqp
      have he : ∀ u, (Op.equalIn 10000 24 (.agg #[.int .i64 q.W, .int .i64 q.H, .string q.C, .int .i64 q.T, .string q.A, .string q.B]) (.agg #[.int .i64 q.W, .int .i64 q.H, .string q.C, .int .i64 q.T, .string q.A, .string q.B])).run Tryz.prog u = .ok true u := fun u => by rw [eqPos, samePos_refl]
      have HER := hide ((unhide HEB).below hbr (unhide HEB).lt)
      have HBWR : Hid (Below w.heap.size w wr) := hide (hbw.trans (hbr.mono hbw.size))
      clear hx hcc d0 d1 d2 d3 d4 d5 d6 d7 hbr lt hbw hkk HBR
      go_wp2_with fail
      go_quiet (fail)
      obtain ⟨c0, c1, c2, c3, c4, c5, c6, c7⟩ := (unhide HER).all
      have f0 := (unhide HER).frozen 0
      have f1 := (unhide HER).frozen 1
      have f2 := (unhide HER).frozen 2
      have f3 := (unhide HER).frozen 3
      have f4 := (unhide HER).frozen 4
      have f5 := (unhide HER).frozen 5
      have f6 := (unhide HER).frozen 6
      have f7 := (unhide HER).frozen 7
      go_wp2
      refine bodyPost_ret (v := .agg #[.int .i64 q.W, .int .i64 q.H, .string q.C, .int .i64 q.T, .string q.A, .string q.B, .int .i64 xv, .int .i64 xd]) (by simp [results, Tryz.results27, go_sem, c0, c1, c2, c3, c4, c5, c6, c7]) rfl ⟨rfl, ?_⟩
      exact below_set8 (unhide HBWR) (by omega) _ _ _ _ _ _ _ _
    · have hkk2 : k < k0 := by omega
      have hne : q ≠ p := unhide HFI k (q, xv, xd) hkk2 hx
      have he : ∀ u, (Op.equalIn 10000 24 (.agg #[.int .i64 q.W, .int .i64 q.H, .string q.C, .int .i64 q.T, .string q.A, .string q.B]) (.agg #[.int .i64 p.W, .int .i64 p.H, .string p.C, .int .i64 p.T, .string p.A, .string p.B])).run Tryz.prog u = .ok false u := fun u => by rw [eqPos, samePos_ne hne]
      have HB2 : Hid (∀ q, Below w2.heap.size w2 (wr.drewN q)) := hide (fun q => ⟨hbr.os, hbr.tape, hbr.output, hbr.size, hbr.block⟩)
      clear hx hcc d0 d1 d2 d3 d4 d5 d6 d7 hbr lt hbw hkk HBR hne
      go_wp2_with fail
      go_quiet (fail)
      go_wp2
      go_roundw
      case rel => exact ⟨k + 1, by omega, by go_num, hide (unhide HB2 _)⟩
      case measure => simp only [intOf]; omega
end Go.Proofs.YtbijadnekoeofaaGreatDoor
