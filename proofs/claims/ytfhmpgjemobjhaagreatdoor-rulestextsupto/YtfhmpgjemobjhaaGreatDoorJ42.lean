/-
  gameref.SameRules, walked at rules that are the same.
  What Write answers of rules that are right, in one word; the closed text that RulesBack reads first.
-/
import Derived.Test.YtfhmpgjemobjhaaGreatDoorR6
import Derived.Test.YtfhmpgjemobjhaaGreatDoorJ41
import Derived.BigQuiet
import Derived.Test.YtfhmpgjemobjhaaGreatDoorR22
import Derived.Test.YtfhmpgjemobjhaaGreatDoorR11
namespace Go.Proofs.YtfhmpgjemobjhaaGreatDoor
open Go.RowKit
attribute [local go_sem ↓] Go.wp_at_zero Go.wp_at_succ

set_option maxHeartbeats 400000 in
theorem eqWay (w : World) (k x y t : Int) :
    (Op.equalIn 10000 62 (.agg #[.int .i64 k, .int .i64 x, .int .i64 y, .int .i64 t]) (.agg #[.int .i64 k, .int .i64 x, .int .i64 y, .int .i64 t])).run Tryz.prog w = .ok true w := by
  rw [run_equalIn_agg w 9999 62 _ _ (by kernel_rfl) (by kernel_rfl)]
  unfold Program.fieldsOf
  rw [Tryz.underlying62]
  simp [go_sem]

theorem lt_of_blk {w : World} {g : Nat} {o : Obj} (h : w.heap[g]? = some o) : g < w.heap.size := by
  rcases Nat.lt_or_ge g w.heap.size with hlt | hge
  · exact hlt
  · rw [Array.getElem?_eq_none hge] at h; cases h

set_option maxHeartbeats 4000000 in
set_option maxRecDepth 100000 in
theorem SameRules_same (W H T : Int) (C A B : ByteArray) (ao bo : Option Addr) (cap bap : Nat) (ps : List Pc) (dr st : Bool) (lo re : Nat) (li pl : Int) (w : World) (ha : isPcs w ao cap ps) (hb : isPcs w bo bap ps) :
    Calls Tryz.prog 7 #[.agg #[.int .i64 W, .int .i64 H, .string C, .int .i64 T, .string A, .string B, .slice ao ps.length cap, .bool dr, .int .u8 (lo : Int), .int .i64 li, .int .u8 (re : Int), .bool st, .int .i64 pl], .agg #[.int .i64 W, .int .i64 H, .string C, .int .i64 T, .string A, .string B, .slice bo ps.length bap, .bool dr, .int .u8 (lo : Int), .int .i64 li, .int .u8 (re : Int), .bool st, .int .i64 pl]] w fun e w' => e = .returned (.bool true) ∧ Below w.heap.size w w' := by
  have heq := fun w => eqPos w W H T W H T C A B C A B
  simp only [samePos_refl] at heq
  have hle := ha.le
  have hmx := ha.mx
  unfold maxLen at hmx
  have HA := hide ha
  have HB := hide hb
  obtain ⟨n, hn⟩ : ∃ n, n = ps.length := ⟨_, rfl⟩
  rw [← hn] at hle ⊢
  have HN := hide hn
  clear ha hb hn
  have g1 := isRu.fresh (w := w) (v0 := .int .i64 W) (v1 := .int .i64 H) (v2 := .string C) (v3 := .int .i64 T) (v4 := .string A) (v5 := .string B) (v6 := .slice ao n cap) (v7 := .bool dr) (v8 := .int .u8 (lo : Int)) (v9 := .int .i64 li) (v10 := .int .u8 (re : Int)) (v11 := .bool st) (v12 := .int .i64 pl) (Below.refl _ _)
  have b1 : Below w.heap.size w (w.alloc (.cells #[.int .i64 W, .int .i64 H, .string C, .int .i64 T, .string A, .string B, .slice ao n cap, .bool dr, .int .u8 (lo : Int), .int .i64 li, .int .u8 (re : Int), .bool st, .int .i64 pl] 27 (0, 0))) := (Below.refl _ w).alloc (Nat.le_refl _) _
  have z1 : (w.alloc (.cells #[.int .i64 W, .int .i64 H, .string C, .int .i64 T, .string A, .string B, .slice ao n cap, .bool dr, .int .u8 (lo : Int), .int .i64 li, .int .u8 (re : Int), .bool st, .int .i64 pl] 27 (0, 0))).heap.size = w.heap.size + 1 := by simp
  have hba : Below (w.alloc (.cells #[.int .i64 W, .int .i64 H, .string C, .int .i64 T, .string A, .string B, .slice ao n cap, .bool dr, .int .u8 (lo : Int), .int .i64 li, .int .u8 (re : Int), .bool st, .int .i64 pl] 27 (0, 0))).heap.size (w.alloc (.cells #[.int .i64 W, .int .i64 H, .string C, .int .i64 T, .string A, .string B, .slice ao n cap, .bool dr, .int .u8 (lo : Int), .int .i64 li, .int .u8 (re : Int), .bool st, .int .i64 pl] 27 (0, 0))) ((w.alloc (.cells #[.int .i64 W, .int .i64 H, .string C, .int .i64 T, .string A, .string B, .slice ao n cap, .bool dr, .int .u8 (lo : Int), .int .i64 li, .int .u8 (re : Int), .bool st, .int .i64 pl] 27 (0, 0))).alloc (.cells #[.int .i64 W, .int .i64 H, .string C, .int .i64 T, .string A, .string B, .slice bo n bap, .bool dr, .int .u8 (lo : Int), .int .i64 li, .int .u8 (re : Int), .bool st, .int .i64 pl] 27 (0, 0))) := (Below.refl _ _).alloc (Nat.le_refl _) _
  have r1 := g1.below hba (by rw [z1]; omega)
  have r2 : isRu ((w.alloc (.cells #[.int .i64 W, .int .i64 H, .string C, .int .i64 T, .string A, .string B, .slice ao n cap, .bool dr, .int .u8 (lo : Int), .int .i64 li, .int .u8 (re : Int), .bool st, .int .i64 pl] 27 (0, 0))).alloc (.cells #[.int .i64 W, .int .i64 H, .string C, .int .i64 T, .string A, .string B, .slice bo n bap, .bool dr, .int .u8 (lo : Int), .int .i64 li, .int .u8 (re : Int), .bool st, .int .i64 pl] 27 (0, 0))) (w.heap.size + 1) (.int .i64 W) (.int .i64 H) (.string C) (.int .i64 T) (.string A) (.string B) (.slice bo n bap) (.bool dr) (.int .u8 (lo : Int)) (.int .i64 li) (.int .u8 (re : Int)) (.bool st) (.int .i64 pl) := by
    have := heap_alloc_new (w.alloc (.cells #[.int .i64 W, .int .i64 H, .string C, .int .i64 T, .string A, .string B, .slice ao n cap, .bool dr, .int .u8 (lo : Int), .int .i64 li, .int .u8 (re : Int), .bool st, .int .i64 pl] 27 (0, 0))) (.cells #[.int .i64 W, .int .i64 H, .string C, .int .i64 T, .string A, .string B, .slice bo n bap, .bool dr, .int .u8 (lo : Int), .int .i64 li, .int .u8 (re : Int), .bool st, .int .i64 pl] 27 (0, 0))
    rw [z1] at this
    exact this
  have b2 : Below w.heap.size w ((w.alloc (.cells #[.int .i64 W, .int .i64 H, .string C, .int .i64 T, .string A, .string B, .slice ao n cap, .bool dr, .int .u8 (lo : Int), .int .i64 li, .int .u8 (re : Int), .bool st, .int .i64 pl] 27 (0, 0))).alloc (.cells #[.int .i64 W, .int .i64 H, .string C, .int .i64 T, .string A, .string B, .slice bo n bap, .bool dr, .int .u8 (lo : Int), .int .i64 li, .int .u8 (re : Int), .bool st, .int .i64 pl] 27 (0, 0))) := b1.trans (hba.mono (by rw [z1]; omega))
  have hz2 : w.heap.size + 1 < ((w.alloc (.cells #[.int .i64 W, .int .i64 H, .string C, .int .i64 T, .string A, .string B, .slice ao n cap, .bool dr, .int .u8 (lo : Int), .int .i64 li, .int .u8 (re : Int), .bool st, .int .i64 pl] 27 (0, 0))).alloc (.cells #[.int .i64 W, .int .i64 H, .string C, .int .i64 T, .string A, .string B, .slice bo n bap, .bool dr, .int .u8 (lo : Int), .int .i64 li, .int .u8 (re : Int), .bool st, .int .i64 pl] 27 (0, 0))).heap.size := by simp
  obtain ⟨d0, d1, d2, d3, d4, d5, d6, d7, d8, d9, d10, d11, d12⟩ := r1.cells
  obtain ⟨e0, e1, e2, e3, e4, e5, e6, e7, e8, e9, e10, e11, e12⟩ := r2.cells
  clear g1 b1 z1 hba
  have HZ2 := hide hz2
  clear hz2
  go_enter Tryz.func7, Tryz.ntmps7
  go_wp2
  clear d0 d1 d2 d3 d4 d5 d6 d7 d8 d9 d10 d11 d12 e0 e1 e2 e3 e4 e5 e6 e7 e8 e9 e10 e11 e12 heq
  generalize (w.alloc (.cells #[.int .i64 W, .int .i64 H, .string C, .int .i64 T, .string A, .string B, .slice ao n cap, .bool dr, .int .u8 (lo : Int), .int .i64 li, .int .u8 (re : Int), .bool st, .int .i64 pl] 27 (0, 0))).alloc (.cells #[.int .i64 W, .int .i64 H, .string C, .int .i64 T, .string A, .string B, .slice bo n bap, .bool dr, .int .u8 (lo : Int), .int .i64 li, .int .u8 (re : Int), .bool st, .int .i64 pl] 27 (0, 0)) = w2 at *
  go_loopw [5] (fun iv wr => ∃ i : Nat, i ≤ n ∧ iv = .int .i64 (i : Int) ∧ Below w2.heap.size w2 wr) (fun iv _ => n - (intOf iv).toNat)
  case atStart => exact ⟨0, Nat.zero_le _, rfl, Below.refl _ _⟩
  case round =>
    obtain ⟨i, hi, rfl, hbr⟩ := hrel
    obtain ⟨wo, hwo⟩ : ∃ wo, wo = wr := ⟨_, rfl⟩
    subst hwo
    have hz2 := unhide HZ2
    have s1 := r1.below hbr (by omega)
    have s2 := r2.below hbr (by omega)
    have d6 := s1.cells.2.2.2.2.2.2.1
    have e6 := s2.cells.2.2.2.2.2.2.1
    have hszr := hbr.size
    by_cases hil : i < n
    · have hii : (i : Int) < (n : Int) := by omega
      have hi0 : (0 : Int) ≤ (i : Int) := by omega
      have hkw : i < ps.length := by rw [← unhide HN]; exact hil
      obtain ⟨p, hp⟩ : ∃ p, ps[i]? = some p := ⟨ps[i], List.getElem?_eq_getElem hkw⟩
      obtain ⟨ga, oa, eg, hga, hca⟩ := (unhide HA).cells (by rintro rfl; simp at hkw)
      obtain ⟨gb, ob, eb, hgb, hcb⟩ := (unhide HB).cells (by rintro rfl; simp at hkw)
      subst eg eb
      obtain ⟨hl, xo, xc, a0, a1, a2, hwa⟩ := hca i p hp
      obtain ⟨-, yo, yc, c0, c1, c2, hwb⟩ := hcb i p hp
      have hwr : Below w.heap.size w wo := b2.trans (hbr.mono (by omega))
      have a0 := (hwr.cell (p := ⟨ga, oa + i * 3, none⟩) hga).trans a0
      have a1 := (hwr.cell (p := ⟨ga, oa + i * 3 + 1, none⟩) hga).trans a1
      have a2 := (hwr.cell (p := ⟨ga, oa + i * 3 + 2, none⟩) hga).trans a2
      have c0 := (hwr.cell (p := ⟨gb, ob + i * 3, none⟩) hgb).trans c0
      have c1 := (hwr.cell (p := ⟨gb, ob + i * 3 + 1, none⟩) hgb).trans c1
      have c2 := (hwr.cell (p := ⟨gb, ob + i * 3 + 2, none⟩) hgb).trans c2
      have hwa := hwa.below (hwr.mono (Nat.le_refl _)) (Nat.le_refl _)
      have hwb := hwb.below (hwr.mono (Nat.le_refl _)) (Nat.le_refl _)
      have HWA := hide hwa
      have HWB := hide hwb
      have hza : Below wo.heap.size wo wo := Below.refl _ _
      have hwrs := hwr.size
      have d6' := fun o => ((hza.alloc (Nat.le_refl _) o).cell (p := ⟨w.heap.size, 6, none⟩) (by simp only; omega)).trans d6
      have d6'' := fun o o' => (((hza.alloc (Nat.le_refl _) o).alloc (by simp) o').cell (p := ⟨w.heap.size, 6, none⟩) (by simp only; omega)).trans d6
      have e6' := fun o => ((hza.alloc (Nat.le_refl _) o).cell (p := ⟨w.heap.size + 1, 6, none⟩) (by simp only; omega)).trans e6
      have e6'' := fun o o' => (((hza.alloc (Nat.le_refl _) o).alloc (by simp) o').cell (p := ⟨w.heap.size + 1, 6, none⟩) (by simp only; omega)).trans e6
      have a0' := fun o => ((hza.alloc (Nat.le_refl _) o).cell (p := ⟨ga, oa + i * 3, none⟩) (by simp only; omega)).trans a0
      have a0'' := fun o o' => (((hza.alloc (Nat.le_refl _) o).alloc (by simp) o').cell (p := ⟨ga, oa + i * 3, none⟩) (by simp only; omega)).trans a0
      have a1' := fun o => ((hza.alloc (Nat.le_refl _) o).cell (p := ⟨ga, oa + i * 3 + 1, none⟩) (by simp only; omega)).trans a1
      have a1'' := fun o o' => (((hza.alloc (Nat.le_refl _) o).alloc (by simp) o').cell (p := ⟨ga, oa + i * 3 + 1, none⟩) (by simp only; omega)).trans a1
      have a2' := fun o => ((hza.alloc (Nat.le_refl _) o).cell (p := ⟨ga, oa + i * 3 + 2, none⟩) (by simp only; omega)).trans a2
      have a2'' := fun o o' => (((hza.alloc (Nat.le_refl _) o).alloc (by simp) o').cell (p := ⟨ga, oa + i * 3 + 2, none⟩) (by simp only; omega)).trans a2
      have c0' := fun o => ((hza.alloc (Nat.le_refl _) o).cell (p := ⟨gb, ob + i * 3, none⟩) (by simp only; omega)).trans c0
      have c0'' := fun o o' => (((hza.alloc (Nat.le_refl _) o).alloc (by simp) o').cell (p := ⟨gb, ob + i * 3, none⟩) (by simp only; omega)).trans c0
      have c1' := fun o => ((hza.alloc (Nat.le_refl _) o).cell (p := ⟨gb, ob + i * 3 + 1, none⟩) (by simp only; omega)).trans c1
      have c1'' := fun o o' => (((hza.alloc (Nat.le_refl _) o).alloc (by simp) o').cell (p := ⟨gb, ob + i * 3 + 1, none⟩) (by simp only; omega)).trans c1
      have c2' := fun o => ((hza.alloc (Nat.le_refl _) o).cell (p := ⟨gb, ob + i * 3 + 2, none⟩) (by simp only; omega)).trans c2
      have c2'' := fun o o' => (((hza.alloc (Nat.le_refl _) o).alloc (by simp) o').cell (p := ⟨gb, ob + i * 3 + 2, none⟩) (by simp only; omega)).trans c2
      have HZR : Hid (w.heap.size + 1 < wo.heap.size) := hide (by omega)
      clear hca hcb hwa hwb s1 s2 hz2 hszr hwrs hga hgb hza
      go_wp2
      go_region
      all_goals clear a0 a1 a2 c0 c1 c2 d6 e6 a0' a1' a2' c0' c1' c2' d6' e6' a0'' a1'' a2'' c0'' c1'' c2'' d6'' e6''
      · skip
        have hq1 := heap_alloc_new wo (.cells #[.int .u8 (p.l : Int), .int .i64 p.v, .slice xo p.ws.length xc] 48 (0, 0))
        have hq2 := heap_alloc_new (wo.alloc (.cells #[.int .u8 (p.l : Int), .int .i64 p.v, .slice xo p.ws.length xc] 48 (0, 0))) (.cells #[.int .u8 (p.l : Int), .int .i64 p.v, .slice yo p.ws.length yc] 48 (0, 0))
        have hq3 : (wo.alloc (.cells #[.int .u8 (p.l : Int), .int .i64 p.v, .slice xo p.ws.length xc] 48 (0, 0))).heap.size = wo.heap.size + 1 := by simp
        rw [hq3] at hq2
        have hq4 : (((wo.alloc (.cells #[.int .u8 (p.l : Int), .int .i64 p.v, .slice xo p.ws.length xc] 48 (0, 0))).alloc (.cells #[.int .u8 (p.l : Int), .int .i64 p.v, .slice yo p.ws.length yc] 48 (0, 0))).drew).heap[wo.heap.size]? = some (.cells #[.int .u8 (p.l : Int), .int .i64 p.v, .slice xo p.ws.length xc] 48 (0, 0)) := by
          show ((wo.alloc (.cells #[.int .u8 (p.l : Int), .int .i64 p.v, .slice xo p.ws.length xc] 48 (0, 0))).alloc (.cells #[.int .u8 (p.l : Int), .int .i64 p.v, .slice yo p.ws.length yc] 48 (0, 0))).heap[wo.heap.size]? = _
          rw [Below.heap_alloc _ _ _ (by rw [hq3]; omega)]
          exact hq1
        have hq5 : (((wo.alloc (.cells #[.int .u8 (p.l : Int), .int .i64 p.v, .slice xo p.ws.length xc] 48 (0, 0))).alloc (.cells #[.int .u8 (p.l : Int), .int .i64 p.v, .slice yo p.ws.length yc] 48 (0, 0))).drew).heap[wo.heap.size + 1]? = some (.cells #[.int .u8 (p.l : Int), .int .i64 p.v, .slice yo p.ws.length yc] 48 (0, 0)) := hq2
        have hq6 : Below wo.heap.size wo ((wo.alloc (.cells #[.int .u8 (p.l : Int), .int .i64 p.v, .slice xo p.ws.length xc] 48 (0, 0))).alloc (.cells #[.int .u8 (p.l : Int), .int .i64 p.v, .slice yo p.ws.length yc] 48 (0, 0))).drew := (((Below.refl _ wo).alloc (Nat.le_refl _) _).alloc (by simp) _).drew
        have x0 := cell_of_row _ _ 0 _ _ _ hq4
        have x1 := cell_of_row _ _ 1 _ _ _ hq4
        have x2 := cell_of_row _ _ 2 _ _ _ hq4
        have y0 := cell_of_row _ _ 0 _ _ _ hq5
        have y1 := cell_of_row _ _ 1 _ _ _ hq5
        have y2 := cell_of_row _ _ 2 _ _ _ hq5
        have hlx := lt_of_blk hq4
        have hly := lt_of_blk hq5
        clear hq1 hq2 hq3 hq4 hq5
        generalize ((wo.alloc (.cells #[.int .u8 (p.l : Int), .int .i64 p.v, .slice xo p.ws.length xc] 48 (0, 0))).alloc (.cells #[.int .u8 (p.l : Int), .int .i64 p.v, .slice yo p.ws.length yc] 48 (0, 0))).drew = wq at *
        simp at x0 x1 x2 y0 y1 y2
        have HQ6 := hide hq6
        have HLX := hide hlx
        have HLY := hide hly
        have HX2 := hide x2
        have HY2 := hide y2
        clear hq6 hlx hly
        go_wp2
        clear x0 x1 y0 y1 x2 y2
        go_loopw [8] (fun kv wr => ∃ k : Nat, k ≤ p.ws.length ∧ kv = .int .i64 (k : Int) ∧ Below wq.heap.size wq wr) (fun kv _ => p.ws.length - (intOf kv).toNat)
        case atStart => exact ⟨0, Nat.zero_le _, rfl, Below.refl _ _⟩
        case round =>
          obtain ⟨k, hk, rfl, hbt⟩ := hrel
          have x2 := (hbt.cell (unhide HLX)).trans (unhide HX2)
          have y2 := (hbt.cell (unhide HLY)).trans (unhide HY2)
          have hwxl := (unhide HWA).le
          have hwxm := (unhide HWA).mx
          unfold maxLen at hwxm
          have hbq : Below wo.heap.size wo wr := (unhide HQ6).trans (hbt.mono (unhide HQ6).size)
          by_cases hkl : k < p.ws.length
          · have hki : (k : Int) < (p.ws.length : Int) := by omega
            have hk0 : (0 : Int) ≤ (k : Int) := by omega
            obtain ⟨z, hz⟩ : ∃ z, p.ws[k]? = some z := ⟨p.ws[k], List.getElem?_eq_getElem hkl⟩
            obtain ⟨gx, ox, ex, hgx, hcx⟩ := (unhide HWA).cells (by intro e; rw [e] at hkl; simp at hkl)
            obtain ⟨gy, oy, ey, hgy, hcy⟩ := (unhide HWB).cells (by intro e; rw [e] at hkl; simp at hkl)
            obtain ⟨m0, m1, m2, m3⟩ := hcx k z hz
            obtain ⟨n0, n1, n2, n3⟩ := hcy k z hz
            have m0 := (hbq.cell (p := ⟨gx, ox + k * 4, none⟩) hgx).trans m0
            have m1 := (hbq.cell (p := ⟨gx, ox + k * 4 + 1, none⟩) hgx).trans m1
            have m2 := (hbq.cell (p := ⟨gx, ox + k * 4 + 2, none⟩) hgx).trans m2
            have m3 := (hbq.cell (p := ⟨gx, ox + k * 4 + 3, none⟩) hgx).trans m3
            have n0 := (hbq.cell (p := ⟨gy, oy + k * 4, none⟩) hgy).trans n0
            have n1 := (hbq.cell (p := ⟨gy, oy + k * 4 + 1, none⟩) hgy).trans n1
            have n2 := (hbq.cell (p := ⟨gy, oy + k * 4 + 2, none⟩) hgy).trans n2
            have n3 := (hbq.cell (p := ⟨gy, oy + k * 4 + 3, none⟩) hgy).trans n3
            rw [ex] at x2
            rw [ey] at y2
            have heqW := fun w => eqWay w z.k z.x z.y z.t
            clear hcx hcy ex ey hz
            go_wp2
            go_quiet (fail)
            go_wp2
            go_roundw
            case rel => exact ⟨k + 1, by omega, by go_num, below_drewN hbt _⟩
            case measure => simp [intOf]; omega
          · have hki : ¬ (k : Int) < (p.ws.length : Int) := by omega
            have hfin : Below w2.heap.size w2 wr := hbr.trans (hbq.mono hbr.size)
            clear hbq hbt hkl
            go_wp2
            go_roundw
            case rel => exact ⟨i + 1, by omega, by go_num, hfin⟩
            case measure => simp [intOf]; omega
      · skip
        have hq1 := heap_alloc_new wo (.cells #[.int .u8 (p.l : Int), .int .i64 p.v, .slice yo p.ws.length yc] 48 (0, 0))
        have hq2 := heap_alloc_new (wo.alloc (.cells #[.int .u8 (p.l : Int), .int .i64 p.v, .slice yo p.ws.length yc] 48 (0, 0))) (.cells #[.int .u8 (p.l : Int), .int .i64 p.v, .slice xo p.ws.length xc] 48 (0, 0))
        have hq3 : (wo.alloc (.cells #[.int .u8 (p.l : Int), .int .i64 p.v, .slice yo p.ws.length yc] 48 (0, 0))).heap.size = wo.heap.size + 1 := by simp
        rw [hq3] at hq2
        have hq4 : (((wo.alloc (.cells #[.int .u8 (p.l : Int), .int .i64 p.v, .slice yo p.ws.length yc] 48 (0, 0))).alloc (.cells #[.int .u8 (p.l : Int), .int .i64 p.v, .slice xo p.ws.length xc] 48 (0, 0))).drew).heap[wo.heap.size]? = some (.cells #[.int .u8 (p.l : Int), .int .i64 p.v, .slice yo p.ws.length yc] 48 (0, 0)) := by
          show ((wo.alloc (.cells #[.int .u8 (p.l : Int), .int .i64 p.v, .slice yo p.ws.length yc] 48 (0, 0))).alloc (.cells #[.int .u8 (p.l : Int), .int .i64 p.v, .slice xo p.ws.length xc] 48 (0, 0))).heap[wo.heap.size]? = _
          rw [Below.heap_alloc _ _ _ (by rw [hq3]; omega)]
          exact hq1
        have hq5 : (((wo.alloc (.cells #[.int .u8 (p.l : Int), .int .i64 p.v, .slice yo p.ws.length yc] 48 (0, 0))).alloc (.cells #[.int .u8 (p.l : Int), .int .i64 p.v, .slice xo p.ws.length xc] 48 (0, 0))).drew).heap[wo.heap.size + 1]? = some (.cells #[.int .u8 (p.l : Int), .int .i64 p.v, .slice xo p.ws.length xc] 48 (0, 0)) := hq2
        have hq6 : Below wo.heap.size wo ((wo.alloc (.cells #[.int .u8 (p.l : Int), .int .i64 p.v, .slice yo p.ws.length yc] 48 (0, 0))).alloc (.cells #[.int .u8 (p.l : Int), .int .i64 p.v, .slice xo p.ws.length xc] 48 (0, 0))).drew := (((Below.refl _ wo).alloc (Nat.le_refl _) _).alloc (by simp) _).drew
        have x0 := cell_of_row _ _ 0 _ _ _ hq5
        have x1 := cell_of_row _ _ 1 _ _ _ hq5
        have x2 := cell_of_row _ _ 2 _ _ _ hq5
        have y0 := cell_of_row _ _ 0 _ _ _ hq4
        have y1 := cell_of_row _ _ 1 _ _ _ hq4
        have y2 := cell_of_row _ _ 2 _ _ _ hq4
        have hlx := lt_of_blk hq5
        have hly := lt_of_blk hq4
        clear hq1 hq2 hq3 hq4 hq5
        generalize ((wo.alloc (.cells #[.int .u8 (p.l : Int), .int .i64 p.v, .slice yo p.ws.length yc] 48 (0, 0))).alloc (.cells #[.int .u8 (p.l : Int), .int .i64 p.v, .slice xo p.ws.length xc] 48 (0, 0))).drew = wq at *
        simp at x0 x1 x2 y0 y1 y2
        have HQ6 := hide hq6
        have HLX := hide hlx
        have HLY := hide hly
        have HX2 := hide x2
        have HY2 := hide y2
        clear hq6 hlx hly
        go_wp2
        clear x0 x1 y0 y1 x2 y2
        go_loopw [8] (fun kv wr => ∃ k : Nat, k ≤ p.ws.length ∧ kv = .int .i64 (k : Int) ∧ Below wq.heap.size wq wr) (fun kv _ => p.ws.length - (intOf kv).toNat)
        case atStart => exact ⟨0, Nat.zero_le _, rfl, Below.refl _ _⟩
        case round =>
          obtain ⟨k, hk, rfl, hbt⟩ := hrel
          have x2 := (hbt.cell (unhide HLX)).trans (unhide HX2)
          have y2 := (hbt.cell (unhide HLY)).trans (unhide HY2)
          have hwxl := (unhide HWA).le
          have hwxm := (unhide HWA).mx
          unfold maxLen at hwxm
          have hbq : Below wo.heap.size wo wr := (unhide HQ6).trans (hbt.mono (unhide HQ6).size)
          by_cases hkl : k < p.ws.length
          · have hki : (k : Int) < (p.ws.length : Int) := by omega
            have hk0 : (0 : Int) ≤ (k : Int) := by omega
            obtain ⟨z, hz⟩ : ∃ z, p.ws[k]? = some z := ⟨p.ws[k], List.getElem?_eq_getElem hkl⟩
            obtain ⟨gx, ox, ex, hgx, hcx⟩ := (unhide HWA).cells (by intro e; rw [e] at hkl; simp at hkl)
            obtain ⟨gy, oy, ey, hgy, hcy⟩ := (unhide HWB).cells (by intro e; rw [e] at hkl; simp at hkl)
            obtain ⟨m0, m1, m2, m3⟩ := hcx k z hz
            obtain ⟨n0, n1, n2, n3⟩ := hcy k z hz
            have m0 := (hbq.cell (p := ⟨gx, ox + k * 4, none⟩) hgx).trans m0
            have m1 := (hbq.cell (p := ⟨gx, ox + k * 4 + 1, none⟩) hgx).trans m1
            have m2 := (hbq.cell (p := ⟨gx, ox + k * 4 + 2, none⟩) hgx).trans m2
            have m3 := (hbq.cell (p := ⟨gx, ox + k * 4 + 3, none⟩) hgx).trans m3
            have n0 := (hbq.cell (p := ⟨gy, oy + k * 4, none⟩) hgy).trans n0
            have n1 := (hbq.cell (p := ⟨gy, oy + k * 4 + 1, none⟩) hgy).trans n1
            have n2 := (hbq.cell (p := ⟨gy, oy + k * 4 + 2, none⟩) hgy).trans n2
            have n3 := (hbq.cell (p := ⟨gy, oy + k * 4 + 3, none⟩) hgy).trans n3
            rw [ex] at x2
            rw [ey] at y2
            have heqW := fun w => eqWay w z.k z.x z.y z.t
            clear hcx hcy ex ey hz
            go_wp2
            go_quiet (fail)
            go_wp2
            go_roundw
            case rel => exact ⟨k + 1, by omega, by go_num, below_drewN hbt _⟩
            case measure => simp [intOf]; omega
          · have hki : ¬ (k : Int) < (p.ws.length : Int) := by omega
            have hfin : Below w2.heap.size w2 wr := hbr.trans (hbq.mono hbr.size)
            clear hbq hbt hkl
            go_wp2
            go_roundw
            case rel => exact ⟨i + 1, by omega, by go_num, hfin⟩
            case measure => simp [intOf]; omega
    · have hii : ¬ (i : Int) < (n : Int) := by omega
      have hfin : Below w.heap.size w wo := b2.trans (hbr.mono (by omega))
      clear hz2 hszr
      go_wp2
      go_ret
      exact ⟨rfl, hfin⟩
end Go.Proofs.YtfhmpgjemobjhaaGreatDoor

namespace Go.Proofs.YtfhmpgjemobjhaaGreatDoor
open Go.RowKit
def kText : ByteArray := ⟨#[115, 116, 97, 114, 116, 32, 75, 32, 119, 32, 45, 47, 45, 10, 112, 105, 101, 99, 101, 32, 75, 32, 51, 10, 112, 108, 105, 101, 115, 32, 57, 10]⟩
def kRules : Rl := ⟨1, 1, [75], 0, [], [], [⟨75, 3, []⟩], false, 0, 0, 0, false, 9⟩
theorem kRules_whole : kRules.whole = true := by decide +kernel
theorem kRules_txt : kRules.txt = kText.data.toList := by decide +kernel
theorem kRead : readR kText.data.toList = (some kRules, 0, 0) := by rw [← kRules_txt]; exact readR_there _ kRules_whole

theorem whole_pos (x : Rl) (h : x.whole = true) : IsPos x.W x.H ⟨x.C.toArray⟩ x.T ⟨x.A.toArray⟩ ⟨x.B.toArray⟩ := by
  have hp : posB x.W x.H x.C x.T x.A x.B = true := by
    simp only [Rl.whole, rulesB, Bool.and_eq_true] at h
    exact h.1.1.1.1.1.2
  obtain ⟨W', H', e1, e2, q⟩ := isPos_of (W := x.W) (H := x.H) (C := ⟨x.C.toArray⟩) (T := x.T) (A := ⟨x.A.toArray⟩) (B := ⟨x.B.toArray⟩) hp
  have e1' : x.W = W' := by omega
  have e2' : x.H = H' := by omega
  rw [e1', e2']
  exact q
theorem rWrite_of (x : Rl) (hx : x.whole = true) (ao : Option Addr) (cap : Nat) (w : World) (h : isPcs w ao cap x.ps) (ht : isTab w) :
    Calls Tryz.prog 4 #[x.val (.slice ao x.ps.length cap)] w fun e w' => e = .returned (.tuple #[.string ⟨x.txt.toArray⟩, .int .i64 0]) ∧ Below w.heap.size w w' :=
  rWrite_ok (C := ⟨x.C.toArray⟩) (A := ⟨x.A.toArray⟩) (B := ⟨x.B.toArray⟩) ao cap x.ps x.dr x.st x.lo x.re (x.li : Int) (x.pl : Int) w (whole_pos x hx) h hx ht
theorem bytes_same (C : ByteArray) : (⟨C.data.toList.toArray⟩ : ByteArray) = C := bytes_eq rfl
theorem rl_of {W H T : Int} {C A B : ByteArray} {ps : List Pc} {lo re : UInt8} {li pl : Int} (dr st : Bool) (h : rulesB W H C.data.toList T A.data.toList B.data.toList ps lo.toNat li re.toNat pl = true) :
    ∃ x : Rl, x.whole = true ∧ x.ps = ps ∧ ∀ v, (Value.agg #[.int .i64 W, .int .i64 H, .string C, .int .i64 T, .string A, .string B, v, .bool dr, .int .u8 (lo.toNat : Int), .int .i64 li, .int .u8 (re.toNat : Int), .bool st, .int .i64 pl]) = x.val v := by
  have h' := h
  simp only [rulesB, inB, Bool.and_eq_true, Bool.or_eq_true, decide_eq_true_eq] at h'
  obtain ⟨⟨⟨⟨⟨⟨hps, hpos⟩, -⟩, -⟩, -⟩, hli⟩, hpl⟩ := h'
  obtain ⟨W', H', rfl, rfl, -⟩ := isPos_of hpos
  obtain ⟨li', rfl⟩ := Int.eq_ofNat_of_zero_le (show 0 ≤ li by omega)
  obtain ⟨pl', rfl⟩ := Int.eq_ofNat_of_zero_le (show 0 ≤ pl by omega)
  refine ⟨⟨W', H', C.data.toList, T, A.data.toList, B.data.toList, ps, dr, lo, li', re, st, pl'⟩, h, rfl, fun v => ?_⟩
  simp only [Rl.val, bytes_same]
theorem txt_len (x : Rl) (h : x.whole = true) : x.txt.length < 100000 := by
  have p0 := whole_pos x h
  have h' := h
  simp only [Rl.whole, rulesB, psB, inB, Bool.and_eq_true, Bool.or_eq_true, decide_eq_true_eq] at h'
  obtain ⟨⟨⟨⟨⟨⟨⟨hn, hokp⟩, -⟩, -⟩, -⟩, -⟩, hli⟩, hpl⟩ := h'
  have z1 := wtxt_len p0
  have z2 := flatP_len x.ps (okP_mem x.ps 0 hokp)
  have z3 := dropsL_len x.dr
  have z4 := letL_len wLose x.lo (by decide)
  have z5 := numL_len x.li (by omega)
  have z6 := letL_len wReach x.re (by decide)
  have z7 := stuckL_len x.st
  have z8 := dec_len x.pl (by omega)
  have z1' : (wtxt x.W x.H x.C x.T x.A x.B).length ≤ 200 := z1
  unfold Rl.txt rulesL
  simp only [List.length_append, lineL, wStart, wPlies, join_two, Lib.join_one, List.length_cons, List.length_nil, Int.toNat_natCast]
  omega
end Go.Proofs.YtfhmpgjemobjhaaGreatDoor
