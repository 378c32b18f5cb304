/-
  package proof, walked: cert, the other one's turn.
-/
import Derived.Test.YtlogengkhlmcbaaGreatDoorK25
namespace Go.Proofs.YtlogengkhlmcbaaGreatDoor
open Go.RowKit
attribute [local go_sem ↓] Go.wp_at_zero Go.wp_at_succ


theorem infoCert : (Tryz.prog.info? 32).map (fun i => (i.zero, i.size, i.bytes)) = some (some (.agg #[.bool false, .int .i64 0, .int .i64 0, .int .u8 0, .slice none 0 0]), 5, 56) := by kernel_rfl
/-- k certs stand in the row. -/
structure CeI (base gk N k d g : Nat) (F : Po → Nat → Bool → Prop) (L : List Mv) (good : Mv → Ct → Prop) (w5 u : World) : Prop where
  row : ∃ (l : List Cv) (r : List Value), l.length = k ∧ r.length = (N - k) * 5 ∧ u.ownsRow base 32 5 (.slice (some ⟨gk, 0, none⟩) N N) N (cvs l ++ r) ∧ ∀ (i : Nat) (v : Cv), l[i]? = some v → v.x.c < 256 ∧ isCo d u (gk + 1) u.heap.size v.no v.nc v.x.ks ∧ ∀ m, L[i]? = some m → good m v.x
  kn : knows u g 262144 F
  os : u.os = w5.os
  tape : u.tape = w5.tape
  output : u.output = w5.output
  size : w5.heap.size ≤ u.heap.size
  blk : ∀ i, i < w5.heap.size → i ≠ g → i ≠ gk → u.heap[i]? = w5.heap[i]?
/-- One more. -/
theorem CeI.more {base gk N k d g : Nat} {F : Po → Nat → Bool → Prop} {L : List Mv} {good : Mv → Ct → Prop} {w5 u w7 : World} (h : CeI base gk N k d g F L good w5 u) (hkN : k < N) (hgk : g < gk) (hk5 : gk < w5.heap.size) (hg7 : u.grownBy w7 (some g)) (hk7 : knows w7 g 262144 F) (v : Cv) (m : Mv) (hm : L[k]? = some m) (hgood : good m v.x) (hc : v.x.c < 256) (hco : isCo d w7 (gk + 1) w7.heap.size v.no v.nc v.x.ks) :
    (∀ j, j < 5 → (∃ y, w7.cell? ⟨gk, k * 5 + j, none⟩ = some y) ∧ w7.frozen? ⟨gk, k * 5 + j, none⟩ = false) ∧ CeI base gk N (k + 1) d g F L good w5 (((((w7.setCell ⟨gk, k * 5, none⟩ (.bool v.x.s)).setCell ⟨gk, k * 5 + 1, none⟩ (.int .i64 v.x.f)).setCell ⟨gk, k * 5 + 2, none⟩ (.int .i64 v.x.t)).setCell ⟨gk, k * 5 + 3, none⟩ (.int .u8 (v.x.c : Int))).setCell ⟨gk, k * 5 + 4, none⟩ (.slice v.no v.x.ks.length v.nc)) := by
  obtain ⟨⟨l, r, hl, hr, hrow, hall⟩, kn, ho, ht, hp, hs, hb⟩ := h
  have hrow7 : w7.ownsRow base 32 5 (.slice (some ⟨gk, 0, none⟩) N N) N (cvs l ++ r) := by
    obtain ⟨r1, r2⟩ := hrow
    refine ⟨r1, ?_⟩
    rcases r2 with r2 | ⟨g', cap', cur, e, hb', hg', rest⟩
    · exact .inl r2
    · refine .inr ⟨g', cap', cur, e, hb', ?_, rest⟩
      simp only [Value.slice.injEq, Option.some.injEq, Addr.mk.injEq, and_true, true_and] at e
      obtain ⟨rfl, rfl⟩ := e
      exact (hg7.block _ (by omega) (by simp; omega)).trans hg'
  refine ⟨fun j hj => rowCell hrow7 (k * 5 + j) (by omega), ?_⟩
  obtain ⟨hset, hgs⟩ := row_set5 v 32 hrow7 (by omega) (k * 5) (by rw [hl])
  generalize hw8 : ((((w7.setCell ⟨gk, k * 5, none⟩ (.bool v.x.s)).setCell ⟨gk, k * 5 + 1, none⟩ (.int .i64 v.x.f)).setCell ⟨gk, k * 5 + 2, none⟩ (.int .i64 v.x.t)).setCell ⟨gk, k * 5 + 3, none⟩ (.int .u8 (v.x.c : Int))).setCell ⟨gk, k * 5 + 4, none⟩ (.slice v.no v.x.ks.length v.nc) = w8 at *
  have hs8 : w8.heap.size = w7.heap.size := by rw [← hw8]; simp [World.setCell]
  have hu7 := hg7.size
  have hk8 : ∀ j, j < w7.heap.size → j ≠ gk → w8.heap[j]? = w7.heap[j]? := fun j hj hne => hgs.block j hj (by simpa using hne)
  refine ⟨⟨l ++ [v], r.drop 5, by simp [hl], by rw [List.length_drop]; omega, hset, ?_⟩, ?_, ?_, ?_, ?_, by omega, ?_⟩
  · intro i x hx
    by_cases hi : i < k
    · rw [List.getElem?_append_left (by omega)] at hx
      obtain ⟨a1, a2, a3⟩ := hall i x hx
      refine ⟨a1, isCo.wide (Nat.le_refl _) (by omega) _ _ _ _ (isCo.keep (w := u) (fun j hj1 hj2 => ?_) _ _ _ _ a2), a3⟩
      exact (hk8 j (by omega) (by omega)).trans (hg7.block j hj2 (by simp; omega))
    · have hik : i = k := by
        have := (List.getElem?_eq_some_iff.1 hx).1
        simp at this
        omega
      subst hik
      rw [List.getElem?_append_right (by omega), hl, Nat.sub_self] at hx
      simp only [List.getElem?_cons_zero, Option.some.injEq] at hx
      subst hx
      refine ⟨hc, isCo.wide (Nat.le_refl _) (by omega) _ _ _ _ (isCo.keep (w := w7) (fun j hj1 hj2 => hk8 j hj2 (by omega)) _ _ _ _ hco), fun m' hm' => ?_⟩
      rw [hm] at hm'
      cases hm'
      exact hgood
  · exact hk7.of_block (hk8 g hk7.lt (by omega))
  · exact hgs.os.trans (hg7.os.trans ho)
  · exact hgs.tape.trans (hg7.tape.trans ht)
  · exact hgs.output.trans (hg7.output.trans hp)
  · intro i hi h1 h2
    exact (hk8 i (by omega) h2).trans ((hg7.block i (by omega) (by simpa using h1)).trans (hb i hi h1 h2))

set_option maxHeartbeats 8000000 in
set_option maxRecDepth 100000 in
theorem cert_all (v0 v1 v2 v3 v4 v5 v6 v7 v8 v9 v10 v11 v12 : Value) (win : Int) (h g d most : Nat) (p : Po) (L : List Mv) (beh : Mv → Po) (F : Po → Nat → Bool → Prop) (sh : Po → Nat → Ct → Bool) (w00 w : World) (hT : p.T ≠ win) (hL0 : L ≠ []) (hll : L.length ≤ 4608)
    (hw : Below w00.heap.size w00 w) (hgb : w00.heap.size ≤ g) (hne : h ≠ g) (hH : isHu w h g v0 v1 v2 v3 v4 v5 v6 v7 v8 v9 v10 v11 v12 win) (hK : knows w g 262144 F)
    (hX : ∀ u, Below w00.heap.size w00 u → Calls Tryz.prog 28 #[.agg #[v0, v1, v2, v3, v4, v5, v6, v7, v8, v9, v10, v11, v12], .agg #[.int .i64 p.W, .int .i64 p.H, .string p.C, .int .i64 p.T, .string p.A, .string p.B]] u fun e w' => ∃ x y, e = .returned (.tuple #[x, y, .int .i64 0]) ∧ w'.ownsRow u.heap.size 29 3 x L.length (mvals L) ∧ w'.ownsRow u.heap.size 24 6 y L.length (povs (L.map beh)) ∧ Below u.heap.size u w')
    (hC : ∀ m ∈ L, ∀ u, Below w00.heap.size w00 u → isHu u h g v0 v1 v2 v3 v4 v5 v6 v7 v8 v9 v10 v11 v12 win → knows u g 262144 F → Calls Tryz.prog 13 #[.pointer (some ⟨h, 0, none⟩), .agg #[.int .i64 (beh m).W, .int .i64 (beh m).H, .string (beh m).C, .int .i64 (beh m).T, .string (beh m).A, .string (beh m).B], .int .i64 (most : Int)] u (CeP (sh (beh m)) (2 * most - 1) g d F u))
    (hsh : ∀ xs : List Ct, xs.length = L.length → (∀ (i : Nat) (x : Ct) (m : Mv), xs[i]? = some x → L[i]? = some m → ∀ n, 2 * most - 1 ≤ n → sh (beh m) n x = true) → ∀ n, 2 * most ≤ n → sh p n (.mk false 0 0 0 xs) = true) :
    Calls Tryz.prog 13 #[.pointer (some ⟨h, 0, none⟩), .agg #[.int .i64 p.W, .int .i64 p.H, .string p.C, .int .i64 p.T, .string p.A, .string p.B], .int .i64 (most : Int)] w (CeP (sh p) (2 * most) g (d + 1) F w) := by
  obtain ⟨i0, hinfo, hz0, hz1, hz2⟩ := info_parts infoCert
  obtain ⟨N, hN0⟩ : ∃ N, N = L.length := ⟨_, rfl⟩
  have hN1 : N ≠ 0 := by rw [hN0]; exact fun e => hL0 (List.length_eq_zero_iff.1 e)
  rw [← hN0] at hX hll
  have hNz : ((N : Int) == 0) = false := by simp; omega
  have hTb : (p.T == win) = false := by simp [hT]
  have hgl := hK.lt
  obtain ⟨w1, hw1⟩ : ∃ w1, w1 = w.alloc (.cells #[.pointer (some ⟨h, 0, none⟩)] 43 (0, 0)) := ⟨_, rfl⟩
  obtain ⟨w2, hw2⟩ : ∃ w2, w2 = w1.alloc (.cells #[.int .i64 p.W, .int .i64 p.H, .string p.C, .int .i64 p.T, .string p.A, .string p.B] 24 (0, 0)) := ⟨_, rfl⟩
  obtain ⟨w3, hw3⟩ : ∃ w3, w3 = w2.alloc (.cells #[.bool false, .int .i64 0, .int .i64 0, .int .u8 0, .slice none 0 0] 32 (0, 0)) := ⟨_, rfl⟩
  have hcf : CF w h g v0 v1 v2 v3 v4 v5 v6 v7 v8 v9 v10 v11 v12 win p w3 := CF.start hH hgl hne (by rw [hw3, hw2, hw1])
  have hk3 : knows w3 g 262144 F := hK.of_block (by rw [hw3, Below.heap_alloc _ _ _ (by rw [hw2, hw1]; simp; omega), hw2, Below.heap_alloc _ _ _ (by rw [hw1]; simp; omega), hw1, Below.heap_alloc _ _ _ hgl])
  have HW1 := hide hw1
  have HW2 := hide hw2
  have HW3 := hide hw3
  have HS0 := hide (hcf.step (growD w3 _)).cells
  have HCF := hide hcf
  have HNX := hide (hX w3.drew (below_grown hw (hcf.step (growD w3 _)).gr hgb))
  have HK3 := hide hk3
  have HST : Hid (∀ u, Below w3.heap.size w3.drew u → CF w h g v0 v1 v2 v3 v4 v5 v6 v7 v8 v9 v10 v11 v12 win p u ∧ knows u g 262144 F) := hide (fun u hu => by
    have hgl3 : g < w3.heap.size := by have := hcf.sz; omega
    exact ⟨hcf.step (growT (growD w3 _) (growB hu _)), hk3.of_block (hu.block g hgl3)⟩)
  clear hw1 hw2 hw3 hcf hk3 hX hH hK
  have HC := hide hC
  have HSH := hide hsh
  have HLN := hide hN0
  have HW := hide hw
  have HI := hide hinfo
  have HZ0 := hide hz0
  have HZ1 := hide hz1
  have HZ2 := hide hz2
  have hg3 : g < w3.heap.size := by have := (unhide HCF).sz; omega
  have h3w : w.heap.size + 1 + 1 + 1 ≤ w3.heap.size := (unhide HCF).sz
  clear hC hsh hN0 hw hT hL0 hinfo hz0 hz1 hz2
  go_enter Tryz.func13, Tryz.ntmps13
  go_upto_region 1 with fail
  rw [← unhide HW1, ← unhide HW2, ← unhide HW3]
  clear HW1 HW2 HW3
  go_region_held3 (fun u => u.cell? ⟨w.heap.size, 0, none⟩ = some (.pointer (some ⟨h, 0, none⟩)) ∧ u.cell? ⟨h, 0, none⟩ = some v0 ∧ u.cell? ⟨h, 1, none⟩ = some v1 ∧ u.cell? ⟨h, 2, none⟩ = some v2 ∧ u.cell? ⟨h, 3, none⟩ = some v3 ∧ u.cell? ⟨h, 4, none⟩ = some v4 ∧ u.cell? ⟨h, 5, none⟩ = some v5 ∧ u.cell? ⟨h, 6, none⟩ = some v6 ∧ u.cell? ⟨h, 7, none⟩ = some v7 ∧ u.cell? ⟨h, 8, none⟩ = some v8 ∧ u.cell? ⟨h, 9, none⟩ = some v9 ∧ u.cell? ⟨h, 10, none⟩ = some v10 ∧ u.cell? ⟨h, 11, none⟩ = some v11 ∧ u.cell? ⟨h, 12, none⟩ = some v12 ∧ u.cell? ⟨h, 13, none⟩ = some (.int .i64 win) ∧ u.cell? ⟨w.heap.size + 1, 0, none⟩ = some (.int .i64 p.W) ∧ u.cell? ⟨w.heap.size + 1, 1, none⟩ = some (.int .i64 p.H) ∧ u.cell? ⟨w.heap.size + 1, 2, none⟩ = some (.string p.C) ∧ u.cell? ⟨w.heap.size + 1, 3, none⟩ = some (.int .i64 p.T) ∧ u.cell? ⟨w.heap.size + 1, 4, none⟩ = some (.string p.A) ∧ u.cell? ⟨w.heap.size + 1, 5, none⟩ = some (.string p.B))
    (first
      | with_reducible exact unhide HS0
      | with_reducible exact j4)
    (first | (go_at_call 28; (with_reducible refine (unhide HNX).mono ?_); rintro e w4 ⟨xv, yv, rfl, hxo, hyo, hb4⟩; obtain ⟨hc4, hk4⟩ := unhide HST w4 hb4; obtain ⟨ao, ac, rfl⟩ := row_len hxo; obtain ⟨bo, bc, rfl⟩ := row_len hyo; have j4 := hc4.cells; have HC4 := hide hc4; have HK4 := hide hk4; have HXO := hide hxo; have HYO := hide hyo; have HB4 := hide hb4; clear hc4 hk4 hxo hyo hb4))
  all_goals
    obtain ⟨gy, cy, ey, hgy1, hgy2, hcy1, hcy2, hcy⟩ := row_pos (unhide HYO) hN1
    have e3 : w3.drew.heap.size = w3.heap.size := rfl
    rw [e3] at hgy1
    simp only [Value.slice.injEq, true_and] at ey
    obtain ⟨rfl, rfl⟩ := ey
    unfold maxLen at hcy2
    have HCY := hide hcy
    have HSD := hide ((unhide HC4).step (growD w4 _)).cells
    have hc4d := (unhide HC4).step (growD w4 _)
    have hk4d : knows w4.drew g 262144 F := unhide HK4
    have h34 : w3.heap.size ≤ w4.heap.size := (unhide HB4).size
    obtain ⟨w5, hmk, hrow5, hg5⟩ := run_makeSlice_full (P := Tryz.prog) (w := w4.drew) w.heap.size 30 32 i0 _ 5 Tryz.underlying30 (unhide HI) (unhide HZ0) (unhide HZ1) .i64 .i64 N (by omega) (by rw [unhide HZ2]; omega) (by unfold maxLen; omega) (by have := hc4d.gr.size; exact this)
    obtain ⟨gk, hgk⟩ : ∃ gk, gk = w4.heap.size := ⟨_, rfl⟩
    have hmk' : (Instr.makeSlice 30 (.int .i64 (N : Int)) (.int .i64 (N : Int))).run Tryz.prog w4.drew = .ok (.slice (some ⟨gk, 0, none⟩) N N) w5 := by rw [hgk]; exact hmk
    have hrow5' : w5.ownsRow w.heap.size 32 5 (.slice (some ⟨gk, 0, none⟩) N N) N (madeCells (Value.cells (.agg #[.bool false, .int .i64 0, .int .i64 0, .int .u8 0, .slice none 0 0])) (N * 5)).toList := by rw [hgk]; exact hrow5
    have hgkl : gk < w5.heap.size := (World.ownsRow.lt hrow5' gk rfl).2
    have hgkw : gk = w4.heap.size := hgk
    have hg5' : w4.drew.grownBy w5 (some g) := ⟨hg5.os, hg5.tape, hg5.output, hg5.size, fun k hk _ => hg5.block k hk (by simp)⟩
    have hc5 := hc4d.step hg5'
    have hk5 : knows w5 g 262144 F := hk4d.of_block (hg5.block g (by show g < w4.heap.size; omega) (by simp))
    have hI0 : CeI w.heap.size gk N 0 d g F L (fun m x => ∀ n, 2 * most - 1 ≤ n → sh (beh m) n x = true) w5 w5 := ⟨⟨[], _, rfl, by rw [hrow5'.1]; omega, by simpa [cvs] using hrow5', fun i v hv => by simp at hv⟩, hk5, rfl, rfl, rfl, Nat.le_refl _, fun _ _ _ _ => rfl⟩
    have HFR : Hid (∀ u k, CeI w.heap.size gk N k d g F L (fun m x => ∀ n, 2 * most - 1 ≤ n → sh (beh m) n x = true) w5 u → CF w h g v0 v1 v2 v3 v4 v5 v6 v7 v8 v9 v10 v11 v12 win p u ∧ u.heap[gy]? = w4.heap[gy]?) := hide (fun u k hu => by
      refine ⟨hc5.of (fun i hi hne => hu.blk i (by omega) hne (by omega)) hu.os hu.tape hu.output hu.size, ?_⟩
      exact (hu.blk gy (by omega) (by omega) (by omega)).trans (hg5.block gy (by show gy < w4.heap.size; exact hgy2) (by simp)))
    have HI0 := hide hI0
    have HGK := hide hgkw
    have HC4d := hide hc4d
    have hggk : g < gk := by omega
    have hwgk : w.heap.size + 1 + 1 + 1 ≤ gk := by omega
    clear hgk hgkw hmk hrow5 hrow5' hg5 hg5' hc5 hk5 hI0 j4 hcy HC4 HK4 HXO HYO HB4 e3 HST HNX HS0 hc4d hk4d h34 HI HZ0 HZ1 HZ2 hgy2 hgy1
    go_upto_region 4 with fail
    go_region_held3 (fun u => u.cell? ⟨w.heap.size, 0, none⟩ = some (.pointer (some ⟨h, 0, none⟩)) ∧ u.cell? ⟨h, 0, none⟩ = some v0 ∧ u.cell? ⟨h, 1, none⟩ = some v1 ∧ u.cell? ⟨h, 2, none⟩ = some v2 ∧ u.cell? ⟨h, 3, none⟩ = some v3 ∧ u.cell? ⟨h, 4, none⟩ = some v4 ∧ u.cell? ⟨h, 5, none⟩ = some v5 ∧ u.cell? ⟨h, 6, none⟩ = some v6 ∧ u.cell? ⟨h, 7, none⟩ = some v7 ∧ u.cell? ⟨h, 8, none⟩ = some v8 ∧ u.cell? ⟨h, 9, none⟩ = some v9 ∧ u.cell? ⟨h, 10, none⟩ = some v10 ∧ u.cell? ⟨h, 11, none⟩ = some v11 ∧ u.cell? ⟨h, 12, none⟩ = some v12 ∧ u.cell? ⟨h, 13, none⟩ = some (.int .i64 win) ∧ u.cell? ⟨w.heap.size + 1, 0, none⟩ = some (.int .i64 p.W) ∧ u.cell? ⟨w.heap.size + 1, 1, none⟩ = some (.int .i64 p.H) ∧ u.cell? ⟨w.heap.size + 1, 2, none⟩ = some (.string p.C) ∧ u.cell? ⟨w.heap.size + 1, 3, none⟩ = some (.int .i64 p.T) ∧ u.cell? ⟨w.heap.size + 1, 4, none⟩ = some (.string p.A) ∧ u.cell? ⟨w.heap.size + 1, 5, none⟩ = some (.string p.B))
      (first
        | with_reducible exact unhide HSD)
      (fail)
    all_goals
      clear HSD
      go_wp2
      go_loopw [66] (fun iv wr => ∃ k : Nat, k ≤ N ∧ iv = .int .i64 (k : Int) ∧ Hid (CeI w.heap.size gk N k d g F L (fun m x => ∀ n, 2 * most - 1 ≤ n → sh (beh m) n x = true) w5 wr)) (fun iv _ => N - (intOf iv).toNat)
      case atStart => exact ⟨0, Nat.zero_le _, rfl, HI0⟩
      case round =>
        obtain ⟨k, hk, rfl, HIN⟩ := hrel
        clear HI0
        obtain ⟨hcr, hyr⟩ := unhide HFR wr k (unhide HIN)
        by_cases hlt : k < N
        · have hlti : (k : Int) < (N : Int) := by omega
          have hk0 : (0 : Int) ≤ (k : Int) := by omega
          have hkl : k < L.length := by rw [← unhide HLN]; exact hlt
          obtain ⟨m, hm⟩ : ∃ m, L[k]? = some m := ⟨_, List.getElem?_eq_getElem hkl⟩
          have hmem := List.mem_of_getElem? hm
          obtain ⟨-, hcq⟩ := unhide HCY k (beh m) (by rw [List.getElem?_map, hm]; rfl)
          obtain ⟨q0, q1, q2, q3, q4, q5⟩ := hcq wr hyr
          obtain ⟨q, hq⟩ : ∃ q, q = beh m := ⟨_, rfl⟩
          rw [← hq] at q0 q1 q2 q3 q4 q5
          obtain ⟨wi, hwi⟩ : ∃ wi, wi = wr.alloc (.cells #[.int .i64 q.W, .int .i64 q.H, .string q.C, .int .i64 q.T, .string q.A, .string q.B] 24 (0, 0)) := ⟨_, rfl⟩
          have hgi : wr.grownBy wi (some g) := by rw [hwi]; exact growA _ _ _
          have hci := hcr.step hgi
          have hkr := (unhide HIN).kn
          have hki : knows wi g 262144 F := hkr.of_block (by rw [hwi, Below.heap_alloc _ _ _ hkr.lt])
          have hpi : isPb wi wr.heap.size q.W q.H q.T q.C q.A q.B := by rw [hwi]; exact heap_alloc_new wr _
          have si : wi.heap.size = wr.heap.size + 1 := by rw [hwi]; simp
          have hrs := (unhide HIN).size
          have HCE : Hid (Calls Tryz.prog 13 #[.pointer (some ⟨h, 0, none⟩), .agg #[.int .i64 q.W, .int .i64 q.H, .string q.C, .int .i64 q.T, .string q.A, .string q.B], .int .i64 (most : Int)] wi (CeP (sh q) (2 * most - 1) g d F wi)) := hide (by
            rw [hq]
            exact unhide HC m hmem wi (below_grown (unhide HW) hci.gr hgb) hci.hu hki)
          have HMO : Hid (∀ (w7 : World) (x : Ct) (no : Option Addr) (nc : Nat), x.c < 256 → isCo d w7 wi.heap.size w7.heap.size no nc x.ks → (∀ n, 2 * most - 1 ≤ n → sh q n x = true) → knows w7 g 262144 F → wi.grownBy w7 (some g) → (∀ j, j < 5 → (∃ y, w7.cell? ⟨gk, k * 5 + j, none⟩ = some y) ∧ w7.frozen? ⟨gk, k * 5 + j, none⟩ = false) ∧ CeI w.heap.size gk N (k + 1) d g F L (fun m x => ∀ n, 2 * most - 1 ≤ n → sh (beh m) n x = true) w5 (((((w7.setCell ⟨gk, k * 5, none⟩ (.bool x.s)).setCell ⟨gk, k * 5 + 1, none⟩ (.int .i64 x.f)).setCell ⟨gk, k * 5 + 2, none⟩ (.int .i64 x.t)).setCell ⟨gk, k * 5 + 3, none⟩ (.int .u8 (x.c : Int))).setCell ⟨gk, k * 5 + 4, none⟩ (.slice no x.ks.length nc))) := hide (fun w7 x no nc a1 a2 a3 a4 a5 =>
            (unhide HIN).more hlt hggk hgkl (growT hgi a5) a4 ⟨x, no, nc⟩ m hm (by rw [← hq]; exact a3) a1 (isCo.wide (by omega) (Nat.le_refl _) _ _ _ _ a2))
          obtain ⟨x0, -⟩ := hci.cells
          obtain ⟨p0, p1, p2, p3, p4, p5⟩ := hpi.all
          have HWI := hide hwi
          clear hm hmem hcq hq hwi hgi hci hkr hki hpi si hrs HIN hcr hyr hkl
          go_upto_region 12 with fail
          rw [← unhide HWI]
          clear HWI q0 q1 q2 q3 q4 q5
          go_wp2_with fail
          refine (unhide HCE).mono ?_
          rintro e w7 ⟨x, no, nc, rfl, hxc, hco, hxs, hk7, hg7⟩
          obtain ⟨hcs, hnew⟩ := unhide HMO w7 x no nc hxc hco hxs hk7 hg7
          obtain ⟨⟨t0, s0⟩, f0⟩ := hcs 0 (by omega)
          obtain ⟨⟨t1, s1⟩, f1⟩ := hcs 1 (by omega)
          obtain ⟨⟨t2, s2⟩, f2⟩ := hcs 2 (by omega)
          obtain ⟨⟨t3, s3⟩, f3⟩ := hcs 3 (by omega)
          obtain ⟨⟨t4, s4⟩, f4⟩ := hcs 4 (by omega)
          rw [Nat.add_zero] at s0 f0
          have HNEW := hide hnew
          clear hcs hnew hxc hco hxs hk7 hg7 HCE HMO x0 p0 p1 p2 p3 p4 p5
          go_wp2
          go_roundw
          case rel => exact ⟨k + 1, by omega, by go_num, HNEW⟩
          case measure => simp only [intOf]; omega
        · have hlti : ¬ (k : Int) < (N : Int) := by omega
          have hke : k = N := by omega
          subst hke
          obtain ⟨⟨l, r, hl, hr, hrow, hall⟩, hkn, -, -, -, -, -⟩ := unhide HIN
          have hr0 : r = [] := List.eq_nil_of_length_eq_zero (by omega)
          rw [hr0, List.append_nil] at hrow
          obtain ⟨c0, c1, c2, c3, c4⟩ := hcr.cb.all
          have f0 := hcr.cb.frozen 0
          have f1 := hcr.cb.frozen 1
          have f2 := hcr.cb.frozen 2
          have f3 := hcr.cb.frozen 3
          have f4 := hcr.cb.frozen 4
          obtain ⟨r1, r2, r3, r4⟩ := set5 (a0 := .bool false) (a1 := .int .i64 0) (a2 := .int .i64 0) (a3 := .int .u8 0) (a4 := .slice (some ⟨gk, 0, none⟩) k k) hcr.gr hkn (b := w.heap.size + 1 + 1) (by omega) hcr.gl
          have hrl : gk < wr.heap.size := (World.ownsRow.lt hrow gk rfl).2
          have HFIN : Hid (CeP (sh p) (2 * most) g (d + 1) F w (.returned (.agg #[.bool false, .int .i64 0, .int .i64 0, .int .u8 0, .slice (some ⟨gk, 0, none⟩) k k])) (((((wr.setCell ⟨w.heap.size + 1 + 1, 0, none⟩ (.bool false)).setCell ⟨w.heap.size + 1 + 1, 1, none⟩ (.int .i64 0)).setCell ⟨w.heap.size + 1 + 1, 2, none⟩ (.int .i64 0)).setCell ⟨w.heap.size + 1 + 1, 3, none⟩ (.int .u8 0)).setCell ⟨w.heap.size + 1 + 1, 4, none⟩ (.slice (some ⟨gk, 0, none⟩) k k))) := hide (by
            generalize hw9 : ((((wr.setCell ⟨w.heap.size + 1 + 1, 0, none⟩ (.bool false)).setCell ⟨w.heap.size + 1 + 1, 1, none⟩ (.int .i64 0)).setCell ⟨w.heap.size + 1 + 1, 2, none⟩ (.int .i64 0)).setCell ⟨w.heap.size + 1 + 1, 3, none⟩ (.int .u8 0)).setCell ⟨w.heap.size + 1 + 1, 4, none⟩ (.slice (some ⟨gk, 0, none⟩) k k) = w9 at *
            have hrow9 : w9.ownsRow w.heap.size 32 5 (.slice (some ⟨gk, 0, none⟩) k k) k (cvs l) := by
              obtain ⟨a1, a2⟩ := hrow
              refine ⟨a1, ?_⟩
              rcases a2 with a2 | ⟨g', cap', cur, e, hb', hg', rest⟩
              · exact .inl a2
              · refine .inr ⟨g', cap', cur, e, hb', ?_, rest⟩
                simp only [Value.slice.injEq, Option.some.injEq, Addr.mk.injEq, and_true, true_and] at e
                obtain ⟨rfl, rfl⟩ := e
                exact (r4 _ (by omega)).trans hg'
            obtain ⟨hco, hll2⟩ := isCo.of_row (d := d) (lo := w.heap.size) (B := w9.heap.size) hrow9 (by omega) (by omega) (fun v hv => by
              obtain ⟨i, hi⟩ := List.getElem?_of_mem hv
              obtain ⟨a1, a2, -⟩ := hall i v hi
              exact ⟨a1, isCo.wide (by omega) (by omega) _ _ _ _ (isCo.keep (w := wr) (fun j hj1 _ => r4 j (by omega)) _ _ _ _ a2)⟩)
            refine ⟨.mk false 0 0 0 (l.map Cv.x), some ⟨gk, 0, none⟩, k, ?_, by show 0 < 256; omega, hco, ?_, r1, r2⟩
            · show _ = Ending.returned (.agg #[.bool false, .int .i64 0, .int .i64 0, .int .u8 ((0 : Nat) : Int), .slice (some ⟨gk, 0, none⟩) (l.map Cv.x).length k])
              rw [List.length_map, hll2]
              rfl
            · refine unhide HSH (l.map Cv.x) (by rw [List.length_map, hll2, unhide HLN]) (fun i x m hx hm => ?_)
              rw [List.getElem?_map, Option.map_eq_some_iff] at hx
              obtain ⟨v, hv, rfl⟩ := hx
              exact (hall i v hv).2.2 m hm)
          clear r1 r2 r3 r4 hrl hall hrow hr hr0 hkn hl HIN hcr hyr
          go_wp2
          refine bodyPost_ret (v := .agg #[.bool false, .int .i64 0, .int .i64 0, .int .u8 0, .slice (some ⟨gk, 0, none⟩) k k]) (by simp [results, Tryz.results13, go_sem, c0, c1, c2, c3, c4]) rfl ?_
          exact unhide HFIN
end Go.Proofs.YtlogengkhlmcbaaGreatDoor
