/-
  gameref.Wins, over what is known of gameref.Ends, gameref.Moves and gameref.Made.
  package proof, walked: check, Check.
-/
import Derived.Test.YtlogengkhlmcbaaGreatDoorJ13
import Derived.Test.YtlogengkhlmcbaaGreatDoorJ14
import Derived.Test.YtlogengkhlmcbaaGreatDoorJ15
import Derived.Deep.RegionHeld3
import Derived.Deep.Cut
import Derived.Test.YtlogengkhlmcbaaGreatDoorK4
namespace Go.Proofs.YtlogengkhlmcbaaGreatDoor
open Go.RowKit
attribute [local go_sem ↓] Go.wp_at_zero Go.wp_at_succ

/-- The rules and the position in boxes. -/
structure RP (w : World) (v0 v1 v2 v3 v4 v5 v6 v7 v8 v9 v10 v11 v12 : Value) (W H T : Int) (C A B : ByteArray) (u : World) : Prop where
  ru : isRu u w.heap.size v0 v1 v2 v3 v4 v5 v6 v7 v8 v9 v10 v11 v12
  pb : isPb u (w.heap.size + 1) W H T C A B
  bw : Below w.heap.size w u
  sz : w.heap.size + 2 ≤ u.heap.size
theorem RP.step {w : World} {v0 v1 v2 v3 v4 v5 v6 v7 v8 v9 v10 v11 v12 : Value} {W H T : Int} {C A B : ByteArray} {u u' : World} (h : RP w v0 v1 v2 v3 v4 v5 v6 v7 v8 v9 v10 v11 v12 W H T C A B u) (hb : Below u.heap.size u u') : RP w v0 v1 v2 v3 v4 v5 v6 v7 v8 v9 v10 v11 v12 W H T C A B u' := by
  have h1 := h.sz
  have h2 := hb.size
  exact ⟨h.ru.below hb (by omega), h.pb.below hb (by omega), h.bw.trans (hb.mono h.bw.size), by omega⟩
theorem wrapS {x : Int} (h0 : -9 ≤ x) (h : x ≤ 9000000000) : IntKind.i64.wrap x = x := by unfold IntKind.wrap; simp [IntKind.signed, IntKind.bits]; omega
/-- Any of them, or all. -/
def anyAll {α : Type} (t : Bool) (f : α → Bool) (l : List α) : Bool := if t then l.any f else l.all f
theorem anyAll_cons {α : Type} {t : Bool} {f : α → Bool} {l : List α} {m : α} : anyAll t f (m :: l) = if f m == t then f m else anyAll t f l := by
  unfold anyAll
  cases t <;> cases hf : f m <;> simp [hf]
theorem anyAll_drop {α : Type} {t : Bool} {f : α → Bool} {l : List α} {i : Nat} {m : α} (h : l[i]? = some m) : anyAll t f (l.drop i) = if f m == t then f m else anyAll t f (l.drop (i + 1)) := by
  obtain ⟨hi, rfl⟩ := List.getElem?_eq_some_iff.1 h
  rw [List.drop_eq_getElem_cons hi, anyAll_cons]
theorem anyAll_nil {α : Type} {t : Bool} {f : α → Bool} : anyAll t f [] = !t := by
  unfold anyAll
  cases t <;> rfl
theorem winsN_succ {α : Type} {nx : α → List α} {wn turn : α → Bool} {d : Nat} {p : α} (h : nx p ≠ []) : winsN nx wn turn (d + 1) p = anyAll (turn p) (winsN nx wn turn d) (nx p) := by
  rw [winsN, if_neg (by simpa using h)]
  rfl
theorem anyAll_map {α β : Type} {t : Bool} {f : β → Bool} {g : α → β} {l : List α} : anyAll t f (l.map g) = anyAll t (fun m => f (g m)) l := by
  unfold anyAll
  cases t <;> simp [List.any_map, List.all_map, Function.comp_def]


set_option maxHeartbeats 2000000 in
set_option maxRecDepth 100000 in
theorem wins_over (v0 v1 v2 v3 v4 v5 v6 v7 v8 v9 v10 v11 v12 : Value) (win o D : Int) (p : Po) (w : World) (hwin : win = 0 ∨ win = 1) (hod : o ≠ 0 ∨ D = 0)
    (hE : ∀ u, Below w.heap.size w u → Calls Tryz.prog 18 #[.agg #[v0, v1, v2, v3, v4, v5, v6, v7, v8, v9, v10, v11, v12], .agg #[.int .i64 p.W, .int .i64 p.H, .string p.C, .int .i64 p.T, .string p.A, .string p.B]] u fun e w' => e = .returned (.int .i64 o) ∧ Below u.heap.size u w') :
    Calls Tryz.prog 8 #[.agg #[v0, v1, v2, v3, v4, v5, v6, v7, v8, v9, v10, v11, v12], .agg #[.int .i64 p.W, .int .i64 p.H, .string p.C, .int .i64 p.T, .string p.A, .string p.B], .int .i64 D, .int .i64 win] w fun e w' => e = .returned (.bool (o == win + 1)) ∧ Below w.heap.size w w' := by
  obtain ⟨w1, hw1⟩ : ∃ w1, w1 = w.alloc (.cells #[v0, v1, v2, v3, v4, v5, v6, v7, v8, v9, v10, v11, v12] 27 (0, 0)) := ⟨_, rfl⟩
  obtain ⟨w2, hw2⟩ : ∃ w2, w2 = w1.alloc (.cells #[.int .i64 p.W, .int .i64 p.H, .string p.C, .int .i64 p.T, .string p.A, .string p.B] 24 (0, 0)) := ⟨_, rfl⟩
  have hb1 : Below w.heap.size w w1 := by rw [hw1]; exact (Below.refl _ _).alloc (Nat.le_refl _) _
  have hb2 : Below w1.heap.size w1 w2 := by rw [hw2]; exact (Below.refl _ _).alloc (Nat.le_refl _) _
  have s1 : w1.heap.size = w.heap.size + 1 := by rw [hw1]; simp
  have s2 : w2.heap.size = w.heap.size + 2 := by rw [hw2]; simp [s1]
  have hrp2 : RP w v0 v1 v2 v3 v4 v5 v6 v7 v8 v9 v10 v11 v12 p.W p.H p.T p.C p.A p.B w2 :=
    ⟨isRu.below (show isRu w1 w.heap.size v0 v1 v2 v3 v4 v5 v6 v7 v8 v9 v10 v11 v12 by rw [hw1]; exact heap_alloc_new w _) hb2 (by omega), by rw [hw2, ← s1]; exact heap_alloc_new w1 _, hb1.trans (hb2.mono (by omega)), by omega⟩
  have HRP := hide hrp2
  have HW1 := hide hw1
  have HW2 := hide hw2
  clear hw1 hw2 hb1 hb2 s1 s2 hrp2
  obtain ⟨q, hq⟩ : ∃ q : Int, win + 1 = q := ⟨_, rfl⟩
  rw [hq]
  have wq : IntKind.i64.wrap q = q := wrapS (by omega) (by omega)
  have HE := hide hE
  have HOD := hide hod
  clear hE hod
  by_cases ho : o = 0
  · have hd0 : D = 0 := by
      rcases unhide HOD with h | h
      · exact absurd ho h
      · exact h
    have hob : (o != 0) = false := by simp [ho]
    have hdb : (D == 0) = true := by simp [hd0]
    clear ho hd0 HOD
    go_enter Tryz.func8, Tryz.ntmps8
    go_wp2_with fail
    rw [← unhide HW1, ← unhide HW2]
    refine (unhide HE _ (unhide HRP).bw).mono ?_
    rintro e w3 ⟨rfl, hb3⟩
    have HRP3 := hide ((unhide HRP).step hb3)
    clear HRP HE HW1 HW2 hb3
    go_wp2
    go_ret
    exact ⟨rfl, (unhide HRP3).bw⟩
  · have hob : (o != 0) = true := by simp [ho]
    clear ho HOD
    go_enter Tryz.func8, Tryz.ntmps8
    go_wp2_with fail
    rw [← unhide HW1, ← unhide HW2]
    refine (unhide HE _ (unhide HRP).bw).mono ?_
    rintro e w3 ⟨rfl, hb3⟩
    have HRP3 := hide ((unhide HRP).step hb3)
    clear HRP HE HW1 HW2 hb3
    go_wp2
    go_ret
    exact ⟨rfl, (unhide HRP3).bw⟩

set_option maxHeartbeats 4000000 in
set_option maxRecDepth 100000 in
theorem wins_more (v0 v1 v2 v3 v4 v5 v6 v7 v8 v9 v10 v11 v12 : Value) (win : Int) (t : Bool) (d : Nat) (p : Po) (L : List Mv) (beh : Mv → Po) (F : Po → Bool) (w : World) (hd : d ≤ 8) (ht : (p.T == win) = t) (hll : L.length ≤ 4608)
    (hE : ∀ u, Below w.heap.size w u → Calls Tryz.prog 18 #[.agg #[v0, v1, v2, v3, v4, v5, v6, v7, v8, v9, v10, v11, v12], .agg #[.int .i64 p.W, .int .i64 p.H, .string p.C, .int .i64 p.T, .string p.A, .string p.B]] u fun e w' => e = .returned (.int .i64 0) ∧ Below u.heap.size u w')
    (hMO : ∀ u, Below w.heap.size w u → Calls Tryz.prog 19 #[.agg #[v0, v1, v2, v3, v4, v5, v6, v7, v8, v9, v10, v11, v12], .agg #[.int .i64 p.W, .int .i64 p.H, .string p.C, .int .i64 p.T, .string p.A, .string p.B]] u fun e w' => ∃ v, e = .returned v ∧ w'.ownsRow u.heap.size 29 3 v L.length (mvals L) ∧ Below u.heap.size u w')
    (hMA : ∀ m ∈ L, ∀ u, Below w.heap.size w u → Calls Tryz.prog 21 #[.agg #[v0, v1, v2, v3, v4, v5, v6, v7, v8, v9, v10, v11, v12], .agg #[.int .i64 p.W, .int .i64 p.H, .string p.C, .int .i64 p.T, .string p.A, .string p.B], .agg #[.int .i64 m.f, .int .i64 (m.t : Int), .int .u8 (m.c : Int)]] u fun e w' => e = .returned (.agg #[.int .i64 (beh m).W, .int .i64 (beh m).H, .string (beh m).C, .int .i64 (beh m).T, .string (beh m).A, .string (beh m).B]) ∧ Below u.heap.size u w')
    (hIH : ∀ m ∈ L, ∀ u, Below w.heap.size w u → Calls Tryz.prog 8 #[.agg #[v0, v1, v2, v3, v4, v5, v6, v7, v8, v9, v10, v11, v12], .agg #[.int .i64 (beh m).W, .int .i64 (beh m).H, .string (beh m).C, .int .i64 (beh m).T, .string (beh m).A, .string (beh m).B], .int .i64 (d : Int), .int .i64 win] u fun e w' => e = .returned (.bool (F (beh m))) ∧ Below u.heap.size u w') :
    Calls Tryz.prog 8 #[.agg #[v0, v1, v2, v3, v4, v5, v6, v7, v8, v9, v10, v11, v12], .agg #[.int .i64 p.W, .int .i64 p.H, .string p.C, .int .i64 p.T, .string p.A, .string p.B], .int .i64 ((d + 1 : Nat) : Int), .int .i64 win] w fun e w' => e = .returned (.bool (anyAll t (fun m => F (beh m)) L)) ∧ Below w.heap.size w w' := by
  obtain ⟨w1, hw1⟩ : ∃ w1, w1 = w.alloc (.cells #[v0, v1, v2, v3, v4, v5, v6, v7, v8, v9, v10, v11, v12] 27 (0, 0)) := ⟨_, rfl⟩
  obtain ⟨w2, hw2⟩ : ∃ w2, w2 = w1.alloc (.cells #[.int .i64 p.W, .int .i64 p.H, .string p.C, .int .i64 p.T, .string p.A, .string p.B] 24 (0, 0)) := ⟨_, rfl⟩
  have hb1 : Below w.heap.size w w1 := by rw [hw1]; exact (Below.refl _ _).alloc (Nat.le_refl _) _
  have hb2 : Below w1.heap.size w1 w2 := by rw [hw2]; exact (Below.refl _ _).alloc (Nat.le_refl _) _
  have s1 : w1.heap.size = w.heap.size + 1 := by rw [hw1]; simp
  have s2 : w2.heap.size = w.heap.size + 2 := by rw [hw2]; simp [s1]
  have hrp2 : RP w v0 v1 v2 v3 v4 v5 v6 v7 v8 v9 v10 v11 v12 p.W p.H p.T p.C p.A p.B w2 :=
    ⟨isRu.below (show isRu w1 w.heap.size v0 v1 v2 v3 v4 v5 v6 v7 v8 v9 v10 v11 v12 by rw [hw1]; exact heap_alloc_new w _) hb2 (by omega), by rw [hw2, ← s1]; exact heap_alloc_new w1 _, hb1.trans (hb2.mono (by omega)), by omega⟩
  have HRP := hide hrp2
  have HW1 := hide hw1
  have HW2 := hide hw2
  clear hw1 hw2 hb1 hb2 s1 s2 hrp2
  obtain ⟨n, hn⟩ : ∃ n, n = L.length := ⟨_, rfl⟩
  rw [← hn] at hMO hll
  obtain ⟨R, hR⟩ : ∃ R, R = anyAll t (fun m => F (beh m)) L := ⟨_, rfl⟩
  rw [← hR]
  have hn9 : n ≤ 9223372036854775807 := by omega
  have hdz : (((d + 1 : Nat) : Int) == 0) = false := by simp; omega
  obtain ⟨D, hD⟩ : ∃ D : Nat, D = d + 1 := ⟨_, rfl⟩
  rw [← hD] at hdz ⊢
  have hD1 : (D : Int) - 1 = (d : Int) := by omega
  have wD : IntKind.i64.wrap (d : Int) = (d : Int) := wrapS (by omega) (by omega)
  have htn : (p.T != win) = !t := by rw [bne, ht]
  have HN := hide hn
  have HR := hide hR
  have HIH := hide hIH
  have HMA := hide hMA
  have HMO := hide hMO
  have HE := hide hE
  clear hIH hMA hMO hn hR hD hE
  go_enter Tryz.func8, Tryz.ntmps8
  go_wp2_with fail
  rw [← unhide HW1, ← unhide HW2]
  refine (unhide HE _ (unhide HRP).bw).mono ?_
  rintro e w3 ⟨rfl, hb3⟩
  have HRP3 := hide ((unhide HRP).step hb3)
  clear HRP HE HW1 HW2 hb3
  obtain ⟨r0, r1, r2, r3, r4, r5, r6, r7, r8, r9, r10, r11, r12⟩ := (unhide HRP3).ru.cells
  obtain ⟨p0, p1, p2, p3, p4, p5⟩ := (unhide HRP3).pb.all
  go_wp2_with fail
  refine (unhide HMO _ (unhide HRP3).bw).mono ?_
  rintro e wc ⟨v, rfl, hown, hbc⟩
  obtain ⟨lo1, lc1, rfl⟩ := row_len hown
  have hl4 : isMvs wc (.slice lo1 n lc1) L := isMvs.of (by rw [← unhide HN]; exact hown)
  have HLD := hide hl4
  have HRPC := hide ((unhide HRP3).step hbc)
  clear HRP3 hbc HMO hown hl4 r0 r1 r2 r3 r4 r5 r6 r7 r8 r9 r10 r11 r12 p0 p1 p2 p3 p4 p5
  go_wp2_with fail
  go_loopw [11] (fun iv wr => ∃ i : Nat, iv = .int .i64 (i : Int) ∧ i ≤ n ∧ Hid (anyAll t (fun m => F (beh m)) (L.drop i) = R) ∧ Hid (Below wc.heap.size wc wr)) (fun iv _ => n - (intOf iv).toNat)
  case atStart => exact ⟨0, rfl, Nat.zero_le _, hide (unhide HR).symm, hide (Below.refl _ _)⟩
  case round =>
    obtain ⟨i, rfl, hi, HAC, HB⟩ := hrel
    have hrpr := (unhide HRPC).step (unhide HB)
    by_cases hlt : i < n
    · have hlti : (i : Int) < (n : Int) := by omega
      have hi0 : (0 : Int) ≤ (i : Int) := by omega
      have hil : i < L.length := by rw [← unhide HN]; exact hlt
      obtain ⟨m, hm⟩ : ∃ m, m = L[i] := ⟨_, rfl⟩
      have hmi : L[i]? = some m := by rw [hm]; exact List.getElem?_eq_getElem hil
      have hmem := List.mem_of_getElem? hmi
      have hacc := unhide HAC
      rw [anyAll_drop hmi] at hacc
      have HM1 := hide (unhide HMA m hmem)
      have HP1 := hide (unhide HIH m hmem)
      obtain ⟨Q, hQ⟩ : ∃ Q, Q = beh m := ⟨_, rfl⟩
      rw [← hQ] at HM1 HP1 hacc
      obtain ⟨x, hx⟩ : ∃ x, x = F Q := ⟨_, rfl⟩
      rw [← hx] at HP1 hacc
      obtain ⟨ao, cap, e1, hle, hmx, hcs⟩ := (unhide HLD).below (unhide HB)
      obtain ⟨g, off, eg, hgk, c0, c1, c2⟩ := hcs i m hmi
      simp only [Value.slice.injEq] at e1
      obtain ⟨e1, e2, e3⟩ := e1
      subst eg
      subst e1
      subst e3
      unfold maxLen at hmx
      rw [← unhide HN] at hle
      have hszr := hrpr.sz
      have hbwr := hrpr.bw
      have hHS : ∀ u, Below wr.heap.size wr u → (u.cell? ⟨w.heap.size, 0, none⟩ = some v0 ∧ u.cell? ⟨w.heap.size, 1, none⟩ = some v1 ∧ u.cell? ⟨w.heap.size, 2, none⟩ = some v2 ∧ u.cell? ⟨w.heap.size, 3, none⟩ = some v3 ∧ u.cell? ⟨w.heap.size, 4, none⟩ = some v4 ∧ u.cell? ⟨w.heap.size, 5, none⟩ = some v5 ∧ u.cell? ⟨w.heap.size, 6, none⟩ = some v6 ∧ u.cell? ⟨w.heap.size, 7, none⟩ = some v7 ∧ u.cell? ⟨w.heap.size, 8, none⟩ = some v8 ∧ u.cell? ⟨w.heap.size, 9, none⟩ = some v9 ∧ u.cell? ⟨w.heap.size, 10, none⟩ = some v10 ∧ u.cell? ⟨w.heap.size, 11, none⟩ = some v11 ∧ u.cell? ⟨w.heap.size, 12, none⟩ = some v12 ∧ u.cell? ⟨w.heap.size + 1, 0, none⟩ = some (.int .i64 p.W) ∧ u.cell? ⟨w.heap.size + 1, 1, none⟩ = some (.int .i64 p.H) ∧ u.cell? ⟨w.heap.size + 1, 2, none⟩ = some (.string p.C) ∧ u.cell? ⟨w.heap.size + 1, 3, none⟩ = some (.int .i64 p.T) ∧ u.cell? ⟨w.heap.size + 1, 4, none⟩ = some (.string p.A) ∧ u.cell? ⟨w.heap.size + 1, 5, none⟩ = some (.string p.B) ∧ u.cell? ⟨g, off + i * 3, none⟩ = some (.int .i64 m.f) ∧ u.cell? ⟨g, off + i * 3 + 1, none⟩ = some (.int .i64 (m.t : Int)) ∧ u.cell? ⟨g, off + i * 3 + 2, none⟩ = some (.int .u8 (m.c : Int)) ∧ Below wr.heap.size wr u) := fun u hu => by
        obtain ⟨x0, x1, x2, x3, x4, x5, x6, x7, x8, x9, x10, x11, x12⟩ := (hrpr.ru.below hu (by omega)).cells
        obtain ⟨y0, y1, y2, y3, y4, y5⟩ := (hrpr.pb.below hu (by omega)).all
        exact ⟨x0, x1, x2, x3, x4, x5, x6, x7, x8, x9, x10, x11, x12, y0, y1, y2, y3, y4, y5, (hu.cell (p := ⟨g, off + i * 3, none⟩) hgk).trans c0, (hu.cell (p := ⟨g, off + i * 3 + 1, none⟩) hgk).trans c1, (hu.cell (p := ⟨g, off + i * 3 + 2, none⟩) hgk).trans c2, hu⟩
      have HS := hide hHS
      have HRPY := hide (fun u (hu : Below wr.heap.size wr u) => hrpr.step hu)
      have HBW := hide (fun u (hu : Below wr.heap.size wr u) => hbwr.trans (hu.mono hbwr.size))
      have HB0 : Hid (Below wr.heap.size wr wr.drew) := hide (Below.refl _ _).drew
      have HACC := hide hacc
      clear hHS hm hmi hmem hacc hQ hx hcs e2 hrpr hil c0 c1 c2 hbwr HAC
      go_upto_region 8 with fail
      go_region_held3 (fun u => u.cell? ⟨w.heap.size, 0, none⟩ = some v0 ∧ u.cell? ⟨w.heap.size, 1, none⟩ = some v1 ∧ u.cell? ⟨w.heap.size, 2, none⟩ = some v2 ∧ u.cell? ⟨w.heap.size, 3, none⟩ = some v3 ∧ u.cell? ⟨w.heap.size, 4, none⟩ = some v4 ∧ u.cell? ⟨w.heap.size, 5, none⟩ = some v5 ∧ u.cell? ⟨w.heap.size, 6, none⟩ = some v6 ∧ u.cell? ⟨w.heap.size, 7, none⟩ = some v7 ∧ u.cell? ⟨w.heap.size, 8, none⟩ = some v8 ∧ u.cell? ⟨w.heap.size, 9, none⟩ = some v9 ∧ u.cell? ⟨w.heap.size, 10, none⟩ = some v10 ∧ u.cell? ⟨w.heap.size, 11, none⟩ = some v11 ∧ u.cell? ⟨w.heap.size, 12, none⟩ = some v12 ∧ u.cell? ⟨w.heap.size + 1, 0, none⟩ = some (.int .i64 p.W) ∧ u.cell? ⟨w.heap.size + 1, 1, none⟩ = some (.int .i64 p.H) ∧ u.cell? ⟨w.heap.size + 1, 2, none⟩ = some (.string p.C) ∧ u.cell? ⟨w.heap.size + 1, 3, none⟩ = some (.int .i64 p.T) ∧ u.cell? ⟨w.heap.size + 1, 4, none⟩ = some (.string p.A) ∧ u.cell? ⟨w.heap.size + 1, 5, none⟩ = some (.string p.B) ∧ u.cell? ⟨g, off + i * 3, none⟩ = some (.int .i64 m.f) ∧ u.cell? ⟨g, off + i * 3 + 1, none⟩ = some (.int .i64 (m.t : Int)) ∧ u.cell? ⟨g, off + i * 3 + 2, none⟩ = some (.int .u8 (m.c : Int)) ∧ Below wr.heap.size wr u)
        (first
          | with_reducible exact unhide HS _ (unhide HB0)
          | with_reducible exact unhide HS _ (unhide HX)
          | with_reducible exact unhide HS _ (unhide HY))
        (first
          | (go_at_call 21; (with_reducible refine (unhide HM1 _ (unhide HBW _ (unhide HB0))).mono ?_); rintro e wx ⟨rfl, hbx⟩
             have HX : Hid (Below wr.heap.size wr wx) := hide ((unhide HB0).trans (hbx.mono (unhide HB0).size))
             clear hbx)
          | (go_at_call 8; (with_reducible refine (unhide HP1 _ (unhide HBW _ (unhide HX))).mono ?_); rintro e wy ⟨rfl, hby⟩
             have HY : Hid (Below wr.heap.size wr wy) := hide ((unhide HX).trans (hby.mono (unhide HX).size))
             clear hby))
      all_goals
        have HRY := hide (unhide HRPY _ (unhide HY))
        obtain ⟨p0, p1, p2, p3, p4, p5⟩ := (unhide HRY).pb.all
        by_cases hxt : x = t
        · have HRX : Hid (R = x) := hide (by have := unhide HACC; simpa [hxt] using this.symm)
          cases x <;> cases t <;> first
            | (exact absurd hxt (by decide))
            | (clear hxt
               go_wp2
               go_ret
               exact ⟨by rw [unhide HRX]; rfl, (unhide HRY).bw⟩)
        · have HRX : Hid (anyAll t (fun m => F (beh m)) (L.drop (i + 1)) = R) := hide (by have := unhide HACC; simpa [hxt] using this)
          cases x <;> cases t <;> first
            | (exact absurd rfl hxt)
            | (clear hxt
               go_wp2
               go_roundw
               case rel => exact ⟨i + 1, by go_num, by omega, HRX, hide ((unhide HB).trans ((unhide HY).mono (unhide HB).size))⟩
               case measure => simp only [intOf]; omega)
    · have hlti : ¬ (i : Int) < (n : Int) := by omega
      have hRk : R = !t := by
        have := unhide HAC
        rw [List.drop_eq_nil_of_le (by rw [← unhide HN]; omega), anyAll_nil] at this
        exact this.symm
      have HRK := hide hRk
      have HBF := hide hrpr.bw
      obtain ⟨p0, p1, p2, p3, p4, p5⟩ := hrpr.pb.all
      clear hRk hrpr
      go_wp2
      go_ret
      exact ⟨by rw [unhide HRK]; first | rfl | simp [htn], unhide HBF⟩

/-- gameref.Wins, at every number of moves. -/
theorem wins_walk (ok : Po → Prop) (L : Po → List Mv) (beh : Po → Mv → Po) (o : Po → Int) (v0 v1 v2 v3 v4 v5 v6 v7 v8 v9 v10 v11 v12 : Value) (win : Int) (w00 : World) (hwin : win = 0 ∨ win = 1) (hlen : ∀ p, ok p → (L p).length ≤ 4608)
    (hOL : ∀ p, ok p → (o p = 0 ↔ L p ≠ []))
    (hO : ∀ p, ok p → ∀ u, Below w00.heap.size w00 u → Calls Tryz.prog 18 #[.agg #[v0, v1, v2, v3, v4, v5, v6, v7, v8, v9, v10, v11, v12], .agg #[.int .i64 p.W, .int .i64 p.H, .string p.C, .int .i64 p.T, .string p.A, .string p.B]] u fun e w' => e = .returned (.int .i64 (o p)) ∧ Below u.heap.size u w')
    (hL : ∀ p, ok p → ∀ u, Below w00.heap.size w00 u → Calls Tryz.prog 19 #[.agg #[v0, v1, v2, v3, v4, v5, v6, v7, v8, v9, v10, v11, v12], .agg #[.int .i64 p.W, .int .i64 p.H, .string p.C, .int .i64 p.T, .string p.A, .string p.B]] u fun e w' => ∃ v, e = .returned v ∧ w'.ownsRow u.heap.size 29 3 v (L p).length (mvals (L p)) ∧ Below u.heap.size u w')
    (hB : ∀ p, ok p → ∀ m ∈ L p, ok (beh p m) ∧ ∀ u, Below w00.heap.size w00 u → Calls Tryz.prog 21 #[.agg #[v0, v1, v2, v3, v4, v5, v6, v7, v8, v9, v10, v11, v12], .agg #[.int .i64 p.W, .int .i64 p.H, .string p.C, .int .i64 p.T, .string p.A, .string p.B], .agg #[.int .i64 m.f, .int .i64 (m.t : Int), .int .u8 (m.c : Int)]] u fun e w' => e = .returned (.agg #[.int .i64 (beh p m).W, .int .i64 (beh p m).H, .string (beh p m).C, .int .i64 (beh p m).T, .string (beh p m).A, .string (beh p m).B]) ∧ Below u.heap.size u w') :
    ∀ (d : Nat), d ≤ 9 → ∀ p, ok p → ∀ w, Below w00.heap.size w00 w → Calls Tryz.prog 8 #[.agg #[v0, v1, v2, v3, v4, v5, v6, v7, v8, v9, v10, v11, v12], .agg #[.int .i64 p.W, .int .i64 p.H, .string p.C, .int .i64 p.T, .string p.A, .string p.B], .int .i64 (d : Int), .int .i64 win] w fun e w' => e = .returned (.bool (winsN (fun q => (L q).map (beh q)) (fun q => o q == win + 1) (fun q => q.T == win) d p)) ∧ Below w.heap.size w w' := by
  intro d
  induction d with
  | zero =>
    intro _ p hp w hw
    exact wins_over v0 v1 v2 v3 v4 v5 v6 v7 v8 v9 v10 v11 v12 win (o p) 0 p w hwin (Or.inr rfl) (fun u hu => hO p hp u (hw.trans (hu.mono hw.size)))
  | succ d ih =>
    intro hd p hp w hw
    have hup : ∀ u, Below w.heap.size w u → Below w00.heap.size w00 u := fun u hu => hw.trans (hu.mono hw.size)
    by_cases ho : o p = 0
    · rw [winsN_succ (by simpa using (hOL p hp).1 ho), anyAll_map]
      refine wins_more v0 v1 v2 v3 v4 v5 v6 v7 v8 v9 v10 v11 v12 win _ d p (L p) (beh p) _ w (by omega) rfl (hlen p hp) ?_ (fun u hu => hL p hp u (hup u hu)) (fun m hm u hu => (hB p hp m hm).2 u (hup u hu)) (fun m hm u hu => ih (by omega) (beh p m) (hB p hp m hm).1 u (hup u hu))
      intro u hu
      have := hO p hp u (hup u hu)
      rw [ho] at this
      exact this
    · have hnil : L p = [] := Classical.byContradiction fun h => ho ((hOL p hp).2 h)
      have e : winsN (fun q => (L q).map (beh q)) (fun q => o q == win + 1) (fun q => q.T == win) (d + 1) p = (o p == win + 1) := by
        rw [winsN]
        simp [hnil]
      rw [e]
      exact wins_over v0 v1 v2 v3 v4 v5 v6 v7 v8 v9 v10 v11 v12 win (o p) _ p w hwin (Or.inl ho) (fun u hu => hO p hp u (hup u hu))
end Go.Proofs.YtlogengkhlmcbaaGreatDoor

namespace Go.Proofs.YtlogengkhlmcbaaGreatDoor
open Go.RowKit
attribute [local go_sem ↓] Go.wp_at_zero Go.wp_at_succ

/-- What check answers. -/
def pchE (E d : Int) : Int := if E ≠ 0 then E else if 0 ≤ d ∧ d ≤ 9 then 0 else 4
set_option maxHeartbeats 2000000 in
set_option maxRecDepth 100000 in
theorem pcheck_any (v0 v1 v2 v3 v4 v5 v6 v7 v8 v9 v10 v11 v12 : Value) (p : Po) (d E : Int) (w : World)
    (hck : ∀ u, Below w.heap.size w u → Calls Tryz.prog 22 #[.agg #[v0, v1, v2, v3, v4, v5, v6, v7, v8, v9, v10, v11, v12], .agg #[.int .i64 p.W, .int .i64 p.H, .string p.C, .int .i64 p.T, .string p.A, .string p.B]] u fun e w' => e = .returned (.int .i64 E) ∧ Below u.heap.size u w') :
    Calls Tryz.prog 9 #[.agg #[v0, v1, v2, v3, v4, v5, v6, v7, v8, v9, v10, v11, v12], .agg #[.int .i64 p.W, .int .i64 p.H, .string p.C, .int .i64 p.T, .string p.A, .string p.B], .int .i64 d] w fun e w' => e = .returned (.int .i64 (pchE E d)) ∧ Below w.heap.size w w' := by
  obtain ⟨w1, hw1⟩ : ∃ w1, w1 = w.alloc (.cells #[v0, v1, v2, v3, v4, v5, v6, v7, v8, v9, v10, v11, v12] 27 (0, 0)) := ⟨_, rfl⟩
  obtain ⟨w2, hw2⟩ : ∃ w2, w2 = w1.alloc (.cells #[.int .i64 p.W, .int .i64 p.H, .string p.C, .int .i64 p.T, .string p.A, .string p.B] 24 (0, 0)) := ⟨_, rfl⟩
  have hb1 : Below w.heap.size w w1 := by rw [hw1]; exact (Below.refl _ _).alloc (Nat.le_refl _) _
  have hb2 : Below w1.heap.size w1 w2 := by rw [hw2]; exact (Below.refl _ _).alloc (Nat.le_refl _) _
  have s1 : w1.heap.size = w.heap.size + 1 := by rw [hw1]; simp
  have s2 : w2.heap.size = w.heap.size + 2 := by rw [hw2]; simp [s1]
  have hrp2 : RP w v0 v1 v2 v3 v4 v5 v6 v7 v8 v9 v10 v11 v12 p.W p.H p.T p.C p.A p.B w2 :=
    ⟨isRu.below (show isRu w1 w.heap.size v0 v1 v2 v3 v4 v5 v6 v7 v8 v9 v10 v11 v12 by rw [hw1]; exact heap_alloc_new w _) hb2 (by omega), by rw [hw2, ← s1]; exact heap_alloc_new w1 _, hb1.trans (hb2.mono (by omega)), by omega⟩
  have HRP := hide hrp2
  have HW1 := hide hw1
  have HW2 := hide hw2
  have HE := hide hck
  unfold pchE
  clear hw1 hw2 hb1 hb2 s1 s2 hrp2 hck
  by_cases he : E = 0
  · have heb : (E != 0) = false := by simp [he]
    rw [if_neg (by simp [he])]
    clear he
    by_cases h0 : d < 0
    · rw [if_neg (by omega)]
      go_enter Tryz.func9, Tryz.ntmps9
      go_wp2_with fail
      rw [← unhide HW1, ← unhide HW2]
      refine (unhide HE _ (unhide HRP).bw).mono ?_
      rintro e w3 ⟨rfl, hb3⟩
      have HB3 := hide ((unhide HRP).step hb3).bw
      clear HRP HE HW1 HW2 hb3
      go_wp2
      go_ret
      exact ⟨rfl, unhide HB3⟩
    · by_cases h9 : 9 < d
      · rw [if_neg (by omega)]
        go_enter Tryz.func9, Tryz.ntmps9
        go_wp2_with fail
        rw [← unhide HW1, ← unhide HW2]
        refine (unhide HE _ (unhide HRP).bw).mono ?_
        rintro e w3 ⟨rfl, hb3⟩
        have HB3 := hide ((unhide HRP).step hb3).bw
        clear HRP HE HW1 HW2 hb3
        go_wp2
        go_ret
        exact ⟨rfl, unhide HB3⟩
      · rw [if_pos (by omega)]
        go_enter Tryz.func9, Tryz.ntmps9
        go_wp2_with fail
        rw [← unhide HW1, ← unhide HW2]
        refine (unhide HE _ (unhide HRP).bw).mono ?_
        rintro e w3 ⟨rfl, hb3⟩
        have HB3 := hide ((unhide HRP).step hb3).bw
        clear HRP HE HW1 HW2 hb3
        go_wp2
        go_ret
        exact ⟨rfl, unhide HB3⟩
  · have heb : (E != 0) = true := by simp [he]
    rw [if_pos he]
    clear he
    go_enter Tryz.func9, Tryz.ntmps9
    go_wp2_with fail
    rw [← unhide HW1, ← unhide HW2]
    refine (unhide HE _ (unhide HRP).bw).mono ?_
    rintro e w3 ⟨rfl, hb3⟩
    have HB3 := hide ((unhide HRP).step hb3).bw
    clear HRP HE HW1 HW2 hb3
    go_wp2
    go_ret
    exact ⟨rfl, unhide HB3⟩

set_option maxHeartbeats 2000000 in
set_option maxRecDepth 100000 in
theorem pCheck_any (v0 v1 v2 v3 v4 v5 v6 v7 v8 v9 v10 v11 v12 : Value) (p : Po) (d E : Int) (s : Bool) (f t : Int) (c : Nat) (kv : Value) (R : Bool) (w : World)
    (hck : ∀ u, Below w.heap.size w u → Calls Tryz.prog 9 #[.agg #[v0, v1, v2, v3, v4, v5, v6, v7, v8, v9, v10, v11, v12], .agg #[.int .i64 p.W, .int .i64 p.H, .string p.C, .int .i64 p.T, .string p.A, .string p.B], .int .i64 d] u fun e w' => e = .returned (.int .i64 E) ∧ Below u.heap.size u w')
    (hsh : E = 0 → ∀ u, Below w.heap.size w u → Calls Tryz.prog 14 #[.agg #[v0, v1, v2, v3, v4, v5, v6, v7, v8, v9, v10, v11, v12, .int .i64 p.T], .agg #[.bool s, .int .i64 f, .int .i64 t, .int .u8 (c : Int), kv], .agg #[.int .i64 p.W, .int .i64 p.H, .string p.C, .int .i64 p.T, .string p.A, .string p.B], .int .i64 d] u fun e w' => e = .returned (.bool R) ∧ Below u.heap.size u w') :
    Calls Tryz.prog 5 #[.agg #[v0, v1, v2, v3, v4, v5, v6, v7, v8, v9, v10, v11, v12], .agg #[.int .i64 p.W, .int .i64 p.H, .string p.C, .int .i64 p.T, .string p.A, .string p.B], .int .i64 d, .agg #[.bool s, .int .i64 f, .int .i64 t, .int .u8 (c : Int), kv]] w fun e w' => e = .returned (.tuple #[.bool (decide (E = 0) && R), .int .i64 E]) ∧ Below w.heap.size w w' := by
  obtain ⟨w1, hw1⟩ : ∃ w1, w1 = w.alloc (.cells #[v0, v1, v2, v3, v4, v5, v6, v7, v8, v9, v10, v11, v12] 27 (0, 0)) := ⟨_, rfl⟩
  obtain ⟨w2, hw2⟩ : ∃ w2, w2 = w1.alloc (.cells #[.int .i64 p.W, .int .i64 p.H, .string p.C, .int .i64 p.T, .string p.A, .string p.B] 24 (0, 0)) := ⟨_, rfl⟩
  have hb1 : Below w.heap.size w w1 := by rw [hw1]; exact (Below.refl _ _).alloc (Nat.le_refl _) _
  have hb2 : Below w1.heap.size w1 w2 := by rw [hw2]; exact (Below.refl _ _).alloc (Nat.le_refl _) _
  have s1 : w1.heap.size = w.heap.size + 1 := by rw [hw1]; simp
  have s2 : w2.heap.size = w.heap.size + 2 := by rw [hw2]; simp [s1]
  have hrp2 : RP w v0 v1 v2 v3 v4 v5 v6 v7 v8 v9 v10 v11 v12 p.W p.H p.T p.C p.A p.B w2 :=
    ⟨isRu.below (show isRu w1 w.heap.size v0 v1 v2 v3 v4 v5 v6 v7 v8 v9 v10 v11 v12 by rw [hw1]; exact heap_alloc_new w _) hb2 (by omega), by rw [hw2, ← s1]; exact heap_alloc_new w1 _, hb1.trans (hb2.mono (by omega)), by omega⟩
  obtain ⟨w3, hw3⟩ : ∃ w3, w3 = w2.alloc (.cells #[.bool s, .int .i64 f, .int .i64 t, .int .u8 (c : Int), kv] 32 (0, 0)) := ⟨_, rfl⟩
  have hb3 : Below w2.heap.size w2 w3 := by rw [hw3]; exact (Below.refl _ _).alloc (Nat.le_refl _) _
  have hcb : isCb w3 (w.heap.size + 2) s f t c kv := by rw [hw3, ← s2]; exact heap_alloc_new w2 _
  have HRP := hide (hrp2.step hb3)
  have HCB := hide hcb
  have HW1 := hide hw1
  have HW2 := hide hw2
  have HW3 := hide hw3
  have HE := hide hck
  have HSH := hide hsh
  clear hw1 hw2 hw3 hb1 hb2 hb3 s1 s2 hrp2 hcb hck hsh
  by_cases he : E = 0
  · have heb : (E != 0) = false := by simp [he]
    have HSH2 := hide (unhide HSH he)
    rw [decide_eq_true he, Bool.true_and]
    subst he
    clear HSH
    go_enter Tryz.func5, Tryz.ntmps5
    go_wp2_with fail
    rw [← unhide HW1, ← unhide HW2, ← unhide HW3]
    refine (unhide HE _ (unhide HRP).bw).mono ?_
    rintro e w4 ⟨rfl, hb4⟩
    have HRP4 := hide ((unhide HRP).step hb4)
    have HCB4 := hide ((unhide HCB).below hb4 (unhide HCB).lt)
    clear HRP HE HW1 HW2 HW3 HCB hb4
    obtain ⟨r0, r1, r2, r3, r4, r5, r6, r7, r8, r9, r10, r11, r12⟩ := (unhide HRP4).ru.cells
    obtain ⟨p0, p1, p2, p3, p4, p5⟩ := (unhide HRP4).pb.all
    obtain ⟨c0, c1, c2, c3, c4⟩ := (unhide HCB4).all
    go_wp2_with fail
    refine (unhide HSH2 _ (unhide HRP4).bw).mono ?_
    rintro e w5 ⟨rfl, hb5⟩
    have HB5 := hide ((unhide HRP4).step hb5).bw
    clear hb5 r0 r1 r2 r3 r4 r5 r6 r7 r8 r9 r10 r11 r12 p0 p1 p2 p3 p4 p5 c0 c1 c2 c3 c4
    go_wp2
    refine bodyPost_ret (v := .tuple #[.bool R, .int .i64 0]) (by simp [results, Tryz.results5, go_sem]) rfl ⟨rfl, unhide HB5⟩
  · have heb : (E != 0) = true := by simp [he]
    rw [decide_eq_false he, Bool.false_and]
    clear he HSH
    go_enter Tryz.func5, Tryz.ntmps5
    go_wp2_with fail
    rw [← unhide HW1, ← unhide HW2, ← unhide HW3]
    refine (unhide HE _ (unhide HRP).bw).mono ?_
    rintro e w4 ⟨rfl, hb4⟩
    have HRP4 := hide ((unhide HRP).step hb4)
    have HCB4 := hide ((unhide HCB).below hb4 (unhide HCB).lt)
    clear HRP HE HW1 HW2 HW3 HCB hb4
    obtain ⟨r0, r1, r2, r3, r4, r5, r6, r7, r8, r9, r10, r11, r12⟩ := (unhide HRP4).ru.cells
    obtain ⟨p0, p1, p2, p3, p4, p5⟩ := (unhide HRP4).pb.all
    obtain ⟨c0, c1, c2, c3, c4⟩ := (unhide HCB4).all
    have HB5 := hide (unhide HRP4).bw
    go_wp2
    refine bodyPost_ret (v := .tuple #[.bool false, .int .i64 E]) (by simp [results, Tryz.results5, go_sem]) rfl ⟨rfl, unhide HB5⟩
end Go.Proofs.YtlogengkhlmcbaaGreatDoor
