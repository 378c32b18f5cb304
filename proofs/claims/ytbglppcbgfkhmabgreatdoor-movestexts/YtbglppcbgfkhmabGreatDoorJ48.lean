/-
  gameref.Paths, over what is known of gameref.Moves and gameref.Made.
  MovesTexts, walked, over what is known of the functions that it calls.
  Ways counted with an end to the counting; the first and the last move with a text.
-/
import Derived.Test.YtbglppcbgfkhmabGreatDoorD4
import Derived.Test.YtbglppcbgfkhmabGreatDoorJ21
import Derived.Test.YtbglppcbgfkhmabGreatDoorJ34
import Derived.Deep.CutRange
import Derived.Test.YtbglppcbgfkhmabGreatDoorC6
namespace Go.Proofs.YtbglppcbgfkhmabGreatDoor
open Go.RowKit
attribute [local go_sem ↓] Go.wp_at_zero Go.wp_at_succ

/-- A sum that is given up where it is above 100000. -/
def accN {α : Type} (f : α → Nat) : Nat → List α → Nat
  | n, [] => n
  | n, q :: t => if n ≤ 100000 then accN f (n + f q) t else n
/-- How many ways there are; above 100000: some number above 100000. -/
def pathsN {α : Type} (next : α → List α) : Nat → α → Nat
  | 0, _ => 1
  | d + 1, p => accN (pathsN next d) 0 (next p)
theorem accN_le {α : Type} {f : α → Nat} {B : Nat} (hf : ∀ a, f a ≤ B) : ∀ (l : List α) (n : Nat), n ≤ 100000 + B → accN f n l ≤ 100000 + B
  | [], n, h => h
  | q :: t, n, h => by
    rw [accN]
    split
    · exact accN_le hf t _ (by have := hf q; omega)
    · exact h
theorem pathsN_le {α : Type} (next : α → List α) : ∀ (d : Nat) (p : α), pathsN next d p ≤ 100000 * d + 1
  | 0, _ => Nat.le_refl _
  | d + 1, p => by
    have := accN_le (pathsN_le next d) (next p) 0 (by omega)
    rw [pathsN]
    omega
theorem accN_drop {α β : Type} {f : β → Nat} {g : α → β} {l : List α} {i n : Nat} {m : α} (h : l[i]? = some m) (hn : n ≤ 100000) : accN f n ((l.drop i).map g) = accN f (n + f (g m)) ((l.drop (i + 1)).map g) := by
  obtain ⟨hi, rfl⟩ := List.getElem?_eq_some_iff.1 h
  rw [List.drop_eq_getElem_cons hi, List.map_cons, accN, if_pos hn]
theorem accN_stop {α : Type} {f : α → Nat} {l : List α} {n : Nat} (h : ¬ n ≤ 100000) : accN f n l = n := by
  cases l with
  | nil => rfl
  | cons a t => rw [accN, if_neg h]

set_option maxHeartbeats 4000000 in
set_option maxRecDepth 100000 in
theorem paths_walk (ok : Po → Prop) (L : Po → List Mv) (beh : Po → Mv → Po) (v0 v1 v2 v3 v4 v5 v6 v7 v8 v9 v10 v11 v12 : Value) (w00 : World) (hlen : ∀ p, ok p → (L p).length ≤ 4608)
    (hL : ∀ p, ok p → ∀ u, Below w00.heap.size w00 u → Calls Tryz.prog 11 #[.agg #[v0, v1, v2, v3, v4, v5, v6, v7, v8, v9, v10, v11, v12], .agg #[.int .i64 p.W, .int .i64 p.H, .string p.C, .int .i64 p.T, .string p.A, .string p.B]] u fun e w' => ∃ v, e = .returned v ∧ w'.ownsRow u.heap.size 29 3 v (L p).length (mvals (L p)) ∧ Below u.heap.size u w')
    (hB : ∀ p, ok p → ∀ m ∈ L p, ok (beh p m) ∧ ∀ u, Below w00.heap.size w00 u → Calls Tryz.prog 15 #[.agg #[v0, v1, v2, v3, v4, v5, v6, v7, v8, v9, v10, v11, v12], .agg #[.int .i64 p.W, .int .i64 p.H, .string p.C, .int .i64 p.T, .string p.A, .string p.B], .agg #[.int .i64 m.f, .int .i64 (m.t : Int), .int .u8 (m.c : Int)]] u fun e w' => e = .returned (.agg #[.int .i64 (beh p m).W, .int .i64 (beh p m).H, .string (beh p m).C, .int .i64 (beh p m).T, .string (beh p m).A, .string (beh p m).B]) ∧ Below u.heap.size u w') :
    ∀ (d : Nat), d ≤ 6 → ∀ p, ok p → ∀ w, Below w00.heap.size w00 w → Calls Tryz.prog 20 #[.agg #[v0, v1, v2, v3, v4, v5, v6, v7, v8, v9, v10, v11, v12], .agg #[.int .i64 p.W, .int .i64 p.H, .string p.C, .int .i64 p.T, .string p.A, .string p.B], .int .i64 (d : Int)] w fun e w' => e = .returned (.int .i64 (pathsN (fun q => (L q).map (beh q)) d p : Nat)) ∧ Below w.heap.size w w' := by
  intro d
  induction d with
  | zero =>
    intro _ p _ w hw
    obtain ⟨w1, hw1⟩ : ∃ w1, w1 = w.alloc (.cells #[v0, v1, v2, v3, v4, v5, v6, v7, v8, v9, v10, v11, v12] 27 (0, 0)) := ⟨_, rfl⟩
    obtain ⟨w2, hw2⟩ : ∃ w2, w2 = w1.alloc (.cells #[.int .i64 p.W, .int .i64 p.H, .string p.C, .int .i64 p.T, .string p.A, .string p.B] 24 (0, 0)) := ⟨_, rfl⟩
    have hb1 : Below w.heap.size w w1 := by rw [hw1]; exact (Below.refl _ _).alloc (Nat.le_refl _) _
    have hb2 : Below w1.heap.size w1 w2 := by rw [hw2]; exact (Below.refl _ _).alloc (Nat.le_refl _) _
    have HB2 := hide (hb1.trans (hb2.mono hb1.size))
    have HW1 := hide hw1
    have HW2 := hide hw2
    clear hw1 hw2 hb1 hb2 hL hB hlen hw
    go_enter Tryz.func20, Tryz.ntmps20
    go_wp2
    rw [← unhide HW1, ← unhide HW2]
    go_ret
    exact ⟨rfl, unhide HB2⟩
  | succ d ih =>
    intro hd p hp w hw
    obtain ⟨w1, hw1⟩ : ∃ w1, w1 = w.alloc (.cells #[v0, v1, v2, v3, v4, v5, v6, v7, v8, v9, v10, v11, v12] 27 (0, 0)) := ⟨_, rfl⟩
    obtain ⟨w2, hw2⟩ : ∃ w2, w2 = w1.alloc (.cells #[.int .i64 p.W, .int .i64 p.H, .string p.C, .int .i64 p.T, .string p.A, .string p.B] 24 (0, 0)) := ⟨_, rfl⟩
    have hb1 : Below w.heap.size w w1 := by rw [hw1]; exact (Below.refl _ _).alloc (Nat.le_refl _) _
    have hb2 : Below w1.heap.size w1 w2 := by rw [hw2]; exact (Below.refl _ _).alloc (Nat.le_refl _) _
    have s1 : w1.heap.size = w.heap.size + 1 := by rw [hw1]; simp
    have s2 : w2.heap.size = w.heap.size + 2 := by rw [hw2]; simp [s1]
    have hmf2 : MF w v0 v1 v2 v3 v4 v5 v6 v7 v8 v9 v10 v11 v12 p.W p.H p.T p.C p.A p.B w2 :=
      ⟨isRu.below (show isRu w1 w.heap.size v0 v1 v2 v3 v4 v5 v6 v7 v8 v9 v10 v11 v12 by rw [hw1]; exact heap_alloc_new w _) hb2 (by omega), by rw [hw2, ← s1]; exact heap_alloc_new w1 _, hb1.trans (hb2.mono (by omega)), by omega⟩
    have hup : ∀ u, Below w.heap.size w u → Below w00.heap.size w00 u := fun u hu => hw.trans (hu.mono hw.size)
    have hBp := hB p hp
    have hIH : ∀ m ∈ L p, ∀ u, Below w.heap.size w u → Calls Tryz.prog 20 #[.agg #[v0, v1, v2, v3, v4, v5, v6, v7, v8, v9, v10, v11, v12], .agg #[.int .i64 (beh p m).W, .int .i64 (beh p m).H, .string (beh p m).C, .int .i64 (beh p m).T, .string (beh p m).A, .string (beh p m).B], .int .i64 (d : Int)] u fun e w' => e = .returned (.int .i64 (pathsN (fun q => (L q).map (beh q)) d (beh p m) : Nat)) ∧ Below u.heap.size u w' := fun m hm u hu => ih (by omega) (beh p m) (hBp m hm).1 u (hup u hu)
    have hMA : ∀ m ∈ L p, ∀ u, Below w.heap.size w u → Calls Tryz.prog 15 #[.agg #[v0, v1, v2, v3, v4, v5, v6, v7, v8, v9, v10, v11, v12], .agg #[.int .i64 p.W, .int .i64 p.H, .string p.C, .int .i64 p.T, .string p.A, .string p.B], .agg #[.int .i64 m.f, .int .i64 (m.t : Int), .int .u8 (m.c : Int)]] u fun e w' => e = .returned (.agg #[.int .i64 (beh p m).W, .int .i64 (beh p m).H, .string (beh p m).C, .int .i64 (beh p m).T, .string (beh p m).A, .string (beh p m).B]) ∧ Below u.heap.size u w' := fun m hm u hu => (hBp m hm).2 u (hup u hu)
    have hMO := fun u (hu : Below w.heap.size w u) => hL p hp u (hup u hu)
    have hll := hlen p hp
    obtain ⟨n, hn⟩ : ∃ n, n = (L p).length := ⟨_, rfl⟩
    rw [← hn] at hMO hll
    obtain ⟨R, hR⟩ : ∃ R, R = pathsN (fun q => (L q).map (beh q)) (d + 1) p := ⟨_, rfl⟩
    rw [← hR]
    rw [pathsN] at hR
    have hfB := fun q => pathsN_le (fun q => (L q).map (beh q)) d q
    have hn9 : n ≤ 9223372036854775807 := by omega
    have hdz : (((d + 1 : Nat) : Int) == 0) = false := by simp; omega
    obtain ⟨D, hD⟩ : ∃ D : Nat, D = d + 1 := ⟨_, rfl⟩
    rw [← hD] at hdz ⊢
    have hD1 : (D : Int) - 1 = (d : Int) := by omega
    have wD : IntKind.i64.wrap (d : Int) = (d : Int) := wrapI (by omega)
    have HN := hide hn
    have HR := hide hR
    have HMF := hide hmf2
    have HW1 := hide hw1
    have HW2 := hide hw2
    have HIH := hide hIH
    have HMA := hide hMA
    have HMO := hide hMO
    have HFB := hide hfB
    clear hw1 hw2 hb1 hb2 s1 s2 hmf2 hL hB hlen hw hup hBp hIH hMA hMO hn hR ih hfB hD
    go_enter Tryz.func20, Tryz.ntmps20
    go_upto_region 4 with fail
    rw [← unhide HW1, ← unhide HW2]
    clear HW1 HW2
    obtain ⟨r0, r1, r2, r3, r4, r5, r6, r7, r8, r9, r10, r11, r12⟩ := (unhide HMF).ru.cells
    obtain ⟨p0, p1, p2, p3, p4, p5⟩ := (unhide HMF).pb.all
    go_wp2_with fail
    refine (unhide HMO _ (unhide HMF).bw).mono ?_
    rintro e wc ⟨v, rfl, hown, hbc⟩
    obtain ⟨lo1, lc1, rfl⟩ := row_len hown
    have hl4 : isMvs wc (.slice lo1 n lc1) (L p) := isMvs.of (by rw [← unhide HN]; exact hown)
    have HLD := hide hl4
    have HMFC := hide ((unhide HMF).step hbc)
    clear HMF hbc HMO hown hl4 r0 r1 r2 r3 r4 r5 r6 r7 r8 r9 r10 r11 r12 p0 p1 p2 p3 p4 p5
    go_wp2_with fail
    go_loopw [7, 9] (fun nv iv wr => ∃ k i : Nat, nv = .int .i64 (k : Int) ∧ iv = .int .i64 (i : Int) ∧ i ≤ n ∧ k ≤ 800000 ∧ Hid (accN (pathsN (fun q => (L q).map (beh q)) d) k (((L p).drop i).map (beh p)) = R) ∧ Hid (Below wc.heap.size wc wr)) (fun _ iv _ => n - (intOf iv).toNat)
    case atStart => exact ⟨0, 0, rfl, rfl, Nat.zero_le _, by omega, hide (unhide HR).symm, hide (Below.refl _ _)⟩
    case round =>
      obtain ⟨k, i, rfl, rfl, hi, hk8, HAC, HB⟩ := hrel
      have hmfr := (unhide HMFC).step (unhide HB)
      by_cases hlt : i < n
      · have hlti : (i : Int) < (n : Int) := by omega
        have hi0 : (0 : Int) ≤ (i : Int) := by omega
        by_cases hk : k ≤ 100000
        · have hki : (k : Int) ≤ 100000 := by omega
          have hil : i < (L p).length := by rw [← unhide HN]; exact hlt
          obtain ⟨m, hm⟩ : ∃ m, m = (L p)[i] := ⟨_, rfl⟩
          have hmi : (L p)[i]? = some m := by rw [hm]; exact List.getElem?_eq_getElem hil
          have hmem := List.mem_of_getElem? hmi
          have hacc := unhide HAC
          rw [accN_drop hmi hk] at hacc
          have HM1 := hide (unhide HMA m hmem)
          have HP1 := hide (unhide HIH m hmem)
          have hfb := unhide HFB (beh p m)
          obtain ⟨Q, hQ⟩ : ∃ Q, Q = beh p m := ⟨_, rfl⟩
          rw [← hQ] at HM1 HP1 hacc hfb
          obtain ⟨x, hx⟩ : ∃ x, x = pathsN (fun q => (L q).map (beh q)) d Q := ⟨_, rfl⟩
          rw [← hx] at HP1 hacc hfb
          obtain ⟨y, hy⟩ : ∃ y, y = k + x := ⟨_, rfl⟩
          rw [← hy] at hacc
          have hxb : x ≤ 600001 := by omega
          have hadd : (k : Int) + (x : Int) = (y : Int) := by omega
          have wadd : IntKind.i64.wrap (y : Int) = (y : Int) := wrapI (by omega)
          have hy8 : y ≤ 800000 := by omega
          obtain ⟨ao, cap, e1, hle, hmx, hcs⟩ := (unhide HLD).below (unhide HB)
          obtain ⟨g, off, eg, hgk, c0, c1, c2⟩ := hcs i m hmi
          simp only [Value.slice.injEq] at e1
          obtain ⟨e1, e2, e3⟩ := e1
          subst eg
          subst e1
          subst e3
          unfold maxLen at hmx
          rw [← unhide HN] at hle
          have hszr := hmfr.sz
          have hbwr := hmfr.bw
          have hHS : ∀ u, Below wr.heap.size wr u → (u.cell? ⟨w.heap.size, 0, none⟩ = some v0 ∧ u.cell? ⟨w.heap.size, 1, none⟩ = some v1 ∧ u.cell? ⟨w.heap.size, 2, none⟩ = some v2 ∧ u.cell? ⟨w.heap.size, 3, none⟩ = some v3 ∧ u.cell? ⟨w.heap.size, 4, none⟩ = some v4 ∧ u.cell? ⟨w.heap.size, 5, none⟩ = some v5 ∧ u.cell? ⟨w.heap.size, 6, none⟩ = some v6 ∧ u.cell? ⟨w.heap.size, 7, none⟩ = some v7 ∧ u.cell? ⟨w.heap.size, 8, none⟩ = some v8 ∧ u.cell? ⟨w.heap.size, 9, none⟩ = some v9 ∧ u.cell? ⟨w.heap.size, 10, none⟩ = some v10 ∧ u.cell? ⟨w.heap.size, 11, none⟩ = some v11 ∧ u.cell? ⟨w.heap.size, 12, none⟩ = some v12 ∧ u.cell? ⟨w.heap.size + 1, 0, none⟩ = some (.int .i64 p.W) ∧ u.cell? ⟨w.heap.size + 1, 1, none⟩ = some (.int .i64 p.H) ∧ u.cell? ⟨w.heap.size + 1, 2, none⟩ = some (.string p.C) ∧ u.cell? ⟨w.heap.size + 1, 3, none⟩ = some (.int .i64 p.T) ∧ u.cell? ⟨w.heap.size + 1, 4, none⟩ = some (.string p.A) ∧ u.cell? ⟨w.heap.size + 1, 5, none⟩ = some (.string p.B) ∧ u.cell? ⟨g, off + i * 3, none⟩ = some (.int .i64 m.f) ∧ u.cell? ⟨g, off + i * 3 + 1, none⟩ = some (.int .i64 (m.t : Int)) ∧ u.cell? ⟨g, off + i * 3 + 2, none⟩ = some (.int .u8 (m.c : Int)) ∧ Below wr.heap.size wr u) := fun u hu => by
            obtain ⟨x0, x1, x2, x3, x4, x5, x6, x7, x8, x9, x10, x11, x12⟩ := (hmfr.ru.below hu (by omega)).cells
            obtain ⟨y0, y1, y2, y3, y4, y5⟩ := (hmfr.pb.below hu (by omega)).all
            exact ⟨x0, x1, x2, x3, x4, x5, x6, x7, x8, x9, x10, x11, x12, y0, y1, y2, y3, y4, y5, (hu.cell (p := ⟨g, off + i * 3, none⟩) hgk).trans c0, (hu.cell (p := ⟨g, off + i * 3 + 1, none⟩) hgk).trans c1, (hu.cell (p := ⟨g, off + i * 3 + 2, none⟩) hgk).trans c2, hu⟩
          have HS := hide hHS
          have HBW := hide (fun u (hu : Below wr.heap.size wr u) => hbwr.trans (hu.mono hbwr.size))
          have HB0 : Hid (Below wr.heap.size wr wr.drew) := hide (Below.refl _ _).drew
          have HACC := hide hacc
          clear hHS hm hmi hmem hacc hQ hx hy hcs e2 hmfr hil c0 c1 c2 hbwr hfb HAC
          go_upto_region 8 with fail
          go_region_held3 (fun u => u.cell? ⟨w.heap.size, 0, none⟩ = some v0 ∧ u.cell? ⟨w.heap.size, 1, none⟩ = some v1 ∧ u.cell? ⟨w.heap.size, 2, none⟩ = some v2 ∧ u.cell? ⟨w.heap.size, 3, none⟩ = some v3 ∧ u.cell? ⟨w.heap.size, 4, none⟩ = some v4 ∧ u.cell? ⟨w.heap.size, 5, none⟩ = some v5 ∧ u.cell? ⟨w.heap.size, 6, none⟩ = some v6 ∧ u.cell? ⟨w.heap.size, 7, none⟩ = some v7 ∧ u.cell? ⟨w.heap.size, 8, none⟩ = some v8 ∧ u.cell? ⟨w.heap.size, 9, none⟩ = some v9 ∧ u.cell? ⟨w.heap.size, 10, none⟩ = some v10 ∧ u.cell? ⟨w.heap.size, 11, none⟩ = some v11 ∧ u.cell? ⟨w.heap.size, 12, none⟩ = some v12 ∧ u.cell? ⟨w.heap.size + 1, 0, none⟩ = some (.int .i64 p.W) ∧ u.cell? ⟨w.heap.size + 1, 1, none⟩ = some (.int .i64 p.H) ∧ u.cell? ⟨w.heap.size + 1, 2, none⟩ = some (.string p.C) ∧ u.cell? ⟨w.heap.size + 1, 3, none⟩ = some (.int .i64 p.T) ∧ u.cell? ⟨w.heap.size + 1, 4, none⟩ = some (.string p.A) ∧ u.cell? ⟨w.heap.size + 1, 5, none⟩ = some (.string p.B) ∧ u.cell? ⟨g, off + i * 3, none⟩ = some (.int .i64 m.f) ∧ u.cell? ⟨g, off + i * 3 + 1, none⟩ = some (.int .i64 (m.t : Int)) ∧ u.cell? ⟨g, off + i * 3 + 2, none⟩ = some (.int .u8 (m.c : Int)) ∧ Below wr.heap.size wr u)
            (first
              | with_reducible exact unhide HS _ (unhide HB0)
              | with_reducible exact unhide HS _ (unhide HX)
              | with_reducible exact unhide HS _ (unhide HY))
            (first
              | (go_at_call 15; (with_reducible refine (unhide HM1 _ (unhide HBW _ (unhide HB0))).mono ?_); rintro e wx ⟨rfl, hbx⟩
                 have HX : Hid (Below wr.heap.size wr wx) := hide ((unhide HB0).trans (hbx.mono (unhide HB0).size))
                 clear hbx)
              | (go_at_call 20; (with_reducible refine (unhide HP1 _ (unhide HBW _ (unhide HX))).mono ?_); rintro e wy ⟨rfl, hby⟩
                 have HY : Hid (Below wr.heap.size wr wy) := hide ((unhide HX).trans (hby.mono (unhide HX).size))
                 clear hby))
          all_goals
            go_wp2
            go_roundw
            case rel => exact ⟨y, i + 1, rfl, by go_num, by omega, hy8, HACC, hide ((unhide HB).trans ((unhide HY).mono (unhide HB).size))⟩
            case measure => simp only [intOf]; omega
        · have hki : ¬ (k : Int) ≤ 100000 := by omega
          have hRk : R = k := by
            have := unhide HAC
            rw [accN_stop hk] at this
            exact this.symm
          have HRK := hide hRk
          have HBF := hide hmfr.bw
          clear hRk hmfr
          go_wp2
          go_ret
          exact ⟨by rw [unhide HRK]; rfl, unhide HBF⟩
      · have hlti : ¬ (i : Int) < (n : Int) := by omega
        have hRk : R = k := by
          have := unhide HAC
          rw [List.drop_eq_nil_of_le (by rw [← unhide HN]; omega)] at this
          exact this.symm
        have HRK := hide hRk
        have HBF := hide hmfr.bw
        clear hRk hmfr
        go_wp2
        go_ret
        exact ⟨by rw [unhide HRK]; rfl, unhide HBF⟩
end Go.Proofs.YtbglppcbgfkhmabGreatDoor

namespace Go.Proofs.YtbglppcbgfkhmabGreatDoor
open Go.RowKit
attribute [local go_sem ↓] Go.wp_at_zero Go.wp_at_succ

theorem eqMove_same (w : World) (f t : Int) (c : Int) : (Op.equalIn 10000 29 (.agg #[.int .i64 f, .int .i64 t, .int .u8 c]) (.agg #[.int .i64 f, .int .i64 t, .int .u8 c])).run Tryz.prog w = .ok true w := by
  rw [eqMove]
  simp
/-- The last move of the list with that text. -/
def lastM (tx : Mv → List UInt8) (s : ByteArray) (L : List Mv) : Mv × Int := L.foldl (fun r m => if tx m = s.data.toList then (m, 0) else r) (⟨0, 0, 0⟩, 5)
theorem lastM_snoc {tx : Mv → List UInt8} {s : ByteArray} {L : List Mv} {i : Nat} {m : Mv} (h : L[i]? = some m) : lastM tx s (L.take (i + 1)) = if tx m = s.data.toList then (m, 0) else lastM tx s (L.take i) := by
  unfold lastM
  rw [List.take_add_one, h, Option.toList_some, List.foldl_append, List.foldl_cons, List.foldl_nil]

set_option maxHeartbeats 4000000 in
set_option maxRecDepth 100000 in
theorem texts_no (v0 v1 v2 v3 v4 v5 v6 v7 v8 v9 v10 v11 v12 : Value) (W H T : Int) (C A B : ByteArray) (f t : Int) (c : Nat) (s : ByteArray) (d : Int) (w : World)
    (hTX : ∀ u, Below w.heap.size w u → Calls Tryz.prog 16 #[.agg #[v0, v1, v2, v3, v4, v5, v6, v7, v8, v9, v10, v11, v12], .agg #[.int .i64 W, .int .i64 H, .string C, .int .i64 T, .string A, .string B], .agg #[.int .i64 f, .int .i64 t, .int .u8 (c : Int)]] u fun e w' => e = .returned (.tuple #[.string ⟨#[]⟩, .int .i64 1]) ∧ Below u.heap.size u w')
    (hRD : ∀ u, Below w.heap.size w u → Calls Tryz.prog 17 #[.agg #[v0, v1, v2, v3, v4, v5, v6, v7, v8, v9, v10, v11, v12], .agg #[.int .i64 W, .int .i64 H, .string C, .int .i64 T, .string A, .string B], .string s] u fun e w' => e = .returned (.tuple #[.agg #[.int .i64 0, .int .i64 0, .int .u8 0], .int .i64 1]) ∧ Below u.heap.size u w')
    (hCN : ∀ u, Below w.heap.size w u → Calls Tryz.prog 18 #[.agg #[v0, v1, v2, v3, v4, v5, v6, v7, v8, v9, v10, v11, v12], .agg #[.int .i64 W, .int .i64 H, .string C, .int .i64 T, .string A, .string B], .int .i64 d] u fun e w' => e = .returned (.tuple #[.int .i64 0, .int .i64 1]) ∧ Below u.heap.size u w')
    (hOF : ∀ u, Below w.heap.size w u → Calls Tryz.prog 10 #[.agg #[v0, v1, v2, v3, v4, v5, v6, v7, v8, v9, v10, v11, v12], .agg #[.int .i64 W, .int .i64 H, .string C, .int .i64 T, .string A, .string B]] u fun e w' => e = .returned (.bool false) ∧ Below u.heap.size u w') :
    Calls Tryz.prog 4 #[.agg #[v0, v1, v2, v3, v4, v5, v6, v7, v8, v9, v10, v11, v12], .agg #[.int .i64 W, .int .i64 H, .string C, .int .i64 T, .string A, .string B], .agg #[.int .i64 f, .int .i64 t, .int .u8 (c : Int)], .string s, .int .i64 d] w fun e w' => e = .returned (.bool true) ∧ Below w.heap.size w w' := by
  obtain ⟨a, ha⟩ : ∃ a : Mv, a = ⟨0, 0, 0⟩ := ⟨_, rfl⟩
  have hRD2 : ∀ u, Below w.heap.size w u → Calls Tryz.prog 17 #[.agg #[v0, v1, v2, v3, v4, v5, v6, v7, v8, v9, v10, v11, v12], .agg #[.int .i64 W, .int .i64 H, .string C, .int .i64 T, .string A, .string B], .string s] u fun e w' => e = .returned (.tuple #[.agg #[.int .i64 a.f, .int .i64 (a.t : Int), .int .u8 (a.c : Int)], .int .i64 1]) ∧ Below u.heap.size u w' := by rw [ha]; exact hRD
  have HTX := hide hTX
  have HRD := hide hRD2
  have HCN := hide hCN
  have HOF := hide hOF
  have HA := hide ha
  clear hTX hRD hRD2 hCN hOF ha
  obtain ⟨w1, hw1⟩ : ∃ w1, w1 = w.alloc (.cells #[v0, v1, v2, v3, v4, v5, v6, v7, v8, v9, v10, v11, v12] 27 (0, 0)) := ⟨_, rfl⟩
  obtain ⟨w2, hw2⟩ : ∃ w2, w2 = w1.alloc (.cells #[.int .i64 W, .int .i64 H, .string C, .int .i64 T, .string A, .string B] 24 (0, 0)) := ⟨_, rfl⟩
  obtain ⟨w3, hw3⟩ : ∃ w3, w3 = w2.alloc (.cells #[.int .i64 f, .int .i64 t, .int .u8 (c : Int)] 29 (0, 0)) := ⟨_, rfl⟩
  have hb1 : Below w.heap.size w w1 := by rw [hw1]; exact (Below.refl _ _).alloc (Nat.le_refl _) _
  have hb2 : Below w1.heap.size w1 w2 := by rw [hw2]; exact (Below.refl _ _).alloc (Nat.le_refl _) _
  have hb3 : Below w2.heap.size w2 w3 := by rw [hw3]; exact (Below.refl _ _).alloc (Nat.le_refl _) _
  have s1 : w1.heap.size = w.heap.size + 1 := by rw [hw1]; simp
  have s2 : w2.heap.size = w.heap.size + 1 + 1 := by rw [hw2]; simp [s1]
  have hmf2 : MF w v0 v1 v2 v3 v4 v5 v6 v7 v8 v9 v10 v11 v12 W H T C A B w2 :=
    ⟨isRu.below (show isRu w1 w.heap.size v0 v1 v2 v3 v4 v5 v6 v7 v8 v9 v10 v11 v12 by rw [hw1]; exact heap_alloc_new w _) hb2 (by omega), by rw [hw2, ← s1]; exact heap_alloc_new w1 _, hb1.trans (hb2.mono (by omega)), by omega⟩
  have hmb3 : isMb w3 (w.heap.size + 1 + 1) f t c := by rw [hw3, ← s2]; exact heap_alloc_new w2 _
  have HMF := hide (hmf2.step hb3)
  have HMB := hide hmb3
  have HW1 := hide hw1
  have HW2 := hide hw2
  have HW3 := hide hw3
  clear hw1 hw2 hw3 hb1 hb2 hb3 s1 s2 hmf2 hmb3
  go_enter Tryz.func4, Tryz.ntmps4
  go_wp2_with fail
  rw [← unhide HW1, ← unhide HW2, ← unhide HW3]
  refine (unhide HTX _ (unhide HMF).bw).mono ?_
  rintro e w4 ⟨rfl, hb4⟩
  have HMF4 := hide ((unhide HMF).step hb4)
  have HMB4 := hide ((unhide HMB).below hb4 (unhide HMB).lt)
  clear HMF HMB hb4 HW1 HW2 HW3 HTX
  obtain ⟨r0, r1, r2, r3, r4, r5, r6, r7, r8, r9, r10, r11, r12⟩ := (unhide HMF4).ru.cells
  obtain ⟨p0, p1, p2, p3, p4, p5⟩ := (unhide HMF4).pb.all
  go_wp2_with fail
  refine (unhide HRD _ (unhide HMF4).bw).mono ?_
  rintro e w5 ⟨rfl, hb5⟩
  obtain ⟨w6, hw6⟩ : ∃ w6, w6 = w5.alloc (.cells #[.int .i64 a.f, .int .i64 (a.t : Int), .int .u8 (a.c : Int)] 29 (0, 0)) := ⟨_, rfl⟩
  have hb6 : Below w5.heap.size w5 w6 := by rw [hw6]; exact (Below.refl _ _).alloc (Nat.le_refl _) _
  have hma6 : isMb w6 w5.heap.size a.f a.t a.c := by rw [hw6]; exact heap_alloc_new w5 _
  have hmf5 := (unhide HMF4).step hb5
  have hmb5 := (unhide HMB4).below hb5 (unhide HMB4).lt
  have HMF6 := hide (hmf5.step hb6)
  have HMB6 := hide (hmb5.below hb6 hmb5.lt)
  have HMA6 := hide hma6
  have HW6 := hide hw6
  clear HMF4 HMB4 hb5 hw6 hb6 hma6 hmf5 hmb5 HRD r0 r1 r2 r3 r4 r5 r6 r7 r8 r9 r10 r11 r12 p0 p1 p2 p3 p4 p5
  obtain ⟨r0, r1, r2, r3, r4, r5, r6, r7, r8, r9, r10, r11, r12⟩ := (unhide HMF6).ru.cells
  obtain ⟨p0, p1, p2, p3, p4, p5⟩ := (unhide HMF6).pb.all
  go_upto_region 3 with fail
  rw [← unhide HW6]
  clear HW6
  go_wp2_with fail
  refine (unhide HCN _ (unhide HMF6).bw).mono ?_
  rintro e w7 ⟨rfl, hb7⟩
  have HMF7 := hide ((unhide HMF6).step hb7)
  have HMB7 := hide ((unhide HMB6).below hb7 (unhide HMB6).lt)
  have HMA7 := hide ((unhide HMA6).below hb7 (unhide HMA6).lt)
  clear HMF6 HMB6 HMA6 hb7 HCN r0 r1 r2 r3 r4 r5 r6 r7 r8 r9 r10 r11 r12 p0 p1 p2 p3 p4 p5
  obtain ⟨r0, r1, r2, r3, r4, r5, r6, r7, r8, r9, r10, r11, r12⟩ := (unhide HMF7).ru.cells
  obtain ⟨p0, p1, p2, p3, p4, p5⟩ := (unhide HMF7).pb.all
  go_wp2_with fail
  refine (unhide HOF _ (unhide HMF7).bw).mono ?_
  rintro e w8 ⟨rfl, hb8⟩
  have HMF8 := hide ((unhide HMF7).step hb8)
  have HMB8 := hide ((unhide HMB7).below hb8 (unhide HMB7).lt)
  have HMA8 := hide ((unhide HMA7).below hb8 (unhide HMA7).lt)
  clear HMF7 HMB7 HMA7 hb8 HOF r0 r1 r2 r3 r4 r5 r6 r7 r8 r9 r10 r11 r12 p0 p1 p2 p3 p4 p5
  have heq := fun u => eqMove_same u 0 0 0
  have hma := unhide HMA8
  rw [unhide HA] at hma
  obtain ⟨m0, m1, m2⟩ := hma.all
  have HB8 := hide (unhide HMF8).bw
  clear hma HMF8 HMB8 HMA8
  go_wp2
  go_ret
  exact ⟨rfl, unhide HB8⟩

set_option maxHeartbeats 8000000 in
set_option maxRecDepth 100000 in
theorem texts_yes (v0 v1 v2 v3 v4 v5 v6 v7 v8 v9 v10 v11 v12 : Value) (W H T : Int) (C A B : ByteArray) (f t : Int) (c : Nat) (s : ByteArray) (d : Int) (L : List Mv) (tx : Mv → List UInt8) (S : ByteArray) (E : Int) (a : Mv) (fe : Int) (n1 g1 : Int) (P : Nat → Nat) (w : World) (hll : L.length ≤ 4608)
    (hTX : ∀ u, Below w.heap.size w u → Calls Tryz.prog 16 #[.agg #[v0, v1, v2, v3, v4, v5, v6, v7, v8, v9, v10, v11, v12], .agg #[.int .i64 W, .int .i64 H, .string C, .int .i64 T, .string A, .string B], .agg #[.int .i64 f, .int .i64 t, .int .u8 (c : Int)]] u fun e w' => e = .returned (.tuple #[.string S, .int .i64 E]) ∧ Below u.heap.size u w')
    (hRD : ∀ u, Below w.heap.size w u → Calls Tryz.prog 17 #[.agg #[v0, v1, v2, v3, v4, v5, v6, v7, v8, v9, v10, v11, v12], .agg #[.int .i64 W, .int .i64 H, .string C, .int .i64 T, .string A, .string B], .string s] u fun e w' => e = .returned (.tuple #[.agg #[.int .i64 a.f, .int .i64 (a.t : Int), .int .u8 (a.c : Int)], .int .i64 fe]) ∧ Below u.heap.size u w')
    (hCN : ∀ u, Below w.heap.size w u → Calls Tryz.prog 18 #[.agg #[v0, v1, v2, v3, v4, v5, v6, v7, v8, v9, v10, v11, v12], .agg #[.int .i64 W, .int .i64 H, .string C, .int .i64 T, .string A, .string B], .int .i64 d] u fun e w' => e = .returned (.tuple #[.int .i64 n1, .int .i64 g1]) ∧ Below u.heap.size u w')
    (hOF : ∀ u, Below w.heap.size w u → Calls Tryz.prog 10 #[.agg #[v0, v1, v2, v3, v4, v5, v6, v7, v8, v9, v10, v11, v12], .agg #[.int .i64 W, .int .i64 H, .string C, .int .i64 T, .string A, .string B]] u fun e w' => e = .returned (.bool true) ∧ Below u.heap.size u w')
    (hRM : ∀ u, Below w.heap.size w u → Calls Tryz.prog 11 #[.agg #[v0, v1, v2, v3, v4, v5, v6, v7, v8, v9, v10, v11, v12], .agg #[.int .i64 W, .int .i64 H, .string C, .int .i64 T, .string A, .string B]] u fun e w' => ∃ v, e = .returned v ∧ w'.ownsRow u.heap.size 29 3 v L.length (mvals L) ∧ Below u.heap.size u w')
    (hMT : ∀ m ∈ L, ∀ u, Calls Tryz.prog 19 #[.agg #[.int .i64 W, .int .i64 H, .string C, .int .i64 T, .string A, .string B], .agg #[.int .i64 m.f, .int .i64 (m.t : Int), .int .u8 (m.c : Int)]] u fun e w' => e = .returned (.string ⟨(tx m).toArray⟩) ∧ Below u.heap.size u w')
    (hM0 : (inM f t c L = true ∧ E = 0 ∧ ∀ u, Calls Tryz.prog 19 #[.agg #[.int .i64 W, .int .i64 H, .string C, .int .i64 T, .string A, .string B], .agg #[.int .i64 f, .int .i64 t, .int .u8 (c : Int)]] u fun e w' => e = .returned (.string S) ∧ Below u.heap.size u w') ∨ (inM f t c L = false ∧ E = 5 ∧ S = ⟨#[]⟩))
    (hRL : (a, fe) = lastM tx s L) (hRG : d < 0 ∨ 6 < d → n1 = 0 ∧ g1 = 4) (hPb : ∀ i : Nat, i ≤ 6 → P i ≤ 800000)
    (hPA : ∀ i : Nat, i ≤ 6 → ∀ u, Below w.heap.size w u → Calls Tryz.prog 20 #[.agg #[v0, v1, v2, v3, v4, v5, v6, v7, v8, v9, v10, v11, v12], .agg #[.int .i64 W, .int .i64 H, .string C, .int .i64 T, .string A, .string B], .int .i64 (i : Int)] u fun e w' => e = .returned (.int .i64 (P i : Nat)) ∧ Below u.heap.size u w')
    (hCT : ∀ D : Nat, d = D → D ≤ 6 → ((∃ i : Nat, i ≤ D ∧ 100000 < P i) ∧ n1 = 0 ∧ g1 = 2) ∨ ((∀ i : Nat, i ≤ D → P i ≤ 100000) ∧ n1 = (P D : Nat) ∧ g1 = 0)) :
    Calls Tryz.prog 4 #[.agg #[v0, v1, v2, v3, v4, v5, v6, v7, v8, v9, v10, v11, v12], .agg #[.int .i64 W, .int .i64 H, .string C, .int .i64 T, .string A, .string B], .agg #[.int .i64 f, .int .i64 t, .int .u8 (c : Int)], .string s, .int .i64 d] w fun e w' => e = .returned (.bool true) ∧ Below w.heap.size w w' := by
  have HTX := hide hTX
  have HRD := hide hRD
  have HCN := hide hCN
  have HOF := hide hOF
  have HRM := hide hRM
  have HMT := hide hMT
  have HM0 := hide hM0
  have HRL := hide hRL
  have HRG := hide hRG
  have HPB7 := hide hPb
  have HPA := hide hPA
  have HCT := hide hCT
  obtain ⟨n, hn⟩ : ∃ n, n = L.length := ⟨_, rfl⟩
  rw [← hn] at HRM hll
  have HN := hide hn
  clear hTX hRD hCN hOF hRM hMT hM0 hRL hRG hPb hPA hCT hn
  obtain ⟨w1, hw1⟩ : ∃ w1, w1 = w.alloc (.cells #[v0, v1, v2, v3, v4, v5, v6, v7, v8, v9, v10, v11, v12] 27 (0, 0)) := ⟨_, rfl⟩
  obtain ⟨w2, hw2⟩ : ∃ w2, w2 = w1.alloc (.cells #[.int .i64 W, .int .i64 H, .string C, .int .i64 T, .string A, .string B] 24 (0, 0)) := ⟨_, rfl⟩
  obtain ⟨w3, hw3⟩ : ∃ w3, w3 = w2.alloc (.cells #[.int .i64 f, .int .i64 t, .int .u8 (c : Int)] 29 (0, 0)) := ⟨_, rfl⟩
  have hb1 : Below w.heap.size w w1 := by rw [hw1]; exact (Below.refl _ _).alloc (Nat.le_refl _) _
  have hb2 : Below w1.heap.size w1 w2 := by rw [hw2]; exact (Below.refl _ _).alloc (Nat.le_refl _) _
  have hb3 : Below w2.heap.size w2 w3 := by rw [hw3]; exact (Below.refl _ _).alloc (Nat.le_refl _) _
  have s1 : w1.heap.size = w.heap.size + 1 := by rw [hw1]; simp
  have s2 : w2.heap.size = w.heap.size + 1 + 1 := by rw [hw2]; simp [s1]
  have hmf2 : MF w v0 v1 v2 v3 v4 v5 v6 v7 v8 v9 v10 v11 v12 W H T C A B w2 :=
    ⟨isRu.below (show isRu w1 w.heap.size v0 v1 v2 v3 v4 v5 v6 v7 v8 v9 v10 v11 v12 by rw [hw1]; exact heap_alloc_new w _) hb2 (by omega), by rw [hw2, ← s1]; exact heap_alloc_new w1 _, hb1.trans (hb2.mono (by omega)), by omega⟩
  have hmb3 : isMb w3 (w.heap.size + 1 + 1) f t c := by rw [hw3, ← s2]; exact heap_alloc_new w2 _
  have HMF := hide (hmf2.step hb3)
  have HMB := hide hmb3
  have HW1 := hide hw1
  have HW2 := hide hw2
  have HW3 := hide hw3
  clear hw1 hw2 hw3 hb1 hb2 hb3 s1 s2 hmf2 hmb3
  go_enter Tryz.func4, Tryz.ntmps4
  go_wp2_with fail
  rw [← unhide HW1, ← unhide HW2, ← unhide HW3]
  refine (unhide HTX _ (unhide HMF).bw).mono ?_
  rintro e w4 ⟨rfl, hb4⟩
  have HMF4 := hide ((unhide HMF).step hb4)
  have HMB4 := hide ((unhide HMB).below hb4 (unhide HMB).lt)
  clear HMF HMB hb4 HW1 HW2 HW3 HTX
  obtain ⟨r0, r1, r2, r3, r4, r5, r6, r7, r8, r9, r10, r11, r12⟩ := (unhide HMF4).ru.cells
  obtain ⟨p0, p1, p2, p3, p4, p5⟩ := (unhide HMF4).pb.all
  go_wp2_with fail
  refine (unhide HRD _ (unhide HMF4).bw).mono ?_
  rintro e w5 ⟨rfl, hb5⟩
  obtain ⟨w6, hw6⟩ : ∃ w6, w6 = w5.alloc (.cells #[.int .i64 a.f, .int .i64 (a.t : Int), .int .u8 (a.c : Int)] 29 (0, 0)) := ⟨_, rfl⟩
  have hb6 : Below w5.heap.size w5 w6 := by rw [hw6]; exact (Below.refl _ _).alloc (Nat.le_refl _) _
  have hma6 : isMb w6 w5.heap.size a.f a.t a.c := by rw [hw6]; exact heap_alloc_new w5 _
  have hmf5 := (unhide HMF4).step hb5
  have hmb5 := (unhide HMB4).below hb5 (unhide HMB4).lt
  have HMF6 := hide (hmf5.step hb6)
  have HMB6 := hide (hmb5.below hb6 hmb5.lt)
  have HMA6 := hide hma6
  have HW6 := hide hw6
  clear HMF4 HMB4 hb5 hw6 hb6 hma6 hmf5 hmb5 HRD r0 r1 r2 r3 r4 r5 r6 r7 r8 r9 r10 r11 r12 p0 p1 p2 p3 p4 p5
  obtain ⟨r0, r1, r2, r3, r4, r5, r6, r7, r8, r9, r10, r11, r12⟩ := (unhide HMF6).ru.cells
  obtain ⟨p0, p1, p2, p3, p4, p5⟩ := (unhide HMF6).pb.all
  go_upto_region 3 with fail
  rw [← unhide HW6]
  clear HW6
  go_wp2_with fail
  refine (unhide HCN _ (unhide HMF6).bw).mono ?_
  rintro e w7 ⟨rfl, hb7⟩
  have HMF7 := hide ((unhide HMF6).step hb7)
  have HMB7 := hide ((unhide HMB6).below hb7 (unhide HMB6).lt)
  have HMA7 := hide ((unhide HMA6).below hb7 (unhide HMA6).lt)
  clear HMF6 HMB6 HMA6 hb7 HCN r0 r1 r2 r3 r4 r5 r6 r7 r8 r9 r10 r11 r12 p0 p1 p2 p3 p4 p5
  obtain ⟨r0, r1, r2, r3, r4, r5, r6, r7, r8, r9, r10, r11, r12⟩ := (unhide HMF7).ru.cells
  obtain ⟨p0, p1, p2, p3, p4, p5⟩ := (unhide HMF7).pb.all
  go_wp2_with fail
  refine (unhide HOF _ (unhide HMF7).bw).mono ?_
  rintro e w8 ⟨rfl, hb8⟩
  have HMF8 := hide ((unhide HMF7).step hb8)
  have HMB8 := hide ((unhide HMB7).below hb8 (unhide HMB7).lt)
  have HMA8 := hide ((unhide HMA7).below hb8 (unhide HMA7).lt)
  clear HMF7 HMB7 HMA7 hb8 HOF r0 r1 r2 r3 r4 r5 r6 r7 r8 r9 r10 r11 r12 p0 p1 p2 p3 p4 p5
  obtain ⟨r0, r1, r2, r3, r4, r5, r6, r7, r8, r9, r10, r11, r12⟩ := (unhide HMF8).ru.cells
  obtain ⟨p0, p1, p2, p3, p4, p5⟩ := (unhide HMF8).pb.all
  go_wp2_with fail
  refine (unhide HRM _ (unhide HMF8).bw).mono ?_
  rintro e w9 ⟨v, rfl, hown, hb9⟩
  obtain ⟨lo1, lc1, rfl⟩ := row_len hown
  have hl9 : isMvs w9 (.slice lo1 n lc1) L := isMvs.of (by rw [← unhide HN]; exact hown)
  have HLD9 := hide hl9
  have HMF9 := hide ((unhide HMF8).step hb9)
  have HMB9 := hide ((unhide HMB8).below hb9 (unhide HMB8).lt)
  have HMA9 := hide ((unhide HMA8).below hb9 (unhide HMA8).lt)
  clear HMF8 HMB8 HMA8 hb9 HRM hown hl9 r0 r1 r2 r3 r4 r5 r6 r7 r8 r9 r10 r11 r12 p0 p1 p2 p3 p4 p5
  go_upto_region 7 with fail
  go_cut [103] from 76 to 102 (fun v wz => v = .bool false ∧ Hid (Below w9.heap.size w9 wz))
  case first =>
    have HIN := hide (fun u (hu : Below w9.heap.size w9 u) => rIn_any (.slice lo1 n lc1) L f t c u ((unhide HLD9).below hu))
    obtain ⟨m0, m1, m2⟩ := (unhide HMB9).all
    obtain ⟨p0, p1, p2, p3, p4, p5⟩ := (unhide HMF9).pb.all
    rcases unhide HM0 with ⟨hi, hE, hmt⟩ | ⟨hi, hE, hS⟩
    · rw [hi] at HIN
      subst hE
      have HMTX := hide hmt
      clear hi hmt
      go_wp2_with fail
      refine (unhide HIN _ (Below.refl _ _)).mono ?_
      rintro e x1 ⟨rfl, hx1⟩
      have HX1 := hide hx1
      obtain ⟨m0', m1', m2'⟩ := ((unhide HMB9).below hx1 (unhide HMB9).lt).all
      obtain ⟨p0', p1', p2', p3', p4', p5'⟩ := ((unhide HMF9).step hx1).pb.all
      clear hx1
      go_wp2_with fail
      refine (unhide HMTX _).mono ?_
      rintro e x2 ⟨rfl, hx2⟩
      have hx12 := (unhide HX1).trans (hx2.mono (unhide HX1).size)
      have HX2 := hide hx12
      obtain ⟨m0'', m1'', m2''⟩ := ((unhide HMB9).below hx12 (unhide HMB9).lt).all
      clear hx2 hx12
      go_wp2_with fail
      refine (unhide HIN _ (unhide HX2)).mono ?_
      rintro e x3 ⟨rfl, hx3⟩
      have HX3 := hide ((unhide HX2).trans (hx3.mono (unhide HX2).size))
      clear hx3
      go_wp2_with fail
      go_meet
      case rel => exact ⟨rfl, HX3⟩
    · rw [hi] at HIN
      subst hE
      subst hS
      clear hi
      go_wp2_with fail
      refine (unhide HIN _ (Below.refl _ _)).mono ?_
      rintro e x1 ⟨rfl, hx1⟩
      have HX1 := hide hx1
      obtain ⟨m0', m1', m2'⟩ := ((unhide HMB9).below hx1 (unhide HMB9).lt).all
      clear hx1
      go_wp2_with fail
      refine (unhide HIN _ (unhide HX1)).mono ?_
      rintro e x3 ⟨rfl, hx3⟩
      have HX3 := hide ((unhide HX1).trans (hx3.mono (unhide HX1).size))
      clear hx3
      go_wp2_with fail
      go_meet
      case rel => exact ⟨rfl, HX3⟩
  case rest =>
    obtain ⟨rfl, HZ⟩ := hcut
    obtain ⟨wk, hwk⟩ : ∃ wk, wk = wc := ⟨_, rfl⟩
    rw [← hwk] at HZ ⊢
    clear hwk
    have HMFK := hide ((unhide HMF9).step (unhide HZ))
    have HMAK := hide ((unhide HMA9).below (unhide HZ) (unhide HMA9).lt)
    have HLD := hide ((unhide HLD9).below (unhide HZ))
    obtain ⟨w10, hw10⟩ : ∃ w10, w10 = wk.alloc (.cells #[.int .i64 0, .int .i64 0, .int .u8 0] 29 (0, 0)) := ⟨_, rfl⟩
    have HB10 := hide (show Below wk.heap.size wk w10 by rw [hw10]; exact (Below.refl _ _).alloc (Nat.le_refl _) _)
    have HBX0 := hide (show isMb w10 wk.heap.size 0 0 0 by rw [hw10]; exact heap_alloc_new wk _)
    have HS10 := hide (show w10.heap.size = wk.heap.size + 1 by rw [hw10]; simp)
    have HW10 := hide hw10
    clear HMF9 HMB9 HMA9 HLD9 HZ hw10
    go_upto_region 10 with fail
    rw [← unhide HW10]
    clear HW10
    go_wp2_with fail
    go_loopw [19, 107] (fun gv iv wr => ∃ (i : Nat) (r : Mv) (rg : Int), gv = .int .i64 rg ∧ iv = .int .i64 (i : Int) ∧ i ≤ n ∧ Hid (lastM tx s (L.take i) = (r, rg)) ∧ Hid (isMb wr wk.heap.size r.f r.t r.c) ∧ Hid (Below wk.heap.size wk wr) ∧ wk.heap.size < wr.heap.size) (fun _ iv _ => n - (intOf iv).toNat)
    case atStart => exact ⟨0, ⟨0, 0, 0⟩, 5, rfl, rfl, Nat.zero_le _, hide rfl, HBX0, HB10, by have := unhide HS10; omega⟩
    case round =>
      obtain ⟨i, r, rg, rfl, rfl, hi, HLA, HRB, HB, hswr⟩ := hrel
      have hmfr := (unhide HMFK).step (unhide HB)
      by_cases hlt : i < n
      · have hlti : (i : Int) < (n : Int) := by omega
        have hi0 : (0 : Int) ≤ (i : Int) := by omega
        have hil : i < L.length := by rw [← unhide HN]; exact hlt
        obtain ⟨m, hm⟩ : ∃ m, m = L[i] := ⟨_, rfl⟩
        have hmi : L[i]? = some m := by rw [hm]; exact List.getElem?_eq_getElem hil
        have hla := lastM_snoc (tx := tx) (s := s) hmi
        rw [unhide HLA] at hla
        have HMT1 := hide (unhide HMT m (List.mem_of_getElem? hmi))
        obtain ⟨X, hX⟩ : ∃ X : ByteArray, X = ⟨(tx m).toArray⟩ := ⟨_, rfl⟩
        rw [← hX] at HMT1
        have hXs : (X = s) ↔ tx m = s.data.toList := by
          rw [hX]
          constructor
          · intro h; rw [← h]
          · intro h; rw [h]
        obtain ⟨ao, cap, e1, hle, hmx, hcs⟩ := (unhide HLD).below (unhide HB)
        obtain ⟨g, off, eg, hgk, c0, c1, c2⟩ := hcs i m hmi
        simp only [Value.slice.injEq] at e1
        obtain ⟨e1, e2, e3⟩ := e1
        subst eg
        subst e1
        subst e3
        unfold maxLen at hmx
        rw [← unhide HN] at hle
        have hnx : n ≤ 9223372036854775807 := by omega
        have hszr := hmfr.sz
        have hHS : ∀ u, Below wr.heap.size wr u → (u.cell? ⟨w.heap.size + 1, 0, none⟩ = some (.int .i64 W) ∧ u.cell? ⟨w.heap.size + 1, 1, none⟩ = some (.int .i64 H) ∧ u.cell? ⟨w.heap.size + 1, 2, none⟩ = some (.string C) ∧ u.cell? ⟨w.heap.size + 1, 3, none⟩ = some (.int .i64 T) ∧ u.cell? ⟨w.heap.size + 1, 4, none⟩ = some (.string A) ∧ u.cell? ⟨w.heap.size + 1, 5, none⟩ = some (.string B) ∧ u.cell? ⟨g, off + i * 3, none⟩ = some (.int .i64 m.f) ∧ u.cell? ⟨g, off + i * 3 + 1, none⟩ = some (.int .i64 (m.t : Int)) ∧ u.cell? ⟨g, off + i * 3 + 2, none⟩ = some (.int .u8 (m.c : Int))) := fun u hu => by
          obtain ⟨y0, y1, y2, y3, y4, y5⟩ := (hmfr.pb.below hu (by omega)).all
          exact ⟨y0, y1, y2, y3, y4, y5, (hu.cell (p := ⟨g, off + i * 3, none⟩) hgk).trans c0, (hu.cell (p := ⟨g, off + i * 3 + 1, none⟩) hgk).trans c1, (hu.cell (p := ⟨g, off + i * 3 + 2, none⟩) hgk).trans c2⟩
        have HS := hide hHS
        have HB0 : Hid (Below wr.heap.size wr wr.drew) := hide (Below.refl _ _).drew
        have HXS := hide hXs
        have HLA2 := hide hla
        clear hHS hm hmi hla hX hXs hcs e2 hmfr hil c0 c1 c2
        obtain ⟨bq, hbq⟩ : ∃ bq : Bool, (X.toList == s.toList) = bq := ⟨_, rfl⟩
        have HBQ := hide hbq
        go_upto_region 13 with fail
        go_region_held3 (fun u => u.cell? ⟨w.heap.size + 1, 0, none⟩ = some (.int .i64 W) ∧ u.cell? ⟨w.heap.size + 1, 1, none⟩ = some (.int .i64 H) ∧ u.cell? ⟨w.heap.size + 1, 2, none⟩ = some (.string C) ∧ u.cell? ⟨w.heap.size + 1, 3, none⟩ = some (.int .i64 T) ∧ u.cell? ⟨w.heap.size + 1, 4, none⟩ = some (.string A) ∧ u.cell? ⟨w.heap.size + 1, 5, none⟩ = some (.string B) ∧ u.cell? ⟨g, off + i * 3, none⟩ = some (.int .i64 m.f) ∧ u.cell? ⟨g, off + i * 3 + 1, none⟩ = some (.int .i64 (m.t : Int)) ∧ u.cell? ⟨g, off + i * 3 + 2, none⟩ = some (.int .u8 (m.c : Int)))
          (first
            | with_reducible exact unhide HS _ (unhide HB0)
            | with_reducible exact unhide HS _ (unhide HX))
          (first
            | (go_at_call 19; (with_reducible refine (unhide HMT1 _).mono ?_); rintro e wx ⟨rfl, hbx⟩
               have HX : Hid (Below wr.heap.size wr wx) := hide ((unhide HB0).trans (hbx.mono (unhide HB0).size))
               clear hbx))
        all_goals
          obtain ⟨-, -, -, -, -, -, d0, d1, d2⟩ := unhide HS _ (unhide HX)
          have hrb := (unhide HRB).below (unhide HX) (by omega)
          have HRX := hide hrb
          obtain ⟨k0, k1, k2⟩ := hrb.all
          have z0 := isMb.frozen8 hrb 0
          have z1 := isMb.frozen8 hrb 1
          have z2 := isMb.frozen8 hrb 2
          have hxsz := (unhide HX).size
          have HBX := hide ((unhide HB).trans ((unhide HX).mono (unhide HB).size))
          clear hrb
          cases bq with
          | true =>
            have hxs : X = s := by
              have := unhide HBQ
              rw [beq_iff_eq, Lib.toList_data, Lib.toList_data] at this
              exact ByteArray.ext (Array.ext' this)
            have hl2 := unhide HLA2
            rw [if_pos ((unhide HXS).1 hxs)] at hl2
            have HL2 := hide hl2
            have hfin := isMb.setAll8 (unhide HRX) m.f m.t m.c
            have hbf := below_set3 (b := wk.heap.size) (unhide HBX) (Nat.le_refl _) (.int .i64 m.f) (.int .i64 (m.t : Int)) (.int .u8 (m.c : Int))
            have HFIN := hide hfin
            have HBF := hide hbf
            clear hxs hl2 hfin hbf
            go_wp2
            go_roundw
            case rel => exact ⟨i + 1, m, 0, rfl, by go_num, by omega, HL2, HFIN, HBF, by simp [World.setCell]; omega⟩
            case measure => simp only [intOf]; omega
          | false =>
            have hxs : ¬ X = s := by
              intro h
              have := unhide HBQ
              rw [h] at this
              simp at this
            have hl2 := unhide HLA2
            rw [if_neg (fun h => hxs ((unhide HXS).2 h))] at hl2
            have HL2 := hide hl2
            clear hxs hl2
            go_wp2
            go_roundw
            case rel => exact ⟨i + 1, r, rg, rfl, by go_num, by omega, HL2, HRX, HBX, by omega⟩
            case measure => simp only [intOf]; omega
      · have hlti : ¬ (i : Int) < (n : Int) := by omega
        have hl2 := unhide HLA
        rw [List.take_of_length_le (by rw [← unhide HN]; omega), ← unhide HRL] at hl2
        simp only [Prod.mk.injEq] at hl2
        obtain ⟨hra, hrg⟩ := hl2
        subst hra
        subst hrg
        have HMFR := hide hmfr
        have hma := (unhide HMAK).below (unhide HB) (unhide HMAK).lt
        obtain ⟨a0, a1, a2⟩ := hma.all
        obtain ⟨k0, k1, k2⟩ := (unhide HRB).all
        have heq := fun u => eqMove_same u a.f a.t a.c
        clear hma hmfr HLA
        by_cases hd0 : d < 0
        · obtain ⟨hn0, hg0⟩ := unhide HRG (.inl hd0)
          subst hn0
          subst hg0
          go_wp2
          go_ret
          exact ⟨rfl, (unhide HMFR).bw⟩
        · by_cases hd6 : 6 < d
          · obtain ⟨hn0, hg0⟩ := unhide HRG (.inr hd6)
            subst hn0
            subst hg0
            go_wp2
            go_ret
            exact ⟨rfl, (unhide HMFR).bw⟩
          · obtain ⟨D, hD⟩ : ∃ D : Nat, d = D := ⟨d.toNat, by omega⟩
            subst hD
            have hD6 : D ≤ 6 := by omega
            have hcnt := unhide HCT D rfl hD6
            have HCNT := hide hcnt
            clear hcnt HCT HRG
            go_wp2_with fail
            clear a0 a1 a2 k0 k1 k2
            go_loopw [21] (fun iv wz => ∃ i : Nat, iv = .int .i64 (i : Int) ∧ i ≤ D + 1 ∧ Hid (∀ j : Nat, j < i → j < D ∧ P j ≤ 100000) ∧ Hid (Below wr.heap.size wr wz)) (fun iv _ => D + 1 - (intOf iv).toNat)
            case atStart => exact ⟨0, rfl, by omega, hide (fun j hj => by omega), hide (Below.refl _ _)⟩
            case round =>
              obtain ⟨i, rfl, hi, HPJ, HBZ⟩ := hrel
              by_cases hle : i ≤ D
              · have hlei : (i : Int) ≤ (D : Int) := by omega
                have hmz := (unhide HMFR).step (unhide HBZ)
                have HPI := hide (unhide HPA i (by omega) _ hmz.bw)
                have hPb := unhide HPB7 i (by omega)
                obtain ⟨x, hx⟩ : ∃ x, x = P i := ⟨_, rfl⟩
                rw [← hx] at HPI hPb
                have HXP := hide hx
                obtain ⟨r0, r1, r2, r3, r4, r5, r6, r7, r8, r9, r10, r11, r12⟩ := hmz.ru.cells
                obtain ⟨p0, p1, p2, p3, p4, p5⟩ := hmz.pb.all
                have HMZ := hide hmz
                clear hmz hx
                go_wp2_with fail
                refine (unhide HPI).mono ?_
                rintro e wy ⟨rfl, hby⟩
                have HBY := hide ((unhide HMZ).step hby).bw
                have HBZY := hide ((unhide HBZ).trans (hby.mono (unhide HBZ).size))
                clear r0 r1 r2 r3 r4 r5 r6 r7 r8 r9 r10 r11 r12 p0 p1 p2 p3 p4 p5 hby HMZ HPI
                by_cases hbig : 100000 < x
                · have hbigi : (100000 : Int) < (x : Int) := by omega
                  have hng : n1 = 0 ∧ g1 = 2 := by
                    rcases unhide HCNT with ⟨-, h1, h2⟩ | ⟨h1, -, -⟩
                    · exact ⟨h1, h2⟩
                    · have := h1 i hle
                      rw [← unhide HXP] at this
                      omega
                  obtain ⟨hn0, hg0⟩ := hng
                  subst hn0
                  subst hg0
                  go_wp2
                  go_ret
                  exact ⟨rfl, unhide HBY⟩
                · have hbigi : ¬ (100000 : Int) < (x : Int) := by omega
                  by_cases heqd : i = D
                  · have hng : n1 = (x : Int) ∧ g1 = 0 := by
                      rcases unhide HCNT with ⟨⟨j, hj, h1⟩, -, -⟩ | ⟨-, h1, h2⟩
                      · by_cases hji : j < i
                        · have := (unhide HPJ j hji).2
                          omega
                        · obtain rfl : j = i := by omega
                          rw [← unhide HXP] at h1
                          omega
                      · rw [← heqd, ← unhide HXP] at h1
                        exact ⟨h1, h2⟩
                    obtain ⟨hn0, hg0⟩ := hng
                    subst hg0
                    have hnx : (n1 == (x : Int)) = true := by simp [hn0]
                    have hidb : ((i : Int) == (D : Int)) = true := by simp [heqd]
                    clear hn0
                    go_wp2
                    go_ret
                    exact ⟨by rfl, unhide HBY⟩
                  · have hidb : ((i : Int) == (D : Int)) = false := by simp; omega
                    have HPJ2 : Hid (∀ j : Nat, j < i + 1 → j < D ∧ P j ≤ 100000) := hide (fun j hj => by
                      by_cases hji : j < i
                      · exact unhide HPJ j hji
                      · obtain rfl : j = i := by omega
                        exact ⟨by omega, by rw [← unhide HXP]; omega⟩)
                    go_wp2
                    go_roundw
                    case rel => exact ⟨i + 1, by go_num, by omega, HPJ2, HBZY⟩
                    case measure => simp only [intOf]; omega
              · exfalso
                have := (unhide HPJ D (by omega)).1
                omega
end Go.Proofs.YtbglppcbgfkhmabGreatDoor

namespace Go.Proofs.YtbglppcbgfkhmabGreatDoor
open Go.RowKit

theorem acc_true {α : Type} {f t : α → Nat} (h : ∀ q, (f q ≤ 100000 → f q = t q) ∧ (100000 < f q → 100000 < t q)) : ∀ (l : List α) (n : Nat), (accN f n l ≤ 100000 → accN f n l = n + (l.map t).sum) ∧ (100000 < accN f n l → 100000 < n + (l.map t).sum)
  | [], n => by simp [accN]
  | q :: l, n => by
    rw [accN, List.map_cons, List.sum_cons]
    split
    · by_cases hq : f q ≤ 100000
      · have ih := acc_true h l (n + f q)
        have e := (h q).1 hq
        rw [e] at ih ⊢
        constructor
        · intro h1; have := ih.1 h1; omega
        · intro h1; have := ih.2 h1; omega
      · rw [accN_stop (by omega)]
        have := (h q).2 (by omega)
        constructor
        · intro h1; omega
        · intro _; omega
    · constructor
      · intro h1; omega
      · intro _; omega
theorem ends_left {ps : List Pc} {dr : Bool} {lo : Nat} {li : Int} {re : Nat} : ∀ (d : Nat) (p : Po), endsP ps dr lo li re (d + 1) p = (nextP ps dr lo li re p).flatMap (endsP ps dr lo li re d)
  | 0, p => by
    show (([p] : List Po).flatMap (nextP ps dr lo li re)) = (nextP ps dr lo li re p).flatMap fun q => [q]
    rw [List.flatMap_cons, List.flatMap_nil, List.append_nil, List.flatMap_singleton']
  | d + 1, p => by
    rw [endsP, ends_left d p, List.flatMap_assoc]
    rfl
theorem len_sum4 {α β : Type} (f : α → List β) : ∀ l : List α, (l.flatMap f).length = (l.map fun a => (f a).length).sum
  | [] => rfl
  | a :: t => by rw [List.flatMap_cons, List.length_append, len_sum4 f t, List.map_cons, List.sum_cons]
theorem paths_true {ps : List Pc} {dr : Bool} {lo : Nat} {li : Int} {re : Nat} : ∀ (d : Nat) (p : Po), (pathsN (nextP ps dr lo li re) d p ≤ 100000 → pathsN (nextP ps dr lo li re) d p = (endsP ps dr lo li re d p).length) ∧ (100000 < pathsN (nextP ps dr lo li re) d p → 100000 < (endsP ps dr lo li re d p).length)
  | 0, p => by simp [pathsN, endsP]
  | d + 1, p => by
    have := acc_true (f := pathsN (nextP ps dr lo li re) d) (t := fun q => (endsP ps dr lo li re d q).length) (fun q => paths_true d q) (nextP ps dr lo li re p) 0
    rw [pathsN, ends_left, len_sum4]
    simpa using this
theorem many_paths {ps : List Pc} {dr : Bool} {lo : Nat} {li : Int} {re : Nat} {p : Po} {i : Nat} : 100000 < pathsN (nextP ps dr lo li re) i p ↔ 100000 < (endsP ps dr lo li re i p).length := by
  constructor
  · exact (paths_true i p).2
  · intro h
    by_cases h1 : pathsN (nextP ps dr lo li re) i p ≤ 100000
    · have := (paths_true (dr := dr) (lo := lo) (li := li) (re := re) i p).1 h1
      omega
    · omega

theorem read_last_no {tx : Mv → List UInt8} {s : ByteArray} : ∀ (L : List Mv) (acc : Mv × Int), (∀ m ∈ L, ¬ tx m = s.data.toList) → L.foldl (fun r m => if tx m = s.data.toList then (m, 0) else r) acc = acc ∧ readM tx s L = (⟨0, 0, 0⟩, 5)
  | [], acc, _ => ⟨rfl, rfl⟩
  | m :: t, acc, h => by
    have hm := h m (by simp)
    have ih := read_last_no t acc (fun x hx => h x (by simp [hx]))
    rw [List.foldl_cons, if_neg hm, readM, if_neg hm]
    exact ih
theorem read_last_yes {tx : Mv → List UInt8} {s : ByteArray} (m0 : Mv) : ∀ (L : List Mv) (acc : Mv × Int), (∀ m ∈ L, tx m = s.data.toList → m = m0) → (∃ m ∈ L, tx m = s.data.toList) → L.foldl (fun r m => if tx m = s.data.toList then (m, 0) else r) acc = (m0, 0) ∧ readM tx s L = (m0, 0)
  | [], acc, _, h => by obtain ⟨m, hm, _⟩ := h; cases hm
  | m :: t, acc, hu, h => by
    rw [List.foldl_cons, readM]
    by_cases hm : tx m = s.data.toList
    · rw [if_pos hm, if_pos hm, hu m (by simp) hm]
      refine ⟨?_, rfl⟩
      by_cases ht : ∃ x ∈ t, tx x = s.data.toList
      · exact (read_last_yes m0 t (m0, 0) (fun x hx => hu x (by simp [hx])) ht).1
      · exact (read_last_no t (m0, 0) (fun x hx e => ht ⟨x, hx, e⟩)).1
    · rw [if_neg hm, if_neg hm]
      refine read_last_yes m0 t acc (fun x hx => hu x (by simp [hx])) ?_
      obtain ⟨x, hx, e⟩ := h
      rcases List.mem_cons.1 hx with rfl | hx
      · exact absurd e hm
      · exact ⟨x, hx, e⟩
theorem read_last {tx : Mv → List UInt8} {s : ByteArray} {L : List Mv} (hi : ∀ x ∈ L, ∀ y ∈ L, tx x = tx y → x = y) : readM tx s L = lastM tx s L := by
  unfold lastM
  by_cases h : ∃ m ∈ L, tx m = s.data.toList
  · obtain ⟨m0, hm0, e0⟩ := h
    obtain ⟨h1, h2⟩ := read_last_yes m0 L (⟨0, 0, 0⟩, 5) (fun x hx e => hi x hx m0 hm0 (e.trans e0.symm)) ⟨m0, hm0, e0⟩
    rw [h1, h2]
  · obtain ⟨h1, h2⟩ := read_last_no L (⟨0, 0, 0⟩, 5) (fun x hx e => h ⟨x, hx, e⟩)
    rw [h1, h2]
end Go.Proofs.YtbglppcbgfkhmabGreatDoor
