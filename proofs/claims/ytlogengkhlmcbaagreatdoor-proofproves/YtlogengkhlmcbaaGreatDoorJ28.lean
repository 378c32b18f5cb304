/-
  package proof, walked: isShownBehind, isShown.
  package proof: cert, at every number of moves.
-/
import Derived.Test.YtlogengkhlmcbaaGreatDoorJ14
import Derived.Deep.RegionHeld3
import Derived.Deep.Cut
import Derived.Test.YtlogengkhlmcbaaGreatDoorK26
import Derived.Test.YtlogengkhlmcbaaGreatDoorK27
import Derived.Test.YtlogengkhlmcbaaGreatDoorJ18
namespace Go.Proofs.YtlogengkhlmcbaaGreatDoor
open Go.RowKit
attribute [local go_sem ↓] Go.wp_at_zero Go.wp_at_succ

/-- A kid for each move, each of which shows it. -/
def shK (sh : Po → Ct → Bool) (beh : Mv → Po) : List Ct → List Mv → Bool
  | [], [] => true
  | k :: ks, m :: ms => sh (beh m) k && shK sh beh ks ms
  | _, _ => false
/-- Does the cert show it within so many moves? -/
def shN (L : Po → List Mv) (beh : Po → Mv → Po) (o : Po → Int) (win : Int) : Nat → Po → Ct → Bool
  | 0, p, x => decide (o p = win + 1) && (bareB x.s x.f x.t x.c && x.ks.isEmpty)
  | n + 1, p, x => if o p = win + 1 then bareB x.s x.f x.t x.c && x.ks.isEmpty else if L p = [] then false else if p.T = win then x.s && inM x.f x.t x.c (L p) && shK (shN L beh o win n) (beh p) x.ks [⟨x.f, x.t.toNat, x.c⟩] else bareB x.s x.f x.t x.c && shK (shN L beh o win n) (beh p) x.ks (L p)
theorem shK_len {sh : Po → Ct → Bool} {beh : Mv → Po} : ∀ {ks : List Ct} {ms : List Mv}, ks.length ≠ ms.length → shK sh beh ks ms = false
  | [], [], h => absurd rfl h
  | [], _ :: _, _ => rfl
  | _ :: _, [], _ => rfl
  | k :: ks, m :: ms, h => by
    rw [shK, shK_len (ks := ks) (ms := ms) (by simpa using h), Bool.and_false]
theorem shK_drop {sh : Po → Ct → Bool} {beh : Mv → Po} {ks : List Ct} {ms : List Mv} {i : Nat} {k : Ct} {m : Mv} (hk : ks[i]? = some k) (hm : ms[i]? = some m) : shK sh beh (ks.drop i) (ms.drop i) = (sh (beh m) k && shK sh beh (ks.drop (i + 1)) (ms.drop (i + 1))) := by
  obtain ⟨h1, rfl⟩ := List.getElem?_eq_some_iff.1 hk
  obtain ⟨h2, rfl⟩ := List.getElem?_eq_some_iff.1 hm
  rw [List.drop_eq_getElem_cons h1, List.drop_eq_getElem_cons h2, shK]

set_option maxHeartbeats 4000000 in
set_option maxRecDepth 100000 in
theorem behind_walk (v0 v1 v2 v3 v4 v5 v6 v7 v8 v9 v10 v11 v12 : Value) (win : Int) (p : Po) (beh : Mv → Po) (sh : Po → Ct → Bool) (n d B : Nat) (ko : Option Addr) (kc : Nat) (ks : List Ct) (mv : Value) (ms : List Mv) (w : World) (hn9 : n ≤ 9) (hB : B ≤ w.heap.size)
    (hks : isCts d w B ko kc ks) (hms : isMvs w mv ms)
    (hBe : ∀ m ∈ ms, ∀ u, Below w.heap.size w u → Calls Tryz.prog 49 #[.agg #[v0, v1, v2, v3, v4, v5, v6, v7, v8, v9, v10, v11, v12], .agg #[.int .i64 p.W, .int .i64 p.H, .string p.C, .int .i64 p.T, .string p.A, .string p.B], .agg #[.int .i64 m.f, .int .i64 (m.t : Int), .int .u8 (m.c : Int)]] u fun e w' => e = .returned (.agg #[.int .i64 (beh m).W, .int .i64 (beh m).H, .string (beh m).C, .int .i64 (beh m).T, .string (beh m).A, .string (beh m).B]) ∧ Below u.heap.size u w')
    (hSh : ∀ m ∈ ms, ∀ (x : Ct) (no : Option Addr) (nc d' : Nat) (u : World), Below w.heap.size w u → isCts d' u B no nc x.ks → x.c < 256 → Calls Tryz.prog 14 #[.agg #[v0, v1, v2, v3, v4, v5, v6, v7, v8, v9, v10, v11, v12, .int .i64 win], .agg #[.bool x.s, .int .i64 x.f, .int .i64 x.t, .int .u8 (x.c : Int), .slice no x.ks.length nc], .agg #[.int .i64 (beh m).W, .int .i64 (beh m).H, .string (beh m).C, .int .i64 (beh m).T, .string (beh m).A, .string (beh m).B], .int .i64 (n : Int)] u fun e w' => e = .returned (.bool (sh (beh m) x)) ∧ Below u.heap.size u w') :
    Calls Tryz.prog 33 #[.agg #[v0, v1, v2, v3, v4, v5, v6, v7, v8, v9, v10, v11, v12, .int .i64 win], .slice ko ks.length kc, .agg #[.int .i64 p.W, .int .i64 p.H, .string p.C, .int .i64 p.T, .string p.A, .string p.B], mv, .int .i64 ((n + 1 : Nat) : Int)] w fun e w' => e = .returned (.bool (shK sh beh ks ms)) ∧ Below w.heap.size w w' := by
  obtain ⟨w1, hw1⟩ : ∃ w1, w1 = w.alloc (.cells #[v0, v1, v2, v3, v4, v5, v6, v7, v8, v9, v10, v11, v12, .int .i64 win] 46 (0, 0)) := ⟨_, rfl⟩
  obtain ⟨w2, hw2⟩ : ∃ w2, w2 = w1.alloc (.cells #[.int .i64 p.W, .int .i64 p.H, .string p.C, .int .i64 p.T, .string p.A, .string p.B] 24 (0, 0)) := ⟨_, rfl⟩
  have hb1 : Below w.heap.size w w1 := by rw [hw1]; exact (Below.refl _ _).alloc (Nat.le_refl _) _
  have hb2 : Below w1.heap.size w1 w2 := by rw [hw2]; exact (Below.refl _ _).alloc (Nat.le_refl _) _
  have s1 : w1.heap.size = w.heap.size + 1 := by rw [hw1]; simp
  have s2 : w2.heap.size = w.heap.size + 2 := by rw [hw2]; simp [s1]
  have hcl : isCl w2 w.heap.size v0 v1 v2 v3 v4 v5 v6 v7 v8 v9 v10 v11 v12 win := isCl.below (show isCl w1 w.heap.size v0 v1 v2 v3 v4 v5 v6 v7 v8 v9 v10 v11 v12 win by rw [hw1]; exact heap_alloc_new w _) hb2 (by omega)
  have hpb : isPb w2 (w.heap.size + 1) p.W p.H p.T p.C p.A p.B := by rw [hw2, ← s1]; exact heap_alloc_new w1 _
  have hbw : Below w.heap.size w w2 := hb1.trans (hb2.mono (by omega))
  obtain ⟨mo, mc, rfl, hml, hmx, hmc⟩ := hms
  obtain ⟨a, ha⟩ : ∃ a, a = ks.length := ⟨_, rfl⟩
  obtain ⟨b, hb⟩ : ∃ b, b = ms.length := ⟨_, rfl⟩
  obtain ⟨N, hN⟩ : ∃ N : Nat, N = n + 1 := ⟨_, rfl⟩
  obtain ⟨R, hR⟩ : ∃ R, R = shK sh beh ks ms := ⟨_, rfl⟩
  rw [← ha, ← hb, ← hN, ← hR]
  rw [← hb] at hml
  unfold maxLen at hmx
  have hN1 : (N : Int) - 1 = (n : Int) := by omega
  have wN : IntKind.i64.wrap (n : Int) = (n : Int) := by unfold IntKind.wrap; simp [IntKind.signed, IntKind.bits]; omega
  have hb9 : b ≤ 9223372036854775807 := by omega
  have HA := hide ha
  have HBb := hide hb
  have HR := hide hR
  have HKS := hide hks
  have HMC := hide hmc
  have HBE := hide hBe
  have HSH := hide hSh
  have HCL := hide hcl
  have HPB := hide hpb
  have HBW := hide hbw
  have HW1 := hide hw1
  have HW2 := hide hw2
  have HS2 := hide s2
  clear hw1 hw2 hb1 hb2 s1 s2 hcl hpb hbw ha hb hN hR hks hmc hBe hSh
  by_cases hab : a = b
  · subst hab
    have hbe : ((a : Int) != (a : Int)) = false := by simp
    go_enter Tryz.func33, Tryz.ntmps33
    go_wp2_with fail
    rw [← unhide HW1, ← unhide HW2]
    clear HW1 HW2
    go_loopw [20] (fun iv wr => ∃ i : Nat, iv = .int .i64 (i : Int) ∧ i ≤ a ∧ Hid (shK sh beh (ks.drop i) (ms.drop i) = R) ∧ Hid (Below w2.heap.size w2 wr)) (fun iv _ => a - (intOf iv).toNat)
    case atStart => exact ⟨0, rfl, Nat.zero_le _, hide (unhide HR).symm, hide (Below.refl _ _)⟩
    case round =>
      obtain ⟨i, rfl, hi, HRI, HB⟩ := hrel
      have hbr := (unhide HBW).trans ((unhide HB).mono (unhide HBW).size)
      have hs2 := unhide HS2
      have hclr := (unhide HCL).below (unhide HB) (by omega)
      have hpbr := (unhide HPB).below (unhide HB) (by omega)
      have hsr := (unhide HB).size
      by_cases hlt : i < a
      · have hlti : (i : Int) < (a : Int) := by omega
        have hi0 : (0 : Int) ≤ (i : Int) := by omega
        have hik : i < ks.length := by rw [← unhide HA]; exact hlt
        have him : i < ms.length := by rw [← unhide HBb]; exact hlt
        obtain ⟨x, hx⟩ : ∃ x, x = ks[i] := ⟨_, rfl⟩
        obtain ⟨m, hm⟩ : ∃ m, m = ms[i] := ⟨_, rfl⟩
        have hxi : ks[i]? = some x := by rw [hx]; exact List.getElem?_eq_getElem hik
        have hmi : ms[i]? = some m := by rw [hm]; exact List.getElem?_eq_getElem him
        have hmem := List.mem_of_getElem? hmi
        have hst := unhide HRI
        rw [shK_drop hxi hmi] at hst
        obtain ⟨g2, off2, eg2, hg2, c0, c1, c2⟩ := unhide HMC i m hmi
        subst eg2
        have d0 := (hbr.cell (p := ⟨g2, off2 + i * 3, none⟩) hg2).trans c0
        have d1 := (hbr.cell (p := ⟨g2, off2 + i * 3 + 1, none⟩) hg2).trans c1
        have d2 := (hbr.cell (p := ⟨g2, off2 + i * 3 + 2, none⟩) hg2).trans c2
        cases d with
        | zero =>
          exfalso
          rw [(unhide HKS).1] at hik
          simp at hik
        | succ d =>
          obtain ⟨hkl, hkx, hkn, hkc⟩ := unhide HKS
          obtain ⟨g, off, eg, hg, hcc⟩ := hkc (by intro e; rw [e] at hik; simp at hik)
          subst eg
          obtain ⟨hx256, no, nc, x0, x1, x2, x3, x4, x5⟩ := hcc i x hxi
          obtain ⟨wi, hwi⟩ : ∃ wi, wi = wr.alloc (.cells #[.int .i64 m.f, .int .i64 (m.t : Int), .int .u8 (m.c : Int)] 29 (0, 0)) := ⟨_, rfl⟩
          have hbi : Below wr.heap.size wr wi := by rw [hwi]; exact (Below.refl _ _).alloc (Nat.le_refl _) _
          have hmbi : isMb wi wr.heap.size m.f m.t m.c := by rw [hwi]; exact heap_alloc_new wr _
          have si : wi.heap.size = wr.heap.size + 1 := by rw [hwi]; simp
          have hbwi := hbr.trans (hbi.mono hbr.size)
          have hcli := hclr.below hbi (by omega)
          have hpbi := hpbr.below hbi (by omega)
          have HM1 := hide (unhide HBE m hmem)
          have HP1 := hide (fun u (hu : Below wi.heap.size wi u) => unhide HSH m hmem x no nc d u (hbwi.trans (hu.mono hbwi.size)) (isCts.below (hbwi.trans (hu.mono hbwi.size)) hB d no nc x.ks x5) hx256)
          obtain ⟨Q, hQ⟩ : ∃ Q, Q = beh m := ⟨_, rfl⟩
          rw [← hQ] at HM1 HP1 hst
          obtain ⟨r, hr⟩ : ∃ r, r = sh Q x := ⟨_, rfl⟩
          rw [← hr] at HP1 hst
          obtain ⟨kl, hkle⟩ : ∃ kl, kl = x.ks.length := ⟨_, rfl⟩
          rw [← hkle] at HP1 x4
          unfold maxLen at hkx
          have hak : a ≤ kc := by rw [unhide HA]; exact hkl
          have hHS : ∀ u, Below wi.heap.size wi u → (u.cell? ⟨w.heap.size, 0, none⟩ = some v0 ∧ u.cell? ⟨w.heap.size, 1, none⟩ = some v1 ∧ u.cell? ⟨w.heap.size, 2, none⟩ = some v2 ∧ u.cell? ⟨w.heap.size, 3, none⟩ = some v3 ∧ u.cell? ⟨w.heap.size, 4, none⟩ = some v4 ∧ u.cell? ⟨w.heap.size, 5, none⟩ = some v5 ∧ u.cell? ⟨w.heap.size, 6, none⟩ = some v6 ∧ u.cell? ⟨w.heap.size, 7, none⟩ = some v7 ∧ u.cell? ⟨w.heap.size, 8, none⟩ = some v8 ∧ u.cell? ⟨w.heap.size, 9, none⟩ = some v9 ∧ u.cell? ⟨w.heap.size, 10, none⟩ = some v10 ∧ u.cell? ⟨w.heap.size, 11, none⟩ = some v11 ∧ u.cell? ⟨w.heap.size, 12, none⟩ = some v12 ∧ u.cell? ⟨w.heap.size, 13, none⟩ = some (.int .i64 win) ∧ u.cell? ⟨w.heap.size + 1, 0, none⟩ = some (.int .i64 p.W) ∧ u.cell? ⟨w.heap.size + 1, 1, none⟩ = some (.int .i64 p.H) ∧ u.cell? ⟨w.heap.size + 1, 2, none⟩ = some (.string p.C) ∧ u.cell? ⟨w.heap.size + 1, 3, none⟩ = some (.int .i64 p.T) ∧ u.cell? ⟨w.heap.size + 1, 4, none⟩ = some (.string p.A) ∧ u.cell? ⟨w.heap.size + 1, 5, none⟩ = some (.string p.B) ∧ u.cell? ⟨wr.heap.size, 0, none⟩ = some (.int .i64 m.f) ∧ u.cell? ⟨wr.heap.size, 1, none⟩ = some (.int .i64 (m.t : Int)) ∧ u.cell? ⟨wr.heap.size, 2, none⟩ = some (.int .u8 (m.c : Int)) ∧ u.cell? ⟨g, off + i * 5, none⟩ = some (.bool x.s) ∧ u.cell? ⟨g, off + i * 5 + 1, none⟩ = some (.int .i64 x.f) ∧ u.cell? ⟨g, off + i * 5 + 2, none⟩ = some (.int .i64 x.t) ∧ u.cell? ⟨g, off + i * 5 + 3, none⟩ = some (.int .u8 (x.c : Int)) ∧ u.cell? ⟨g, off + i * 5 + 4, none⟩ = some (.slice no kl nc)) := fun u hu => by
            obtain ⟨y0, y1, y2, y3, y4, y5, y6, y7, y8, y9, y10, y11, y12, y13⟩ := (hcli.below hu (by omega)).all
            obtain ⟨z0, z1, z2, z3, z4, z5⟩ := (hpbi.below hu (by omega)).all
            obtain ⟨n0, n1, n2⟩ := (hmbi.below hu (by omega)).all
            have hbu := hbwi.trans (hu.mono hbwi.size)
            exact ⟨y0, y1, y2, y3, y4, y5, y6, y7, y8, y9, y10, y11, y12, y13, z0, z1, z2, z3, z4, z5, n0, n1, n2, (hbu.cell (p := ⟨g, off + i * 5, none⟩) (by dsimp only; omega)).trans x0, (hbu.cell (p := ⟨g, off + i * 5 + 1, none⟩) (by dsimp only; omega)).trans x1, (hbu.cell (p := ⟨g, off + i * 5 + 2, none⟩) (by dsimp only; omega)).trans x2, (hbu.cell (p := ⟨g, off + i * 5 + 3, none⟩) (by dsimp only; omega)).trans x3, (hbu.cell (p := ⟨g, off + i * 5 + 4, none⟩) (by dsimp only; omega)).trans x4⟩
          have HS := hide hHS
          have HBW2 := hide (fun u (hu : Below wi.heap.size wi u) => hbwi.trans (hu.mono hbwi.size))
          have HB0 : Hid (Below wi.heap.size wi wi.drew) := hide (Below.refl _ _).drew
          have HBI := hide ((unhide HB).trans (hbi.mono hsr))
          have HST := hide hst
          have HWI := hide hwi
          clear hHS hx hm hxi hmi hmem hst c0 c1 c2 x0 x1 x2 x3 x4 x5 hcc hwi hbi hmbi si hbwi hcli hpbi hQ hr hkle hbr hclr hpbr hg hg2 hik him hkl hkn hkc HRI
          go_upto_region 6 with fail
          rw [← unhide HWI]
          clear HWI d0 d1 d2
          go_region_held3 (fun u => u.cell? ⟨w.heap.size, 0, none⟩ = some v0 ∧ u.cell? ⟨w.heap.size, 1, none⟩ = some v1 ∧ u.cell? ⟨w.heap.size, 2, none⟩ = some v2 ∧ u.cell? ⟨w.heap.size, 3, none⟩ = some v3 ∧ u.cell? ⟨w.heap.size, 4, none⟩ = some v4 ∧ u.cell? ⟨w.heap.size, 5, none⟩ = some v5 ∧ u.cell? ⟨w.heap.size, 6, none⟩ = some v6 ∧ u.cell? ⟨w.heap.size, 7, none⟩ = some v7 ∧ u.cell? ⟨w.heap.size, 8, none⟩ = some v8 ∧ u.cell? ⟨w.heap.size, 9, none⟩ = some v9 ∧ u.cell? ⟨w.heap.size, 10, none⟩ = some v10 ∧ u.cell? ⟨w.heap.size, 11, none⟩ = some v11 ∧ u.cell? ⟨w.heap.size, 12, none⟩ = some v12 ∧ u.cell? ⟨w.heap.size, 13, none⟩ = some (.int .i64 win) ∧ u.cell? ⟨w.heap.size + 1, 0, none⟩ = some (.int .i64 p.W) ∧ u.cell? ⟨w.heap.size + 1, 1, none⟩ = some (.int .i64 p.H) ∧ u.cell? ⟨w.heap.size + 1, 2, none⟩ = some (.string p.C) ∧ u.cell? ⟨w.heap.size + 1, 3, none⟩ = some (.int .i64 p.T) ∧ u.cell? ⟨w.heap.size + 1, 4, none⟩ = some (.string p.A) ∧ u.cell? ⟨w.heap.size + 1, 5, none⟩ = some (.string p.B) ∧ u.cell? ⟨wr.heap.size, 0, none⟩ = some (.int .i64 m.f) ∧ u.cell? ⟨wr.heap.size, 1, none⟩ = some (.int .i64 (m.t : Int)) ∧ u.cell? ⟨wr.heap.size, 2, none⟩ = some (.int .u8 (m.c : Int)) ∧ u.cell? ⟨g, off + i * 5, none⟩ = some (.bool x.s) ∧ u.cell? ⟨g, off + i * 5 + 1, none⟩ = some (.int .i64 x.f) ∧ u.cell? ⟨g, off + i * 5 + 2, none⟩ = some (.int .i64 x.t) ∧ u.cell? ⟨g, off + i * 5 + 3, none⟩ = some (.int .u8 (x.c : Int)) ∧ u.cell? ⟨g, off + i * 5 + 4, none⟩ = some (.slice no kl nc))
            (first
              | with_reducible exact unhide HS _ (unhide HB0)
              | with_reducible exact unhide HS _ (unhide HX)
              | with_reducible exact unhide HS _ (unhide HY))
            (first
              | (go_at_call 49; (with_reducible refine (unhide HM1 _ (unhide HBW2 _ (unhide HB0))).mono ?_); rintro e wx ⟨rfl, hbx⟩
                 have HX : Hid (Below wi.heap.size wi wx) := hide ((unhide HB0).trans (hbx.mono (unhide HB0).size))
                 clear hbx)
              | (go_at_call 14; (with_reducible refine (unhide HP1 _ (unhide HX)).mono ?_); rintro e wy ⟨rfl, hby⟩
                 have HY : Hid (Below wi.heap.size wi wy) := hide ((unhide HX).trans (hby.mono (unhide HX).size))
                 clear hby))
          all_goals
            have HBY := hide ((unhide HBI).trans ((unhide HY).mono (unhide HBI).size))
            cases r with
            | true =>
              have HST2 : Hid (shK sh beh (ks.drop (i + 1)) (ms.drop (i + 1)) = R) := hide (by have := unhide HST; simpa using this)
              go_wp2
              go_roundw
              case rel => exact ⟨i + 1, by go_num, by omega, HST2, HBY⟩
              case measure => simp only [intOf]; omega
            | false =>
              have HRF : Hid (R = false) := hide (by have := unhide HST; simpa using this.symm)
              have HBF := hide ((unhide HBW).trans ((unhide HBY).mono (unhide HBW).size))
              go_wp2
              go_ret
              exact ⟨by rw [unhide HRF]; rfl, unhide HBF⟩
      · have hlti : ¬ (i : Int) < (a : Int) := by omega
        have hRt : R = true := by
          have := unhide HRI
          rw [List.drop_eq_nil_of_le (by rw [← unhide HA]; omega), List.drop_eq_nil_of_le (by rw [← unhide HBb]; omega)] at this
          exact this.symm
        have HRT := hide hRt
        have HBF := hide hbr
        clear hRt hbr hclr hpbr
        go_wp2
        go_ret
        exact ⟨by rw [unhide HRT]; rfl, unhide HBF⟩
  · have hbe : ((a : Int) != (b : Int)) = true := by simp; omega
    have hRf : R = false := by rw [unhide HR]; exact shK_len (by rw [← unhide HA, ← unhide HBb]; exact hab)
    have HRF := hide hRf
    clear hRf hab
    go_enter Tryz.func33, Tryz.ntmps33
    go_wp2
    rw [← unhide HW1, ← unhide HW2]
    go_ret
    exact ⟨by rw [unhide HRF]; rfl, unhide HBW⟩
end Go.Proofs.YtlogengkhlmcbaaGreatDoor

namespace Go.Proofs.YtlogengkhlmcbaaGreatDoor
open Go.RowKit

section
variable {L : Po → List Mv} {beh : Po → Mv → Po} {o : Po → Int} {win : Int} {p : Po}
theorem sh_won (h : o p = win + 1) (n : Nat) : shN L beh o win n p (.mk false 0 0 0 []) = true := by
  cases n with
  | zero => simp [shN, h, bareB, Ct.s, Ct.f, Ct.t, Ct.c, Ct.ks]
  | succ n => simp [shN, h, bareB, Ct.s, Ct.f, Ct.t, Ct.c, Ct.ks]
theorem inM_self {m : Mv} {l : List Mv} (h : m ∈ l) : inM m.f (m.t : Int) m.c l = true := by
  unfold inM eqM
  exact List.any_eq_true.2 ⟨m, h, by simp⟩
theorem sh_one (ho : o p ≠ win + 1) (hT : p.T = win) {m : Mv} (hm : m ∈ L p) {n : Nat} {x : Ct} (h : shN L beh o win n (beh p m) x = true) : shN L beh o win (n + 1) p (.mk true m.f m.t m.c [x]) = true := by
  have h0 : L p ≠ [] := fun e => by rw [e] at hm; simp at hm
  rw [shN, if_neg ho, if_neg h0, if_pos hT]
  have hi := inM_self hm
  show (true && inM m.f (m.t : Int) m.c (L p) && shK (shN L beh o win n) (beh p) [x] [⟨m.f, (m.t : Int).toNat, m.c⟩]) = true
  rw [hi, Int.toNat_natCast]
  show (true && true && (shN L beh o win n (beh p m) x && true)) = true
  rw [h]
  rfl
theorem shK_all {sh : Po → Ct → Bool} {bh : Mv → Po} : ∀ {xs : List Ct} {ms : List Mv}, xs.length = ms.length → (∀ (i : Nat) (x : Ct) (m : Mv), xs[i]? = some x → ms[i]? = some m → sh (bh m) x = true) → shK sh bh xs ms = true
  | [], [], _, _ => rfl
  | [], _ :: _, h, _ => by simp at h
  | _ :: _, [], h, _ => by simp at h
  | x :: xs, m :: ms, h, ha => by
    rw [shK, ha 0 x m rfl rfl, Bool.true_and]
    exact shK_all (by simpa using h) (fun i x' m' h1 h2 => ha (i + 1) x' m' (by simpa using h1) (by simpa using h2))
theorem sh_all (ho : o p ≠ win + 1) (hT : p.T ≠ win) (h0 : L p ≠ []) {n : Nat} {xs : List Ct} (hl : xs.length = (L p).length) (h : ∀ (i : Nat) (x : Ct) (m : Mv), xs[i]? = some x → (L p)[i]? = some m → shN L beh o win n (beh p m) x = true) : shN L beh o win (n + 1) p (.mk false 0 0 0 xs) = true := by
  rw [shN, if_neg ho, if_neg h0, if_neg hT]
  show (bareB false 0 0 0 && shK (shN L beh o win n) (beh p) xs (L p)) = true
  rw [shK_all hl h]
  rfl
end

theorem cert_walk (ok : Po → Prop) (L : Po → List Mv) (beh : Po → Mv → Po) (o : Po → Int) (v0 v1 v2 v3 v4 v5 v6 v7 v8 v9 v10 v11 v12 : Value) (win : Int) (h g : Nat) (w00 : World)
    (D : Duel ok (fun q => (L q).map (beh q)) (fun q => o q == win + 1) (fun q => q.T == win)) (hgb : w00.heap.size ≤ g) (hne : h ≠ g) (hlen : ∀ p, ok p → (L p).length ≤ 4608) (hc8 : ∀ p, ok p → ∀ m ∈ L p, m.c < 256)
    (hN : ∀ (most : Nat) (p : Po), ok p → most ≤ 9 → ∀ w, Below w00.heap.size w00 w → isHu w h g v0 v1 v2 v3 v4 v5 v6 v7 v8 v9 v10 v11 v12 win → knows w g 262144 (huntF ok (fun q => (L q).map (beh q)) (fun q => o q == win + 1) (fun q => q.T == win)) → Calls Tryz.prog 12 #[.pointer (some ⟨h, 0, none⟩), .agg #[.int .i64 p.W, .int .i64 p.H, .string p.C, .int .i64 p.T, .string p.A, .string p.B], .int .i64 (most : Int)] w (NeedP (fun q => (L q).map (beh q)) (fun q => o q == win + 1) (fun q => q.T == win) p most g (huntF ok (fun q => (L q).map (beh q)) (fun q => o q == win + 1) (fun q => q.T == win)) w))
    (hX : ∀ p, ok p → ∀ u, Below w00.heap.size w00 u → Calls Tryz.prog 28 #[.agg #[v0, v1, v2, v3, v4, v5, v6, v7, v8, v9, v10, v11, v12], .agg #[.int .i64 p.W, .int .i64 p.H, .string p.C, .int .i64 p.T, .string p.A, .string p.B]] u fun e w' => ∃ x y, e = .returned (.tuple #[x, y, .int .i64 0]) ∧ w'.ownsRow u.heap.size 29 3 x (L p).length (mvals (L p)) ∧ w'.ownsRow u.heap.size 24 6 y (L p).length (povs ((L p).map (beh p))) ∧ Below u.heap.size u w') :
    ∀ (k most : Nat) (p : Po), ok p → most ≤ 9 → 2 * most + (if p.T == win then 0 else 1) ≤ k → ownN (fun q => (L q).map (beh q)) (fun q => o q == win + 1) (fun q => q.T == win) most p = true → ∀ w, Below w00.heap.size w00 w → isHu w h g v0 v1 v2 v3 v4 v5 v6 v7 v8 v9 v10 v11 v12 win → knows w g 262144 (huntF ok (fun q => (L q).map (beh q)) (fun q => o q == win + 1) (fun q => q.T == win)) →
      Calls Tryz.prog 13 #[.pointer (some ⟨h, 0, none⟩), .agg #[.int .i64 p.W, .int .i64 p.H, .string p.C, .int .i64 p.T, .string p.A, .string p.B], .int .i64 (most : Int)] w (CeP (fun n x => shN L beh o win n p x) (if p.T == win then 2 * most - 1 else 2 * most) g (k + 1) (huntF ok (fun q => (L q).map (beh q)) (fun q => o q == win + 1) (fun q => q.T == win)) w) := by
  intro k
  induction k with
  | zero =>
    intro most p hp hm hk hown w hw hH hK
    have hm0 : most = 0 := by omega
    subst hm0
    rw [own_zero] at hown
    have hL0 : L p = [] := by simpa using D.over p hp hown
    have hop : o p = win + 1 := by simpa using hown
    exact cert_none v0 v1 v2 v3 v4 v5 v6 v7 v8 v9 v10 v11 v12 win h g _ 0 _ p (L p) (beh p) _ _ w00 w hL0 hw hgb hne hH hK (hX p hp) (fun n _ => sh_won hop n)
  | succ k ih =>
    intro most p hp hm hk hown w hw hH hK
    by_cases hL0 : L p = []
    · have hop : o p = win + 1 := by
        have hwn : (o p == win + 1) = true := by
          cases e : (o p == win + 1) with
          | true => rfl
          | false =>
            have h2 := own_none (nx := (fun q => (L q).map (beh q))) (wn := (fun q => o q == win + 1)) (turn := (fun q => q.T == win)) (p := p) (by show (L p).map (beh p) = []; rw [hL0]; rfl) e most
            rw [hown] at h2
            exact absurd h2 (by simp)
        simpa using hwn
      exact cert_none v0 v1 v2 v3 v4 v5 v6 v7 v8 v9 v10 v11 v12 win h g _ most _ p (L p) (beh p) _ _ w00 w hL0 hw hgb hne hH hK (hX p hp) (fun n _ => sh_won hop n)
    · have hwf : (o p == win + 1) = false := by
        cases e : (o p == win + 1) with
        | false => rfl
        | true =>
          have h1 : (L p).map (beh p) = [] := D.over p hp e
          exact absurd (List.map_eq_nil_iff.1 h1) hL0
      have hop : o p ≠ win + 1 := by simpa using hwf
      have hstay : ∀ m ∈ L p, ok (beh p m) := fun m hm2 => D.stay p hp _ (List.mem_map.2 ⟨m, hm2, rfl⟩)
      have halt : ∀ m ∈ L p, ((beh p m).T == win) = !(p.T == win) := fun m hm2 => D.alt p hp _ (List.mem_map.2 ⟨m, hm2, rfl⟩)
      have hm1 : 1 ≤ most := by
        rcases Nat.eq_zero_or_pos most with h0 | h0
        · subst h0
          rw [own_zero, hwf] at hown
          exact absurd hown (by simp)
        · exact h0
      by_cases hT : p.T = win
      · have hT1 : (p.T == win) = true := by simp [hT]
        rw [hT1] at hk
        simp only [if_true] at hk
        have hC : ∀ m ∈ L p, ∀ j : Nat, j + 1 ≤ most → ownN (fun q => (L q).map (beh q)) (fun q => o q == win + 1) (fun q => q.T == win) j (beh p m) = true → ∀ u, Below w00.heap.size w00 u → isHu u h g v0 v1 v2 v3 v4 v5 v6 v7 v8 v9 v10 v11 v12 win → knows u g 262144 (huntF ok (fun q => (L q).map (beh q)) (fun q => o q == win + 1) (fun q => q.T == win)) → Calls Tryz.prog 13 #[.pointer (some ⟨h, 0, none⟩), .agg #[.int .i64 (beh p m).W, .int .i64 (beh p m).H, .string (beh p m).C, .int .i64 (beh p m).T, .string (beh p m).A, .string (beh p m).B], .int .i64 (j : Int)] u (CeP (fun n x => shN L beh o win n (beh p m) x) (2 * j) g (k + 1) (huntF ok (fun q => (L q).map (beh q)) (fun q => o q == win + 1) (fun q => q.T == win)) u) := fun m hm2 j hj ho u hu hHu hKu => by
          have ha : ((beh p m).T == win) = false := by rw [halt m hm2, hT1]; rfl
          have := ih j (beh p m) (hstay m hm2) (by omega) (by rw [ha]; simp; omega) ho u hu hHu hKu
          rw [ha] at this
          exact this
        have hfin := cert_one D v0 v1 v2 v3 v4 v5 v6 v7 v8 v9 v10 v11 v12 win h g (k + 1) most p (L p) (beh p) _ (fun q n x => shN L beh o win n q x) w00 w hm hp hT hT1 hwf rfl hL0 hown (hc8 p hp) hw hgb hne hH hK (hX p hp) (fun u hu hHu hKu => hN most p hp hm u hu hHu hKu) (fun m hm2 j hj u hu hHu hKu => hN j (beh p m) (hstay m hm2) (by omega) u hu hHu hKu) hC
          (fun m hm2 x j hj hx n hn => by
            obtain ⟨n', rfl⟩ : ∃ n', n = n' + 1 := ⟨n - 1, by omega⟩
            exact sh_one hop hT hm2 (hx n' (by omega)))
        rw [hT1]
        exact hfin
      · have hT1 : (p.T == win) = false := by simp [hT]
        rw [hT1] at hk
        simp only [Bool.false_eq_true, if_false] at hk
        obtain ⟨m1, rfl⟩ : ∃ m1, most = m1 + 1 := ⟨most - 1, by omega⟩
        have hall : ∀ m ∈ L p, ownN (fun q => (L q).map (beh q)) (fun q => o q == win + 1) (fun q => q.T == win) (m1 + 1) (beh p m) = true := by
          have h2 := hown
          rw [need_all D hp hT1 hwf (by show (L p).map (beh p) ≠ []; simpa using hL0), List.all_eq_true] at h2
          exact fun m hm2 => h2 _ (List.mem_map.2 ⟨m, hm2, rfl⟩)
        have hC : ∀ m ∈ L p, ∀ u, Below w00.heap.size w00 u → isHu u h g v0 v1 v2 v3 v4 v5 v6 v7 v8 v9 v10 v11 v12 win → knows u g 262144 (huntF ok (fun q => (L q).map (beh q)) (fun q => o q == win + 1) (fun q => q.T == win)) → Calls Tryz.prog 13 #[.pointer (some ⟨h, 0, none⟩), .agg #[.int .i64 (beh p m).W, .int .i64 (beh p m).H, .string (beh p m).C, .int .i64 (beh p m).T, .string (beh p m).A, .string (beh p m).B], .int .i64 ((m1 + 1 : Nat) : Int)] u (CeP (fun n x => shN L beh o win n (beh p m) x) (2 * (m1 + 1) - 1) g (k + 1) (huntF ok (fun q => (L q).map (beh q)) (fun q => o q == win + 1) (fun q => q.T == win)) u) := fun m hm2 u hu hHu hKu => by
          have ha : ((beh p m).T == win) = true := by rw [halt m hm2, hT1]; rfl
          have := ih (m1 + 1) (beh p m) (hstay m hm2) hm (by rw [ha]; simp; omega) (hall m hm2) u hu hHu hKu
          rw [ha] at this
          exact this
        have hfin := cert_all v0 v1 v2 v3 v4 v5 v6 v7 v8 v9 v10 v11 v12 win h g (k + 1) (m1 + 1) p (L p) (beh p) _ (fun q n x => shN L beh o win n q x) w00 w hT hL0 (hlen p hp) hw hgb hne hH hK (hX p hp) hC
          (fun xs hl hx n hn => by
            obtain ⟨n', rfl⟩ : ∃ n', n = n' + 1 := ⟨n - 1, by omega⟩
            exact sh_all hop hT hL0 hl (fun i x m h1 h2 => hx i x m h1 h2 n' (by omega)))
        rw [hT1]
        exact hfin
end Go.Proofs.YtlogengkhlmcbaaGreatDoor
