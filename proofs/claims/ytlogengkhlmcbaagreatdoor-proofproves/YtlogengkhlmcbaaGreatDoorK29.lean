/-
  package proof, walked: newHunt, Prove.
-/
import Derived.Test.YtlogengkhlmcbaaGreatDoorK25
import Derived.Test.YtlogengkhlmcbaaGreatDoorJ30
namespace Go.Proofs.YtlogengkhlmcbaaGreatDoor
open Go.RowKit
attribute [local go_sem ↓] Go.wp_at_zero Go.wp_at_succ

/-- What newHunt hands back. -/
def NhP (v0 v1 v2 v3 v4 v5 v6 v7 v8 v9 v10 v11 v12 : Value) (win : Int) (F : Po → Nat → Bool → Prop) (w : World) (e : Ending) (w' : World) : Prop := ∃ h g, e = .returned (.pointer (some ⟨h, 0, none⟩)) ∧ isHu w' h g v0 v1 v2 v3 v4 v5 v6 v7 v8 v9 v10 v11 v12 win ∧ knows w' g 262144 F ∧ Below w.heap.size w w' ∧ w.heap.size ≤ g ∧ h ≠ g
set_option maxHeartbeats 2000000 in
set_option maxRecDepth 100000 in
theorem newHunt_any (v0 v1 v2 v3 v4 v5 v6 v7 v8 v9 v10 v11 v12 : Value) (win : Int) (F : Po → Nat → Bool → Prop) (w : World) (h0 : ∀ p : Po, p.ok → F p 0 false) :
    Calls Tryz.prog 10 #[.agg #[v0, v1, v2, v3, v4, v5, v6, v7, v8, v9, v10, v11, v12, .int .i64 win]] w (NhP v0 v1 v2 v3 v4 v5 v6 v7 v8 v9 v10 v11 v12 win F w) := by
  obtain ⟨w1, hw1⟩ : ∃ w1, w1 = w.alloc (.cells #[v0, v1, v2, v3, v4, v5, v6, v7, v8, v9, v10, v11, v12, .int .i64 win] 46 (0, 0)) := ⟨_, rfl⟩
  obtain ⟨w2, hw2⟩ : ∃ w2, w2 = w1.alloc (.map #[] 0) := ⟨_, rfl⟩
  obtain ⟨w3, hw3⟩ : ∃ w3, w3 = w2.alloc (.cells #[v0, v1, v2, v3, v4, v5, v6, v7, v8, v9, v10, v11, v12, .int .i64 win, .map (some w1.heap.size), .int .i64 262144] 62 (0, 0)) := ⟨_, rfl⟩
  have b1 : Below w.heap.size w w1 := by rw [hw1]; exact (Below.refl _ _).alloc (Nat.le_refl _) _
  have b2 : Below w1.heap.size w1 w2 := by rw [hw2]; exact (Below.refl _ _).alloc (Nat.le_refl _) _
  have b3 : Below w2.heap.size w2 w3 := by rw [hw3]; exact (Below.refl _ _).alloc (Nat.le_refl _) _
  have s1 : w1.heap.size = w.heap.size + 1 := by rw [hw1]; simp
  have s2 : w2.heap.size = w.heap.size + 1 + 1 := by rw [hw2]; simp [s1]
  have hcl : isCl w1 w.heap.size v0 v1 v2 v3 v4 v5 v6 v7 v8 v9 v10 v11 v12 win := by rw [hw1]; exact heap_alloc_new w _
  obtain ⟨c0, c1, c2, c3, c4, c5, c6, c7, c8, c9, c10, c11, c12, c13⟩ := hcl.all
  have hk2 : knows w2 w1.heap.size 0 F := by rw [hw2]; exact knows_made w1 h0
  have hk3 : knows w3 w1.heap.size 262144 F := by
    obtain ⟨DD, hown, hD⟩ := hk2.of_block (b3.block _ (by omega))
    exact ⟨DD, hown.mono (by omega), hD⟩
  have s21 : w2.heap.size = w1.heap.size + 1 := by omega
  have hfin : NhP v0 v1 v2 v3 v4 v5 v6 v7 v8 v9 v10 v11 v12 win F w (.returned (.pointer (some ⟨w1.heap.size + 1, 0, none⟩))) w3 := ⟨w1.heap.size + 1, w1.heap.size, rfl, by rw [← s21, hw3]; exact heap_alloc_new w2 _, hk3, (b1.trans (b2.mono (by omega))).trans (b3.mono (by omega)), by omega, by omega⟩
  have HF := hide hfin
  have HW1 := hide hw1
  have HW2 := hide hw2
  have HW3 := hide hw3
  have hmm := @run_makeMap Tryz.prog
  clear hw1 hw2 hw3 b1 b2 b3 s1 s2 s21 hcl hk2 hk3 hfin h0
  go_enter Tryz.func10, Tryz.ntmps10
  go_upto_region 1 with fail
  rw [← unhide HW1]
  go_wp2
  rw [← unhide HW2, ← unhide HW3]
  go_ret
  exact unhide HF

/-- What is known in a world of Prove's own. -/
structure PF (w : World) (v0 v1 v2 v3 v4 v5 v6 v7 v8 v9 v10 v11 v12 : Value) (p : Po) (u : World) : Prop where
  ru : isRu u w.heap.size v0 v1 v2 v3 v4 v5 v6 v7 v8 v9 v10 v11 v12
  pb : isPb u (w.heap.size + 1) p.W p.H p.T p.C p.A p.B
  cb : isCb u (w.heap.size + 2) false 0 0 0 (.slice none 0 0)
  bw : Below w.heap.size w u
  sz : w.heap.size + 3 ≤ u.heap.size
theorem PF.step {w : World} {v0 v1 v2 v3 v4 v5 v6 v7 v8 v9 v10 v11 v12 : Value} {p : Po} {u u' : World} (H : PF w v0 v1 v2 v3 v4 v5 v6 v7 v8 v9 v10 v11 v12 p u) (hb : Below u.heap.size u u') : PF w v0 v1 v2 v3 v4 v5 v6 v7 v8 v9 v10 v11 v12 p u' :=
  ⟨H.ru.below hb H.ru.lt, H.pb.below hb H.pb.lt, H.cb.below hb H.cb.lt, H.bw.trans (hb.mono H.bw.size), Nat.le_trans H.sz hb.size⟩
theorem PF.grown {w : World} {v0 v1 v2 v3 v4 v5 v6 v7 v8 v9 v10 v11 v12 : Value} {p : Po} {u u' : World} {g : Nat} (H : PF w v0 v1 v2 v3 v4 v5 v6 v7 v8 v9 v10 v11 v12 p u) (hg : u.grownBy u' (some g)) (hgw : w.heap.size + 3 ≤ g) : PF w v0 v1 v2 v3 v4 v5 v6 v7 v8 v9 v10 v11 v12 p u' := by
  have := H.sz
  exact ⟨(hg.block _ (by omega) (by simp; omega)).trans H.ru, (hg.block _ (by omega) (by simp; omega)).trans H.pb, (hg.block _ (by omega) (by simp; omega)).trans H.cb, below_grown H.bw hg (by omega), Nat.le_trans H.sz hg.size⟩
/-- What Prove hands back. -/
def PvP (sh : Nat → Ct → Bool) (least : Nat) (ok : Bool) (w : World) (e : Ending) (w' : World) : Prop := ∃ (s : Bool) (f t : Int) (c : Nat) (ks : List Ct) (no : Option Addr) (nc d : Nat), e = .returned (.tuple #[.agg #[.bool s, .int .i64 f, .int .i64 t, .int .u8 (c : Int), .slice no ks.length nc], .bool ok, .int .i64 0]) ∧ c < 256 ∧ isCts d w' w'.heap.size no nc ks ∧ (ok = true → ∀ n, least ≤ n → sh n (.mk s f t c ks) = true) ∧ (ok = false → s = false ∧ f = 0 ∧ t = 0 ∧ c = 0 ∧ ks = [] ∧ no = none ∧ nc = 0) ∧ Below w.heap.size w w'

set_option maxHeartbeats 2000000 in
set_option maxRecDepth 100000 in
theorem prove_no (v0 v1 v2 v3 v4 v5 v6 v7 v8 v9 v10 v11 v12 : Value) (p : Po) (d E : Int) (w : World) (hE : E ≠ 0)
    (hck : ∀ u, Below w.heap.size w u → Calls Tryz.prog 9 #[.agg #[v0, v1, v2, v3, v4, v5, v6, v7, v8, v9, v10, v11, v12], .agg #[.int .i64 p.W, .int .i64 p.H, .string p.C, .int .i64 p.T, .string p.A, .string p.B], .int .i64 d] u fun e w' => e = .returned (.int .i64 E) ∧ Below u.heap.size u w') :
    Calls Tryz.prog 4 #[.agg #[v0, v1, v2, v3, v4, v5, v6, v7, v8, v9, v10, v11, v12], .agg #[.int .i64 p.W, .int .i64 p.H, .string p.C, .int .i64 p.T, .string p.A, .string p.B], .int .i64 d] w fun e w' => e = .returned (.tuple #[.agg #[.bool false, .int .i64 0, .int .i64 0, .int .u8 0, .slice none 0 0], .bool false, .int .i64 E]) ∧ Below w.heap.size w w' := by
  obtain ⟨w1, hw1⟩ : ∃ w1, w1 = w.alloc (.cells #[v0, v1, v2, v3, v4, v5, v6, v7, v8, v9, v10, v11, v12] 27 (0, 0)) := ⟨_, rfl⟩
  obtain ⟨w2, hw2⟩ : ∃ w2, w2 = w1.alloc (.cells #[.int .i64 p.W, .int .i64 p.H, .string p.C, .int .i64 p.T, .string p.A, .string p.B] 24 (0, 0)) := ⟨_, rfl⟩
  obtain ⟨w3, hw3⟩ : ∃ w3, w3 = w2.alloc (.cells #[.bool false, .int .i64 0, .int .i64 0, .int .u8 0, .slice none 0 0] 32 (0, 0)) := ⟨_, rfl⟩
  have hb1 : Below w.heap.size w w1 := by rw [hw1]; exact (Below.refl _ _).alloc (Nat.le_refl _) _
  have hb2 : Below w1.heap.size w1 w2 := by rw [hw2]; exact (Below.refl _ _).alloc (Nat.le_refl _) _
  have hb3 : Below w2.heap.size w2 w3 := by rw [hw3]; exact (Below.refl _ _).alloc (Nat.le_refl _) _
  have s1 : w1.heap.size = w.heap.size + 1 := by rw [hw1]; simp
  have s2 : w2.heap.size = w.heap.size + 2 := by rw [hw2]; simp [s1]
  have s3 : w3.heap.size = w.heap.size + 3 := by rw [hw3]; simp [s2]
  have hpf3 : PF w v0 v1 v2 v3 v4 v5 v6 v7 v8 v9 v10 v11 v12 p w3 :=
    ⟨(isRu.below (isRu.below (show isRu w1 w.heap.size v0 v1 v2 v3 v4 v5 v6 v7 v8 v9 v10 v11 v12 by rw [hw1]; exact heap_alloc_new w _) hb2 (by omega)) hb3 (by omega)), (show isPb w2 (w.heap.size + 1) p.W p.H p.T p.C p.A p.B by rw [hw2, ← s1]; exact heap_alloc_new w1 _).below hb3 (by omega), by rw [hw3, ← s2]; exact heap_alloc_new w2 _, (hb1.trans (hb2.mono (by omega))).trans (hb3.mono (by omega)), by omega⟩
  have HPF := hide hpf3
  have HW1 := hide hw1
  have HW2 := hide hw2
  have HW3 := hide hw3
  clear hw1 hw2 hw3 hb1 hb2 hb3 s1 s2 s3 hpf3
  have heb : (E != 0) = true := by simp [hE]
  have HE := hide hck
  clear hE hck
  go_enter Tryz.func4, Tryz.ntmps4
  go_upto_region 1 with fail
  rw [← unhide HW1, ← unhide HW2, ← unhide HW3]
  obtain ⟨r0, r1, r2, r3, r4, r5, r6, r7, r8, r9, r10, r11, r12⟩ := (unhide HPF).ru.cells
  obtain ⟨p0, p1, p2, p3, p4, p5⟩ := (unhide HPF).pb.all
  go_wp2_with fail
  refine (unhide HE _ (unhide HPF).bw).mono ?_
  rintro e w4 ⟨rfl, hb4⟩
  have HP4 := hide ((unhide HPF).step hb4)
  clear HPF HE HW1 HW2 HW3 hb4 r0 r1 r2 r3 r4 r5 r6 r7 r8 r9 r10 r11 r12 p0 p1 p2 p3 p4 p5
  obtain ⟨c0, c1, c2, c3, c4⟩ := (unhide HP4).cb.all
  have f0 := (unhide HP4).cb.frozen 0
  have f1 := (unhide HP4).cb.frozen 1
  have f2 := (unhide HP4).cb.frozen 2
  have f3 := (unhide HP4).cb.frozen 3
  have f4 := (unhide HP4).cb.frozen 4
  go_wp2
  refine bodyPost_ret (v := .tuple #[.agg #[.bool false, .int .i64 0, .int .i64 0, .int .u8 0, .slice none 0 0], .bool false, .int .i64 E]) (by simp [results, Tryz.results4, go_sem, c0, c1, c2, c3, c4]) rfl ⟨rfl, ?_⟩
  have hb := (unhide HP4).bw
  exact ((((hb.setCell (p := ⟨w.heap.size + 2, 0, none⟩) (by dsimp only; omega) _).setCell (p := ⟨w.heap.size + 2, 1, none⟩) (by dsimp only; omega) _).setCell (p := ⟨w.heap.size + 2, 2, none⟩) (by dsimp only; omega) _).setCell (p := ⟨w.heap.size + 2, 3, none⟩) (by dsimp only; omega) _).setCell (p := ⟨w.heap.size + 2, 4, none⟩) (by dsimp only; omega) _

set_option maxHeartbeats 4000000 in
set_option maxRecDepth 100000 in
theorem prove_yes (nx : Po → List Po) (wn turn : Po → Bool) (v0 v1 v2 v3 v4 v5 v6 v7 v8 v9 v10 v11 v12 : Value) (p : Po) (d most dd least : Nat) (F : Po → Nat → Bool → Prop) (sh : Nat → Ct → Bool) (w : World) (hd9 : d ≤ 9) (hmost : most = (d + 1) / 2) (hmono : ∀ r, r ≤ most → ownN nx wn turn r p = true → ownN nx wn turn most p = true)
    (hF0 : ∀ q : Po, q.ok → F q 0 false)
    (hck : ∀ u, Below w.heap.size w u → Calls Tryz.prog 9 #[.agg #[v0, v1, v2, v3, v4, v5, v6, v7, v8, v9, v10, v11, v12], .agg #[.int .i64 p.W, .int .i64 p.H, .string p.C, .int .i64 p.T, .string p.A, .string p.B], .int .i64 (d : Int)] u fun e w' => e = .returned (.int .i64 0) ∧ Below u.heap.size u w')
    (hnd : ∀ h g u, Below w.heap.size w u → w.heap.size ≤ g → h ≠ g → isHu u h g v0 v1 v2 v3 v4 v5 v6 v7 v8 v9 v10 v11 v12 p.T → knows u g 262144 F → Calls Tryz.prog 12 #[.pointer (some ⟨h, 0, none⟩), .agg #[.int .i64 p.W, .int .i64 p.H, .string p.C, .int .i64 p.T, .string p.A, .string p.B], .int .i64 (most : Int)] u (NeedP nx wn turn p most g F u))
    (hce : ownN nx wn turn most p = true → ∀ h g u, Below w.heap.size w u → w.heap.size ≤ g → h ≠ g → isHu u h g v0 v1 v2 v3 v4 v5 v6 v7 v8 v9 v10 v11 v12 p.T → knows u g 262144 F → Calls Tryz.prog 13 #[.pointer (some ⟨h, 0, none⟩), .agg #[.int .i64 p.W, .int .i64 p.H, .string p.C, .int .i64 p.T, .string p.A, .string p.B], .int .i64 (most : Int)] u (CeP sh least g dd F u)) :
    Calls Tryz.prog 4 #[.agg #[v0, v1, v2, v3, v4, v5, v6, v7, v8, v9, v10, v11, v12], .agg #[.int .i64 p.W, .int .i64 p.H, .string p.C, .int .i64 p.T, .string p.A, .string p.B], .int .i64 (d : Int)] w (PvP sh least (ownN nx wn turn most p) w) := by
  obtain ⟨w1, hw1⟩ : ∃ w1, w1 = w.alloc (.cells #[v0, v1, v2, v3, v4, v5, v6, v7, v8, v9, v10, v11, v12] 27 (0, 0)) := ⟨_, rfl⟩
  obtain ⟨w2, hw2⟩ : ∃ w2, w2 = w1.alloc (.cells #[.int .i64 p.W, .int .i64 p.H, .string p.C, .int .i64 p.T, .string p.A, .string p.B] 24 (0, 0)) := ⟨_, rfl⟩
  obtain ⟨w3, hw3⟩ : ∃ w3, w3 = w2.alloc (.cells #[.bool false, .int .i64 0, .int .i64 0, .int .u8 0, .slice none 0 0] 32 (0, 0)) := ⟨_, rfl⟩
  have hb1 : Below w.heap.size w w1 := by rw [hw1]; exact (Below.refl _ _).alloc (Nat.le_refl _) _
  have hb2 : Below w1.heap.size w1 w2 := by rw [hw2]; exact (Below.refl _ _).alloc (Nat.le_refl _) _
  have hb3 : Below w2.heap.size w2 w3 := by rw [hw3]; exact (Below.refl _ _).alloc (Nat.le_refl _) _
  have s1 : w1.heap.size = w.heap.size + 1 := by rw [hw1]; simp
  have s2 : w2.heap.size = w.heap.size + 2 := by rw [hw2]; simp [s1]
  have s3 : w3.heap.size = w.heap.size + 3 := by rw [hw3]; simp [s2]
  have hpf3 : PF w v0 v1 v2 v3 v4 v5 v6 v7 v8 v9 v10 v11 v12 p w3 :=
    ⟨(isRu.below (isRu.below (show isRu w1 w.heap.size v0 v1 v2 v3 v4 v5 v6 v7 v8 v9 v10 v11 v12 by rw [hw1]; exact heap_alloc_new w _) hb2 (by omega)) hb3 (by omega)), (show isPb w2 (w.heap.size + 1) p.W p.H p.T p.C p.A p.B by rw [hw2, ← s1]; exact heap_alloc_new w1 _).below hb3 (by omega), by rw [hw3, ← s2]; exact heap_alloc_new w2 _, (hb1.trans (hb2.mono (by omega))).trans (hb3.mono (by omega)), by omega⟩
  have HPF := hide hpf3
  have HW1 := hide hw1
  have HW2 := hide hw2
  have HW3 := hide hw3
  clear hw1 hw2 hw3 hb1 hb2 hb3 s1 s2 s3 hpf3
  have HE := hide hck
  have HND := hide hnd
  have HF0 := hide hF0
  have hm9 : most ≤ 9 := by omega
  have HMO := hide hmost
  have HMN := hide hmono
  clear hck hnd hF0 hmost hmono
  cases hown : ownN nx wn turn most p with
  | false =>
    have HOWN := hide hown
    clear hown hce
    go_enter Tryz.func4, Tryz.ntmps4
    go_upto_region 1 with fail
    rw [← unhide HW1, ← unhide HW2, ← unhide HW3]
    obtain ⟨r0, r1, r2, r3, r4, r5, r6, r7, r8, r9, r10, r11, r12⟩ := (unhide HPF).ru.cells
    obtain ⟨p0, p1, p2, p3, p4, p5⟩ := (unhide HPF).pb.all
    go_wp2_with fail
    refine (unhide HE _ (unhide HPF).bw).mono ?_
    rintro e w4 ⟨rfl, hb4⟩
    have HP4 := hide ((unhide HPF).step hb4)
    clear HPF HE HW1 HW2 HW3 hb4 r0 r1 r2 r3 r4 r5 r6 r7 r8 r9 r10 r11 r12 p0 p1 p2 p3 p4 p5
    obtain ⟨r0, r1, r2, r3, r4, r5, r6, r7, r8, r9, r10, r11, r12⟩ := (unhide HP4).ru.cells
    obtain ⟨p0, p1, p2, p3, p4, p5⟩ := (unhide HP4).pb.all
    go_wp2_with fail
    refine (newHunt_any v0 v1 v2 v3 v4 v5 v6 v7 v8 v9 v10 v11 v12 p.T F w4 (unhide HF0)).mono ?_
    rintro e w5 ⟨h, g, rfl, hH, hK, hb5, hgw, hne⟩
    have HP5 := hide ((unhide HP4).step hb5)
    have HH := hide hH
    have HK := hide hK
    have hgw2 : w.heap.size + 3 ≤ g := Nat.le_trans (unhide HP4).sz hgw
    clear HP4 hH hK hb5 hgw r0 r1 r2 r3 r4 r5 r6 r7 r8 r9 r10 r11 r12 p0 p1 p2 p3 p4 p5
    obtain ⟨p0, p1, p2, p3, p4, p5⟩ := (unhide HP5).pb.all
    go_wp2_with fail
    refine (ownMoves_any d w5 hd9).mono ?_
    rintro e w5' ⟨he, rfl⟩
    rw [← unhide HMO] at he
    subst he
    go_wp2_with fail
    refine (unhide HND h g w5' (unhide HP5).bw (by omega) hne (unhide HH) (unhide HK)).mono ?_
    rintro e w6 ⟨r, rfl, hR, hr, hk6, hg6⟩
    have HP6 := hide ((unhide HP5).grown hg6 hgw2)
    have HH6 := hide ((unhide HH).grown hg6 hne)
    have HK6 := hide hk6
    have HR := hide hR
    clear HP5 HH HK hk6 hg6 hR p0 p1 p2 p3 p4 p5
    obtain ⟨c0, c1, c2, c3, c4⟩ := (unhide HP6).cb.all
    have f0 := (unhide HP6).cb.frozen 0
    have f1 := (unhide HP6).cb.frozen 1
    have f2 := (unhide HP6).cb.frozen 2
    have f3 := (unhide HP6).cb.frozen 3
    have f4 := (unhide HP6).cb.frozen 4
    have hgt : most < r := by
      rcases Nat.lt_or_ge most r with h1 | h1
      · exact h1
      · have h2 := unhide HMN r h1 ((unhide HR).1 h1).1
        rw [unhide HOWN] at h2
        exact absurd h2 (by simp)
    have hgti : (most : Int) < (r : Int) := by omega
    go_wp2
    refine bodyPost_ret (v := .tuple #[.agg #[.bool false, .int .i64 0, .int .i64 0, .int .u8 0, .slice none 0 0], .bool false, .int .i64 0]) (by simp [results, Tryz.results4, go_sem, c0, c1, c2, c3, c4]) rfl ?_
    have hb := (unhide HP6).bw
    exact ⟨false, 0, 0, 0, [], none, 0, 0, rfl, by omega, ⟨rfl, by unfold maxLen; omega, fun _ => rfl⟩, fun h => absurd h (by simp), fun _ => ⟨rfl, rfl, rfl, rfl, rfl, rfl, rfl⟩, ((((hb.setCell (p := ⟨w.heap.size + 2, 0, none⟩) (by dsimp only; omega) _).setCell (p := ⟨w.heap.size + 2, 1, none⟩) (by dsimp only; omega) _).setCell (p := ⟨w.heap.size + 2, 2, none⟩) (by dsimp only; omega) _).setCell (p := ⟨w.heap.size + 2, 3, none⟩) (by dsimp only; omega) _).setCell (p := ⟨w.heap.size + 2, 4, none⟩) (by dsimp only; omega) _⟩
  | true =>
    have HCE := hide (hce hown)
    have HOWN := hide hown
    clear hown hce
    go_enter Tryz.func4, Tryz.ntmps4
    go_upto_region 1 with fail
    rw [← unhide HW1, ← unhide HW2, ← unhide HW3]
    obtain ⟨r0, r1, r2, r3, r4, r5, r6, r7, r8, r9, r10, r11, r12⟩ := (unhide HPF).ru.cells
    obtain ⟨p0, p1, p2, p3, p4, p5⟩ := (unhide HPF).pb.all
    go_wp2_with fail
    refine (unhide HE _ (unhide HPF).bw).mono ?_
    rintro e w4 ⟨rfl, hb4⟩
    have HP4 := hide ((unhide HPF).step hb4)
    clear HPF HE HW1 HW2 HW3 hb4 r0 r1 r2 r3 r4 r5 r6 r7 r8 r9 r10 r11 r12 p0 p1 p2 p3 p4 p5
    obtain ⟨r0, r1, r2, r3, r4, r5, r6, r7, r8, r9, r10, r11, r12⟩ := (unhide HP4).ru.cells
    obtain ⟨p0, p1, p2, p3, p4, p5⟩ := (unhide HP4).pb.all
    go_wp2_with fail
    refine (newHunt_any v0 v1 v2 v3 v4 v5 v6 v7 v8 v9 v10 v11 v12 p.T F w4 (unhide HF0)).mono ?_
    rintro e w5 ⟨h, g, rfl, hH, hK, hb5, hgw, hne⟩
    have HP5 := hide ((unhide HP4).step hb5)
    have HH := hide hH
    have HK := hide hK
    have hgw2 : w.heap.size + 3 ≤ g := Nat.le_trans (unhide HP4).sz hgw
    clear HP4 hH hK hb5 hgw r0 r1 r2 r3 r4 r5 r6 r7 r8 r9 r10 r11 r12 p0 p1 p2 p3 p4 p5
    obtain ⟨p0, p1, p2, p3, p4, p5⟩ := (unhide HP5).pb.all
    go_wp2_with fail
    refine (ownMoves_any d w5 hd9).mono ?_
    rintro e w5' ⟨he, rfl⟩
    rw [← unhide HMO] at he
    subst he
    go_wp2_with fail
    refine (unhide HND h g w5' (unhide HP5).bw (by omega) hne (unhide HH) (unhide HK)).mono ?_
    rintro e w6 ⟨r, rfl, hR, hr, hk6, hg6⟩
    have HP6 := hide ((unhide HP5).grown hg6 hgw2)
    have HH6 := hide ((unhide HH).grown hg6 hne)
    have HK6 := hide hk6
    have HR := hide hR
    clear HP5 HH HK hk6 hg6 hR p0 p1 p2 p3 p4 p5
    obtain ⟨c0, c1, c2, c3, c4⟩ := (unhide HP6).cb.all
    have f0 := (unhide HP6).cb.frozen 0
    have f1 := (unhide HP6).cb.frozen 1
    have f2 := (unhide HP6).cb.frozen 2
    have f3 := (unhide HP6).cb.frozen 3
    have f4 := (unhide HP6).cb.frozen 4
    have hle : ¬ most < r := fun h1 => by
      have h2 := (unhide HR).2 h1
      rw [unhide HOWN] at h2
      exact absurd h2 (by simp)
    have hgti : ¬ (most : Int) < (r : Int) := by omega
    clear c0 c1 c2 c3 c4 f0 f1 f2 f3 f4
    obtain ⟨p0, p1, p2, p3, p4, p5⟩ := (unhide HP6).pb.all
    go_wp2_with fail
    refine (unhide HCE h g w6 (unhide HP6).bw (by omega) hne (unhide HH6) (unhide HK6)).mono ?_
    rintro e w7 ⟨x, no, nc, rfl, hxc, hco, hxs, hk7, hg7⟩
    have hp7 := (unhide HP6).grown hg7 hgw2
    have h6s := (unhide HP6).sz
    obtain ⟨c0, c1, c2, c3, c4⟩ := hp7.cb.all
    have f0 := hp7.cb.frozen 0
    have f1 := hp7.cb.frozen 1
    have f2 := hp7.cb.frozen 2
    have f3 := hp7.cb.frozen 3
    have f4 := hp7.cb.frozen 4
    have hb := hp7.bw
    have HFIN : Hid (PvP sh least true w (.returned (.tuple #[.agg #[.bool x.s, .int .i64 x.f, .int .i64 x.t, .int .u8 (x.c : Int), .slice no x.ks.length nc], .bool true, .int .i64 0])) (((((w7.setCell ⟨w.heap.size + 2, 0, none⟩ (.bool x.s)).setCell ⟨w.heap.size + 2, 1, none⟩ (.int .i64 x.f)).setCell ⟨w.heap.size + 2, 2, none⟩ (.int .i64 x.t)).setCell ⟨w.heap.size + 2, 3, none⟩ (.int .u8 (x.c : Int))).setCell ⟨w.heap.size + 2, 4, none⟩ (.slice no x.ks.length nc))) := hide (by
      have hbe := ((((hb.setCell (p := ⟨w.heap.size + 2, 0, none⟩) (by dsimp only; omega) (.bool x.s)).setCell (p := ⟨w.heap.size + 2, 1, none⟩) (by dsimp only; omega) (.int .i64 x.f)).setCell (p := ⟨w.heap.size + 2, 2, none⟩) (by dsimp only; omega) (.int .i64 x.t)).setCell (p := ⟨w.heap.size + 2, 3, none⟩) (by dsimp only; omega) (.int .u8 (x.c : Int))).setCell (p := ⟨w.heap.size + 2, 4, none⟩) (by dsimp only; omega) (.slice no x.ks.length nc)
      refine ⟨x.s, x.f, x.t, x.c, x.ks, no, nc, dd, rfl, hxc, isCo.cts (lo := w6.heap.size) _ _ _ _ (isCo.keep (w := w7) (fun k hk _ => ?_) _ _ _ _ (isCo.wide (Nat.le_refl _) (by simp [World.setCell]) _ _ _ _ hco)), fun _ => by cases x; exact hxs, fun h => absurd h (by simp), hbe⟩
      have hne2 : k ≠ w.heap.size + 2 := by omega
      exact (Below.heap_setCell _ _ _ _ hne2).trans ((Below.heap_setCell _ _ _ _ hne2).trans ((Below.heap_setCell _ _ _ _ hne2).trans ((Below.heap_setCell _ _ _ _ hne2).trans (Below.heap_setCell _ _ _ _ hne2)))))
    clear hxc hco hxs hk7 hg7 hp7 h6s hb p0 p1 p2 p3 p4 p5
    go_wp2
    refine bodyPost_ret (v := .tuple #[.agg #[.bool x.s, .int .i64 x.f, .int .i64 x.t, .int .u8 (x.c : Int), .slice no x.ks.length nc], .bool true, .int .i64 0]) (by simp [results, Tryz.results4, go_sem, c0, c1, c2, c3, c4]) rfl ?_
    exact unhide HFIN
end Go.Proofs.YtlogengkhlmcbaaGreatDoor
