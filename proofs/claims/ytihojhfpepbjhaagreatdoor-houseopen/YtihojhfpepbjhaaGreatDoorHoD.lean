/-
  package house, walked: clocksAt, New.
-/
import Derived.Test.YtihojhfpepbjhaaGreatDoorJ33
import Derived.Test.YtihojhfpepbjhaaGreatDoorJ29
import Derived.Test.YtihojhfpepbjhaaGreatDoorJ5
namespace Go.Proofs.YtihojhfpepbjhaaGreatDoor
open Go.RowKit
attribute [local go_sem ↓] Go.wp_at_zero Go.wp_at_succ

set_option maxHeartbeats 2000000 in
set_option maxRecDepth 100000 in
theorem clocksAt_any (time : Int) (w : World) : Calls Tryz.prog 27 #[.int .i64 time] w fun e w' => e = .returned (.agg #[.int .i64 time, .int .i64 time, .int .i64 0]) ∧ Below w.heap.size w w' := by
  have hb := ((Below.refl w.heap.size w).alloc (Nat.le_refl _) (.cells #[.int .i64 0, .int .i64 0, .int .i64 0] 79 (0, 0)))
  obtain ⟨w1, hw1⟩ : ∃ w1, w1 = w.alloc (.cells #[.int .i64 0, .int .i64 0, .int .i64 0] 79 (0, 0)) := ⟨_, rfl⟩
  have h1 : w1.heap[w.heap.size]? = some (.cells #[.int .i64 0, .int .i64 0, .int .i64 0] 79 (0, 0)) := by rw [hw1]; exact heap_alloc_new w _
  rw [← hw1] at hb
  have z0 := frozen_of_row w1 w.heap.size 0 _ _ h1
  have z1 := frozen_of_row w1 w.heap.size 1 _ _ h1
  have z2 := frozen_of_row w1 w.heap.size 2 _ _ h1
  have c0 : w1.cell? ⟨w.heap.size, 0, none⟩ = some (.int .i64 0) := by unfold World.cell?; rw [h1]; rfl
  have c1 : w1.cell? ⟨w.heap.size, 1, none⟩ = some (.int .i64 0) := by unfold World.cell?; rw [h1]; rfl
  have c2 : w1.cell? ⟨w.heap.size, 2, none⟩ = some (.int .i64 0) := by unfold World.cell?; rw [h1]; rfl
  obtain ⟨w2, hw2⟩ : ∃ w2, w2 = ((w1.setCell ⟨w.heap.size, 0, none⟩ (.int .i64 time)).setCell ⟨w.heap.size, 1, none⟩ (.int .i64 time)).setCell ⟨w.heap.size, 2, none⟩ (.int .i64 0) := ⟨_, rfl⟩
  have hb2 : Below w.heap.size w w2 := by rw [hw2]; exact ((hb.setCell (p := ⟨w.heap.size, 0, none⟩) (Nat.le_refl _) _).setCell (p := ⟨w.heap.size, 1, none⟩) (Nat.le_refl _) _).setCell (p := ⟨w.heap.size, 2, none⟩) (Nat.le_refl _) _
  have k0 : w2.cell? ⟨w.heap.size, 0, none⟩ = some (.int .i64 time) := by rw [hw2]; simp [World.cell?, World.setCell, Array.getElem?_modify, h1]
  have k1 : w2.cell? ⟨w.heap.size, 1, none⟩ = some (.int .i64 time) := by rw [hw2]; simp [World.cell?, World.setCell, Array.getElem?_modify, h1]
  have k2 : w2.cell? ⟨w.heap.size, 2, none⟩ = some (.int .i64 0) := by rw [hw2]; simp [World.cell?, World.setCell, Array.getElem?_modify, h1]
  have HB2 := hide hb2
  have HW1 := hide hw1
  have HW2 := hide hw2
  clear hb hw1 h1 hw2 hb2
  go_enter Tryz.func27, Tryz.ntmps27
  go_upto_region 1 with fail
  rw [← unhide HW1]
  go_wp2
  rw [← unhide HW2]
  exact bodyPost_ret (v := .agg #[.int .i64 time, .int .i64 time, .int .i64 0]) (by simp [results, Tryz.results27, go_sem, k0, k1, k2]) rfl ⟨rfl, unhide HB2⟩
theorem entCA : ∀ args (u : World), (callFunc 27 args).run Tryz.prog u = .ok (.enter 27 args) u := enters_of Tryz.func27 (by kernel_rfl) rfl
theorem entCo : ∀ args (u : World), (callFunc 28 args).run Tryz.prog u = .ok (.enter 28 args) u := enters_of Tryz.func28 (by kernel_rfl) rfl
/-- What New leaves: a house in block b, its rules copied. -/
structure NewE (G : Gm) (W H : Int) (C : ByteArray) (T : Int) (A B : ByteArray) (ps : List Pc) (dr st : Bool) (lo re : Nat) (li : Int) (time : Int) (w : World) (w' : World) (b : Nat) (ao2 : Option Addr) (cp2 : Nat) (w00 : World) : Prop where
  b0 : w.heap.size ≤ b
  sz : w00.heap.size = b
  pcs : isPcs w00 ao2 cp2 ps
  from_ : PcsFrom w.heap.size w00 ao2 ps
  low : Below b w00 w'
  lw : Below w.heap.size w w00
  ho : isHo w' b (.int .i64 W) (.int .i64 H) (.string C) (.int .i64 T) (.string A) (.string B) (.slice ao2 ps.length cp2) (.bool dr) (.int .u8 (lo : Int)) (.int .i64 li) (.int .u8 (re : Int)) (.bool st) (.int .i64 G.pl) (startX ⟨W, H, C, T, A, B⟩ time) (G.said ⟨W, H, C, T, A, B⟩ 0)
theorem NewE.all {G : Gm} {W H : Int} {C : ByteArray} {T : Int} {A B : ByteArray} {ps : List Pc} {dr st : Bool} {lo re : Nat} {li : Int} {time : Int} {w w' : World} {b : Nat} {ao2 : Option Addr} {cp2 : Nat} {w00 : World} (h : NewE G W H C T A B ps dr st lo re li time w w' b ao2 cp2 w00) : Below w.heap.size w w' := h.lw.trans (h.low.mono h.b0)
theorem cutForN (R : Option Addr → Nat → World → World → Prop) {T : Option Addr → Nat → World → World → Prop} {G : Prop} (k : Hid (∀ a c b v, R a c b v → T a c b v) → G) (p : ∀ a c b v, R a c b v → T a c b v) : G := k (hide p)
set_option maxHeartbeats 8000000 in
set_option maxRecDepth 100000 in
theorem new_ok (G : Gm) {W H : Nat} {T : Int} {C A B : ByteArray} (ao : Option Addr) (cap : Nat) (ps : List Pc) (dr st : Bool) (lo re : Nat) (li time : Int) (w : World) (p : IsPos W H C T A B) (h : isPcs w ao cap ps) (hC : C.size ≤ maxLen) (hA : A.size ≤ maxLen) (hB : B.size ≤ maxLen) (hlo : lo < 256) (hre : re < 256) (hok : rulesB W H C.data.toList T A.data.toList B.data.toList ps lo li re G.pl = true) (hl : ps.length ≤ 1000) (hws : ∀ q ∈ ps, q.ws.length ≤ 1000) (ht : 1 ≤ time ∧ time ≤ 1000000)
    (hO : ∀ ao2 cp2 (u : World), isPcs u ao2 cp2 ps → Calls Tryz.prog 60 #[.agg #[.int .i64 (W : Int), .int .i64 (H : Int), .string C, .int .i64 T, .string A, .string B, .slice ao2 ps.length cp2, .bool dr, .int .u8 (lo : Int), .int .i64 li, .int .u8 (re : Int), .bool st, .int .i64 G.pl], .agg #[.int .i64 (W : Int), .int .i64 (H : Int), .string C, .int .i64 T, .string A, .string B]] u fun e u' => e = .returned (.tuple #[.int .i64 (G.O ⟨W, H, C, T, A, B⟩), .int .i64 0]) ∧ Below u.heap.size u u') :
    Calls Tryz.prog 8 #[.agg #[.int .i64 (W : Int), .int .i64 (H : Int), .string C, .int .i64 T, .string A, .string B, .slice ao ps.length cap, .bool dr, .int .u8 (lo : Int), .int .i64 li, .int .u8 (re : Int), .bool st, .int .i64 G.pl], .int .i64 time] w fun e w' => ∃ b ao2 cp2 w00, e = .returned (.tuple #[.pointer (some ⟨b, 0, none⟩), .int .i64 0]) ∧ NewE G W H C T A B ps dr st lo re li time w w' b ao2 cp2 w00 := by
  obtain ⟨pl, hpl⟩ : ∃ pl, pl = G.pl := ⟨_, rfl⟩
  rw [← hpl] at hok hO ⊢
  have HPL := hide hpl
  have HO := hide hO
  obtain ⟨n, hn⟩ : ∃ n, n = ps.length := ⟨_, rfl⟩
  have HN := hide hn
  obtain ⟨w1, hw1⟩ : ∃ w1, w1 = w.alloc (.cells #[.int .i64 (W : Int), .int .i64 (H : Int), .string C, .int .i64 T, .string A, .string B, .slice ao ps.length cap, .bool dr, .int .u8 (lo : Int), .int .i64 li, .int .u8 (re : Int), .bool st, .int .i64 pl] 27 (0, 0)) := ⟨_, rfl⟩
  have hb1 : Below w.heap.size w w1 := by rw [hw1]; exact (Below.refl _ _).alloc (Nat.le_refl _) _
  have hr1 : isRu w1 w.heap.size (.int .i64 (W : Int)) (.int .i64 (H : Int)) (.string C) (.int .i64 T) (.string A) (.string B) (.slice ao ps.length cap) (.bool dr) (.int .u8 (lo : Int)) (.int .i64 li) (.int .u8 (re : Int)) (.bool st) (.int .i64 pl) := by rw [hw1]; exact heap_alloc_new w _
  have hck := rCheck_any W H T C A B ao cap ps dr st lo re li pl w1 hC hA hB hlo hre (h.below hb1 (Nat.le_refl _))
  rw [hok] at hck
  rw [← hn] at hr1 hw1 hck ⊢
  have HCK := hide hck
  have HB1 := hide hb1
  have HR1 := hide hr1
  have HW1 := hide hw1
  have HCO0 : Hid (∀ u, Below w.heap.size w u → Calls Tryz.prog 28 #[.agg #[.int .i64 (W : Int), .int .i64 (H : Int), .string C, .int .i64 T, .string A, .string B, .slice ao n cap, .bool dr, .int .u8 (lo : Int), .int .i64 li, .int .u8 (re : Int), .bool st, .int .i64 pl]] u fun e w' => ∃ ao' cap', e = .returned (.agg #[.int .i64 (W : Int), .int .i64 (H : Int), .string C, .int .i64 T, .string A, .string B, .slice ao' n cap', .bool dr, .int .u8 (lo : Int), .int .i64 li, .int .u8 (re : Int), .bool st, .int .i64 pl]) ∧ isPcs w' ao' cap' ps ∧ PcsFrom u.heap.size w' ao' ps ∧ Below u.heap.size u w') := hide fun u hu => by
    rw [hn]; exact hCopied_any ao cap ps dr st lo li re pl u p (h.below hu (Nat.le_refl _)) hl hws
  clear h hok hO hn hw1 hb1 hr1 hck hl hws p hpl
  obtain ⟨r0, r1, r2, r3, r4, r5, r6, r7, r8, r9, r10, r11, r12⟩ := (unhide HR1).cells
  have hf := hFrom_any 1 time 1000000
  rw [decide_eq_true ht.1, decide_eq_true ht.2] at hf
  have HF := hide hf
  clear hf
  go_enter Tryz.func8, Tryz.ntmps8
  go_upto_region 1 with fail
  rw [← unhide HW1]
  clear HW1
  go_wp2_with fail
  refine (unhide HCK).mono ?_
  rintro e w2 ⟨rfl, hb2⟩
  rw [show errI true = 0 from rfl]
  have hr2 := isRu.below (unhide HR1) hb2 (isRu.lt (unhide HR1))
  have hb02 := (unhide HB1).trans (hb2.mono (unhide HB1).size)
  have HR2 := hide hr2
  have HB02 := hide hb02
  clear hr2 hb02 hb2 HR1 HB1 HCK r0 r1 r2 r3 r4 r5 r6 r7 r8 r9 r10 r11 r12
  go_wp2_with fail
  refine (unhide HF w2).mono ?_
  rintro e u ⟨rfl, hu⟩
  rw [hu]
  clear hu
  go_upto_region 3 with fail
  obtain ⟨w1, hw1⟩ : ∃ w1, w1 = w2.drew := ⟨_, rfl⟩
  have hb1 : Below w.heap.size w w1 := by rw [hw1]; exact (unhide HB02).drew
  have hr1 : isRu w1 w.heap.size (.int .i64 (W : Int)) (.int .i64 (H : Int)) (.string C) (.int .i64 T) (.string A) (.string B) (.slice ao n cap) (.bool dr) (.int .u8 (lo : Int)) (.int .i64 li) (.int .u8 (re : Int)) (.bool st) (.int .i64 pl) := by rw [hw1]; exact unhide HR2
  have HS : Hid (∀ u, Below w1.heap.size w1 u → (fun u => u.cell? ⟨w.heap.size, 0, none⟩ = some (.int .i64 (W : Int)) ∧ u.cell? ⟨w.heap.size, 1, none⟩ = some (.int .i64 (H : Int)) ∧ u.cell? ⟨w.heap.size, 2, none⟩ = some (.string C) ∧ u.cell? ⟨w.heap.size, 3, none⟩ = some (.int .i64 T) ∧ u.cell? ⟨w.heap.size, 4, none⟩ = some (.string A) ∧ u.cell? ⟨w.heap.size, 5, none⟩ = some (.string B) ∧ u.cell? ⟨w.heap.size, 6, none⟩ = some (.slice ao n cap) ∧ u.cell? ⟨w.heap.size, 7, none⟩ = some (.bool dr) ∧ u.cell? ⟨w.heap.size, 8, none⟩ = some (.int .u8 (lo : Int)) ∧ u.cell? ⟨w.heap.size, 9, none⟩ = some (.int .i64 li) ∧ u.cell? ⟨w.heap.size, 10, none⟩ = some (.int .u8 (re : Int)) ∧ u.cell? ⟨w.heap.size, 11, none⟩ = some (.bool st) ∧ u.cell? ⟨w.heap.size, 12, none⟩ = some (.int .i64 pl)) u) := hide fun u hu => (isRu.below hr1 hu (isRu.lt hr1)).cells
  have HCO : Hid (∀ u, Below w1.heap.size w1 u → Calls Tryz.prog 28 #[.agg #[.int .i64 (W : Int), .int .i64 (H : Int), .string C, .int .i64 T, .string A, .string B, .slice ao n cap, .bool dr, .int .u8 (lo : Int), .int .i64 li, .int .u8 (re : Int), .bool st, .int .i64 pl]] u fun e w' => ∃ ao' cap', e = .returned (.agg #[.int .i64 (W : Int), .int .i64 (H : Int), .string C, .int .i64 T, .string A, .string B, .slice ao' n cap', .bool dr, .int .u8 (lo : Int), .int .i64 li, .int .u8 (re : Int), .bool st, .int .i64 pl]) ∧ isPcs w' ao' cap' ps ∧ PcsFrom w.heap.size w' ao' ps ∧ Below u.heap.size u w') := hide fun u hu => by
    have hbu := hb1.trans (hu.mono hb1.size)
    refine (unhide HCO0 u hbu).mono ?_
    rintro e w' ⟨a, c, h1, h2, h3, h4⟩
    exact ⟨a, c, h1, h2, fun i q hq => by
      obtain ⟨g, wo, wc, k1, k2, k3, k4⟩ := h3 i q hq
      have := hbu.size
      exact ⟨g, wo, wc, k1, by omega, k3, fun a ha => Nat.le_trans (hbu.size) (k4 a ha)⟩, h4⟩
  have HB1 := hide hb1
  have HW1 := hide hw1
  have HH : Hid ((fun u => u.cell? ⟨w.heap.size, 0, none⟩ = some (.int .i64 (W : Int)) ∧ u.cell? ⟨w.heap.size, 1, none⟩ = some (.int .i64 (H : Int)) ∧ u.cell? ⟨w.heap.size, 2, none⟩ = some (.string C) ∧ u.cell? ⟨w.heap.size, 3, none⟩ = some (.int .i64 T) ∧ u.cell? ⟨w.heap.size, 4, none⟩ = some (.string A) ∧ u.cell? ⟨w.heap.size, 5, none⟩ = some (.string B) ∧ u.cell? ⟨w.heap.size, 6, none⟩ = some (.slice ao n cap) ∧ u.cell? ⟨w.heap.size, 7, none⟩ = some (.bool dr) ∧ u.cell? ⟨w.heap.size, 8, none⟩ = some (.int .u8 (lo : Int)) ∧ u.cell? ⟨w.heap.size, 9, none⟩ = some (.int .i64 li) ∧ u.cell? ⟨w.heap.size, 10, none⟩ = some (.int .u8 (re : Int)) ∧ u.cell? ⟨w.heap.size, 11, none⟩ = some (.bool st) ∧ u.cell? ⟨w.heap.size, 12, none⟩ = some (.int .i64 pl)) w1) := hide ((unhide HS) _ (Below.refl _ _))
  have HBR : Hid (Below w1.heap.size w1 w1) := hide (Below.refl _ _)
  clear hw1 hb1 hr1 HR2 HB02 HCO0 HF
  apply cutForN (fun a c w00 v => isPcs w00 a c ps ∧ PcsFrom w.heap.size w00 a ps ∧ Below w1.heap.size w1 w00 ∧ v = w00.alloc (.cells #[.int .i64 time, .int .i64 time, .int .i64 0, .int .i64 (W : Int), .int .i64 (H : Int), .string C, .int .i64 T, .string A, .string B, .slice a n c, .bool dr, .int .u8 (lo : Int), .int .i64 li, .int .u8 (re : Int), .bool st, .int .i64 pl, .int .i64 0, .int .i64 0, .string ⟨#[]⟩, .int .i64 0, .string ⟨#[]⟩, .string ⟨#[]⟩, .int .i64 0, .int .i64 0, .string ⟨#[]⟩] 82 (0, 0)))
  case k =>
    intro key
    refine wp_region_v [5] (fun u => u.cell? ⟨w.heap.size, 0, none⟩ = some (.int .i64 (W : Int)) ∧ u.cell? ⟨w.heap.size, 1, none⟩ = some (.int .i64 (H : Int)) ∧ u.cell? ⟨w.heap.size, 2, none⟩ = some (.string C) ∧ u.cell? ⟨w.heap.size, 3, none⟩ = some (.int .i64 T) ∧ u.cell? ⟨w.heap.size, 4, none⟩ = some (.string A) ∧ u.cell? ⟨w.heap.size, 5, none⟩ = some (.string B) ∧ u.cell? ⟨w.heap.size, 6, none⟩ = some (.slice ao n cap) ∧ u.cell? ⟨w.heap.size, 7, none⟩ = some (.bool dr) ∧ u.cell? ⟨w.heap.size, 8, none⟩ = some (.int .u8 (lo : Int)) ∧ u.cell? ⟨w.heap.size, 9, none⟩ = some (.int .i64 li) ∧ u.cell? ⟨w.heap.size, 10, none⟩ = some (.int .u8 (re : Int)) ∧ u.cell? ⟨w.heap.size, 11, none⟩ = some (.bool st) ∧ u.cell? ⟨w.heap.size, 12, none⟩ = some (.int .i64 pl)) (by kernel_rfl) ?_
    rw [← unhide HW1]
    have hHeld := unhide HH
    refine wpAnyV_tk (i := 0) (oi := _) (v := ?_) rfl (by kernel_rfl) (by kernel_rfl) (by kernel_rfl) (by kernel_rfl) (fun _ _ _ h => h) (Or.inl ⟨by rfl, ?_⟩) (by assumption) ?_
    rotate_left 1
    · (intro u hSu; (try dsimp only at hSu); go_simp; first | done | with_reducible rfl | rfl)
    simp only [Act.put, List.getElem_toArray, List.getElem_cons_zero, List.setIfInBounds_toArray, List.set_cons_zero, List.set_cons_succ]
    refine wpAnyV_tk (i := 2) (oi := _) (v := ?_) rfl (by kernel_rfl) (by kernel_rfl) (by kernel_rfl) (by kernel_rfl) (fun _ _ _ h => h) (Or.inl ⟨by rfl, ?_⟩) (by assumption) ?_
    rotate_left 1
    · (intro u hSu; (try dsimp only at hSu); go_simp; first | done | with_reducible rfl | rfl)
    simp only [Act.put, List.getElem_toArray, List.getElem_cons_zero, List.getElem_cons_succ, List.setIfInBounds_toArray, List.set_cons_zero, List.set_cons_succ]
    refine wpAnyV_ready (rs := [1]) (by kernel_rfl) (by simp) ?_
    refine ReadyV.cons (o := _) rfl (fun K hK => ?_) ReadyV.nil
    clear hHeld
    -- w1 world at hand (Below: HBR), w3 behind
    refine step_callH (by rfl) 27 _ _ rfl #[.int .i64 time] (by simp [Act.eval]) entCA (clocksAt_any time w1) ?_
    rintro e w3 ⟨rfl, bw3⟩
    refine ⟨_, rfl, ?_⟩
    have hww3 : Below w1.heap.size w1 w3 := (unhide HBR).trans (bw3.mono (unhide HBR).size)
    have hHeld := unhide HS _ hww3
    refine hK.out _ _ (fun _ => hHeld) ?_
    clear hK K
    try simp only [Act.put, List.getElem_toArray, List.getElem_cons_zero, List.getElem_cons_succ, List.setIfInBounds_toArray, List.set_cons_zero, List.set_cons_succ]
    have HB3 := hide hww3
    clear hHeld
    refine wpAnyV_ready (rs := [3]) (by kernel_rfl) (by simp) ?_
    refine ReadyV.cons (o := _) rfl (fun K hK => ?_) ReadyV.nil
    refine step_callH (by rfl) 28 _ _ rfl #[.agg #[.int .i64 (W : Int), .int .i64 (H : Int), .string C, .int .i64 T, .string A, .string B, .slice ao n cap, .bool dr, .int .u8 (lo : Int), .int .i64 li, .int .u8 (re : Int), .bool st, .int .i64 pl]] (by simp [Act.eval]) entCo (unhide HCO w3 (unhide HB3)) ?_
    rintro e w4 ⟨ao2, cp2, rfl, hpc, hfr, bw4⟩
    refine ⟨_, rfl, ?_⟩
    have hww4 : Below w1.heap.size w1 w4 := (unhide HB3).trans (bw4.mono (unhide HB3).size)
    have hHeld := unhide HS _ hww4
    refine hK.out _ _ (fun _ => hHeld) ?_
    clear hK K
    try simp only [Act.put, List.getElem_toArray, List.getElem_cons_zero, List.getElem_cons_succ, List.setIfInBounds_toArray, List.set_cons_zero, List.set_cons_succ]
    -- w4 world at hand (its isPcs hpc, PcsFrom hfr, Below w1 hww4)
    refine wpAnyV_pure (i := 4) (oi := _) (v := ?_) rfl (by kernel_rfl) (by kernel_rfl) (by kernel_rfl) (by kernel_rfl) (fun _ _ _ h => h) (Or.inl ⟨by rfl, ?_⟩) (by first | exact fun _ => hHeld | (intro h; exact absurd h (by decide))) ?_
    rotate_left 1
    · (intro u _; go_simp; first | done | with_reducible rfl | rfl)
    simp only [Act.put, List.getElem_toArray, List.getElem_cons_zero, List.getElem_cons_succ, List.setIfInBounds_toArray, List.set_cons_zero, List.set_cons_succ]
    clear hHeld
    refine wpAnyV_ready (rs := [5]) (by kernel_rfl) (by simp) ?_
    refine ReadyV.cons (o := _) rfl (fun K hK => ?_) ReadyV.nil
    go_simp
    refine hK.out _ _ (fun h => absurd h (by decide)) ?_
    clear hK K
    try simp only [Act.put, List.getElem_toArray, List.getElem_cons_zero, List.getElem_cons_succ, List.setIfInBounds_toArray, List.set_cons_zero, List.set_cons_succ]
    refine wpAnyV_pure (i := 6) (oi := _) (v := ?_) rfl (by kernel_rfl) (by kernel_rfl) (by kernel_rfl) (by kernel_rfl) (fun _ _ _ h => h) (Or.inl ⟨by rfl, ?_⟩) (by first | exact fun _ => hHeld | (intro h; exact absurd h (by decide))) ?_
    rotate_left 1
    · (intro u _; go_simp; first | done | with_reducible rfl | rfl)
    simp only [Act.put, List.getElem_toArray, List.getElem_cons_zero, List.getElem_cons_succ, List.setIfInBounds_toArray, List.set_cons_zero, List.set_cons_succ]
    refine wpAnyV_done (by kernel_rfl) ?_ _
    exact unhide key ao2 cp2 w4 ((w4).alloc (.cells #[.int .i64 time, .int .i64 time, .int .i64 0, .int .i64 (W : Int), .int .i64 (H : Int), .string C, .int .i64 T, .string A, .string B, .slice ao2 n cp2, .bool dr, .int .u8 (lo : Int), .int .i64 li, .int .u8 (re : Int), .bool st, .int .i64 pl, .int .i64 0, .int .i64 0, .string ⟨#[]⟩, .int .i64 0, .string ⟨#[]⟩, .string ⟨#[]⟩, .int .i64 0, .int .i64 0, .string ⟨#[]⟩] 82 (0, 0))) ⟨hpc, hfr, hww4, rfl⟩
  rintro ao2 cp2 w00 v ⟨hpc, hfr, hbw, hv⟩
  have hbv : Below w00.heap.size w00 v := by rw [hv]; exact (Below.refl _ _).alloc (Nat.le_refl _) _
  have hhv : isH v w00.heap.size (.int .i64 (W : Int)) (.int .i64 (H : Int)) (.string C) (.int .i64 T) (.string A) (.string B) (.slice ao2 n cp2) (.bool dr) (.int .u8 (lo : Int)) (.int .i64 li) (.int .u8 (re : Int)) (.bool st) (.int .i64 pl) time time 0 0 0 ⟨#[]⟩ 0 ⟨#[]⟩ ⟨#[]⟩ 0 0 ⟨#[]⟩ := by rw [hv]; exact heap_alloc_new w00 _
  have hw00 : Below w.heap.size w w00 := (unhide HB1).trans (hbw.mono (unhide HB1).size)
  have hcT : Hid (∀ u (x' : Ho) (o' : Int), isHo u w00.heap.size (.int .i64 (W : Int)) (.int .i64 (H : Int)) (.string C) (.int .i64 T) (.string A) (.string B) (.slice ao2 n cp2) (.bool dr) (.int .u8 (lo : Int)) (.int .i64 li) (.int .u8 (re : Int)) (.bool st) (.int .i64 G.pl) x' o' → Below w00.heap.size w00 u → Calls Tryz.prog 29 #[.pointer (some ⟨w00.heap.size, 0, none⟩), .agg #[.int .i64 (W : Int), .int .i64 (H : Int), .string C, .int .i64 T, .string A, .string B]] u fun e w' => e = .returned (.tuple #[]) ∧ isHo w' w00.heap.size (.int .i64 (W : Int)) (.int .i64 (H : Int)) (.string C) (.int .i64 T) (.string A) (.string B) (.slice ao2 n cp2) (.bool dr) (.int .u8 (lo : Int)) (.int .i64 li) (.int .u8 (re : Int)) (.bool st) (.int .i64 G.pl) { x' with p := ⟨W, H, C, T, A, B⟩ } (G.said ⟨W, H, C, T, A, B⟩ x'.ply) ∧ Ex w00.heap.size u.heap.size u w') := hide fun u x' o' h1 h2 =>
    comeTo_any G w00.heap.size w00.heap.size _ _ _ _ _ _ _ _ _ _ _ _ x' o' ⟨W, H, C, T, A, B⟩ w00 u h1 (Nat.le_refl _) h2 (fun u hu => by
      have := unhide HO ao2 cp2 u (hpc.below hu (Nat.le_refl _))
      rw [← unhide HN, unhide HPL] at this
      exact this)
  rw [← unhide HPL] at hcT
  have hx0 : isHo v w00.heap.size (.int .i64 (W : Int)) (.int .i64 (H : Int)) (.string C) (.int .i64 T) (.string A) (.string B) (.slice ao2 n cp2) (.bool dr) (.int .u8 (lo : Int)) (.int .i64 li) (.int .u8 (re : Int)) (.bool st) (.int .i64 pl) ⟨⟨0, 0, ⟨#[]⟩, 0, ⟨#[]⟩, ⟨#[]⟩⟩, 0, time, time, 0, 0, ⟨#[]⟩⟩ 0 := hhv
  have HX0 := hide hx0
  have HBV := hide hbv
  have HPC := hide hpc
  have HFR := hide hfr
  have HW0 := hide hw00
  have hrc := (isH.cells hhv).2.1
  clear hbv hhv hw00 hv hbw hpc hfr hx0 HO HCO HB1 HW1 HH HBR HS
  obtain ⟨b, hb⟩ : ∃ b, b = w00.heap.size := ⟨_, rfl⟩
  rw [← hb] at hcT HX0 HBV hrc ⊢
  have HB := hide hb
  clear hb
  obtain ⟨r0, r1, r2, r3, r4, r5, r6, r7, r8, r9, r10, r11, r12⟩ := hrc
  go_wp2_with fail
  refine (unhide hcT v _ _ (unhide HX0) (unhide HBV)).mono ?_
  rintro e y ⟨rfl, hy, hxy⟩
  have HY := hide hy
  have HBY := hide ((unhide HBV).trans (hxy.fresh (Nat.le_refl _) (Nat.le_of_lt (isH.lt (unhide HX0)))))
  clear hy hxy hcT HX0 HBV r0 r1 r2 r3 r4 r5 r6 r7 r8 r9 r10 r11 r12
  go_wp2
  go_ret2
  refine ⟨b, ao2, cp2, w00, rfl, ⟨by rw [unhide HB]; exact (unhide HW0).size, (unhide HB).symm, unhide HPC, unhide HFR, unhide HBY, unhide HW0, ?_⟩⟩
  rw [← unhide HN, ← unhide HPL]
  exact unhide HY
set_option maxHeartbeats 4000000 in
set_option maxRecDepth 100000 in
theorem new_no (W H : Int) (T : Int) (C A B : ByteArray) (ao : Option Addr) (cap : Nat) (ps : List Pc) (dr st : Bool) (lo re : Nat) (li pl time : Int) (w : World) (h : isPcs w ao cap ps) (hC : C.size ≤ maxLen) (hA : A.size ≤ maxLen) (hB : B.size ≤ maxLen) (hlo : lo < 256) (hre : re < 256) (hbad : (rulesB W H C.data.toList T A.data.toList B.data.toList ps lo li re pl && (decide (1 ≤ time) && decide (time ≤ 1000000))) = false) :
    Calls Tryz.prog 8 #[.agg #[.int .i64 W, .int .i64 H, .string C, .int .i64 T, .string A, .string B, .slice ao ps.length cap, .bool dr, .int .u8 (lo : Int), .int .i64 li, .int .u8 (re : Int), .bool st, .int .i64 pl], .int .i64 time] w fun e w' => e = .returned (.tuple #[.pointer none, .int .i64 1]) ∧ Below w.heap.size w w' := by
  obtain ⟨n, hn⟩ : ∃ n, n = ps.length := ⟨_, rfl⟩
  obtain ⟨w1, hw1⟩ : ∃ w1, w1 = w.alloc (.cells #[.int .i64 W, .int .i64 H, .string C, .int .i64 T, .string A, .string B, .slice ao ps.length cap, .bool dr, .int .u8 (lo : Int), .int .i64 li, .int .u8 (re : Int), .bool st, .int .i64 pl] 27 (0, 0)) := ⟨_, rfl⟩
  have hb1 : Below w.heap.size w w1 := by rw [hw1]; exact (Below.refl _ _).alloc (Nat.le_refl _) _
  have hr1 : isRu w1 w.heap.size (.int .i64 W) (.int .i64 H) (.string C) (.int .i64 T) (.string A) (.string B) (.slice ao ps.length cap) (.bool dr) (.int .u8 (lo : Int)) (.int .i64 li) (.int .u8 (re : Int)) (.bool st) (.int .i64 pl) := by rw [hw1]; exact heap_alloc_new w _
  have hck := rCheck_any W H T C A B ao cap ps dr st lo re li pl w1 hC hA hB hlo hre (h.below hb1 (Nat.le_refl _))
  rw [← hn] at hr1 hw1 hck ⊢
  obtain ⟨R, hR⟩ : ∃ R, R = rulesB W H C.data.toList T A.data.toList B.data.toList ps lo li re pl := ⟨_, rfl⟩
  rw [← hR] at hck hbad
  have HCK := hide hck
  have HB1 := hide hb1
  have HW1 := hide hw1
  have hf := hFrom_any 1 time 1000000
  obtain ⟨F, hF⟩ : ∃ F, F = (decide (1 ≤ time) && decide (time ≤ 1000000)) := ⟨_, rfl⟩
  rw [← hF] at hf hbad
  have HF := hide hf
  clear hf hF hR hw1 hb1 h hn hck
  obtain ⟨r0, r1, r2, r3, r4, r5, r6, r7, r8, r9, r10, r11, r12⟩ := hr1.cells
  clear hr1
  go_enter Tryz.func8, Tryz.ntmps8
  go_upto_region 1 with fail
  rw [← unhide HW1]
  clear HW1
  go_wp2_with fail
  refine (unhide HCK).mono ?_
  rintro e w2 ⟨rfl, hb2⟩
  have HB2 := hide ((unhide HB1).trans (hb2.mono (unhide HB1).size))
  clear HB1 hb2 HCK r0 r1 r2 r3 r4 r5 r6 r7 r8 r9 r10 r11 r12
  cases R with
  | false =>
    rw [show errI false = 1 from rfl]
    clear hbad
    go_wp2
    go_ret2
    exact ⟨rfl, unhide HB2⟩
  | true =>
    rw [show errI true = 0 from rfl]
    obtain rfl : F = false := by simpa using hbad
    clear hbad
    go_wp2_with fail
    refine (unhide HF w2).mono ?_
    rintro e u ⟨rfl, hu⟩
    rw [hu]
    clear hu
    go_wp2
    go_ret2
    exact ⟨rfl, unhide HB2⟩
end Go.Proofs.YtihojhfpepbjhaaGreatDoor
