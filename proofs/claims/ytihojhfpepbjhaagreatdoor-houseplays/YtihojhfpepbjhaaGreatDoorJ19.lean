/-
  package moves, walked: check.
  package house, walked: move.
-/
import Derived.Test.YtihojhfpepbjhaaGreatDoorJ18
import Derived.Test.YtihojhfpepbjhaaGreatDoorHo4
namespace Go.Proofs.YtihojhfpepbjhaaGreatDoor
open Go.RowKit
attribute [local go_sem ↓] Go.wp_at_zero Go.wp_at_succ

/-- A move in a box. -/
def isMb (w : World) (b : Nat) (f t c : Int) : Prop := w.heap[b]? = some (.cells #[.int .i64 f, .int .i64 t, .int .u8 c] 61 (0, 0))
theorem isMb.all {w : World} {b : Nat} {f t c : Int} (h : isMb w b f t c) : w.cell? ⟨b, 0, none⟩ = some (.int .i64 f) ∧ w.cell? ⟨b, 1, none⟩ = some (.int .i64 t) ∧ w.cell? ⟨b, 2, none⟩ = some (.int .u8 c) := by
  unfold isMb at h; simp [World.cell?, h]
theorem isMb.lt {w : World} {b : Nat} {f t c : Int} (h : isMb w b f t c) : b < w.heap.size := (Array.getElem?_eq_some_iff.1 h).1
theorem isMb.below {w w' : World} {b B0 : Nat} {f t c : Int} (h : isMb w b f t c) (hh : Below B0 w w') (hb : b < B0) : isMb w' b f t c := by
  unfold isMb at h ⊢; rw [hh.block b hb]; exact h

theorem entLi : ∀ args (u : World), (callFunc 49 args).run Tryz.prog u = .ok (.enter 49 args) u := enters_of Tryz.func49 (by kernel_rfl) rfl
theorem entCt : ∀ args (u : World), (callFunc 175 args).run Tryz.prog u = .ok (.enter 175 args) u := enters_of Tryz.func175 (by kernel_rfl) rfl
set_option maxHeartbeats 4000000 in
set_option maxRecDepth 100000 in
theorem check_ok (W0 H0 T0 : Int) (C0 A0 B0 : ByteArray) (ao : Option Addr) (cap : Nat) (ps : List Pc) (dr st : Bool) (lo re : Nat) (li pl : Int) (W H T : Int) (C A B : ByteArray) (f t : Int) (c : Nat) (w : World) (hC0 : C0.size ≤ maxLen) (hA0 : A0.size ≤ maxLen) (hB0 : B0.size ≤ maxLen) (hlo : lo < 256) (hre : re < 256) (h : isPcs w ao cap ps) (hC : C.size ≤ maxLen) (hA : A.size ≤ maxLen) (hB : B.size ≤ maxLen)
    (hat : atB W0 H0 C0.data.toList T0 A0.data.toList B0.data.toList ps lo li re pl W H C.data.toList T A.data.toList B.data.toList = true) (W' H' T' : Nat) (hf : AtF ps W H T C A B W' H' T') :
    Calls Tryz.prog 144 #[.agg #[.int .i64 W0, .int .i64 H0, .string C0, .int .i64 T0, .string A0, .string B0, .slice ao ps.length cap, .bool dr, .int .u8 (lo : Int), .int .i64 li, .int .u8 (re : Int), .bool st, .int .i64 pl], .agg #[.int .i64 W, .int .i64 H, .string C, .int .i64 T, .string A, .string B], .agg #[.int .i64 f, .int .i64 t, .int .u8 (c : Int)]] w fun e w' => e = .returned (.int .i64 (if inM f t c (movesL W' H' T' C A B ps dr lo li re) then 0 else 5)) ∧ Below w.heap.size w w' := by
  obtain ⟨n, hn⟩ : ∃ n, n = ps.length := ⟨_, rfl⟩
  obtain ⟨w1, hw1⟩ : ∃ w1, w1 = w.alloc (.cells #[.int .i64 W0, .int .i64 H0, .string C0, .int .i64 T0, .string A0, .string B0, .slice ao n cap, .bool dr, .int .u8 (lo : Int), .int .i64 li, .int .u8 (re : Int), .bool st, .int .i64 pl] 27 (0, 0)) := ⟨_, rfl⟩
  obtain ⟨w2, hw2⟩ : ∃ w2, w2 = w1.alloc (.cells #[.int .i64 W, .int .i64 H, .string C, .int .i64 T, .string A, .string B] 24 (0, 0)) := ⟨_, rfl⟩
  obtain ⟨w3, hw3⟩ : ∃ w3, w3 = w2.alloc (.cells #[.int .i64 f, .int .i64 t, .int .u8 (c : Int)] 61 (0, 0)) := ⟨_, rfl⟩
  have hb1 : Below w.heap.size w w1 := by rw [hw1]; exact (Below.refl _ _).alloc (Nat.le_refl _) _
  have hb2 : Below w1.heap.size w1 w2 := by rw [hw2]; exact (Below.refl _ _).alloc (Nat.le_refl _) _
  have hb3 : Below w2.heap.size w2 w3 := by rw [hw3]; exact (Below.refl _ _).alloc (Nat.le_refl _) _
  have s1 : w1.heap.size = w.heap.size + 1 := by rw [hw1]; simp
  have s2 : w2.heap.size = w.heap.size + 1 + 1 := by rw [hw2]; simp [s1]
  have hru : isRu w3 w.heap.size (.int .i64 W0) (.int .i64 H0) (.string C0) (.int .i64 T0) (.string A0) (.string B0) (.slice ao n cap) (.bool dr) (.int .u8 (lo : Int)) (.int .i64 li) (.int .u8 (re : Int)) (.bool st) (.int .i64 pl) := isRu.below (isRu.below (show isRu w1 w.heap.size (.int .i64 W0) (.int .i64 H0) (.string C0) (.int .i64 T0) (.string A0) (.string B0) (.slice ao n cap) (.bool dr) (.int .u8 (lo : Int)) (.int .i64 li) (.int .u8 (re : Int)) (.bool st) (.int .i64 pl) by rw [hw1]; exact heap_alloc_new w _) hb2 (by omega)) hb3 (by omega)
  have hpb : isPb w3 (w.heap.size + 1) W H T C A B := isPb.below (show isPb w2 (w.heap.size + 1) W H T C A B by rw [hw2, ← s1]; exact heap_alloc_new w1 _) hb3 (by omega)
  have hmb : isMb w3 (w.heap.size + 1 + 1) f t c := by rw [hw3, ← s2]; exact heap_alloc_new w2 _
  have hbw := (hb1.trans (hb2.mono (show w.heap.size ≤ w1.heap.size by omega))).trans (hb3.mono (show w.heap.size ≤ w2.heap.size by omega))
  have HBW := hide hbw
  have HPB := hide hpb
  have HRU := hide hru
  have HMB := hide hmb
  have HW1 := hide hw1
  have HW2 := hide hw2
  have HW3 := hide hw3
  have HK := hide (rCheckPosition_any W0 H0 T0 C0 A0 B0 ao cap ps dr st lo re li pl W H T C A B w3 hC0 hA0 hB0 hlo hre (h.below hbw (Nat.le_refl _)) hC hA hB)
  rw [hat] at HK
  rw [show errI true = 0 from rfl] at HK
  have HL := hide (fun u (hb : Below w.heap.size w u) => list_any W' H' T' C A B (.int .i64 W0) (.int .i64 H0) (.string C0) (.int .i64 T0) (.string A0) (.string B0) (.bool st) (.int .i64 pl) ao cap ps dr lo re li u (h.below hb (Nat.le_refl _)) hf.ok hlo hre hf.t1 hf.a hf.b hf.w1 hf.h1 hf.c)
  rw [← hf.w, ← hf.h, ← hf.t, ← hn] at HL
  rw [← hn] at HK ⊢
  clear hat hw1 hw2 hw3 hb1 hb2 hb3 s1 s2 hru hpb hmb hbw hn h hf
  generalize movesL W' H' T' C A B ps dr lo li re = L at *
  have HCT := hide (fun v u (h : isMvs u v L) => ContainsM_any v L f t c u h)
  obtain ⟨b, hb⟩ : ∃ b, b = inM f t c L := ⟨_, rfl⟩
  rw [← hb] at HCT ⊢
  clear hb
  go_enter Tryz.func144, Tryz.ntmps144
  go_wp2_with fail
  rw [← unhide HW1, ← unhide HW2, ← unhide HW3]
  refine (unhide HK).mono ?_
  rintro e u ⟨rfl, hb1⟩
  have hPn := (unhide HPB).below hb1 (unhide HPB).lt
  have hRn := (unhide HRU).below hb1 (unhide HRU).lt
  have hMn := (unhide HMB).below hb1 (unhide HMB).lt
  have hBn := (unhide HBW).trans (hb1.mono (unhide HBW).size)
  clear HPB HRU HMB HBW HW1 HW2 HW3 hb1 HK
  have HPB := hide hPn
  have HRU := hide hRn
  have HMB := hide hMn
  have HBW := hide hBn
  obtain ⟨p0, p1, p2, p3, p4, p5⟩ := hPn.all
  obtain ⟨r0, r1, r2, r3, r4, r5, r6, r7, r8, r9, r10, r11, r12⟩ := hRn.cells
  obtain ⟨m0, m1, m2⟩ := hMn.all
  clear hPn hRn hMn hBn
  have hBd : Below w.heap.size w u.drew := (unhide HBW).drew
  have HLd := hide (unhide HL u.drew hBd)
  have HKM : Hid (∀ x, Below u.drew.heap.size u.drew x → isMb x (w.heap.size + 1 + 1) f t c) := hide fun x hx => isMb.below (w := u.drew) (unhide HMB) hx (by show _ < u.heap.size; exact (unhide HMB).lt)
  have HFB : Hid (∀ x y, Below u.drew.heap.size u.drew x → Below x.heap.size x y → Below w.heap.size w y) := hide fun x y hx hy => (hBd.trans (hx.mono hBd.size)).trans (hy.mono (Nat.le_trans hBd.size hx.size))
  clear HL hBd
  cases b with
  | true =>
    go_wp2_with fail
    go_region_law (first
      | (refine step_call rfl 49 #[.tmp 14, .tmp 15] #[27, 24] rfl #[.agg #[.int .i64 W0, .int .i64 H0, .string C0, .int .i64 T0, .string A0, .string B0, .slice ao n cap, .bool dr, .int .u8 (lo : Int), .int .i64 li, .int .u8 (re : Int), .bool st, .int .i64 pl], .agg #[.int .i64 W, .int .i64 H, .string C, .int .i64 T, .string A, .string B]] (by simp [Act.eval]) entLi (unhide HLd) ?_; rintro e1 wx ⟨v, rfl, hown, hbx⟩; refine ⟨_, rfl, ?_⟩; have HMV := hide (isMvs.of hown); clear hown; obtain ⟨q0, q1, q2⟩ := (unhide HKM wx hbx).all)
      | (refine step_call rfl 175 #[.tmp 16, .tmp 17] #[56, 61] rfl #[v, .agg #[.int .i64 f, .int .i64 t, .int .u8 (c : Int)]] (by simp [Act.eval]) entCt (unhide HCT v _ (unhide HMV)) ?_; rintro e2 wy ⟨rfl, hby⟩; refine ⟨_, rfl, ?_⟩; have HFY := hide (unhide HFB wx wy hbx hby); clear hby))
    all_goals
      clear hbx q0 q1 q2 p0 p1 p2 p3 p4 p5 r0 r1 r2 r3 r4 r5 r6 r7 r8 r9 r10 r11 r12 m0 m1 m2
      go_wp2
      go_ret
      exact ⟨rfl, unhide HFY⟩
  | false =>
    go_wp2_with fail
    go_region_law (first
      | (refine step_call rfl 49 #[.tmp 14, .tmp 15] #[27, 24] rfl #[.agg #[.int .i64 W0, .int .i64 H0, .string C0, .int .i64 T0, .string A0, .string B0, .slice ao n cap, .bool dr, .int .u8 (lo : Int), .int .i64 li, .int .u8 (re : Int), .bool st, .int .i64 pl], .agg #[.int .i64 W, .int .i64 H, .string C, .int .i64 T, .string A, .string B]] (by simp [Act.eval]) entLi (unhide HLd) ?_; rintro e1 wx ⟨v, rfl, hown, hbx⟩; refine ⟨_, rfl, ?_⟩; have HMV := hide (isMvs.of hown); clear hown; obtain ⟨q0, q1, q2⟩ := (unhide HKM wx hbx).all)
      | (refine step_call rfl 175 #[.tmp 16, .tmp 17] #[56, 61] rfl #[v, .agg #[.int .i64 f, .int .i64 t, .int .u8 (c : Int)]] (by simp [Act.eval]) entCt (unhide HCT v _ (unhide HMV)) ?_; rintro e2 wy ⟨rfl, hby⟩; refine ⟨_, rfl, ?_⟩; have HFY := hide (unhide HFB wx wy hbx hby); clear hby))
    all_goals
      clear hbx q0 q1 q2 p0 p1 p2 p3 p4 p5 r0 r1 r2 r3 r4 r5 r6 r7 r8 r9 r10 r11 r12 m0 m1 m2
      go_wp2
      go_ret
      exact ⟨rfl, unhide HFY⟩
end Go.Proofs.YtihojhfpepbjhaaGreatDoor

namespace Go.Proofs.YtihojhfpepbjhaaGreatDoor
open Go.RowKit
attribute [local go_sem ↓] Go.wp_at_zero Go.wp_at_succ

theorem entRead : ∀ args (u : World), (callFunc 104 args).run Tryz.prog u = .ok (.enter 104 args) u := enters_of Tryz.func104 (by kernel_rfl) rfl
theorem entApply : ∀ args (u : World), (callFunc 105 args).run Tryz.prog u = .ok (.enter 105 args) u := enters_of Tryz.func105 (by kernel_rfl) rfl
theorem entLine : ∀ args (u : World), (callFunc 80 args).run Tryz.prog u = .ok (.enter 80 args) u := enters_of Tryz.func80 (by kernel_rfl) rfl
theorem cutForH (R : Nat → World → Prop) {T : Nat → World → Prop} {G : Prop} (k : Hid (∀ b v, R b v → T b v) → G) (p : ∀ b v, R b v → T b v) : G := k (hide p)
theorem undrew {S : Nat} {w w' : World} (h : Below S w.drew w') : Below S w w' := ⟨h.os, h.tape, h.output, h.size, h.block⟩
theorem isMb.frozenH {w : World} {b : Nat} {f t c : Int} (h : isMb w b f t c) (k : Nat) : w.frozen? ⟨b, k, none⟩ = false := frozen_of_row w b k _ _ h
theorem isMb.setAllH {w : World} {b : Nat} {f t c : Int} (h : isMb w b f t c) (f' t' c' : Int) : isMb (((w.setCell ⟨b, 0, none⟩ (.int .i64 f')).setCell ⟨b, 1, none⟩ (.int .i64 t')).setCell ⟨b, 2, none⟩ (.int .u8 c')) b f' t' c' := by
  unfold isMb at h ⊢; simp [World.setCell, Array.getElem?_modify, h]
theorem below_set3H {B : Nat} {w u : World} {b : Nat} (h : Below B w u) (hb : B ≤ b) (x y z : Value) : Below B w (((u.setCell ⟨b, 0, none⟩ x).setCell ⟨b, 1, none⟩ y).setCell ⟨b, 2, none⟩ z) := ((h.setCell (p := ⟨b, 0, none⟩) hb x).setCell (p := ⟨b, 1, none⟩) hb y).setCell (p := ⟨b, 2, none⟩) hb z
set_option maxHeartbeats 4000000 in
set_option maxRecDepth 100000 in
/-- move: up to where the move was read. -/
theorem move_read (G : Gm) (b S : Nat) (v0 v1 v2 v3 v4 v5 v6 v7 v8 v9 v10 v11 : Value) (x : Ho) (o : Int) (s : ByteArray) (m : Mv) (E : Int) (w00 w : World) (h : isHo w b v0 v1 v2 v3 v4 v5 v6 v7 v8 v9 v10 v11 (.int .i64 G.pl) x o) (hS : S ≤ b) (h00 : Below S w00 w)
    (hR : ∀ u, Below S w00 u → Calls Tryz.prog 104 #[.agg #[v0, v1, v2, v3, v4, v5, v6, v7, v8, v9, v10, v11, .int .i64 G.pl], .agg #[.int .i64 x.p.W, .int .i64 x.p.H, .string x.p.C, .int .i64 x.p.T, .string x.p.A, .string x.p.B], .string s] u fun e u' => e = .returned (.tuple #[.agg #[.int .i64 m.f, .int .i64 (m.t : Int), .int .u8 (m.c : Int)], .int .i64 E]) ∧ Below u.heap.size u u') (hE : E = 5) :
    Calls Tryz.prog 68 #[.pointer (some ⟨b, 0, none⟩), .string s] w fun e w' => e = .returned (.bool false) ∧ Below w.heap.size w w' := by
  have HR := hide hR
  clear hR
  generalize G.pl = pl at *
  have HK : Hid (∀ u, Below w.heap.size w u → Below S w00 u) := hide fun u hu => h00.trans (hu.mono (Nat.le_trans hS (Nat.le_of_lt (isH.lt h))))
  have HS : Hid (∀ u, Below w.heap.size w u → (fun u => (u.cell? ⟨b, 3, none⟩ = some v0 ∧ u.cell? ⟨b, 4, none⟩ = some v1 ∧ u.cell? ⟨b, 5, none⟩ = some v2 ∧ u.cell? ⟨b, 6, none⟩ = some v3 ∧ u.cell? ⟨b, 7, none⟩ = some v4 ∧ u.cell? ⟨b, 8, none⟩ = some v5 ∧ u.cell? ⟨b, 9, none⟩ = some v6 ∧ u.cell? ⟨b, 10, none⟩ = some v7 ∧ u.cell? ⟨b, 11, none⟩ = some v8 ∧ u.cell? ⟨b, 12, none⟩ = some v9 ∧ u.cell? ⟨b, 13, none⟩ = some v10 ∧ u.cell? ⟨b, 14, none⟩ = some v11 ∧ u.cell? ⟨b, 15, none⟩ = some (.int .i64 pl)) ∧ u.cell? ⟨b, 16, none⟩ = some (.int .i64 x.p.W) ∧ u.cell? ⟨b, 17, none⟩ = some (.int .i64 x.p.H) ∧ u.cell? ⟨b, 18, none⟩ = some (.string x.p.C) ∧ u.cell? ⟨b, 19, none⟩ = some (.int .i64 x.p.T) ∧ u.cell? ⟨b, 20, none⟩ = some (.string x.p.A) ∧ u.cell? ⟨b, 21, none⟩ = some (.string x.p.B)) u) := hide fun u hu => by
    have c := isH.cells (isH.below h hu (isH.lt h))
    exact ⟨c.2.1, c.2.2.1⟩
  obtain ⟨wd, hwd⟩ : ∃ wd, wd = w.drew := ⟨_, rfl⟩
  have HB : Hid (Below w.heap.size w wd) := hide (by rw [hwd]; exact (Below.refl _ _).drew)
  have HWD := hide hwd
  clear hwd
  clear h h00 hS
  go_enter Tryz.func68, Tryz.ntmps68
  go_upto_region 1 with fail
  apply cutForH (fun g v => isMb v g m.f m.t m.c ∧ Below w.heap.size w v ∧ w.heap.size ≤ g)
  case k =>
    intro key
    refine wp_region_v [14] (fun u => (u.cell? ⟨b, 3, none⟩ = some v0 ∧ u.cell? ⟨b, 4, none⟩ = some v1 ∧ u.cell? ⟨b, 5, none⟩ = some v2 ∧ u.cell? ⟨b, 6, none⟩ = some v3 ∧ u.cell? ⟨b, 7, none⟩ = some v4 ∧ u.cell? ⟨b, 8, none⟩ = some v5 ∧ u.cell? ⟨b, 9, none⟩ = some v6 ∧ u.cell? ⟨b, 10, none⟩ = some v7 ∧ u.cell? ⟨b, 11, none⟩ = some v8 ∧ u.cell? ⟨b, 12, none⟩ = some v9 ∧ u.cell? ⟨b, 13, none⟩ = some v10 ∧ u.cell? ⟨b, 14, none⟩ = some v11 ∧ u.cell? ⟨b, 15, none⟩ = some (.int .i64 pl)) ∧ u.cell? ⟨b, 16, none⟩ = some (.int .i64 x.p.W) ∧ u.cell? ⟨b, 17, none⟩ = some (.int .i64 x.p.H) ∧ u.cell? ⟨b, 18, none⟩ = some (.string x.p.C) ∧ u.cell? ⟨b, 19, none⟩ = some (.int .i64 x.p.T) ∧ u.cell? ⟨b, 20, none⟩ = some (.string x.p.A) ∧ u.cell? ⟨b, 21, none⟩ = some (.string x.p.B)) (by kernel_rfl) ?_
    rw [← unhide HWD]
    have hHeld := unhide HS _ (unhide HB)
    refine wpAnyV_tk (i := 0) (oi := _) (v := ?_) rfl (by kernel_rfl) (by kernel_rfl) (by kernel_rfl) (by kernel_rfl) (fun _ _ _ h => h) (Or.inl ⟨by rfl, ?_⟩) (by assumption) ?_
    rotate_left 1
    · (intro u hSu; (try dsimp only at hSu); go_simp; first | done | with_reducible rfl | rfl)
    simp only [Act.put, List.getElem_toArray, List.getElem_cons_zero, List.setIfInBounds_toArray, List.set_cons_zero, List.set_cons_succ]
    refine wpAnyV_tk (i := 1) (oi := _) (v := ?_) rfl (by kernel_rfl) (by kernel_rfl) (by kernel_rfl) (by kernel_rfl) (fun _ _ _ h => h) (Or.inl ⟨by rfl, ?_⟩) (by assumption) ?_
    rotate_left 1
    · (intro u hSu; (try dsimp only at hSu); go_simp; first | done | with_reducible rfl | rfl)
    simp only [Act.put, List.getElem_toArray, List.getElem_cons_zero, List.getElem_cons_succ, List.setIfInBounds_toArray, List.set_cons_zero, List.set_cons_succ]
    refine wpAnyV_tk (i := 2) (oi := _) (v := ?_) rfl (by kernel_rfl) (by kernel_rfl) (by kernel_rfl) (by kernel_rfl) (fun _ _ _ h => h) (Or.inl ⟨by rfl, ?_⟩) (by assumption) ?_
    rotate_left 1
    · (intro u hSu; (try dsimp only at hSu); go_simp; first | done | with_reducible rfl | rfl)
    simp only [Act.put, List.getElem_toArray, List.getElem_cons_zero, List.getElem_cons_succ, List.setIfInBounds_toArray, List.set_cons_zero, List.set_cons_succ]
    refine wpAnyV_tk (i := 3) (oi := _) (v := ?_) rfl (by kernel_rfl) (by kernel_rfl) (by kernel_rfl) (by kernel_rfl) (fun _ _ _ h => h) (Or.inl ⟨by rfl, ?_⟩) (by assumption) ?_
    rotate_left 1
    · (intro u hSu; (try dsimp only at hSu); go_simp; first | done | with_reducible rfl | rfl)
    simp only [Act.put, List.getElem_toArray, List.getElem_cons_zero, List.getElem_cons_succ, List.setIfInBounds_toArray, List.set_cons_zero, List.set_cons_succ]
    refine wpAnyV_tk (i := 4) (oi := _) (v := ?_) rfl (by kernel_rfl) (by kernel_rfl) (by kernel_rfl) (by kernel_rfl) (fun _ _ _ h => h) (Or.inl ⟨by rfl, ?_⟩) (by assumption) ?_
    rotate_left 1
    · (intro u hSu; (try dsimp only at hSu); go_simp; first | done | with_reducible rfl | rfl)
    simp only [Act.put, List.getElem_toArray, List.getElem_cons_zero, List.getElem_cons_succ, List.setIfInBounds_toArray, List.set_cons_zero, List.set_cons_succ]
    refine wpAnyV_tk (i := 5) (oi := _) (v := ?_) rfl (by kernel_rfl) (by kernel_rfl) (by kernel_rfl) (by kernel_rfl) (fun _ _ _ h => h) (Or.inl ⟨by rfl, ?_⟩) (by assumption) ?_
    rotate_left 1
    · (intro u hSu; (try dsimp only at hSu); go_simp; first | done | with_reducible rfl | rfl)
    simp only [Act.put, List.getElem_toArray, List.getElem_cons_zero, List.getElem_cons_succ, List.setIfInBounds_toArray, List.set_cons_zero, List.set_cons_succ]
    refine wpAnyV_tk (i := 6) (oi := _) (v := ?_) rfl (by kernel_rfl) (by kernel_rfl) (by kernel_rfl) (by kernel_rfl) (fun _ _ _ h => h) (Or.inl ⟨by rfl, ?_⟩) (by assumption) ?_
    rotate_left 1
    · (intro u hSu; (try dsimp only at hSu); go_simp; first | done | with_reducible rfl | rfl)
    simp only [Act.put, List.getElem_toArray, List.getElem_cons_zero, List.getElem_cons_succ, List.setIfInBounds_toArray, List.set_cons_zero, List.set_cons_succ]
    refine wpAnyV_tk (i := 7) (oi := _) (v := ?_) rfl (by kernel_rfl) (by kernel_rfl) (by kernel_rfl) (by kernel_rfl) (fun _ _ _ h => h) (Or.inl ⟨by rfl, ?_⟩) (by assumption) ?_
    rotate_left 1
    · (intro u hSu; (try dsimp only at hSu); go_simp; first | done | with_reducible rfl | rfl)
    simp only [Act.put, List.getElem_toArray, List.getElem_cons_zero, List.getElem_cons_succ, List.setIfInBounds_toArray, List.set_cons_zero, List.set_cons_succ]
    refine wpAnyV_tk (i := 8) (oi := _) (v := ?_) rfl (by kernel_rfl) (by kernel_rfl) (by kernel_rfl) (by kernel_rfl) (fun _ _ _ h => h) (Or.inl ⟨by rfl, ?_⟩) (by assumption) ?_
    rotate_left 1
    · (intro u hSu; (try dsimp only at hSu); go_simp; first | done | with_reducible rfl | rfl)
    simp only [Act.put, List.getElem_toArray, List.getElem_cons_zero, List.getElem_cons_succ, List.setIfInBounds_toArray, List.set_cons_zero, List.set_cons_succ]
    refine wpAnyV_ready (rs := [9, 13]) (by kernel_rfl) (by simp) ?_
    refine ReadyV.cons (o := _) rfl (fun K hK => ?_) (ReadyV.cons (o := _) rfl (fun K hK => ?_) ReadyV.nil)
    · clear hHeld
      -- wd world at hand (Below w wd is HB), w3 world behind
      refine step_callH (by rfl) 104 #[.tmp 13, .tmp 17, .tmp 18] #[27, 24, 9] rfl #[.agg #[v0, v1, v2, v3, v4, v5, v6, v7, v8, v9, v10, v11, .int .i64 pl], .agg #[.int .i64 x.p.W, .int .i64 x.p.H, .string x.p.C, .int .i64 x.p.T, .string x.p.A, .string x.p.B], .string s] (by simp [Act.eval]) entRead (unhide HR _ (unhide HK _ (unhide HB))) ?_
      rintro e w3 ⟨rfl, bw3⟩
      refine ⟨_, rfl, ?_⟩
      have hww3 : Below w.heap.size w w3 := (unhide HB).trans (bw3.mono (unhide HB).size)
      have hHeld := unhide HS _ hww3
      refine hK.out _ _ (fun _ => hHeld) ?_
      clear hK K
      try simp only [Act.put, List.getElem_toArray, List.getElem_cons_zero, List.getElem_cons_succ, List.setIfInBounds_toArray, List.set_cons_zero, List.set_cons_succ]
      have HB3 := hide hww3
      refine wpAnyV_pure (i := 10) (oi := _) (v := ?_) rfl (by kernel_rfl) (by kernel_rfl) (by kernel_rfl) (by kernel_rfl) (fun _ _ _ h => h) (Or.inl ⟨by rfl, ?_⟩) (by first | exact fun _ => hHeld | (intro h; exact absurd h (by decide))) ?_
      rotate_left 1
      · (intro u _; go_simp; first | done | with_reducible rfl | rfl)
      simp only [Act.put, List.getElem_toArray, List.getElem_cons_zero, List.getElem_cons_succ, List.setIfInBounds_toArray, List.set_cons_zero, List.set_cons_succ]
      refine wpAnyV_pure (i := 11) (oi := _) (v := ?_) rfl (by kernel_rfl) (by kernel_rfl) (by kernel_rfl) (by kernel_rfl) (fun _ _ _ h => h) (Or.inl ⟨by rfl, ?_⟩) (by first | exact fun _ => hHeld | (intro h; exact absurd h (by decide))) ?_
      rotate_left 1
      · (intro u _; go_simp; first | done | with_reducible rfl | rfl)
      simp only [Act.put, List.getElem_toArray, List.getElem_cons_zero, List.getElem_cons_succ, List.setIfInBounds_toArray, List.set_cons_zero, List.set_cons_succ]
      refine wpAnyV_pure (i := 12) (oi := _) (v := ?_) rfl (by kernel_rfl) (by kernel_rfl) (by kernel_rfl) (by kernel_rfl) (fun _ _ _ h => h) (Or.inl ⟨by rfl, ?_⟩) (by first | exact fun _ => hHeld | (intro h; exact absurd h (by decide))) ?_
      rotate_left 1
      · (intro u _; go_simp; first | done | with_reducible rfl | rfl)
      simp only [Act.put, List.getElem_toArray, List.getElem_cons_zero, List.getElem_cons_succ, List.setIfInBounds_toArray, List.set_cons_zero, List.set_cons_succ]
      refine wpAnyV_ready (rs := [13]) (by kernel_rfl) (by simp) ?_
      refine ReadyV.cons (o := _) rfl (fun K hK => ?_) ReadyV.nil
      clear hHeld
      -- w3 world at hand (Below w w3 is HB3, held -), w4 world behind
      go_simp
      obtain ⟨w4, hw4⟩ : ∃ u, u = (w3).alloc (.cells #[.int .i64 0, .int .i64 0, .int .u8 0] 61 (0, 0)) := ⟨_, rfl⟩
      have bw4 : Below (w3).heap.size (w3) w4 := by rw [hw4]; exact (Below.refl _ _).alloc (Nat.le_refl _) _
      have hmw4 : isMb w4 (w3).heap.size 0 0 0 := by rw [hw4]; exact heap_alloc_new _ _
      rw [← hw4]
      have hww4 : Below w.heap.size w w4 := (unhide HB3).trans (bw4.mono (unhide HB3).size)
      have hHeld := unhide HS _ hww4
      refine hK.out _ _ (fun _ => hHeld) ?_
      clear hK K hw4
      try simp only [Act.put, List.getElem_toArray, List.getElem_cons_zero, List.getElem_cons_succ, List.setIfInBounds_toArray, List.set_cons_zero, List.set_cons_succ]
      clear hHeld
      have hfin := And.intro (isMb.setAllH hmw4 m.f m.t m.c) (And.intro (below_set3H hww4 hww3.size (.int .i64 m.f) (.int .i64 (m.t : Int)) (.int .u8 (m.c : Int))) hww3.size)
      obtain ⟨c0, c1, c2⟩ := hmw4.all
      have z0 := hmw4.frozenH 0
      have z1 := hmw4.frozenH 1
      have z2 := hmw4.frozenH 2
      refine wpAnyV_ready (rs := [14]) (by kernel_rfl) (by simp) ?_
      refine ReadyV.cons (o := _) rfl (fun K hK => ?_) ReadyV.nil
      go_simp
      refine hK.out _ _ (fun h => absurd h (by decide)) ?_
      try simp only [Act.put, List.getElem_toArray, List.getElem_cons_zero, List.getElem_cons_succ, List.setIfInBounds_toArray, List.set_cons_zero, List.set_cons_succ]
      refine wpAnyV_pure (i := 15) (oi := _) (v := ?_) rfl (by kernel_rfl) (by kernel_rfl) (by kernel_rfl) (by kernel_rfl) (fun _ _ _ h => h) (Or.inl ⟨by rfl, ?_⟩) (by first | exact fun _ => hHeld | (intro h; exact absurd h (by decide))) ?_
      rotate_left 1
      · (intro u _; go_simp; first | done | with_reducible rfl | rfl)
      simp only [Act.put, List.getElem_toArray, List.getElem_cons_zero, List.getElem_cons_succ, List.setIfInBounds_toArray, List.set_cons_zero, List.set_cons_succ]
      refine wpAnyV_done (by kernel_rfl) ?_ _
      clear hK K c0 c1 c2 z0 z1 z2 hmw4 hww4 bw4 hww3 bw3
      generalize w3.heap.size = g at hfin ⊢
      generalize ((w4.setCell ⟨g, 0, none⟩ (.int .i64 m.f)).setCell ⟨g, 1, none⟩ (.int .i64 (m.t : Int))).setCell ⟨g, 2, none⟩ (.int .u8 (m.c : Int)) = v at hfin ⊢
      exact unhide key g v hfin
    · clear hHeld
      -- wd world at hand (Below w wd is HB, held -), w3 world behind
      go_simp
      obtain ⟨w3, hw3⟩ : ∃ u, u = (wd).alloc (.cells #[.int .i64 0, .int .i64 0, .int .u8 0] 61 (0, 0)) := ⟨_, rfl⟩
      have bw3 : Below (wd).heap.size (wd) w3 := by rw [hw3]; exact (Below.refl _ _).alloc (Nat.le_refl _) _
      have hmw3 : isMb w3 (wd).heap.size 0 0 0 := by rw [hw3]; exact heap_alloc_new _ _
      rw [← hw3]
      have hww3 : Below w.heap.size w w3 := (unhide HB).trans (bw3.mono (unhide HB).size)
      have hHeld := unhide HS _ hww3
      refine hK.out _ _ (fun _ => hHeld) ?_
      clear hK K hw3
      try simp only [Act.put, List.getElem_toArray, List.getElem_cons_zero, List.getElem_cons_succ, List.setIfInBounds_toArray, List.set_cons_zero, List.set_cons_succ]
      have HB3 := hide hww3
      refine wpAnyV_ready (rs := [9]) (by kernel_rfl) (by simp) ?_
      refine ReadyV.cons (o := _) rfl (fun K hK => ?_) ReadyV.nil
      clear hHeld
      -- w3 world at hand (Below w w3 is HB3), w4 world behind
      refine step_callH (by rfl) 104 #[.tmp 13, .tmp 17, .tmp 18] #[27, 24, 9] rfl #[.agg #[v0, v1, v2, v3, v4, v5, v6, v7, v8, v9, v10, v11, .int .i64 pl], .agg #[.int .i64 x.p.W, .int .i64 x.p.H, .string x.p.C, .int .i64 x.p.T, .string x.p.A, .string x.p.B], .string s] (by simp [Act.eval]) entRead (unhide HR _ (unhide HK _ (unhide HB3))) ?_
      rintro e w4 ⟨rfl, bw4⟩
      refine ⟨_, rfl, ?_⟩
      have hww4 : Below w.heap.size w w4 := (unhide HB3).trans (bw4.mono (unhide HB3).size)
      have hHeld := unhide HS _ hww4
      refine hK.out _ _ (fun _ => hHeld) ?_
      clear hK K
      try simp only [Act.put, List.getElem_toArray, List.getElem_cons_zero, List.getElem_cons_succ, List.setIfInBounds_toArray, List.set_cons_zero, List.set_cons_succ]
      refine wpAnyV_pure (i := 10) (oi := _) (v := ?_) rfl (by kernel_rfl) (by kernel_rfl) (by kernel_rfl) (by kernel_rfl) (fun _ _ _ h => h) (Or.inl ⟨by rfl, ?_⟩) (by first | exact fun _ => hHeld | (intro h; exact absurd h (by decide))) ?_
      rotate_left 1
      · (intro u _; go_simp; first | done | with_reducible rfl | rfl)
      simp only [Act.put, List.getElem_toArray, List.getElem_cons_zero, List.getElem_cons_succ, List.setIfInBounds_toArray, List.set_cons_zero, List.set_cons_succ]
      refine wpAnyV_pure (i := 11) (oi := _) (v := ?_) rfl (by kernel_rfl) (by kernel_rfl) (by kernel_rfl) (by kernel_rfl) (fun _ _ _ h => h) (Or.inl ⟨by rfl, ?_⟩) (by first | exact fun _ => hHeld | (intro h; exact absurd h (by decide))) ?_
      rotate_left 1
      · (intro u _; go_simp; first | done | with_reducible rfl | rfl)
      simp only [Act.put, List.getElem_toArray, List.getElem_cons_zero, List.getElem_cons_succ, List.setIfInBounds_toArray, List.set_cons_zero, List.set_cons_succ]
      refine wpAnyV_pure (i := 12) (oi := _) (v := ?_) rfl (by kernel_rfl) (by kernel_rfl) (by kernel_rfl) (by kernel_rfl) (fun _ _ _ h => h) (Or.inl ⟨by rfl, ?_⟩) (by first | exact fun _ => hHeld | (intro h; exact absurd h (by decide))) ?_
      rotate_left 1
      · (intro u _; go_simp; first | done | with_reducible rfl | rfl)
      simp only [Act.put, List.getElem_toArray, List.getElem_cons_zero, List.getElem_cons_succ, List.setIfInBounds_toArray, List.set_cons_zero, List.set_cons_succ]
      clear hHeld
      have hm4 := hmw3.below bw4 hmw3.lt
      have hsz : w.heap.size ≤ wd.heap.size := (unhide HB).size
      have hfin := And.intro (isMb.setAllH hm4 m.f m.t m.c) (And.intro (below_set3H hww4 hsz (.int .i64 m.f) (.int .i64 (m.t : Int)) (.int .u8 (m.c : Int))) hsz)
      obtain ⟨c0, c1, c2⟩ := hm4.all
      have z0 := hm4.frozenH 0
      have z1 := hm4.frozenH 1
      have z2 := hm4.frozenH 2
      refine wpAnyV_ready (rs := [14]) (by kernel_rfl) (by simp) ?_
      refine ReadyV.cons (o := _) rfl (fun K hK => ?_) ReadyV.nil
      go_simp
      refine hK.out _ _ (fun h => absurd h (by decide)) ?_
      try simp only [Act.put, List.getElem_toArray, List.getElem_cons_zero, List.getElem_cons_succ, List.setIfInBounds_toArray, List.set_cons_zero, List.set_cons_succ]
      refine wpAnyV_pure (i := 15) (oi := _) (v := ?_) rfl (by kernel_rfl) (by kernel_rfl) (by kernel_rfl) (by kernel_rfl) (fun _ _ _ h => h) (Or.inl ⟨by rfl, ?_⟩) (by first | exact fun _ => hHeld | (intro h; exact absurd h (by decide))) ?_
      rotate_left 1
      · (intro u _; go_simp; first | done | with_reducible rfl | rfl)
      simp only [Act.put, List.getElem_toArray, List.getElem_cons_zero, List.getElem_cons_succ, List.setIfInBounds_toArray, List.set_cons_zero, List.set_cons_succ]
      refine wpAnyV_done (by kernel_rfl) ?_ _
      clear hK K c0 c1 c2 z0 z1 z2 hmw3 hm4 hww4 bw4 hww3 bw3 hsz
      generalize wd.heap.size = g at hfin ⊢
      generalize ((w4.setCell ⟨g, 0, none⟩ (.int .i64 m.f)).setCell ⟨g, 1, none⟩ (.int .i64 (m.t : Int))).setCell ⟨g, 2, none⟩ (.int .u8 (m.c : Int)) = v at hfin ⊢
      exact unhide key g v hfin
  rintro g v ⟨hmb, hbv, hg⟩
  subst hE
  go_wp2
  go_ret
  exact ⟨rfl, hbv⟩
end Go.Proofs.YtihojhfpepbjhaaGreatDoor
