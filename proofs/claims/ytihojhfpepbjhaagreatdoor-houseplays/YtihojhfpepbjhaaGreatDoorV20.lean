/-
  package moves, walked: check.
-/
import Derived.Test.YtihojhfpepbjhaaGreatDoorJ18
namespace Go.Proofs.YtihojhfpepbjhaaGreatDoor
open Go.RowKit
attribute [local go_sem ↓] Go.wp_at_zero Go.wp_at_succ

/-- A move in a box. -/
def isMb (w : World) (b : Nat) (f t c : Int) : Prop := w.heap[b]? = some (.cells #[.int .i64 f, .int .i64 t, .int .u8 c] 61 (0, 0))
theorem isMb.all {w : World} {b : Nat} {f t c : Int} (h : isMb w b f t c) : w.cell? ⟨b, 0, none⟩ = some (.int .i64 f) ∧ w.cell? ⟨b, 1, none⟩ = some (.int .i64 t) ∧ w.cell? ⟨b, 2, none⟩ = some (.int .u8 c) := by
  unfold isMb at h; simp [World.cell?, h]
theorem isMb.lt {w : World} {b : Nat} {f t c : Int} (h : isMb w b f t c) : b < w.heap.size := (Array.getElem?_eq_some_iff.1 h).1
theorem isMb.below {w w' : World} {b B0 : Nat} {f t c : Int} (h : isMb w b f t c) (hh : Below B0 w w') (hb : b < B0) : isMb w' b f t c := by
  unfold isMb at h ⊢; rw [hh.block b hb]; exact h

theorem entLi : ∀ args (u : World), (callFunc 49 args).run Tryz.prog u = .ok (.enter 49 args) u := enters_of Tryz.func49 (by kernel_rfl) rfl
theorem entCt : ∀ args (u : World), (callFunc 175 args).run Tryz.prog u = .ok (.enter 175 args) u := enters_of Tryz.func175 (by kernel_rfl) rfl
set_option maxHeartbeats 4000000 in
set_option maxRecDepth 100000 in
theorem check_ok (W0 H0 T0 : Int) (C0 A0 B0 : ByteArray) (ao : Option Addr) (cap : Nat) (ps : List Pc) (dr st : Bool) (lo re : Nat) (li pl : Int) (W H T : Int) (C A B : ByteArray) (f t : Int) (c : Nat) (w : World) (hC0 : C0.size ≤ maxLen) (hA0 : A0.size ≤ maxLen) (hB0 : B0.size ≤ maxLen) (hlo : lo < 256) (hre : re < 256) (h : isPcs w ao cap ps) (hC : C.size ≤ maxLen) (hA : A.size ≤ maxLen) (hB : B.size ≤ maxLen)
    (hat : atB W0 H0 C0.data.toList T0 A0.data.toList B0.data.toList ps lo li re pl W H C.data.toList T A.data.toList B.data.toList = true) (W' H' T' : Nat) (hf : AtF ps W H T C A B W' H' T') :
    Calls Tryz.prog 144 #[.agg #[.int .i64 W0, .int .i64 H0, .string C0, .int .i64 T0, .string A0, .string B0, .slice ao ps.length cap, .bool dr, .int .u8 (lo : Int), .int .i64 li, .int .u8 (re : Int), .bool st, .int .i64 pl], .agg #[.int .i64 W, .int .i64 H, .string C, .int .i64 T, .string A, .string B], .agg #[.int .i64 f, .int .i64 t, .int .u8 (c : Int)]] w fun e w' => e = .returned (.int .i64 (if inM f t c (movesL W' H' T' C A B ps dr lo li re) then 0 else 5)) ∧ Below w.heap.size w w' := by
  obtain ⟨n, hn⟩ : ∃ n, n = ps.length := ⟨_, rfl⟩
  obtain ⟨w1, hw1⟩ : ∃ w1, w1 = w.alloc (.cells #[.int .i64 W0, .int .i64 H0, .string C0, .int .i64 T0, .string A0, .string B0, .slice ao n cap, .bool dr, .int .u8 (lo : Int), .int .i64 li, .int .u8 (re : Int), .bool st, .int .i64 pl] 27 (0, 0)) := ⟨_, rfl⟩
  obtain ⟨w2, hw2⟩ : ∃ w2, w2 = w1.alloc (.cells #[.int .i64 W, .int .i64 H, .string C, .int .i64 T, .string A, .string B] 24 (0, 0)) := ⟨_, rfl⟩
  obtain ⟨w3, hw3⟩ : ∃ w3, w3 = w2.alloc (.cells #[.int .i64 f, .int .i64 t, .int .u8 (c : Int)] 61 (0, 0)) := ⟨_, rfl⟩
  have hb1 : Below w.heap.size w w1 := by rw [hw1]; exact (Below.refl _ _).alloc (Nat.le_refl _) _
  have hb2 : Below w1.heap.size w1 w2 := by rw [hw2]; exact (Below.refl _ _).alloc (Nat.le_refl _) _
  have hb3 : Below w2.heap.size w2 w3 := by rw [hw3]; exact (Below.refl _ _).alloc (Nat.le_refl _) _
  have s1 : w1.heap.size = w.heap.size + 1 := by rw [hw1]; simp
  have s2 : w2.heap.size = w.heap.size + 1 + 1 := by rw [hw2]; simp [s1]
  have hru : isRu w3 w.heap.size (.int .i64 W0) (.int .i64 H0) (.string C0) (.int .i64 T0) (.string A0) (.string B0) (.slice ao n cap) (.bool dr) (.int .u8 (lo : Int)) (.int .i64 li) (.int .u8 (re : Int)) (.bool st) (.int .i64 pl) := isRu.below (isRu.below (show isRu w1 w.heap.size (.int .i64 W0) (.int .i64 H0) (.string C0) (.int .i64 T0) (.string A0) (.string B0) (.slice ao n cap) (.bool dr) (.int .u8 (lo : Int)) (.int .i64 li) (.int .u8 (re : Int)) (.bool st) (.int .i64 pl) by rw [hw1]; exact heap_alloc_new w _) hb2 (by omega)) hb3 (by omega)
  have hpb : isPb w3 (w.heap.size + 1) W H T C A B := isPb.below (show isPb w2 (w.heap.size + 1) W H T C A B by rw [hw2, ← s1]; exact heap_alloc_new w1 _) hb3 (by omega)
  have hmb : isMb w3 (w.heap.size + 1 + 1) f t c := by rw [hw3, ← s2]; exact heap_alloc_new w2 _
  have hbw := (hb1.trans (hb2.mono (show w.heap.size ≤ w1.heap.size by omega))).trans (hb3.mono (show w.heap.size ≤ w2.heap.size by omega))
  have HBW := hide hbw
  have HPB := hide hpb
  have HRU := hide hru
  have HMB := hide hmb
  have HW1 := hide hw1
  have HW2 := hide hw2
  have HW3 := hide hw3
  have HK := hide (rCheckPosition_any W0 H0 T0 C0 A0 B0 ao cap ps dr st lo re li pl W H T C A B w3 hC0 hA0 hB0 hlo hre (h.below hbw (Nat.le_refl _)) hC hA hB)
  rw [hat] at HK
  rw [show errI true = 0 from rfl] at HK
  have HL := hide (fun u (hb : Below w.heap.size w u) => list_any W' H' T' C A B (.int .i64 W0) (.int .i64 H0) (.string C0) (.int .i64 T0) (.string A0) (.string B0) (.bool st) (.int .i64 pl) ao cap ps dr lo re li u (h.below hb (Nat.le_refl _)) hf.ok hlo hre hf.t1 hf.a hf.b hf.w1 hf.h1 hf.c)
  rw [← hf.w, ← hf.h, ← hf.t, ← hn] at HL
  rw [← hn] at HK ⊢
  clear hat hw1 hw2 hw3 hb1 hb2 hb3 s1 s2 hru hpb hmb hbw hn h hf
  generalize movesL W' H' T' C A B ps dr lo li re = L at *
  have HCT := hide (fun v u (h : isMvs u v L) => ContainsM_any v L f t c u h)
  obtain ⟨b, hb⟩ : ∃ b, b = inM f t c L := ⟨_, rfl⟩
  rw [← hb] at HCT ⊢
  clear hb
  go_enter Tryz.func144, Tryz.ntmps144
  go_wp2_with fail
  rw [← unhide HW1, ← unhide HW2, ← unhide HW3]
  refine (unhide HK).mono ?_
  rintro e u ⟨rfl, hb1⟩
  have hPn := (unhide HPB).below hb1 (unhide HPB).lt
  have hRn := (unhide HRU).below hb1 (unhide HRU).lt
  have hMn := (unhide HMB).below hb1 (unhide HMB).lt
  have hBn := (unhide HBW).trans (hb1.mono (unhide HBW).size)
  clear HPB HRU HMB HBW HW1 HW2 HW3 hb1 HK
  have HPB := hide hPn
  have HRU := hide hRn
  have HMB := hide hMn
  have HBW := hide hBn
  obtain ⟨p0, p1, p2, p3, p4, p5⟩ := hPn.all
  obtain ⟨r0, r1, r2, r3, r4, r5, r6, r7, r8, r9, r10, r11, r12⟩ := hRn.cells
  obtain ⟨m0, m1, m2⟩ := hMn.all
  clear hPn hRn hMn hBn
  have hBd : Below w.heap.size w u.drew := (unhide HBW).drew
  have HLd := hide (unhide HL u.drew hBd)
  have HKM : Hid (∀ x, Below u.drew.heap.size u.drew x → isMb x (w.heap.size + 1 + 1) f t c) := hide fun x hx => isMb.below (w := u.drew) (unhide HMB) hx (by show _ < u.heap.size; exact (unhide HMB).lt)
  have HFB : Hid (∀ x y, Below u.drew.heap.size u.drew x → Below x.heap.size x y → Below w.heap.size w y) := hide fun x y hx hy => (hBd.trans (hx.mono hBd.size)).trans (hy.mono (Nat.le_trans hBd.size hx.size))
  clear HL hBd
  cases b with
  | true =>
    go_wp2_with fail
    go_region_law (first
      | (refine step_call rfl 49 #[.tmp 14, .tmp 15] #[27, 24] rfl #[.agg #[.int .i64 W0, .int .i64 H0, .string C0, .int .i64 T0, .string A0, .string B0, .slice ao n cap, .bool dr, .int .u8 (lo : Int), .int .i64 li, .int .u8 (re : Int), .bool st, .int .i64 pl], .agg #[.int .i64 W, .int .i64 H, .string C, .int .i64 T, .string A, .string B]] (by simp [Act.eval]) entLi (unhide HLd) ?_; rintro e1 wx ⟨v, rfl, hown, hbx⟩; refine ⟨_, rfl, ?_⟩; have HMV := hide (isMvs.of hown); clear hown; obtain ⟨q0, q1, q2⟩ := (unhide HKM wx hbx).all)
      | (refine step_call rfl 175 #[.tmp 16, .tmp 17] #[56, 61] rfl #[v, .agg #[.int .i64 f, .int .i64 t, .int .u8 (c : Int)]] (by simp [Act.eval]) entCt (unhide HCT v _ (unhide HMV)) ?_; rintro e2 wy ⟨rfl, hby⟩; refine ⟨_, rfl, ?_⟩; have HFY := hide (unhide HFB wx wy hbx hby); clear hby))
    all_goals
      clear hbx q0 q1 q2 p0 p1 p2 p3 p4 p5 r0 r1 r2 r3 r4 r5 r6 r7 r8 r9 r10 r11 r12 m0 m1 m2
      go_wp2
      go_ret
      exact ⟨rfl, unhide HFY⟩
  | false =>
    go_wp2_with fail
    go_region_law (first
      | (refine step_call rfl 49 #[.tmp 14, .tmp 15] #[27, 24] rfl #[.agg #[.int .i64 W0, .int .i64 H0, .string C0, .int .i64 T0, .string A0, .string B0, .slice ao n cap, .bool dr, .int .u8 (lo : Int), .int .i64 li, .int .u8 (re : Int), .bool st, .int .i64 pl], .agg #[.int .i64 W, .int .i64 H, .string C, .int .i64 T, .string A, .string B]] (by simp [Act.eval]) entLi (unhide HLd) ?_; rintro e1 wx ⟨v, rfl, hown, hbx⟩; refine ⟨_, rfl, ?_⟩; have HMV := hide (isMvs.of hown); clear hown; obtain ⟨q0, q1, q2⟩ := (unhide HKM wx hbx).all)
      | (refine step_call rfl 175 #[.tmp 16, .tmp 17] #[56, 61] rfl #[v, .agg #[.int .i64 f, .int .i64 t, .int .u8 (c : Int)]] (by simp [Act.eval]) entCt (unhide HCT v _ (unhide HMV)) ?_; rintro e2 wy ⟨rfl, hby⟩; refine ⟨_, rfl, ?_⟩; have HFY := hide (unhide HFB wx wy hbx hby); clear hby))
    all_goals
      clear hbx q0 q1 q2 p0 p1 p2 p3 p4 p5 r0 r1 r2 r3 r4 r5 r6 r7 r8 r9 r10 r11 r12 m0 m1 m2
      go_wp2
      go_ret
      exact ⟨rfl, unhide HFY⟩
end Go.Proofs.YtihojhfpepbjhaaGreatDoor
