/-
  package proof, walked: isShown.
-/
import Derived.Test.YtlogengkhlmcbaaGreatDoorJ28
namespace Go.Proofs.YtlogengkhlmcbaaGreatDoor
open Go.RowKit
attribute [local go_sem ↓] Go.wp_at_zero Go.wp_at_succ

theorem in_nat {f t : Int} {c : Nat} {L : List Mv} (h : inM f t c L = true) : (⟨f, t.toNat, c⟩ : Mv) ∈ L ∧ t = (t.toNat : Int) := by
  unfold inM eqM at h
  obtain ⟨m, hm, he⟩ := List.any_eq_true.1 h
  simp only [Bool.and_eq_true, decide_eq_true_eq] at he
  obtain ⟨⟨h1, h2⟩, h3⟩ := he
  subst h1
  subst h2
  subst h3
  exact ⟨by rw [Int.toNat_natCast]; exact hm, by rw [Int.toNat_natCast]⟩
theorem one_mvs (w : World) (f : Int) (t c : Nat) : isMvs (w.alloc (.cells #[.int .i64 f, .int .i64 (t : Int), .int .u8 (c : Int)] 29 (0, 0))) (.slice (some ⟨w.heap.size, 0, none⟩) 1 1) [⟨f, t, c⟩] := by
  have hx := heap_alloc_new w (.cells #[.int .i64 f, .int .i64 (t : Int), .int .u8 (c : Int)] 29 (0, 0))
  refine ⟨_, _, rfl, Nat.le_refl _, by unfold maxLen; omega, fun i m hm => ?_⟩
  have hi : i = 0 := by
    have := (List.getElem?_eq_some_iff.1 hm).1
    simp at this
    omega
  subst hi
  simp only [List.getElem?_cons_zero, Option.some.injEq] at hm
  subst hm
  exact ⟨_, 0, rfl, by simp, cell_of_row _ _ _ _ _ _ hx, cell_of_row _ _ _ _ _ _ hx, cell_of_row _ _ _ _ _ _ hx⟩

/-- What is known in a world of the call's own. -/
structure SF (w : World) (v0 v1 v2 v3 v4 v5 v6 v7 v8 v9 v10 v11 v12 : Value) (win : Int) (s : Bool) (f t : Int) (c : Nat) (kv : Value) (p : Po) (u : World) : Prop where
  cl : isCl u w.heap.size v0 v1 v2 v3 v4 v5 v6 v7 v8 v9 v10 v11 v12 win
  cb : isCb u (w.heap.size + 1) s f t c kv
  pb : isPb u (w.heap.size + 1 + 1) p.W p.H p.T p.C p.A p.B
  bw : Below w.heap.size w u
theorem SF.step {w : World} {v0 v1 v2 v3 v4 v5 v6 v7 v8 v9 v10 v11 v12 : Value} {win : Int} {s : Bool} {f t : Int} {c : Nat} {kv : Value} {p : Po} {u u' : World} (h : SF w v0 v1 v2 v3 v4 v5 v6 v7 v8 v9 v10 v11 v12 win s f t c kv p u) (hb : Below u.heap.size u u') : SF w v0 v1 v2 v3 v4 v5 v6 v7 v8 v9 v10 v11 v12 win s f t c kv p u' :=
  ⟨h.cl.below hb h.cl.lt, h.cb.below hb h.cb.lt, h.pb.below hb h.pb.lt, h.bw.trans (hb.mono h.bw.size)⟩

/-- One round of isShown, over what is known of the functions that it calls. R: what comes of it. -/
theorem shown_won (v0 v1 v2 v3 v4 v5 v6 v7 v8 v9 v10 v11 v12 : Value) (win : Int) (s : Bool) (f t : Int) (c : Nat) (no : Option Addr) (kl nc : Nat) (p : Po) (n : Int) (w : World)
    (hW : ∀ u, Below w.heap.size w u → Calls Tryz.prog 23 #[.agg #[v0, v1, v2, v3, v4, v5, v6, v7, v8, v9, v10, v11, v12, .int .i64 win], .agg #[.int .i64 p.W, .int .i64 p.H, .string p.C, .int .i64 p.T, .string p.A, .string p.B]] u fun e w' => e = .returned (.bool true) ∧ Below u.heap.size u w') :
    Calls Tryz.prog 14 #[.agg #[v0, v1, v2, v3, v4, v5, v6, v7, v8, v9, v10, v11, v12, .int .i64 win], .agg #[.bool s, .int .i64 f, .int .i64 t, .int .u8 (c : Int), .slice no kl nc], .agg #[.int .i64 p.W, .int .i64 p.H, .string p.C, .int .i64 p.T, .string p.A, .string p.B], .int .i64 n] w fun e w' => e = .returned (.bool (bareB s f t c && decide (kl = 0))) ∧ Below w.heap.size w w' := by
  obtain ⟨w1, hw1⟩ : ∃ w1, w1 = w.alloc (.cells #[v0, v1, v2, v3, v4, v5, v6, v7, v8, v9, v10, v11, v12, .int .i64 win] 46 (0, 0)) := ⟨_, rfl⟩
  obtain ⟨w2, hw2⟩ : ∃ w2, w2 = w1.alloc (.cells #[.bool s, .int .i64 f, .int .i64 t, .int .u8 (c : Int), .slice no kl nc] 32 (0, 0)) := ⟨_, rfl⟩
  obtain ⟨w3, hw3⟩ : ∃ w3, w3 = w2.alloc (.cells #[.int .i64 p.W, .int .i64 p.H, .string p.C, .int .i64 p.T, .string p.A, .string p.B] 24 (0, 0)) := ⟨_, rfl⟩
  have hb1 : Below w.heap.size w w1 := by rw [hw1]; exact (Below.refl _ _).alloc (Nat.le_refl _) _
  have hb2 : Below w1.heap.size w1 w2 := by rw [hw2]; exact (Below.refl _ _).alloc (Nat.le_refl _) _
  have hb3 : Below w2.heap.size w2 w3 := by rw [hw3]; exact (Below.refl _ _).alloc (Nat.le_refl _) _
  have s1 : w1.heap.size = w.heap.size + 1 := by rw [hw1]; simp
  have s2 : w2.heap.size = w.heap.size + 1 + 1 := by rw [hw2]; simp [s1]
  have s3 : w3.heap.size = w.heap.size + 1 + 1 + 1 := by rw [hw3]; simp [s2]
  have hcl : isCl w3 w.heap.size v0 v1 v2 v3 v4 v5 v6 v7 v8 v9 v10 v11 v12 win := isCl.below (isCl.below (show isCl w1 w.heap.size v0 v1 v2 v3 v4 v5 v6 v7 v8 v9 v10 v11 v12 win by rw [hw1]; exact heap_alloc_new w _) hb2 (by omega)) hb3 (by omega)
  have hcb : isCb w3 (w.heap.size + 1) s f t c (.slice no kl nc) := isCb.below (show isCb w2 (w.heap.size + 1) s f t c (.slice no kl nc) by rw [hw2, ← s1]; exact heap_alloc_new w1 _) hb3 (by omega)
  have hpb : isPb w3 (w.heap.size + 1 + 1) p.W p.H p.T p.C p.A p.B := by rw [hw3, ← s2]; exact heap_alloc_new w2 _
  have hbw : Below w.heap.size w w3 := (hb1.trans (hb2.mono (by omega))).trans (hb3.mono (by omega))
  have HCL := hide hcl
  have HCB := hide hcb
  have HPB := hide hpb
  have HBW := hide hbw
  have HW1 := hide hw1
  have HW2 := hide hw2
  have HW3 := hide hw3
  clear hw1 hw2 hw3 hb1 hb2 hb3 s1 s2 s3 hcl hcb hpb hbw
  have HSF := hide (show SF w v0 v1 v2 v3 v4 v5 v6 v7 v8 v9 v10 v11 v12 win s f t c (.slice no kl nc) p w3 from ⟨unhide HCL, unhide HCB, unhide HPB, unhide HBW⟩)
  have HWO := hide (hW w3 (unhide HBW))
  have HBA := hide (fun u => isBare_any s f t c (.slice no kl nc) u)
  obtain ⟨b, hb⟩ : ∃ b, b = bareB s f t c := ⟨_, rfl⟩
  rw [← hb] at HBA ⊢
  obtain ⟨z, hz⟩ : ∃ z : Bool, z = decide (kl = 0) := ⟨_, rfl⟩
  have hzk : ((kl : Int) == 0) = z := by rw [hz, Bool.eq_iff_iff]; simp
  rw [← hz]
  clear hW hb hz HCL HCB HPB HBW
  go_enter Tryz.func14, Tryz.ntmps14
  go_wp2_with fail
  rw [← unhide HW1, ← unhide HW2, ← unhide HW3]
  refine (unhide HWO).mono ?_
  rintro e w4 ⟨rfl, hb4⟩
  have HSF4 := hide ((unhide HSF).step hb4)
  obtain ⟨c0, c1, c2, c3, c4⟩ := (unhide HSF4).cb.all
  clear HSF HW1 HW2 HW3 HWO hb4
  go_wp2_with fail
  refine (unhide HBA _).mono ?_
  rintro e w5 ⟨rfl, hb5⟩
  have HSF5 := hide ((unhide HSF4).step hb5)
  clear c0 c1 c2 c3 c4
  obtain ⟨c0, c1, c2, c3, c4⟩ := (unhide HSF5).cb.all
  clear HSF4 hb5
  cases b with
  | true =>
    go_wp2
    go_ret
    exact ⟨by first | rfl | simp [hzk], (unhide HSF5).bw⟩
  | false =>
    go_wp2
    go_ret
    exact ⟨rfl, (unhide HSF5).bw⟩
set_option maxHeartbeats 4000000 in
set_option maxRecDepth 100000 in
theorem shown_zero (v0 v1 v2 v3 v4 v5 v6 v7 v8 v9 v10 v11 v12 : Value) (win : Int) (s : Bool) (f t : Int) (c : Nat) (no : Option Addr) (kl nc : Nat) (p : Po) (w : World)
    (hW : ∀ u, Below w.heap.size w u → Calls Tryz.prog 23 #[.agg #[v0, v1, v2, v3, v4, v5, v6, v7, v8, v9, v10, v11, v12, .int .i64 win], .agg #[.int .i64 p.W, .int .i64 p.H, .string p.C, .int .i64 p.T, .string p.A, .string p.B]] u fun e w' => e = .returned (.bool false) ∧ Below u.heap.size u w') :
    Calls Tryz.prog 14 #[.agg #[v0, v1, v2, v3, v4, v5, v6, v7, v8, v9, v10, v11, v12, .int .i64 win], .agg #[.bool s, .int .i64 f, .int .i64 t, .int .u8 (c : Int), .slice no kl nc], .agg #[.int .i64 p.W, .int .i64 p.H, .string p.C, .int .i64 p.T, .string p.A, .string p.B], .int .i64 0] w fun e w' => e = .returned (.bool false) ∧ Below w.heap.size w w' := by
  obtain ⟨w1, hw1⟩ : ∃ w1, w1 = w.alloc (.cells #[v0, v1, v2, v3, v4, v5, v6, v7, v8, v9, v10, v11, v12, .int .i64 win] 46 (0, 0)) := ⟨_, rfl⟩
  obtain ⟨w2, hw2⟩ : ∃ w2, w2 = w1.alloc (.cells #[.bool s, .int .i64 f, .int .i64 t, .int .u8 (c : Int), .slice no kl nc] 32 (0, 0)) := ⟨_, rfl⟩
  obtain ⟨w3, hw3⟩ : ∃ w3, w3 = w2.alloc (.cells #[.int .i64 p.W, .int .i64 p.H, .string p.C, .int .i64 p.T, .string p.A, .string p.B] 24 (0, 0)) := ⟨_, rfl⟩
  have hb1 : Below w.heap.size w w1 := by rw [hw1]; exact (Below.refl _ _).alloc (Nat.le_refl _) _
  have hb2 : Below w1.heap.size w1 w2 := by rw [hw2]; exact (Below.refl _ _).alloc (Nat.le_refl _) _
  have hb3 : Below w2.heap.size w2 w3 := by rw [hw3]; exact (Below.refl _ _).alloc (Nat.le_refl _) _
  have s1 : w1.heap.size = w.heap.size + 1 := by rw [hw1]; simp
  have s2 : w2.heap.size = w.heap.size + 1 + 1 := by rw [hw2]; simp [s1]
  have s3 : w3.heap.size = w.heap.size + 1 + 1 + 1 := by rw [hw3]; simp [s2]
  have hcl : isCl w3 w.heap.size v0 v1 v2 v3 v4 v5 v6 v7 v8 v9 v10 v11 v12 win := isCl.below (isCl.below (show isCl w1 w.heap.size v0 v1 v2 v3 v4 v5 v6 v7 v8 v9 v10 v11 v12 win by rw [hw1]; exact heap_alloc_new w _) hb2 (by omega)) hb3 (by omega)
  have hcb : isCb w3 (w.heap.size + 1) s f t c (.slice no kl nc) := isCb.below (show isCb w2 (w.heap.size + 1) s f t c (.slice no kl nc) by rw [hw2, ← s1]; exact heap_alloc_new w1 _) hb3 (by omega)
  have hpb : isPb w3 (w.heap.size + 1 + 1) p.W p.H p.T p.C p.A p.B := by rw [hw3, ← s2]; exact heap_alloc_new w2 _
  have hbw : Below w.heap.size w w3 := (hb1.trans (hb2.mono (by omega))).trans (hb3.mono (by omega))
  have HCL := hide hcl
  have HCB := hide hcb
  have HPB := hide hpb
  have HBW := hide hbw
  have HW1 := hide hw1
  have HW2 := hide hw2
  have HW3 := hide hw3
  clear hw1 hw2 hw3 hb1 hb2 hb3 s1 s2 s3 hcl hcb hpb hbw
  have HSF := hide (show SF w v0 v1 v2 v3 v4 v5 v6 v7 v8 v9 v10 v11 v12 win s f t c (.slice no kl nc) p w3 from ⟨unhide HCL, unhide HCB, unhide HPB, unhide HBW⟩)
  have HWO := hide (hW w3 (unhide HBW))
  clear hW HCL HCB HPB HBW
  go_enter Tryz.func14, Tryz.ntmps14
  go_wp2_with fail
  rw [← unhide HW1, ← unhide HW2, ← unhide HW3]
  refine (unhide HWO).mono ?_
  rintro e w4 ⟨rfl, hb4⟩
  have HSF4 := hide ((unhide HSF).step hb4)
  clear HSF HW1 HW2 HW3 HWO hb4
  go_wp2
  go_ret
  exact ⟨rfl, (unhide HSF4).bw⟩
set_option maxHeartbeats 4000000 in
set_option maxRecDepth 100000 in
theorem shown_more (v0 v1 v2 v3 v4 v5 v6 v7 v8 v9 v10 v11 v12 : Value) (win : Int) (s : Bool) (f t : Int) (c : Nat) (no : Option Addr) (kl nc : Nat) (p : Po) (N : Nat) (L : List Mv) (R1 R2 : Bool) (w : World) (hN : 1 ≤ N)
    (hW : ∀ u, Below w.heap.size w u → Calls Tryz.prog 23 #[.agg #[v0, v1, v2, v3, v4, v5, v6, v7, v8, v9, v10, v11, v12, .int .i64 win], .agg #[.int .i64 p.W, .int .i64 p.H, .string p.C, .int .i64 p.T, .string p.A, .string p.B]] u fun e w' => e = .returned (.bool false) ∧ Below u.heap.size u w')
    (hMo : ∀ u, Below w.heap.size w u → Calls Tryz.prog 24 #[.agg #[v0, v1, v2, v3, v4, v5, v6, v7, v8, v9, v10, v11, v12], .agg #[.int .i64 p.W, .int .i64 p.H, .string p.C, .int .i64 p.T, .string p.A, .string p.B]] u fun e w' => ∃ v, e = .returned (.tuple #[v, .int .i64 0]) ∧ w'.ownsRow u.heap.size 29 3 v L.length (mvals L) ∧ Below u.heap.size u w')
    (hB1 : inM f t c L = true → ∀ mv u, Below w.heap.size w u → isMvs u mv [⟨f, t.toNat, c⟩] → Calls Tryz.prog 33 #[.agg #[v0, v1, v2, v3, v4, v5, v6, v7, v8, v9, v10, v11, v12, .int .i64 win], .slice no kl nc, .agg #[.int .i64 p.W, .int .i64 p.H, .string p.C, .int .i64 p.T, .string p.A, .string p.B], mv, .int .i64 (N : Int)] u fun e w' => e = .returned (.bool R1) ∧ Below u.heap.size u w')
    (hB2 : ∀ mv u, Below w.heap.size w u → isMvs u mv L → Calls Tryz.prog 33 #[.agg #[v0, v1, v2, v3, v4, v5, v6, v7, v8, v9, v10, v11, v12, .int .i64 win], .slice no kl nc, .agg #[.int .i64 p.W, .int .i64 p.H, .string p.C, .int .i64 p.T, .string p.A, .string p.B], mv, .int .i64 (N : Int)] u fun e w' => e = .returned (.bool R2) ∧ Below u.heap.size u w') :
    Calls Tryz.prog 14 #[.agg #[v0, v1, v2, v3, v4, v5, v6, v7, v8, v9, v10, v11, v12, .int .i64 win], .agg #[.bool s, .int .i64 f, .int .i64 t, .int .u8 (c : Int), .slice no kl nc], .agg #[.int .i64 p.W, .int .i64 p.H, .string p.C, .int .i64 p.T, .string p.A, .string p.B], .int .i64 (N : Int)] w fun e w' => e = .returned (.bool (if L = [] then false else if p.T = win then s && inM f t c L && R1 else bareB s f t c && R2)) ∧ Below w.heap.size w w' := by
  obtain ⟨w1, hw1⟩ : ∃ w1, w1 = w.alloc (.cells #[v0, v1, v2, v3, v4, v5, v6, v7, v8, v9, v10, v11, v12, .int .i64 win] 46 (0, 0)) := ⟨_, rfl⟩
  obtain ⟨w2, hw2⟩ : ∃ w2, w2 = w1.alloc (.cells #[.bool s, .int .i64 f, .int .i64 t, .int .u8 (c : Int), .slice no kl nc] 32 (0, 0)) := ⟨_, rfl⟩
  obtain ⟨w3, hw3⟩ : ∃ w3, w3 = w2.alloc (.cells #[.int .i64 p.W, .int .i64 p.H, .string p.C, .int .i64 p.T, .string p.A, .string p.B] 24 (0, 0)) := ⟨_, rfl⟩
  have hb1 : Below w.heap.size w w1 := by rw [hw1]; exact (Below.refl _ _).alloc (Nat.le_refl _) _
  have hb2 : Below w1.heap.size w1 w2 := by rw [hw2]; exact (Below.refl _ _).alloc (Nat.le_refl _) _
  have hb3 : Below w2.heap.size w2 w3 := by rw [hw3]; exact (Below.refl _ _).alloc (Nat.le_refl _) _
  have s1 : w1.heap.size = w.heap.size + 1 := by rw [hw1]; simp
  have s2 : w2.heap.size = w.heap.size + 1 + 1 := by rw [hw2]; simp [s1]
  have s3 : w3.heap.size = w.heap.size + 1 + 1 + 1 := by rw [hw3]; simp [s2]
  have hcl : isCl w3 w.heap.size v0 v1 v2 v3 v4 v5 v6 v7 v8 v9 v10 v11 v12 win := isCl.below (isCl.below (show isCl w1 w.heap.size v0 v1 v2 v3 v4 v5 v6 v7 v8 v9 v10 v11 v12 win by rw [hw1]; exact heap_alloc_new w _) hb2 (by omega)) hb3 (by omega)
  have hcb : isCb w3 (w.heap.size + 1) s f t c (.slice no kl nc) := isCb.below (show isCb w2 (w.heap.size + 1) s f t c (.slice no kl nc) by rw [hw2, ← s1]; exact heap_alloc_new w1 _) hb3 (by omega)
  have hpb : isPb w3 (w.heap.size + 1 + 1) p.W p.H p.T p.C p.A p.B := by rw [hw3, ← s2]; exact heap_alloc_new w2 _
  have hbw : Below w.heap.size w w3 := (hb1.trans (hb2.mono (by omega))).trans (hb3.mono (by omega))
  have HCL := hide hcl
  have HCB := hide hcb
  have HPB := hide hpb
  have HBW := hide hbw
  have HW1 := hide hw1
  have HW2 := hide hw2
  have HW3 := hide hw3
  clear hw1 hw2 hw3 hb1 hb2 hb3 s1 s2 s3 hcl hcb hpb hbw
  have HSF := hide (show SF w v0 v1 v2 v3 v4 v5 v6 v7 v8 v9 v10 v11 v12 win s f t c (.slice no kl nc) p w3 from ⟨unhide HCL, unhide HCB, unhide HPB, unhide HBW⟩)
  have HWO := hide (hW w3 (unhide HBW))
  clear hW HCL HCB HPB HBW
  have hNz : ((N : Int) == 0) = false := by simp; omega
  obtain ⟨k, hk⟩ : ∃ k, k = L.length := ⟨_, rfl⟩
  rw [← hk] at hMo
  have HK := hide hk
  have HMO := hide hMo
  have HB1 := hide hB1
  have HB2 := hide hB2
  have HBA := hide (fun u => isBare_any s f t c (.slice no kl nc) u)
  obtain ⟨b, hb⟩ : ∃ b, b = bareB s f t c := ⟨_, rfl⟩
  obtain ⟨q, hq⟩ : ∃ q, q = inM f t c L := ⟨_, rfl⟩
  rw [← hb] at HBA ⊢
  rw [← hq] at ⊢
  have HQ := hide hq
  clear hMo hB1 hB2 hb hq hk
  by_cases hL0 : L = []
  · rw [if_pos hL0]
    have hk0 : ((k : Int) == 0) = true := by rw [unhide HK, hL0]; rfl
    clear hL0
    go_enter Tryz.func14, Tryz.ntmps14
    go_wp2_with fail
    rw [← unhide HW1, ← unhide HW2, ← unhide HW3]
    refine (unhide HWO).mono ?_
    rintro e w4 ⟨rfl, hb4⟩
    have HSF4 := hide ((unhide HSF).step hb4)
    clear HSF HW1 HW2 HW3 HWO hb4
    obtain ⟨l0, l1, l2, l3, l4, l5, l6, l7, l8, l9, l10, l11, l12, l13⟩ := (unhide HSF4).cl.all
    obtain ⟨p0, p1, p2, p3, p4, p5⟩ := (unhide HSF4).pb.all
    go_wp2_with fail
    refine (unhide HMO _ (unhide HSF4).bw).mono ?_
    rintro e w5 ⟨v, rfl, hown, hb5⟩
    obtain ⟨lo1, lc1, rfl⟩ := row_len hown
    have hl5 : isMvs w5 (.slice lo1 k lc1) L := isMvs.of (by rw [← unhide HK]; exact hown)
    have HL5 := hide hl5
    have HSF5 := hide ((unhide HSF4).step hb5)
    clear HSF4 hb5 hown hl5 l0 l1 l2 l3 l4 l5 l6 l7 l8 l9 l10 l11 l12 l13 p0 p1 p2 p3 p4 p5 HMO
    obtain ⟨l0, l1, l2, l3, l4, l5, l6, l7, l8, l9, l10, l11, l12, l13⟩ := (unhide HSF5).cl.all
    obtain ⟨p0, p1, p2, p3, p4, p5⟩ := (unhide HSF5).pb.all
    obtain ⟨c0, c1, c2, c3, c4⟩ := (unhide HSF5).cb.all
    go_wp2
    go_ret
    exact ⟨rfl, (unhide HSF5).bw⟩
  · rw [if_neg hL0]
    have hk0 : ((k : Int) == 0) = false := by
      rw [unhide HK]
      cases L with
      | nil => exact absurd rfl hL0
      | cons a r => simp; omega
    clear hL0
    by_cases hT : p.T = win
    · rw [if_pos hT]
      have hTb : (p.T == win) = true := by simp [hT]
      clear hT
      cases s with
      | false =>
        go_enter Tryz.func14, Tryz.ntmps14
        go_wp2_with fail
        rw [← unhide HW1, ← unhide HW2, ← unhide HW3]
        refine (unhide HWO).mono ?_
        rintro e w4 ⟨rfl, hb4⟩
        have HSF4 := hide ((unhide HSF).step hb4)
        clear HSF HW1 HW2 HW3 HWO hb4
        obtain ⟨l0, l1, l2, l3, l4, l5, l6, l7, l8, l9, l10, l11, l12, l13⟩ := (unhide HSF4).cl.all
        obtain ⟨p0, p1, p2, p3, p4, p5⟩ := (unhide HSF4).pb.all
        go_wp2_with fail
        refine (unhide HMO _ (unhide HSF4).bw).mono ?_
        rintro e w5 ⟨v, rfl, hown, hb5⟩
        obtain ⟨lo1, lc1, rfl⟩ := row_len hown
        have hl5 : isMvs w5 (.slice lo1 k lc1) L := isMvs.of (by rw [← unhide HK]; exact hown)
        have HL5 := hide hl5
        have HSF5 := hide ((unhide HSF4).step hb5)
        clear HSF4 hb5 hown hl5 l0 l1 l2 l3 l4 l5 l6 l7 l8 l9 l10 l11 l12 l13 p0 p1 p2 p3 p4 p5 HMO
        obtain ⟨l0, l1, l2, l3, l4, l5, l6, l7, l8, l9, l10, l11, l12, l13⟩ := (unhide HSF5).cl.all
        obtain ⟨p0, p1, p2, p3, p4, p5⟩ := (unhide HSF5).pb.all
        obtain ⟨c0, c1, c2, c3, c4⟩ := (unhide HSF5).cb.all
        go_wp2
        go_ret
        exact ⟨rfl, (unhide HSF5).bw⟩
      | true =>
        go_enter Tryz.func14, Tryz.ntmps14
        go_wp2_with fail
        rw [← unhide HW1, ← unhide HW2, ← unhide HW3]
        refine (unhide HWO).mono ?_
        rintro e w4 ⟨rfl, hb4⟩
        have HSF4 := hide ((unhide HSF).step hb4)
        clear HSF HW1 HW2 HW3 HWO hb4
        obtain ⟨l0, l1, l2, l3, l4, l5, l6, l7, l8, l9, l10, l11, l12, l13⟩ := (unhide HSF4).cl.all
        obtain ⟨p0, p1, p2, p3, p4, p5⟩ := (unhide HSF4).pb.all
        go_wp2_with fail
        refine (unhide HMO _ (unhide HSF4).bw).mono ?_
        rintro e w5 ⟨v, rfl, hown, hb5⟩
        obtain ⟨lo1, lc1, rfl⟩ := row_len hown
        have hl5 : isMvs w5 (.slice lo1 k lc1) L := isMvs.of (by rw [← unhide HK]; exact hown)
        have HL5 := hide hl5
        have HSF5 := hide ((unhide HSF4).step hb5)
        clear HSF4 hb5 hown hl5 l0 l1 l2 l3 l4 l5 l6 l7 l8 l9 l10 l11 l12 l13 p0 p1 p2 p3 p4 p5 HMO
        obtain ⟨l0, l1, l2, l3, l4, l5, l6, l7, l8, l9, l10, l11, l12, l13⟩ := (unhide HSF5).cl.all
        obtain ⟨p0, p1, p2, p3, p4, p5⟩ := (unhide HSF5).pb.all
        obtain ⟨c0, c1, c2, c3, c4⟩ := (unhide HSF5).cb.all
        have HCO := hide (ContainsM_any (.slice lo1 k lc1) L f t c w5 (unhide HL5))
        rw [← unhide HQ] at HCO
        go_wp2_with fail
        refine (unhide HCO).mono ?_
        rintro e w6 ⟨rfl, hb6⟩
        have HSF6 := hide ((unhide HSF5).step hb6)
        clear HSF5 hb6 HCO l0 l1 l2 l3 l4 l5 l6 l7 l8 l9 l10 l11 l12 l13 p0 p1 p2 p3 p4 p5 c0 c1 c2 c3 c4
        cases q with
        | false =>
          go_wp2
          go_ret
          exact ⟨rfl, (unhide HSF6).bw⟩
        | true =>
          obtain ⟨hmem, htn⟩ := in_nat (unhide HQ).symm
          obtain ⟨w7, hw7⟩ : ∃ w7, w7 = w6.alloc (.cells #[.int .i64 f, .int .i64 t, .int .u8 (c : Int)] 29 (0, 0)) := ⟨_, rfl⟩
          have hb7 : Below w6.heap.size w6 w7 := by rw [hw7]; exact (Below.refl _ _).alloc (Nat.le_refl _) _
          have hm7 : isMvs w7 (.slice (some ⟨w6.heap.size, 0, none⟩) 1 1) [⟨f, t.toNat, c⟩] := by
            have := one_mvs w6 f t.toNat c
            rw [← htn] at this
            rw [hw7]
            exact this
          have HSF7 := hide ((unhide HSF6).step hb7)
          have HCB := hide (unhide HB1 (unhide HQ).symm _ w7 (unhide HSF7).bw hm7)
          have HW7 := hide hw7
          obtain ⟨l0, l1, l2, l3, l4, l5, l6, l7, l8, l9, l10, l11, l12, l13⟩ := (unhide HSF6).cl.all
          obtain ⟨p0, p1, p2, p3, p4, p5⟩ := (unhide HSF6).pb.all
          obtain ⟨c0, c1, c2, c3, c4⟩ := (unhide HSF6).cb.all
          clear hw7 hb7 hm7 hmem htn
          go_wp2_with fail
          rw [← unhide HW7]
          refine (unhide HCB).mono ?_
          rintro e w8 ⟨rfl, hb8⟩
          have HB8 := hide ((unhide HSF7).bw.trans (hb8.mono (unhide HSF7).bw.size))
          clear hb8 l0 l1 l2 l3 l4 l5 l6 l7 l8 l9 l10 l11 l12 l13 p0 p1 p2 p3 p4 p5 c0 c1 c2 c3 c4
          go_wp2
          go_ret
          exact ⟨by simp, unhide HB8⟩
    · rw [if_neg hT]
      have hTb : (p.T == win) = false := by simp [hT]
      clear hT
      go_enter Tryz.func14, Tryz.ntmps14
      go_wp2_with fail
      rw [← unhide HW1, ← unhide HW2, ← unhide HW3]
      refine (unhide HWO).mono ?_
      rintro e w4 ⟨rfl, hb4⟩
      have HSF4 := hide ((unhide HSF).step hb4)
      clear HSF HW1 HW2 HW3 HWO hb4
      obtain ⟨l0, l1, l2, l3, l4, l5, l6, l7, l8, l9, l10, l11, l12, l13⟩ := (unhide HSF4).cl.all
      obtain ⟨p0, p1, p2, p3, p4, p5⟩ := (unhide HSF4).pb.all
      go_wp2_with fail
      refine (unhide HMO _ (unhide HSF4).bw).mono ?_
      rintro e w5 ⟨v, rfl, hown, hb5⟩
      obtain ⟨lo1, lc1, rfl⟩ := row_len hown
      have hl5 : isMvs w5 (.slice lo1 k lc1) L := isMvs.of (by rw [← unhide HK]; exact hown)
      have HL5 := hide hl5
      have HSF5 := hide ((unhide HSF4).step hb5)
      clear HSF4 hb5 hown hl5 l0 l1 l2 l3 l4 l5 l6 l7 l8 l9 l10 l11 l12 l13 p0 p1 p2 p3 p4 p5 HMO
      obtain ⟨l0, l1, l2, l3, l4, l5, l6, l7, l8, l9, l10, l11, l12, l13⟩ := (unhide HSF5).cl.all
      obtain ⟨p0, p1, p2, p3, p4, p5⟩ := (unhide HSF5).pb.all
      obtain ⟨c0, c1, c2, c3, c4⟩ := (unhide HSF5).cb.all
      go_wp2_with fail
      refine (unhide HBA _).mono ?_
      rintro e w6 ⟨rfl, hb6⟩
      have HSF6 := hide ((unhide HSF5).step hb6)
      have HL6 := hide ((unhide HL5).below hb6)
      clear HSF5 HL5 hb6 l0 l1 l2 l3 l4 l5 l6 l7 l8 l9 l10 l11 l12 l13 p0 p1 p2 p3 p4 p5 c0 c1 c2 c3 c4
      cases b with
      | false =>
        go_wp2
        go_ret
        exact ⟨rfl, (unhide HSF6).bw⟩
      | true =>
        have HCB := hide (unhide HB2 _ w6 (unhide HSF6).bw (unhide HL6))
        obtain ⟨l0, l1, l2, l3, l4, l5, l6, l7, l8, l9, l10, l11, l12, l13⟩ := (unhide HSF6).cl.all
        obtain ⟨p0, p1, p2, p3, p4, p5⟩ := (unhide HSF6).pb.all
        obtain ⟨c0, c1, c2, c3, c4⟩ := (unhide HSF6).cb.all
        go_wp2_with fail
        refine (unhide HCB).mono ?_
        rintro e w8 ⟨rfl, hb8⟩
        have HB8 := hide ((unhide HSF6).bw.trans (hb8.mono (unhide HSF6).bw.size))
        clear hb8 l0 l1 l2 l3 l4 l5 l6 l7 l8 l9 l10 l11 l12 l13 p0 p1 p2 p3 p4 p5 c0 c1 c2 c3 c4
        go_wp2
        go_ret
        exact ⟨by simp, unhide HB8⟩

/-- isShown, at every number of moves. -/
theorem shown_walk (ok : Po → Prop) (L : Po → List Mv) (beh : Po → Mv → Po) (o : Po → Int) (v0 v1 v2 v3 v4 v5 v6 v7 v8 v9 v10 v11 v12 : Value) (win : Int) (w00 : World) (hwin : win = 0 ∨ win = 1)
    (hO : ∀ p, ok p → ∀ u, Below w00.heap.size w00 u → Calls Tryz.prog 47 #[.agg #[v0, v1, v2, v3, v4, v5, v6, v7, v8, v9, v10, v11, v12], .agg #[.int .i64 p.W, .int .i64 p.H, .string p.C, .int .i64 p.T, .string p.A, .string p.B]] u fun e w' => e = .returned (.tuple #[.int .i64 (o p), .int .i64 0]) ∧ Below u.heap.size u w')
    (hL : ∀ p, ok p → ∀ u, Below w00.heap.size w00 u → Calls Tryz.prog 24 #[.agg #[v0, v1, v2, v3, v4, v5, v6, v7, v8, v9, v10, v11, v12], .agg #[.int .i64 p.W, .int .i64 p.H, .string p.C, .int .i64 p.T, .string p.A, .string p.B]] u fun e w' => ∃ v, e = .returned (.tuple #[v, .int .i64 0]) ∧ w'.ownsRow u.heap.size 29 3 v (L p).length (mvals (L p)) ∧ Below u.heap.size u w')
    (hB : ∀ p, ok p → ∀ m ∈ L p, ok (beh p m) ∧ ∀ u, Below w00.heap.size w00 u → Calls Tryz.prog 49 #[.agg #[v0, v1, v2, v3, v4, v5, v6, v7, v8, v9, v10, v11, v12], .agg #[.int .i64 p.W, .int .i64 p.H, .string p.C, .int .i64 p.T, .string p.A, .string p.B], .agg #[.int .i64 m.f, .int .i64 (m.t : Int), .int .u8 (m.c : Int)]] u fun e w' => e = .returned (.agg #[.int .i64 (beh p m).W, .int .i64 (beh p m).H, .string (beh p m).C, .int .i64 (beh p m).T, .string (beh p m).A, .string (beh p m).B]) ∧ Below u.heap.size u w') :
    ∀ (n : Nat), n ≤ 9 → ∀ p, ok p → ∀ (x : Ct) (no : Option Addr) (nc d B : Nat) (w : World), Below w00.heap.size w00 w → B ≤ w.heap.size → isCts d w B no nc x.ks → x.c < 256 →
      Calls Tryz.prog 14 #[.agg #[v0, v1, v2, v3, v4, v5, v6, v7, v8, v9, v10, v11, v12, .int .i64 win], .agg #[.bool x.s, .int .i64 x.f, .int .i64 x.t, .int .u8 (x.c : Int), .slice no x.ks.length nc], .agg #[.int .i64 p.W, .int .i64 p.H, .string p.C, .int .i64 p.T, .string p.A, .string p.B], .int .i64 (n : Int)] w fun e w' => e = .returned (.bool (shN L beh o win n p x)) ∧ Below w.heap.size w w' := by
  intro n
  induction n with
  | zero =>
    intro _ p hp x no nc d B w hw _ _ _
    have hiw : ∀ u, Below w.heap.size w u → Calls Tryz.prog 23 #[.agg #[v0, v1, v2, v3, v4, v5, v6, v7, v8, v9, v10, v11, v12, .int .i64 win], .agg #[.int .i64 p.W, .int .i64 p.H, .string p.C, .int .i64 p.T, .string p.A, .string p.B]] u fun e w' => e = .returned (.bool (o p == win + 1)) ∧ Below u.heap.size u w' := fun u hu => isWon_any v0 v1 v2 v3 v4 v5 v6 v7 v8 v9 v10 v11 v12 win p.W p.H p.T p.C p.A p.B (o p) 0 u hwin (fun v hv => hO p hp v (hw.trans ((hu.trans (hv.mono hu.size)).mono hw.size)))
    rw [shN]
    by_cases h : o p = win + 1
    · rw [beq_iff_eq.2 h] at hiw
      rw [decide_eq_true h, Bool.true_and, show x.ks.isEmpty = decide (x.ks.length = 0) by cases x.ks <;> simp]
      exact shown_won v0 v1 v2 v3 v4 v5 v6 v7 v8 v9 v10 v11 v12 win x.s x.f x.t x.c no x.ks.length nc p _ w hiw
    · rw [beq_eq_false_iff_ne.2 h] at hiw
      rw [decide_eq_false h, Bool.false_and]
      exact shown_zero v0 v1 v2 v3 v4 v5 v6 v7 v8 v9 v10 v11 v12 win x.s x.f x.t x.c no x.ks.length nc p w hiw
  | succ n ih =>
    intro hn p hp x no nc d B w hw hBw hks hxc
    have hiw : ∀ u, Below w.heap.size w u → Calls Tryz.prog 23 #[.agg #[v0, v1, v2, v3, v4, v5, v6, v7, v8, v9, v10, v11, v12, .int .i64 win], .agg #[.int .i64 p.W, .int .i64 p.H, .string p.C, .int .i64 p.T, .string p.A, .string p.B]] u fun e w' => e = .returned (.bool (o p == win + 1)) ∧ Below u.heap.size u w' := fun u hu => isWon_any v0 v1 v2 v3 v4 v5 v6 v7 v8 v9 v10 v11 v12 win p.W p.H p.T p.C p.A p.B (o p) 0 u hwin (fun v hv => hO p hp v (hw.trans ((hu.trans (hv.mono hu.size)).mono hw.size)))
    have hup : ∀ u, Below w.heap.size w u → Below w00.heap.size w00 u := fun u hu => hw.trans (hu.mono hw.size)
    rw [shN]
    by_cases h : o p = win + 1
    · rw [beq_iff_eq.2 h] at hiw
      rw [if_pos h, show x.ks.isEmpty = decide (x.ks.length = 0) by cases x.ks <;> simp]
      exact shown_won v0 v1 v2 v3 v4 v5 v6 v7 v8 v9 v10 v11 v12 win x.s x.f x.t x.c no x.ks.length nc p _ w hiw
    · rw [beq_eq_false_iff_ne.2 h] at hiw
      rw [if_neg h]
      have hbe : ∀ (ms : List Mv), (∀ m ∈ ms, m ∈ L p) → ∀ mv u, Below w.heap.size w u → isMvs u mv ms → Calls Tryz.prog 33 #[.agg #[v0, v1, v2, v3, v4, v5, v6, v7, v8, v9, v10, v11, v12, .int .i64 win], .slice no x.ks.length nc, .agg #[.int .i64 p.W, .int .i64 p.H, .string p.C, .int .i64 p.T, .string p.A, .string p.B], mv, .int .i64 ((n + 1 : Nat) : Int)] u fun e w' => e = .returned (.bool (shK (shN L beh o win n) (beh p) x.ks ms)) ∧ Below u.heap.size u w' := fun ms hms mv u hu hmv =>
        behind_walk v0 v1 v2 v3 v4 v5 v6 v7 v8 v9 v10 v11 v12 win p (beh p) (shN L beh o win n) n d B no nc x.ks mv ms u (by omega) (Nat.le_trans hBw hu.size) (isCts.below hu hBw d no nc x.ks hks) hmv
          (fun m hm v hv => (hB p hp m (hms m hm)).2 v (hup v (hu.trans (hv.mono hu.size))))
          (fun m hm y no' nc' d' v hv hy hyc => ih (by omega) (beh p m) (hB p hp m (hms m hm)).1 y no' nc' d' B v (hup v (hu.trans (hv.mono hu.size))) (Nat.le_trans hBw (hu.trans (hv.mono hu.size)).size) hy hyc)
      exact shown_more v0 v1 v2 v3 v4 v5 v6 v7 v8 v9 v10 v11 v12 win x.s x.f x.t x.c no x.ks.length nc p (n + 1) (L p) _ _ w (by omega) hiw (fun u hu => hL p hp u (hup u hu))
        (fun hin mv u hu hmv => hbe _ (fun m hm => by simp only [List.mem_singleton] at hm; rw [hm]; exact (in_nat hin).1) mv u hu hmv)
        (fun mv u hu hmv => hbe (L p) (fun m hm => hm) mv u hu hmv)
end Go.Proofs.YtlogengkhlmcbaaGreatDoor
