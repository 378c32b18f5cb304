/-
  gamelaw.RulesTexts, walked: it answers true.
-/
import Derived.Test.YtfhmpgjemobjhaaGreatDoorS15
import Derived.Test.YtfhmpgjemobjhaaGreatDoorJ41
import Derived.Test.YtfhmpgjemobjhaaGreatDoorJ42
namespace Go.Proofs.YtfhmpgjemobjhaaGreatDoor
open Go.RowKit
attribute [local go_sem ↓] Go.wp_at_zero Go.wp_at_succ

theorem eqFault' (w : World) (c n : Int) : (Op.equalIn 10000 32 (.agg #[.int .i64 c, .int .i64 n]) (.agg #[.int .i64 c, .int .i64 n])).run Tryz.prog w = .ok true w := by
  rw [run_equalIn_agg w 9999 32 _ _ (by kernel_rfl) (by kernel_rfl)]
  unfold Program.fieldsOf
  rw [Tryz.underlying32]
  simp [go_sem]
theorem on2 {B : Nat} {w0 w1 w3 : World} {o o' : Obj} (h : Below B w0 w1) (hB : B ≤ w1.heap.size) (hb : Below ((w1.alloc o).alloc o').heap.size ((w1.alloc o).alloc o') w3) : Below B w0 w3 :=
  ((h.alloc hB o).alloc (by simp; omega) o').trans (hb.mono (by simp; omega))
theorem on2' {B : Nat} {w0 w1 : World} (o o' : Obj) (h : Below B w0 w1) (hB : B ≤ w1.heap.size) : Below B w0 ((w1.alloc o).alloc o') :=
  (h.alloc hB o).alloc (by simp; omega) o'
/-- What a text is read as: rules (none at all, if it is wrong), an error's number, a place. -/
def readV (s : List UInt8) : Rl × Int × Int := (((readR s).1).getD Rl.none, (readR s).2.1, (readR s).2.2)
theorem read_all {s : ByteArray} {w w' : World} {e : Ending} (h : ReadEnd s w e w') : ∃ ao cap, e = .returned (.tuple #[(readV s.data.toList).1.val (.slice ao (readV s.data.toList).1.ps.length cap), faultV (readV s.data.toList).2.1 (readV s.data.toList).2.2]) ∧ isPcs w' ao cap (readV s.data.toList).1.ps ∧ Below w.heap.size w w' := by
  obtain ⟨h1, h2⟩ := h
  unfold readV
  rcases h1 with ⟨x, ao, cap, hr, hp, -, -, -, rfl⟩ | ⟨c, n, -, hr, rfl⟩
  · rw [hr]
    exact ⟨ao, cap, rfl, hp, h2⟩
  · rw [hr]
    exact ⟨none, 0, rfl, ⟨Nat.le_refl _, by unfold maxLen; omega, fun _ => rfl, fun h => absurd rfl h⟩, h2⟩

set_option maxHeartbeats 4000000 in
set_option maxRecDepth 100000 in
theorem texts_walk (v0 v1 v2 v3 v4 v5 v6 v7 v8 v9 v10 v11 v12 : Value) (s TX : ByteArray) (EC : Int) (RB : Bool) (m : Int) (w : World) (hs : s.size < 2000000) (hm : w.cell? ⟨0, 0, none⟩ = some (.int .i64 m)) (h0 : 0 < w.heap.size) (ht : isTab w)
    (hWR : ∀ u, Below w.heap.size w u → Calls Tryz.prog 4 #[.agg #[v0, v1, v2, v3, v4, v5, v6, v7, v8, v9, v10, v11, v12]] u fun e u' => e = .returned (.tuple #[.string TX, .int .i64 EC]) ∧ Below u.heap.size u u')
    (hRU : ∀ u, Below w.heap.size w u → Calls Tryz.prog 8 #[.agg #[v0, v1, v2, v3, v4, v5, v6, v7, v8, v9, v10, v11, v12]] u fun e u' => e = .returned (.bool RB) ∧ Below u.heap.size u u')
    (hCK : ∀ u, Below w.heap.size w u → Calls Tryz.prog 9 #[.agg #[v0, v1, v2, v3, v4, v5, v6, v7, v8, v9, v10, v11, v12]] u fun e u' => e = .returned (.int .i64 EC) ∧ Below u.heap.size u u')
    (hcase : (RB = false ∧ EC = 1 ∧ TX = ⟨#[]⟩) ∨ (RB = true ∧ EC = 0 ∧ ∀ u, Below w.heap.size w u → Calls Tryz.prog 10 #[.agg #[v0, v1, v2, v3, v4, v5, v6, v7, v8, v9, v10, v11, v12]] u fun e u' => e = .returned (.string TX) ∧ Below u.heap.size u u')) :
    Calls Tryz.prog 3 #[.agg #[v0, v1, v2, v3, v4, v5, v6, v7, v8, v9, v10, v11, v12], .string s] w fun e w' => e = .returned (.bool true) ∧ Below w.heap.size w w' := by
  have hRD : ∀ u, Below w.heap.size w u → Calls Tryz.prog 5 #[.string s] u fun e u' => ReadEnd s u e u' := by
    intro u hu
    exact rRead_any s m u hs ((hu.cell (p := ⟨0, 0, none⟩) h0).trans hm) (Nat.lt_of_lt_of_le h0 hu.size)
  have hRO : ∀ u, Below w.heap.size w u → Calls Tryz.prog 6 #[.string s] u fun e u' => ReadEnd s u e u' := by
    intro u hu
    exact gRulesOf_any s m u hs ((hu.cell (p := ⟨0, 0, none⟩) h0).trans hm) (Nat.lt_of_lt_of_le h0 hu.size) (ht.below hu)
  have HWR := hide hWR
  have HRU := hide hRU
  have HCK := hide hCK
  have HRD := hide hRD
  have HRO := hide hRO
  have HCASE := hide hcase
  have HBA : Hid (Below w.heap.size w (w.alloc (.cells #[v0, v1, v2, v3, v4, v5, v6, v7, v8, v9, v10, v11, v12] 27 (0, 0)))) := hide ((Below.refl _ w).alloc (Nat.le_refl _) _)
  clear hWR hRU hCK hRD hRO hcase ht hm
  go_enter Tryz.func3, Tryz.ntmps3
  go_wp2_with fail
  refine (unhide HWR _ (unhide HBA)).mono ?_
  rintro e w1 ⟨rfl, hb1⟩
  have hr1 : isRu w1 w.heap.size v0 v1 v2 v3 v4 v5 v6 v7 v8 v9 v10 v11 v12 := isRu.fresh hb1
  have hw1 : Below w.heap.size w w1 := (unhide HBA).trans (hb1.mono (unhide HBA).size)
  clear hb1
  go_wp2_with fail
  refine (unhide HRD _ hw1).mono ?_
  rintro e w2 hre
  obtain ⟨ao2, cap2, rfl, hpc2, hb2⟩ := read_all hre
  have hr2 := hr1.below hb2 hr1.lt
  have hw2 : Below w.heap.size w w2 := hw1.trans (hb2.mono hw1.size)
  clear hre hb2 hr1 hw1
  obtain ⟨y, hy⟩ : ∃ y, y = (readV s.data.toList).1 := ⟨_, rfl⟩
  obtain ⟨ec, hec⟩ : ∃ ec, ec = (readV s.data.toList).2.1 := ⟨_, rfl⟩
  obtain ⟨en, hen⟩ : ∃ en, en = (readV s.data.toList).2.2 := ⟨_, rfl⟩
  rw [← hy] at hpc2
  rw [← hy, ← hec, ← hen]
  have HY := hide hy
  have HEC := hide hec
  have HEN := hide hen
  clear hy hec hen
  unfold Rl.val faultV
  obtain ⟨CB, hCB⟩ : ∃ CB : ByteArray, CB = ⟨y.C.toArray⟩ := ⟨_, rfl⟩
  obtain ⟨AB, hAB⟩ : ∃ AB : ByteArray, AB = ⟨y.A.toArray⟩ := ⟨_, rfl⟩
  obtain ⟨BB, hBB⟩ : ∃ BB : ByteArray, BB = ⟨y.B.toArray⟩ := ⟨_, rfl⟩
  rw [← hCB, ← hAB, ← hBB]
  have HCB := hide hCB
  have HAB := hide hAB
  have HBB := hide hBB
  have HR2 := hide hr2
  have HW2 := hide hw2
  have HPC2 := hide hpc2
  clear hCB hAB hBB hr2 hpc2
  go_wp2_with fail
  refine (unhide HRO _ (on2' _ _ hw2 hw2.size)).mono ?_
  rintro e w4 hre
  obtain ⟨ao4, cap4, rfl, hpc4, hb4⟩ := read_all hre
  rw [← unhide HY] at hpc4
  rw [← unhide HY, ← unhide HEC, ← unhide HEN]
  unfold Rl.val faultV
  rw [← unhide HCB, ← unhide HAB, ← unhide HBB]
  have hb24 : Below w2.heap.size w2 w4 := on2 (Below.refl _ _) (Nat.le_refl _) hb4
  have hr4 := (unhide HR2).below hb24 (unhide HR2).lt
  have hw4 : Below w.heap.size w w4 := hw2.trans (hb24.mono hw2.size)
  have hpc2' := (unhide HPC2).below hb24 (Nat.le_refl _)
  have hr7 : isRu w4 w2.heap.size (.int .i64 (y.W : Int)) (.int .i64 (y.H : Int)) (.string CB) (.int .i64 y.T) (.string AB) (.string BB) (.slice ao2 y.ps.length cap2) (.bool y.dr) (.int .u8 (y.lo.toNat : Int)) (.int .i64 (y.li : Int)) (.int .u8 (y.re.toNat : Int)) (.bool y.st) (.int .i64 (y.pl : Int)) :=
    isRu.below (isRu.below (show isRu (w2.alloc _) w2.heap.size _ _ _ _ _ _ _ _ _ _ _ _ _ from heap_alloc_new w2 _) ((Below.refl _ _).alloc (Nat.le_refl _) _) (by simp)) hb4 (by simp; omega)
  have hf8 : isFx w4 (w2.heap.size + 1) (.int .i64 ec) (.int .i64 en) := by
    refine isFx.below ?_ hb4 (by simp)
    have := heap_alloc_new (w2.alloc (.cells #[.int .i64 (y.W : Int), .int .i64 (y.H : Int), .string CB, .int .i64 y.T, .string AB, .string BB, .slice ao2 y.ps.length cap2, .bool y.dr, .int .u8 (y.lo.toNat : Int), .int .i64 (y.li : Int), .int .u8 (y.re.toNat : Int), .bool y.st, .int .i64 (y.pl : Int)] 27 (0, 0))) (.cells #[.int .i64 ec, .int .i64 en] 32 (0, 0))
    simpa [isFx] using this
  clear hre hb4 hw2
  have hza : Below w4.heap.size w4 w4 := Below.refl _ _
  have hl7 : w2.heap.size < w4.heap.size := hr7.lt
  have hl8 : w2.heap.size + 1 < w4.heap.size := hf8.lt
  obtain ⟨d0, d1, d2, d3, d4, d5, d6, d7, d8, d9, d10, d11, d12⟩ := hr7.cells
  obtain ⟨⟨g0, g1⟩, -⟩ := hf8.all
  have e0 := fun o o' => ((on2' o o' hza (Nat.le_refl _)).cell (p := ⟨w2.heap.size, 0, none⟩) hl7).trans d0
  have e1 := fun o o' => ((on2' o o' hza (Nat.le_refl _)).cell (p := ⟨w2.heap.size, 1, none⟩) hl7).trans d1
  have e2 := fun o o' => ((on2' o o' hza (Nat.le_refl _)).cell (p := ⟨w2.heap.size, 2, none⟩) hl7).trans d2
  have e3 := fun o o' => ((on2' o o' hza (Nat.le_refl _)).cell (p := ⟨w2.heap.size, 3, none⟩) hl7).trans d3
  have e4 := fun o o' => ((on2' o o' hza (Nat.le_refl _)).cell (p := ⟨w2.heap.size, 4, none⟩) hl7).trans d4
  have e5 := fun o o' => ((on2' o o' hza (Nat.le_refl _)).cell (p := ⟨w2.heap.size, 5, none⟩) hl7).trans d5
  have e6 := fun o o' => ((on2' o o' hza (Nat.le_refl _)).cell (p := ⟨w2.heap.size, 6, none⟩) hl7).trans d6
  have e7 := fun o o' => ((on2' o o' hza (Nat.le_refl _)).cell (p := ⟨w2.heap.size, 7, none⟩) hl7).trans d7
  have e8 := fun o o' => ((on2' o o' hza (Nat.le_refl _)).cell (p := ⟨w2.heap.size, 8, none⟩) hl7).trans d8
  have e9 := fun o o' => ((on2' o o' hza (Nat.le_refl _)).cell (p := ⟨w2.heap.size, 9, none⟩) hl7).trans d9
  have e10 := fun o o' => ((on2' o o' hza (Nat.le_refl _)).cell (p := ⟨w2.heap.size, 10, none⟩) hl7).trans d10
  have e11 := fun o o' => ((on2' o o' hza (Nat.le_refl _)).cell (p := ⟨w2.heap.size, 11, none⟩) hl7).trans d11
  have e12 := fun o o' => ((on2' o o' hza (Nat.le_refl _)).cell (p := ⟨w2.heap.size, 12, none⟩) hl7).trans d12
  have q0 := fun o o' => ((on2' o o' hza (Nat.le_refl _)).cell (p := ⟨w2.heap.size + 1, 0, none⟩) hl8).trans g0
  have q1 := fun o o' => ((on2' o o' hza (Nat.le_refl _)).cell (p := ⟨w2.heap.size + 1, 1, none⟩) hl8).trans g1
  have heqF := fun w => eqFault' w ec en
  have HSR := hide (fun o o' => SameRules_same (y.W : Int) (y.H : Int) y.T CB AB BB ao2 ao4 cap2 cap4 y.ps y.dr y.st y.lo.toNat y.re.toNat (y.li : Int) (y.pl : Int) ((w4.alloc o).alloc o') (hpc2'.below (on2' o o' hza (Nat.le_refl _)) (Nat.le_refl _)) (hpc4.below (on2' o o' hza (Nat.le_refl _)) (Nat.le_refl _)))
  have HR4 := hide hr4
  have HW4 := hide hw4
  clear d0 d1 d2 d3 d4 d5 d6 d7 d8 d9 d10 d11 d12 g0 g1 hr7 hf8 hpc2' hpc4 hb24 hr4 hw4 hza hl7 hl8
  go_wp2_with fail
  refine (unhide HSR _ _).mono ?_
  rintro e w6 ⟨rfl, hb6⟩
  have hb46 : Below w4.heap.size w4 w6 := on2 (Below.refl _ _) (Nat.le_refl _) hb6
  have hr6 := (unhide HR4).below hb46 (unhide HR4).lt
  have hw6 : Below w.heap.size w w6 := (unhide HW4).trans (hb46.mono (unhide HW4).size)
  clear e0 e1 e2 e3 e4 e5 e6 e7 e8 e9 e10 e11 e12 q0 q1 heqF hb6 hb46
  obtain ⟨d0, d1, d2, d3, d4, d5, d6, d7, d8, d9, d10, d11, d12⟩ := hr6.cells
  go_wp2_with fail
  refine (unhide HRU _ hw6).mono ?_
  rintro e w7 ⟨rfl, hb7⟩
  have hr8 := hr6.below hb7 hr6.lt
  have hw7 : Below w.heap.size w w7 := hw6.trans (hb7.mono hw6.size)
  clear d0 d1 d2 d3 d4 d5 d6 d7 d8 d9 d10 d11 d12 hr6 hw6 hb7
  obtain ⟨d0, d1, d2, d3, d4, d5, d6, d7, d8, d9, d10, d11, d12⟩ := hr8.cells
  rcases unhide HCASE with ⟨rfl, rfl, rfl⟩ | ⟨rfl, rfl, hTX⟩
  · go_wp2_with fail
    refine (unhide HCK _ hw7).mono ?_
    rintro e w8 ⟨rfl, hb8⟩
    have hw8 : Below w.heap.size w w8 := hw7.trans (hb8.mono hw7.size)
    clear hb8
    go_wp2
    go_ret
    exact ⟨rfl, hw8⟩
  · have HTX := hide hTX
    clear hTX
    go_wp2_with fail
    refine (unhide HTX _ hw7).mono ?_
    rintro e w8 ⟨rfl, hb8⟩
    have hr9 := hr8.below hb8 hr8.lt
    have hw8 : Below w.heap.size w w8 := hw7.trans (hb8.mono hw7.size)
    clear d0 d1 d2 d3 d4 d5 d6 d7 d8 d9 d10 d11 d12 hr8 hw7 hb8
    obtain ⟨d0, d1, d2, d3, d4, d5, d6, d7, d8, d9, d10, d11, d12⟩ := hr9.cells
    go_wp2_with fail
    refine (unhide HCK _ hw8).mono ?_
    rintro e w9 ⟨rfl, hb9⟩
    have hw9 : Below w.heap.size w w9 := hw8.trans (hb9.mono hw8.size)
    clear hb9
    go_wp2
    go_ret
    exact ⟨rfl, hw9⟩

theorem texts_no (W H T : Int) (C A B : ByteArray) (ao : Option Addr) (cap : Nat) (ps : List Pc) (dr st : Bool) (lo re : UInt8) (li pl : Int) (s : ByteArray) (m : Int) (w : World) (hC : C.size ≤ maxLen) (hA : A.size ≤ maxLen) (hB : B.size ≤ maxLen) (hp : isPcs w ao cap ps) (hf : rulesB W H C.data.toList T A.data.toList B.data.toList ps lo.toNat li re.toNat pl = false) (hs : s.size < 2000000) (hm : w.cell? ⟨0, 0, none⟩ = some (.int .i64 m)) (h0 : 0 < w.heap.size) (ht : isTab w) :
    Calls Tryz.prog 3 #[.agg #[.int .i64 W, .int .i64 H, .string C, .int .i64 T, .string A, .string B, .slice ao ps.length cap, .bool dr, .int .u8 (lo.toNat : Int), .int .i64 li, .int .u8 (re.toNat : Int), .bool st, .int .i64 pl], .string s] w fun e w' => e = .returned (.bool true) ∧ Below w.heap.size w w' := by
  refine texts_walk _ _ _ _ _ _ _ _ _ _ _ _ _ s ⟨#[]⟩ 1 false m w hs hm h0 ht (fun u hu => ?_) (fun u hu => ?_) (fun u hu => ?_) (Or.inl ⟨rfl, rfl, rfl⟩)
  · exact rWrite_no W H T C A B ao cap ps dr st lo re li pl u hC hA hB (hp.below hu (Nat.le_refl _)) hf
  · have := gRules_any W H T C A B ao cap ps dr st lo.toNat re.toNat li pl u hA hB lo.toNat_lt re.toNat_lt (hp.below hu (Nat.le_refl _))
    rw [hf] at this
    exact this
  · have := rCheck_any W H T C A B ao cap ps dr st lo.toNat re.toNat li pl u hC hA hB lo.toNat_lt re.toNat_lt (hp.below hu (Nat.le_refl _))
    rw [hf] at this
    exact this
theorem texts_ok (x : Rl) (hx : x.whole = true) (ao : Option Addr) (cap : Nat) (s : ByteArray) (m : Int) (w : World) (hp : isPcs w ao cap x.ps) (hs : s.size < 2000000) (hm : w.cell? ⟨0, 0, none⟩ = some (.int .i64 m)) (h0 : 0 < w.heap.size) (ht : isTab w) :
    Calls Tryz.prog 3 #[x.val (.slice ao x.ps.length cap), .string s] w fun e w' => e = .returned (.bool true) ∧ Below w.heap.size w w' := by
  have hpos := whole_pos x hx
  have hC : (⟨x.C.toArray⟩ : ByteArray).size ≤ maxLen := by have := hpos.c64; unfold maxLen; omega
  have hA : (⟨x.A.toArray⟩ : ByteArray).size ≤ maxLen := by have := hpos.as; unfold maxLen; omega
  have hB : (⟨x.B.toArray⟩ : ByteArray).size ≤ maxLen := by have := hpos.bs; unfold maxLen; omega
  have hR : rulesB (x.W : Int) (x.H : Int) (⟨x.C.toArray⟩ : ByteArray).data.toList x.T (⟨x.A.toArray⟩ : ByteArray).data.toList (⟨x.B.toArray⟩ : ByteArray).data.toList x.ps x.lo.toNat (x.li : Int) x.re.toNat (x.pl : Int) = true := hx
  refine texts_walk _ _ _ _ _ _ _ _ _ _ _ _ _ s ⟨x.txt.toArray⟩ 0 true m w hs hm h0 ht (fun u hu => ?_) (fun u hu => ?_) (fun u hu => ?_) (Or.inr ⟨rfl, rfl, fun u hu => ?_⟩)
  · exact rWrite_of x hx ao cap u (hp.below hu (Nat.le_refl _)) (ht.below hu)
  · have := gRules_any (x.W : Int) (x.H : Int) x.T ⟨x.C.toArray⟩ ⟨x.A.toArray⟩ ⟨x.B.toArray⟩ ao cap x.ps x.dr x.st x.lo.toNat x.re.toNat (x.li : Int) (x.pl : Int) u hA hB x.lo.toNat_lt x.re.toNat_lt (hp.below hu (Nat.le_refl _))
    rw [hR] at this
    exact this
  · have := rCheck_any (x.W : Int) (x.H : Int) x.T ⟨x.C.toArray⟩ ⟨x.A.toArray⟩ ⟨x.B.toArray⟩ ao cap x.ps x.dr x.st x.lo.toNat x.re.toNat (x.li : Int) (x.pl : Int) u hC hA hB x.lo.toNat_lt x.re.toNat_lt (hp.below hu (Nat.le_refl _))
    rw [hR] at this
    exact this
  · exact gRulesText_ok ao cap x.ps x.dr x.st x.lo x.re (x.li : Int) (x.pl : Int) u hpos (hp.below hu (Nat.le_refl _)) hR (ht.below hu)
end Go.Proofs.YtfhmpgjemobjhaaGreatDoor
