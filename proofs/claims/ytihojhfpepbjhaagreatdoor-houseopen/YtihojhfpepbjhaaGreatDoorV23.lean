/-
  package moves, walked: behind, of the second player.
-/
import Derived.Test.YtihojhfpepbjhaaGreatDoorV22
namespace Go.Proofs.YtihojhfpepbjhaaGreatDoor
open Go.RowKit
attribute [local go_sem ↓] Go.wp_at_zero Go.wp_at_succ

set_option maxHeartbeats 4000000 in
set_option maxRecDepth 100000 in
theorem behind_1 (W H : Nat) (C A B : ByteArray) (v0 v1 v2 v3 v4 v5 v6 v8 v9 v10 v11 v12 : Value) (dr : Bool) (f : Int) (t : Nat) (c : UInt8) (m : Int) (w : World) (hm : w.cell? ⟨0, 0, none⟩ = some (.int .i64 m)) (hA : A.size ≤ 8) (hB : B.size ≤ 8) (hf : f = -1 ∨ (0 ≤ f ∧ f < C.size)) (ht : t < C.size) :
    Calls Tryz.prog 145 #[.agg #[v0, v1, v2, v3, v4, v5, v6, .bool dr, v8, v9, v10, v11, v12], .agg #[.int .i64 (W : Int), .int .i64 (H : Int), .string C, .int .i64 1, .string A, .string B], .agg #[.int .i64 f, .int .i64 (t : Int), .int .u8 (c.toNat : Int)]] w fun e w' => e = .returned (.agg #[.int .i64 (W : Int), .int .i64 (H : Int), .string ⟨(behC C.data.toList f t (letN 1 c.toNat).toUInt8).toArray⟩, .int .i64 0, .string A, .string ⟨(behH C.data.toList B.data.toList dr f t c).toArray⟩]) ∧ Below w.heap.size w w' := by
  obtain ⟨w1, hw1⟩ : ∃ w1, w1 = w.alloc (.cells #[v0, v1, v2, v3, v4, v5, v6, .bool dr, v8, v9, v10, v11, v12] 27 (0, 0)) := ⟨_, rfl⟩
  obtain ⟨w2, hw2⟩ : ∃ w2, w2 = w1.alloc (.cells #[.int .i64 (W : Int), .int .i64 (H : Int), .string C, .int .i64 (1 : Int), .string A, .string B] 24 (0, 0)) := ⟨_, rfl⟩
  obtain ⟨w3, hw3⟩ : ∃ w3, w3 = w2.alloc (.cells #[.int .i64 f, .int .i64 (t : Int), .int .u8 (c.toNat : Int)] 61 (0, 0)) := ⟨_, rfl⟩
  obtain ⟨wz, hwz⟩ : ∃ wz, wz = w3.alloc (.cells #[.int .i64 0, .int .i64 0, .string ⟨#[]⟩, .int .i64 0, .string ⟨#[]⟩, .string ⟨#[]⟩] 24 (0, 0)) := ⟨_, rfl⟩
  have hb1 : Below w.heap.size w w1 := by rw [hw1]; exact (Below.refl _ _).alloc (Nat.le_refl _) _
  have hb2 : Below w1.heap.size w1 w2 := by rw [hw2]; exact (Below.refl _ _).alloc (Nat.le_refl _) _
  have hb3 : Below w2.heap.size w2 w3 := by rw [hw3]; exact (Below.refl _ _).alloc (Nat.le_refl _) _
  have hbz : Below w3.heap.size w3 wz := by rw [hwz]; exact (Below.refl _ _).alloc (Nat.le_refl _) _
  have s1 : w1.heap.size = w.heap.size + 1 := by rw [hw1]; simp
  have s2 : w2.heap.size = w.heap.size + 1 + 1 := by rw [hw2]; simp [s1]
  have s3 : w3.heap.size = w.heap.size + 1 + 1 + 1 := by rw [hw3]; simp [s2]
  have sz : wz.heap.size = w.heap.size + 1 + 1 + 1 + 1 := by rw [hwz]; simp [s3]
  have hru : isRu w3 w.heap.size v0 v1 v2 v3 v4 v5 v6 (.bool dr) v8 v9 v10 v11 v12 := isRu.below (isRu.below (show isRu w1 w.heap.size v0 v1 v2 v3 v4 v5 v6 (.bool dr) v8 v9 v10 v11 v12 by rw [hw1]; exact heap_alloc_new w _) hb2 (by omega)) hb3 (by omega)
  have hpb : isPb w3 (w.heap.size + 1) W H (1 : Int) C A B := isPb.below (show isPb w2 (w.heap.size + 1) W H (1 : Int) C A B by rw [hw2, ← s1]; exact heap_alloc_new w1 _) hb3 (by omega)
  have hmb : isMb w3 (w.heap.size + 1 + 1) f t c.toNat := by rw [hw3, ← s2]; exact heap_alloc_new w2 _
  have hzb : isPb wz (w.heap.size + 1 + 1 + 1) 0 0 0 ⟨#[]⟩ ⟨#[]⟩ ⟨#[]⟩ := by rw [hwz, ← s3]; exact heap_alloc_new w3 _
  have hbw := ((hb1.trans (hb2.mono (show w.heap.size ≤ w1.heap.size by omega))).trans (hb3.mono (show w.heap.size ≤ w2.heap.size by omega))).trans (hbz.mono (show w.heap.size ≤ w3.heap.size by omega))
  have hcv := run_bytes_of_string (P := Tryz.prog) wz 9 127 5 C Tryz.underlying9 Tryz.underlying127 Tryz.underlying5
  obtain ⟨cap, hcap⟩ : ∃ cap, cap = grownCap wz C.size 0 5 := ⟨_, rfl⟩
  rw [← hcap] at hcv
  obtain ⟨w4, hw4⟩ : ∃ w4, w4 = wz.drew.alloc (.cells (bytesRow C cap) 5 ((bytesRow C cap).size, (bytesRow C cap).size + 1)) := ⟨_, rfl⟩
  rw [← hw4, sz] at hcv
  have hb4 : Below wz.heap.size wz w4 := by rw [hw4]; exact (Below.refl _ _).drew.alloc (Nat.le_refl _) _
  have hrow : RowB w4 (w.heap.size + 1 + 1 + 1 + 1) C.data.toList := by
    have := rowM_new wz.drew C cap
    rw [← hw4, show wz.drew.heap.size = w.heap.size + 1 + 1 + 1 + 1 from sz] at this
    simp only [flipTo, List.take_zero, List.map_nil, List.nil_append, List.drop_zero] at this
    obtain ⟨cur, m, h1, h2, h3⟩ := this
    exact ⟨cur, _, h1, .inr (Nat.le_of_eq h2), h3⟩
  have hbw4 := hbw.trans (hb4.mono (show w.heap.size ≤ wz.heap.size by omega))
  have hPn := (hpb.below hbz (by omega)).below hb4 (by omega)
  have hRn := (hru.below hbz (by omega)).below hb4 (by omega)
  have hMn := (hmb.below hbz (by omega)).below hb4 (by omega)
  have hZn := hzb.below hb4 (by omega)
  have hs4 : w.heap.size + 1 + 1 + 1 + 1 + 1 ≤ w4.heap.size := by rw [hw4]; show _ ≤ (wz.drew.alloc _).heap.size; simp [show wz.drew.heap.size = w.heap.size + 1 + 1 + 1 + 1 from sz]
  have HRO := hide hrow
  have HBW := hide hbw4
  have HPB := hide hPn
  have HRU := hide hRn
  have HMB := hide hMn
  have HZB := hide hZn
  rw [hwz, hw3, hw2, hw1] at hcv
  obtain ⟨p0, p1, p2, p3, p4, p5⟩ := hPn.all
  obtain ⟨-, -, -, -, -, -, -, r7, -, -, -, -, -⟩ := hRn.cells
  obtain ⟨m0, m1, m2⟩ := hMn.all
  clear hb1 hb2 hb3 hbz s1 s2 s3 sz hru hpb hmb hzb hbw hcap hw4 hb4 hrow hbw4 hPn hRn hMn hZn hw1 hw2 hw3 hwz
  have h0 : 0 < w.heap.size := by
    rcases Nat.lt_or_ge 0 w.heap.size with h | h
    · exact h
    · simp [World.cell?, Array.getElem?_eq_none h] at hm
  have HWO := hide (without_any B c m w4 (by assumption) (((unhide HBW).cell (p := ⟨0, 0, none⟩) h0).trans hm))
  have hti : (t : Int) < (C.size : Int) := by omega
  have HLC : Hid (C.data.toList.length = C.size) := hide (len_data C)
  have HOS : Hid (A.size ≤ maxLen ∧ A.size ≤ 140737488355328) := hide (by unfold maxLen; omega)
  clear hm h0
  by_cases hf1 : f = -1
  · have hfb : (f == -1) = true := by simp [hf1]
    have HF1 := hide hf1
    clear hf hf1
    go_enter Tryz.func145, Tryz.ntmps145
    go_wp2_with fail
    refine (unhide HWO).mono ?_
    rintro e u ⟨rfl, hb1⟩
    clear HWO hcv
    have hPn := (unhide HPB).below hb1 (unhide HPB).lt
    have hRn := (unhide HRU).below hb1 (unhide HRU).lt
    have hMn := (unhide HMB).below hb1 (unhide HMB).lt
    have hZn := (unhide HZB).below hb1 (unhide HZB).lt
    have hOn := (unhide HRO).below hb1 (unhide HRO).lt
    have hBn := (unhide HBW).trans (hb1.mono (unhide HBW).size)
    have hSn := Nat.le_trans hs4 hb1.size
    clear HPB HRU HMB HZB HRO HBW hs4 hb1 p0 p1 p2 p3 p4 p5 r7 m0 m1 m2
    have hs4 := hSn
    clear hSn
    have HPB := hide hPn
    have HRU := hide hRn
    have HMB := hide hMn
    have HZB := hide hZn
    have HRO := hide hOn
    have HBW := hide hBn
    obtain ⟨p0, p1, p2, p3, p4, p5⟩ := hPn.all
    obtain ⟨-, -, -, -, -, -, -, r7, -, -, -, -, -⟩ := hRn.cells
    obtain ⟨m0, m1, m2⟩ := hMn.all
    clear hPn hRn hMn hZn hOn hBn
    obtain ⟨l, hl⟩ : ∃ l, l = C.data.toList := ⟨_, rfl⟩
    obtain ⟨hd, hhd⟩ : ∃ hd : ByteArray, hd = ⟨(withoutL B.data.toList c).toArray⟩ := ⟨_, rfl⟩
    rw [← hl] at HRO
    rw [← hhd]
    have HLL : Hid (l.length = C.size) := hide (by rw [hl]; exact unhide HLC)
    have HFC : Hid (l = cellsA C.data.toList f) := hide (by rw [hl]; unfold cellsA; rw [if_pos (unhide HF1)])
    have HHD : Hid (hd = ⟨(handA B.data.toList f c).toArray⟩) := hide (by rw [hhd]; unfold handA; rw [if_pos (unhide HF1)])
    have HH8 : Hid (hd.size ≤ 8) := hide (by rw [hhd]; exact withoutL_len (by assumption))
    clear hl hhd
    have hlt : t < l.length := by rw [unhide HLL]; exact ht
    have ct := (unhide HRO).cell t hlt
    have ft := (unhide HRO).frozen t hlt
    obtain ⟨k, hk⟩ : ∃ k, k = l[t] := ⟨_, rfl⟩
    rw [← hk] at ct
    have HKK : Hid ((cellsA C.data.toList f)[t]! = k) := hide (by rw [← unhide HFC, hk]; exact getElem!_pos l t hlt)
    clear hk
    by_cases h46 : k = 46
    · have hb46 : ((k.toNat : Int) != 46) = false := by rw [h46]; rfl
      have HFH : Hid (hd = ⟨(behH C.data.toList B.data.toList dr f t c).toArray⟩) := by
        refine hide ?_
        unfold behH handB'
        rw [unhide HKK, if_neg (by simp [h46])]
        exact unhide HHD
      clear h46
      have hx8 : letN 1 c.toNat < 256 := letN_lt' 1 c
      obtain ⟨x, hx⟩ : ∃ x : UInt8, x = (letN 1 c.toNat).toUInt8 := ⟨_, rfl⟩
      have hxn : letN 1 c.toNat = x.toNat := by rw [hx]; exact (u8_back hx8).symm
      have HLO := hide (fun y => LetterOf_any 1 c.toNat y (by omega) (UInt8.toNat_lt c))
      rw [hxn] at HLO
      have hs5 : (l.set t x).length = C.size := by rw [List.length_set]; exact unhide HLL
      have HX := hide hx
      clear hx hxn hx8
      have hP5 := (unhide HPB)
      obtain ⟨u5, hu5⟩ : ∃ u5, u5 = (u.setCell ⟨w.heap.size + 1 + 1 + 1 + 1, t, none⟩ (.int .u8 (x.toNat : Int))).drew := ⟨_, rfl⟩
      have hRO5 : RowB u5 (w.heap.size + 1 + 1 + 1 + 1) (l.set t x) := by rw [hu5]; exact RowB.set (unhide HRO) t x
      have hb5 : Below (w.heap.size + 1 + 1 + 1 + 1) u u5 := by rw [hu5]; exact ((Below.refl _ u).setCell (p := ⟨w.heap.size + 1 + 1 + 1 + 1, t, none⟩) (Nat.le_refl _) _).drew
      have hz5 : w.heap.size + 1 + 1 + 1 + 1 + 1 ≤ u5.heap.size := Nat.le_trans hs4 hb5.size
      have hP5 := (unhide HPB).below hb5 (by omega)
      have hZ5 := (unhide HZB).below hb5 (by omega)
      have hB5 := (unhide HBW).trans (hb5.mono (by omega))
      have hcv5 := RowB.conv (cap := cap) hRO5 (hide hs5)
      go_wp2_with fail
      apply cutBy
      case k =>
        intro key
        go_region_law (refine step_call rfl 158 #[.tmp 49, .tmp 51] #[3, 5] rfl #[.int .i64 1, .int .u8 (c.toNat : Int)] (by first | (simp [Act.eval]; done) | simp [Act.eval, Act.put]) entLet (unhide HLO _) ?_; rintro e1 wx ⟨rfl, rfl⟩; refine ⟨_, rfl, ?_⟩)
        all_goals exact unhide key
      rw [← hu5]
      have HP5 := hide hP5
      have HZ5 := hide hZ5
      have HB5 := hide hB5
      obtain ⟨p0', p1', p2', p3', p4', p5'⟩ := hP5.all
      clear hu5 hRO5 hb5 hP5 hZ5 hB5 HPB HZB HBW HMB HRU HRO p0 p1 p2 p3 p4 p5 r7 m0 m1 m2 ct ft HLO
      have hq5 : isPb (u5.alloc (.cells #[.int .i64 (W : Int), .int .i64 (H : Int), .string ⟨(l.set t x).toArray⟩, .int .i64 (1 - 1), .string ⟨#[]⟩, .string ⟨#[]⟩] 24 (0, 0))) u5.heap.size W H (1 - 1) ⟨(l.set t x).toArray⟩ ⟨#[]⟩ ⟨#[]⟩ := heap_alloc_new u5 _
      obtain ⟨u6, hu6⟩ : ∃ u6, u6 = u5.alloc (.cells #[.int .i64 (W : Int), .int .i64 (H : Int), .string ⟨(l.set t x).toArray⟩, .int .i64 (1 - 1), .string ⟨#[]⟩, .string ⟨#[]⟩] 24 (0, 0)) := ⟨_, rfl⟩
      rw [← hu6] at hq5
      have hb6 : Below u5.heap.size u5 u6 := by rw [hu6]; exact (Below.refl _ _).alloc (Nat.le_refl _) _
      have hs6 : u6.heap.size = u5.heap.size + 1 := by rw [hu6]; simp
      have HQ : Hid (∀ v, Below u6.heap.size u6 v → isPb v u5.heap.size W H (1 - 1) ⟨(l.set t x).toArray⟩ ⟨#[]⟩ ⟨#[]⟩) := hide fun v hv => hq5.below hv (by omega)
      have HKP : Hid (∀ v, Below u6.heap.size u6 v → isPb v (w.heap.size + 1) W H 1 C A B) := hide fun v hv => ((unhide HP5).below hb6 (by omega)).below hv (by omega)
      have HKZ : Hid (∀ v, Below u6.heap.size u6 v → isPb v (w.heap.size + 1 + 1 + 1) 0 0 0 ⟨#[]⟩ ⟨#[]⟩ ⟨#[]⟩) := hide fun v hv => ((unhide HZ5).below hb6 (by omega)).below hv (by omega)
      have HKB : Hid (∀ v, Below u6.heap.size u6 v → Below w.heap.size w v) := hide fun v hv => ((unhide HB5).trans (hb6.mono (by omega))).trans (hv.mono (by omega))
      have HHS : Hid (hd.size ≤ maxLen ∧ hd.size ≤ 140737488355328) := hide (by have := unhide HH8; unfold maxLen; omega)
      have HCL := hide (fun y => Clone_any hd y (unhide HHS).1 (unhide HHS).2)
      have HCO := hide (fun y => Clone_any A y (unhide HOS).1 (unhide HOS).2)
      have HS6 := hide hs6
      go_wp2_with fail
      simp only [Int.sub_self] at hu6
      rw [← hu6]
      have hp6 := unhide HKP u6 (Below.refl _ _)
      obtain ⟨-, -, -, p36, -, -⟩ := hp6.all
      clear hu6 hq5 hb6 hs6 hp6 p0' p1' p2' p3' p4' p5' hcv5
      apply cutFor (fun v => Below u6.heap.size u6 v)
      case k =>
        intro key
        go_region_law (refine step_call rfl 35 #[.tmp 66] #[9] rfl #[.string hd] (by first | (simp [Act.eval]; done) | simp [Act.eval, Act.put]) entCl (unhide HCL _) ?_; rintro e1 wx ⟨rfl, hbx⟩; refine ⟨_, rfl, ?_⟩; have hbx6 : Below u6.heap.size u6 wx := ⟨hbx.os, hbx.tape, hbx.output, hbx.size, hbx.block⟩; have hqx := unhide HQ wx hbx6; have hqf := hqx.frozen (4 + 1); obtain ⟨-, -, -, -, q4, q5⟩ := hqx.all; obtain ⟨-, -, -, p3x, -, -⟩ := (unhide HKP wx hbx6).all; have HBX := hide hbx6; clear hbx hbx6 hqx)
        all_goals exact unhide key wx (unhide HBX)
      intro v hv
      obtain ⟨u7, hu7⟩ : ∃ u7, u7 = v.setCell ⟨u5.heap.size, 5, none⟩ (.string hd) := ⟨_, rfl⟩
      have hq7 : isPb u7 u5.heap.size W H (1 - 1) ⟨(l.set t x).toArray⟩ ⟨#[]⟩ hd := by rw [hu7]; exact (unhide HQ v hv).set5 hd
      have hb7 : Below u5.heap.size v u7 := by rw [hu7]; exact (Below.refl _ v).setCell (p := ⟨u5.heap.size, 5, none⟩) (Nat.le_refl _) _
      have hl7 := hq7.lt
      have HQ7 : Hid (∀ y, Below u7.heap.size u7 y → isPb y u5.heap.size W H (1 - 1) ⟨(l.set t x).toArray⟩ ⟨#[]⟩ hd) := hide fun y hy => hq7.below hy hl7
      have HKP7 : Hid (∀ y, Below u7.heap.size u7 y → isPb y (w.heap.size + 1) W H 1 C A B) := hide fun y hy => ((unhide HKP v hv).below hb7 (by omega)).below hy (by omega)
      have HKZ7 : Hid (∀ y, Below u7.heap.size u7 y → isPb y (w.heap.size + 1 + 1 + 1) 0 0 0 ⟨#[]⟩ ⟨#[]⟩ ⟨#[]⟩) := hide fun y hy => ((unhide HKZ v hv).below hb7 (by omega)).below hy (by omega)
      have HKB7 : Hid (∀ y, Below u7.heap.size u7 y → Below w.heap.size w y) := hide fun y hy => ((unhide HKB v hv).trans (hb7.mono (by omega))).trans (hy.mono (by omega))
      rw [← hu7]
      clear hu7 hq7 hb7 hv HQ HKP HKZ HKB HS6 p36 HP5 HZ5 HB5
      obtain ⟨-, -, -, q37, q47, q57⟩ := (unhide HQ7 u7 (Below.refl _ _)).all
      obtain ⟨-, -, -, -, p47, p57⟩ := (unhide HKP7 u7 (Below.refl _ _)).all
      simp only [Int.sub_self] at q37
      go_wp2_with fail
      apply cutFor (fun y => Below u7.heap.size u7 y)
      case k =>
        intro key
        go_region_law (refine step_call rfl 35 #[.tmp 76] #[9] rfl #[.string A] (by first | (simp [Act.eval]; done) | simp [Act.eval, Act.put]) entCl (unhide HCO _) ?_; rintro e1 wx ⟨rfl, hbx⟩; refine ⟨_, rfl, ?_⟩; have hbx6 : Below u7.heap.size u7 wx := ⟨hbx.os, hbx.tape, hbx.output, hbx.size, hbx.block⟩; have hqx := unhide HQ7 wx hbx6; have hqf := hqx.frozen 4; obtain ⟨-, -, -, q3x, q4x, q5x⟩ := hqx.all; simp only [Int.sub_self] at q3x; have HBX := hide hbx6; clear hbx hbx6 hqx)
        all_goals exact unhide key wx (unhide HBX)
      intro v' hv'
      obtain ⟨u9, hu9⟩ : ∃ u9, u9 = v'.setCell ⟨u5.heap.size, 4, none⟩ (.string A) := ⟨_, rfl⟩
      have hq9 : isPb u9 u5.heap.size W H (1 - 1) ⟨(l.set t x).toArray⟩ A hd := by rw [hu9]; exact (unhide HQ7 v' hv').set4 A
      have hb9 : Below u5.heap.size v' u9 := by rw [hu9]; exact (Below.refl _ v').setCell (p := ⟨u5.heap.size, 4, none⟩) (Nat.le_refl _) _
      have hz9 := (unhide HKZ7 v' hv').below hb9 (by omega)
      have HB9 := hide ((unhide HKB7 v' hv').trans (hb9.mono (by omega)))
      rw [← hu9]
      obtain ⟨q0, q1, q2, q3, q4, q5⟩ := hq9.all
      obtain ⟨e0, e1, e2, e3, e4, e5⟩ := hz9.all
      have z0 := hz9.frozen 0
      have z1 := hz9.frozen 1
      have z2 := hz9.frozen 2
      have z3 := hz9.frozen 3
      have z4 := hz9.frozen 4
      have z5 := hz9.frozen 5
      clear hu9 hq9 hb9 hz9 hv' HQ7 HKP7 HKZ7 HKB7 q37 q47 q57 p47 p57 HCL HCO
      simp only [Int.sub_self] at q3
      go_wp2
      refine bodyPost_ret (v := .agg #[.int .i64 (W : Int), .int .i64 (H : Int), .string ⟨(l.set t x).toArray⟩, .int .i64 (1 - 1), .string (fst2 A hd), .string (snd2 A hd)]) (by simp [fst2, snd2, results, Tryz.results145, go_sem, e0, e1, e2, e3, e4, e5]) rfl ⟨?_, below_set6 (by omega) (unhide HB9)⟩
      rw [unhide HX, unhide HFC, ← unhide HFH]
      rfl
    · have hb46 : ((k.toNat : Int) != 46) = true := by
        simp only [bne_iff_ne, ne_eq]
        intro e
        exact h46 (UInt8.toNat_inj.1 (by have : (46 : UInt8).toNat = 46 := rfl; omega))
      cases dr with
      | false =>
        have HFH : Hid (hd = ⟨(behH C.data.toList B.data.toList false f t c).toArray⟩) := by
          refine hide ?_
          unfold behH handB'
          rw [if_neg (by simp)]
          exact unhide HHD
        clear h46
        have hx8 : letN 1 c.toNat < 256 := letN_lt' 1 c
        obtain ⟨x, hx⟩ : ∃ x : UInt8, x = (letN 1 c.toNat).toUInt8 := ⟨_, rfl⟩
        have hxn : letN 1 c.toNat = x.toNat := by rw [hx]; exact (u8_back hx8).symm
        have HLO := hide (fun y => LetterOf_any 1 c.toNat y (by omega) (UInt8.toNat_lt c))
        rw [hxn] at HLO
        have hs5 : (l.set t x).length = C.size := by rw [List.length_set]; exact unhide HLL
        have HX := hide hx
        clear hx hxn hx8
        have hP5 := (unhide HPB)
        obtain ⟨u5, hu5⟩ : ∃ u5, u5 = (u.setCell ⟨w.heap.size + 1 + 1 + 1 + 1, t, none⟩ (.int .u8 (x.toNat : Int))).drew := ⟨_, rfl⟩
        have hRO5 : RowB u5 (w.heap.size + 1 + 1 + 1 + 1) (l.set t x) := by rw [hu5]; exact RowB.set (unhide HRO) t x
        have hb5 : Below (w.heap.size + 1 + 1 + 1 + 1) u u5 := by rw [hu5]; exact ((Below.refl _ u).setCell (p := ⟨w.heap.size + 1 + 1 + 1 + 1, t, none⟩) (Nat.le_refl _) _).drew
        have hz5 : w.heap.size + 1 + 1 + 1 + 1 + 1 ≤ u5.heap.size := Nat.le_trans hs4 hb5.size
        have hP5 := (unhide HPB).below hb5 (by omega)
        have hZ5 := (unhide HZB).below hb5 (by omega)
        have hB5 := (unhide HBW).trans (hb5.mono (by omega))
        have hcv5 := RowB.conv (cap := cap) hRO5 (hide hs5)
        go_wp2_with fail
        apply cutBy
        case k =>
          intro key
          go_region_law (refine step_call rfl 158 #[.tmp 49, .tmp 51] #[3, 5] rfl #[.int .i64 1, .int .u8 (c.toNat : Int)] (by first | (simp [Act.eval]; done) | simp [Act.eval, Act.put]) entLet (unhide HLO _) ?_; rintro e1 wx ⟨rfl, rfl⟩; refine ⟨_, rfl, ?_⟩)
          all_goals exact unhide key
        rw [← hu5]
        have HP5 := hide hP5
        have HZ5 := hide hZ5
        have HB5 := hide hB5
        obtain ⟨p0', p1', p2', p3', p4', p5'⟩ := hP5.all
        clear hu5 hRO5 hb5 hP5 hZ5 hB5 HPB HZB HBW HMB HRU HRO p0 p1 p2 p3 p4 p5 r7 m0 m1 m2 ct ft HLO
        have hq5 : isPb (u5.alloc (.cells #[.int .i64 (W : Int), .int .i64 (H : Int), .string ⟨(l.set t x).toArray⟩, .int .i64 (1 - 1), .string ⟨#[]⟩, .string ⟨#[]⟩] 24 (0, 0))) u5.heap.size W H (1 - 1) ⟨(l.set t x).toArray⟩ ⟨#[]⟩ ⟨#[]⟩ := heap_alloc_new u5 _
        obtain ⟨u6, hu6⟩ : ∃ u6, u6 = u5.alloc (.cells #[.int .i64 (W : Int), .int .i64 (H : Int), .string ⟨(l.set t x).toArray⟩, .int .i64 (1 - 1), .string ⟨#[]⟩, .string ⟨#[]⟩] 24 (0, 0)) := ⟨_, rfl⟩
        rw [← hu6] at hq5
        have hb6 : Below u5.heap.size u5 u6 := by rw [hu6]; exact (Below.refl _ _).alloc (Nat.le_refl _) _
        have hs6 : u6.heap.size = u5.heap.size + 1 := by rw [hu6]; simp
        have HQ : Hid (∀ v, Below u6.heap.size u6 v → isPb v u5.heap.size W H (1 - 1) ⟨(l.set t x).toArray⟩ ⟨#[]⟩ ⟨#[]⟩) := hide fun v hv => hq5.below hv (by omega)
        have HKP : Hid (∀ v, Below u6.heap.size u6 v → isPb v (w.heap.size + 1) W H 1 C A B) := hide fun v hv => ((unhide HP5).below hb6 (by omega)).below hv (by omega)
        have HKZ : Hid (∀ v, Below u6.heap.size u6 v → isPb v (w.heap.size + 1 + 1 + 1) 0 0 0 ⟨#[]⟩ ⟨#[]⟩ ⟨#[]⟩) := hide fun v hv => ((unhide HZ5).below hb6 (by omega)).below hv (by omega)
        have HKB : Hid (∀ v, Below u6.heap.size u6 v → Below w.heap.size w v) := hide fun v hv => ((unhide HB5).trans (hb6.mono (by omega))).trans (hv.mono (by omega))
        have HHS : Hid (hd.size ≤ maxLen ∧ hd.size ≤ 140737488355328) := hide (by have := unhide HH8; unfold maxLen; omega)
        have HCL := hide (fun y => Clone_any hd y (unhide HHS).1 (unhide HHS).2)
        have HCO := hide (fun y => Clone_any A y (unhide HOS).1 (unhide HOS).2)
        have HS6 := hide hs6
        go_wp2_with fail
        simp only [Int.sub_self] at hu6
        rw [← hu6]
        have hp6 := unhide HKP u6 (Below.refl _ _)
        obtain ⟨-, -, -, p36, -, -⟩ := hp6.all
        clear hu6 hq5 hb6 hs6 hp6 p0' p1' p2' p3' p4' p5' hcv5
        apply cutFor (fun v => Below u6.heap.size u6 v)
        case k =>
          intro key
          go_region_law (refine step_call rfl 35 #[.tmp 66] #[9] rfl #[.string hd] (by first | (simp [Act.eval]; done) | simp [Act.eval, Act.put]) entCl (unhide HCL _) ?_; rintro e1 wx ⟨rfl, hbx⟩; refine ⟨_, rfl, ?_⟩; have hbx6 : Below u6.heap.size u6 wx := ⟨hbx.os, hbx.tape, hbx.output, hbx.size, hbx.block⟩; have hqx := unhide HQ wx hbx6; have hqf := hqx.frozen (4 + 1); obtain ⟨-, -, -, -, q4, q5⟩ := hqx.all; obtain ⟨-, -, -, p3x, -, -⟩ := (unhide HKP wx hbx6).all; have HBX := hide hbx6; clear hbx hbx6 hqx)
          all_goals exact unhide key wx (unhide HBX)
        intro v hv
        obtain ⟨u7, hu7⟩ : ∃ u7, u7 = v.setCell ⟨u5.heap.size, 5, none⟩ (.string hd) := ⟨_, rfl⟩
        have hq7 : isPb u7 u5.heap.size W H (1 - 1) ⟨(l.set t x).toArray⟩ ⟨#[]⟩ hd := by rw [hu7]; exact (unhide HQ v hv).set5 hd
        have hb7 : Below u5.heap.size v u7 := by rw [hu7]; exact (Below.refl _ v).setCell (p := ⟨u5.heap.size, 5, none⟩) (Nat.le_refl _) _
        have hl7 := hq7.lt
        have HQ7 : Hid (∀ y, Below u7.heap.size u7 y → isPb y u5.heap.size W H (1 - 1) ⟨(l.set t x).toArray⟩ ⟨#[]⟩ hd) := hide fun y hy => hq7.below hy hl7
        have HKP7 : Hid (∀ y, Below u7.heap.size u7 y → isPb y (w.heap.size + 1) W H 1 C A B) := hide fun y hy => ((unhide HKP v hv).below hb7 (by omega)).below hy (by omega)
        have HKZ7 : Hid (∀ y, Below u7.heap.size u7 y → isPb y (w.heap.size + 1 + 1 + 1) 0 0 0 ⟨#[]⟩ ⟨#[]⟩ ⟨#[]⟩) := hide fun y hy => ((unhide HKZ v hv).below hb7 (by omega)).below hy (by omega)
        have HKB7 : Hid (∀ y, Below u7.heap.size u7 y → Below w.heap.size w y) := hide fun y hy => ((unhide HKB v hv).trans (hb7.mono (by omega))).trans (hy.mono (by omega))
        rw [← hu7]
        clear hu7 hq7 hb7 hv HQ HKP HKZ HKB HS6 p36 HP5 HZ5 HB5
        obtain ⟨-, -, -, q37, q47, q57⟩ := (unhide HQ7 u7 (Below.refl _ _)).all
        obtain ⟨-, -, -, -, p47, p57⟩ := (unhide HKP7 u7 (Below.refl _ _)).all
        simp only [Int.sub_self] at q37
        go_wp2_with fail
        apply cutFor (fun y => Below u7.heap.size u7 y)
        case k =>
          intro key
          go_region_law (refine step_call rfl 35 #[.tmp 76] #[9] rfl #[.string A] (by first | (simp [Act.eval]; done) | simp [Act.eval, Act.put]) entCl (unhide HCO _) ?_; rintro e1 wx ⟨rfl, hbx⟩; refine ⟨_, rfl, ?_⟩; have hbx6 : Below u7.heap.size u7 wx := ⟨hbx.os, hbx.tape, hbx.output, hbx.size, hbx.block⟩; have hqx := unhide HQ7 wx hbx6; have hqf := hqx.frozen 4; obtain ⟨-, -, -, q3x, q4x, q5x⟩ := hqx.all; simp only [Int.sub_self] at q3x; have HBX := hide hbx6; clear hbx hbx6 hqx)
          all_goals exact unhide key wx (unhide HBX)
        intro v' hv'
        obtain ⟨u9, hu9⟩ : ∃ u9, u9 = v'.setCell ⟨u5.heap.size, 4, none⟩ (.string A) := ⟨_, rfl⟩
        have hq9 : isPb u9 u5.heap.size W H (1 - 1) ⟨(l.set t x).toArray⟩ A hd := by rw [hu9]; exact (unhide HQ7 v' hv').set4 A
        have hb9 : Below u5.heap.size v' u9 := by rw [hu9]; exact (Below.refl _ v').setCell (p := ⟨u5.heap.size, 4, none⟩) (Nat.le_refl _) _
        have hz9 := (unhide HKZ7 v' hv').below hb9 (by omega)
        have HB9 := hide ((unhide HKB7 v' hv').trans (hb9.mono (by omega)))
        rw [← hu9]
        obtain ⟨q0, q1, q2, q3, q4, q5⟩ := hq9.all
        obtain ⟨e0, e1, e2, e3, e4, e5⟩ := hz9.all
        have z0 := hz9.frozen 0
        have z1 := hz9.frozen 1
        have z2 := hz9.frozen 2
        have z3 := hz9.frozen 3
        have z4 := hz9.frozen 4
        have z5 := hz9.frozen 5
        clear hu9 hq9 hb9 hz9 hv' HQ7 HKP7 HKZ7 HKB7 q37 q47 q57 p47 p57 HCL HCO
        simp only [Int.sub_self] at q3
        go_wp2
        refine bodyPost_ret (v := .agg #[.int .i64 (W : Int), .int .i64 (H : Int), .string ⟨(l.set t x).toArray⟩, .int .i64 (1 - 1), .string (fst2 A hd), .string (snd2 A hd)]) (by simp [fst2, snd2, results, Tryz.results145, go_sem, e0, e1, e2, e3, e4, e5]) rfl ⟨?_, below_set6 (by omega) (unhide HB9)⟩
        rw [unhide HX, unhide HFC, ← unhide HFH]
        rfl
      | true =>
        have hcp := Capital_any k.toNat
        rw [(up_andNot k.toNat (UInt8.toNat_lt k)).1, ← u8_back (up_andNot k.toNat (UInt8.toNat_lt k)).2] at hcp
        have HCP := hide hcp
        have HWI := hide (fun y => withL_any hd (upN k.toNat).toUInt8 y (unhide HH8))
        clear hcp
        have HFH0 : Hid ((⟨(withL hd.data.toList (upN k.toNat).toUInt8).toArray⟩ : ByteArray) = ⟨(behH C.data.toList B.data.toList true f t c).toArray⟩) := by
          refine hide ?_
          unfold behH handB'
          have e : handA B.data.toList f c = hd.data.toList := (congrArg (fun z : ByteArray => z.data.toList) (unhide HHD)).symm
          rw [unhide HKK, if_pos ⟨h46, rfl⟩, e]
        have HH8' : Hid ((⟨(withL hd.data.toList (upN k.toNat).toUInt8).toArray⟩ : ByteArray).size ≤ 8) := hide (withL_len (unhide HH8))
        clear h46
        go_wp2_with fail
        refine (unhide HCP _).mono ?_
        rintro e u' ⟨rfl, hu'⟩
        rw [hu']
        clear hu'
        go_wp2_with fail
        refine (unhide HWI _).mono ?_
        rintro e u ⟨rfl, hb1⟩
        clear ct ft HCP HWI HHD
        have hPn := (unhide HPB).below hb1 (unhide HPB).lt
        have hRn := (unhide HRU).below hb1 (unhide HRU).lt
        have hMn := (unhide HMB).below hb1 (unhide HMB).lt
        have hZn := (unhide HZB).below hb1 (unhide HZB).lt
        have hOn := (unhide HRO).below hb1 (unhide HRO).lt
        have hBn := (unhide HBW).trans (hb1.mono (unhide HBW).size)
        have hSn := Nat.le_trans hs4 hb1.size
        clear HPB HRU HMB HZB HRO HBW hs4 hb1 p0 p1 p2 p3 p4 p5 r7 m0 m1 m2
        have hs4 := hSn
        clear hSn
        have HPB := hide hPn
        have HRU := hide hRn
        have HMB := hide hMn
        have HZB := hide hZn
        have HRO := hide hOn
        have HBW := hide hBn
        obtain ⟨p0, p1, p2, p3, p4, p5⟩ := hPn.all
        obtain ⟨-, -, -, -, -, -, -, r7, -, -, -, -, -⟩ := hRn.cells
        obtain ⟨m0, m1, m2⟩ := hMn.all
        clear hPn hRn hMn hZn hOn hBn
        have ct := (unhide HRO).cell t hlt
        have ft := (unhide HRO).frozen t hlt
        obtain ⟨hd, hhd⟩ : ∃ hd' : ByteArray, hd' = ⟨(withL hd.data.toList (upN k.toNat).toUInt8).toArray⟩ := ⟨_, rfl⟩
        rw [← hhd]
        rw [← hhd] at HFH0 HH8'
        clear hhd HH8
        have HH8 := HH8'
        have HFH := HFH0
        clear HH8' HFH0
        have hx8 : letN 1 c.toNat < 256 := letN_lt' 1 c
        obtain ⟨x, hx⟩ : ∃ x : UInt8, x = (letN 1 c.toNat).toUInt8 := ⟨_, rfl⟩
        have hxn : letN 1 c.toNat = x.toNat := by rw [hx]; exact (u8_back hx8).symm
        have HLO := hide (fun y => LetterOf_any 1 c.toNat y (by omega) (UInt8.toNat_lt c))
        rw [hxn] at HLO
        have hs5 : (l.set t x).length = C.size := by rw [List.length_set]; exact unhide HLL
        have HX := hide hx
        clear hx hxn hx8
        have hP5 := (unhide HPB)
        obtain ⟨u5, hu5⟩ : ∃ u5, u5 = (u.setCell ⟨w.heap.size + 1 + 1 + 1 + 1, t, none⟩ (.int .u8 (x.toNat : Int))).drew := ⟨_, rfl⟩
        have hRO5 : RowB u5 (w.heap.size + 1 + 1 + 1 + 1) (l.set t x) := by rw [hu5]; exact RowB.set (unhide HRO) t x
        have hb5 : Below (w.heap.size + 1 + 1 + 1 + 1) u u5 := by rw [hu5]; exact ((Below.refl _ u).setCell (p := ⟨w.heap.size + 1 + 1 + 1 + 1, t, none⟩) (Nat.le_refl _) _).drew
        have hz5 : w.heap.size + 1 + 1 + 1 + 1 + 1 ≤ u5.heap.size := Nat.le_trans hs4 hb5.size
        have hP5 := (unhide HPB).below hb5 (by omega)
        have hZ5 := (unhide HZB).below hb5 (by omega)
        have hB5 := (unhide HBW).trans (hb5.mono (by omega))
        have hcv5 := RowB.conv (cap := cap) hRO5 (hide hs5)
        go_wp2_with fail
        apply cutBy
        case k =>
          intro key
          go_region_law (refine step_call rfl 158 #[.tmp 49, .tmp 51] #[3, 5] rfl #[.int .i64 1, .int .u8 (c.toNat : Int)] (by first | (simp [Act.eval]; done) | simp [Act.eval, Act.put]) entLet (unhide HLO _) ?_; rintro e1 wx ⟨rfl, rfl⟩; refine ⟨_, rfl, ?_⟩)
          all_goals exact unhide key
        rw [← hu5]
        have HP5 := hide hP5
        have HZ5 := hide hZ5
        have HB5 := hide hB5
        obtain ⟨p0', p1', p2', p3', p4', p5'⟩ := hP5.all
        clear hu5 hRO5 hb5 hP5 hZ5 hB5 HPB HZB HBW HMB HRU HRO p0 p1 p2 p3 p4 p5 r7 m0 m1 m2 ct ft HLO
        have hq5 : isPb (u5.alloc (.cells #[.int .i64 (W : Int), .int .i64 (H : Int), .string ⟨(l.set t x).toArray⟩, .int .i64 (1 - 1), .string ⟨#[]⟩, .string ⟨#[]⟩] 24 (0, 0))) u5.heap.size W H (1 - 1) ⟨(l.set t x).toArray⟩ ⟨#[]⟩ ⟨#[]⟩ := heap_alloc_new u5 _
        obtain ⟨u6, hu6⟩ : ∃ u6, u6 = u5.alloc (.cells #[.int .i64 (W : Int), .int .i64 (H : Int), .string ⟨(l.set t x).toArray⟩, .int .i64 (1 - 1), .string ⟨#[]⟩, .string ⟨#[]⟩] 24 (0, 0)) := ⟨_, rfl⟩
        rw [← hu6] at hq5
        have hb6 : Below u5.heap.size u5 u6 := by rw [hu6]; exact (Below.refl _ _).alloc (Nat.le_refl _) _
        have hs6 : u6.heap.size = u5.heap.size + 1 := by rw [hu6]; simp
        have HQ : Hid (∀ v, Below u6.heap.size u6 v → isPb v u5.heap.size W H (1 - 1) ⟨(l.set t x).toArray⟩ ⟨#[]⟩ ⟨#[]⟩) := hide fun v hv => hq5.below hv (by omega)
        have HKP : Hid (∀ v, Below u6.heap.size u6 v → isPb v (w.heap.size + 1) W H 1 C A B) := hide fun v hv => ((unhide HP5).below hb6 (by omega)).below hv (by omega)
        have HKZ : Hid (∀ v, Below u6.heap.size u6 v → isPb v (w.heap.size + 1 + 1 + 1) 0 0 0 ⟨#[]⟩ ⟨#[]⟩ ⟨#[]⟩) := hide fun v hv => ((unhide HZ5).below hb6 (by omega)).below hv (by omega)
        have HKB : Hid (∀ v, Below u6.heap.size u6 v → Below w.heap.size w v) := hide fun v hv => ((unhide HB5).trans (hb6.mono (by omega))).trans (hv.mono (by omega))
        have HHS : Hid (hd.size ≤ maxLen ∧ hd.size ≤ 140737488355328) := hide (by have := unhide HH8; unfold maxLen; omega)
        have HCL := hide (fun y => Clone_any hd y (unhide HHS).1 (unhide HHS).2)
        have HCO := hide (fun y => Clone_any A y (unhide HOS).1 (unhide HOS).2)
        have HS6 := hide hs6
        go_wp2_with fail
        simp only [Int.sub_self] at hu6
        rw [← hu6]
        have hp6 := unhide HKP u6 (Below.refl _ _)
        obtain ⟨-, -, -, p36, -, -⟩ := hp6.all
        clear hu6 hq5 hb6 hs6 hp6 p0' p1' p2' p3' p4' p5' hcv5
        apply cutFor (fun v => Below u6.heap.size u6 v)
        case k =>
          intro key
          go_region_law (refine step_call rfl 35 #[.tmp 66] #[9] rfl #[.string hd] (by first | (simp [Act.eval]; done) | simp [Act.eval, Act.put]) entCl (unhide HCL _) ?_; rintro e1 wx ⟨rfl, hbx⟩; refine ⟨_, rfl, ?_⟩; have hbx6 : Below u6.heap.size u6 wx := ⟨hbx.os, hbx.tape, hbx.output, hbx.size, hbx.block⟩; have hqx := unhide HQ wx hbx6; have hqf := hqx.frozen (4 + 1); obtain ⟨-, -, -, -, q4, q5⟩ := hqx.all; obtain ⟨-, -, -, p3x, -, -⟩ := (unhide HKP wx hbx6).all; have HBX := hide hbx6; clear hbx hbx6 hqx)
          all_goals exact unhide key wx (unhide HBX)
        intro v hv
        obtain ⟨u7, hu7⟩ : ∃ u7, u7 = v.setCell ⟨u5.heap.size, 5, none⟩ (.string hd) := ⟨_, rfl⟩
        have hq7 : isPb u7 u5.heap.size W H (1 - 1) ⟨(l.set t x).toArray⟩ ⟨#[]⟩ hd := by rw [hu7]; exact (unhide HQ v hv).set5 hd
        have hb7 : Below u5.heap.size v u7 := by rw [hu7]; exact (Below.refl _ v).setCell (p := ⟨u5.heap.size, 5, none⟩) (Nat.le_refl _) _
        have hl7 := hq7.lt
        have HQ7 : Hid (∀ y, Below u7.heap.size u7 y → isPb y u5.heap.size W H (1 - 1) ⟨(l.set t x).toArray⟩ ⟨#[]⟩ hd) := hide fun y hy => hq7.below hy hl7
        have HKP7 : Hid (∀ y, Below u7.heap.size u7 y → isPb y (w.heap.size + 1) W H 1 C A B) := hide fun y hy => ((unhide HKP v hv).below hb7 (by omega)).below hy (by omega)
        have HKZ7 : Hid (∀ y, Below u7.heap.size u7 y → isPb y (w.heap.size + 1 + 1 + 1) 0 0 0 ⟨#[]⟩ ⟨#[]⟩ ⟨#[]⟩) := hide fun y hy => ((unhide HKZ v hv).below hb7 (by omega)).below hy (by omega)
        have HKB7 : Hid (∀ y, Below u7.heap.size u7 y → Below w.heap.size w y) := hide fun y hy => ((unhide HKB v hv).trans (hb7.mono (by omega))).trans (hy.mono (by omega))
        rw [← hu7]
        clear hu7 hq7 hb7 hv HQ HKP HKZ HKB HS6 p36 HP5 HZ5 HB5
        obtain ⟨-, -, -, q37, q47, q57⟩ := (unhide HQ7 u7 (Below.refl _ _)).all
        obtain ⟨-, -, -, -, p47, p57⟩ := (unhide HKP7 u7 (Below.refl _ _)).all
        simp only [Int.sub_self] at q37
        go_wp2_with fail
        apply cutFor (fun y => Below u7.heap.size u7 y)
        case k =>
          intro key
          go_region_law (refine step_call rfl 35 #[.tmp 76] #[9] rfl #[.string A] (by first | (simp [Act.eval]; done) | simp [Act.eval, Act.put]) entCl (unhide HCO _) ?_; rintro e1 wx ⟨rfl, hbx⟩; refine ⟨_, rfl, ?_⟩; have hbx6 : Below u7.heap.size u7 wx := ⟨hbx.os, hbx.tape, hbx.output, hbx.size, hbx.block⟩; have hqx := unhide HQ7 wx hbx6; have hqf := hqx.frozen 4; obtain ⟨-, -, -, q3x, q4x, q5x⟩ := hqx.all; simp only [Int.sub_self] at q3x; have HBX := hide hbx6; clear hbx hbx6 hqx)
          all_goals exact unhide key wx (unhide HBX)
        intro v' hv'
        obtain ⟨u9, hu9⟩ : ∃ u9, u9 = v'.setCell ⟨u5.heap.size, 4, none⟩ (.string A) := ⟨_, rfl⟩
        have hq9 : isPb u9 u5.heap.size W H (1 - 1) ⟨(l.set t x).toArray⟩ A hd := by rw [hu9]; exact (unhide HQ7 v' hv').set4 A
        have hb9 : Below u5.heap.size v' u9 := by rw [hu9]; exact (Below.refl _ v').setCell (p := ⟨u5.heap.size, 4, none⟩) (Nat.le_refl _) _
        have hz9 := (unhide HKZ7 v' hv').below hb9 (by omega)
        have HB9 := hide ((unhide HKB7 v' hv').trans (hb9.mono (by omega)))
        rw [← hu9]
        obtain ⟨q0, q1, q2, q3, q4, q5⟩ := hq9.all
        obtain ⟨e0, e1, e2, e3, e4, e5⟩ := hz9.all
        have z0 := hz9.frozen 0
        have z1 := hz9.frozen 1
        have z2 := hz9.frozen 2
        have z3 := hz9.frozen 3
        have z4 := hz9.frozen 4
        have z5 := hz9.frozen 5
        clear hu9 hq9 hb9 hz9 hv' HQ7 HKP7 HKZ7 HKB7 q37 q47 q57 p47 p57 HCL HCO
        simp only [Int.sub_self] at q3
        go_wp2
        refine bodyPost_ret (v := .agg #[.int .i64 (W : Int), .int .i64 (H : Int), .string ⟨(l.set t x).toArray⟩, .int .i64 (1 - 1), .string (fst2 A hd), .string (snd2 A hd)]) (by simp [fst2, snd2, results, Tryz.results145, go_sem, e0, e1, e2, e3, e4, e5]) rfl ⟨?_, below_set6 (by omega) (unhide HB9)⟩
        rw [unhide HX, unhide HFC, ← unhide HFH]
        rfl
  · have hf0 : 0 ≤ f := by omega
    have hfi : f < (C.size : Int) := by omega
    have hF : f.toNat < C.size := by omega
    have hfb : (f == -1) = false := by simp [hf1]
    have cF := (unhide HRO).cell f.toNat (by rw [unhide HLC]; exact hF)
    have fF := (unhide HRO).frozen f.toNat (by rw [unhide HLC]; exact hF)
    have HF1 := hide hf1
    obtain ⟨u, hu⟩ : ∃ u, u = w4.setCell ⟨w.heap.size + 1 + 1 + 1 + 1, f.toNat, none⟩ (.int .u8 46) := ⟨_, rfl⟩
    have hro : RowB u (w.heap.size + 1 + 1 + 1 + 1) (C.data.toList.set f.toNat 46) := by rw [hu]; exact RowB.set (unhide HRO) f.toNat 46
    have hbu : Below (w.heap.size + 1 + 1 + 1 + 1) w4 u := by rw [hu]; exact (Below.refl _ w4).setCell (p := ⟨w.heap.size + 1 + 1 + 1 + 1, f.toNat, none⟩) (Nat.le_refl _) _
    have hPn := (unhide HPB).below hbu (by omega)
    have hRn := (unhide HRU).below hbu (by omega)
    have hMn := (unhide HMB).below hbu (by omega)
    have hZn := (unhide HZB).below hbu (by omega)
    have hBn := (unhide HBW).trans (hbu.mono (by omega))
    have hSn := Nat.le_trans hs4 hbu.size
    clear hf hf1 HWO
    go_enter Tryz.func145, Tryz.ntmps145
    go_upto_region 6 with fail
    rw [← hu]
    clear hu hcv cF fF hbu HPB HRU HMB HZB HBW HRO hs4 p0 p1 p2 p3 p4 p5 r7 m0 m1 m2
    have hs4 := hSn
    have HPB := hide hPn
    have HRU := hide hRn
    have HMB := hide hMn
    have HZB := hide hZn
    have HBW := hide hBn
    obtain ⟨p0, p1, p2, p3, p4, p5⟩ := hPn.all
    obtain ⟨-, -, -, -, -, -, -, r7, -, -, -, -, -⟩ := hRn.cells
    obtain ⟨m0, m1, m2⟩ := hMn.all
    clear hPn hRn hMn hZn hBn hSn
    obtain ⟨l, hl⟩ : ∃ l, l = C.data.toList.set f.toNat 46 := ⟨_, rfl⟩
    rw [← hl] at hro
    have HRO := hide hro
    have HLL : Hid (l.length = C.size) := hide (by rw [hl, List.length_set]; exact unhide HLC)
    have HFC : Hid (l = cellsA C.data.toList f) := hide (by rw [hl]; unfold cellsA; rw [if_neg (unhide HF1)])
    have HHD : Hid (B = ⟨(handA B.data.toList f c).toArray⟩) := hide (by unfold handA; rw [if_neg (unhide HF1)])
    have HH8 : Hid (B.size ≤ 8) := hide (by assumption)
    clear hl hro hf0 hfi hF
    have hlt : t < l.length := by rw [unhide HLL]; exact ht
    have ct := (unhide HRO).cell t hlt
    have ft := (unhide HRO).frozen t hlt
    obtain ⟨k, hk⟩ : ∃ k, k = l[t] := ⟨_, rfl⟩
    rw [← hk] at ct
    have HKK : Hid ((cellsA C.data.toList f)[t]! = k) := hide (by rw [← unhide HFC, hk]; exact getElem!_pos l t hlt)
    clear hk
    by_cases h46 : k = 46
    · have hb46 : ((k.toNat : Int) != 46) = false := by rw [h46]; rfl
      have HFH : Hid (B = ⟨(behH C.data.toList B.data.toList dr f t c).toArray⟩) := by
        refine hide ?_
        unfold behH handB'
        rw [unhide HKK, if_neg (by simp [h46])]
        exact unhide HHD
      clear h46
      have hx8 : letN 1 c.toNat < 256 := letN_lt' 1 c
      obtain ⟨x, hx⟩ : ∃ x : UInt8, x = (letN 1 c.toNat).toUInt8 := ⟨_, rfl⟩
      have hxn : letN 1 c.toNat = x.toNat := by rw [hx]; exact (u8_back hx8).symm
      have HLO := hide (fun y => LetterOf_any 1 c.toNat y (by omega) (UInt8.toNat_lt c))
      rw [hxn] at HLO
      have hs5 : (l.set t x).length = C.size := by rw [List.length_set]; exact unhide HLL
      have HX := hide hx
      clear hx hxn hx8
      have hP5 := (unhide HPB)
      obtain ⟨u5, hu5⟩ : ∃ u5, u5 = (u.setCell ⟨w.heap.size + 1 + 1 + 1 + 1, t, none⟩ (.int .u8 (x.toNat : Int))).drew := ⟨_, rfl⟩
      have hRO5 : RowB u5 (w.heap.size + 1 + 1 + 1 + 1) (l.set t x) := by rw [hu5]; exact RowB.set (unhide HRO) t x
      have hb5 : Below (w.heap.size + 1 + 1 + 1 + 1) u u5 := by rw [hu5]; exact ((Below.refl _ u).setCell (p := ⟨w.heap.size + 1 + 1 + 1 + 1, t, none⟩) (Nat.le_refl _) _).drew
      have hz5 : w.heap.size + 1 + 1 + 1 + 1 + 1 ≤ u5.heap.size := Nat.le_trans hs4 hb5.size
      have hP5 := (unhide HPB).below hb5 (by omega)
      have hZ5 := (unhide HZB).below hb5 (by omega)
      have hB5 := (unhide HBW).trans (hb5.mono (by omega))
      have hcv5 := RowB.conv (cap := cap) hRO5 (hide hs5)
      go_wp2_with fail
      apply cutBy
      case k =>
        intro key
        go_region_law (refine step_call rfl 158 #[.tmp 49, .tmp 51] #[3, 5] rfl #[.int .i64 1, .int .u8 (c.toNat : Int)] (by first | (simp [Act.eval]; done) | simp [Act.eval, Act.put]) entLet (unhide HLO _) ?_; rintro e1 wx ⟨rfl, rfl⟩; refine ⟨_, rfl, ?_⟩)
        all_goals exact unhide key
      rw [← hu5]
      have HP5 := hide hP5
      have HZ5 := hide hZ5
      have HB5 := hide hB5
      obtain ⟨p0', p1', p2', p3', p4', p5'⟩ := hP5.all
      clear hu5 hRO5 hb5 hP5 hZ5 hB5 HPB HZB HBW HMB HRU HRO p0 p1 p2 p3 p4 p5 r7 m0 m1 m2 ct ft HLO
      have hq5 : isPb (u5.alloc (.cells #[.int .i64 (W : Int), .int .i64 (H : Int), .string ⟨(l.set t x).toArray⟩, .int .i64 (1 - 1), .string ⟨#[]⟩, .string ⟨#[]⟩] 24 (0, 0))) u5.heap.size W H (1 - 1) ⟨(l.set t x).toArray⟩ ⟨#[]⟩ ⟨#[]⟩ := heap_alloc_new u5 _
      obtain ⟨u6, hu6⟩ : ∃ u6, u6 = u5.alloc (.cells #[.int .i64 (W : Int), .int .i64 (H : Int), .string ⟨(l.set t x).toArray⟩, .int .i64 (1 - 1), .string ⟨#[]⟩, .string ⟨#[]⟩] 24 (0, 0)) := ⟨_, rfl⟩
      rw [← hu6] at hq5
      have hb6 : Below u5.heap.size u5 u6 := by rw [hu6]; exact (Below.refl _ _).alloc (Nat.le_refl _) _
      have hs6 : u6.heap.size = u5.heap.size + 1 := by rw [hu6]; simp
      have HQ : Hid (∀ v, Below u6.heap.size u6 v → isPb v u5.heap.size W H (1 - 1) ⟨(l.set t x).toArray⟩ ⟨#[]⟩ ⟨#[]⟩) := hide fun v hv => hq5.below hv (by omega)
      have HKP : Hid (∀ v, Below u6.heap.size u6 v → isPb v (w.heap.size + 1) W H 1 C A B) := hide fun v hv => ((unhide HP5).below hb6 (by omega)).below hv (by omega)
      have HKZ : Hid (∀ v, Below u6.heap.size u6 v → isPb v (w.heap.size + 1 + 1 + 1) 0 0 0 ⟨#[]⟩ ⟨#[]⟩ ⟨#[]⟩) := hide fun v hv => ((unhide HZ5).below hb6 (by omega)).below hv (by omega)
      have HKB : Hid (∀ v, Below u6.heap.size u6 v → Below w.heap.size w v) := hide fun v hv => ((unhide HB5).trans (hb6.mono (by omega))).trans (hv.mono (by omega))
      have HHS : Hid (B.size ≤ maxLen ∧ B.size ≤ 140737488355328) := hide (by have := unhide HH8; unfold maxLen; omega)
      have HCL := hide (fun y => Clone_any B y (unhide HHS).1 (unhide HHS).2)
      have HCO := hide (fun y => Clone_any A y (unhide HOS).1 (unhide HOS).2)
      have HS6 := hide hs6
      go_wp2_with fail
      simp only [Int.sub_self] at hu6
      rw [← hu6]
      have hp6 := unhide HKP u6 (Below.refl _ _)
      obtain ⟨-, -, -, p36, -, -⟩ := hp6.all
      clear hu6 hq5 hb6 hs6 hp6 p0' p1' p2' p3' p4' p5' hcv5
      apply cutFor (fun v => Below u6.heap.size u6 v)
      case k =>
        intro key
        go_region_law (refine step_call rfl 35 #[.tmp 66] #[9] rfl #[.string B] (by first | (simp [Act.eval]; done) | simp [Act.eval, Act.put]) entCl (unhide HCL _) ?_; rintro e1 wx ⟨rfl, hbx⟩; refine ⟨_, rfl, ?_⟩; have hbx6 : Below u6.heap.size u6 wx := ⟨hbx.os, hbx.tape, hbx.output, hbx.size, hbx.block⟩; have hqx := unhide HQ wx hbx6; have hqf := hqx.frozen (4 + 1); obtain ⟨-, -, -, -, q4, q5⟩ := hqx.all; obtain ⟨-, -, -, p3x, -, -⟩ := (unhide HKP wx hbx6).all; have HBX := hide hbx6; clear hbx hbx6 hqx)
        all_goals exact unhide key wx (unhide HBX)
      intro v hv
      obtain ⟨u7, hu7⟩ : ∃ u7, u7 = v.setCell ⟨u5.heap.size, 5, none⟩ (.string B) := ⟨_, rfl⟩
      have hq7 : isPb u7 u5.heap.size W H (1 - 1) ⟨(l.set t x).toArray⟩ ⟨#[]⟩ B := by rw [hu7]; exact (unhide HQ v hv).set5 B
      have hb7 : Below u5.heap.size v u7 := by rw [hu7]; exact (Below.refl _ v).setCell (p := ⟨u5.heap.size, 5, none⟩) (Nat.le_refl _) _
      have hl7 := hq7.lt
      have HQ7 : Hid (∀ y, Below u7.heap.size u7 y → isPb y u5.heap.size W H (1 - 1) ⟨(l.set t x).toArray⟩ ⟨#[]⟩ B) := hide fun y hy => hq7.below hy hl7
      have HKP7 : Hid (∀ y, Below u7.heap.size u7 y → isPb y (w.heap.size + 1) W H 1 C A B) := hide fun y hy => ((unhide HKP v hv).below hb7 (by omega)).below hy (by omega)
      have HKZ7 : Hid (∀ y, Below u7.heap.size u7 y → isPb y (w.heap.size + 1 + 1 + 1) 0 0 0 ⟨#[]⟩ ⟨#[]⟩ ⟨#[]⟩) := hide fun y hy => ((unhide HKZ v hv).below hb7 (by omega)).below hy (by omega)
      have HKB7 : Hid (∀ y, Below u7.heap.size u7 y → Below w.heap.size w y) := hide fun y hy => ((unhide HKB v hv).trans (hb7.mono (by omega))).trans (hy.mono (by omega))
      rw [← hu7]
      clear hu7 hq7 hb7 hv HQ HKP HKZ HKB HS6 p36 HP5 HZ5 HB5
      obtain ⟨-, -, -, q37, q47, q57⟩ := (unhide HQ7 u7 (Below.refl _ _)).all
      obtain ⟨-, -, -, -, p47, p57⟩ := (unhide HKP7 u7 (Below.refl _ _)).all
      simp only [Int.sub_self] at q37
      go_wp2_with fail
      apply cutFor (fun y => Below u7.heap.size u7 y)
      case k =>
        intro key
        go_region_law (refine step_call rfl 35 #[.tmp 76] #[9] rfl #[.string A] (by first | (simp [Act.eval]; done) | simp [Act.eval, Act.put]) entCl (unhide HCO _) ?_; rintro e1 wx ⟨rfl, hbx⟩; refine ⟨_, rfl, ?_⟩; have hbx6 : Below u7.heap.size u7 wx := ⟨hbx.os, hbx.tape, hbx.output, hbx.size, hbx.block⟩; have hqx := unhide HQ7 wx hbx6; have hqf := hqx.frozen 4; obtain ⟨-, -, -, q3x, q4x, q5x⟩ := hqx.all; simp only [Int.sub_self] at q3x; have HBX := hide hbx6; clear hbx hbx6 hqx)
        all_goals exact unhide key wx (unhide HBX)
      intro v' hv'
      obtain ⟨u9, hu9⟩ : ∃ u9, u9 = v'.setCell ⟨u5.heap.size, 4, none⟩ (.string A) := ⟨_, rfl⟩
      have hq9 : isPb u9 u5.heap.size W H (1 - 1) ⟨(l.set t x).toArray⟩ A B := by rw [hu9]; exact (unhide HQ7 v' hv').set4 A
      have hb9 : Below u5.heap.size v' u9 := by rw [hu9]; exact (Below.refl _ v').setCell (p := ⟨u5.heap.size, 4, none⟩) (Nat.le_refl _) _
      have hz9 := (unhide HKZ7 v' hv').below hb9 (by omega)
      have HB9 := hide ((unhide HKB7 v' hv').trans (hb9.mono (by omega)))
      rw [← hu9]
      obtain ⟨q0, q1, q2, q3, q4, q5⟩ := hq9.all
      obtain ⟨e0, e1, e2, e3, e4, e5⟩ := hz9.all
      have z0 := hz9.frozen 0
      have z1 := hz9.frozen 1
      have z2 := hz9.frozen 2
      have z3 := hz9.frozen 3
      have z4 := hz9.frozen 4
      have z5 := hz9.frozen 5
      clear hu9 hq9 hb9 hz9 hv' HQ7 HKP7 HKZ7 HKB7 q37 q47 q57 p47 p57 HCL HCO
      simp only [Int.sub_self] at q3
      go_wp2
      refine bodyPost_ret (v := .agg #[.int .i64 (W : Int), .int .i64 (H : Int), .string ⟨(l.set t x).toArray⟩, .int .i64 (1 - 1), .string (fst2 A B), .string (snd2 A B)]) (by simp [fst2, snd2, results, Tryz.results145, go_sem, e0, e1, e2, e3, e4, e5]) rfl ⟨?_, below_set6 (by omega) (unhide HB9)⟩
      rw [unhide HX, unhide HFC, ← unhide HFH]
      rfl
    · have hb46 : ((k.toNat : Int) != 46) = true := by
        simp only [bne_iff_ne, ne_eq]
        intro e
        exact h46 (UInt8.toNat_inj.1 (by have : (46 : UInt8).toNat = 46 := rfl; omega))
      cases dr with
      | false =>
        have HFH : Hid (B = ⟨(behH C.data.toList B.data.toList false f t c).toArray⟩) := by
          refine hide ?_
          unfold behH handB'
          rw [if_neg (by simp)]
          exact unhide HHD
        clear h46
        have hx8 : letN 1 c.toNat < 256 := letN_lt' 1 c
        obtain ⟨x, hx⟩ : ∃ x : UInt8, x = (letN 1 c.toNat).toUInt8 := ⟨_, rfl⟩
        have hxn : letN 1 c.toNat = x.toNat := by rw [hx]; exact (u8_back hx8).symm
        have HLO := hide (fun y => LetterOf_any 1 c.toNat y (by omega) (UInt8.toNat_lt c))
        rw [hxn] at HLO
        have hs5 : (l.set t x).length = C.size := by rw [List.length_set]; exact unhide HLL
        have HX := hide hx
        clear hx hxn hx8
        have hP5 := (unhide HPB)
        obtain ⟨u5, hu5⟩ : ∃ u5, u5 = (u.setCell ⟨w.heap.size + 1 + 1 + 1 + 1, t, none⟩ (.int .u8 (x.toNat : Int))).drew := ⟨_, rfl⟩
        have hRO5 : RowB u5 (w.heap.size + 1 + 1 + 1 + 1) (l.set t x) := by rw [hu5]; exact RowB.set (unhide HRO) t x
        have hb5 : Below (w.heap.size + 1 + 1 + 1 + 1) u u5 := by rw [hu5]; exact ((Below.refl _ u).setCell (p := ⟨w.heap.size + 1 + 1 + 1 + 1, t, none⟩) (Nat.le_refl _) _).drew
        have hz5 : w.heap.size + 1 + 1 + 1 + 1 + 1 ≤ u5.heap.size := Nat.le_trans hs4 hb5.size
        have hP5 := (unhide HPB).below hb5 (by omega)
        have hZ5 := (unhide HZB).below hb5 (by omega)
        have hB5 := (unhide HBW).trans (hb5.mono (by omega))
        have hcv5 := RowB.conv (cap := cap) hRO5 (hide hs5)
        go_wp2_with fail
        apply cutBy
        case k =>
          intro key
          go_region_law (refine step_call rfl 158 #[.tmp 49, .tmp 51] #[3, 5] rfl #[.int .i64 1, .int .u8 (c.toNat : Int)] (by first | (simp [Act.eval]; done) | simp [Act.eval, Act.put]) entLet (unhide HLO _) ?_; rintro e1 wx ⟨rfl, rfl⟩; refine ⟨_, rfl, ?_⟩)
          all_goals exact unhide key
        rw [← hu5]
        have HP5 := hide hP5
        have HZ5 := hide hZ5
        have HB5 := hide hB5
        obtain ⟨p0', p1', p2', p3', p4', p5'⟩ := hP5.all
        clear hu5 hRO5 hb5 hP5 hZ5 hB5 HPB HZB HBW HMB HRU HRO p0 p1 p2 p3 p4 p5 r7 m0 m1 m2 ct ft HLO
        have hq5 : isPb (u5.alloc (.cells #[.int .i64 (W : Int), .int .i64 (H : Int), .string ⟨(l.set t x).toArray⟩, .int .i64 (1 - 1), .string ⟨#[]⟩, .string ⟨#[]⟩] 24 (0, 0))) u5.heap.size W H (1 - 1) ⟨(l.set t x).toArray⟩ ⟨#[]⟩ ⟨#[]⟩ := heap_alloc_new u5 _
        obtain ⟨u6, hu6⟩ : ∃ u6, u6 = u5.alloc (.cells #[.int .i64 (W : Int), .int .i64 (H : Int), .string ⟨(l.set t x).toArray⟩, .int .i64 (1 - 1), .string ⟨#[]⟩, .string ⟨#[]⟩] 24 (0, 0)) := ⟨_, rfl⟩
        rw [← hu6] at hq5
        have hb6 : Below u5.heap.size u5 u6 := by rw [hu6]; exact (Below.refl _ _).alloc (Nat.le_refl _) _
        have hs6 : u6.heap.size = u5.heap.size + 1 := by rw [hu6]; simp
        have HQ : Hid (∀ v, Below u6.heap.size u6 v → isPb v u5.heap.size W H (1 - 1) ⟨(l.set t x).toArray⟩ ⟨#[]⟩ ⟨#[]⟩) := hide fun v hv => hq5.below hv (by omega)
        have HKP : Hid (∀ v, Below u6.heap.size u6 v → isPb v (w.heap.size + 1) W H 1 C A B) := hide fun v hv => ((unhide HP5).below hb6 (by omega)).below hv (by omega)
        have HKZ : Hid (∀ v, Below u6.heap.size u6 v → isPb v (w.heap.size + 1 + 1 + 1) 0 0 0 ⟨#[]⟩ ⟨#[]⟩ ⟨#[]⟩) := hide fun v hv => ((unhide HZ5).below hb6 (by omega)).below hv (by omega)
        have HKB : Hid (∀ v, Below u6.heap.size u6 v → Below w.heap.size w v) := hide fun v hv => ((unhide HB5).trans (hb6.mono (by omega))).trans (hv.mono (by omega))
        have HHS : Hid (B.size ≤ maxLen ∧ B.size ≤ 140737488355328) := hide (by have := unhide HH8; unfold maxLen; omega)
        have HCL := hide (fun y => Clone_any B y (unhide HHS).1 (unhide HHS).2)
        have HCO := hide (fun y => Clone_any A y (unhide HOS).1 (unhide HOS).2)
        have HS6 := hide hs6
        go_wp2_with fail
        simp only [Int.sub_self] at hu6
        rw [← hu6]
        have hp6 := unhide HKP u6 (Below.refl _ _)
        obtain ⟨-, -, -, p36, -, -⟩ := hp6.all
        clear hu6 hq5 hb6 hs6 hp6 p0' p1' p2' p3' p4' p5' hcv5
        apply cutFor (fun v => Below u6.heap.size u6 v)
        case k =>
          intro key
          go_region_law (refine step_call rfl 35 #[.tmp 66] #[9] rfl #[.string B] (by first | (simp [Act.eval]; done) | simp [Act.eval, Act.put]) entCl (unhide HCL _) ?_; rintro e1 wx ⟨rfl, hbx⟩; refine ⟨_, rfl, ?_⟩; have hbx6 : Below u6.heap.size u6 wx := ⟨hbx.os, hbx.tape, hbx.output, hbx.size, hbx.block⟩; have hqx := unhide HQ wx hbx6; have hqf := hqx.frozen (4 + 1); obtain ⟨-, -, -, -, q4, q5⟩ := hqx.all; obtain ⟨-, -, -, p3x, -, -⟩ := (unhide HKP wx hbx6).all; have HBX := hide hbx6; clear hbx hbx6 hqx)
          all_goals exact unhide key wx (unhide HBX)
        intro v hv
        obtain ⟨u7, hu7⟩ : ∃ u7, u7 = v.setCell ⟨u5.heap.size, 5, none⟩ (.string B) := ⟨_, rfl⟩
        have hq7 : isPb u7 u5.heap.size W H (1 - 1) ⟨(l.set t x).toArray⟩ ⟨#[]⟩ B := by rw [hu7]; exact (unhide HQ v hv).set5 B
        have hb7 : Below u5.heap.size v u7 := by rw [hu7]; exact (Below.refl _ v).setCell (p := ⟨u5.heap.size, 5, none⟩) (Nat.le_refl _) _
        have hl7 := hq7.lt
        have HQ7 : Hid (∀ y, Below u7.heap.size u7 y → isPb y u5.heap.size W H (1 - 1) ⟨(l.set t x).toArray⟩ ⟨#[]⟩ B) := hide fun y hy => hq7.below hy hl7
        have HKP7 : Hid (∀ y, Below u7.heap.size u7 y → isPb y (w.heap.size + 1) W H 1 C A B) := hide fun y hy => ((unhide HKP v hv).below hb7 (by omega)).below hy (by omega)
        have HKZ7 : Hid (∀ y, Below u7.heap.size u7 y → isPb y (w.heap.size + 1 + 1 + 1) 0 0 0 ⟨#[]⟩ ⟨#[]⟩ ⟨#[]⟩) := hide fun y hy => ((unhide HKZ v hv).below hb7 (by omega)).below hy (by omega)
        have HKB7 : Hid (∀ y, Below u7.heap.size u7 y → Below w.heap.size w y) := hide fun y hy => ((unhide HKB v hv).trans (hb7.mono (by omega))).trans (hy.mono (by omega))
        rw [← hu7]
        clear hu7 hq7 hb7 hv HQ HKP HKZ HKB HS6 p36 HP5 HZ5 HB5
        obtain ⟨-, -, -, q37, q47, q57⟩ := (unhide HQ7 u7 (Below.refl _ _)).all
        obtain ⟨-, -, -, -, p47, p57⟩ := (unhide HKP7 u7 (Below.refl _ _)).all
        simp only [Int.sub_self] at q37
        go_wp2_with fail
        apply cutFor (fun y => Below u7.heap.size u7 y)
        case k =>
          intro key
          go_region_law (refine step_call rfl 35 #[.tmp 76] #[9] rfl #[.string A] (by first | (simp [Act.eval]; done) | simp [Act.eval, Act.put]) entCl (unhide HCO _) ?_; rintro e1 wx ⟨rfl, hbx⟩; refine ⟨_, rfl, ?_⟩; have hbx6 : Below u7.heap.size u7 wx := ⟨hbx.os, hbx.tape, hbx.output, hbx.size, hbx.block⟩; have hqx := unhide HQ7 wx hbx6; have hqf := hqx.frozen 4; obtain ⟨-, -, -, q3x, q4x, q5x⟩ := hqx.all; simp only [Int.sub_self] at q3x; have HBX := hide hbx6; clear hbx hbx6 hqx)
          all_goals exact unhide key wx (unhide HBX)
        intro v' hv'
        obtain ⟨u9, hu9⟩ : ∃ u9, u9 = v'.setCell ⟨u5.heap.size, 4, none⟩ (.string A) := ⟨_, rfl⟩
        have hq9 : isPb u9 u5.heap.size W H (1 - 1) ⟨(l.set t x).toArray⟩ A B := by rw [hu9]; exact (unhide HQ7 v' hv').set4 A
        have hb9 : Below u5.heap.size v' u9 := by rw [hu9]; exact (Below.refl _ v').setCell (p := ⟨u5.heap.size, 4, none⟩) (Nat.le_refl _) _
        have hz9 := (unhide HKZ7 v' hv').below hb9 (by omega)
        have HB9 := hide ((unhide HKB7 v' hv').trans (hb9.mono (by omega)))
        rw [← hu9]
        obtain ⟨q0, q1, q2, q3, q4, q5⟩ := hq9.all
        obtain ⟨e0, e1, e2, e3, e4, e5⟩ := hz9.all
        have z0 := hz9.frozen 0
        have z1 := hz9.frozen 1
        have z2 := hz9.frozen 2
        have z3 := hz9.frozen 3
        have z4 := hz9.frozen 4
        have z5 := hz9.frozen 5
        clear hu9 hq9 hb9 hz9 hv' HQ7 HKP7 HKZ7 HKB7 q37 q47 q57 p47 p57 HCL HCO
        simp only [Int.sub_self] at q3
        go_wp2
        refine bodyPost_ret (v := .agg #[.int .i64 (W : Int), .int .i64 (H : Int), .string ⟨(l.set t x).toArray⟩, .int .i64 (1 - 1), .string (fst2 A B), .string (snd2 A B)]) (by simp [fst2, snd2, results, Tryz.results145, go_sem, e0, e1, e2, e3, e4, e5]) rfl ⟨?_, below_set6 (by omega) (unhide HB9)⟩
        rw [unhide HX, unhide HFC, ← unhide HFH]
        rfl
      | true =>
        have hcp := Capital_any k.toNat
        rw [(up_andNot k.toNat (UInt8.toNat_lt k)).1, ← u8_back (up_andNot k.toNat (UInt8.toNat_lt k)).2] at hcp
        have HCP := hide hcp
        have HWI := hide (fun y => withL_any B (upN k.toNat).toUInt8 y (unhide HH8))
        clear hcp
        have HFH0 : Hid ((⟨(withL B.data.toList (upN k.toNat).toUInt8).toArray⟩ : ByteArray) = ⟨(behH C.data.toList B.data.toList true f t c).toArray⟩) := by
          refine hide ?_
          unfold behH handB'
          have e : handA B.data.toList f c = B.data.toList := (congrArg (fun z : ByteArray => z.data.toList) (unhide HHD)).symm
          rw [unhide HKK, if_pos ⟨h46, rfl⟩, e]
        have HH8' : Hid ((⟨(withL B.data.toList (upN k.toNat).toUInt8).toArray⟩ : ByteArray).size ≤ 8) := hide (withL_len (unhide HH8))
        clear h46
        go_wp2_with fail
        refine (unhide HCP _).mono ?_
        rintro e u' ⟨rfl, hu'⟩
        rw [hu']
        clear hu'
        go_wp2_with fail
        refine (unhide HWI _).mono ?_
        rintro e u ⟨rfl, hb1⟩
        clear ct ft HCP HWI HHD
        have hPn := (unhide HPB).below hb1 (unhide HPB).lt
        have hRn := (unhide HRU).below hb1 (unhide HRU).lt
        have hMn := (unhide HMB).below hb1 (unhide HMB).lt
        have hZn := (unhide HZB).below hb1 (unhide HZB).lt
        have hOn := (unhide HRO).below hb1 (unhide HRO).lt
        have hBn := (unhide HBW).trans (hb1.mono (unhide HBW).size)
        have hSn := Nat.le_trans hs4 hb1.size
        clear HPB HRU HMB HZB HRO HBW hs4 hb1 p0 p1 p2 p3 p4 p5 r7 m0 m1 m2
        have hs4 := hSn
        clear hSn
        have HPB := hide hPn
        have HRU := hide hRn
        have HMB := hide hMn
        have HZB := hide hZn
        have HRO := hide hOn
        have HBW := hide hBn
        obtain ⟨p0, p1, p2, p3, p4, p5⟩ := hPn.all
        obtain ⟨-, -, -, -, -, -, -, r7, -, -, -, -, -⟩ := hRn.cells
        obtain ⟨m0, m1, m2⟩ := hMn.all
        clear hPn hRn hMn hZn hOn hBn
        have ct := (unhide HRO).cell t hlt
        have ft := (unhide HRO).frozen t hlt
        obtain ⟨hd, hhd⟩ : ∃ hd' : ByteArray, hd' = ⟨(withL B.data.toList (upN k.toNat).toUInt8).toArray⟩ := ⟨_, rfl⟩
        rw [← hhd]
        rw [← hhd] at HFH0 HH8'
        clear hhd HH8
        have HH8 := HH8'
        have HFH := HFH0
        clear HH8' HFH0
        have hx8 : letN 1 c.toNat < 256 := letN_lt' 1 c
        obtain ⟨x, hx⟩ : ∃ x : UInt8, x = (letN 1 c.toNat).toUInt8 := ⟨_, rfl⟩
        have hxn : letN 1 c.toNat = x.toNat := by rw [hx]; exact (u8_back hx8).symm
        have HLO := hide (fun y => LetterOf_any 1 c.toNat y (by omega) (UInt8.toNat_lt c))
        rw [hxn] at HLO
        have hs5 : (l.set t x).length = C.size := by rw [List.length_set]; exact unhide HLL
        have HX := hide hx
        clear hx hxn hx8
        have hP5 := (unhide HPB)
        obtain ⟨u5, hu5⟩ : ∃ u5, u5 = (u.setCell ⟨w.heap.size + 1 + 1 + 1 + 1, t, none⟩ (.int .u8 (x.toNat : Int))).drew := ⟨_, rfl⟩
        have hRO5 : RowB u5 (w.heap.size + 1 + 1 + 1 + 1) (l.set t x) := by rw [hu5]; exact RowB.set (unhide HRO) t x
        have hb5 : Below (w.heap.size + 1 + 1 + 1 + 1) u u5 := by rw [hu5]; exact ((Below.refl _ u).setCell (p := ⟨w.heap.size + 1 + 1 + 1 + 1, t, none⟩) (Nat.le_refl _) _).drew
        have hz5 : w.heap.size + 1 + 1 + 1 + 1 + 1 ≤ u5.heap.size := Nat.le_trans hs4 hb5.size
        have hP5 := (unhide HPB).below hb5 (by omega)
        have hZ5 := (unhide HZB).below hb5 (by omega)
        have hB5 := (unhide HBW).trans (hb5.mono (by omega))
        have hcv5 := RowB.conv (cap := cap) hRO5 (hide hs5)
        go_wp2_with fail
        apply cutBy
        case k =>
          intro key
          go_region_law (refine step_call rfl 158 #[.tmp 49, .tmp 51] #[3, 5] rfl #[.int .i64 1, .int .u8 (c.toNat : Int)] (by first | (simp [Act.eval]; done) | simp [Act.eval, Act.put]) entLet (unhide HLO _) ?_; rintro e1 wx ⟨rfl, rfl⟩; refine ⟨_, rfl, ?_⟩)
          all_goals exact unhide key
        rw [← hu5]
        have HP5 := hide hP5
        have HZ5 := hide hZ5
        have HB5 := hide hB5
        obtain ⟨p0', p1', p2', p3', p4', p5'⟩ := hP5.all
        clear hu5 hRO5 hb5 hP5 hZ5 hB5 HPB HZB HBW HMB HRU HRO p0 p1 p2 p3 p4 p5 r7 m0 m1 m2 ct ft HLO
        have hq5 : isPb (u5.alloc (.cells #[.int .i64 (W : Int), .int .i64 (H : Int), .string ⟨(l.set t x).toArray⟩, .int .i64 (1 - 1), .string ⟨#[]⟩, .string ⟨#[]⟩] 24 (0, 0))) u5.heap.size W H (1 - 1) ⟨(l.set t x).toArray⟩ ⟨#[]⟩ ⟨#[]⟩ := heap_alloc_new u5 _
        obtain ⟨u6, hu6⟩ : ∃ u6, u6 = u5.alloc (.cells #[.int .i64 (W : Int), .int .i64 (H : Int), .string ⟨(l.set t x).toArray⟩, .int .i64 (1 - 1), .string ⟨#[]⟩, .string ⟨#[]⟩] 24 (0, 0)) := ⟨_, rfl⟩
        rw [← hu6] at hq5
        have hb6 : Below u5.heap.size u5 u6 := by rw [hu6]; exact (Below.refl _ _).alloc (Nat.le_refl _) _
        have hs6 : u6.heap.size = u5.heap.size + 1 := by rw [hu6]; simp
        have HQ : Hid (∀ v, Below u6.heap.size u6 v → isPb v u5.heap.size W H (1 - 1) ⟨(l.set t x).toArray⟩ ⟨#[]⟩ ⟨#[]⟩) := hide fun v hv => hq5.below hv (by omega)
        have HKP : Hid (∀ v, Below u6.heap.size u6 v → isPb v (w.heap.size + 1) W H 1 C A B) := hide fun v hv => ((unhide HP5).below hb6 (by omega)).below hv (by omega)
        have HKZ : Hid (∀ v, Below u6.heap.size u6 v → isPb v (w.heap.size + 1 + 1 + 1) 0 0 0 ⟨#[]⟩ ⟨#[]⟩ ⟨#[]⟩) := hide fun v hv => ((unhide HZ5).below hb6 (by omega)).below hv (by omega)
        have HKB : Hid (∀ v, Below u6.heap.size u6 v → Below w.heap.size w v) := hide fun v hv => ((unhide HB5).trans (hb6.mono (by omega))).trans (hv.mono (by omega))
        have HHS : Hid (hd.size ≤ maxLen ∧ hd.size ≤ 140737488355328) := hide (by have := unhide HH8; unfold maxLen; omega)
        have HCL := hide (fun y => Clone_any hd y (unhide HHS).1 (unhide HHS).2)
        have HCO := hide (fun y => Clone_any A y (unhide HOS).1 (unhide HOS).2)
        have HS6 := hide hs6
        go_wp2_with fail
        simp only [Int.sub_self] at hu6
        rw [← hu6]
        have hp6 := unhide HKP u6 (Below.refl _ _)
        obtain ⟨-, -, -, p36, -, -⟩ := hp6.all
        clear hu6 hq5 hb6 hs6 hp6 p0' p1' p2' p3' p4' p5' hcv5
        apply cutFor (fun v => Below u6.heap.size u6 v)
        case k =>
          intro key
          go_region_law (refine step_call rfl 35 #[.tmp 66] #[9] rfl #[.string hd] (by first | (simp [Act.eval]; done) | simp [Act.eval, Act.put]) entCl (unhide HCL _) ?_; rintro e1 wx ⟨rfl, hbx⟩; refine ⟨_, rfl, ?_⟩; have hbx6 : Below u6.heap.size u6 wx := ⟨hbx.os, hbx.tape, hbx.output, hbx.size, hbx.block⟩; have hqx := unhide HQ wx hbx6; have hqf := hqx.frozen (4 + 1); obtain ⟨-, -, -, -, q4, q5⟩ := hqx.all; obtain ⟨-, -, -, p3x, -, -⟩ := (unhide HKP wx hbx6).all; have HBX := hide hbx6; clear hbx hbx6 hqx)
          all_goals exact unhide key wx (unhide HBX)
        intro v hv
        obtain ⟨u7, hu7⟩ : ∃ u7, u7 = v.setCell ⟨u5.heap.size, 5, none⟩ (.string hd) := ⟨_, rfl⟩
        have hq7 : isPb u7 u5.heap.size W H (1 - 1) ⟨(l.set t x).toArray⟩ ⟨#[]⟩ hd := by rw [hu7]; exact (unhide HQ v hv).set5 hd
        have hb7 : Below u5.heap.size v u7 := by rw [hu7]; exact (Below.refl _ v).setCell (p := ⟨u5.heap.size, 5, none⟩) (Nat.le_refl _) _
        have hl7 := hq7.lt
        have HQ7 : Hid (∀ y, Below u7.heap.size u7 y → isPb y u5.heap.size W H (1 - 1) ⟨(l.set t x).toArray⟩ ⟨#[]⟩ hd) := hide fun y hy => hq7.below hy hl7
        have HKP7 : Hid (∀ y, Below u7.heap.size u7 y → isPb y (w.heap.size + 1) W H 1 C A B) := hide fun y hy => ((unhide HKP v hv).below hb7 (by omega)).below hy (by omega)
        have HKZ7 : Hid (∀ y, Below u7.heap.size u7 y → isPb y (w.heap.size + 1 + 1 + 1) 0 0 0 ⟨#[]⟩ ⟨#[]⟩ ⟨#[]⟩) := hide fun y hy => ((unhide HKZ v hv).below hb7 (by omega)).below hy (by omega)
        have HKB7 : Hid (∀ y, Below u7.heap.size u7 y → Below w.heap.size w y) := hide fun y hy => ((unhide HKB v hv).trans (hb7.mono (by omega))).trans (hy.mono (by omega))
        rw [← hu7]
        clear hu7 hq7 hb7 hv HQ HKP HKZ HKB HS6 p36 HP5 HZ5 HB5
        obtain ⟨-, -, -, q37, q47, q57⟩ := (unhide HQ7 u7 (Below.refl _ _)).all
        obtain ⟨-, -, -, -, p47, p57⟩ := (unhide HKP7 u7 (Below.refl _ _)).all
        simp only [Int.sub_self] at q37
        go_wp2_with fail
        apply cutFor (fun y => Below u7.heap.size u7 y)
        case k =>
          intro key
          go_region_law (refine step_call rfl 35 #[.tmp 76] #[9] rfl #[.string A] (by first | (simp [Act.eval]; done) | simp [Act.eval, Act.put]) entCl (unhide HCO _) ?_; rintro e1 wx ⟨rfl, hbx⟩; refine ⟨_, rfl, ?_⟩; have hbx6 : Below u7.heap.size u7 wx := ⟨hbx.os, hbx.tape, hbx.output, hbx.size, hbx.block⟩; have hqx := unhide HQ7 wx hbx6; have hqf := hqx.frozen 4; obtain ⟨-, -, -, q3x, q4x, q5x⟩ := hqx.all; simp only [Int.sub_self] at q3x; have HBX := hide hbx6; clear hbx hbx6 hqx)
          all_goals exact unhide key wx (unhide HBX)
        intro v' hv'
        obtain ⟨u9, hu9⟩ : ∃ u9, u9 = v'.setCell ⟨u5.heap.size, 4, none⟩ (.string A) := ⟨_, rfl⟩
        have hq9 : isPb u9 u5.heap.size W H (1 - 1) ⟨(l.set t x).toArray⟩ A hd := by rw [hu9]; exact (unhide HQ7 v' hv').set4 A
        have hb9 : Below u5.heap.size v' u9 := by rw [hu9]; exact (Below.refl _ v').setCell (p := ⟨u5.heap.size, 4, none⟩) (Nat.le_refl _) _
        have hz9 := (unhide HKZ7 v' hv').below hb9 (by omega)
        have HB9 := hide ((unhide HKB7 v' hv').trans (hb9.mono (by omega)))
        rw [← hu9]
        obtain ⟨q0, q1, q2, q3, q4, q5⟩ := hq9.all
        obtain ⟨e0, e1, e2, e3, e4, e5⟩ := hz9.all
        have z0 := hz9.frozen 0
        have z1 := hz9.frozen 1
        have z2 := hz9.frozen 2
        have z3 := hz9.frozen 3
        have z4 := hz9.frozen 4
        have z5 := hz9.frozen 5
        clear hu9 hq9 hb9 hz9 hv' HQ7 HKP7 HKZ7 HKB7 q37 q47 q57 p47 p57 HCL HCO
        simp only [Int.sub_self] at q3
        go_wp2
        refine bodyPost_ret (v := .agg #[.int .i64 (W : Int), .int .i64 (H : Int), .string ⟨(l.set t x).toArray⟩, .int .i64 (1 - 1), .string (fst2 A hd), .string (snd2 A hd)]) (by simp [fst2, snd2, results, Tryz.results145, go_sem, e0, e1, e2, e3, e4, e5]) rfl ⟨?_, below_set6 (by omega) (unhide HB9)⟩
        rw [unhide HX, unhide HFC, ← unhide HFH]
        rfl
end Go.Proofs.YtihojhfpepbjhaaGreatDoor
