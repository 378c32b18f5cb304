/-
  The document's answer on rules (package gameref), walked: line, where the text is a short line.
-/
import Derived.Test.YtfhmpgjemobjhaaGreatDoorJ32
namespace Go.Proofs.YtfhmpgjemobjhaaGreatDoor
open Go.RowKit
attribute [local go_sem ↓] Go.wp_at_zero Go.wp_at_succ

section
variable {w : World} {g : Nat} {v0 v1 v2 v3 v4 v5 v6 v7 v8 v9 v10 v11 v12 : Value}
theorem isRu.frozen (h : isRu w g v0 v1 v2 v3 v4 v5 v6 v7 v8 v9 v10 v11 v12) (k : Nat) : w.frozen? ⟨g, k, none⟩ = false := frozen_of_row w g k _ _ h
theorem isRu.set6 (h : isRu w g v0 v1 v2 v3 v4 v5 v6 v7 v8 v9 v10 v11 v12) (u : Value) : isRu (w.setCell ⟨g, 6, none⟩ u) g v0 v1 v2 v3 v4 v5 u v7 v8 v9 v10 v11 v12 := by
  unfold isRu at h ⊢; simp [World.setCell, Array.getElem?_modify, h]
theorem isRu.set7 (h : isRu w g v0 v1 v2 v3 v4 v5 v6 v7 v8 v9 v10 v11 v12) (u : Value) : isRu (w.setCell ⟨g, 7, none⟩ u) g v0 v1 v2 v3 v4 v5 v6 u v8 v9 v10 v11 v12 := by
  unfold isRu at h ⊢; simp [World.setCell, Array.getElem?_modify, h]
theorem isRu.set8 (h : isRu w g v0 v1 v2 v3 v4 v5 v6 v7 v8 v9 v10 v11 v12) (u : Value) : isRu (w.setCell ⟨g, 8, none⟩ u) g v0 v1 v2 v3 v4 v5 v6 v7 u v9 v10 v11 v12 := by
  unfold isRu at h ⊢; simp [World.setCell, Array.getElem?_modify, h]
theorem isRu.set9 (h : isRu w g v0 v1 v2 v3 v4 v5 v6 v7 v8 v9 v10 v11 v12) (u : Value) : isRu (w.setCell ⟨g, 9, none⟩ u) g v0 v1 v2 v3 v4 v5 v6 v7 v8 u v10 v11 v12 := by
  unfold isRu at h ⊢; simp [World.setCell, Array.getElem?_modify, h]
theorem isRu.set10 (h : isRu w g v0 v1 v2 v3 v4 v5 v6 v7 v8 v9 v10 v11 v12) (u : Value) : isRu (w.setCell ⟨g, 10, none⟩ u) g v0 v1 v2 v3 v4 v5 v6 v7 v8 v9 u v11 v12 := by
  unfold isRu at h ⊢; simp [World.setCell, Array.getElem?_modify, h]
theorem isRu.set11 (h : isRu w g v0 v1 v2 v3 v4 v5 v6 v7 v8 v9 v10 v11 v12) (u : Value) : isRu (w.setCell ⟨g, 11, none⟩ u) g v0 v1 v2 v3 v4 v5 v6 v7 v8 v9 v10 u v12 := by
  unfold isRu at h ⊢; simp [World.setCell, Array.getElem?_modify, h]
theorem isRu.set12 (h : isRu w g v0 v1 v2 v3 v4 v5 v6 v7 v8 v9 v10 v11 v12) (u : Value) : isRu (w.setCell ⟨g, 12, none⟩ u) g v0 v1 v2 v3 v4 v5 v6 v7 v8 v9 v10 v11 u := by
  unfold isRu at h ⊢; simp [World.setCell, Array.getElem?_modify, h]
theorem isRu.start (h : isRu w g v0 v1 v2 v3 v4 v5 v6 v7 v8 v9 v10 v11 v12) (u0 u1 u2 u3 u4 u5 : Value) :
    isRu ((((((w.setCell ⟨g, 0, none⟩ u0).setCell ⟨g, 1, none⟩ u1).setCell ⟨g, 2, none⟩ u2).setCell ⟨g, 3, none⟩ u3).setCell ⟨g, 4, none⟩ u4).setCell ⟨g, 5, none⟩ u5) g u0 u1 u2 u3 u4 u5 v6 v7 v8 v9 v10 v11 v12 := by
  unfold isRu at h ⊢; simp [World.setCell, Array.getElem?_modify, h]
end
theorem keep_set (w : World) (g k : Nat) (u : Value) (j : Nat) (h : g + 1 ≤ j) : (w.setCell ⟨g, k, none⟩ u).heap[j]? = w.heap[j]? := Below.heap_setCell _ _ _ _ (by simp only; omega)
section
variable {w : World} {g : Nat} {x : Rl}
theorem GS.cell (h : GS w g x) (k : Nat) (hk : k < 13) : (∃ u, w.cell? ⟨g, k, none⟩ = some u) ∧ w.frozen? ⟨g, k, none⟩ = false := by
  obtain ⟨⟨v, qs, h1, -⟩, -⟩ := h
  refine ⟨?_, isRu.frozen h1 k⟩
  obtain ⟨d0, d1, d2, d3, d4, d5, d6, d7, d8, d9, d10, d11, d12⟩ := isRu.cells h1
  match k, hk with
  | 0, _ => exact ⟨_, d0⟩
  | 1, _ => exact ⟨_, d1⟩
  | 2, _ => exact ⟨_, d2⟩
  | 3, _ => exact ⟨_, d3⟩
  | 4, _ => exact ⟨_, d4⟩
  | 5, _ => exact ⟨_, d5⟩
  | 6, _ => exact ⟨_, d6⟩
  | 7, _ => exact ⟨_, d7⟩
  | 8, _ => exact ⟨_, d8⟩
  | 9, _ => exact ⟨_, d9⟩
  | 10, _ => exact ⟨_, d10⟩
  | 11, _ => exact ⟨_, d11⟩
  | 12, _ => exact ⟨_, d12⟩
theorem GS.dr (h : GS w g x) : GS (w.setCell ⟨g, 7, none⟩ (.bool true)) g { x with dr := true } := by
  obtain ⟨⟨v, qs, h1, h2⟩, h3⟩ := h
  exact ⟨⟨v, qs, isRu.set7 h1 _, h2.keep fun k hk _ => keep_set _ _ _ _ _ hk⟩, h3⟩
theorem GS.lo (h : GS w g x) (c : UInt8) : GS (w.setCell ⟨g, 8, none⟩ (.int .u8 (c.toNat : Int))) g { x with lo := c } := by
  obtain ⟨⟨v, qs, h1, h2⟩, h3⟩ := h
  exact ⟨⟨v, qs, isRu.set8 h1 _, h2.keep fun k hk _ => keep_set _ _ _ _ _ hk⟩, h3⟩
theorem GS.li (h : GS w g x) (n : Nat) : GS (w.setCell ⟨g, 9, none⟩ (.int .i64 (n : Int))) g { x with li := n } := by
  obtain ⟨⟨v, qs, h1, h2⟩, h3⟩ := h
  exact ⟨⟨v, qs, isRu.set9 h1 _, h2.keep fun k hk _ => keep_set _ _ _ _ _ hk⟩, h3⟩
theorem GS.re (h : GS w g x) (c : UInt8) : GS (w.setCell ⟨g, 10, none⟩ (.int .u8 (c.toNat : Int))) g { x with re := c } := by
  obtain ⟨⟨v, qs, h1, h2⟩, h3⟩ := h
  exact ⟨⟨v, qs, isRu.set10 h1 _, h2.keep fun k hk _ => keep_set _ _ _ _ _ hk⟩, h3⟩
theorem GS.st (h : GS w g x) : GS (w.setCell ⟨g, 11, none⟩ (.bool true)) g { x with st := true } := by
  obtain ⟨⟨v, qs, h1, h2⟩, h3⟩ := h
  exact ⟨⟨v, qs, isRu.set11 h1 _, h2.keep fun k hk _ => keep_set _ _ _ _ _ hk⟩, h3⟩
theorem GS.pl (h : GS w g x) (n : Nat) : GS (w.setCell ⟨g, 12, none⟩ (.int .i64 (n : Int))) g { x with pl := n } := by
  obtain ⟨⟨v, qs, h1, h2⟩, h3⟩ := h
  exact ⟨⟨v, qs, isRu.set12 h1 _, h2.keep fun k hk _ => keep_set _ _ _ _ _ hk⟩, h3⟩
end
/-- Below g all as it was; the rules in g are x. -/
structure LineY (g : Nat) (x : Rl) (r : Int) (w : World) (e : Ending) (w' : World) : Prop where
  ret : e = .returned (.int .i64 r)
  gs : GS w' g x
  low : Below g w w'


set_option maxHeartbeats 1000000 in
set_option maxRecDepth 100000 in
theorem gLine_drops (g : Nat) (x : Rl) (s : ByteArray) (m : Int) (w : World) (hg : GS w g x) (hs : s.size < 2000000) (hm : w.cell? ⟨0, 0, none⟩ = some (.int .i64 m)) (hsd : s.data.toList = wDrops) :
    Calls Tryz.prog 20 #[.pointer (some ⟨g, 0, none⟩), .string s] w fun e w' => LineY g { x with dr := true } 2 w e w' := by
  have hsp : spl 32 s.data.toList = [wDrops] := by rw [hsd]; decide
  have hpre : ([115, 116, 97, 114, 116, 32] : List UInt8).isPrefixOf s.data.toList = false := by rw [hsd]; decide
  obtain ⟨p0, hp0⟩ : ∃ p0, p0 = wDrops := ⟨_, rfl⟩
  rw [← hp0] at hsp
  have HSP := hide (Split_any s 32 m w hs hm)
  obtain ⟨A0, hA0⟩ : ∃ A0 : ByteArray, A0 = ⟨p0.toArray⟩ := ⟨_, rfl⟩
  have hA0d : A0.data.toList = p0 := by rw [hA0]
  have HA0 := hide hA0
  have HPRE := hide hpre
  have HG := hide hg
  have hgw : g < w.heap.size := hg.lt
  clear hpre hm hA0 hg
  rw [hsp] at HSP
  have HP0 : Hid ([p0][0]? = some p0) := hide rfl
  have HR1 : Hid (∀ u : World, isRv u w.heap.size [p0] → True) := hide (fun _ _ => trivial)
  have fd := tl_true hsd
  unfold wDrops at fd
  clear hsp hsd hp0 hA0d
  go_enter Tryz.func20, Tryz.ntmps20
  go_wp2_with fail
  refine (unhide HSP).mono ?_
  rintro e w1 ⟨rfl, hb1, hrv⟩
  have r0 := hrv.cell (k := 0) (unhide HP0)
  rw [← unhide HA0] at r0
  have r1 := unhide HR1 w1 hrv
  have hg1 := (unhide HG).below hb1
  have HB1 := hide hb1
  have HG1 := hide hg1
  have hlt1 : w.heap.size < w1.heap.size := hrv.lt
  clear hb1 hrv
  go_wp2_with fail
  refine (hasPrefix_any s ⟨#[115, 116, 97, 114, 116, 32]⟩ w1).mono ?_
  rintro e w2 ⟨rfl, rfl⟩
  rw [unhide HPRE]
  obtain ⟨⟨u7, c7⟩, f7⟩ := hg1.cell 7 (by decide)
  have HFIN := hide hg1.dr
  clear hg1
  go_wp2
  go_ret
  exact ⟨rfl, unhide HFIN, ((unhide HB1).mono (Nat.le_of_lt hgw)).setCell (p := ⟨g, 7, none⟩) (Nat.le_refl _) _⟩
set_option maxHeartbeats 1000000 in
set_option maxRecDepth 100000 in
theorem gLine_stuck (g : Nat) (x : Rl) (s : ByteArray) (m : Int) (w : World) (hg : GS w g x) (hs : s.size < 2000000) (hm : w.cell? ⟨0, 0, none⟩ = some (.int .i64 m)) (hsd : s.data.toList = wStuck) :
    Calls Tryz.prog 20 #[.pointer (some ⟨g, 0, none⟩), .string s] w fun e w' => LineY g { x with st := true } 6 w e w' := by
  have hsp : spl 32 s.data.toList = [wStuck] := by rw [hsd]; decide
  have hpre : ([115, 116, 97, 114, 116, 32] : List UInt8).isPrefixOf s.data.toList = false := by rw [hsd]; decide
  obtain ⟨p0, hp0⟩ : ∃ p0, p0 = wStuck := ⟨_, rfl⟩
  rw [← hp0] at hsp
  have HSP := hide (Split_any s 32 m w hs hm)
  obtain ⟨A0, hA0⟩ : ∃ A0 : ByteArray, A0 = ⟨p0.toArray⟩ := ⟨_, rfl⟩
  have hA0d : A0.data.toList = p0 := by rw [hA0]
  have HA0 := hide hA0
  have HPRE := hide hpre
  have HG := hide hg
  have hgw : g < w.heap.size := hg.lt
  clear hpre hm hA0 hg
  rw [hsp] at HSP
  have HP0 : Hid ([p0][0]? = some p0) := hide rfl
  have HR1 : Hid (∀ u : World, isRv u w.heap.size [p0] → True) := hide (fun _ _ => trivial)
  have fe := tl_false (A := s) (l := [100, 114, 111, 112, 115]) (by rw [hsd]; decide)
  have fd := tl_true hsd
  unfold wStuck at fd
  clear hsp hsd hp0 hA0d
  go_enter Tryz.func20, Tryz.ntmps20
  go_wp2_with fail
  refine (unhide HSP).mono ?_
  rintro e w1 ⟨rfl, hb1, hrv⟩
  have r0 := hrv.cell (k := 0) (unhide HP0)
  rw [← unhide HA0] at r0
  have r1 := unhide HR1 w1 hrv
  have hg1 := (unhide HG).below hb1
  have HB1 := hide hb1
  have HG1 := hide hg1
  have hlt1 : w.heap.size < w1.heap.size := hrv.lt
  clear hb1 hrv
  go_wp2_with fail
  refine (hasPrefix_any s ⟨#[115, 116, 97, 114, 116, 32]⟩ w1).mono ?_
  rintro e w2 ⟨rfl, rfl⟩
  rw [unhide HPRE]
  obtain ⟨⟨u7, c7⟩, f7⟩ := hg1.cell 11 (by decide)
  have HFIN := hide hg1.st
  clear hg1
  go_wp2
  go_ret
  exact ⟨rfl, unhide HFIN, ((unhide HB1).mono (Nat.le_of_lt hgw)).setCell (p := ⟨g, 11, none⟩) (Nat.le_refl _) _⟩

theorem spl_two (a b : List UInt8) (ha : (32 : UInt8) ∉ a) (hb : (32 : UInt8) ∉ b) : spl 32 (a ++ 32 :: b) = [a, b] := by
  rw [spl_app, spl_nomem 32 a ha, spl_nomem 32 b hb]; rfl

set_option maxHeartbeats 1000000 in
set_option maxRecDepth 100000 in
theorem gLine_lose (g : Nat) (x : Rl) (s : ByteArray) (m : Int) (w : World) (hg : GS w g x) (hs : s.size < 2000000) (hm : w.cell? ⟨0, 0, none⟩ = some (.int .i64 m)) (c : UInt8) (hcap : capB (c.toNat : Nat) = true) (hsd : s.data.toList = wLose ++ 32 :: [c]) :
    Calls Tryz.prog 20 #[.pointer (some ⟨g, 0, none⟩), .string s] w fun e w' => LineY g { x with lo := c } 3 w e w' := by
  have hc32 := (cap_58 c hcap).2
  have hsp : spl 32 s.data.toList = [wLose, [c]] := by rw [hsd]; exact spl_two _ _ (by decide) (by simpa using hc32.symm)
  have hpre : ([115, 116, 97, 114, 116, 32] : List UInt8).isPrefixOf s.data.toList = false := by rw [hsd]; simp [wLose, List.isPrefixOf]
  obtain ⟨p0, hp0⟩ : ∃ p0, p0 = wLose := ⟨_, rfl⟩
  obtain ⟨p1, hp1⟩ : ∃ p1, p1 = [c] := ⟨_, rfl⟩
  rw [← hp0, ← hp1] at hsp
  have HSP := hide (Split_any s 32 m w hs hm)
  obtain ⟨A0, hA0⟩ : ∃ A0 : ByteArray, A0 = ⟨p0.toArray⟩ := ⟨_, rfl⟩
  have hA0d : A0.data.toList = p0 := by rw [hA0]
  have HA0 := hide hA0
  have HPRE := hide hpre
  have HG := hide hg
  have hgw : g < w.heap.size := hg.lt
  clear hpre hm hA0 hg
  rw [hsp] at HSP
  have fd := tl_false (A := s) (l := [100, 114, 111, 112, 115]) (by rw [hsd]; intro h; have h5 := congrArg (fun l => (32 : UInt8) ∈ l) h; revert h5; simp)
  have fs := tl_false (A := s) (l := [115, 116, 117, 99, 107]) (by rw [hsd]; intro h; have h5 := congrArg (fun l => (32 : UInt8) ∈ l) h; revert h5; simp)
  obtain ⟨A1, hA1⟩ : ∃ A1 : ByteArray, A1 = ⟨p1.toArray⟩ := ⟨_, rfl⟩
  have hA1d : A1.data.toList = p1 := by rw [hA1]
  have HR1 : Hid (∀ u : World, isRv u w.heap.size [p0, p1] → u.cell? ⟨w.heap.size, 1, none⟩ = some (.string A1)) := by
    refine hide fun u hu => ?_
    rw [hA1]
    exact hu.cell (k := 1) rfl
  have HP0 : Hid ([p0, p1][0]? = some p0) := hide rfl
  have f0 := tl_true (A := A0) (l := [108, 111, 115, 101]) (by rw [hA0d, hp0]; rfl)
  have h1 : A1.size = 1 := by rw [hA1, hp1]; rfl
  have hc0 : A1[0] = c := by simp [hA1, hp1]; rfl
  have h1i : (A1.size : Int) = 1 := by omega
  have h10 : (0 : Int) < (A1.size : Int) := by omega
  have HCAP : Hid (capB ((A1[0]'(by omega)).toNat : Nat) = true) := by rw [hc0]; exact hcap
  have HC0 := hide hc0
  clear hsp hsd hp0 hA0d hA1 hA1d hp1 hcap hc32 hc0
  go_enter Tryz.func20, Tryz.ntmps20
  go_wp2_with fail
  refine (unhide HSP).mono ?_
  rintro e w1 ⟨rfl, hb1, hrv⟩
  have r0 := hrv.cell (k := 0) (unhide HP0)
  rw [← unhide HA0] at r0
  have r1 := unhide HR1 w1 hrv
  have hg1 := (unhide HG).below hb1
  have HB1 := hide hb1
  have HG1 := hide hg1
  have hlt1 : w.heap.size < w1.heap.size := hrv.lt
  clear hb1 hrv
  go_wp2_with fail
  refine (hasPrefix_any s ⟨#[115, 116, 97, 114, 116, 32]⟩ w1).mono ?_
  rintro e w2 ⟨rfl, rfl⟩
  rw [unhide HPRE]
  obtain ⟨⟨u7, c7⟩, f7⟩ := hg1.cell 8 (by decide)
  have HFIN := hide (hg1.lo (A1[0]'(by omega)))
  clear hg1
  go_wp2_with fail
  refine (Big_any _ _).mono ?_
  rintro e w3 ⟨rfl, rfl⟩
  rw [unhide HCAP]
  go_wp2
  go_ret
  rw [← unhide HC0]
  exact ⟨rfl, unhide HFIN, ((unhide HB1).mono (Nat.le_of_lt hgw)).setCell (p := ⟨g, 8, none⟩) (Nat.le_refl _) _⟩
set_option maxHeartbeats 1000000 in
set_option maxRecDepth 100000 in
theorem gLine_reach (g : Nat) (x : Rl) (s : ByteArray) (m : Int) (w : World) (hg : GS w g x) (hs : s.size < 2000000) (hm : w.cell? ⟨0, 0, none⟩ = some (.int .i64 m)) (c : UInt8) (hcap : capB (c.toNat : Nat) = true) (hsd : s.data.toList = wReach ++ 32 :: [c]) :
    Calls Tryz.prog 20 #[.pointer (some ⟨g, 0, none⟩), .string s] w fun e w' => LineY g { x with re := c } 5 w e w' := by
  have hc32 := (cap_58 c hcap).2
  have hsp : spl 32 s.data.toList = [wReach, [c]] := by rw [hsd]; exact spl_two _ _ (by decide) (by simpa using hc32.symm)
  have hpre : ([115, 116, 97, 114, 116, 32] : List UInt8).isPrefixOf s.data.toList = false := by rw [hsd]; simp [wReach, List.isPrefixOf]
  obtain ⟨p0, hp0⟩ : ∃ p0, p0 = wReach := ⟨_, rfl⟩
  obtain ⟨p1, hp1⟩ : ∃ p1, p1 = [c] := ⟨_, rfl⟩
  rw [← hp0, ← hp1] at hsp
  have HSP := hide (Split_any s 32 m w hs hm)
  obtain ⟨A0, hA0⟩ : ∃ A0 : ByteArray, A0 = ⟨p0.toArray⟩ := ⟨_, rfl⟩
  have hA0d : A0.data.toList = p0 := by rw [hA0]
  have HA0 := hide hA0
  have HPRE := hide hpre
  have HG := hide hg
  have hgw : g < w.heap.size := hg.lt
  clear hpre hm hA0 hg
  rw [hsp] at HSP
  have fd := tl_false (A := s) (l := [100, 114, 111, 112, 115]) (by rw [hsd]; intro h; have h5 := congrArg (fun l => (32 : UInt8) ∈ l) h; revert h5; simp)
  have fs := tl_false (A := s) (l := [115, 116, 117, 99, 107]) (by rw [hsd]; intro h; have h5 := congrArg (fun l => (32 : UInt8) ∈ l) h; revert h5; simp)
  obtain ⟨A1, hA1⟩ : ∃ A1 : ByteArray, A1 = ⟨p1.toArray⟩ := ⟨_, rfl⟩
  have hA1d : A1.data.toList = p1 := by rw [hA1]
  have HR1 : Hid (∀ u : World, isRv u w.heap.size [p0, p1] → u.cell? ⟨w.heap.size, 1, none⟩ = some (.string A1)) := by
    refine hide fun u hu => ?_
    rw [hA1]
    exact hu.cell (k := 1) rfl
  have HP0 : Hid ([p0, p1][0]? = some p0) := hide rfl
  have f0 := tl_false (A := A0) (l := [108, 111, 115, 101]) (by rw [hA0d, hp0]; decide)
  have f00 := tl_true (A := A0) (l := [114, 101, 97, 99, 104]) (by rw [hA0d, hp0]; rfl)
  have h1 : A1.size = 1 := by rw [hA1, hp1]; rfl
  have hc0 : A1[0] = c := by simp [hA1, hp1]; rfl
  have h1i : (A1.size : Int) = 1 := by omega
  have h10 : (0 : Int) < (A1.size : Int) := by omega
  have HCAP : Hid (capB ((A1[0]'(by omega)).toNat : Nat) = true) := by rw [hc0]; exact hcap
  have HC0 := hide hc0
  clear hsp hsd hp0 hA0d hA1 hA1d hp1 hcap hc32 hc0
  go_enter Tryz.func20, Tryz.ntmps20
  go_wp2_with fail
  refine (unhide HSP).mono ?_
  rintro e w1 ⟨rfl, hb1, hrv⟩
  have r0 := hrv.cell (k := 0) (unhide HP0)
  rw [← unhide HA0] at r0
  have r1 := unhide HR1 w1 hrv
  have hg1 := (unhide HG).below hb1
  have HB1 := hide hb1
  have HG1 := hide hg1
  have hlt1 : w.heap.size < w1.heap.size := hrv.lt
  clear hb1 hrv
  go_wp2_with fail
  refine (hasPrefix_any s ⟨#[115, 116, 97, 114, 116, 32]⟩ w1).mono ?_
  rintro e w2 ⟨rfl, rfl⟩
  rw [unhide HPRE]
  obtain ⟨⟨u7, c7⟩, f7⟩ := hg1.cell 10 (by decide)
  have HFIN := hide (hg1.re (A1[0]'(by omega)))
  clear hg1
  go_wp2_with fail
  refine (Big_any _ _).mono ?_
  rintro e w3 ⟨rfl, rfl⟩
  rw [unhide HCAP]
  go_wp2
  go_ret
  rw [← unhide HC0]
  exact ⟨rfl, unhide HFIN, ((unhide HB1).mono (Nat.le_of_lt hgw)).setCell (p := ⟨g, 10, none⟩) (Nat.le_refl _) _⟩

set_option maxHeartbeats 1000000 in
set_option maxRecDepth 100000 in
theorem gLine_line (g : Nat) (x : Rl) (s : ByteArray) (m : Int) (w : World) (hg : GS w g x) (hs : s.size < 2000000) (hm : w.cell? ⟨0, 0, none⟩ = some (.int .i64 m)) (ht : isTab w) (p1 : List UInt8) (n : Nat) (hn : numOf p1 = some n) (hn0 : 0 < n) (hsd : s.data.toList = wLine ++ 32 :: p1) :
    Calls Tryz.prog 20 #[.pointer (some ⟨g, 0, none⟩), .string s] w fun e w' => LineY g { x with li := n } 4 w e w' := by
  have hb32 : (32 : UInt8) ∉ p1 := fun h => by rw [numOf_blank p1 h] at hn; cases hn
  have hsp : spl 32 s.data.toList = [wLine, p1] := by rw [hsd]; exact spl_two _ _ (by decide) hb32
  have hpre : ([115, 116, 97, 114, 116, 32] : List UInt8).isPrefixOf s.data.toList = false := by rw [hsd]; simp [wLine, List.isPrefixOf]
  obtain ⟨p0, hp0⟩ : ∃ p0, p0 = wLine := ⟨_, rfl⟩
  rw [← hp0] at hsp
  have HSP := hide (Split_any s 32 m w hs hm)
  obtain ⟨A0, hA0⟩ : ∃ A0 : ByteArray, A0 = ⟨p0.toArray⟩ := ⟨_, rfl⟩
  have hA0d : A0.data.toList = p0 := by rw [hA0]
  have HA0 := hide hA0
  have HPRE := hide hpre
  have HG := hide hg
  have hgw : g < w.heap.size := hg.lt
  clear hpre hm hA0 hg
  rw [hsp] at HSP
  have fd := tl_false (A := s) (l := [100, 114, 111, 112, 115]) (by rw [hsd]; intro h; have h5 := congrArg (fun l => (32 : UInt8) ∈ l) h; revert h5; simp)
  have fs := tl_false (A := s) (l := [115, 116, 117, 99, 107]) (by rw [hsd]; intro h; have h5 := congrArg (fun l => (32 : UInt8) ∈ l) h; revert h5; simp)
  obtain ⟨A1, hA1⟩ : ∃ A1 : ByteArray, A1 = ⟨p1.toArray⟩ := ⟨_, rfl⟩
  have hA1d : A1.data.toList = p1 := by rw [hA1]
  have HR1 : Hid (∀ u : World, isRv u w.heap.size [p0, p1] → u.cell? ⟨w.heap.size, 1, none⟩ = some (.string A1)) := by
    refine hide fun u hu => ?_
    rw [hA1]
    exact hu.cell (k := 1) rfl
  have HP0 : Hid ([p0, p1][0]? = some p0) := hide rfl
  have f0 := tl_false (A := A0) (l := [108, 111, 115, 101]) (by rw [hA0d, hp0]; decide)
  have f00 := tl_false (A := A0) (l := [114, 101, 97, 99, 104]) (by rw [hA0d, hp0]; decide)
  have f01 := tl_true (A := A0) (l := [108, 105, 110, 101]) (by rw [hA0d, hp0]; rfl)
  have hCN := fun u hu => count_any A1 u hu
  rw [hA1d, show cntI p1 = (n : Int) by unfold cntI; rw [hn]] at hCN
  have HCN := hide hCN
  have HHT := hide ht
  have hni : (0 : Int) < (n : Int) := by omega
  clear hsp hsd hp0 hA0d hA1 hA1d hn hb32 hCN ht
  go_enter Tryz.func20, Tryz.ntmps20
  go_wp2_with fail
  refine (unhide HSP).mono ?_
  rintro e w1 ⟨rfl, hb1, hrv⟩
  have r0 := hrv.cell (k := 0) (unhide HP0)
  rw [← unhide HA0] at r0
  have r1 := unhide HR1 w1 hrv
  have hg1 := (unhide HG).below hb1
  have HB1 := hide hb1
  have HG1 := hide hg1
  have hlt1 : w.heap.size < w1.heap.size := hrv.lt
  clear hb1 hrv
  go_wp2_with fail
  refine (hasPrefix_any s ⟨#[115, 116, 97, 114, 116, 32]⟩ w1).mono ?_
  rintro e w2 ⟨rfl, rfl⟩
  rw [unhide HPRE]
  go_wp2_with fail
  refine (unhide HCN _ ((unhide HHT).below (unhide HB1))).mono ?_
  rintro e w3 ⟨rfl, hb3⟩
  have hb4 := (unhide HB1).trans (hb3.mono (unhide HB1).size)
  have r1' := (hb3.cell (p := ⟨w.heap.size, 1, none⟩) hlt1).trans r1
  have hg3 := (unhide HG1).below hb3
  have HG3 := hide hg3
  have HB4 := hide hb4
  clear hb3 hg3 hb4
  go_wp2_with fail
  refine (unhide HCN _ ((unhide HHT).below (unhide HB4))).mono ?_
  rintro e w5 ⟨rfl, hb5⟩
  have hb6 := (unhide HB4).trans (hb5.mono (unhide HB4).size)
  have hg5 := (unhide HG3).below hb5
  have HB6 := hide hb6
  clear hb5 hb6
  obtain ⟨⟨u7, c7⟩, f7⟩ := hg5.cell 9 (by decide)
  have HFIN := hide (hg5.li n)
  clear hg5
  go_wp2
  go_ret
  exact ⟨rfl, unhide HFIN, ((unhide HB6).mono (Nat.le_of_lt hgw)).setCell (p := ⟨g, 9, none⟩) (Nat.le_refl _) _⟩
set_option maxHeartbeats 1000000 in
set_option maxRecDepth 100000 in
theorem gLine_plies (g : Nat) (x : Rl) (s : ByteArray) (m : Int) (w : World) (hg : GS w g x) (hs : s.size < 2000000) (hm : w.cell? ⟨0, 0, none⟩ = some (.int .i64 m)) (ht : isTab w) (p1 : List UInt8) (n : Nat) (hn : numOf p1 = some n) (hsd : s.data.toList = wPlies ++ 32 :: p1) :
    Calls Tryz.prog 20 #[.pointer (some ⟨g, 0, none⟩), .string s] w fun e w' => LineY g { x with pl := n } 7 w e w' := by
  have hb32 : (32 : UInt8) ∉ p1 := fun h => by rw [numOf_blank p1 h] at hn; cases hn
  have hsp : spl 32 s.data.toList = [wPlies, p1] := by rw [hsd]; exact spl_two _ _ (by decide) hb32
  have hpre : ([115, 116, 97, 114, 116, 32] : List UInt8).isPrefixOf s.data.toList = false := by rw [hsd]; simp [wPlies, List.isPrefixOf]
  obtain ⟨p0, hp0⟩ : ∃ p0, p0 = wPlies := ⟨_, rfl⟩
  rw [← hp0] at hsp
  have HSP := hide (Split_any s 32 m w hs hm)
  obtain ⟨A0, hA0⟩ : ∃ A0 : ByteArray, A0 = ⟨p0.toArray⟩ := ⟨_, rfl⟩
  have hA0d : A0.data.toList = p0 := by rw [hA0]
  have HA0 := hide hA0
  have HPRE := hide hpre
  have HG := hide hg
  have hgw : g < w.heap.size := hg.lt
  clear hpre hm hA0 hg
  rw [hsp] at HSP
  have fd := tl_false (A := s) (l := [100, 114, 111, 112, 115]) (by rw [hsd]; intro h; have h5 := congrArg (fun l => (32 : UInt8) ∈ l) h; revert h5; simp)
  have fs := tl_false (A := s) (l := [115, 116, 117, 99, 107]) (by rw [hsd]; intro h; have h5 := congrArg (fun l => (32 : UInt8) ∈ l) h; revert h5; simp)
  obtain ⟨A1, hA1⟩ : ∃ A1 : ByteArray, A1 = ⟨p1.toArray⟩ := ⟨_, rfl⟩
  have hA1d : A1.data.toList = p1 := by rw [hA1]
  have HR1 : Hid (∀ u : World, isRv u w.heap.size [p0, p1] → u.cell? ⟨w.heap.size, 1, none⟩ = some (.string A1)) := by
    refine hide fun u hu => ?_
    rw [hA1]
    exact hu.cell (k := 1) rfl
  have HP0 : Hid ([p0, p1][0]? = some p0) := hide rfl
  have f0 := tl_false (A := A0) (l := [108, 111, 115, 101]) (by rw [hA0d, hp0]; decide)
  have f00 := tl_false (A := A0) (l := [114, 101, 97, 99, 104]) (by rw [hA0d, hp0]; decide)
  have f01 := tl_false (A := A0) (l := [108, 105, 110, 101]) (by rw [hA0d, hp0]; decide)
  have f02 := tl_true (A := A0) (l := [112, 108, 105, 101, 115]) (by rw [hA0d, hp0]; rfl)
  have hCN := fun u hu => count_any A1 u hu
  rw [hA1d, show cntI p1 = (n : Int) by unfold cntI; rw [hn]] at hCN
  have HCN := hide hCN
  have HHT := hide ht
  have hni : (0 : Int) ≤ (n : Int) := by omega
  clear hsp hsd hp0 hA0d hA1 hA1d hn hb32 hCN ht
  go_enter Tryz.func20, Tryz.ntmps20
  go_wp2_with fail
  refine (unhide HSP).mono ?_
  rintro e w1 ⟨rfl, hb1, hrv⟩
  have r0 := hrv.cell (k := 0) (unhide HP0)
  rw [← unhide HA0] at r0
  have r1 := unhide HR1 w1 hrv
  have hg1 := (unhide HG).below hb1
  have HB1 := hide hb1
  have HG1 := hide hg1
  have hlt1 : w.heap.size < w1.heap.size := hrv.lt
  clear hb1 hrv
  go_wp2_with fail
  refine (hasPrefix_any s ⟨#[115, 116, 97, 114, 116, 32]⟩ w1).mono ?_
  rintro e w2 ⟨rfl, rfl⟩
  rw [unhide HPRE]
  go_wp2_with fail
  refine (unhide HCN _ ((unhide HHT).below (unhide HB1))).mono ?_
  rintro e w3 ⟨rfl, hb3⟩
  have hb4 := (unhide HB1).trans (hb3.mono (unhide HB1).size)
  have r1' := (hb3.cell (p := ⟨w.heap.size, 1, none⟩) hlt1).trans r1
  have hg3 := (unhide HG1).below hb3
  have HG3 := hide hg3
  have HB4 := hide hb4
  clear hb3 hg3 hb4
  go_wp2_with fail
  refine (unhide HCN _ ((unhide HHT).below (unhide HB4))).mono ?_
  rintro e w5 ⟨rfl, hb5⟩
  have hb6 := (unhide HB4).trans (hb5.mono (unhide HB4).size)
  have hg5 := (unhide HG3).below hb5
  have HB6 := hide hb6
  clear hb5 hb6
  obtain ⟨⟨u7, c7⟩, f7⟩ := hg5.cell 12 (by decide)
  have HFIN := hide (hg5.pl n)
  clear hg5
  go_wp2
  go_ret
  exact ⟨rfl, unhide HFIN, ((unhide HB6).mono (Nat.le_of_lt hgw)).setCell (p := ⟨g, 12, none⟩) (Nat.le_refl _) _⟩
end Go.Proofs.YtfhmpgjemobjhaaGreatDoor
