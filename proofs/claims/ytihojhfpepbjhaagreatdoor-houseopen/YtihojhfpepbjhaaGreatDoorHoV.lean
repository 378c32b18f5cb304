/-
  package house, walked: a house is copied; a line is taken.
-/
import Derived.Test.YtihojhfpepbjhaaGreatDoorHoU
import Derived.Deep.MidRow
namespace Go.Proofs.YtihojhfpepbjhaaGreatDoor
open Go.RowKit
attribute [local go_sem ↓] Go.wp_at_zero Go.wp_at_succ

theorem blk_setV {w : World} {b : Nat} {cs : Array Value} {t : TypeId} {fz : Nat × Nat} (h : w.heap[b]? = some (.cells cs t fz)) (i : Nat) (v : Value) : (w.setCell ⟨b, i, none⟩ v).heap[b]? = some (.cells (cs.setIfInBounds i v) t fz) := by
  simp [World.setCell, Array.getElem?_modify, h]
theorem isH.setAllV {w : World} {b : Nat} {v0 v1 v2 v3 v4 v5 v6 v7 v8 v9 v10 v11 v12 : Value} {l0 l1 nw W H : Int} {C : ByteArray} {T : Int} {A B : ByteArray} {y o : Int} {t : ByteArray} (h : isH w b v0 v1 v2 v3 v4 v5 v6 v7 v8 v9 v10 v11 v12 l0 l1 nw W H C T A B y o t) (u0 u1 u2 u3 u4 u5 u6 u7 u8 u9 u10 u11 u12 : Value) (l0' l1' nw' W' H' : Int) (C' : ByteArray) (T' : Int) (A' B' : ByteArray) (y' o' : Int) (t' : ByteArray) :
    isH (World.setCell (World.setCell (World.setCell (World.setCell (World.setCell (World.setCell (World.setCell (World.setCell (World.setCell (World.setCell (World.setCell (World.setCell (World.setCell (World.setCell (World.setCell (World.setCell (World.setCell (World.setCell (World.setCell (World.setCell (World.setCell (World.setCell (World.setCell (World.setCell (World.setCell w ⟨b, 0, none⟩ (.int .i64 l0')) ⟨b, 1, none⟩ (.int .i64 l1')) ⟨b, 2, none⟩ (.int .i64 nw')) ⟨b, 3, none⟩ (u0)) ⟨b, 4, none⟩ (u1)) ⟨b, 5, none⟩ (u2)) ⟨b, 6, none⟩ (u3)) ⟨b, 7, none⟩ (u4)) ⟨b, 8, none⟩ (u5)) ⟨b, 9, none⟩ (u6)) ⟨b, 10, none⟩ (u7)) ⟨b, 11, none⟩ (u8)) ⟨b, 12, none⟩ (u9)) ⟨b, 13, none⟩ (u10)) ⟨b, 14, none⟩ (u11)) ⟨b, 15, none⟩ (u12)) ⟨b, 16, none⟩ (.int .i64 W')) ⟨b, 17, none⟩ (.int .i64 H')) ⟨b, 18, none⟩ (.string C')) ⟨b, 19, none⟩ (.int .i64 T')) ⟨b, 20, none⟩ (.string A')) ⟨b, 21, none⟩ (.string B')) ⟨b, 22, none⟩ (.int .i64 y')) ⟨b, 23, none⟩ (.int .i64 o')) ⟨b, 24, none⟩ (.string t')) b u0 u1 u2 u3 u4 u5 u6 u7 u8 u9 u10 u11 u12 l0' l1' nw' W' H' C' T' A' B' y' o' t' := by
  unfold isH at h ⊢
  replace h := blk_setV h 0 (.int .i64 l0')
  simp only [List.setIfInBounds_toArray, List.set_cons_zero] at h
  replace h := blk_setV h 1 (.int .i64 l1')
  simp only [List.setIfInBounds_toArray, List.set_cons_zero, List.set_cons_succ] at h
  replace h := blk_setV h 2 (.int .i64 nw')
  simp only [List.setIfInBounds_toArray, List.set_cons_zero, List.set_cons_succ] at h
  replace h := blk_setV h 3 (u0)
  simp only [List.setIfInBounds_toArray, List.set_cons_zero, List.set_cons_succ] at h
  replace h := blk_setV h 4 (u1)
  simp only [List.setIfInBounds_toArray, List.set_cons_zero, List.set_cons_succ] at h
  replace h := blk_setV h 5 (u2)
  simp only [List.setIfInBounds_toArray, List.set_cons_zero, List.set_cons_succ] at h
  replace h := blk_setV h 6 (u3)
  simp only [List.setIfInBounds_toArray, List.set_cons_zero, List.set_cons_succ] at h
  replace h := blk_setV h 7 (u4)
  simp only [List.setIfInBounds_toArray, List.set_cons_zero, List.set_cons_succ] at h
  replace h := blk_setV h 8 (u5)
  simp only [List.setIfInBounds_toArray, List.set_cons_zero, List.set_cons_succ] at h
  replace h := blk_setV h 9 (u6)
  simp only [List.setIfInBounds_toArray, List.set_cons_zero, List.set_cons_succ] at h
  replace h := blk_setV h 10 (u7)
  simp only [List.setIfInBounds_toArray, List.set_cons_zero, List.set_cons_succ] at h
  replace h := blk_setV h 11 (u8)
  simp only [List.setIfInBounds_toArray, List.set_cons_zero, List.set_cons_succ] at h
  replace h := blk_setV h 12 (u9)
  simp only [List.setIfInBounds_toArray, List.set_cons_zero, List.set_cons_succ] at h
  replace h := blk_setV h 13 (u10)
  simp only [List.setIfInBounds_toArray, List.set_cons_zero, List.set_cons_succ] at h
  replace h := blk_setV h 14 (u11)
  simp only [List.setIfInBounds_toArray, List.set_cons_zero, List.set_cons_succ] at h
  replace h := blk_setV h 15 (u12)
  simp only [List.setIfInBounds_toArray, List.set_cons_zero, List.set_cons_succ] at h
  replace h := blk_setV h 16 (.int .i64 W')
  simp only [List.setIfInBounds_toArray, List.set_cons_zero, List.set_cons_succ] at h
  replace h := blk_setV h 17 (.int .i64 H')
  simp only [List.setIfInBounds_toArray, List.set_cons_zero, List.set_cons_succ] at h
  replace h := blk_setV h 18 (.string C')
  simp only [List.setIfInBounds_toArray, List.set_cons_zero, List.set_cons_succ] at h
  replace h := blk_setV h 19 (.int .i64 T')
  simp only [List.setIfInBounds_toArray, List.set_cons_zero, List.set_cons_succ] at h
  replace h := blk_setV h 20 (.string A')
  simp only [List.setIfInBounds_toArray, List.set_cons_zero, List.set_cons_succ] at h
  replace h := blk_setV h 21 (.string B')
  simp only [List.setIfInBounds_toArray, List.set_cons_zero, List.set_cons_succ] at h
  replace h := blk_setV h 22 (.int .i64 y')
  simp only [List.setIfInBounds_toArray, List.set_cons_zero, List.set_cons_succ] at h
  replace h := blk_setV h 23 (.int .i64 o')
  simp only [List.setIfInBounds_toArray, List.set_cons_zero, List.set_cons_succ] at h
  replace h := blk_setV h 24 (.string t')
  simp only [List.setIfInBounds_toArray, List.set_cons_zero, List.set_cons_succ] at h
  exact h

theorem setCells_below {B b : Nat} (hB : B ≤ b) : ∀ (vs : List Value) (o : Nat) {w w' : World}, Below B w w' → Below B w (w'.setCells b o vs)
  | [], _, _, _, h => h
  | v :: r, o, _, _, h => setCells_below hB r (o + 1) (h.setCell (p := ⟨b, o, none⟩) hB v)
theorem setCells_ex {b S : Nat} : ∀ (vs : List Value) (o : Nat) {w w' : World}, Ex b S w w' → Ex b S w (w'.setCells b o vs)
  | [], _, _, _, h => h
  | v :: r, o, _, _, h => setCells_ex r (o + 1) (h.set o v)
theorem isH.range
  {w : World} {b : Nat} {v0 v1 v2 v3 v4 v5 v6 v7 v8 v9 v10 v11 v12 : Value} {l0 l1 nw W H : Int} {C : ByteArray} {T : Int} {A B : ByteArray} {y o : Int} {t : ByteArray} (h : isH w b v0 v1 v2 v3 v4 v5 v6 v7 v8 v9 v10 v11 v12 l0 l1 nw W H C T A B y o t)
  : w.rangeAt b 0 [.int .i64 l0, .int .i64 l1, .int .i64 nw, v0, v1, v2, v3, v4, v5, v6, v7, v8, v9, v10, v11, v12, .int .i64 W, .int .i64 H, .string C, .int .i64 T, .string A, .string B, .int .i64 y, .int .i64 o, .string t] := by
  intro j v hj
  unfold isH at h
  unfold World.cell?
  rw [h]
  simpa using hj
theorem isH.there
  {w : World} {b : Nat} {v0 v1 v2 v3 v4 v5 v6 v7 v8 v9 v10 v11 v12 : Value} {l0 l1 nw W H : Int} {C : ByteArray} {T : Int} {A B : ByteArray} {y o : Int} {t : ByteArray} (h : isH w b v0 v1 v2 v3 v4 v5 v6 v7 v8 v9 v10 v11 v12 l0 l1 nw W H C T A B y o t)
  : w.there b 0 25 := by
  intro j hj
  refine ⟨?_, by rw [Nat.zero_add]; exact isH.frozen h j⟩
  unfold isH at h
  unfold World.cell?
  rw [h, Nat.zero_add]
  simp [hj]
theorem isH.store
  {w : World} {b : Nat} {v0 v1 v2 v3 v4 v5 v6 v7 v8 v9 v10 v11 v12 : Value} {l0 l1 nw W H : Int} {C : ByteArray} {T : Int} {A B : ByteArray} {y o : Int} {t : ByteArray} (h : isH w b v0 v1 v2 v3 v4 v5 v6 v7 v8 v9 v10 v11 v12 l0 l1 nw W H C T A B y o t)
  (u0 u1 u2 u3 u4 u5 u6 u7 u8 u9 u10 u11 u12 : Value) (l0' l1' nw' W' H' : Int) (C' : ByteArray) (T' : Int) (A' B' : ByteArray) (y' o' : Int) (t' : ByteArray) :
    isH (w.setCells b 0 [.int .i64 l0', .int .i64 l1', .int .i64 nw', u0, u1, u2, u3, u4, u5, u6, u7, u8, u9, u10, u11, u12, .int .i64 W', .int .i64 H', .string C', .int .i64 T', .string A', .string B', .int .i64 y', .int .i64 o', .string t']) b u0 u1 u2 u3 u4 u5 u6 u7 u8 u9 u10 u11 u12 l0' l1' nw' W' H' C' T' A' B' y' o' t' := by
  simp only [World.setCells, Nat.zero_add, Nat.reduceAdd]
  exact isH.setAllV h u0 u1 u2 u3 u4 u5 u6 u7 u8 u9 u10 u11 u12 l0' l1' nw' W' H' C' T' A' B' y' o' t'
/-- What a line does. -/
noncomputable def Gm.after (G : Gm) (x : Ho) (l : ByteArray) : Ho := (G.line x l).getD x
set_option maxHeartbeats 8000000 in
set_option maxRecDepth 100000 in
theorem takeLine_any (G : Gm) (ok : Po → Prop) (hG : G.Ok ok) (TX : Po → ByteArray) (b S : Nat) (W0 H0 T0 li : Int) (C0 A0 B0 : ByteArray) (ao : Option Addr) (n cap lo re : Nat) (dr st : Bool) (w00 w : World) (hc : Hc G ok TX S w00 (.int .i64 W0) (.int .i64 H0) (.string C0) (.int .i64 T0) (.string A0) (.string B0) (.slice ao n cap) (.bool dr) (.int .u8 (lo : Int)) (.int .i64 li) (.int .u8 (re : Int)) (.bool st)) (x : Ho) (hx : HoI G ok x) (h : isHo w b (.int .i64 W0) (.int .i64 H0) (.string C0) (.int .i64 T0) (.string A0) (.string B0) (.slice ao n cap) (.bool dr) (.int .u8 (lo : Int)) (.int .i64 li) (.int .u8 (re : Int)) (.bool st) (.int .i64 G.pl) x (G.ended x)) (hS : S ≤ b) (h00 : Below S w00 w) (s : ByteArray) (hs : s.size ≤ 4294967280) (mx : Int) (hm : w.cell? ⟨0, 0, none⟩ = some (.int .i64 mx)) (hE : isEr w) :
    Calls Tryz.prog 42 #[.pointer (some ⟨b, 0, none⟩), .string s] w fun e w' => e = .returned (.bool (G.line x s).isSome) ∧ isHo w' b (.int .i64 W0) (.int .i64 H0) (.string C0) (.int .i64 T0) (.string A0) (.string B0) (.slice ao n cap) (.bool dr) (.int .u8 (lo : Int)) (.int .i64 li) (.int .u8 (re : Int)) (.bool st) (.int .i64 G.pl) (G.after x s) (G.ended (G.after x s)) ∧ Ex b w.heap.size w w' := by
  have KM := messageOf_any s hs mx w hm hE
  obtain ⟨M, hM⟩ : ∃ M, M = msgOf s.data.toList := ⟨_, rfl⟩
  have hL0 : M = none → G.line x s = none := by
    intro hq
    unfold Gm.line
    rw [← hM, hq]
  have hL1 : ∀ p a mv, M = some (p, a, mv) → G.line x s = if (G.step x ⟨x.p.T, p, ⟨mv.toArray⟩, a⟩).2 = 1 ∧ lineX p (G.step x ⟨x.p.T, p, ⟨mv.toArray⟩, a⟩).1.now ⟨mv.toArray⟩ = s ++ ⟨#[10]⟩ then some (G.step x ⟨x.p.T, p, ⟨mv.toArray⟩, a⟩).1 else none := by
    intro p a mv hq
    unfold Gm.line
    rw [← hM, hq]
  have hMb : ∀ p a mv, M = some (p, a, mv) → a < 9223372036854775808 := by
    intro p a mv hq
    rw [hM] at hq
    unfold msgOf at hq
    split at hq
    · split at hq
      · rename_i h1 _ _ h2
        cases hq
        have := Lib.atoiAll_bounds h2
        omega
      · cases hq
    · cases hq
  rw [← hM] at KM
  obtain ⟨R, hR⟩ : ∃ R, R = G.line x s := ⟨_, rfl⟩
  rw [← hR] at hL0 hL1
  have hA : G.after x s = R.getD x := by unfold Gm.after; rw [← hR]
  rw [hA, ← hR]
  have HL0 := hide hL0
  have HL1 := hide hL1
  have HKM := hide KM
  have HMB := hide hMb
  have hbl := isH.lt h
  have H := hide h
  have HX := hide hx
  have HC := hide hc
  have HG := hide hG
  have HS := hide hS
  have H00 := hide h00
  have HSZ := hide hs
  clear KM hM hL0 hL1 hMb hR hA hm hE hx hc hG h00 hs
  go_enter Tryz.func42, Tryz.ntmps42
  go_wp2_with fail
  refine (unhide HKM).mono ?_
  rintro e w1 ⟨⟨p, a, mv, rfl, hmsg⟩, hb1⟩
  have HMG := hide hmsg
  have HB1 := hide hb1
  clear HKM hmsg hb1
  cases M with
  | none =>
    have hRn : R = none := unhide HL0 rfl
    subst hRn
    have HH1 := hide (isH.below (unhide H) (unhide HB1) hbl)
    clear h
    go_upto_region 2 with fail
    obtain ⟨w2, hw2⟩ : ∃ w2, w2 = w1.alloc (.cells #[.int .i64 0, .int .i64 p, .string ⟨mv.toArray⟩, .int .i64 a] 43) := ⟨_, rfl⟩
    rw [← hw2]
    have hb2 : Below w1.heap.size w1 w2 := by rw [hw2]; exact (Below.refl _ _).alloc (Nat.le_refl _) _
    obtain ⟨bq, hbq⟩ : ∃ bq, bq = w1.heap.size := ⟨_, rfl⟩
    rw [← hbq]
    have hg2 : isG w2 bq ⟨0, p, ⟨mv.toArray⟩, a⟩ := by rw [hw2, hbq]; exact isG.new w1 ⟨0, p, ⟨mv.toArray⟩, a⟩
    have hb1s := (unhide HB1).size
    rw [← hbq] at hb1s
    have H2 := hide (isH.below (unhide HH1) hb2 (isH.lt (unhide HH1)))
    have HB2 := hide ((unhide HB1).trans (hb2.mono (by omega)))
    have HG2 := hide hg2
    obtain ⟨c0, c1, c2, c3⟩ := hg2.cells
    have f0 := hg2.frozen 0
    have hgl := hg2.lt
    have hbqb : b < bq := by rw [hbq]; exact isH.lt (unhide HH1)
    clear hw2 hb2 hg2 HB1 HH1 hbq
    clear c0 c1 c2 c3 f0
    go_wp2
    go_ret
    exact ⟨rfl, unhide H2, Ex.of (unhide HB2)⟩
  | some t =>
    obtain ⟨p', a', mv'⟩ := t
    have ht := unhide HMG _ rfl
    cases ht
    have HH1 := hide (isH.below (unhide H) (unhide HB1) hbl)
    clear h HMG H
    go_upto_region 2 with fail
    obtain ⟨w2, hw2⟩ : ∃ w2, w2 = w1.alloc (.cells #[.int .i64 0, .int .i64 p, .string ⟨mv.toArray⟩, .int .i64 a] 43) := ⟨_, rfl⟩
    rw [← hw2]
    have hb2 : Below w1.heap.size w1 w2 := by rw [hw2]; exact (Below.refl _ _).alloc (Nat.le_refl _) _
    obtain ⟨bq, hbq⟩ : ∃ bq, bq = w1.heap.size := ⟨_, rfl⟩
    rw [← hbq]
    have hg2 : isG w2 bq ⟨0, p, ⟨mv.toArray⟩, a⟩ := by rw [hw2, hbq]; exact isG.new w1 ⟨0, p, ⟨mv.toArray⟩, a⟩
    have hb1s := (unhide HB1).size
    rw [← hbq] at hb1s
    have H2 := hide (isH.below (unhide HH1) hb2 (isH.lt (unhide HH1)))
    have HB2 := hide ((unhide HB1).trans (hb2.mono (by omega)))
    have HG2 := hide hg2
    obtain ⟨c0, c1, c2, c3⟩ := hg2.cells
    have f0 := hg2.frozen 0
    have hgl := hg2.lt
    have hbqb : b < bq := by rw [hbq]; exact isH.lt (unhide HH1)
    clear hw2 hb2 hg2 HB1 HH1 hbq
    have cT := (isH.cells (unhide H2)).2.2.1.2.2.2.1
    go_upto_region 5 with fail
    obtain ⟨w3, hw3⟩ : ∃ w3, w3 = w2.setCell ⟨bq, 0, none⟩ (.int .i64 x.p.T) := ⟨_, rfl⟩
    rw [← hw3]
    have hb3 : Below bq w2 w3 := by rw [hw3]; exact (Below.refl _ _).setCell (p := ⟨bq, 0, none⟩) (Nat.le_refl _) _
    have hg3 : isG w3 bq ⟨x.p.T, p, ⟨mv.toArray⟩, a⟩ := by
      rw [hw3]
      have := blk_setV (unhide HG2) 0 (.int .i64 x.p.T)
      simp only [List.setIfInBounds_toArray, List.set_cons_zero] at this
      exact this
    have h3 := isH.below (unhide H2) hb3 hbqb
    have HB3 := hide ((unhide HB2).trans (hb3.mono (by omega)))
    have H3 := hide h3
    have HG3 := hide hg3
    have hg3l := hg3.lt
    clear hw3 hb3 HG2 H2 HB2 c0 c1 c2 c3 f0 cT hgl
    have hrg := isH.range h3
    clear h3
    refine wp_region_lit ?_
    refine wpList_plain rfl (fun K hK => ?_)
    go_simp
    refine hK _ _ ?_
    clear hK K
    try simp only [Act.put, List.getElem_toArray, List.getElem_cons_zero, List.getElem_cons_succ, List.setIfInBounds_toArray, List.set_cons_zero, List.set_cons_succ]
    refine wpList_plain rfl (fun K hK => ?_)
    go_simp
    refine hK _ _ ?_
    clear hK K
    try simp only [Act.put, List.getElem_toArray, List.getElem_cons_zero, List.getElem_cons_succ, List.setIfInBounds_toArray, List.set_cons_zero, List.set_cons_succ]
    refine wpList_load_mid rfl 82 _ rfl b 0 (by simp [Act.eval]) _ _ hrg Tryz.underlying82 rfl (by kernel_rfl) ?_
    simp only [Act.put, List.setIfInBounds_toArray, List.set_cons_zero, List.set_cons_succ]
    refine wpList_plain rfl (fun K hK => ?_)
    go_simp
    refine hK _ _ ?_
    clear hK K
    try simp only [Act.put, List.getElem_toArray, List.getElem_cons_zero, List.getElem_cons_succ, List.setIfInBounds_toArray, List.set_cons_zero, List.set_cons_succ]
    obtain ⟨wz, hwz⟩ : ∃ wz, wz = w3.alloc (.cells #[.int .i64 0, .int .i64 0, .int .i64 0, .int .i64 0, .int .i64 0, .string ⟨#[]⟩, .int .i64 0, .string ⟨#[]⟩, .string ⟨#[]⟩, .slice none 0 0, .bool false, .int .u8 0, .int .i64 0, .int .u8 0, .bool false, .int .i64 0, .int .i64 0, .int .i64 0, .string ⟨#[]⟩, .int .i64 0, .string ⟨#[]⟩, .string ⟨#[]⟩, .int .i64 0, .int .i64 0, .string ⟨#[]⟩] 82) := ⟨_, rfl⟩
    rw [← hwz]
    obtain ⟨bc, hbc⟩ : ∃ bc, bc = w3.heap.size := ⟨_, rfl⟩
    rw [← hbc]
    have hnz : isH wz bc (.int .i64 0) (.int .i64 0) (.string ⟨#[]⟩) (.int .i64 0) (.string ⟨#[]⟩) (.string ⟨#[]⟩) (.slice none 0 0) (.bool false) (.int .u8 0) (.int .i64 0) (.int .u8 0) (.bool false) (.int .i64 0) 0 0 0 0 0 ⟨#[]⟩ 0 ⟨#[]⟩ ⟨#[]⟩ 0 0 ⟨#[]⟩ := by rw [hwz, hbc]; exact heap_alloc_new w3 _
    have hbz : Below bc w3 wz := by rw [hwz, hbc]; exact (Below.refl _ _).alloc (Nat.le_refl _) _
    refine wpList_store_mid rfl 82 _ _ rfl bc 0 #[.int .i64 x.l0, .int .i64 x.l1, .int .i64 x.now, .int .i64 W0, .int .i64 H0, .string C0, .int .i64 T0, .string A0, .string B0, .slice ao n cap, .bool dr, .int .u8 (lo : Int), .int .i64 li, .int .u8 (re : Int), .bool st, .int .i64 G.pl, .int .i64 x.p.W, .int .i64 x.p.H, .string x.p.C, .int .i64 x.p.T, .string x.p.A, .string x.p.B, .int .i64 x.ply, .int .i64 (G.ended x), .string x.tx] (by simp [Act.eval]) (by simp [Act.eval]) (isH.there hnz) (by kernel_rfl) (by simp [Value.oneCell']) ?_
    simp only [Act.put]
    refine wpList_nil ?_
    have hn4 : isHo (wz.setCells bc 0 [.int .i64 x.l0, .int .i64 x.l1, .int .i64 x.now, .int .i64 W0, .int .i64 H0, .string C0, .int .i64 T0, .string A0, .string B0, .slice ao n cap, .bool dr, .int .u8 (lo : Int), .int .i64 li, .int .u8 (re : Int), .bool st, .int .i64 G.pl, .int .i64 x.p.W, .int .i64 x.p.H, .string x.p.C, .int .i64 x.p.T, .string x.p.A, .string x.p.B, .int .i64 x.ply, .int .i64 (G.ended x), .string x.tx]) bc (.int .i64 W0) (.int .i64 H0) (.string C0) (.int .i64 T0) (.string A0) (.string B0) (.slice ao n cap) (.bool dr) (.int .u8 (lo : Int)) (.int .i64 li) (.int .u8 (re : Int)) (.bool st) (.int .i64 G.pl) x (G.ended x) := isH.store hnz (.int .i64 W0) (.int .i64 H0) (.string C0) (.int .i64 T0) (.string A0) (.string B0) (.slice ao n cap) (.bool dr) (.int .u8 (lo : Int)) (.int .i64 li) (.int .u8 (re : Int)) (.bool st) (.int .i64 G.pl) x.l0 x.l1 x.now x.p.W x.p.H x.p.C x.p.T x.p.A x.p.B x.ply (G.ended x) x.tx
    have hb4 : Below bc w3 (wz.setCells bc 0 [.int .i64 x.l0, .int .i64 x.l1, .int .i64 x.now, .int .i64 W0, .int .i64 H0, .string C0, .int .i64 T0, .string A0, .string B0, .slice ao n cap, .bool dr, .int .u8 (lo : Int), .int .i64 li, .int .u8 (re : Int), .bool st, .int .i64 G.pl, .int .i64 x.p.W, .int .i64 x.p.H, .string x.p.C, .int .i64 x.p.T, .string x.p.A, .string x.p.B, .int .i64 x.ply, .int .i64 (G.ended x), .string x.tx]) := setCells_below (Nat.le_refl _) _ _ hbz
    obtain ⟨w4, hw4⟩ : ∃ w4, w4 = wz.setCells bc 0 [.int .i64 x.l0, .int .i64 x.l1, .int .i64 x.now, .int .i64 W0, .int .i64 H0, .string C0, .int .i64 T0, .string A0, .string B0, .slice ao n cap, .bool dr, .int .u8 (lo : Int), .int .i64 li, .int .u8 (re : Int), .bool st, .int .i64 G.pl, .int .i64 x.p.W, .int .i64 x.p.H, .string x.p.C, .int .i64 x.p.T, .string x.p.A, .string x.p.B, .int .i64 x.ply, .int .i64 (G.ended x), .string x.tx] := ⟨_, rfl⟩
    rw [← hw4] at hn4 hb4 ⊢
    go_upto_region 6 with fail
    have hbqc : bq < bc := by rw [hbc]; exact hg3l
    have hg4 := (unhide HG3).below hb4 hbqc
    have h4 := isH.below (unhide H3) hb4 (by omega)
    have hb04 : Below w.heap.size w w4 := (unhide HB3).trans (hb4.mono (by omega))
    have hma := unhide HMB p a mv rfl
    have hTk := hTk_any G ok (unhide HG) TX bc S (.int .i64 W0) (.int .i64 H0) (.string C0) (.int .i64 T0) (.string A0) (.string B0) (.slice ao n cap) (.bool dr) (.int .u8 (lo : Int)) (.int .i64 li) (.int .u8 (re : Int)) (.bool st) w00 w4 (unhide HC) x ⟨x.p.T, p, ⟨mv.toArray⟩, a⟩ (unhide HX) hma hn4 (by have := unhide HS; omega) ((unhide H00).trans (hb04.mono (by have := unhide HS; omega)))
    have hL := unhide HL1 p a mv rfl
    have hXI := (unhide HX).step (unhide HG) (m := ⟨x.p.T, p, ⟨mv.toArray⟩, a⟩) hma
    have hdn := fun h => step_done (G := G) (x := x) (m := ⟨x.p.T, p, ⟨mv.toArray⟩, a⟩) h
    obtain ⟨X, hX⟩ : ∃ X, X = G.step x ⟨x.p.T, p, ⟨mv.toArray⟩, a⟩ := ⟨_, rfl⟩
    rw [← hX] at hTk hL hXI hdn
    obtain ⟨k0, k1, k2, k3⟩ := hg4.cells
    have HTK := hide hTk
    have HL := hide hL
    have HXI := hide hXI
    have HDN := hide hdn
    have H4 := hide h4
    have HG4 := hide hg4
    have HB4 := hide hb04
    have hn4l := isH.lt hn4
    clear hTk hL hXI hdn h4 hg4 hb04 hw4 hbc hX hb4 hn4 hrg hwz hnz hbz HG3 H3 HB3 HL0 HL1 hg3l
    go_wp2_with fail
    refine (unhide HTK).mono ?_
    rintro e w5 ⟨rfl, h5, hx5⟩
    have h5b := isH.ex (unhide H4) hx5 (by omega) (by omega)
    have hg5 := (unhide HG4).ex hx5 (by omega) (by omega)
    have hb5 : Below w.heap.size w w5 := (unhide HB4).trans (hx5.fresh (by omega) (by omega))
    obtain ⟨k0, k1, k2, k3⟩ := hg5.cells
    have c2 := (isH.cells h5).1.2.2
    have H5 := hide h5
    have H5B := hide h5b
    have HB5 := hide hb5
    clear hx5 h5 h5b hg5 hb5 HTK H4 HG4 HB4
    by_cases hd : X.2 = 1
    · obtain ⟨-, hp, -, -, q, hf, -⟩ := unhide HDN hd
      try dsimp only at hp hf
      obtain ⟨hqm, hqt⟩ := Gm.find_mem hf
      have hms : (⟨mv.toArray⟩ : ByteArray).size ≤ 10 := by
        have := (unhide HG).tx _ (unhide HX).p q hqm
        rw [hqt] at this
        exact this
      have hpl := (unhide HX).ply
      have hpl1 := (unhide HG).pl
      have HLF := hide (lineOf_any p X.1.now ⟨mv.toArray⟩ w5 (by omega) (unhide HXI).now hms ((unhide HC).tab w5 ((unhide H00).trans ((unhide HB5).mono (by have := unhide HS; omega)))))
      obtain ⟨LN, hLN⟩ : ∃ LN, LN = lineX p X.1.now ⟨mv.toArray⟩ := ⟨_, rfl⟩
      rw [← hLN] at HLF HL
      clear hLN hf hqm hqt hms HDN hpl hpl1 hp
      rw [hd]
      go_wp2_with fail
      refine (unhide HLF).mono ?_
      rintro e w6 ⟨rfl, hb6⟩
      have h6 := isH.below (unhide H5) hb6 (isH.lt (unhide H5))
      have h6b := isH.below (unhide H5B) hb6 (isH.lt (unhide H5B))
      have hb06 : Below w.heap.size w w6 := (unhide HB5).trans (hb6.mono (unhide HB5).size)
      have H6B := hide h6b
      have HB6 := hide hb06
      have hsz := unhide HSZ
      have e2 : (⟨#[10]⟩ : ByteArray).size = 1 := rfl
      have hrg := isH.range h6
      clear hb6 H5 H5B HB5 h6b hb06 h6 HLF k0 k1 k2 k3 c2
      by_cases hq : LN = s ++ ⟨#[10]⟩
      · have hR : R = some X.1 := by rw [unhide HL, if_pos ⟨hd, hq⟩]
        subst hR
        have HRG := hide hrg
        clear hrg
        go_upto_region 8 with fail
        refine wp_region_lit ?_
        refine wpList_plain rfl (fun K hK => ?_)
        go_simp
        refine hK _ _ ?_
        clear hK K
        try simp only [Act.put, List.getElem_toArray, List.getElem_cons_zero, List.getElem_cons_succ, List.setIfInBounds_toArray, List.set_cons_zero, List.set_cons_succ]
        refine wpList_load_mid rfl 82 _ rfl bc 0 (by simp [Act.eval]) _ _ (unhide HRG) Tryz.underlying82 rfl (by kernel_rfl) ?_
        simp only [Act.put, List.setIfInBounds_toArray, List.set_cons_zero, List.set_cons_succ]
        refine wpList_plain rfl (fun K hK => ?_)
        go_simp
        refine hK _ _ ?_
        clear hK K
        try simp only [Act.put, List.getElem_toArray, List.getElem_cons_zero, List.getElem_cons_succ, List.setIfInBounds_toArray, List.set_cons_zero, List.set_cons_succ]
        refine wpList_store_mid rfl 82 _ _ rfl b 0 #[.int .i64 X.1.l0, .int .i64 X.1.l1, .int .i64 X.1.now, .int .i64 W0, .int .i64 H0, .string C0, .int .i64 T0, .string A0, .string B0, .slice ao n cap, .bool dr, .int .u8 (lo : Int), .int .i64 li, .int .u8 (re : Int), .bool st, .int .i64 G.pl, .int .i64 X.1.p.W, .int .i64 X.1.p.H, .string X.1.p.C, .int .i64 X.1.p.T, .string X.1.p.A, .string X.1.p.B, .int .i64 X.1.ply, .int .i64 (G.ended X.1), .string X.1.tx] (by simp [Act.eval]) (by simp [Act.eval]) (isH.there (unhide H6B)) (by kernel_rfl) (by simp [Value.oneCell']) ?_
        simp only [Act.put]
        refine wpList_nil ?_
        have hn7 : isHo (w6.setCells b 0 [.int .i64 X.1.l0, .int .i64 X.1.l1, .int .i64 X.1.now, .int .i64 W0, .int .i64 H0, .string C0, .int .i64 T0, .string A0, .string B0, .slice ao n cap, .bool dr, .int .u8 (lo : Int), .int .i64 li, .int .u8 (re : Int), .bool st, .int .i64 G.pl, .int .i64 X.1.p.W, .int .i64 X.1.p.H, .string X.1.p.C, .int .i64 X.1.p.T, .string X.1.p.A, .string X.1.p.B, .int .i64 X.1.ply, .int .i64 (G.ended X.1), .string X.1.tx]) b (.int .i64 W0) (.int .i64 H0) (.string C0) (.int .i64 T0) (.string A0) (.string B0) (.slice ao n cap) (.bool dr) (.int .u8 (lo : Int)) (.int .i64 li) (.int .u8 (re : Int)) (.bool st) (.int .i64 G.pl) X.1 (G.ended X.1) := isH.store (unhide H6B) (.int .i64 W0) (.int .i64 H0) (.string C0) (.int .i64 T0) (.string A0) (.string B0) (.slice ao n cap) (.bool dr) (.int .u8 (lo : Int)) (.int .i64 li) (.int .u8 (re : Int)) (.bool st) (.int .i64 G.pl) X.1.l0 X.1.l1 X.1.now X.1.p.W X.1.p.H X.1.p.C X.1.p.T X.1.p.A X.1.p.B X.1.ply (G.ended X.1) X.1.tx
        have hx7 : Ex b w.heap.size w (w6.setCells b 0 [.int .i64 X.1.l0, .int .i64 X.1.l1, .int .i64 X.1.now, .int .i64 W0, .int .i64 H0, .string C0, .int .i64 T0, .string A0, .string B0, .slice ao n cap, .bool dr, .int .u8 (lo : Int), .int .i64 li, .int .u8 (re : Int), .bool st, .int .i64 G.pl, .int .i64 X.1.p.W, .int .i64 X.1.p.H, .string X.1.p.C, .int .i64 X.1.p.T, .string X.1.p.A, .string X.1.p.B, .int .i64 X.1.ply, .int .i64 (G.ended X.1), .string X.1.tx]) := setCells_ex _ _ (Ex.of (unhide HB6))
        obtain ⟨w7, hw7⟩ : ∃ w7, w7 = w6.setCells b 0 [.int .i64 X.1.l0, .int .i64 X.1.l1, .int .i64 X.1.now, .int .i64 W0, .int .i64 H0, .string C0, .int .i64 T0, .string A0, .string B0, .slice ao n cap, .bool dr, .int .u8 (lo : Int), .int .i64 li, .int .u8 (re : Int), .bool st, .int .i64 G.pl, .int .i64 X.1.p.W, .int .i64 X.1.p.H, .string X.1.p.C, .int .i64 X.1.p.T, .string X.1.p.A, .string X.1.p.B, .int .i64 X.1.ply, .int .i64 (G.ended X.1), .string X.1.tx] := ⟨_, rfl⟩
        rw [← hw7] at hn7 hx7 ⊢
        have H7 := hide hn7
        have HX7 := hide hx7
        clear hw7 hn7 hx7 H6B HB6 HRG
        go_wp2
        go_ret
        exact ⟨rfl, unhide H7, unhide HX7⟩
      · have hR : R = none := by rw [unhide HL, if_neg (fun h => hq h.2)]
        subst hR
        have hq1 : (LN.toList == (s ++ (⟨#[10]⟩ : ByteArray)).toList) = false := by
          rw [beq_eq_false_iff_ne]
          intro h
          rw [Lib.toList_data, Lib.toList_data] at h
          exact hq (ByteArray.ext (Array.ext' h))
        clear hrg
        go_wp2
        go_ret
        exact ⟨rfl, unhide H6B, Ex.of (unhide HB6)⟩
    · have hR : R = none := by rw [unhide HL, if_neg (fun h => hd h.1)]
      subst hR
      go_wp2
      go_ret
      exact ⟨rfl, unhide H5B, Ex.of (unhide HB5)⟩
end Go.Proofs.YtihojhfpepbjhaaGreatDoor
