/-
  gamekeep.HouseOnce, walked where the rules and the time are right.
-/
import Derived.Test.YtihojhfpepbjhaaGreatDoorJ32
namespace Go.Proofs.YtihojhfpepbjhaaGreatDoor
open Go.RowKit
attribute [local go_sem ↓] Go.wp_at_zero Go.wp_at_succ

/-- Two houses of the program. -/
structure TwoB (G : Gm) (n : Nat) (s : Po) (dr st : Bool) (lo re : Nat) (li : Int) (ba bb : Nat) (aoa : Option Addr) (cpa : Nat) (aob : Option Addr) (cpb : Nat) (w0 wa vb : World) (wr : World) (X Z : Ho) : Prop where
  ha : isHo wr ba (.int .i64 s.W) (.int .i64 s.H) (.string s.C) (.int .i64 s.T) (.string s.A) (.string s.B) (.slice aoa n cpa) (.bool dr) (.int .u8 (lo : Int)) (.int .i64 li) (.int .u8 (re : Int)) (.bool st) (.int .i64 G.pl) X (G.ended X)
  hb : isHo wr bb (.int .i64 s.W) (.int .i64 s.H) (.string s.C) (.int .i64 s.T) (.string s.A) (.string s.B) (.slice aob n cpb) (.bool dr) (.int .u8 (lo : Int)) (.int .i64 li) (.int .u8 (re : Int)) (.bool st) (.int .i64 G.pl) Z (G.ended Z)
  low : Below w0.heap.size w0 wr
  lowa : Below ba wa wr
  exb : Ex ba bb vb wr
theorem TwoB.below {G : Gm} {n : Nat} {s : Po} {dr st : Bool} {lo re : Nat} {li : Int} {ba bb : Nat} {aoa : Option Addr} {cpa : Nat} {aob : Option Addr} {cpb : Nat} {w0 wa vb : World} {wr w' : World} {X Z : Ho} (h : TwoB G n s dr st lo re li ba bb aoa cpa aob cpb w0 wa vb wr X Z) (hb : Below wr.heap.size wr w') : TwoB G n s dr st lo re li ba bb aoa cpa aob cpb w0 wa vb w' X Z :=
  ⟨isH.below h.ha hb (isH.lt h.ha), isH.below h.hb hb (isH.lt h.hb), h.low.trans (hb.mono h.low.size), h.lowa.trans (hb.mono (Nat.le_of_lt (isH.lt h.ha))), h.exb.trans (Ex.of (hb.mono (Nat.le_of_lt (isH.lt h.hb))))⟩
theorem TwoB.stepA {G : Gm} {n : Nat} {s : Po} {dr st : Bool} {lo re : Nat} {li : Int} {ba bb : Nat} {aoa : Option Addr} {cpa : Nat} {aob : Option Addr} {cpb : Nat} {w0 wa vb : World} {wr w' : World} {X Y Z : Ho} (h : TwoB G n s dr st lo re li ba bb aoa cpa aob cpb w0 wa vb wr X Z) (hab : ba < bb) (h0 : w0.heap.size ≤ ba) (h1 : isHo w' ba (.int .i64 s.W) (.int .i64 s.H) (.string s.C) (.int .i64 s.T) (.string s.A) (.string s.B) (.slice aoa n cpa) (.bool dr) (.int .u8 (lo : Int)) (.int .i64 li) (.int .u8 (re : Int)) (.bool st) (.int .i64 G.pl) Y (G.ended Y)) (hx : Ex ba wr.heap.size wr w') : TwoB G n s dr st lo re li ba bb aoa cpa aob cpb w0 wa vb w' Y Z := by
  have la := isH.lt h.ha
  have lb := isH.lt h.hb
  exact ⟨h1, isH.ex h.hb hx lb (by omega), h.low.trans (hx.fresh h0 (by omega)), h.lowa.trans (hx.fresh (Nat.le_refl _) (by omega)), h.exb.trans (hx.mono (by omega))⟩
theorem TwoB.stepB {G : Gm} {n : Nat} {s : Po} {dr st : Bool} {lo re : Nat} {li : Int} {ba bb : Nat} {aoa : Option Addr} {cpa : Nat} {aob : Option Addr} {cpb : Nat} {w0 wa vb : World} {wr w' : World} {X Z Y : Ho} (h : TwoB G n s dr st lo re li ba bb aoa cpa aob cpb w0 wa vb wr X Z) (hab : ba < bb) (h0 : w0.heap.size ≤ ba) (h1 : isHo w' bb (.int .i64 s.W) (.int .i64 s.H) (.string s.C) (.int .i64 s.T) (.string s.A) (.string s.B) (.slice aob n cpb) (.bool dr) (.int .u8 (lo : Int)) (.int .i64 li) (.int .u8 (re : Int)) (.bool st) (.int .i64 G.pl) Y (G.ended Y)) (hx : Ex bb wr.heap.size wr w') : TwoB G n s dr st lo re li ba bb aoa cpa aob cpb w0 wa vb w' X Y := by
  have la := isH.lt h.ha
  have lb := isH.lt h.hb
  exact ⟨isH.ex h.ha hx la (by omega), h1, h.low.trans (hx.fresh (by omega) (by omega)), h.lowa.trans (hx.fresh (by omega) (by omega)), h.exb.trans (Ex.of (hx.fresh (Nat.le_refl _) (by omega)))⟩
/-- A slice of numbers. -/
structure isAg (w : World) (lo : Option Addr) (lc : Nat) (l : List Int) : Prop where
  le : l.length ≤ lc
  mx : lc ≤ maxLen
  cells : l ≠ [] → ∃ g off, lo = some ⟨g, off, none⟩ ∧ g < w.heap.size ∧ ∀ (i : Nat) (v : Int), l[i]? = some v → w.cell? ⟨g, off + i, none⟩ = some (.int .i64 v)
/-- A reply in a box. -/
def isQ (w : World) (q : Nat) (a b c : Int) (t : ByteArray) : Prop := w.heap[q]? = some (.cells #[.int .i64 a, .int .i64 b, .int .i64 c, .string t] 40 (0, 0))
theorem isQ_lt {w : World} {q : Nat} {a b c : Int} {t : ByteArray} (h : isQ w q a b c t) : q < w.heap.size := (Array.getElem?_eq_some_iff.1 h).1
theorem isQ_below {w w' : World} {q : Nat} {a b c : Int} {t : ByteArray} (h : isQ w q a b c t) (hb : Below w.heap.size w w') : isQ w' q a b c t := (hb.block q (isQ_lt h)).trans h
theorem isQ_ex {w w' : World} {q d S : Nat} {a b c : Int} {t : ByteArray} (h : isQ w q a b c t) (hx : Ex d S w w') (hq : q < S) (hn : q ≠ d) : isQ w' q a b c t := (hx.block q hq hn).trans h
theorem isQ_cells {w : World} {q : Nat} {a b c : Int} {t : ByteArray} (h : isQ w q a b c t) : w.cell? ⟨q, 0, none⟩ = some (.int .i64 a) ∧ w.cell? ⟨q, 1, none⟩ = some (.int .i64 b) ∧ w.cell? ⟨q, 2, none⟩ = some (.int .i64 c) ∧ w.cell? ⟨q, 3, none⟩ = some (.string t) := by
  unfold isQ at h
  simp [World.cell?, h]
theorem isQ_frozen {w : World} {q : Nat} {a b c : Int} {t : ByteArray} (h : isQ w q a b c t) (k : Nat) : w.frozen? ⟨q, k, none⟩ = false := frozen_of_row w q k _ _ h
theorem isQ_set {w : World} {q : Nat} {a b c : Int} {t : ByteArray} (h : isQ w q a b c t) (a' b' c' : Int) (t' : ByteArray) : isQ ((((w.setCell ⟨q, 0, none⟩ (.int .i64 a')).setCell ⟨q, 1, none⟩ (.int .i64 b')).setCell ⟨q, 2, none⟩ (.int .i64 c')).setCell ⟨q, 3, none⟩ (.string t')) q a' b' c' t' := by
  unfold isQ at h ⊢; simp [World.setCell, Array.getElem?_modify, h]
theorem ex_set4 (w : World) (q : Nat) (x0 x1 x2 x3 : Value) : Ex q w.heap.size w ((((w.setCell ⟨q, 0, none⟩ x0).setCell ⟨q, 1, none⟩ x1).setCell ⟨q, 2, none⟩ x2).setCell ⟨q, 3, none⟩ x3) := ((((Ex.refl _ _ _).set 0 x0).set 1 x1).set 2 x2).set 3 x3
theorem TwoB.far {G : Gm} {n : Nat} {s : Po} {dr st : Bool} {lo re : Nat} {li : Int} {ba bb : Nat} {aoa : Option Addr} {cpa : Nat} {aob : Option Addr} {cpb : Nat} {w0 wa vb : World} {wr w' : World} {X Z : Ho} (h : TwoB G n s dr st lo re li ba bb aoa cpa aob cpb w0 wa vb wr X Z) {q : Nat} (hab : ba < bb) (hq : bb < q) (h0 : w0.heap.size ≤ ba) (hx : Ex q wr.heap.size wr w') : TwoB G n s dr st lo re li ba bb aoa cpa aob cpb w0 wa vb w' X Z := by
  have la := isH.lt h.ha
  have lb := isH.lt h.hb
  exact ⟨isH.ex h.ha hx la (by omega), isH.ex h.hb hx lb (by omega), h.low.trans (hx.fresh (by omega) (by omega)), h.lowa.trans (hx.fresh (by omega) (by omega)), h.exb.trans (Ex.of (hx.fresh (by omega) (by omega)))⟩
theorem cutForQ (R : Nat → Nat → World → Prop) {T : Nat → Nat → World → Prop} {G : Prop} (k : Hid (∀ a b v, R a b v → T a b v) → G) (p : ∀ a b v, R a b v → T a b v) : G := k (hide p)
set_option maxHeartbeats 16000000 in
set_option maxRecDepth 100000 in
theorem once_yes (G : Gm) (ok : Po → Prop) (hG : G.Ok ok) (TX : Po → ByteArray) (s : Po) (hs : ok s) (ao : Option Addr) (cap : Nat) (ps : List Pc) (dr st : Bool) (lo re : Nat) (li time : Int) (mo : Option Addr) (mc : Nat) (ml : List Ms) (io : Option Addr) (ic : Nat) (il : List Int) (w : World) (ht : 1 ≤ time ∧ time ≤ 1000000)
    (hml : isMl w mo mc ml) (hmb : ∀ m ∈ ml, m.at_ < 9223372036854775808) (hil : isAg w io ic il)
    (hHo : ∀ u, Below w.heap.size w u → Calls Tryz.prog 15 #[] u fun e u' => e = .returned (.bool true) ∧ Below u.heap.size u u')
    (hNew : ∀ u, Below w.heap.size w u → Calls Tryz.prog 8 #[.agg #[.int .i64 s.W, .int .i64 s.H, .string s.C, .int .i64 s.T, .string s.A, .string s.B, .slice ao ps.length cap, .bool dr, .int .u8 (lo : Int), .int .i64 li, .int .u8 (re : Int), .bool st, .int .i64 G.pl], .int .i64 time] u fun e w' => ∃ b ao2 cp2 w00, e = .returned (.tuple #[.pointer (some ⟨b, 0, none⟩), .int .i64 0]) ∧ NewE G s.W s.H s.C s.T s.A s.B ps dr st lo re li time u w' b ao2 cp2 w00)
    (hHc : ∀ b ao2 cp2 w00, w00.heap.size = b → isPcs w00 ao2 cp2 ps → Below w.heap.size w w00 → Hc G ok TX b w00 (.int .i64 s.W) (.int .i64 s.H) (.string s.C) (.int .i64 s.T) (.string s.A) (.string s.B) (.slice ao2 ps.length cp2) (.bool dr) (.int .u8 (lo : Int)) (.int .i64 li) (.int .u8 (re : Int)) (.bool st))
    (hHl : ∀ ba base bb ao2 cp2 v u, v.heap.size = bb → isPcs v ao2 cp2 ps → PcsFrom base v ao2 ps → ba < base → bb ≤ u.heap.size → Ex ba bb v u → Below w.heap.size w u → w.heap.size ≤ bb → Hc G ok TX bb (cutW bb u) (.int .i64 s.W) (.int .i64 s.H) (.string s.C) (.int .i64 s.T) (.string s.A) (.string s.B) (.slice ao2 ps.length cp2) (.bool dr) (.int .u8 (lo : Int)) (.int .i64 li) (.int .u8 (re : Int)) (.bool st)) :
    Calls Tryz.prog 5 #[.agg #[.int .i64 s.W, .int .i64 s.H, .string s.C, .int .i64 s.T, .string s.A, .string s.B, .slice ao ps.length cap, .bool dr, .int .u8 (lo : Int), .int .i64 li, .int .u8 (re : Int), .bool st, .int .i64 G.pl], .int .i64 time, .slice mo ml.length mc, .slice io il.length ic] w fun e w' => e = .returned (.bool true) ∧ Below w.heap.size w w' := by
  obtain ⟨n, hn⟩ : ∃ n, n = ps.length := ⟨_, rfl⟩
  obtain ⟨N, hN⟩ : ∃ N, N = ml.length := ⟨_, rfl⟩
  obtain ⟨M, hM⟩ : ∃ M, M = il.length := ⟨_, rfl⟩
  have hNm : N ≤ mc := by rw [hN]; exact hml.le
  have hNx := hml.mx
  have hMm : M ≤ ic := by rw [hM]; exact hil.le
  have hMx := hil.mx
  unfold maxLen at hNx hMx
  rw [← hN, ← hM]
  obtain ⟨w1, hw1⟩ : ∃ w1, w1 = w.alloc (.cells #[.int .i64 s.W, .int .i64 s.H, .string s.C, .int .i64 s.T, .string s.A, .string s.B, .slice ao ps.length cap, .bool dr, .int .u8 (lo : Int), .int .i64 li, .int .u8 (re : Int), .bool st, .int .i64 G.pl] 27 (0, 0)) := ⟨_, rfl⟩
  have hb1 : Below w.heap.size w w1 := by rw [hw1]; exact (Below.refl _ _).alloc (Nat.le_refl _) _
  have hr1 : isRu w1 w.heap.size (.int .i64 s.W) (.int .i64 s.H) (.string s.C) (.int .i64 s.T) (.string s.A) (.string s.B) (.slice ao ps.length cap) (.bool dr) (.int .u8 (lo : Int)) (.int .i64 li) (.int .u8 (re : Int)) (.bool st) (.int .i64 G.pl) := by rw [hw1]; exact heap_alloc_new w _
  have HS0 := hide (start_I hG hs ht)
  rw [← hn] at hr1 hw1 hNew ⊢
  have HNW := hide hNew
  have HHO := hide (hHo w1 hb1)
  have HHC := hide hHc
  have HHL := hide hHl
  have HGG := hide hG
  have HML := hide hml
  have HMB := hide hmb
  have HIL := hide hil
  have HB1 := hide hb1
  have HR1 := hide hr1
  have HW1 := hide hw1
  have HPN := hide hn
  have HNN := hide hN
  have HMM := hide hM
  have hpl := hG.pl
  have HPL := hide hpl
  clear hNew hHc hHl hG hml hmb hil hb1 hr1 hw1 hn hN hM hpl hHo
  go_enter Tryz.func5, Tryz.ntmps5
  go_upto_region 1 with fail
  rw [← unhide HW1]
  clear HW1
  go_wp2_with fail
  refine (unhide HHO).mono ?_
  rintro e w2 ⟨rfl, hb2⟩
  have hr2 := isRu.below (unhide HR1) hb2 (isRu.lt (unhide HR1))
  have hb02 := (unhide HB1).trans (hb2.mono (unhide HB1).size)
  have HB02 := hide hb02
  have HR2 := hide hr2
  obtain ⟨r0, r1, r2, r3, r4, r5, r6, r7, r8, r9, r10, r11, r12⟩ := hr2.cells
  clear hr2 hb02 hb2 HR1 HB1 HHO
  go_wp2_with fail
  refine (unhide HNW w2 (unhide HB02)).mono ?_
  rintro e w3 ⟨ba, aoa, cpa, wa, rfl, hE⟩
  have hb23 : Below w2.heap.size w2 w3 := hE.all
  have hr3 := isRu.below (unhide HR2) hb23 (isRu.lt (unhide HR2))
  have hb03 := (unhide HB02).trans (hb23.mono (unhide HB02).size)
  have hca := unhide HHC ba aoa cpa wa hE.sz hE.pcs ((unhide HB02).trans (hE.lw.mono (unhide HB02).size))
  have hha := hE.ho
  have hla := hE.low
  have h0a : w.heap.size ≤ ba := Nat.le_trans (unhide HB02).size hE.b0
  rw [← unhide HPN] at hca hha
  clear r0 r1 r2 r3 r4 r5 r6 r7 r8 r9 r10 r11 r12 HR2 HB02 HHC hE hb23
  obtain ⟨r0, r1, r2, r3, r4, r5, r6, r7, r8, r9, r10, r11, r12⟩ := hr3.cells
  have HCA := hide hca
  have HHA := hide hha
  have HB03 := hide hb03
  have HLA := hide hla
  clear hca hha hb03 hla hr3
  go_wp2_with fail
  refine (unhide HNW w3 (unhide HB03)).mono ?_
  rintro e w4 ⟨bb, aob, cpb, vb, rfl, hE⟩
  have hb34 : Below w3.heap.size w3 w4 := hE.all
  have hb04 := (unhide HB03).trans (hb34.mono (unhide HB03).size)
  have hab : ba < w3.heap.size := isH.lt (unhide HHA)
  have hbb : w3.heap.size ≤ bb := hE.b0
  have hab' : ba < bb := by omega
  have hha4 := isH.below (unhide HHA) hb34 (isH.lt (unhide HHA))
  have hla4 := (unhide HLA).trans (hb34.mono (Nat.le_of_lt hab))
  have hhb := hE.ho
  have hext : Ex ba bb vb w4 := Ex.of hE.low
  have HLT := hide (fun u (h1 : bb ≤ u.heap.size) (h2 : Ex ba bb vb u) (h3 : Below w.heap.size w u) => unhide HHL ba w3.heap.size bb aob cpb vb u hE.sz hE.pcs hE.from_ hab h1 h2 h3 (by omega))
  rw [← unhide HPN] at hhb HLT
  clear r0 r1 r2 r3 r4 r5 r6 r7 r8 r9 r10 r11 r12 HHA HB03 HLA HHL hE hb34 HNW
  have htwo : TwoB G n s dr st lo re li ba bb aoa cpa aob cpb w wa vb w4 (startX s time) (startX s time) := by
    refine ⟨?_, ?_, hb04, hla4, hext⟩
    · rw [ended_said _ rfl]; exact hha4
    · rw [ended_said _ rfl]; exact hhb
  have HTW := hide htwo
  have hab := hab'
  clear htwo hha4 hhb hla4 hext hb04 hab' hbb
  go_wp2_with fail
  go_loopw [13, 51] (fun tv iv wr => ∃ i t : Nat, iv = .int .i64 (i : Int) ∧ tv = .int .i64 (t : Int) ∧ i ≤ N ∧ t ≤ M ∧ Hid (TwoB G n s dr st lo re li ba bb aoa cpa aob cpb w wa vb wr (G.run (startX s time) (ml.take i)) (G.run (startX s time) (ml.take i)))) (fun tv iv _ => N - (intOf iv).toNat)
  case atStart => exact ⟨0, 0, rfl, rfl, Nat.zero_le _, Nat.zero_le _, HTW⟩
  case round =>
    clear HTW
    obtain ⟨i, t, rfl, rfl, hi, htM, HTW⟩ := hrel
    by_cases hlt : i < N
    · have hlti : (i : Int) < (N : Int) := by omega
      have hi0 : (0 : Int) ≤ (i : Int) := by omega
      have hil : i < ml.length := by rw [← unhide HNN]; exact hlt
      obtain ⟨m, hm⟩ : ∃ m, ml[i]? = some m := ⟨ml[i], List.getElem?_eq_getElem hil⟩
      have hmm : m ∈ ml := List.mem_of_getElem? hm
      have hne0 : ml ≠ [] := fun e => by rw [e] at hil; simp at hil
      obtain ⟨g, off, rfl, hgl, hcs⟩ := (unhide HML).cells hne0
      obtain ⟨k0, k1, k2, k3⟩ := hcs i m hm
      obtain ⟨X, hX⟩ : ∃ X, X = G.run (startX s time) (ml.take i) := ⟨_, rfl⟩
      have hXI : HoI G ok X := by rw [hX]; exact HoI.run (unhide HGG) _ (unhide HS0) fun q hq => unhide HMB q (List.mem_of_mem_take hq)
      have hXn : G.run (startX s time) (ml.take (i + 1)) = (G.step X m).1 := by rw [List.take_succ_eq_append_getElem hil, run_snoc, ← hX, (List.getElem?_eq_some_iff.1 hm).2]
      rw [← hX] at HTW
      have hma := unhide HMB m hmm
      obtain ⟨Y, hY⟩ : ∃ Y, Y = (G.step X m).1 := ⟨_, rfl⟩
      have hYI : HoI G ok Y := by rw [hY]; exact hXI.step (unhide HGG) hma
      have HTA := hide (fun u (hu : isHo u ba (.int .i64 s.W) (.int .i64 s.H) (.string s.C) (.int .i64 s.T) (.string s.A) (.string s.B) (.slice aoa n cpa) (.bool dr) (.int .u8 (lo : Int)) (.int .i64 li) (.int .u8 (re : Int)) (.bool st) (.int .i64 G.pl) X (G.ended X)) (hl : Below ba wa u) => hTake_any G ok (unhide HGG) TX ba ba _ _ _ _ _ _ _ _ _ _ _ _ wa u (unhide HCA) X m hXI hma hu (Nat.le_refl _) hl)
      have HTB0 := hide (fun (Z : Ho) (q : Ms) (hZ : HoI G ok Z) (hq : q.at_ < 9223372036854775808) u (hu : isHo u bb (.int .i64 s.W) (.int .i64 s.H) (.string s.C) (.int .i64 s.T) (.string s.A) (.string s.B) (.slice aob n cpb) (.bool dr) (.int .u8 (lo : Int)) (.int .i64 li) (.int .u8 (re : Int)) (.bool st) (.int .i64 G.pl) Z (G.ended Z)) (he : Ex ba bb vb u) (hw : Below w.heap.size w u) => hTake_any G ok (unhide HGG) TX bb bb _ _ _ _ _ _ _ _ _ _ _ _ (cutW bb u) u (unhide HLT u (Nat.le_of_lt (isH.lt hu)) he hw) Z q hZ hq hu (Nat.le_refl _) (cutW_below (Nat.le_of_lt (isH.lt hu))))
      have HTB := hide ((unhide HTB0) X m hXI hma)
      have HSA := hide (fun u (hu : isHo u ba (.int .i64 s.W) (.int .i64 s.H) (.string s.C) (.int .i64 s.T) (.string s.A) (.string s.B) (.slice aoa n cpa) (.bool dr) (.int .u8 (lo : Int)) (.int .i64 li) (.int .u8 (re : Int)) (.bool st) (.int .i64 G.pl) Y (G.ended Y)) => hSave_any G ba _ _ _ _ _ _ _ _ _ _ _ _ u Y _ hu (by have := (unhide HPL).1; omega) (by have := hYI.tx; have := hYI.ply; have := (unhide HPL).2; omega))
      have HSB := hide (fun u (hu : isHo u bb (.int .i64 s.W) (.int .i64 s.H) (.string s.C) (.int .i64 s.T) (.string s.A) (.string s.B) (.slice aob n cpb) (.bool dr) (.int .u8 (lo : Int)) (.int .i64 li) (.int .u8 (re : Int)) (.bool st) (.int .i64 G.pl) Y (G.ended Y)) => hSave_any G bb _ _ _ _ _ _ _ _ _ _ _ _ u Y _ hu (by have := (unhide HPL).1; omega) (by have := hYI.tx; have := hYI.ply; have := (unhide HPL).2; omega))
      obtain ⟨ra, rc, rt, hV⟩ : ∃ ra rc rt, G.reply TX (G.step X m) = .agg #[.int .i64 ra, .int .i64 Y.ply, .int .i64 rc, .string rt] := ⟨(G.step X m).2, G.ended (G.step X m).1, TX (G.step X m).1.p, by unfold Gm.reply; rw [hY]⟩
      obtain ⟨rb, hrb⟩ : ∃ rb, rb = Y.ply := ⟨_, rfl⟩
      rw [← hrb] at hV
      have hYe : (G.step X m).1 = Y := hY.symm
      rw [hV, hYe] at HTA HTB
      have heq : ∀ u, (Op.equalIn 10000 40 (.agg #[.int .i64 ra, .int .i64 rb, .int .i64 rc, .string rt]) (.agg #[.int .i64 ra, .int .i64 rb, .int .i64 rc, .string rt])).run Tryz.prog u = .ok true u := fun u => by
        rw [eqReply]
        simp
      have hS10 : ∀ u, Below w.heap.size w u → (fun u => u.cell? ⟨g, off + i * 4, none⟩ = some (.int .i64 m.seat) ∧ u.cell? ⟨g, off + i * 4 + 1, none⟩ = some (.int .i64 m.ply) ∧ u.cell? ⟨g, off + i * 4 + 2, none⟩ = some (.string m.mv) ∧ u.cell? ⟨g, off + i * 4 + 3, none⟩ = some (.int .i64 m.at_)) u := fun u hu =>
        ⟨(hu.cell (p := ⟨g, off + i * 4, none⟩) hgl).trans k0, (hu.cell (p := ⟨g, off + i * 4 + 1, none⟩) hgl).trans k1, (hu.cell (p := ⟨g, off + i * 4 + 2, none⟩) hgl).trans k2, (hu.cell (p := ⟨g, off + i * 4 + 3, none⟩) hgl).trans k3⟩
      -- messages that come again
      have hTT : ∀ k, k ≤ i → ∃ q : Ms, (∀ u, Below w.heap.size w u → u.cell? ⟨g, off + k * 4, none⟩ = some (.int .i64 q.seat) ∧ u.cell? ⟨g, off + k * 4 + 1, none⟩ = some (.int .i64 q.ply) ∧ u.cell? ⟨g, off + k * 4 + 2, none⟩ = some (.string q.mv) ∧ u.cell? ⟨g, off + k * 4 + 3, none⟩ = some (.int .i64 q.at_)) ∧
          (q.ply < rb → ∀ u, isHo u bb (.int .i64 s.W) (.int .i64 s.H) (.string s.C) (.int .i64 s.T) (.string s.A) (.string s.B) (.slice aob n cpb) (.bool dr) (.int .u8 (lo : Int)) (.int .i64 li) (.int .u8 (re : Int)) (.bool st) (.int .i64 G.pl) Y (G.ended Y) → Ex ba bb vb u → Below w.heap.size w u → Calls Tryz.prog 11 #[.pointer (some ⟨bb, 0, none⟩), .agg #[.int .i64 q.seat, .int .i64 q.ply, .string q.mv, .int .i64 q.at_]] u fun e w' => ∃ v, e = .returned v ∧ isHo w' bb (.int .i64 s.W) (.int .i64 s.H) (.string s.C) (.int .i64 s.T) (.string s.A) (.string s.B) (.slice aob n cpb) (.bool dr) (.int .u8 (lo : Int)) (.int .i64 li) (.int .u8 (re : Int)) (.bool st) (.int .i64 G.pl) Y (G.ended Y) ∧ Ex bb u.heap.size u w') := fun k hk => by
        have hkl : k < ml.length := by omega
        obtain ⟨q, hq⟩ : ∃ q, ml[k]? = some q := ⟨ml[k], List.getElem?_eq_getElem hkl⟩
        obtain ⟨j0, j1, j2, j3⟩ := hcs k q hq
        refine ⟨q, fun u hu => ⟨(hu.cell (p := ⟨g, off + k * 4, none⟩) hgl).trans j0, (hu.cell (p := ⟨g, off + k * 4 + 1, none⟩) hgl).trans j1, (hu.cell (p := ⟨g, off + k * 4 + 2, none⟩) hgl).trans j2, (hu.cell (p := ⟨g, off + k * 4 + 3, none⟩) hgl).trans j3⟩, fun hp u h1 h2 h3 => ?_⟩
        have hqm : q ∈ ml.take (i + 1) := List.mem_of_getElem? (i := k) (by rw [List.getElem?_take_of_lt (by omega)]; exact hq)
        have honce : (G.step Y q).1 = Y := by
          rw [← hYe, ← hXn]
          exact once (ok := ok) (by rw [hXn, hYe]; exact hYI) hqm (by rw [hXn, hYe, ← hrb]; omega)
        refine ((unhide HTB0) Y q hYI (unhide HMB q (List.mem_of_getElem? hq)) u h1 h2 h3).mono ?_
        rintro e w' ⟨rfl, h4, h5⟩
        rw [honce] at h4
        exact ⟨_, rfl, h4, h5⟩
      have HTT := hide hTT
      have HS := hide hS10
      have HEQ := hide heq
      have HXN := hide hXn
      rw [hYe] at HXN
      have HAG : Hid (∀ k, k < M → ∃ g2 off2, io = some ⟨g2, off2, none⟩ ∧ ∃ z, ∀ u, Below w.heap.size w u → u.cell? ⟨g2, off2 + k, none⟩ = some (.int .i64 z)) := hide fun k hk => by
        have hkl : k < il.length := by rw [← unhide HMM]; exact hk
        obtain ⟨g2, off2, e2, hg2, hc2⟩ := (unhide HIL).cells (fun e => by rw [e] at hkl; simp at hkl)
        exact ⟨g2, off2, e2, il[k], fun u hu => (hu.cell (p := ⟨g2, off2 + k, none⟩) hg2).trans (hc2 k _ (List.getElem?_eq_getElem hkl))⟩
      clear hm hmm hne0 hcs k0 k1 k2 k3 hX hXI hXn hY hYI hV hYe heq hS10 hma hTT hrb HTB0
      go_upto_region 11 with fail
      obtain ⟨wd, hwd⟩ : ∃ wd, wd = wr.drew := ⟨_, rfl⟩
      have hbd : Below wr.heap.size wr wd := by rw [hwd]; exact (Below.refl _ _).drew
      have HT0 := hide ((unhide HTW).below hbd)
      have HWD := hide hwd
      clear hwd hbd HTW
      apply cutForQ (fun qa qb v => TwoB G n s dr st lo re li ba bb aoa cpa aob cpb w wa vb v Y Y ∧ isQ v qa ra rb rc rt ∧ isQ v qb ra rb rc rt ∧ bb < qa)
      case k =>
        intro key
        refine wp_region_v [14] (fun u => u.cell? ⟨g, off + i * 4, none⟩ = some (.int .i64 m.seat) ∧ u.cell? ⟨g, off + i * 4 + 1, none⟩ = some (.int .i64 m.ply) ∧ u.cell? ⟨g, off + i * 4 + 2, none⟩ = some (.string m.mv) ∧ u.cell? ⟨g, off + i * 4 + 3, none⟩ = some (.int .i64 m.at_)) (by kernel_rfl) ?_
        rw [← unhide HWD]
        obtain ⟨w0, hw0⟩ : ∃ w0, w0 = wd := ⟨_, rfl⟩
        rw [← hw0] at HT0 ⊢
        clear hw0
        have hHeld := unhide HS _ (unhide HT0).low
        refine wpAnyV_tk (i := 0) (oi := _) (v := ?_) rfl (by kernel_rfl) (by kernel_rfl) (by kernel_rfl) (by kernel_rfl) (fun _ _ _ h => h) (Or.inl ⟨by rfl, ?_⟩) (by assumption) ?_
        rotate_left 1
        · (intro u hSu; (try dsimp only at hSu); go_simp; first | done | with_reducible rfl | rfl)
        simp only [Act.put, List.getElem_toArray, List.getElem_cons_zero, List.setIfInBounds_toArray, List.set_cons_zero, List.set_cons_succ]
        refine wpAnyV_tk (i := 1) (oi := _) (v := ?_) rfl (by kernel_rfl) (by kernel_rfl) (by kernel_rfl) (by kernel_rfl) (fun _ _ _ h => h) (Or.inl ⟨by rfl, ?_⟩) (by assumption) ?_
        rotate_left 1
        · (intro u hSu; (try dsimp only at hSu); go_simp; first | done | with_reducible rfl | rfl)
        simp only [Act.put, List.getElem_toArray, List.getElem_cons_zero, List.getElem_cons_succ, List.setIfInBounds_toArray, List.set_cons_zero, List.set_cons_succ]
        refine wpAnyV_tk (i := 2) (oi := _) (v := ?_) rfl (by kernel_rfl) (by kernel_rfl) (by kernel_rfl) (by kernel_rfl) (fun _ _ _ h => h) (Or.inl ⟨by rfl, ?_⟩) (by assumption) ?_
        rotate_left 1
        · (intro u hSu; (try dsimp only at hSu); go_simp; first | done | with_reducible rfl | rfl)
        simp only [Act.put, List.getElem_toArray, List.getElem_cons_zero, List.getElem_cons_succ, List.setIfInBounds_toArray, List.set_cons_zero, List.set_cons_succ]
        refine wpAnyV_tk (i := 3) (oi := _) (v := ?_) rfl (by kernel_rfl) (by kernel_rfl) (by kernel_rfl) (by kernel_rfl) (fun _ _ _ h => h) (Or.inl ⟨by rfl, ?_⟩) (by assumption) ?_
        rotate_left 1
        · (intro u hSu; (try dsimp only at hSu); go_simp; first | done | with_reducible rfl | rfl)
        simp only [Act.put, List.getElem_toArray, List.getElem_cons_zero, List.getElem_cons_succ, List.setIfInBounds_toArray, List.set_cons_zero, List.set_cons_succ]
        refine wpAnyV_tk (i := 4) (oi := _) (v := ?_) rfl (by kernel_rfl) (by kernel_rfl) (by kernel_rfl) (by kernel_rfl) (fun _ _ _ h => h) (Or.inl ⟨by rfl, ?_⟩) (by assumption) ?_
        rotate_left 1
        · (intro u hSu; (try dsimp only at hSu); go_simp; first | done | with_reducible rfl | rfl)
        simp only [Act.put, List.getElem_toArray, List.getElem_cons_zero, List.getElem_cons_succ, List.setIfInBounds_toArray, List.set_cons_zero, List.set_cons_succ]
        refine wpAnyV_tk (i := 6) (oi := _) (v := ?_) rfl (by kernel_rfl) (by kernel_rfl) (by kernel_rfl) (by kernel_rfl) (fun _ _ _ h => h) (Or.inl ⟨by rfl, ?_⟩) (by assumption) ?_
        rotate_left 1
        · (intro u hSu; (try dsimp only at hSu); go_simp; first | done | with_reducible rfl | rfl)
        simp only [Act.put, List.getElem_toArray, List.getElem_cons_zero, List.getElem_cons_succ, List.setIfInBounds_toArray, List.set_cons_zero, List.set_cons_succ]
        refine wpAnyV_tk (i := 7) (oi := _) (v := ?_) rfl (by kernel_rfl) (by kernel_rfl) (by kernel_rfl) (by kernel_rfl) (fun _ _ _ h => h) (Or.inl ⟨by rfl, ?_⟩) (by assumption) ?_
        rotate_left 1
        · (intro u hSu; (try dsimp only at hSu); go_simp; first | done | with_reducible rfl | rfl)
        simp only [Act.put, List.getElem_toArray, List.getElem_cons_zero, List.getElem_cons_succ, List.setIfInBounds_toArray, List.set_cons_zero, List.set_cons_succ]
        refine wpAnyV_tk (i := 8) (oi := _) (v := ?_) rfl (by kernel_rfl) (by kernel_rfl) (by kernel_rfl) (by kernel_rfl) (fun _ _ _ h => h) (Or.inl ⟨by rfl, ?_⟩) (by assumption) ?_
        rotate_left 1
        · (intro u hSu; (try dsimp only at hSu); go_simp; first | done | with_reducible rfl | rfl)
        simp only [Act.put, List.getElem_toArray, List.getElem_cons_zero, List.getElem_cons_succ, List.setIfInBounds_toArray, List.set_cons_zero, List.set_cons_succ]
        refine wpAnyV_tk (i := 9) (oi := _) (v := ?_) rfl (by kernel_rfl) (by kernel_rfl) (by kernel_rfl) (by kernel_rfl) (fun _ _ _ h => h) (Or.inl ⟨by rfl, ?_⟩) (by assumption) ?_
        rotate_left 1
        · (intro u hSu; (try dsimp only at hSu); go_simp; first | done | with_reducible rfl | rfl)
        simp only [Act.put, List.getElem_toArray, List.getElem_cons_zero, List.getElem_cons_succ, List.setIfInBounds_toArray, List.set_cons_zero, List.set_cons_succ]
        refine wpAnyV_tk (i := 10) (oi := _) (v := ?_) rfl (by kernel_rfl) (by kernel_rfl) (by kernel_rfl) (by kernel_rfl) (fun _ _ _ h => h) (Or.inl ⟨by rfl, ?_⟩) (by assumption) ?_
        rotate_left 1
        · (intro u hSu; (try dsimp only at hSu); go_simp; first | done | with_reducible rfl | rfl)
        simp only [Act.put, List.getElem_toArray, List.getElem_cons_zero, List.getElem_cons_succ, List.setIfInBounds_toArray, List.set_cons_zero, List.set_cons_succ]
        refine wpAnyV_ready (rs := [5, 12, 13]) (by kernel_rfl) (by simp) ?_
        refine ReadyV.cons (o := _) rfl (fun K hK => ?_) (ReadyV.cons (o := _) rfl (fun K hK => ?_) (ReadyV.cons (o := _) rfl (fun K hK => ?_) ReadyV.nil))
        · clear hHeld
          refine step_callH (by rfl) 11 _ _ rfl #[.pointer (some ⟨ba, 0, none⟩), .agg #[.int .i64 m.seat, .int .i64 m.ply, .string m.mv, .int .i64 m.at_]] (by simp [Act.eval]) entTake (unhide HTA w0 (unhide HT0).ha (unhide HT0).lowa) ?_
          rintro e w1 ⟨rfl, hhw1, hxw1⟩
          refine ⟨_, rfl, ?_⟩
          have HT1 := hide ((unhide HT0).stepA hab h0a hhw1 hxw1)
          have hHeld := unhide HS _ (unhide HT1).low
          refine hK.out _ _ (fun _ => hHeld) ?_
          clear hK K
          try simp only [Act.put, List.getElem_toArray, List.getElem_cons_zero, List.getElem_cons_succ, List.setIfInBounds_toArray, List.set_cons_zero, List.set_cons_succ]
          refine wpAnyV_ready (rs := [11, 12, 13]) (by kernel_rfl) (by simp) ?_
          refine ReadyV.cons (o := _) rfl (fun K hK => ?_) (ReadyV.cons (o := _) rfl (fun K hK => ?_) (ReadyV.cons (o := _) rfl (fun K hK => ?_) ReadyV.nil))
          · clear hHeld
            refine step_callH (by rfl) 11 _ _ rfl #[.pointer (some ⟨bb, 0, none⟩), .agg #[.int .i64 m.seat, .int .i64 m.ply, .string m.mv, .int .i64 m.at_]] (by simp [Act.eval]) entTake (unhide HTB w1 (unhide HT1).hb (unhide HT1).exb (unhide HT1).low) ?_
            rintro e w2 ⟨rfl, hhw2, hxw2⟩
            refine ⟨_, rfl, ?_⟩
            have HT2 := hide ((unhide HT1).stepB hab h0a hhw2 hxw2)
            have hHeld := unhide HS _ (unhide HT2).low
            refine hK.out _ _ (fun _ => hHeld) ?_
            clear hK K
            try simp only [Act.put, List.getElem_toArray, List.getElem_cons_zero, List.getElem_cons_succ, List.setIfInBounds_toArray, List.set_cons_zero, List.set_cons_succ]
            refine wpAnyV_ready (rs := [12, 13]) (by kernel_rfl) (by simp) ?_
            refine ReadyV.cons (o := _) rfl (fun K hK => ?_) (ReadyV.cons (o := _) rfl (fun K hK => ?_) ReadyV.nil)
            · clear hHeld
              go_simp
              obtain ⟨w3, hww3⟩ : ∃ u, u = (w2).alloc (.cells #[.int .i64 0, .int .i64 0, .int .i64 0, .string ⟨#[]⟩] 40 (0, 0)) := ⟨_, rfl⟩
              have blw3 : Below (w2).heap.size (w2) w3 := by rw [hww3]; exact (Below.refl _ _).alloc (Nat.le_refl _) _
              have hqw3 : isQ w3 (w2).heap.size 0 0 0 ⟨#[]⟩ := by rw [hww3]; exact heap_alloc_new _ _
              rw [← hww3]
              have HT3 := hide ((unhide HT2).below blw3)
              clear hww3
              have HA3 := hide hqw3
              have hqa3 : bb < w2.heap.size := isH.lt (unhide HT2).hb
              obtain ⟨qa, hqae⟩ : ∃ qa, qa = w2.heap.size := ⟨_, rfl⟩
              rw [← hqae] at HA3 hqa3 ⊢
              have HQAE := hide hqae
              clear hqae
              have hHeld := unhide HS _ (unhide HT3).low
              refine hK.out _ _ (fun _ => hHeld) ?_
              clear hK K
              try simp only [Act.put, List.getElem_toArray, List.getElem_cons_zero, List.getElem_cons_succ, List.setIfInBounds_toArray, List.set_cons_zero, List.set_cons_succ]
              refine wpAnyV_ready (rs := [13]) (by kernel_rfl) (by simp) ?_
              refine ReadyV.cons (o := _) rfl (fun K hK => ?_) ReadyV.nil
              clear hHeld
              go_simp
              obtain ⟨w4, hww4⟩ : ∃ u, u = (w3).alloc (.cells #[.int .i64 0, .int .i64 0, .int .i64 0, .string ⟨#[]⟩] 40 (0, 0)) := ⟨_, rfl⟩
              have blw4 : Below (w3).heap.size (w3) w4 := by rw [hww4]; exact (Below.refl _ _).alloc (Nat.le_refl _) _
              have hqw4 : isQ w4 (w3).heap.size 0 0 0 ⟨#[]⟩ := by rw [hww4]; exact heap_alloc_new _ _
              rw [← hww4]
              have HT4 := hide ((unhide HT3).below blw4)
              clear hww4
              have HB4 := hide hqw4
              have hqb4 : bb < w3.heap.size := isH.lt (unhide HT3).hb
              obtain ⟨qb, hqbe⟩ : ∃ qb, qb = w3.heap.size := ⟨_, rfl⟩
              rw [← hqbe] at HB4 hqb4 ⊢
              have HA4 := hide (isQ_below (unhide HA3) blw4)
              have hqa4 := hqa3
              have hne : qa ≠ qb := by have := isQ_lt (unhide HA3); omega
              have HQBE := hide hqbe
              clear hqbe
              have hHeld := unhide HS _ (unhide HT4).low
              refine hK.out _ _ (fun _ => hHeld) ?_
              clear hK K
              try simp only [Act.put, List.getElem_toArray, List.getElem_cons_zero, List.getElem_cons_succ, List.setIfInBounds_toArray, List.set_cons_zero, List.set_cons_succ]
              have HAx := HA4
              have HBx := HB4
              have HTx := HT4
              have hqax : bb < qa := by omega
              have hqbx : bb < qb := by omega
              clear hHeld
              obtain ⟨c0, c1, c2, c3⟩ := isQ_cells (unhide HAx)
              have z0 := isQ_frozen (unhide HAx) 0
              have z1 := isQ_frozen (unhide HAx) 1
              have z2 := isQ_frozen (unhide HAx) 2
              have z3 := isQ_frozen (unhide HAx) 3
              refine wpAnyV_ready (rs := [14]) (by kernel_rfl) (by simp) ?_
              refine ReadyV.cons (o := _) rfl (fun K hK => ?_) ReadyV.nil
              go_simp
              refine hK.out _ _ (fun h => absurd h (by decide)) ?_
              clear hK K c0 c1 c2 c3 z0 z1 z2 z3
              try simp only [Act.put, List.getElem_toArray, List.getElem_cons_zero, List.getElem_cons_succ, List.setIfInBounds_toArray, List.set_cons_zero, List.set_cons_succ]
              have hex := ex_set4 w4 qa (.int .i64 ra) (.int .i64 rb) (.int .i64 rc) (.string rt)
              have hqa' := isQ_set (unhide HAx) ra rb rc rt
              generalize (((w4.setCell ⟨qa, 0, none⟩ (.int .i64 ra)).setCell ⟨qa, 1, none⟩ (.int .i64 rb)).setCell ⟨qa, 2, none⟩ (.int .i64 rc)).setCell ⟨qa, 3, none⟩ (.string rt) = y1 at hex hqa' ⊢
              have hB1 := isQ_ex (unhide HBx) hex (isQ_lt (unhide HBx)) (Ne.symm hne)
              have hT1 := (unhide HTx).far hab hqax h0a hex
              obtain ⟨c0, c1, c2, c3⟩ := isQ_cells hB1
              have z0 := isQ_frozen hB1 0
              have z1 := isQ_frozen hB1 1
              have z2 := isQ_frozen hB1 2
              have z3 := isQ_frozen hB1 3
              refine wpAnyV_ready (rs := [15]) (by kernel_rfl) (by simp) ?_
              refine ReadyV.cons (o := _) rfl (fun K hK => ?_) ReadyV.nil
              go_simp
              refine hK.out _ _ (fun h => absurd h (by decide)) ?_
              clear hK K c0 c1 c2 c3 z0 z1 z2 z3
              try simp only [Act.put, List.getElem_toArray, List.getElem_cons_zero, List.getElem_cons_succ, List.setIfInBounds_toArray, List.set_cons_zero, List.set_cons_succ]
              have hex2 := ex_set4 y1 qb (.int .i64 ra) (.int .i64 rb) (.int .i64 rc) (.string rt)
              have hqb' := isQ_set hB1 ra rb rc rt
              refine wpAnyV_done (by kernel_rfl) ?_ _
              generalize (((y1.setCell ⟨qb, 0, none⟩ (.int .i64 ra)).setCell ⟨qb, 1, none⟩ (.int .i64 rb)).setCell ⟨qb, 2, none⟩ (.int .i64 rc)).setCell ⟨qb, 3, none⟩ (.string rt) = y2 at hex2 hqb' ⊢
              have hA2 := isQ_ex hqa' hex2 (isQ_lt hqa') hne
              have hT2 := hT1.far hab hqbx h0a hex2
              exact unhide key qa qb y2 ⟨hT2, hA2, hqb', hqax⟩
            · clear hHeld
              go_simp
              obtain ⟨w3, hww3⟩ : ∃ u, u = (w2).alloc (.cells #[.int .i64 0, .int .i64 0, .int .i64 0, .string ⟨#[]⟩] 40 (0, 0)) := ⟨_, rfl⟩
              have blw3 : Below (w2).heap.size (w2) w3 := by rw [hww3]; exact (Below.refl _ _).alloc (Nat.le_refl _) _
              have hqw3 : isQ w3 (w2).heap.size 0 0 0 ⟨#[]⟩ := by rw [hww3]; exact heap_alloc_new _ _
              rw [← hww3]
              have HT3 := hide ((unhide HT2).below blw3)
              clear hww3
              have HB3 := hide hqw3
              have hqb3 : bb < w2.heap.size := isH.lt (unhide HT2).hb
              obtain ⟨qb, hqbe⟩ : ∃ qb, qb = w2.heap.size := ⟨_, rfl⟩
              rw [← hqbe] at HB3 hqb3 ⊢
              have HQBE := hide hqbe
              clear hqbe
              have hHeld := unhide HS _ (unhide HT3).low
              refine hK.out _ _ (fun _ => hHeld) ?_
              clear hK K
              try simp only [Act.put, List.getElem_toArray, List.getElem_cons_zero, List.getElem_cons_succ, List.setIfInBounds_toArray, List.set_cons_zero, List.set_cons_succ]
              refine wpAnyV_ready (rs := [12]) (by kernel_rfl) (by simp) ?_
              refine ReadyV.cons (o := _) rfl (fun K hK => ?_) ReadyV.nil
              clear hHeld
              go_simp
              obtain ⟨w4, hww4⟩ : ∃ u, u = (w3).alloc (.cells #[.int .i64 0, .int .i64 0, .int .i64 0, .string ⟨#[]⟩] 40 (0, 0)) := ⟨_, rfl⟩
              have blw4 : Below (w3).heap.size (w3) w4 := by rw [hww4]; exact (Below.refl _ _).alloc (Nat.le_refl _) _
              have hqw4 : isQ w4 (w3).heap.size 0 0 0 ⟨#[]⟩ := by rw [hww4]; exact heap_alloc_new _ _
              rw [← hww4]
              have HT4 := hide ((unhide HT3).below blw4)
              clear hww4
              have HA4 := hide hqw4
              have hqa4 : bb < w3.heap.size := isH.lt (unhide HT3).hb
              obtain ⟨qa, hqae⟩ : ∃ qa, qa = w3.heap.size := ⟨_, rfl⟩
              rw [← hqae] at HA4 hqa4 ⊢
              have HB4 := hide (isQ_below (unhide HB3) blw4)
              have hqb4 := hqb3
              have hne : qa ≠ qb := by have := isQ_lt (unhide HB3); omega
              have HQAE := hide hqae
              clear hqae
              have hHeld := unhide HS _ (unhide HT4).low
              refine hK.out _ _ (fun _ => hHeld) ?_
              clear hK K
              try simp only [Act.put, List.getElem_toArray, List.getElem_cons_zero, List.getElem_cons_succ, List.setIfInBounds_toArray, List.set_cons_zero, List.set_cons_succ]
              have HAx := HA4
              have HBx := HB4
              have HTx := HT4
              have hqax : bb < qa := by omega
              have hqbx : bb < qb := by omega
              clear hHeld
              obtain ⟨c0, c1, c2, c3⟩ := isQ_cells (unhide HAx)
              have z0 := isQ_frozen (unhide HAx) 0
              have z1 := isQ_frozen (unhide HAx) 1
              have z2 := isQ_frozen (unhide HAx) 2
              have z3 := isQ_frozen (unhide HAx) 3
              refine wpAnyV_ready (rs := [14]) (by kernel_rfl) (by simp) ?_
              refine ReadyV.cons (o := _) rfl (fun K hK => ?_) ReadyV.nil
              go_simp
              refine hK.out _ _ (fun h => absurd h (by decide)) ?_
              clear hK K c0 c1 c2 c3 z0 z1 z2 z3
              try simp only [Act.put, List.getElem_toArray, List.getElem_cons_zero, List.getElem_cons_succ, List.setIfInBounds_toArray, List.set_cons_zero, List.set_cons_succ]
              have hex := ex_set4 w4 qa (.int .i64 ra) (.int .i64 rb) (.int .i64 rc) (.string rt)
              have hqa' := isQ_set (unhide HAx) ra rb rc rt
              generalize (((w4.setCell ⟨qa, 0, none⟩ (.int .i64 ra)).setCell ⟨qa, 1, none⟩ (.int .i64 rb)).setCell ⟨qa, 2, none⟩ (.int .i64 rc)).setCell ⟨qa, 3, none⟩ (.string rt) = y1 at hex hqa' ⊢
              have hB1 := isQ_ex (unhide HBx) hex (isQ_lt (unhide HBx)) (Ne.symm hne)
              have hT1 := (unhide HTx).far hab hqax h0a hex
              obtain ⟨c0, c1, c2, c3⟩ := isQ_cells hB1
              have z0 := isQ_frozen hB1 0
              have z1 := isQ_frozen hB1 1
              have z2 := isQ_frozen hB1 2
              have z3 := isQ_frozen hB1 3
              refine wpAnyV_ready (rs := [15]) (by kernel_rfl) (by simp) ?_
              refine ReadyV.cons (o := _) rfl (fun K hK => ?_) ReadyV.nil
              go_simp
              refine hK.out _ _ (fun h => absurd h (by decide)) ?_
              clear hK K c0 c1 c2 c3 z0 z1 z2 z3
              try simp only [Act.put, List.getElem_toArray, List.getElem_cons_zero, List.getElem_cons_succ, List.setIfInBounds_toArray, List.set_cons_zero, List.set_cons_succ]
              have hex2 := ex_set4 y1 qb (.int .i64 ra) (.int .i64 rb) (.int .i64 rc) (.string rt)
              have hqb' := isQ_set hB1 ra rb rc rt
              refine wpAnyV_done (by kernel_rfl) ?_ _
              generalize (((y1.setCell ⟨qb, 0, none⟩ (.int .i64 ra)).setCell ⟨qb, 1, none⟩ (.int .i64 rb)).setCell ⟨qb, 2, none⟩ (.int .i64 rc)).setCell ⟨qb, 3, none⟩ (.string rt) = y2 at hex2 hqb' ⊢
              have hA2 := isQ_ex hqa' hex2 (isQ_lt hqa') hne
              have hT2 := hT1.far hab hqbx h0a hex2
              exact unhide key qa qb y2 ⟨hT2, hA2, hqb', hqax⟩
          · clear hHeld
            go_simp
            obtain ⟨w2, hww2⟩ : ∃ u, u = (w1).alloc (.cells #[.int .i64 0, .int .i64 0, .int .i64 0, .string ⟨#[]⟩] 40 (0, 0)) := ⟨_, rfl⟩
            have blw2 : Below (w1).heap.size (w1) w2 := by rw [hww2]; exact (Below.refl _ _).alloc (Nat.le_refl _) _
            have hqw2 : isQ w2 (w1).heap.size 0 0 0 ⟨#[]⟩ := by rw [hww2]; exact heap_alloc_new _ _
            rw [← hww2]
            have HT2 := hide ((unhide HT1).below blw2)
            clear hww2
            have HA2 := hide hqw2
            have hqa2 : bb < w1.heap.size := isH.lt (unhide HT1).hb
            obtain ⟨qa, hqae⟩ : ∃ qa, qa = w1.heap.size := ⟨_, rfl⟩
            rw [← hqae] at HA2 hqa2 ⊢
            have HQAE := hide hqae
            clear hqae
            have hHeld := unhide HS _ (unhide HT2).low
            refine hK.out _ _ (fun _ => hHeld) ?_
            clear hK K
            try simp only [Act.put, List.getElem_toArray, List.getElem_cons_zero, List.getElem_cons_succ, List.setIfInBounds_toArray, List.set_cons_zero, List.set_cons_succ]
            refine wpAnyV_ready (rs := [11, 13]) (by kernel_rfl) (by simp) ?_
            refine ReadyV.cons (o := _) rfl (fun K hK => ?_) (ReadyV.cons (o := _) rfl (fun K hK => ?_) ReadyV.nil)
            · clear hHeld
              refine step_callH (by rfl) 11 _ _ rfl #[.pointer (some ⟨bb, 0, none⟩), .agg #[.int .i64 m.seat, .int .i64 m.ply, .string m.mv, .int .i64 m.at_]] (by simp [Act.eval]) entTake (unhide HTB w2 (unhide HT2).hb (unhide HT2).exb (unhide HT2).low) ?_
              rintro e w3 ⟨rfl, hhw3, hxw3⟩
              refine ⟨_, rfl, ?_⟩
              have HT3 := hide ((unhide HT2).stepB hab h0a hhw3 hxw3)
              have HA3 := hide (isQ_ex (unhide HA2) hxw3 (isQ_lt (unhide HA2)) (by have := hqa2; omega))
              have hqa3 := hqa2
              have hHeld := unhide HS _ (unhide HT3).low
              refine hK.out _ _ (fun _ => hHeld) ?_
              clear hK K
              try simp only [Act.put, List.getElem_toArray, List.getElem_cons_zero, List.getElem_cons_succ, List.setIfInBounds_toArray, List.set_cons_zero, List.set_cons_succ]
              refine wpAnyV_ready (rs := [13]) (by kernel_rfl) (by simp) ?_
              refine ReadyV.cons (o := _) rfl (fun K hK => ?_) ReadyV.nil
              clear hHeld
              go_simp
              obtain ⟨w4, hww4⟩ : ∃ u, u = (w3).alloc (.cells #[.int .i64 0, .int .i64 0, .int .i64 0, .string ⟨#[]⟩] 40 (0, 0)) := ⟨_, rfl⟩
              have blw4 : Below (w3).heap.size (w3) w4 := by rw [hww4]; exact (Below.refl _ _).alloc (Nat.le_refl _) _
              have hqw4 : isQ w4 (w3).heap.size 0 0 0 ⟨#[]⟩ := by rw [hww4]; exact heap_alloc_new _ _
              rw [← hww4]
              have HT4 := hide ((unhide HT3).below blw4)
              clear hww4
              have HB4 := hide hqw4
              have hqb4 : bb < w3.heap.size := isH.lt (unhide HT3).hb
              obtain ⟨qb, hqbe⟩ : ∃ qb, qb = w3.heap.size := ⟨_, rfl⟩
              rw [← hqbe] at HB4 hqb4 ⊢
              have HA4 := hide (isQ_below (unhide HA3) blw4)
              have hqa4 := hqa3
              have hne : qa ≠ qb := by have := isQ_lt (unhide HA3); omega
              have HQBE := hide hqbe
              clear hqbe
              have hHeld := unhide HS _ (unhide HT4).low
              refine hK.out _ _ (fun _ => hHeld) ?_
              clear hK K
              try simp only [Act.put, List.getElem_toArray, List.getElem_cons_zero, List.getElem_cons_succ, List.setIfInBounds_toArray, List.set_cons_zero, List.set_cons_succ]
              have HAx := HA4
              have HBx := HB4
              have HTx := HT4
              have hqax : bb < qa := by omega
              have hqbx : bb < qb := by omega
              clear hHeld
              obtain ⟨c0, c1, c2, c3⟩ := isQ_cells (unhide HAx)
              have z0 := isQ_frozen (unhide HAx) 0
              have z1 := isQ_frozen (unhide HAx) 1
              have z2 := isQ_frozen (unhide HAx) 2
              have z3 := isQ_frozen (unhide HAx) 3
              refine wpAnyV_ready (rs := [14]) (by kernel_rfl) (by simp) ?_
              refine ReadyV.cons (o := _) rfl (fun K hK => ?_) ReadyV.nil
              go_simp
              refine hK.out _ _ (fun h => absurd h (by decide)) ?_
              clear hK K c0 c1 c2 c3 z0 z1 z2 z3
              try simp only [Act.put, List.getElem_toArray, List.getElem_cons_zero, List.getElem_cons_succ, List.setIfInBounds_toArray, List.set_cons_zero, List.set_cons_succ]
              have hex := ex_set4 w4 qa (.int .i64 ra) (.int .i64 rb) (.int .i64 rc) (.string rt)
              have hqa' := isQ_set (unhide HAx) ra rb rc rt
              generalize (((w4.setCell ⟨qa, 0, none⟩ (.int .i64 ra)).setCell ⟨qa, 1, none⟩ (.int .i64 rb)).setCell ⟨qa, 2, none⟩ (.int .i64 rc)).setCell ⟨qa, 3, none⟩ (.string rt) = y1 at hex hqa' ⊢
              have hB1 := isQ_ex (unhide HBx) hex (isQ_lt (unhide HBx)) (Ne.symm hne)
              have hT1 := (unhide HTx).far hab hqax h0a hex
              obtain ⟨c0, c1, c2, c3⟩ := isQ_cells hB1
              have z0 := isQ_frozen hB1 0
              have z1 := isQ_frozen hB1 1
              have z2 := isQ_frozen hB1 2
              have z3 := isQ_frozen hB1 3
              refine wpAnyV_ready (rs := [15]) (by kernel_rfl) (by simp) ?_
              refine ReadyV.cons (o := _) rfl (fun K hK => ?_) ReadyV.nil
              go_simp
              refine hK.out _ _ (fun h => absurd h (by decide)) ?_
              clear hK K c0 c1 c2 c3 z0 z1 z2 z3
              try simp only [Act.put, List.getElem_toArray, List.getElem_cons_zero, List.getElem_cons_succ, List.setIfInBounds_toArray, List.set_cons_zero, List.set_cons_succ]
              have hex2 := ex_set4 y1 qb (.int .i64 ra) (.int .i64 rb) (.int .i64 rc) (.string rt)
              have hqb' := isQ_set hB1 ra rb rc rt
              refine wpAnyV_done (by kernel_rfl) ?_ _
              generalize (((y1.setCell ⟨qb, 0, none⟩ (.int .i64 ra)).setCell ⟨qb, 1, none⟩ (.int .i64 rb)).setCell ⟨qb, 2, none⟩ (.int .i64 rc)).setCell ⟨qb, 3, none⟩ (.string rt) = y2 at hex2 hqb' ⊢
              have hA2 := isQ_ex hqa' hex2 (isQ_lt hqa') hne
              have hT2 := hT1.far hab hqbx h0a hex2
              exact unhide key qa qb y2 ⟨hT2, hA2, hqb', hqax⟩
            · clear hHeld
              go_simp
              obtain ⟨w3, hww3⟩ : ∃ u, u = (w2).alloc (.cells #[.int .i64 0, .int .i64 0, .int .i64 0, .string ⟨#[]⟩] 40 (0, 0)) := ⟨_, rfl⟩
              have blw3 : Below (w2).heap.size (w2) w3 := by rw [hww3]; exact (Below.refl _ _).alloc (Nat.le_refl _) _
              have hqw3 : isQ w3 (w2).heap.size 0 0 0 ⟨#[]⟩ := by rw [hww3]; exact heap_alloc_new _ _
              rw [← hww3]
              have HT3 := hide ((unhide HT2).below blw3)
              clear hww3
              have HB3 := hide hqw3
              have hqb3 : bb < w2.heap.size := isH.lt (unhide HT2).hb
              obtain ⟨qb, hqbe⟩ : ∃ qb, qb = w2.heap.size := ⟨_, rfl⟩
              rw [← hqbe] at HB3 hqb3 ⊢
              have HA3 := hide (isQ_below (unhide HA2) blw3)
              have hqa3 := hqa2
              have hne : qa ≠ qb := by have := isQ_lt (unhide HA2); omega
              have HQBE := hide hqbe
              clear hqbe
              have hHeld := unhide HS _ (unhide HT3).low
              refine hK.out _ _ (fun _ => hHeld) ?_
              clear hK K
              try simp only [Act.put, List.getElem_toArray, List.getElem_cons_zero, List.getElem_cons_succ, List.setIfInBounds_toArray, List.set_cons_zero, List.set_cons_succ]
              refine wpAnyV_ready (rs := [11]) (by kernel_rfl) (by simp) ?_
              refine ReadyV.cons (o := _) rfl (fun K hK => ?_) ReadyV.nil
              clear hHeld
              refine step_callH (by rfl) 11 _ _ rfl #[.pointer (some ⟨bb, 0, none⟩), .agg #[.int .i64 m.seat, .int .i64 m.ply, .string m.mv, .int .i64 m.at_]] (by simp [Act.eval]) entTake (unhide HTB w3 (unhide HT3).hb (unhide HT3).exb (unhide HT3).low) ?_
              rintro e w4 ⟨rfl, hhw4, hxw4⟩
              refine ⟨_, rfl, ?_⟩
              have HT4 := hide ((unhide HT3).stepB hab h0a hhw4 hxw4)
              have HA4 := hide (isQ_ex (unhide HA3) hxw4 (isQ_lt (unhide HA3)) (by have := hqa3; omega))
              have hqa4 := hqa3
              have HB4 := hide (isQ_ex (unhide HB3) hxw4 (isQ_lt (unhide HB3)) (by have := hqb3; omega))
              have hqb4 := hqb3
              have hHeld := unhide HS _ (unhide HT4).low
              refine hK.out _ _ (fun _ => hHeld) ?_
              clear hK K
              try simp only [Act.put, List.getElem_toArray, List.getElem_cons_zero, List.getElem_cons_succ, List.setIfInBounds_toArray, List.set_cons_zero, List.set_cons_succ]
              have HAx := HA4
              have HBx := HB4
              have HTx := HT4
              have hqax : bb < qa := by omega
              have hqbx : bb < qb := by omega
              clear hHeld
              obtain ⟨c0, c1, c2, c3⟩ := isQ_cells (unhide HAx)
              have z0 := isQ_frozen (unhide HAx) 0
              have z1 := isQ_frozen (unhide HAx) 1
              have z2 := isQ_frozen (unhide HAx) 2
              have z3 := isQ_frozen (unhide HAx) 3
              refine wpAnyV_ready (rs := [14]) (by kernel_rfl) (by simp) ?_
              refine ReadyV.cons (o := _) rfl (fun K hK => ?_) ReadyV.nil
              go_simp
              refine hK.out _ _ (fun h => absurd h (by decide)) ?_
              clear hK K c0 c1 c2 c3 z0 z1 z2 z3
              try simp only [Act.put, List.getElem_toArray, List.getElem_cons_zero, List.getElem_cons_succ, List.setIfInBounds_toArray, List.set_cons_zero, List.set_cons_succ]
              have hex := ex_set4 w4 qa (.int .i64 ra) (.int .i64 rb) (.int .i64 rc) (.string rt)
              have hqa' := isQ_set (unhide HAx) ra rb rc rt
              generalize (((w4.setCell ⟨qa, 0, none⟩ (.int .i64 ra)).setCell ⟨qa, 1, none⟩ (.int .i64 rb)).setCell ⟨qa, 2, none⟩ (.int .i64 rc)).setCell ⟨qa, 3, none⟩ (.string rt) = y1 at hex hqa' ⊢
              have hB1 := isQ_ex (unhide HBx) hex (isQ_lt (unhide HBx)) (Ne.symm hne)
              have hT1 := (unhide HTx).far hab hqax h0a hex
              obtain ⟨c0, c1, c2, c3⟩ := isQ_cells hB1
              have z0 := isQ_frozen hB1 0
              have z1 := isQ_frozen hB1 1
              have z2 := isQ_frozen hB1 2
              have z3 := isQ_frozen hB1 3
              refine wpAnyV_ready (rs := [15]) (by kernel_rfl) (by simp) ?_
              refine ReadyV.cons (o := _) rfl (fun K hK => ?_) ReadyV.nil
              go_simp
              refine hK.out _ _ (fun h => absurd h (by decide)) ?_
              clear hK K c0 c1 c2 c3 z0 z1 z2 z3
              try simp only [Act.put, List.getElem_toArray, List.getElem_cons_zero, List.getElem_cons_succ, List.setIfInBounds_toArray, List.set_cons_zero, List.set_cons_succ]
              have hex2 := ex_set4 y1 qb (.int .i64 ra) (.int .i64 rb) (.int .i64 rc) (.string rt)
              have hqb' := isQ_set hB1 ra rb rc rt
              refine wpAnyV_done (by kernel_rfl) ?_ _
              generalize (((y1.setCell ⟨qb, 0, none⟩ (.int .i64 ra)).setCell ⟨qb, 1, none⟩ (.int .i64 rb)).setCell ⟨qb, 2, none⟩ (.int .i64 rc)).setCell ⟨qb, 3, none⟩ (.string rt) = y2 at hex2 hqb' ⊢
              have hA2 := isQ_ex hqa' hex2 (isQ_lt hqa') hne
              have hT2 := hT1.far hab hqbx h0a hex2
              exact unhide key qa qb y2 ⟨hT2, hA2, hqb', hqax⟩
          · clear hHeld
            go_simp
            obtain ⟨w2, hww2⟩ : ∃ u, u = (w1).alloc (.cells #[.int .i64 0, .int .i64 0, .int .i64 0, .string ⟨#[]⟩] 40 (0, 0)) := ⟨_, rfl⟩
            have blw2 : Below (w1).heap.size (w1) w2 := by rw [hww2]; exact (Below.refl _ _).alloc (Nat.le_refl _) _
            have hqw2 : isQ w2 (w1).heap.size 0 0 0 ⟨#[]⟩ := by rw [hww2]; exact heap_alloc_new _ _
            rw [← hww2]
            have HT2 := hide ((unhide HT1).below blw2)
            clear hww2
            have HB2 := hide hqw2
            have hqb2 : bb < w1.heap.size := isH.lt (unhide HT1).hb
            obtain ⟨qb, hqbe⟩ : ∃ qb, qb = w1.heap.size := ⟨_, rfl⟩
            rw [← hqbe] at HB2 hqb2 ⊢
            have HQBE := hide hqbe
            clear hqbe
            have hHeld := unhide HS _ (unhide HT2).low
            refine hK.out _ _ (fun _ => hHeld) ?_
            clear hK K
            try simp only [Act.put, List.getElem_toArray, List.getElem_cons_zero, List.getElem_cons_succ, List.setIfInBounds_toArray, List.set_cons_zero, List.set_cons_succ]
            refine wpAnyV_ready (rs := [11, 12]) (by kernel_rfl) (by simp) ?_
            refine ReadyV.cons (o := _) rfl (fun K hK => ?_) (ReadyV.cons (o := _) rfl (fun K hK => ?_) ReadyV.nil)
            · clear hHeld
              refine step_callH (by rfl) 11 _ _ rfl #[.pointer (some ⟨bb, 0, none⟩), .agg #[.int .i64 m.seat, .int .i64 m.ply, .string m.mv, .int .i64 m.at_]] (by simp [Act.eval]) entTake (unhide HTB w2 (unhide HT2).hb (unhide HT2).exb (unhide HT2).low) ?_
              rintro e w3 ⟨rfl, hhw3, hxw3⟩
              refine ⟨_, rfl, ?_⟩
              have HT3 := hide ((unhide HT2).stepB hab h0a hhw3 hxw3)
              have HB3 := hide (isQ_ex (unhide HB2) hxw3 (isQ_lt (unhide HB2)) (by have := hqb2; omega))
              have hqb3 := hqb2
              have hHeld := unhide HS _ (unhide HT3).low
              refine hK.out _ _ (fun _ => hHeld) ?_
              clear hK K
              try simp only [Act.put, List.getElem_toArray, List.getElem_cons_zero, List.getElem_cons_succ, List.setIfInBounds_toArray, List.set_cons_zero, List.set_cons_succ]
              refine wpAnyV_ready (rs := [12]) (by kernel_rfl) (by simp) ?_
              refine ReadyV.cons (o := _) rfl (fun K hK => ?_) ReadyV.nil
              clear hHeld
              go_simp
              obtain ⟨w4, hww4⟩ : ∃ u, u = (w3).alloc (.cells #[.int .i64 0, .int .i64 0, .int .i64 0, .string ⟨#[]⟩] 40 (0, 0)) := ⟨_, rfl⟩
              have blw4 : Below (w3).heap.size (w3) w4 := by rw [hww4]; exact (Below.refl _ _).alloc (Nat.le_refl _) _
              have hqw4 : isQ w4 (w3).heap.size 0 0 0 ⟨#[]⟩ := by rw [hww4]; exact heap_alloc_new _ _
              rw [← hww4]
              have HT4 := hide ((unhide HT3).below blw4)
              clear hww4
              have HA4 := hide hqw4
              have hqa4 : bb < w3.heap.size := isH.lt (unhide HT3).hb
              obtain ⟨qa, hqae⟩ : ∃ qa, qa = w3.heap.size := ⟨_, rfl⟩
              rw [← hqae] at HA4 hqa4 ⊢
              have HB4 := hide (isQ_below (unhide HB3) blw4)
              have hqb4 := hqb3
              have hne : qa ≠ qb := by have := isQ_lt (unhide HB3); omega
              have HQAE := hide hqae
              clear hqae
              have hHeld := unhide HS _ (unhide HT4).low
              refine hK.out _ _ (fun _ => hHeld) ?_
              clear hK K
              try simp only [Act.put, List.getElem_toArray, List.getElem_cons_zero, List.getElem_cons_succ, List.setIfInBounds_toArray, List.set_cons_zero, List.set_cons_succ]
              have HAx := HA4
              have HBx := HB4
              have HTx := HT4
              have hqax : bb < qa := by omega
              have hqbx : bb < qb := by omega
              clear hHeld
              obtain ⟨c0, c1, c2, c3⟩ := isQ_cells (unhide HAx)
              have z0 := isQ_frozen (unhide HAx) 0
              have z1 := isQ_frozen (unhide HAx) 1
              have z2 := isQ_frozen (unhide HAx) 2
              have z3 := isQ_frozen (unhide HAx) 3
              refine wpAnyV_ready (rs := [14]) (by kernel_rfl) (by simp) ?_
              refine ReadyV.cons (o := _) rfl (fun K hK => ?_) ReadyV.nil
              go_simp
              refine hK.out _ _ (fun h => absurd h (by decide)) ?_
              clear hK K c0 c1 c2 c3 z0 z1 z2 z3
              try simp only [Act.put, List.getElem_toArray, List.getElem_cons_zero, List.getElem_cons_succ, List.setIfInBounds_toArray, List.set_cons_zero, List.set_cons_succ]
              have hex := ex_set4 w4 qa (.int .i64 ra) (.int .i64 rb) (.int .i64 rc) (.string rt)
              have hqa' := isQ_set (unhide HAx) ra rb rc rt
              generalize (((w4.setCell ⟨qa, 0, none⟩ (.int .i64 ra)).setCell ⟨qa, 1, none⟩ (.int .i64 rb)).setCell ⟨qa, 2, none⟩ (.int .i64 rc)).setCell ⟨qa, 3, none⟩ (.string rt) = y1 at hex hqa' ⊢
              have hB1 := isQ_ex (unhide HBx) hex (isQ_lt (unhide HBx)) (Ne.symm hne)
              have hT1 := (unhide HTx).far hab hqax h0a hex
              obtain ⟨c0, c1, c2, c3⟩ := isQ_cells hB1
              have z0 := isQ_frozen hB1 0
              have z1 := isQ_frozen hB1 1
              have z2 := isQ_frozen hB1 2
              have z3 := isQ_frozen hB1 3
              refine wpAnyV_ready (rs := [15]) (by kernel_rfl) (by simp) ?_
              refine ReadyV.cons (o := _) rfl (fun K hK => ?_) ReadyV.nil
              go_simp
              refine hK.out _ _ (fun h => absurd h (by decide)) ?_
              clear hK K c0 c1 c2 c3 z0 z1 z2 z3
              try simp only [Act.put, List.getElem_toArray, List.getElem_cons_zero, List.getElem_cons_succ, List.setIfInBounds_toArray, List.set_cons_zero, List.set_cons_succ]
              have hex2 := ex_set4 y1 qb (.int .i64 ra) (.int .i64 rb) (.int .i64 rc) (.string rt)
              have hqb' := isQ_set hB1 ra rb rc rt
              refine wpAnyV_done (by kernel_rfl) ?_ _
              generalize (((y1.setCell ⟨qb, 0, none⟩ (.int .i64 ra)).setCell ⟨qb, 1, none⟩ (.int .i64 rb)).setCell ⟨qb, 2, none⟩ (.int .i64 rc)).setCell ⟨qb, 3, none⟩ (.string rt) = y2 at hex2 hqb' ⊢
              have hA2 := isQ_ex hqa' hex2 (isQ_lt hqa') hne
              have hT2 := hT1.far hab hqbx h0a hex2
              exact unhide key qa qb y2 ⟨hT2, hA2, hqb', hqax⟩
            · clear hHeld
              go_simp
              obtain ⟨w3, hww3⟩ : ∃ u, u = (w2).alloc (.cells #[.int .i64 0, .int .i64 0, .int .i64 0, .string ⟨#[]⟩] 40 (0, 0)) := ⟨_, rfl⟩
              have blw3 : Below (w2).heap.size (w2) w3 := by rw [hww3]; exact (Below.refl _ _).alloc (Nat.le_refl _) _
              have hqw3 : isQ w3 (w2).heap.size 0 0 0 ⟨#[]⟩ := by rw [hww3]; exact heap_alloc_new _ _
              rw [← hww3]
              have HT3 := hide ((unhide HT2).below blw3)
              clear hww3
              have HA3 := hide hqw3
              have hqa3 : bb < w2.heap.size := isH.lt (unhide HT2).hb
              obtain ⟨qa, hqae⟩ : ∃ qa, qa = w2.heap.size := ⟨_, rfl⟩
              rw [← hqae] at HA3 hqa3 ⊢
              have HB3 := hide (isQ_below (unhide HB2) blw3)
              have hqb3 := hqb2
              have hne : qa ≠ qb := by have := isQ_lt (unhide HB2); omega
              have HQAE := hide hqae
              clear hqae
              have hHeld := unhide HS _ (unhide HT3).low
              refine hK.out _ _ (fun _ => hHeld) ?_
              clear hK K
              try simp only [Act.put, List.getElem_toArray, List.getElem_cons_zero, List.getElem_cons_succ, List.setIfInBounds_toArray, List.set_cons_zero, List.set_cons_succ]
              refine wpAnyV_ready (rs := [11]) (by kernel_rfl) (by simp) ?_
              refine ReadyV.cons (o := _) rfl (fun K hK => ?_) ReadyV.nil
              clear hHeld
              refine step_callH (by rfl) 11 _ _ rfl #[.pointer (some ⟨bb, 0, none⟩), .agg #[.int .i64 m.seat, .int .i64 m.ply, .string m.mv, .int .i64 m.at_]] (by simp [Act.eval]) entTake (unhide HTB w3 (unhide HT3).hb (unhide HT3).exb (unhide HT3).low) ?_
              rintro e w4 ⟨rfl, hhw4, hxw4⟩
              refine ⟨_, rfl, ?_⟩
              have HT4 := hide ((unhide HT3).stepB hab h0a hhw4 hxw4)
              have HA4 := hide (isQ_ex (unhide HA3) hxw4 (isQ_lt (unhide HA3)) (by have := hqa3; omega))
              have hqa4 := hqa3
              have HB4 := hide (isQ_ex (unhide HB3) hxw4 (isQ_lt (unhide HB3)) (by have := hqb3; omega))
              have hqb4 := hqb3
              have hHeld := unhide HS _ (unhide HT4).low
              refine hK.out _ _ (fun _ => hHeld) ?_
              clear hK K
              try simp only [Act.put, List.getElem_toArray, List.getElem_cons_zero, List.getElem_cons_succ, List.setIfInBounds_toArray, List.set_cons_zero, List.set_cons_succ]
              have HAx := HA4
              have HBx := HB4
              have HTx := HT4
              have hqax : bb < qa := by omega
              have hqbx : bb < qb := by omega
              clear hHeld
              obtain ⟨c0, c1, c2, c3⟩ := isQ_cells (unhide HAx)
              have z0 := isQ_frozen (unhide HAx) 0
              have z1 := isQ_frozen (unhide HAx) 1
              have z2 := isQ_frozen (unhide HAx) 2
              have z3 := isQ_frozen (unhide HAx) 3
              refine wpAnyV_ready (rs := [14]) (by kernel_rfl) (by simp) ?_
              refine ReadyV.cons (o := _) rfl (fun K hK => ?_) ReadyV.nil
              go_simp
              refine hK.out _ _ (fun h => absurd h (by decide)) ?_
              clear hK K c0 c1 c2 c3 z0 z1 z2 z3
              try simp only [Act.put, List.getElem_toArray, List.getElem_cons_zero, List.getElem_cons_succ, List.setIfInBounds_toArray, List.set_cons_zero, List.set_cons_succ]
              have hex := ex_set4 w4 qa (.int .i64 ra) (.int .i64 rb) (.int .i64 rc) (.string rt)
              have hqa' := isQ_set (unhide HAx) ra rb rc rt
              generalize (((w4.setCell ⟨qa, 0, none⟩ (.int .i64 ra)).setCell ⟨qa, 1, none⟩ (.int .i64 rb)).setCell ⟨qa, 2, none⟩ (.int .i64 rc)).setCell ⟨qa, 3, none⟩ (.string rt) = y1 at hex hqa' ⊢
              have hB1 := isQ_ex (unhide HBx) hex (isQ_lt (unhide HBx)) (Ne.symm hne)
              have hT1 := (unhide HTx).far hab hqax h0a hex
              obtain ⟨c0, c1, c2, c3⟩ := isQ_cells hB1
              have z0 := isQ_frozen hB1 0
              have z1 := isQ_frozen hB1 1
              have z2 := isQ_frozen hB1 2
              have z3 := isQ_frozen hB1 3
              refine wpAnyV_ready (rs := [15]) (by kernel_rfl) (by simp) ?_
              refine ReadyV.cons (o := _) rfl (fun K hK => ?_) ReadyV.nil
              go_simp
              refine hK.out _ _ (fun h => absurd h (by decide)) ?_
              clear hK K c0 c1 c2 c3 z0 z1 z2 z3
              try simp only [Act.put, List.getElem_toArray, List.getElem_cons_zero, List.getElem_cons_succ, List.setIfInBounds_toArray, List.set_cons_zero, List.set_cons_succ]
              have hex2 := ex_set4 y1 qb (.int .i64 ra) (.int .i64 rb) (.int .i64 rc) (.string rt)
              have hqb' := isQ_set hB1 ra rb rc rt
              refine wpAnyV_done (by kernel_rfl) ?_ _
              generalize (((y1.setCell ⟨qb, 0, none⟩ (.int .i64 ra)).setCell ⟨qb, 1, none⟩ (.int .i64 rb)).setCell ⟨qb, 2, none⟩ (.int .i64 rc)).setCell ⟨qb, 3, none⟩ (.string rt) = y2 at hex2 hqb' ⊢
              have hA2 := isQ_ex hqa' hex2 (isQ_lt hqa') hne
              have hT2 := hT1.far hab hqbx h0a hex2
              exact unhide key qa qb y2 ⟨hT2, hA2, hqb', hqax⟩
        · clear hHeld
          go_simp
          obtain ⟨w1, hww1⟩ : ∃ u, u = (w0).alloc (.cells #[.int .i64 0, .int .i64 0, .int .i64 0, .string ⟨#[]⟩] 40 (0, 0)) := ⟨_, rfl⟩
          have blw1 : Below (w0).heap.size (w0) w1 := by rw [hww1]; exact (Below.refl _ _).alloc (Nat.le_refl _) _
          have hqw1 : isQ w1 (w0).heap.size 0 0 0 ⟨#[]⟩ := by rw [hww1]; exact heap_alloc_new _ _
          rw [← hww1]
          have HT1 := hide ((unhide HT0).below blw1)
          clear hww1
          have HA1 := hide hqw1
          have hqa1 : bb < w0.heap.size := isH.lt (unhide HT0).hb
          obtain ⟨qa, hqae⟩ : ∃ qa, qa = w0.heap.size := ⟨_, rfl⟩
          rw [← hqae] at HA1 hqa1 ⊢
          have HQAE := hide hqae
          clear hqae
          have hHeld := unhide HS _ (unhide HT1).low
          refine hK.out _ _ (fun _ => hHeld) ?_
          clear hK K
          try simp only [Act.put, List.getElem_toArray, List.getElem_cons_zero, List.getElem_cons_succ, List.setIfInBounds_toArray, List.set_cons_zero, List.set_cons_succ]
          refine wpAnyV_ready (rs := [5, 13]) (by kernel_rfl) (by simp) ?_
          refine ReadyV.cons (o := _) rfl (fun K hK => ?_) (ReadyV.cons (o := _) rfl (fun K hK => ?_) ReadyV.nil)
          · clear hHeld
            refine step_callH (by rfl) 11 _ _ rfl #[.pointer (some ⟨ba, 0, none⟩), .agg #[.int .i64 m.seat, .int .i64 m.ply, .string m.mv, .int .i64 m.at_]] (by simp [Act.eval]) entTake (unhide HTA w1 (unhide HT1).ha (unhide HT1).lowa) ?_
            rintro e w2 ⟨rfl, hhw2, hxw2⟩
            refine ⟨_, rfl, ?_⟩
            have HT2 := hide ((unhide HT1).stepA hab h0a hhw2 hxw2)
            have HA2 := hide (isQ_ex (unhide HA1) hxw2 (isQ_lt (unhide HA1)) (by have := hqa1; omega))
            have hqa2 := hqa1
            have hHeld := unhide HS _ (unhide HT2).low
            refine hK.out _ _ (fun _ => hHeld) ?_
            clear hK K
            try simp only [Act.put, List.getElem_toArray, List.getElem_cons_zero, List.getElem_cons_succ, List.setIfInBounds_toArray, List.set_cons_zero, List.set_cons_succ]
            refine wpAnyV_ready (rs := [11, 13]) (by kernel_rfl) (by simp) ?_
            refine ReadyV.cons (o := _) rfl (fun K hK => ?_) (ReadyV.cons (o := _) rfl (fun K hK => ?_) ReadyV.nil)
            · clear hHeld
              refine step_callH (by rfl) 11 _ _ rfl #[.pointer (some ⟨bb, 0, none⟩), .agg #[.int .i64 m.seat, .int .i64 m.ply, .string m.mv, .int .i64 m.at_]] (by simp [Act.eval]) entTake (unhide HTB w2 (unhide HT2).hb (unhide HT2).exb (unhide HT2).low) ?_
              rintro e w3 ⟨rfl, hhw3, hxw3⟩
              refine ⟨_, rfl, ?_⟩
              have HT3 := hide ((unhide HT2).stepB hab h0a hhw3 hxw3)
              have HA3 := hide (isQ_ex (unhide HA2) hxw3 (isQ_lt (unhide HA2)) (by have := hqa2; omega))
              have hqa3 := hqa2
              have hHeld := unhide HS _ (unhide HT3).low
              refine hK.out _ _ (fun _ => hHeld) ?_
              clear hK K
              try simp only [Act.put, List.getElem_toArray, List.getElem_cons_zero, List.getElem_cons_succ, List.setIfInBounds_toArray, List.set_cons_zero, List.set_cons_succ]
              refine wpAnyV_ready (rs := [13]) (by kernel_rfl) (by simp) ?_
              refine ReadyV.cons (o := _) rfl (fun K hK => ?_) ReadyV.nil
              clear hHeld
              go_simp
              obtain ⟨w4, hww4⟩ : ∃ u, u = (w3).alloc (.cells #[.int .i64 0, .int .i64 0, .int .i64 0, .string ⟨#[]⟩] 40 (0, 0)) := ⟨_, rfl⟩
              have blw4 : Below (w3).heap.size (w3) w4 := by rw [hww4]; exact (Below.refl _ _).alloc (Nat.le_refl _) _
              have hqw4 : isQ w4 (w3).heap.size 0 0 0 ⟨#[]⟩ := by rw [hww4]; exact heap_alloc_new _ _
              rw [← hww4]
              have HT4 := hide ((unhide HT3).below blw4)
              clear hww4
              have HB4 := hide hqw4
              have hqb4 : bb < w3.heap.size := isH.lt (unhide HT3).hb
              obtain ⟨qb, hqbe⟩ : ∃ qb, qb = w3.heap.size := ⟨_, rfl⟩
              rw [← hqbe] at HB4 hqb4 ⊢
              have HA4 := hide (isQ_below (unhide HA3) blw4)
              have hqa4 := hqa3
              have hne : qa ≠ qb := by have := isQ_lt (unhide HA3); omega
              have HQBE := hide hqbe
              clear hqbe
              have hHeld := unhide HS _ (unhide HT4).low
              refine hK.out _ _ (fun _ => hHeld) ?_
              clear hK K
              try simp only [Act.put, List.getElem_toArray, List.getElem_cons_zero, List.getElem_cons_succ, List.setIfInBounds_toArray, List.set_cons_zero, List.set_cons_succ]
              have HAx := HA4
              have HBx := HB4
              have HTx := HT4
              have hqax : bb < qa := by omega
              have hqbx : bb < qb := by omega
              clear hHeld
              obtain ⟨c0, c1, c2, c3⟩ := isQ_cells (unhide HAx)
              have z0 := isQ_frozen (unhide HAx) 0
              have z1 := isQ_frozen (unhide HAx) 1
              have z2 := isQ_frozen (unhide HAx) 2
              have z3 := isQ_frozen (unhide HAx) 3
              refine wpAnyV_ready (rs := [14]) (by kernel_rfl) (by simp) ?_
              refine ReadyV.cons (o := _) rfl (fun K hK => ?_) ReadyV.nil
              go_simp
              refine hK.out _ _ (fun h => absurd h (by decide)) ?_
              clear hK K c0 c1 c2 c3 z0 z1 z2 z3
              try simp only [Act.put, List.getElem_toArray, List.getElem_cons_zero, List.getElem_cons_succ, List.setIfInBounds_toArray, List.set_cons_zero, List.set_cons_succ]
              have hex := ex_set4 w4 qa (.int .i64 ra) (.int .i64 rb) (.int .i64 rc) (.string rt)
              have hqa' := isQ_set (unhide HAx) ra rb rc rt
              generalize (((w4.setCell ⟨qa, 0, none⟩ (.int .i64 ra)).setCell ⟨qa, 1, none⟩ (.int .i64 rb)).setCell ⟨qa, 2, none⟩ (.int .i64 rc)).setCell ⟨qa, 3, none⟩ (.string rt) = y1 at hex hqa' ⊢
              have hB1 := isQ_ex (unhide HBx) hex (isQ_lt (unhide HBx)) (Ne.symm hne)
              have hT1 := (unhide HTx).far hab hqax h0a hex
              obtain ⟨c0, c1, c2, c3⟩ := isQ_cells hB1
              have z0 := isQ_frozen hB1 0
              have z1 := isQ_frozen hB1 1
              have z2 := isQ_frozen hB1 2
              have z3 := isQ_frozen hB1 3
              refine wpAnyV_ready (rs := [15]) (by kernel_rfl) (by simp) ?_
              refine ReadyV.cons (o := _) rfl (fun K hK => ?_) ReadyV.nil
              go_simp
              refine hK.out _ _ (fun h => absurd h (by decide)) ?_
              clear hK K c0 c1 c2 c3 z0 z1 z2 z3
              try simp only [Act.put, List.getElem_toArray, List.getElem_cons_zero, List.getElem_cons_succ, List.setIfInBounds_toArray, List.set_cons_zero, List.set_cons_succ]
              have hex2 := ex_set4 y1 qb (.int .i64 ra) (.int .i64 rb) (.int .i64 rc) (.string rt)
              have hqb' := isQ_set hB1 ra rb rc rt
              refine wpAnyV_done (by kernel_rfl) ?_ _
              generalize (((y1.setCell ⟨qb, 0, none⟩ (.int .i64 ra)).setCell ⟨qb, 1, none⟩ (.int .i64 rb)).setCell ⟨qb, 2, none⟩ (.int .i64 rc)).setCell ⟨qb, 3, none⟩ (.string rt) = y2 at hex2 hqb' ⊢
              have hA2 := isQ_ex hqa' hex2 (isQ_lt hqa') hne
              have hT2 := hT1.far hab hqbx h0a hex2
              exact unhide key qa qb y2 ⟨hT2, hA2, hqb', hqax⟩
            · clear hHeld
              go_simp
              obtain ⟨w3, hww3⟩ : ∃ u, u = (w2).alloc (.cells #[.int .i64 0, .int .i64 0, .int .i64 0, .string ⟨#[]⟩] 40 (0, 0)) := ⟨_, rfl⟩
              have blw3 : Below (w2).heap.size (w2) w3 := by rw [hww3]; exact (Below.refl _ _).alloc (Nat.le_refl _) _
              have hqw3 : isQ w3 (w2).heap.size 0 0 0 ⟨#[]⟩ := by rw [hww3]; exact heap_alloc_new _ _
              rw [← hww3]
              have HT3 := hide ((unhide HT2).below blw3)
              clear hww3
              have HB3 := hide hqw3
              have hqb3 : bb < w2.heap.size := isH.lt (unhide HT2).hb
              obtain ⟨qb, hqbe⟩ : ∃ qb, qb = w2.heap.size := ⟨_, rfl⟩
              rw [← hqbe] at HB3 hqb3 ⊢
              have HA3 := hide (isQ_below (unhide HA2) blw3)
              have hqa3 := hqa2
              have hne : qa ≠ qb := by have := isQ_lt (unhide HA2); omega
              have HQBE := hide hqbe
              clear hqbe
              have hHeld := unhide HS _ (unhide HT3).low
              refine hK.out _ _ (fun _ => hHeld) ?_
              clear hK K
              try simp only [Act.put, List.getElem_toArray, List.getElem_cons_zero, List.getElem_cons_succ, List.setIfInBounds_toArray, List.set_cons_zero, List.set_cons_succ]
              refine wpAnyV_ready (rs := [11]) (by kernel_rfl) (by simp) ?_
              refine ReadyV.cons (o := _) rfl (fun K hK => ?_) ReadyV.nil
              clear hHeld
              refine step_callH (by rfl) 11 _ _ rfl #[.pointer (some ⟨bb, 0, none⟩), .agg #[.int .i64 m.seat, .int .i64 m.ply, .string m.mv, .int .i64 m.at_]] (by simp [Act.eval]) entTake (unhide HTB w3 (unhide HT3).hb (unhide HT3).exb (unhide HT3).low) ?_
              rintro e w4 ⟨rfl, hhw4, hxw4⟩
              refine ⟨_, rfl, ?_⟩
              have HT4 := hide ((unhide HT3).stepB hab h0a hhw4 hxw4)
              have HA4 := hide (isQ_ex (unhide HA3) hxw4 (isQ_lt (unhide HA3)) (by have := hqa3; omega))
              have hqa4 := hqa3
              have HB4 := hide (isQ_ex (unhide HB3) hxw4 (isQ_lt (unhide HB3)) (by have := hqb3; omega))
              have hqb4 := hqb3
              have hHeld := unhide HS _ (unhide HT4).low
              refine hK.out _ _ (fun _ => hHeld) ?_
              clear hK K
              try simp only [Act.put, List.getElem_toArray, List.getElem_cons_zero, List.getElem_cons_succ, List.setIfInBounds_toArray, List.set_cons_zero, List.set_cons_succ]
              have HAx := HA4
              have HBx := HB4
              have HTx := HT4
              have hqax : bb < qa := by omega
              have hqbx : bb < qb := by omega
              clear hHeld
              obtain ⟨c0, c1, c2, c3⟩ := isQ_cells (unhide HAx)
              have z0 := isQ_frozen (unhide HAx) 0
              have z1 := isQ_frozen (unhide HAx) 1
              have z2 := isQ_frozen (unhide HAx) 2
              have z3 := isQ_frozen (unhide HAx) 3
              refine wpAnyV_ready (rs := [14]) (by kernel_rfl) (by simp) ?_
              refine ReadyV.cons (o := _) rfl (fun K hK => ?_) ReadyV.nil
              go_simp
              refine hK.out _ _ (fun h => absurd h (by decide)) ?_
              clear hK K c0 c1 c2 c3 z0 z1 z2 z3
              try simp only [Act.put, List.getElem_toArray, List.getElem_cons_zero, List.getElem_cons_succ, List.setIfInBounds_toArray, List.set_cons_zero, List.set_cons_succ]
              have hex := ex_set4 w4 qa (.int .i64 ra) (.int .i64 rb) (.int .i64 rc) (.string rt)
              have hqa' := isQ_set (unhide HAx) ra rb rc rt
              generalize (((w4.setCell ⟨qa, 0, none⟩ (.int .i64 ra)).setCell ⟨qa, 1, none⟩ (.int .i64 rb)).setCell ⟨qa, 2, none⟩ (.int .i64 rc)).setCell ⟨qa, 3, none⟩ (.string rt) = y1 at hex hqa' ⊢
              have hB1 := isQ_ex (unhide HBx) hex (isQ_lt (unhide HBx)) (Ne.symm hne)
              have hT1 := (unhide HTx).far hab hqax h0a hex
              obtain ⟨c0, c1, c2, c3⟩ := isQ_cells hB1
              have z0 := isQ_frozen hB1 0
              have z1 := isQ_frozen hB1 1
              have z2 := isQ_frozen hB1 2
              have z3 := isQ_frozen hB1 3
              refine wpAnyV_ready (rs := [15]) (by kernel_rfl) (by simp) ?_
              refine ReadyV.cons (o := _) rfl (fun K hK => ?_) ReadyV.nil
              go_simp
              refine hK.out _ _ (fun h => absurd h (by decide)) ?_
              clear hK K c0 c1 c2 c3 z0 z1 z2 z3
              try simp only [Act.put, List.getElem_toArray, List.getElem_cons_zero, List.getElem_cons_succ, List.setIfInBounds_toArray, List.set_cons_zero, List.set_cons_succ]
              have hex2 := ex_set4 y1 qb (.int .i64 ra) (.int .i64 rb) (.int .i64 rc) (.string rt)
              have hqb' := isQ_set hB1 ra rb rc rt
              refine wpAnyV_done (by kernel_rfl) ?_ _
              generalize (((y1.setCell ⟨qb, 0, none⟩ (.int .i64 ra)).setCell ⟨qb, 1, none⟩ (.int .i64 rb)).setCell ⟨qb, 2, none⟩ (.int .i64 rc)).setCell ⟨qb, 3, none⟩ (.string rt) = y2 at hex2 hqb' ⊢
              have hA2 := isQ_ex hqa' hex2 (isQ_lt hqa') hne
              have hT2 := hT1.far hab hqbx h0a hex2
              exact unhide key qa qb y2 ⟨hT2, hA2, hqb', hqax⟩
          · clear hHeld
            go_simp
            obtain ⟨w2, hww2⟩ : ∃ u, u = (w1).alloc (.cells #[.int .i64 0, .int .i64 0, .int .i64 0, .string ⟨#[]⟩] 40 (0, 0)) := ⟨_, rfl⟩
            have blw2 : Below (w1).heap.size (w1) w2 := by rw [hww2]; exact (Below.refl _ _).alloc (Nat.le_refl _) _
            have hqw2 : isQ w2 (w1).heap.size 0 0 0 ⟨#[]⟩ := by rw [hww2]; exact heap_alloc_new _ _
            rw [← hww2]
            have HT2 := hide ((unhide HT1).below blw2)
            clear hww2
            have HB2 := hide hqw2
            have hqb2 : bb < w1.heap.size := isH.lt (unhide HT1).hb
            obtain ⟨qb, hqbe⟩ : ∃ qb, qb = w1.heap.size := ⟨_, rfl⟩
            rw [← hqbe] at HB2 hqb2 ⊢
            have HA2 := hide (isQ_below (unhide HA1) blw2)
            have hqa2 := hqa1
            have hne : qa ≠ qb := by have := isQ_lt (unhide HA1); omega
            have HQBE := hide hqbe
            clear hqbe
            have hHeld := unhide HS _ (unhide HT2).low
            refine hK.out _ _ (fun _ => hHeld) ?_
            clear hK K
            try simp only [Act.put, List.getElem_toArray, List.getElem_cons_zero, List.getElem_cons_succ, List.setIfInBounds_toArray, List.set_cons_zero, List.set_cons_succ]
            refine wpAnyV_ready (rs := [5]) (by kernel_rfl) (by simp) ?_
            refine ReadyV.cons (o := _) rfl (fun K hK => ?_) ReadyV.nil
            clear hHeld
            refine step_callH (by rfl) 11 _ _ rfl #[.pointer (some ⟨ba, 0, none⟩), .agg #[.int .i64 m.seat, .int .i64 m.ply, .string m.mv, .int .i64 m.at_]] (by simp [Act.eval]) entTake (unhide HTA w2 (unhide HT2).ha (unhide HT2).lowa) ?_
            rintro e w3 ⟨rfl, hhw3, hxw3⟩
            refine ⟨_, rfl, ?_⟩
            have HT3 := hide ((unhide HT2).stepA hab h0a hhw3 hxw3)
            have HA3 := hide (isQ_ex (unhide HA2) hxw3 (isQ_lt (unhide HA2)) (by have := hqa2; omega))
            have hqa3 := hqa2
            have HB3 := hide (isQ_ex (unhide HB2) hxw3 (isQ_lt (unhide HB2)) (by have := hqb2; omega))
            have hqb3 := hqb2
            have hHeld := unhide HS _ (unhide HT3).low
            refine hK.out _ _ (fun _ => hHeld) ?_
            clear hK K
            try simp only [Act.put, List.getElem_toArray, List.getElem_cons_zero, List.getElem_cons_succ, List.setIfInBounds_toArray, List.set_cons_zero, List.set_cons_succ]
            refine wpAnyV_ready (rs := [11]) (by kernel_rfl) (by simp) ?_
            refine ReadyV.cons (o := _) rfl (fun K hK => ?_) ReadyV.nil
            clear hHeld
            refine step_callH (by rfl) 11 _ _ rfl #[.pointer (some ⟨bb, 0, none⟩), .agg #[.int .i64 m.seat, .int .i64 m.ply, .string m.mv, .int .i64 m.at_]] (by simp [Act.eval]) entTake (unhide HTB w3 (unhide HT3).hb (unhide HT3).exb (unhide HT3).low) ?_
            rintro e w4 ⟨rfl, hhw4, hxw4⟩
            refine ⟨_, rfl, ?_⟩
            have HT4 := hide ((unhide HT3).stepB hab h0a hhw4 hxw4)
            have HA4 := hide (isQ_ex (unhide HA3) hxw4 (isQ_lt (unhide HA3)) (by have := hqa3; omega))
            have hqa4 := hqa3
            have HB4 := hide (isQ_ex (unhide HB3) hxw4 (isQ_lt (unhide HB3)) (by have := hqb3; omega))
            have hqb4 := hqb3
            have hHeld := unhide HS _ (unhide HT4).low
            refine hK.out _ _ (fun _ => hHeld) ?_
            clear hK K
            try simp only [Act.put, List.getElem_toArray, List.getElem_cons_zero, List.getElem_cons_succ, List.setIfInBounds_toArray, List.set_cons_zero, List.set_cons_succ]
            have HAx := HA4
            have HBx := HB4
            have HTx := HT4
            have hqax : bb < qa := by omega
            have hqbx : bb < qb := by omega
            clear hHeld
            obtain ⟨c0, c1, c2, c3⟩ := isQ_cells (unhide HAx)
            have z0 := isQ_frozen (unhide HAx) 0
            have z1 := isQ_frozen (unhide HAx) 1
            have z2 := isQ_frozen (unhide HAx) 2
            have z3 := isQ_frozen (unhide HAx) 3
            refine wpAnyV_ready (rs := [14]) (by kernel_rfl) (by simp) ?_
            refine ReadyV.cons (o := _) rfl (fun K hK => ?_) ReadyV.nil
            go_simp
            refine hK.out _ _ (fun h => absurd h (by decide)) ?_
            clear hK K c0 c1 c2 c3 z0 z1 z2 z3
            try simp only [Act.put, List.getElem_toArray, List.getElem_cons_zero, List.getElem_cons_succ, List.setIfInBounds_toArray, List.set_cons_zero, List.set_cons_succ]
            have hex := ex_set4 w4 qa (.int .i64 ra) (.int .i64 rb) (.int .i64 rc) (.string rt)
            have hqa' := isQ_set (unhide HAx) ra rb rc rt
            generalize (((w4.setCell ⟨qa, 0, none⟩ (.int .i64 ra)).setCell ⟨qa, 1, none⟩ (.int .i64 rb)).setCell ⟨qa, 2, none⟩ (.int .i64 rc)).setCell ⟨qa, 3, none⟩ (.string rt) = y1 at hex hqa' ⊢
            have hB1 := isQ_ex (unhide HBx) hex (isQ_lt (unhide HBx)) (Ne.symm hne)
            have hT1 := (unhide HTx).far hab hqax h0a hex
            obtain ⟨c0, c1, c2, c3⟩ := isQ_cells hB1
            have z0 := isQ_frozen hB1 0
            have z1 := isQ_frozen hB1 1
            have z2 := isQ_frozen hB1 2
            have z3 := isQ_frozen hB1 3
            refine wpAnyV_ready (rs := [15]) (by kernel_rfl) (by simp) ?_
            refine ReadyV.cons (o := _) rfl (fun K hK => ?_) ReadyV.nil
            go_simp
            refine hK.out _ _ (fun h => absurd h (by decide)) ?_
            clear hK K c0 c1 c2 c3 z0 z1 z2 z3
            try simp only [Act.put, List.getElem_toArray, List.getElem_cons_zero, List.getElem_cons_succ, List.setIfInBounds_toArray, List.set_cons_zero, List.set_cons_succ]
            have hex2 := ex_set4 y1 qb (.int .i64 ra) (.int .i64 rb) (.int .i64 rc) (.string rt)
            have hqb' := isQ_set hB1 ra rb rc rt
            refine wpAnyV_done (by kernel_rfl) ?_ _
            generalize (((y1.setCell ⟨qb, 0, none⟩ (.int .i64 ra)).setCell ⟨qb, 1, none⟩ (.int .i64 rb)).setCell ⟨qb, 2, none⟩ (.int .i64 rc)).setCell ⟨qb, 3, none⟩ (.string rt) = y2 at hex2 hqb' ⊢
            have hA2 := isQ_ex hqa' hex2 (isQ_lt hqa') hne
            have hT2 := hT1.far hab hqbx h0a hex2
            exact unhide key qa qb y2 ⟨hT2, hA2, hqb', hqax⟩
        · clear hHeld
          go_simp
          obtain ⟨w1, hww1⟩ : ∃ u, u = (w0).alloc (.cells #[.int .i64 0, .int .i64 0, .int .i64 0, .string ⟨#[]⟩] 40 (0, 0)) := ⟨_, rfl⟩
          have blw1 : Below (w0).heap.size (w0) w1 := by rw [hww1]; exact (Below.refl _ _).alloc (Nat.le_refl _) _
          have hqw1 : isQ w1 (w0).heap.size 0 0 0 ⟨#[]⟩ := by rw [hww1]; exact heap_alloc_new _ _
          rw [← hww1]
          have HT1 := hide ((unhide HT0).below blw1)
          clear hww1
          have HB1 := hide hqw1
          have hqb1 : bb < w0.heap.size := isH.lt (unhide HT0).hb
          obtain ⟨qb, hqbe⟩ : ∃ qb, qb = w0.heap.size := ⟨_, rfl⟩
          rw [← hqbe] at HB1 hqb1 ⊢
          have HQBE := hide hqbe
          clear hqbe
          have hHeld := unhide HS _ (unhide HT1).low
          refine hK.out _ _ (fun _ => hHeld) ?_
          clear hK K
          try simp only [Act.put, List.getElem_toArray, List.getElem_cons_zero, List.getElem_cons_succ, List.setIfInBounds_toArray, List.set_cons_zero, List.set_cons_succ]
          refine wpAnyV_ready (rs := [5, 12]) (by kernel_rfl) (by simp) ?_
          refine ReadyV.cons (o := _) rfl (fun K hK => ?_) (ReadyV.cons (o := _) rfl (fun K hK => ?_) ReadyV.nil)
          · clear hHeld
            refine step_callH (by rfl) 11 _ _ rfl #[.pointer (some ⟨ba, 0, none⟩), .agg #[.int .i64 m.seat, .int .i64 m.ply, .string m.mv, .int .i64 m.at_]] (by simp [Act.eval]) entTake (unhide HTA w1 (unhide HT1).ha (unhide HT1).lowa) ?_
            rintro e w2 ⟨rfl, hhw2, hxw2⟩
            refine ⟨_, rfl, ?_⟩
            have HT2 := hide ((unhide HT1).stepA hab h0a hhw2 hxw2)
            have HB2 := hide (isQ_ex (unhide HB1) hxw2 (isQ_lt (unhide HB1)) (by have := hqb1; omega))
            have hqb2 := hqb1
            have hHeld := unhide HS _ (unhide HT2).low
            refine hK.out _ _ (fun _ => hHeld) ?_
            clear hK K
            try simp only [Act.put, List.getElem_toArray, List.getElem_cons_zero, List.getElem_cons_succ, List.setIfInBounds_toArray, List.set_cons_zero, List.set_cons_succ]
            refine wpAnyV_ready (rs := [11, 12]) (by kernel_rfl) (by simp) ?_
            refine ReadyV.cons (o := _) rfl (fun K hK => ?_) (ReadyV.cons (o := _) rfl (fun K hK => ?_) ReadyV.nil)
            · clear hHeld
              refine step_callH (by rfl) 11 _ _ rfl #[.pointer (some ⟨bb, 0, none⟩), .agg #[.int .i64 m.seat, .int .i64 m.ply, .string m.mv, .int .i64 m.at_]] (by simp [Act.eval]) entTake (unhide HTB w2 (unhide HT2).hb (unhide HT2).exb (unhide HT2).low) ?_
              rintro e w3 ⟨rfl, hhw3, hxw3⟩
              refine ⟨_, rfl, ?_⟩
              have HT3 := hide ((unhide HT2).stepB hab h0a hhw3 hxw3)
              have HB3 := hide (isQ_ex (unhide HB2) hxw3 (isQ_lt (unhide HB2)) (by have := hqb2; omega))
              have hqb3 := hqb2
              have hHeld := unhide HS _ (unhide HT3).low
              refine hK.out _ _ (fun _ => hHeld) ?_
              clear hK K
              try simp only [Act.put, List.getElem_toArray, List.getElem_cons_zero, List.getElem_cons_succ, List.setIfInBounds_toArray, List.set_cons_zero, List.set_cons_succ]
              refine wpAnyV_ready (rs := [12]) (by kernel_rfl) (by simp) ?_
              refine ReadyV.cons (o := _) rfl (fun K hK => ?_) ReadyV.nil
              clear hHeld
              go_simp
              obtain ⟨w4, hww4⟩ : ∃ u, u = (w3).alloc (.cells #[.int .i64 0, .int .i64 0, .int .i64 0, .string ⟨#[]⟩] 40 (0, 0)) := ⟨_, rfl⟩
              have blw4 : Below (w3).heap.size (w3) w4 := by rw [hww4]; exact (Below.refl _ _).alloc (Nat.le_refl _) _
              have hqw4 : isQ w4 (w3).heap.size 0 0 0 ⟨#[]⟩ := by rw [hww4]; exact heap_alloc_new _ _
              rw [← hww4]
              have HT4 := hide ((unhide HT3).below blw4)
              clear hww4
              have HA4 := hide hqw4
              have hqa4 : bb < w3.heap.size := isH.lt (unhide HT3).hb
              obtain ⟨qa, hqae⟩ : ∃ qa, qa = w3.heap.size := ⟨_, rfl⟩
              rw [← hqae] at HA4 hqa4 ⊢
              have HB4 := hide (isQ_below (unhide HB3) blw4)
              have hqb4 := hqb3
              have hne : qa ≠ qb := by have := isQ_lt (unhide HB3); omega
              have HQAE := hide hqae
              clear hqae
              have hHeld := unhide HS _ (unhide HT4).low
              refine hK.out _ _ (fun _ => hHeld) ?_
              clear hK K
              try simp only [Act.put, List.getElem_toArray, List.getElem_cons_zero, List.getElem_cons_succ, List.setIfInBounds_toArray, List.set_cons_zero, List.set_cons_succ]
              have HAx := HA4
              have HBx := HB4
              have HTx := HT4
              have hqax : bb < qa := by omega
              have hqbx : bb < qb := by omega
              clear hHeld
              obtain ⟨c0, c1, c2, c3⟩ := isQ_cells (unhide HAx)
              have z0 := isQ_frozen (unhide HAx) 0
              have z1 := isQ_frozen (unhide HAx) 1
              have z2 := isQ_frozen (unhide HAx) 2
              have z3 := isQ_frozen (unhide HAx) 3
              refine wpAnyV_ready (rs := [14]) (by kernel_rfl) (by simp) ?_
              refine ReadyV.cons (o := _) rfl (fun K hK => ?_) ReadyV.nil
              go_simp
              refine hK.out _ _ (fun h => absurd h (by decide)) ?_
              clear hK K c0 c1 c2 c3 z0 z1 z2 z3
              try simp only [Act.put, List.getElem_toArray, List.getElem_cons_zero, List.getElem_cons_succ, List.setIfInBounds_toArray, List.set_cons_zero, List.set_cons_succ]
              have hex := ex_set4 w4 qa (.int .i64 ra) (.int .i64 rb) (.int .i64 rc) (.string rt)
              have hqa' := isQ_set (unhide HAx) ra rb rc rt
              generalize (((w4.setCell ⟨qa, 0, none⟩ (.int .i64 ra)).setCell ⟨qa, 1, none⟩ (.int .i64 rb)).setCell ⟨qa, 2, none⟩ (.int .i64 rc)).setCell ⟨qa, 3, none⟩ (.string rt) = y1 at hex hqa' ⊢
              have hB1 := isQ_ex (unhide HBx) hex (isQ_lt (unhide HBx)) (Ne.symm hne)
              have hT1 := (unhide HTx).far hab hqax h0a hex
              obtain ⟨c0, c1, c2, c3⟩ := isQ_cells hB1
              have z0 := isQ_frozen hB1 0
              have z1 := isQ_frozen hB1 1
              have z2 := isQ_frozen hB1 2
              have z3 := isQ_frozen hB1 3
              refine wpAnyV_ready (rs := [15]) (by kernel_rfl) (by simp) ?_
              refine ReadyV.cons (o := _) rfl (fun K hK => ?_) ReadyV.nil
              go_simp
              refine hK.out _ _ (fun h => absurd h (by decide)) ?_
              clear hK K c0 c1 c2 c3 z0 z1 z2 z3
              try simp only [Act.put, List.getElem_toArray, List.getElem_cons_zero, List.getElem_cons_succ, List.setIfInBounds_toArray, List.set_cons_zero, List.set_cons_succ]
              have hex2 := ex_set4 y1 qb (.int .i64 ra) (.int .i64 rb) (.int .i64 rc) (.string rt)
              have hqb' := isQ_set hB1 ra rb rc rt
              refine wpAnyV_done (by kernel_rfl) ?_ _
              generalize (((y1.setCell ⟨qb, 0, none⟩ (.int .i64 ra)).setCell ⟨qb, 1, none⟩ (.int .i64 rb)).setCell ⟨qb, 2, none⟩ (.int .i64 rc)).setCell ⟨qb, 3, none⟩ (.string rt) = y2 at hex2 hqb' ⊢
              have hA2 := isQ_ex hqa' hex2 (isQ_lt hqa') hne
              have hT2 := hT1.far hab hqbx h0a hex2
              exact unhide key qa qb y2 ⟨hT2, hA2, hqb', hqax⟩
            · clear hHeld
              go_simp
              obtain ⟨w3, hww3⟩ : ∃ u, u = (w2).alloc (.cells #[.int .i64 0, .int .i64 0, .int .i64 0, .string ⟨#[]⟩] 40 (0, 0)) := ⟨_, rfl⟩
              have blw3 : Below (w2).heap.size (w2) w3 := by rw [hww3]; exact (Below.refl _ _).alloc (Nat.le_refl _) _
              have hqw3 : isQ w3 (w2).heap.size 0 0 0 ⟨#[]⟩ := by rw [hww3]; exact heap_alloc_new _ _
              rw [← hww3]
              have HT3 := hide ((unhide HT2).below blw3)
              clear hww3
              have HA3 := hide hqw3
              have hqa3 : bb < w2.heap.size := isH.lt (unhide HT2).hb
              obtain ⟨qa, hqae⟩ : ∃ qa, qa = w2.heap.size := ⟨_, rfl⟩
              rw [← hqae] at HA3 hqa3 ⊢
              have HB3 := hide (isQ_below (unhide HB2) blw3)
              have hqb3 := hqb2
              have hne : qa ≠ qb := by have := isQ_lt (unhide HB2); omega
              have HQAE := hide hqae
              clear hqae
              have hHeld := unhide HS _ (unhide HT3).low
              refine hK.out _ _ (fun _ => hHeld) ?_
              clear hK K
              try simp only [Act.put, List.getElem_toArray, List.getElem_cons_zero, List.getElem_cons_succ, List.setIfInBounds_toArray, List.set_cons_zero, List.set_cons_succ]
              refine wpAnyV_ready (rs := [11]) (by kernel_rfl) (by simp) ?_
              refine ReadyV.cons (o := _) rfl (fun K hK => ?_) ReadyV.nil
              clear hHeld
              refine step_callH (by rfl) 11 _ _ rfl #[.pointer (some ⟨bb, 0, none⟩), .agg #[.int .i64 m.seat, .int .i64 m.ply, .string m.mv, .int .i64 m.at_]] (by simp [Act.eval]) entTake (unhide HTB w3 (unhide HT3).hb (unhide HT3).exb (unhide HT3).low) ?_
              rintro e w4 ⟨rfl, hhw4, hxw4⟩
              refine ⟨_, rfl, ?_⟩
              have HT4 := hide ((unhide HT3).stepB hab h0a hhw4 hxw4)
              have HA4 := hide (isQ_ex (unhide HA3) hxw4 (isQ_lt (unhide HA3)) (by have := hqa3; omega))
              have hqa4 := hqa3
              have HB4 := hide (isQ_ex (unhide HB3) hxw4 (isQ_lt (unhide HB3)) (by have := hqb3; omega))
              have hqb4 := hqb3
              have hHeld := unhide HS _ (unhide HT4).low
              refine hK.out _ _ (fun _ => hHeld) ?_
              clear hK K
              try simp only [Act.put, List.getElem_toArray, List.getElem_cons_zero, List.getElem_cons_succ, List.setIfInBounds_toArray, List.set_cons_zero, List.set_cons_succ]
              have HAx := HA4
              have HBx := HB4
              have HTx := HT4
              have hqax : bb < qa := by omega
              have hqbx : bb < qb := by omega
              clear hHeld
              obtain ⟨c0, c1, c2, c3⟩ := isQ_cells (unhide HAx)
              have z0 := isQ_frozen (unhide HAx) 0
              have z1 := isQ_frozen (unhide HAx) 1
              have z2 := isQ_frozen (unhide HAx) 2
              have z3 := isQ_frozen (unhide HAx) 3
              refine wpAnyV_ready (rs := [14]) (by kernel_rfl) (by simp) ?_
              refine ReadyV.cons (o := _) rfl (fun K hK => ?_) ReadyV.nil
              go_simp
              refine hK.out _ _ (fun h => absurd h (by decide)) ?_
              clear hK K c0 c1 c2 c3 z0 z1 z2 z3
              try simp only [Act.put, List.getElem_toArray, List.getElem_cons_zero, List.getElem_cons_succ, List.setIfInBounds_toArray, List.set_cons_zero, List.set_cons_succ]
              have hex := ex_set4 w4 qa (.int .i64 ra) (.int .i64 rb) (.int .i64 rc) (.string rt)
              have hqa' := isQ_set (unhide HAx) ra rb rc rt
              generalize (((w4.setCell ⟨qa, 0, none⟩ (.int .i64 ra)).setCell ⟨qa, 1, none⟩ (.int .i64 rb)).setCell ⟨qa, 2, none⟩ (.int .i64 rc)).setCell ⟨qa, 3, none⟩ (.string rt) = y1 at hex hqa' ⊢
              have hB1 := isQ_ex (unhide HBx) hex (isQ_lt (unhide HBx)) (Ne.symm hne)
              have hT1 := (unhide HTx).far hab hqax h0a hex
              obtain ⟨c0, c1, c2, c3⟩ := isQ_cells hB1
              have z0 := isQ_frozen hB1 0
              have z1 := isQ_frozen hB1 1
              have z2 := isQ_frozen hB1 2
              have z3 := isQ_frozen hB1 3
              refine wpAnyV_ready (rs := [15]) (by kernel_rfl) (by simp) ?_
              refine ReadyV.cons (o := _) rfl (fun K hK => ?_) ReadyV.nil
              go_simp
              refine hK.out _ _ (fun h => absurd h (by decide)) ?_
              clear hK K c0 c1 c2 c3 z0 z1 z2 z3
              try simp only [Act.put, List.getElem_toArray, List.getElem_cons_zero, List.getElem_cons_succ, List.setIfInBounds_toArray, List.set_cons_zero, List.set_cons_succ]
              have hex2 := ex_set4 y1 qb (.int .i64 ra) (.int .i64 rb) (.int .i64 rc) (.string rt)
              have hqb' := isQ_set hB1 ra rb rc rt
              refine wpAnyV_done (by kernel_rfl) ?_ _
              generalize (((y1.setCell ⟨qb, 0, none⟩ (.int .i64 ra)).setCell ⟨qb, 1, none⟩ (.int .i64 rb)).setCell ⟨qb, 2, none⟩ (.int .i64 rc)).setCell ⟨qb, 3, none⟩ (.string rt) = y2 at hex2 hqb' ⊢
              have hA2 := isQ_ex hqa' hex2 (isQ_lt hqa') hne
              have hT2 := hT1.far hab hqbx h0a hex2
              exact unhide key qa qb y2 ⟨hT2, hA2, hqb', hqax⟩
          · clear hHeld
            go_simp
            obtain ⟨w2, hww2⟩ : ∃ u, u = (w1).alloc (.cells #[.int .i64 0, .int .i64 0, .int .i64 0, .string ⟨#[]⟩] 40 (0, 0)) := ⟨_, rfl⟩
            have blw2 : Below (w1).heap.size (w1) w2 := by rw [hww2]; exact (Below.refl _ _).alloc (Nat.le_refl _) _
            have hqw2 : isQ w2 (w1).heap.size 0 0 0 ⟨#[]⟩ := by rw [hww2]; exact heap_alloc_new _ _
            rw [← hww2]
            have HT2 := hide ((unhide HT1).below blw2)
            clear hww2
            have HA2 := hide hqw2
            have hqa2 : bb < w1.heap.size := isH.lt (unhide HT1).hb
            obtain ⟨qa, hqae⟩ : ∃ qa, qa = w1.heap.size := ⟨_, rfl⟩
            rw [← hqae] at HA2 hqa2 ⊢
            have HB2 := hide (isQ_below (unhide HB1) blw2)
            have hqb2 := hqb1
            have hne : qa ≠ qb := by have := isQ_lt (unhide HB1); omega
            have HQAE := hide hqae
            clear hqae
            have hHeld := unhide HS _ (unhide HT2).low
            refine hK.out _ _ (fun _ => hHeld) ?_
            clear hK K
            try simp only [Act.put, List.getElem_toArray, List.getElem_cons_zero, List.getElem_cons_succ, List.setIfInBounds_toArray, List.set_cons_zero, List.set_cons_succ]
            refine wpAnyV_ready (rs := [5]) (by kernel_rfl) (by simp) ?_
            refine ReadyV.cons (o := _) rfl (fun K hK => ?_) ReadyV.nil
            clear hHeld
            refine step_callH (by rfl) 11 _ _ rfl #[.pointer (some ⟨ba, 0, none⟩), .agg #[.int .i64 m.seat, .int .i64 m.ply, .string m.mv, .int .i64 m.at_]] (by simp [Act.eval]) entTake (unhide HTA w2 (unhide HT2).ha (unhide HT2).lowa) ?_
            rintro e w3 ⟨rfl, hhw3, hxw3⟩
            refine ⟨_, rfl, ?_⟩
            have HT3 := hide ((unhide HT2).stepA hab h0a hhw3 hxw3)
            have HA3 := hide (isQ_ex (unhide HA2) hxw3 (isQ_lt (unhide HA2)) (by have := hqa2; omega))
            have hqa3 := hqa2
            have HB3 := hide (isQ_ex (unhide HB2) hxw3 (isQ_lt (unhide HB2)) (by have := hqb2; omega))
            have hqb3 := hqb2
            have hHeld := unhide HS _ (unhide HT3).low
            refine hK.out _ _ (fun _ => hHeld) ?_
            clear hK K
            try simp only [Act.put, List.getElem_toArray, List.getElem_cons_zero, List.getElem_cons_succ, List.setIfInBounds_toArray, List.set_cons_zero, List.set_cons_succ]
            refine wpAnyV_ready (rs := [11]) (by kernel_rfl) (by simp) ?_
            refine ReadyV.cons (o := _) rfl (fun K hK => ?_) ReadyV.nil
            clear hHeld
            refine step_callH (by rfl) 11 _ _ rfl #[.pointer (some ⟨bb, 0, none⟩), .agg #[.int .i64 m.seat, .int .i64 m.ply, .string m.mv, .int .i64 m.at_]] (by simp [Act.eval]) entTake (unhide HTB w3 (unhide HT3).hb (unhide HT3).exb (unhide HT3).low) ?_
            rintro e w4 ⟨rfl, hhw4, hxw4⟩
            refine ⟨_, rfl, ?_⟩
            have HT4 := hide ((unhide HT3).stepB hab h0a hhw4 hxw4)
            have HA4 := hide (isQ_ex (unhide HA3) hxw4 (isQ_lt (unhide HA3)) (by have := hqa3; omega))
            have hqa4 := hqa3
            have HB4 := hide (isQ_ex (unhide HB3) hxw4 (isQ_lt (unhide HB3)) (by have := hqb3; omega))
            have hqb4 := hqb3
            have hHeld := unhide HS _ (unhide HT4).low
            refine hK.out _ _ (fun _ => hHeld) ?_
            clear hK K
            try simp only [Act.put, List.getElem_toArray, List.getElem_cons_zero, List.getElem_cons_succ, List.setIfInBounds_toArray, List.set_cons_zero, List.set_cons_succ]
            have HAx := HA4
            have HBx := HB4
            have HTx := HT4
            have hqax : bb < qa := by omega
            have hqbx : bb < qb := by omega
            clear hHeld
            obtain ⟨c0, c1, c2, c3⟩ := isQ_cells (unhide HAx)
            have z0 := isQ_frozen (unhide HAx) 0
            have z1 := isQ_frozen (unhide HAx) 1
            have z2 := isQ_frozen (unhide HAx) 2
            have z3 := isQ_frozen (unhide HAx) 3
            refine wpAnyV_ready (rs := [14]) (by kernel_rfl) (by simp) ?_
            refine ReadyV.cons (o := _) rfl (fun K hK => ?_) ReadyV.nil
            go_simp
            refine hK.out _ _ (fun h => absurd h (by decide)) ?_
            clear hK K c0 c1 c2 c3 z0 z1 z2 z3
            try simp only [Act.put, List.getElem_toArray, List.getElem_cons_zero, List.getElem_cons_succ, List.setIfInBounds_toArray, List.set_cons_zero, List.set_cons_succ]
            have hex := ex_set4 w4 qa (.int .i64 ra) (.int .i64 rb) (.int .i64 rc) (.string rt)
            have hqa' := isQ_set (unhide HAx) ra rb rc rt
            generalize (((w4.setCell ⟨qa, 0, none⟩ (.int .i64 ra)).setCell ⟨qa, 1, none⟩ (.int .i64 rb)).setCell ⟨qa, 2, none⟩ (.int .i64 rc)).setCell ⟨qa, 3, none⟩ (.string rt) = y1 at hex hqa' ⊢
            have hB1 := isQ_ex (unhide HBx) hex (isQ_lt (unhide HBx)) (Ne.symm hne)
            have hT1 := (unhide HTx).far hab hqax h0a hex
            obtain ⟨c0, c1, c2, c3⟩ := isQ_cells hB1
            have z0 := isQ_frozen hB1 0
            have z1 := isQ_frozen hB1 1
            have z2 := isQ_frozen hB1 2
            have z3 := isQ_frozen hB1 3
            refine wpAnyV_ready (rs := [15]) (by kernel_rfl) (by simp) ?_
            refine ReadyV.cons (o := _) rfl (fun K hK => ?_) ReadyV.nil
            go_simp
            refine hK.out _ _ (fun h => absurd h (by decide)) ?_
            clear hK K c0 c1 c2 c3 z0 z1 z2 z3
            try simp only [Act.put, List.getElem_toArray, List.getElem_cons_zero, List.getElem_cons_succ, List.setIfInBounds_toArray, List.set_cons_zero, List.set_cons_succ]
            have hex2 := ex_set4 y1 qb (.int .i64 ra) (.int .i64 rb) (.int .i64 rc) (.string rt)
            have hqb' := isQ_set hB1 ra rb rc rt
            refine wpAnyV_done (by kernel_rfl) ?_ _
            generalize (((y1.setCell ⟨qb, 0, none⟩ (.int .i64 ra)).setCell ⟨qb, 1, none⟩ (.int .i64 rb)).setCell ⟨qb, 2, none⟩ (.int .i64 rc)).setCell ⟨qb, 3, none⟩ (.string rt) = y2 at hex2 hqb' ⊢
            have hA2 := isQ_ex hqa' hex2 (isQ_lt hqa') hne
            have hT2 := hT1.far hab hqbx h0a hex2
            exact unhide key qa qb y2 ⟨hT2, hA2, hqb', hqax⟩
      rintro qa qb v ⟨hT, hA, hB, hqx⟩
      obtain ⟨a0, a1, a2, a3⟩ := isQ_cells hA
      obtain ⟨b0, b1, b2, b3⟩ := isQ_cells hB
      have HT := hide hT
      have HA := hide hA
      have heq := unhide HEQ
      clear hT hA hB HT0 HWD HTA HTB HS
      go_wp2_with fail
      clear a0 a1 a2 a3 b0 b1 b2 b3 heq HEQ
      go_loopw [13] (fun tv wv => ∃ t : Nat, tv = .int .i64 (t : Int) ∧ t ≤ M ∧ Hid (TwoB G n s dr st lo re li ba bb aoa cpa aob cpb w wa vb wv Y Y) ∧ Hid (isQ wv qa ra rb rc rt)) (fun tv _ => M - (intOf tv).toNat)
      case atStart => exact ⟨t, rfl, htM, HT, HA⟩
      case round =>
        clear HT HA
        obtain ⟨t2, rfl, htM2, HT, HA⟩ := hrel
        by_cases htl : t2 < M
        · have htli : (t2 : Int) < (M : Int) := by omega
          have ht0 : (0 : Int) ≤ (t2 : Int) := by omega
          obtain ⟨g2, off2, rfl, z, hz⟩ := unhide HAG t2 htl
          have hzc := hz wr (unhide HT).low
          by_cases hz0 : 0 ≤ z
          · by_cases hzi : z ≤ (i : Int)
            · obtain ⟨zn, rfl⟩ : ∃ zn : Nat, z = zn := ⟨z.toNat, by omega⟩
              have hzn : zn ≤ i := by omega
              have hznN : (zn : Int) < (N : Int) := by omega
              obtain ⟨q, hqc, hqt⟩ := unhide HTT zn hzn
              obtain ⟨k0, k1, k2, k3⟩ := hqc wr (unhide HT).low
              obtain ⟨x1, hx1⟩ : ∃ x1, x1 = wr.alloc (.cells #[.int .i64 q.seat, .int .i64 q.ply, .string q.mv, .int .i64 q.at_] 43 (0, 0)) := ⟨_, rfl⟩
              have hbx1 : Below wr.heap.size wr x1 := by rw [hx1]; exact (Below.refl _ _).alloc (Nat.le_refl _) _
              have hgq : isG x1 wr.heap.size q := by rw [hx1]; exact isG.new wr q
              have hT1 := (unhide HT).below hbx1
              have hA1 := isQ_below (unhide HA) hbx1
              have HX1 := hide hx1
              have HT1 := hide hT1
              have HA1 := hide hA1
              have HGQ := hide hgq
              have HQT := hide hqt
              clear hx1 hbx1 hgq hT1 hA1 hqc hqt hz HT HA
              go_upto_region 17 with fail
              rw [← unhide HX1]
              clear HX1 hzc k0 k1 k2 k3
              obtain ⟨g0, g1, g2', g3⟩ := (unhide HGQ).cells
              obtain ⟨a0, a1, a2, a3⟩ := isQ_cells (unhide HA1)
              by_cases hpl : q.ply < rb
              · have HTK := hide ((unhide HQT) hpl x1 (unhide HT1).hb (unhide HT1).exb (unhide HT1).low)
                clear HQT
                go_wp2_with fail
                refine (unhide HTK).mono ?_
                rintro e x2 ⟨vv, rfl, hb2, hxb2⟩
                have HT2 := hide ((unhide HT1).stepB hab h0a hb2 hxb2)
                have HA2 := hide (isQ_ex (unhide HA1) hxb2 (isQ_lt (unhide HA1)) (by omega))
                clear g0 g1 g2' g3 a0 a1 a2 a3 HT1 HA1 HGQ HTK hb2 hxb2
                go_wp2
                go_roundw
                case rel => exact ⟨t2 + 1, by go_num, by omega, HT2, HA2⟩
                case measure => simp only [intOf]; omega
              · clear HQT
                go_wp2
                go_roundw
                case rel => exact ⟨t2 + 1, by go_num, by omega, HT1, HA1⟩
                case measure => simp only [intOf]; omega
            · clear hz HTT
              go_wp2_with fail
              refine (unhide HSA wr (unhide HT).ha).mono ?_
              rintro e y1 ⟨rfl, hb1⟩
              have HT1 := hide ((unhide HT).below hb1)
              clear hb1
              go_wp2_with fail
              refine (unhide HSB y1 (unhide HT1).hb).mono ?_
              rintro e y2 ⟨rfl, hb2⟩
              have HT2 : Hid (TwoB G n s dr st lo re li ba bb aoa cpa aob cpb w wa vb y2 (G.run (startX s time) (ml.take (i + 1))) (G.run (startX s time) (ml.take (i + 1)))) := hide (by rw [unhide HXN]; exact (unhide HT1).below hb2)
              clear hb2 HT1 HT
              have hq1 : (Y.tx.toList == Y.tx.toList) = true := by simp
              go_wp2
              go_roundw
              case rel => exact ⟨i + 1, t2, by go_num, rfl, by omega, htM2, HT2⟩
              case measure => simp only [intOf]; omega
          · clear hz HTT
            go_wp2_with fail
            refine (unhide HSA wr (unhide HT).ha).mono ?_
            rintro e y1 ⟨rfl, hb1⟩
            have HT1 := hide ((unhide HT).below hb1)
            clear hb1
            go_wp2_with fail
            refine (unhide HSB y1 (unhide HT1).hb).mono ?_
            rintro e y2 ⟨rfl, hb2⟩
            have HT2 : Hid (TwoB G n s dr st lo re li ba bb aoa cpa aob cpb w wa vb y2 (G.run (startX s time) (ml.take (i + 1))) (G.run (startX s time) (ml.take (i + 1)))) := hide (by rw [unhide HXN]; exact (unhide HT1).below hb2)
            clear hb2 HT1 HT
            have hq1 : (Y.tx.toList == Y.tx.toList) = true := by simp
            go_wp2
            go_roundw
            case rel => exact ⟨i + 1, t2, by go_num, rfl, by omega, htM2, HT2⟩
            case measure => simp only [intOf]; omega
        · have htli : ¬ (t2 : Int) < (M : Int) := by omega
          go_wp2_with fail
          refine (unhide HSA wr (unhide HT).ha).mono ?_
          rintro e y1 ⟨rfl, hb1⟩
          have HT1 := hide ((unhide HT).below hb1)
          clear hb1
          go_wp2_with fail
          refine (unhide HSB y1 (unhide HT1).hb).mono ?_
          rintro e y2 ⟨rfl, hb2⟩
          have HT2 : Hid (TwoB G n s dr st lo re li ba bb aoa cpa aob cpb w wa vb y2 (G.run (startX s time) (ml.take (i + 1))) (G.run (startX s time) (ml.take (i + 1)))) := hide (by rw [unhide HXN]; exact (unhide HT1).below hb2)
          clear hb2 HT1 HT
          have hq1 : (Y.tx.toList == Y.tx.toList) = true := by simp
          go_wp2
          go_roundw
          case rel => exact ⟨i + 1, t2, by go_num, rfl, by omega, htM2, HT2⟩
          case measure => simp only [intOf]; omega
    · obtain rfl : i = N := by omega
      have hlti : ¬ (i : Int) < (i : Int) := by omega
      have HE := hide (unhide HTW).low
      clear HTW
      go_wp2
      go_ret
      exact ⟨rfl, unhide HE⟩
end Go.Proofs.YtihojhfpepbjhaaGreatDoor
