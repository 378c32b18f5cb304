/-
  gamelaw.HousePlays, walked where the rules and the time are right.
  gamelaw.HousePlays, walked where the rules or the time are wrong.
  gamelaw.HousePlays, walked for whatever comes in.
-/
import Derived.Test.YtihojhfpepbjhaaGreatDoorJ45
import Derived.Test.YtihojhfpepbjhaaGreatDoorHoI
import Derived.Test.YtihojhfpepbjhaaGreatDoorJ5
import Derived.Deep.CutRange
import Derived.BigQuiet
import Derived.Test.YtihojhfpepbjhaaGreatDoorJ33
import Derived.Test.YtihojhfpepbjhaaGreatDoorV33
import Derived.Test.YtihojhfpepbjhaaGreatDoorJ24
import Derived.Test.YtihojhfpepbjhaaGreatDoorJ25
import Derived.Test.YtihojhfpepbjhaaGreatDoorS5
namespace Go.Proofs.YtihojhfpepbjhaaGreatDoor
open Go.RowKit
attribute [local go_sem ↓] Go.wp_at_zero Go.wp_at_succ

theorem entRTake : ∀ args (u : World), (callFunc 12 args).run Tryz.prog u = .ok (.enter 12 args) u := enters_of Tryz.func12 (by kernel_rfl) rfl
/-- Both houses, when they have taken the same messages. -/
structure TwoH (G : Gm) (n : Nat) (s : Po) (ao : Option Addr) (cap : Nat) (ao2 : Option Addr) (cp2 : Nat) (dr st : Bool) (lo re : Nat) (li : Int) (bh bx : Nat) (w0 w00 wr : World) (X : Ho) : Prop where
  ho : isHo wr bh (.int .i64 s.W) (.int .i64 s.H) (.string s.C) (.int .i64 s.T) (.string s.A) (.string s.B) (.slice ao2 n cp2) (.bool dr) (.int .u8 (lo : Int)) (.int .i64 li) (.int .u8 (re : Int)) (.bool st) (.int .i64 G.pl) X (G.ended X)
  ro : isRo wr bx (.int .i64 s.W) (.int .i64 s.H) (.string s.C) (.int .i64 s.T) (.string s.A) (.string s.B) (.slice ao n cap) (.bool dr) (.int .u8 (lo : Int)) (.int .i64 li) (.int .u8 (re : Int)) (.bool st) (.int .i64 G.pl) X
  low : Below w0.heap.size w0 wr
  low2 : Below bh w00 wr
theorem TwoH.below {G : Gm} {n : Nat} {s : Po} {ao : Option Addr} {cap : Nat} {ao2 : Option Addr} {cp2 : Nat} {dr st : Bool} {lo re : Nat} {li : Int} {bh bx : Nat} {w0 w00 wr w' : World} {X : Ho} (h : TwoH G n s ao cap ao2 cp2 dr st lo re li bh bx w0 w00 wr X) (hb : Below wr.heap.size wr w') : TwoH G n s ao cap ao2 cp2 dr st lo re li bh bx w0 w00 w' X :=
  ⟨isH.below h.ho hb (isH.lt h.ho), isR.below h.ro hb (isR.lt h.ro), h.low.trans (hb.mono h.low.size), h.low2.trans (hb.mono (Nat.le_of_lt (isH.lt h.ho)))⟩
set_option maxHeartbeats 8000000 in
set_option maxRecDepth 100000 in
theorem plays_yes (G : Gm) (ok : Po → Prop) (hG : G.Ok ok) (TX : Po → ByteArray) (s : Po) (hs : ok s) (ao : Option Addr) (cap : Nat) (ps : List Pc) (dr st : Bool) (lo re : Nat) (li time : Int) (mo : Option Addr) (mc : Nat) (ml : List Ms) (w : World) (ht : 1 ≤ time ∧ time ≤ 1000000)
    (hml : isMl w mo mc ml) (hmb : ∀ m ∈ ml, m.at_ < 9223372036854775808)
    (hNew : ∀ u, Below w.heap.size w u → Calls Tryz.prog 8 #[.agg #[.int .i64 s.W, .int .i64 s.H, .string s.C, .int .i64 s.T, .string s.A, .string s.B, .slice ao ps.length cap, .bool dr, .int .u8 (lo : Int), .int .i64 li, .int .u8 (re : Int), .bool st, .int .i64 G.pl], .int .i64 time] u fun e w' => ∃ b ao2 cp2 w00, e = .returned (.tuple #[.pointer (some ⟨b, 0, none⟩), .int .i64 0]) ∧ NewE G s.W s.H s.C s.T s.A s.B ps dr st lo re li time u w' b ao2 cp2 w00)
    (hHc : ∀ b ao2 cp2 w00, w00.heap.size = b → isPcs w00 ao2 cp2 ps → Below w.heap.size w w00 → Hc G ok TX b w00 (.int .i64 s.W) (.int .i64 s.H) (.string s.C) (.int .i64 s.T) (.string s.A) (.string s.B) (.slice ao2 ps.length cp2) (.bool dr) (.int .u8 (lo : Int)) (.int .i64 li) (.int .u8 (re : Int)) (.bool st))
    (hRc : Rc G ok TX w.heap.size w (.int .i64 s.W) (.int .i64 s.H) (.string s.C) (.int .i64 s.T) (.string s.A) (.string s.B) (.slice ao ps.length cap) (.bool dr) (.int .u8 (lo : Int)) (.int .i64 li) (.int .u8 (re : Int)) (.bool st))
    (hRules : ∀ u, Below w.heap.size w u → Calls Tryz.prog 9 #[.agg #[.int .i64 s.W, .int .i64 s.H, .string s.C, .int .i64 s.T, .string s.A, .string s.B, .slice ao ps.length cap, .bool dr, .int .u8 (lo : Int), .int .i64 li, .int .u8 (re : Int), .bool st, .int .i64 G.pl]] u fun e u' => e = .returned (.bool true) ∧ Below u.heap.size u u') :
    Calls Tryz.prog 3 #[.agg #[.int .i64 s.W, .int .i64 s.H, .string s.C, .int .i64 s.T, .string s.A, .string s.B, .slice ao ps.length cap, .bool dr, .int .u8 (lo : Int), .int .i64 li, .int .u8 (re : Int), .bool st, .int .i64 G.pl], .int .i64 time, .slice mo ml.length mc] w fun e w' => e = .returned (.bool true) ∧ Below w.heap.size w w' := by
  obtain ⟨n, hn⟩ : ∃ n, n = ps.length := ⟨_, rfl⟩
  obtain ⟨N, hN⟩ : ∃ N, N = ml.length := ⟨_, rfl⟩
  have hNm : N ≤ mc := by rw [hN]; exact hml.le
  have hNx := hml.mx
  unfold maxLen at hNx
  rw [← hN]
  obtain ⟨w1, hw1⟩ : ∃ w1, w1 = w.alloc (.cells #[.int .i64 s.W, .int .i64 s.H, .string s.C, .int .i64 s.T, .string s.A, .string s.B, .slice ao ps.length cap, .bool dr, .int .u8 (lo : Int), .int .i64 li, .int .u8 (re : Int), .bool st, .int .i64 G.pl] 27 (0, 0)) := ⟨_, rfl⟩
  have hb1 : Below w.heap.size w w1 := by rw [hw1]; exact (Below.refl _ _).alloc (Nat.le_refl _) _
  have hr1 : isRu w1 w.heap.size (.int .i64 s.W) (.int .i64 s.H) (.string s.C) (.int .i64 s.T) (.string s.A) (.string s.B) (.slice ao ps.length cap) (.bool dr) (.int .u8 (lo : Int)) (.int .i64 li) (.int .u8 (re : Int)) (.bool st) (.int .i64 G.pl) := by rw [hw1]; exact heap_alloc_new w _
  have HS0 := hide (start_I hG hs ht)
  have HNW := hide (hNew w1 hb1)
  rw [← hn] at hr1 hw1 hRc HNW hRules ⊢
  have HRC := hide hRc
  have HHC := hide hHc
  have HRL := hide hRules
  have HGG := hide hG
  have HML := hide hml
  have HMB := hide hmb
  have HB1 := hide hb1
  have HR1 := hide hr1
  have HW1 := hide hw1
  have HPN := hide hn
  have HNN := hide hN
  have hpl := hG.pl
  have HPL := hide hpl
  clear hNew hHc hRc hRules hG hml hmb hb1 hr1 hw1 hn hN hpl
  obtain ⟨r0, r1, r2, r3, r4, r5, r6, r7, r8, r9, r10, r11, r12⟩ := (unhide HR1).cells
  go_enter Tryz.func3, Tryz.ntmps3
  go_upto_region 1 with fail
  rw [← unhide HW1]
  clear HW1
  go_wp2_with fail
  refine (unhide HNW).mono ?_
  rintro e w2 ⟨bh, ao2, cp2, w00, rfl, hE⟩
  have hb12 : Below w1.heap.size w1 w2 := hE.all
  have hr2 := isRu.below (unhide HR1) hb12 (isRu.lt (unhide HR1))
  have hb02 := (unhide HB1).trans (hb12.mono (unhide HB1).size)
  have hc := unhide HHC bh ao2 cp2 w00 hE.sz hE.pcs ((unhide HB1).trans (hE.lw.mono (unhide HB1).size))
  have hho := hE.ho
  have hlow2 := hE.low
  have hbh : w.heap.size < bh := by have := hE.b0; have := isRu.lt (unhide HR1); omega
  rw [← unhide HPN] at hc hho
  clear r0 r1 r2 r3 r4 r5 r6 r7 r8 r9 r10 r11 r12 HR1 HB1 HNW HHC hE hb12
  obtain ⟨r0, r1, r2, r3, r4, r5, r6, r7, r8, r9, r10, r11, r12⟩ := hr2.cells
  have HC := hide hc
  have HHO := hide hho
  have HB02 := hide hb02
  have HL2 := hide hlow2
  have HR2 := hide hr2
  have HBH := hide hbh
  clear hc hho hb02 hlow2 hr2 hbh
  go_wp2_with fail
  refine (unhide HRL w2 (unhide HB02)).mono ?_
  rintro e w3 ⟨rfl, hb3⟩
  have hr3 := isRu.below (unhide HR2) hb3 (isRu.lt (unhide HR2))
  have hb03 := (unhide HB02).trans (hb3.mono (unhide HB02).size)
  have hh3 := isH.below (unhide HHO) hb3 (isH.lt (unhide HHO))
  have hl3 := (unhide HL2).trans (hb3.mono (Nat.le_of_lt (isH.lt (unhide HHO))))
  clear r0 r1 r2 r3 r4 r5 r6 r7 r8 r9 r10 r11 r12 HR2 HB02 HHO HL2 hb3 HRL
  have HH3 : Hid (isHo w3 bh (.int .i64 s.W) (.int .i64 s.H) (.string s.C) (.int .i64 s.T) (.string s.A) (.string s.B) (.slice ao2 n cp2) (.bool dr) (.int .u8 (lo : Int)) (.int .i64 li) (.int .u8 (re : Int)) (.bool st) (.int .i64 G.pl) (startX s time) (G.said s 0)) := hide hh3
  have HR3 := hide hr3
  have HB03 := hide hb03
  have HL3 := hide hl3
  clear hr3 hb03 hh3 hl3
  have ht1 : ¬ time < 1 := by omega
  have ht2 : ¬ 1000000 < time := by omega
  go_wp2_with fail
  refine (hSave_any G bh _ _ _ _ _ _ _ _ _ _ _ _ w3 (startX s time) _ (unhide HH3) (by have := unhide HPL; omega) (by show (0 : Nat) ≤ 100000; omega)).mono ?_
  rintro e w4 ⟨rfl, hb4⟩
  have hr4 := isRu.below (unhide HR3) hb4 (isRu.lt (unhide HR3))
  have hb04 := (unhide HB03).trans (hb4.mono (unhide HB03).size)
  have hh4 := isH.below (unhide HH3) hb4 (isH.lt (unhide HH3))
  have hl4 := (unhide HL3).trans (hb4.mono (Nat.le_of_lt (isH.lt (unhide HH3))))
  have HH4 : Hid (isHo w4 bh (.int .i64 s.W) (.int .i64 s.H) (.string s.C) (.int .i64 s.T) (.string s.A) (.string s.B) (.slice ao2 n cp2) (.bool dr) (.int .u8 (lo : Int)) (.int .i64 li) (.int .u8 (re : Int)) (.bool st) (.int .i64 G.pl) (startX s time) (G.said s 0)) := hide hh4
  have HB04 := hide hb04
  have HL4 := hide hl4
  obtain ⟨r0, r1, r2, r3, r4, r5, r6, r7, r8, r9, r10, r11, r12⟩ := hr4.cells
  clear hr4 hb04 hh4 hl4 HR3 HB03 HH3 HL3 hb4
  obtain ⟨w5, hw5⟩ : ∃ w5, w5 = w4.alloc (.cells #[.int .i64 s.W, .int .i64 s.H, .string s.C, .int .i64 s.T, .string s.A, .string s.B, .slice ao n cap, .bool dr, .int .u8 (lo : Int), .int .i64 li, .int .u8 (re : Int), .bool st, .int .i64 G.pl, .int .i64 s.W, .int .i64 s.H, .string s.C, .int .i64 s.T, .string s.A, .string s.B, .int .i64 0, .int .i64 time, .int .i64 time, .int .i64 0, .int .i64 0, .string ⟨#[]⟩] 38 (0, 0)) := ⟨_, rfl⟩
  have hb5 : Below w4.heap.size w4 w5 := by rw [hw5]; exact (Below.refl _ _).alloc (Nat.le_refl _) _
  have hro : isRo w5 w4.heap.size (.int .i64 s.W) (.int .i64 s.H) (.string s.C) (.int .i64 s.T) (.string s.A) (.string s.B) (.slice ao n cap) (.bool dr) (.int .u8 (lo : Int)) (.int .i64 li) (.int .u8 (re : Int)) (.bool st) (.int .i64 G.pl) (startX s time) := by rw [hw5]; exact heap_alloc_new w4 _
  have hho5 := isH.below (unhide HH4) hb5 (isH.lt (unhide HH4))
  have hbb : bh < w4.heap.size := isH.lt (unhide HH4)
  have hne : bh ≠ w4.heap.size := Nat.ne_of_lt hbb
  have htwo : TwoH G n s ao cap ao2 cp2 dr st lo re li bh w4.heap.size w w00 w5 (startX s time) := by
    refine ⟨?_, hro, (unhide HB04).trans (hb5.mono (unhide HB04).size), (unhide HL4).trans (hb5.mono (Nat.le_of_lt (isH.lt (unhide HH4))))⟩
    rw [ended_said _ rfl]
    exact hho5
  have hbx : w.heap.size ≤ w4.heap.size := (unhide HB04).size
  have HTW := hide htwo
  have HW5 := hide hw5
  clear hw5 hb5 hro hho5 htwo HH4 HB04 HL4
  rw [show (startX s time).tx = ⟨#[]⟩ from rfl]
  go_upto_region 7 with fail
  rw [← unhide HW5]
  obtain ⟨bx, hbxe⟩ : ∃ bx, bx = w4.heap.size := ⟨_, rfl⟩
  rw [← hbxe] at HTW hbx hne hbb ⊢
  clear HW5 hbxe r0 r1 r2 r3 r4 r5 r6 r7 r8 r9 r10 r11 r12
  go_wp2_with fail
  go_loopw [55] (fun iv wr => ∃ i : Nat, iv = .int .i64 (i : Int) ∧ i ≤ N ∧ Hid (TwoH G n s ao cap ao2 cp2 dr st lo re li bh bx w w00 wr (G.run (startX s time) (ml.take i)))) (fun iv _ => N - (intOf iv).toNat)
  case atStart => exact ⟨0, rfl, Nat.zero_le _, HTW⟩
  case round =>
    clear HTW
    obtain ⟨i, rfl, hi, HTW⟩ := hrel
    by_cases hlt : i < N
    · have hlti : (i : Int) < (N : Int) := by omega
      have hi0 : (0 : Int) ≤ (i : Int) := by omega
      have hil : i < ml.length := by rw [← unhide HNN]; exact hlt
      obtain ⟨m, hm⟩ : ∃ m, ml[i]? = some m := ⟨ml[i], List.getElem?_eq_getElem hil⟩
      have hmm : m ∈ ml := List.mem_of_getElem? hm
      have hne0 : ml ≠ [] := fun e => by rw [e] at hil; simp at hil
      obtain ⟨g, off, rfl, hgl, hcs⟩ := (unhide HML).cells hne0
      obtain ⟨k0, k1, k2, k3⟩ := hcs i m hm
      obtain ⟨X, hX⟩ : ∃ X, X = G.run (startX s time) (ml.take i) := ⟨_, rfl⟩
      have hXI : HoI G ok X := by rw [hX]; exact HoI.run (unhide HGG) _ (unhide HS0) fun q hq => unhide HMB q (List.mem_of_mem_take hq)
      have hXn : G.run (startX s time) (ml.take (i + 1)) = (G.step X m).1 := by rw [List.take_succ_eq_append_getElem hil, run_snoc, ← hX, (List.getElem?_eq_some_iff.1 hm).2]
      rw [← hX] at HTW
      have hma := unhide HMB m hmm
      obtain ⟨Y, hY⟩ : ∃ Y, Y = (G.step X m).1 := ⟨_, rfl⟩
      have hYI : HoI G ok Y := by rw [hY]; exact hXI.step (unhide HGG) hma
      have hh := (unhide HTW).ho
      have hr := (unhide HTW).ro
      have HTK := hide (fun u (hu : isHo u bh (.int .i64 s.W) (.int .i64 s.H) (.string s.C) (.int .i64 s.T) (.string s.A) (.string s.B) (.slice ao2 n cp2) (.bool dr) (.int .u8 (lo : Int)) (.int .i64 li) (.int .u8 (re : Int)) (.bool st) (.int .i64 G.pl) X (G.ended X)) (hl : Below bh w00 u) => hTake_any G ok (unhide HGG) TX bh bh _ _ _ _ _ _ _ _ _ _ _ _ w00 u (unhide HC) X m hXI hma hu (Nat.le_refl _) hl)
      have HRT := hide (fun u (hu : isRo u bx (.int .i64 s.W) (.int .i64 s.H) (.string s.C) (.int .i64 s.T) (.string s.A) (.string s.B) (.slice ao n cap) (.bool dr) (.int .u8 (lo : Int)) (.int .i64 li) (.int .u8 (re : Int)) (.bool st) (.int .i64 G.pl) X) (hl : Below w.heap.size w u) => rTake_any G ok (unhide HGG) TX bx w.heap.size _ _ _ _ _ _ _ _ _ _ _ _ w u (unhide HRC) X m hXI hma hu hbx hl)
      have HSV := hide (fun u (hu : isHo u bh (.int .i64 s.W) (.int .i64 s.H) (.string s.C) (.int .i64 s.T) (.string s.A) (.string s.B) (.slice ao2 n cp2) (.bool dr) (.int .u8 (lo : Int)) (.int .i64 li) (.int .u8 (re : Int)) (.bool st) (.int .i64 G.pl) Y (G.ended Y)) => hSave_any G bh _ _ _ _ _ _ _ _ _ _ _ _ u Y _ hu (by have := (unhide HPL).1; omega) (by have := hYI.tx; have := hYI.ply; have := (unhide HPL).2; omega))
      obtain ⟨ra, rb, rc, rt, hV⟩ : ∃ ra rb rc rt, G.reply TX (G.step X m) = .agg #[.int .i64 ra, .int .i64 rb, .int .i64 rc, .string rt] := ⟨_, _, _, _, rfl⟩
      rw [← hY] at hXn
      have hYe : (G.step X m).1 = Y := hY.symm
      rw [hV, hYe] at HTK HRT
      have heq : ∀ u, (Op.equalIn 10000 40 (.agg #[.int .i64 ra, .int .i64 rb, .int .i64 rc, .string rt]) (.agg #[.int .i64 ra, .int .i64 rb, .int .i64 rc, .string rt])).run Tryz.prog u = .ok true u := fun u => by
        rw [eqReply]
        simp
      have hS10 : ∀ u, Below w.heap.size w u → (fun u => u.cell? ⟨g, off + i * 4, none⟩ = some (.int .i64 m.seat) ∧ u.cell? ⟨g, off + i * 4 + 1, none⟩ = some (.int .i64 m.ply) ∧ u.cell? ⟨g, off + i * 4 + 2, none⟩ = some (.string m.mv) ∧ u.cell? ⟨g, off + i * 4 + 3, none⟩ = some (.int .i64 m.at_)) u := fun u hu =>
        ⟨(hu.cell (p := ⟨g, off + i * 4, none⟩) hgl).trans k0, (hu.cell (p := ⟨g, off + i * 4 + 1, none⟩) hgl).trans k1, (hu.cell (p := ⟨g, off + i * 4 + 2, none⟩) hgl).trans k2, (hu.cell (p := ⟨g, off + i * 4 + 3, none⟩) hgl).trans k3⟩
      have HS := hide hS10
      have HEQ := hide heq
      have HXN := hide hXn
      clear hm hmm hne0 hcs k0 k1 k2 k3 hX hXI hXn hY hYI hh hr hV hYe heq hS10 hma
      go_upto_region 10 with fail
      obtain ⟨wd, hwd⟩ : ∃ wd, wd = wr.drew := ⟨_, rfl⟩
      have hbd : Below wr.heap.size wr wd := by rw [hwd]; exact (Below.refl _ _).drew
      refine wp_region_v [12] (fun u => u.cell? ⟨g, off + i * 4, none⟩ = some (.int .i64 m.seat) ∧ u.cell? ⟨g, off + i * 4 + 1, none⟩ = some (.int .i64 m.ply) ∧ u.cell? ⟨g, off + i * 4 + 2, none⟩ = some (.string m.mv) ∧ u.cell? ⟨g, off + i * 4 + 3, none⟩ = some (.int .i64 m.at_)) (by kernel_rfl) ?_
      rw [← hwd]
      clear hwd
      have hd := (unhide HTW).below hbd
      have hHeld := unhide HS wd hd.low
      refine wpAnyV_tk (i := 0) (oi := _) (v := ?_) rfl (by kernel_rfl) (by kernel_rfl) (by kernel_rfl) (by kernel_rfl) (fun _ _ _ h => h) (Or.inl ⟨by rfl, ?_⟩) (by assumption) ?_
      rotate_left 1
      · (intro u hSu; (try dsimp only at hSu); go_simp; first | done | with_reducible rfl | rfl)
      simp only [Act.put, List.getElem_toArray, List.getElem_cons_zero, List.setIfInBounds_toArray, List.set_cons_zero, List.set_cons_succ]
      refine wpAnyV_tk (i := 1) (oi := _) (v := ?_) rfl (by kernel_rfl) (by kernel_rfl) (by kernel_rfl) (by kernel_rfl) (fun _ _ _ h => h) (Or.inl ⟨by rfl, ?_⟩) (by assumption) ?_
      rotate_left 1
      · (intro u hSu; (try dsimp only at hSu); go_simp; first | done | with_reducible rfl | rfl)
      simp only [Act.put, List.getElem_toArray, List.getElem_cons_zero, List.getElem_cons_succ, List.setIfInBounds_toArray, List.set_cons_zero, List.set_cons_succ]
      refine wpAnyV_tk (i := 2) (oi := _) (v := ?_) rfl (by kernel_rfl) (by kernel_rfl) (by kernel_rfl) (by kernel_rfl) (fun _ _ _ h => h) (Or.inl ⟨by rfl, ?_⟩) (by assumption) ?_
      rotate_left 1
      · (intro u hSu; (try dsimp only at hSu); go_simp; first | done | with_reducible rfl | rfl)
      simp only [Act.put, List.getElem_toArray, List.getElem_cons_zero, List.getElem_cons_succ, List.setIfInBounds_toArray, List.set_cons_zero, List.set_cons_succ]
      refine wpAnyV_tk (i := 3) (oi := _) (v := ?_) rfl (by kernel_rfl) (by kernel_rfl) (by kernel_rfl) (by kernel_rfl) (fun _ _ _ h => h) (Or.inl ⟨by rfl, ?_⟩) (by assumption) ?_
      rotate_left 1
      · (intro u hSu; (try dsimp only at hSu); go_simp; first | done | with_reducible rfl | rfl)
      simp only [Act.put, List.getElem_toArray, List.getElem_cons_zero, List.getElem_cons_succ, List.setIfInBounds_toArray, List.set_cons_zero, List.set_cons_succ]
      refine wpAnyV_tk (i := 4) (oi := _) (v := ?_) rfl (by kernel_rfl) (by kernel_rfl) (by kernel_rfl) (by kernel_rfl) (fun _ _ _ h => h) (Or.inl ⟨by rfl, ?_⟩) (by assumption) ?_
      rotate_left 1
      · (intro u hSu; (try dsimp only at hSu); go_simp; first | done | with_reducible rfl | rfl)
      simp only [Act.put, List.getElem_toArray, List.getElem_cons_zero, List.getElem_cons_succ, List.setIfInBounds_toArray, List.set_cons_zero, List.set_cons_succ]
      refine wpAnyV_tk (i := 6) (oi := _) (v := ?_) rfl (by kernel_rfl) (by kernel_rfl) (by kernel_rfl) (by kernel_rfl) (fun _ _ _ h => h) (Or.inl ⟨by rfl, ?_⟩) (by assumption) ?_
      rotate_left 1
      · (intro u hSu; (try dsimp only at hSu); go_simp; first | done | with_reducible rfl | rfl)
      simp only [Act.put, List.getElem_toArray, List.getElem_cons_zero, List.getElem_cons_succ, List.setIfInBounds_toArray, List.set_cons_zero, List.set_cons_succ]
      refine wpAnyV_tk (i := 7) (oi := _) (v := ?_) rfl (by kernel_rfl) (by kernel_rfl) (by kernel_rfl) (by kernel_rfl) (fun _ _ _ h => h) (Or.inl ⟨by rfl, ?_⟩) (by assumption) ?_
      rotate_left 1
      · (intro u hSu; (try dsimp only at hSu); go_simp; first | done | with_reducible rfl | rfl)
      simp only [Act.put, List.getElem_toArray, List.getElem_cons_zero, List.getElem_cons_succ, List.setIfInBounds_toArray, List.set_cons_zero, List.set_cons_succ]
      refine wpAnyV_tk (i := 8) (oi := _) (v := ?_) rfl (by kernel_rfl) (by kernel_rfl) (by kernel_rfl) (by kernel_rfl) (fun _ _ _ h => h) (Or.inl ⟨by rfl, ?_⟩) (by assumption) ?_
      rotate_left 1
      · (intro u hSu; (try dsimp only at hSu); go_simp; first | done | with_reducible rfl | rfl)
      simp only [Act.put, List.getElem_toArray, List.getElem_cons_zero, List.getElem_cons_succ, List.setIfInBounds_toArray, List.set_cons_zero, List.set_cons_succ]
      refine wpAnyV_tk (i := 9) (oi := _) (v := ?_) rfl (by kernel_rfl) (by kernel_rfl) (by kernel_rfl) (by kernel_rfl) (fun _ _ _ h => h) (Or.inl ⟨by rfl, ?_⟩) (by assumption) ?_
      rotate_left 1
      · (intro u hSu; (try dsimp only at hSu); go_simp; first | done | with_reducible rfl | rfl)
      simp only [Act.put, List.getElem_toArray, List.getElem_cons_zero, List.getElem_cons_succ, List.setIfInBounds_toArray, List.set_cons_zero, List.set_cons_succ]
      refine wpAnyV_tk (i := 10) (oi := _) (v := ?_) rfl (by kernel_rfl) (by kernel_rfl) (by kernel_rfl) (by kernel_rfl) (fun _ _ _ h => h) (Or.inl ⟨by rfl, ?_⟩) (by assumption) ?_
      rotate_left 1
      · (intro u hSu; (try dsimp only at hSu); go_simp; first | done | with_reducible rfl | rfl)
      simp only [Act.put, List.getElem_toArray, List.getElem_cons_zero, List.getElem_cons_succ, List.setIfInBounds_toArray, List.set_cons_zero, List.set_cons_succ]
      clear hHeld
      refine wpAnyV_ready (rs := [5]) (by kernel_rfl) (by simp) ?_
      refine ReadyV.cons (o := _) rfl (fun K hK => ?_) ReadyV.nil
      refine step_callH (by rfl) 11 _ _ rfl #[.pointer (some ⟨bh, 0, none⟩), .agg #[.int .i64 m.seat, .int .i64 m.ply, .string m.mv, .int .i64 m.at_]] (by simp [Act.eval]) entTake (unhide HTK wd hd.ho hd.low2) ?_
      rintro e y1 ⟨rfl, hh1, hx1⟩
      refine ⟨_, rfl, ?_⟩
      have hsb := isH.lt hd.ho
      have hr1 := isR.ex hd.ro hx1 (isR.lt hd.ro) (Ne.symm hne)
      have hl1 : Below w.heap.size w y1 := hd.low.trans (hx1.fresh (by have := unhide HBH; omega) hd.low.size)
      have hl2 : Below bh w00 y1 := hd.low2.trans (hx1.fresh (Nat.le_refl _) (by omega))
      have hHeld := unhide HS y1 hl1
      refine hK.out _ _ (fun _ => hHeld) ?_
      clear hK K
      try simp only [Act.put, List.getElem_toArray, List.getElem_cons_zero, List.getElem_cons_succ, List.setIfInBounds_toArray, List.set_cons_zero, List.set_cons_succ]
      clear hHeld
      refine wpAnyV_ready (rs := [11]) (by kernel_rfl) (by simp) ?_
      refine ReadyV.cons (o := _) rfl (fun K hK => ?_) ReadyV.nil
      refine step_callH (by rfl) 12 _ _ rfl #[.pointer (some ⟨bx, 0, none⟩), .agg #[.int .i64 m.seat, .int .i64 m.ply, .string m.mv, .int .i64 m.at_]] (by simp [Act.eval]) entRTake (unhide HRT y1 hr1 hl1) ?_
      rintro e y2 ⟨rfl, hr2, hx2⟩
      refine ⟨_, rfl, ?_⟩
      have hh2 := isH.ex hh1 hx2 (isH.lt hh1) hne
      have hl3 : Below w.heap.size w y2 := hl1.trans (hx2.fresh hbx hl1.size)
      have hl4 : Below bh w00 y2 := hl2.trans (hx2.fresh (Nat.le_of_lt hbb) (Nat.le_of_lt (isH.lt hh1)))
      have hHeld := unhide HS y2 hl3
      refine hK.out _ _ (fun _ => hHeld) ?_
      clear hK K
      try simp only [Act.put, List.getElem_toArray, List.getElem_cons_zero, List.getElem_cons_succ, List.setIfInBounds_toArray, List.set_cons_zero, List.set_cons_succ]
      clear hHeld
      have heq := unhide HEQ
      refine wpAnyV_ready (rs := [12]) (by kernel_rfl) (by simp) ?_
      refine ReadyV.cons (o := _) rfl (fun K hK => ?_) ReadyV.nil
      go_simp
      refine hK.out _ _ (fun h => absurd h (by decide)) ?_
      clear hK K heq
      try simp only [Act.put, List.getElem_toArray, List.getElem_cons_zero, List.getElem_cons_succ, List.setIfInBounds_toArray, List.set_cons_zero, List.set_cons_succ]
      refine wpAnyV_pure (i := 13) (oi := _) (v := ?_) rfl (by kernel_rfl) (by kernel_rfl) (by kernel_rfl) (by kernel_rfl) (fun _ _ _ h => h) (Or.inl ⟨by rfl, ?_⟩) (by first | exact fun _ => hHeld | (intro h; exact absurd h (by decide))) ?_
      rotate_left 1
      · (intro u _; go_simp; first | done | with_reducible rfl | rfl)
      simp only [Act.put, List.getElem_toArray, List.getElem_cons_zero, List.getElem_cons_succ, List.setIfInBounds_toArray, List.set_cons_zero, List.set_cons_succ]
      refine wpAnyV_swap (ds2 := [20]) (S2 := (fun u => u.cell? ⟨bx, 24, none⟩ = some (.string Y.tx))) _ _ _ _ (by kernel_rfl) ?_
      have hHeld : (fun u => u.cell? ⟨bx, 24, none⟩ = some (.string Y.tx)) y2 := (isR.cells hr2).2.2.2.2.2.2.2
      refine wpAnyV_tk (i := 14) (oi := _) (v := ?_) rfl (by kernel_rfl) (by kernel_rfl) (by kernel_rfl) (by kernel_rfl) (fun _ _ _ h => h) (Or.inl ⟨by rfl, ?_⟩) (by assumption) ?_
      rotate_left 1
      · (intro u hSu; (try dsimp only at hSu); go_simp; first | done | with_reducible rfl | rfl)
      simp only [Act.put, List.getElem_toArray, List.getElem_cons_zero, List.getElem_cons_succ, List.setIfInBounds_toArray, List.set_cons_zero, List.set_cons_succ]
      refine wpAnyV_tk (i := 16) (oi := _) (v := ?_) rfl (by kernel_rfl) (by kernel_rfl) (by kernel_rfl) (by kernel_rfl) (fun _ _ _ h => h) (Or.inl ⟨by rfl, ?_⟩) (by assumption) ?_
      rotate_left 1
      · (intro u hSu; (try dsimp only at hSu); go_simp; first | done | with_reducible rfl | rfl)
      simp only [Act.put, List.getElem_toArray, List.getElem_cons_zero, List.getElem_cons_succ, List.setIfInBounds_toArray, List.set_cons_zero, List.set_cons_succ]
      refine wpAnyV_tk (i := 17) (oi := _) (v := ?_) rfl (by kernel_rfl) (by kernel_rfl) (by kernel_rfl) (by kernel_rfl) (fun _ _ _ h => h) (Or.inl ⟨by rfl, ?_⟩) (by assumption) ?_
      rotate_left 1
      · (intro u hSu; (try dsimp only at hSu); go_simp; first | done | with_reducible rfl | rfl)
      simp only [Act.put, List.getElem_toArray, List.getElem_cons_zero, List.getElem_cons_succ, List.setIfInBounds_toArray, List.set_cons_zero, List.set_cons_succ]
      refine wpAnyV_tk (i := 18) (oi := _) (v := ?_) rfl (by kernel_rfl) (by kernel_rfl) (by kernel_rfl) (by kernel_rfl) (fun _ _ _ h => h) (Or.inl ⟨by rfl, ?_⟩) (by assumption) ?_
      rotate_left 1
      · (intro u hSu; (try dsimp only at hSu); go_simp; first | done | with_reducible rfl | rfl)
      simp only [Act.put, List.getElem_toArray, List.getElem_cons_zero, List.getElem_cons_succ, List.setIfInBounds_toArray, List.set_cons_zero, List.set_cons_succ]
      refine wpAnyV_tk (i := 19) (oi := _) (v := ?_) rfl (by kernel_rfl) (by kernel_rfl) (by kernel_rfl) (by kernel_rfl) (fun _ _ _ h => h) (Or.inl ⟨by rfl, ?_⟩) (by assumption) ?_
      rotate_left 1
      · (intro u hSu; (try dsimp only at hSu); go_simp; first | done | with_reducible rfl | rfl)
      simp only [Act.put, List.getElem_toArray, List.getElem_cons_zero, List.getElem_cons_succ, List.setIfInBounds_toArray, List.set_cons_zero, List.set_cons_succ]
      clear hHeld
      refine wpAnyV_ready (rs := [15]) (by kernel_rfl) (by simp) ?_
      refine ReadyV.cons (o := _) rfl (fun K hK => ?_) ReadyV.nil
      refine step_callH (by rfl) 10 _ _ rfl #[.pointer (some ⟨bh, 0, none⟩)] (by simp [Act.eval]) entSave (unhide HSV y2 hh2) ?_
      rintro e y3 ⟨rfl, hb3⟩
      refine ⟨_, rfl, ?_⟩
      have htw : TwoH G n s ao cap ao2 cp2 dr st lo re li bh bx w w00 y3 Y := (TwoH.mk hh2 hr2 hl3 hl4).below hb3
      have hHeld : (fun u => u.cell? ⟨bx, 24, none⟩ = some (.string Y.tx)) y3 := (isR.cells htw.ro).2.2.2.2.2.2.2
      refine hK.out _ _ (fun _ => hHeld) ?_
      clear hK K
      try simp only [Act.put, List.getElem_toArray, List.getElem_cons_zero, List.getElem_cons_succ, List.setIfInBounds_toArray, List.set_cons_zero, List.set_cons_succ]
      clear hHeld
      have hq1 : (Y.tx.toList == Y.tx.toList) = true := by simp
      refine wpAnyV_ready (rs := [20]) (by kernel_rfl) (by simp) ?_
      refine ReadyV.cons (o := _) rfl (fun K hK => ?_) ReadyV.nil
      go_simp
      refine hK.out _ _ (fun h => absurd h (by decide)) ?_
      clear hK K
      try simp only [Act.put, List.getElem_toArray, List.getElem_cons_zero, List.getElem_cons_succ, List.setIfInBounds_toArray, List.set_cons_zero, List.set_cons_succ]
      refine wpAnyV_pure (i := 21) (oi := _) (v := ?_) rfl (by kernel_rfl) (by kernel_rfl) (by kernel_rfl) (by kernel_rfl) (fun _ _ _ h => h) (Or.inl ⟨by rfl, ?_⟩) (by first | exact fun _ => hHeld | (intro h; exact absurd h (by decide))) ?_
      rotate_left 1
      · (intro u _; go_simp; first | done | with_reducible rfl | rfl)
      simp only [Act.put, List.getElem_toArray, List.getElem_cons_zero, List.getElem_cons_succ, List.setIfInBounds_toArray, List.set_cons_zero, List.set_cons_succ]
      refine wpAnyV_done (by kernel_rfl) ?_ _
      have HTN : Hid (TwoH G n s ao cap ao2 cp2 dr st lo re li bh bx w w00 y3 (G.run (startX s time) (ml.take (i + 1)))) := hide (by rw [unhide HXN]; exact htw)
      clear hd hh1 hx1 hr1 hl1 hl2 hr2 hx2 hh2 hl3 hl4 hb3 htw hbd hsb HTK HRT HSV HEQ HTW HS HXN
      go_wp2
      go_roundw
      case rel => exact ⟨i + 1, by go_num, by omega, HTN⟩
      case measure => simp only [intOf]; omega
    · obtain rfl : i = N := by omega
      have hlti : ¬ (i : Int) < (i : Int) := by omega
      have HE := hide (unhide HTW).low
      clear HTW
      go_wp2
      go_ret
      exact ⟨rfl, unhide HE⟩
end Go.Proofs.YtihojhfpepbjhaaGreatDoor

namespace Go.Proofs.YtihojhfpepbjhaaGreatDoor
open Go.RowKit
attribute [local go_sem ↓] Go.wp_at_zero Go.wp_at_succ

set_option maxHeartbeats 4000000 in
set_option maxRecDepth 100000 in
theorem plays_no (v0 v1 v2 v3 v4 v5 v6 v7 v8 v9 v10 v11 v12 : Value) (time : Int) (mv : Value) (R : Bool) (w : World) (hbad : R = false ∨ time < 1 ∨ 1000000 < time)
    (hNew : ∀ u, Below w.heap.size w u → Calls Tryz.prog 8 #[.agg #[v0, v1, v2, v3, v4, v5, v6, v7, v8, v9, v10, v11, v12], .int .i64 time] u fun e w' => e = .returned (.tuple #[.pointer none, .int .i64 1]) ∧ Below u.heap.size u w')
    (hRules : ∀ u, Below w.heap.size w u → Calls Tryz.prog 9 #[.agg #[v0, v1, v2, v3, v4, v5, v6, v7, v8, v9, v10, v11, v12]] u fun e u' => e = .returned (.bool R) ∧ Below u.heap.size u u') :
    Calls Tryz.prog 3 #[.agg #[v0, v1, v2, v3, v4, v5, v6, v7, v8, v9, v10, v11, v12], .int .i64 time, mv] w fun e w' => e = .returned (.bool true) ∧ Below w.heap.size w w' := by
  obtain ⟨w1, hw1⟩ : ∃ w1, w1 = w.alloc (.cells #[v0, v1, v2, v3, v4, v5, v6, v7, v8, v9, v10, v11, v12] 27 (0, 0)) := ⟨_, rfl⟩
  have hb1 : Below w.heap.size w w1 := by rw [hw1]; exact (Below.refl _ _).alloc (Nat.le_refl _) _
  have hr1 : isRu w1 w.heap.size v0 v1 v2 v3 v4 v5 v6 v7 v8 v9 v10 v11 v12 := by rw [hw1]; exact heap_alloc_new w _
  have HNW := hide (hNew w1 hb1)
  have HRL := hide hRules
  have HB1 := hide hb1
  have HR1 := hide hr1
  have HW1 := hide hw1
  clear hNew hRules hb1 hr1 hw1
  obtain ⟨r0, r1, r2, r3, r4, r5, r6, r7, r8, r9, r10, r11, r12⟩ := (unhide HR1).cells
  go_enter Tryz.func3, Tryz.ntmps3
  go_upto_region 1 with fail
  rw [← unhide HW1]
  clear HW1
  go_wp2_with fail
  refine (unhide HNW).mono ?_
  rintro e w2 ⟨rfl, hb2⟩
  have hr2 := isRu.below (unhide HR1) hb2 (isRu.lt (unhide HR1))
  have hb02 := (unhide HB1).trans (hb2.mono (unhide HB1).size)
  clear r0 r1 r2 r3 r4 r5 r6 r7 r8 r9 r10 r11 r12 HR1 HB1 HNW hb2
  obtain ⟨r0, r1, r2, r3, r4, r5, r6, r7, r8, r9, r10, r11, r12⟩ := hr2.cells
  have HB02 := hide hb02
  clear hr2 hb02
  go_wp2_with fail
  refine (unhide HRL w2 (unhide HB02)).mono ?_
  rintro e w3 ⟨rfl, hb3⟩
  have HB03 := hide ((unhide HB02).trans (hb3.mono (unhide HB02).size))
  clear HB02 hb3 HRL r0 r1 r2 r3 r4 r5 r6 r7 r8 r9 r10 r11 r12
  cases R with
  | false =>
    clear hbad
    go_wp2
    go_ret
    exact ⟨rfl, unhide HB03⟩
  | true =>
    by_cases h1 : time < 1
    · clear hbad
      go_wp2
      go_ret
      exact ⟨rfl, unhide HB03⟩
    · have h2 : 1000000 < time := by
        rcases hbad with h | h | h
        · cases h
        · omega
        · exact h
      clear hbad
      go_wp2
      go_ret
      exact ⟨rfl, unhide HB03⟩
end Go.Proofs.YtihojhfpepbjhaaGreatDoor

namespace Go.Proofs.YtihojhfpepbjhaaGreatDoor
open Go.RowKit

theorem rText_H {ps : List Pc} {dr : Bool} {lo : Nat} {li : Int} {re : Nat} {W' H' T' : Nat} {C A B : ByteArray} (hf : AtF ps W' H' T' C A B W' H' T') {m : Mv} (hm : m ∈ movesL W' H' T' C A B ps dr lo li re) (u : World) :
    Calls Tryz.prog 74 #[.agg #[.int .i64 (W' : Int), .int .i64 (H' : Int), .string C, .int .i64 (T' : Int), .string A, .string B], .agg #[.int .i64 m.f, .int .i64 (m.t : Int), .int .u8 (m.c : Int)]] u fun e w' => e = .returned (.string ⟨(txM W' C m).toArray⟩) ∧ Below u.heap.size u w' := by
  obtain ⟨f1, f2, f3⟩ := (mov_is hm).facts
  have h8 : C.size ≤ W' * 8 := by rw [hf.c]; exact Nat.mul_le_mul (Nat.le_refl _) hf.h1.2
  have hcc : m.c.toUInt8.toNat = m.c := u8_back f3
  unfold txM
  rcases f2 with h | ⟨h1, h2⟩
  · have := rText_drop W' H' T' C A B m.t m.c.toUInt8 u hf.w1 (by omega)
    rw [hcc] at this
    rw [h]
    exact this
  · obtain ⟨fr, hfr⟩ : ∃ fr : Nat, m.f = fr := ⟨m.f.toNat, by omega⟩
    have := rText_go W' H' T' C A B fr m.t m.c.toUInt8 u hf.w1 (by omega) (by omega) f1
    rw [hcc] at this
    rw [hfr]
    exact this
section
variable {s : Po} {ps : List Pc} {dr st : Bool} {lo re : Nat} {li pl : Int}
/-- The document's answers. -/
theorem rc_of (ao : Option Addr) (cap : Nat) (w00 : World) (h : isPcs w00 ao cap ps) (hlo : lo < 256) (hre : re < 256) (ht : isTab w00) :
    Rc (gmP ps dr st lo li re pl) (OkP s.W s.H s.T s.C.data.toList s.A.data.toList s.B.data.toList ps lo re li pl) txtP w00.heap.size w00 (.int .i64 s.W) (.int .i64 s.H) (.string s.C) (.int .i64 s.T) (.string s.A) (.string s.B) (.slice ao ps.length cap) (.bool dr) (.int .u8 (lo : Int)) (.int .i64 li) (.int .u8 (re : Int)) (.bool st) := by
  have hps : ∀ u, Below w00.heap.size w00 u → isPcs u ao cap ps := fun u hu => h.below hu (Nat.le_refl _)
  refine ⟨?_, ?_, ?_, ?_, ?_, ?_, ?_⟩
  · intro q hq u hu
    obtain ⟨a1, a2, a3, hf⟩ := at_facts hq
    have hg := at_more hq hf
    have := rEnds_any a1 a2 a3 q.C q.A q.B s.W s.H s.T s.C s.A s.B ao cap ps dr st lo re li pl u (hps u hu) hf.ok hf.t1 hf.a hf.b hf.w1 hf.h1 hf.c hg.cell hg.let_ hlo hre hg.loc hg.rec_ hg.li
    rw [← hf.w, ← hf.h, ← hf.t, ← hf.out] at this
    exact this
  · intro q hq u hu
    obtain ⟨a1, a2, a3, hf⟩ := at_facts hq
    have hg := at_more hq hf
    have := rMoves_any a1 a2 a3 q.C q.A q.B s.W s.H s.T s.C s.A s.B ao cap ps dr st lo re li pl u (hps u hu) hf.ok hf.t1 hf.a hf.b hf.w1 hf.h1 hf.c hg.cell hg.let_ hlo hre hg.loc hg.rec_ hg.li
    rw [← hf.w, ← hf.h, ← hf.t, ← hf.movs] at this
    exact this
  · intro q hq m hm u
    obtain ⟨a1, a2, a3, hf⟩ := at_facts hq
    have hm2 : m ∈ movP ps dr lo li re q := hm
    rw [hf.movs] at hm2
    have hf2 := hf
    have e1 := hf.w
    have e2 := hf.h
    have e3 := hf.t
    show Calls _ _ _ _ (fun e u' => e = .returned (.string ⟨(txM q.W.toNat q.C m).toArray⟩) ∧ _)
    rw [e1, e2, e3] at hf2 ⊢
    exact rText_H hf2 hm2 u
  · intro q hq m hm u
    exact made_P hq hm _ _ _ _ _ _ _ _ _ _ _ _ u
  · intro q hq u
    obtain ⟨W', H', T', hf⟩ := at_facts hq
    have hp := at_isPos hq hf
    have := Text_ok u hp
    unfold txtP
    rw [hf.w, hf.h, hf.t]
    exact this
  · intro q hq
    have : (movP ps dr lo li re q).length ≤ 4608 := mov_len (at_facts hq)
    show (movP ps dr lo li re q).length ≤ 100000
    omega
  · exact fun u hu => tab_below ht hu (Nat.le_refl _)
end
theorem housePlays_any (s : Po) (ao : Option Addr) (cap : Nat) (ps : List Pc) (dr st : Bool) (lo re : Nat) (li pl time : Int) (mo : Option Addr) (mc : Nat) (ml : List Ms) (mx : Int) (w : World) (hm : w.cell? ⟨0, 0, none⟩ = some (.int .i64 mx)) (ht : isTab w) (hC0 : s.C.size ≤ maxLen) (hA0 : s.A.size ≤ maxLen) (hB0 : s.B.size ≤ maxLen) (hlo : lo < 256) (hre : re < 256) (h : isPcs w ao cap ps) (hml : isMl w mo mc ml) (hmb : ∀ m ∈ ml, m.at_ < 9223372036854775808) :
    Calls Tryz.prog 3 #[.agg #[.int .i64 s.W, .int .i64 s.H, .string s.C, .int .i64 s.T, .string s.A, .string s.B, .slice ao ps.length cap, .bool dr, .int .u8 (lo : Int), .int .i64 li, .int .u8 (re : Int), .bool st, .int .i64 pl], .int .i64 time, .slice mo ml.length mc] w fun e w' => e = .returned (.bool true) ∧ Below w.heap.size w w' := by
  have hps : ∀ u, Below w.heap.size w u → isPcs u ao cap ps := fun u hu => h.below hu (Nat.le_refl _)
  have hRu := fun u (hu : Below w.heap.size w u) => gRules_any s.W s.H s.T s.C s.A s.B ao cap ps dr st lo re li pl u hA0 hB0 hlo hre (hps u hu)
  by_cases hgood : rulesB s.W s.H s.C.data.toList s.T s.A.data.toList s.B.data.toList ps lo li re pl = true ∧ 1 ≤ time ∧ time ≤ 1000000
  · obtain ⟨hR, ht1⟩ := hgood
    rw [hR] at hRu
    have hat : OkP s.W s.H s.T s.C.data.toList s.A.data.toList s.B.data.toList ps lo re li pl s := by
      have hR2 := hR
      unfold rulesB at hR2
      unfold OkP atB
      simp only [Bool.and_eq_true, decide_eq_true_eq] at hR2 ⊢
      exact ⟨⟨⟨⟨hR, hR2.1.1.1.1.1.2⟩, trivial⟩, trivial⟩, hR2.1.1.1.1.2⟩
    have hpl : 1 ≤ pl ∧ pl ≤ 1000 := by
      have hR2 := hR
      unfold rulesB at hR2
      simp only [Bool.and_eq_true] at hR2
      have := hR2.2
      simpa [inB] using this
    have hpsB := rules_len hR
    obtain ⟨W', H', T', hf⟩ := at_facts hat
    have hp := at_isPos hat hf
    have hhc := fun b ao2 cp2 (w00 : World) (hb : w00.heap.size = b) (h2 : isPcs w00 ao2 cp2 ps) (hl : Below w.heap.size w w00) => hc_of (s := s) (dr := dr) (st := st) (li := li) (pl := pl) ao2 cp2 b w00 hb h2 ⟨hC0, hA0, hB0⟩ hlo hre mx ((hl.cell (p := ⟨0, 0, none⟩) (World.block_lt_of_cell? w ⟨0, 0, none⟩ hm)).trans hm) (tab_below ht hl (Nat.le_refl _))
    refine plays_yes (gmP ps dr st lo li re pl) _ (gm_ok dr st hpl) txtP s hat ao cap ps dr st lo re li time mo mc ml w ht1 hml hmb (fun u hu => ?_) (fun b ao2 cp2 w00 hb h2 hl => hhc b ao2 cp2 w00 hb h2 hl) (rc_of ao cap w h hlo hre ht) hRu
    have hn := new_ok (gmP ps dr st lo li re pl) (W := W') (H := H') (T := s.T) (C := s.C) (A := s.A) (B := s.B) ao cap ps dr st lo re li time u (by rw [hf.t]; exact hp) (hps u hu) hC0 hA0 hB0 hlo hre (by rw [← hf.w, ← hf.h]; exact hR) hpsB.1 hpsB.2 ht1 (fun ao2 cp2 v hv => by
      have := Outcome_ok s.W s.H s.T s.C s.A s.B ao2 cp2 ps dr st lo re li pl s.W s.H s.T s.C s.A s.B v hC0 hA0 hB0 hlo hre hv hC0 hA0 hB0 hat W' H' T' hf
      rw [← hf.out] at this
      rw [← hf.w, ← hf.h]
      exact this)
    rw [← hf.w, ← hf.h] at hn
    exact hn
  · have hbad : (rulesB s.W s.H s.C.data.toList s.T s.A.data.toList s.B.data.toList ps lo li re pl && (decide (1 ≤ time) && decide (time ≤ 1000000))) = false := by
      rw [Bool.eq_false_iff]
      intro hh
      simp only [Bool.and_eq_true, decide_eq_true_eq] at hh
      exact hgood hh
    refine plays_no _ _ _ _ _ _ _ _ _ _ _ _ _ time _ _ w ?_ (fun u hu => new_no s.W s.H s.T s.C s.A s.B ao cap ps dr st lo re li pl time u (hps u hu) hC0 hA0 hB0 hlo hre hbad) hRu
    cases hR : rulesB s.W s.H s.C.data.toList s.T s.A.data.toList s.B.data.toList ps lo li re pl with
    | false => exact .inl rfl
    | true =>
      have : ¬ (1 ≤ time ∧ time ≤ 1000000) := fun hh => hgood ⟨hR, hh⟩
      omega
end Go.Proofs.YtihojhfpepbjhaaGreatDoor
