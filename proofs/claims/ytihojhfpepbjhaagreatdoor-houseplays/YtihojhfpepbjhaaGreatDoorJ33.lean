/-
  package gameref, walked: Of.
  package moves: Apply, joined with what it calls; what a position of rules is, as the document's answer asks for it.
  Mathematics: by a move of the other one the winner does not win.
  Plain mathematics: wins counted in moves of the winner's own, and in moves of both.
  Plain mathematics: what the hunt answers, and what it keeps.
  The game's rules are such a game: the winner does not win by a move of the other one.
  What the document makes of a move of the list.
  package moves, walked: Text, Read, over what is known of check, list and text.
  package moves, walked: Read at a position of the rules, over what is known of list and text.
  Texts of moves are unlike.
-/
import Derived.Test.YtihojhfpepbjhaaGreatDoorS5
import Derived.Test.YtihojhfpepbjhaaGreatDoorJ12
import Derived.Deep.Cut
import Derived.Deep.CutRange
import Derived.Test.YtihojhfpepbjhaaGreatDoorV23
import Derived.Test.YtihojhfpepbjhaaGreatDoorJ31
import Derived.Test.YtihojhfpepbjhaaGreatDoorV34
import Derived.Test.YtihojhfpepbjhaaGreatDoorJ30
import Derived.Test.YtihojhfpepbjhaaGreatDoorJ18
import Derived.RowKit
import Derived.Test.YtihojhfpepbjhaaGreatDoorC4
import Derived.Test.YtihojhfpepbjhaaGreatDoorJ23
namespace Go.Proofs.YtihojhfpepbjhaaGreatDoor
open Go.RowKit
attribute [local go_sem ↓] Go.wp_at_zero Go.wp_at_succ

/-- The document's answer is the program's. -/
theorem of_eq (W0 H0 T0 : Int) (C0 A0 B0 : List UInt8) (ps : List Pc) (lo re : Nat) (li pl W H T : Int) (C A B : List UInt8) :
    atB W0 H0 C0 T0 A0 B0 ps lo li re pl W H C T A B = (rulesB W0 H0 C0 T0 A0 B0 ps lo li re pl && (posB W H C T A B && (decide (W = W0) && (decide (H = H0) && (C ++ A ++ B).all (hasP ps))))) := by
  unfold atB
  cases hr : rulesB W0 H0 C0 T0 A0 B0 ps lo li re pl with
  | false => simp
  | true =>
    cases hp : posB W H C T A B with
    | false => simp
    | true =>
      have hps : psB ps = true := by
        unfold rulesB at hr
        simp only [Bool.and_eq_true] at hr
        exact hr.1.1.1.1.1.1
      rw [letters_all ps hps W H C T A B hp]
      simp [Bool.and_assoc]
end Go.Proofs.YtihojhfpepbjhaaGreatDoor

namespace Go.Proofs.YtihojhfpepbjhaaGreatDoor
open Go.RowKit

/-- What the document's answer needs of a position of rules. -/
structure AtG (ps : List Pc) (lo re : Nat) (li : Int) (C A B : ByteArray) (W' H' : Nat) : Prop where
  cell : ∀ c, c < W' * H' → cellB (cellN C c : Nat) = true ∧ cellN C c < 256
  let_ : ∀ c, c < W' * H' → cellN C c ≠ 46 → 0 ≤ idxF ps (upN (cellN C c)) 0 ∧ lowN (cellN C c) = upN (cellN C c)
  loc : lo ≠ 0 → capB (lo : Int) = true
  rec_ : re ≠ 0 → capB (re : Int) = true
  li : li = 0 ∨ (2 ≤ li ∧ li ≤ 8)
  oa : Ord A.data.toList ∧ ∀ a ∈ A.data.toList, capB a.toNat = true
  ob : Ord B.data.toList ∧ ∀ a ∈ B.data.toList, capB a.toNat = true
theorem hasZ_cap {S lo : Nat} (h : hasZ S lo = true) (h0 : lo ≠ 0) : capB (lo : Int) = true := by
  unfold hasZ hasL at h
  simp only [Bool.or_eq_true, Bool.and_eq_true, decide_eq_true_eq] at h
  rcases h with h | h
  · omega
  · exact h.1
theorem at_more {W0 H0 T0 : Int} {C0 A0 B0 : List UInt8} {ps : List Pc} {lo re : Nat} {li pl W H T : Int} {C A B : ByteArray} (h : atB W0 H0 C0 T0 A0 B0 ps lo li re pl W H C.data.toList T A.data.toList B.data.toList = true) {W' H' T' : Nat} (hf : AtF ps W H T C A B W' H' T') : AtG ps lo re li C A B W' H' := by
  have h1 := h
  rw [of_eq] at h1
  simp only [Bool.and_eq_true] at h1
  obtain ⟨hr, hp, -, -, hl⟩ := h1
  have hp0 := hp
  unfold posB at hp
  simp only [Bool.and_eq_true] at hp
  obtain ⟨⟨⟨⟨⟨-, -⟩, -, hcs⟩, -⟩, hA⟩, hB⟩ := hp
  have hcell : ∀ c, c < W' * H' → cellB (cellN C c : Nat) = true ∧ cellN C c < 256 := fun c hc => by
    have hc' : c < C.size := by rw [hf.c]; exact hc
    obtain ⟨q1, q2⟩ := cellN_list C c hc'
    unfold cellsB at hcs
    rw [List.all_eq_true] at hcs
    refine ⟨?_, by rw [q2]; exact UInt8.toNat_lt _⟩
    rw [q2]
    exact hcs _ (List.mem_of_getElem? q1)
  refine ⟨hcell, fun c hc h46 => ?_, ?_, ?_, ?_, hand_ord hA, hand_ord hB⟩
  · have hc' : c < C.size := by rw [hf.c]; exact hc
    obtain ⟨q1, q2⟩ := cellN_list C c hc'
    obtain ⟨u1, -⟩ := up_low (cellN C c) (hcell c hc).2 (hcell c hc).1 h46
    refine ⟨?_, u1.symm⟩
    rw [List.all_eq_true] at hl
    have := hl (C.get! c) (by simp only [List.mem_append]; exact .inl (.inl (List.mem_of_getElem? q1)))
    unfold hasP at this
    rw [← q2] at this
    simp only [Bool.or_eq_true, decide_eq_true_eq] at this
    rcases this with this | this
    · exact absurd this h46
    · rw [u1]; exact this
  · unfold rulesB at hr
    simp only [Bool.and_eq_true] at hr
    exact hasZ_cap hr.1.1.1.2
  · unfold rulesB at hr
    simp only [Bool.and_eq_true] at hr
    exact hasZ_cap hr.1.1.2
  · unfold rulesB inB at hr
    simp only [Bool.and_eq_true, Bool.or_eq_true, decide_eq_true_eq] at hr
    omega
end Go.Proofs.YtihojhfpepbjhaaGreatDoor

namespace Go.Proofs.YtihojhfpepbjhaaGreatDoor

end Go.Proofs.YtihojhfpepbjhaaGreatDoor

namespace Go.Proofs.YtihojhfpepbjhaaGreatDoor

section
variable {α : Type} (nx : α → List α) (wn : α → Bool)
variable {nx wn} {turn : α → Bool}
end
end Go.Proofs.YtihojhfpepbjhaaGreatDoor

namespace Go.Proofs.YtihojhfpepbjhaaGreatDoor

section
variable {α : Type} {nx : α → List α} {wn turn : α → Bool} {ok : α → Prop}
end
end Go.Proofs.YtihojhfpepbjhaaGreatDoor

namespace Go.Proofs.YtihojhfpepbjhaaGreatDoor
open Go.RowKit

/-- The outcome of a position. -/
def outP (ps : List Pc) (dr st : Bool) (lo : Nat) (li : Int) (re : Nat) (p : Po) : Int := outO p.W.toNat p.H.toNat p.T.toNat p.C p.A p.B ps dr st lo li re
theorem AtF.out {ps : List Pc} {dr st : Bool} {lo : Nat} {li : Int} {re : Nat} {p : Po} {W' H' T' : Nat} (h : AtF ps p.W p.H p.T p.C p.A p.B W' H' T') : outP ps dr st lo li re p = outO W' H' T' p.C p.A p.B ps dr st lo li re := by
  unfold outP
  rw [h.w, h.h, h.t]
  rfl
/-- A position of the rules. -/
def OkP (W0 H0 T0 : Int) (C0 A0 B0 : List UInt8) (ps : List Pc) (lo re : Nat) (li pl : Int) (p : Po) : Prop := atB W0 H0 C0 T0 A0 B0 ps lo li re pl p.W p.H p.C.data.toList p.T p.A.data.toList p.B.data.toList = true
end Go.Proofs.YtihojhfpepbjhaaGreatDoor

namespace Go.Proofs.YtihojhfpepbjhaaGreatDoor
open Go.RowKit

/-- What the document makes of a move of the list. -/
theorem made_P {W0 H0 T0 : Int} {C0 A0 B0 : List UInt8} {ps : List Pc} {lo re : Nat} {li pl : Int} {dr : Bool} {p : Po} (hat : atB W0 H0 C0 T0 A0 B0 ps lo li re pl p.W p.H p.C.data.toList p.T p.A.data.toList p.B.data.toList = true) {m : Mv} (hm : m ∈ movP ps dr lo li re p) (v0 v1 v2 v3 v4 v5 v6 v8 v9 v10 v11 v12 : Value) (u : World) :
    Calls Tryz.prog 76 #[.agg #[v0, v1, v2, v3, v4, v5, v6, .bool dr, v8, v9, v10, v11, v12], .agg #[.int .i64 p.W, .int .i64 p.H, .string p.C, .int .i64 p.T, .string p.A, .string p.B], .agg #[.int .i64 m.f, .int .i64 (m.t : Int), .int .u8 (m.c : Int)]] u fun e w' => e = .returned (.agg #[.int .i64 (behP dr p m).W, .int .i64 (behP dr p m).H, .string (behP dr p m).C, .int .i64 (behP dr p m).T, .string (behP dr p m).A, .string (behP dr p m).B]) ∧ Below u.heap.size u w' := by
  obtain ⟨W', H', T', hf⟩ := at_facts hat
  have hg := at_more hat hf
  rw [hf.movs] at hm
  have hmv := mov_is hm
  obtain ⟨f1, f2, f3⟩ := hmv.facts
  have hcc : m.c.toUInt8.toNat = m.c := u8_back f3
  have hs64 : p.C.size ≤ 64 := by rw [hf.c]; exact Nat.mul_le_mul hf.w1.2 hf.h1.2
  have hcell : ∀ i, i < p.C.size → cellB (cellN p.C i : Nat) = true ∧ cellN p.C i < 256 := fun i hi => hg.cell i (by rw [← hf.c]; exact hi)
  have horT : Ord (handOf T' p.A p.B).data.toList ∧ ∀ a ∈ (handOf T' p.A p.B).data.toList, capB a.toNat = true := by
    unfold handOf
    split
    · exact hg.oa
    · exact hg.ob
  have hfacts : capB (m.c.toUInt8.toNat : Int) = true ∧ ((m.f = -1 ∧ cellN p.C m.t = 46 ∧ m.c.toUInt8 ∈ (handOf T' p.A p.B).data.toList) ∨ (∃ fr : Nat, m.f = fr ∧ fr < p.C.size ∧ fr ≠ m.t)) := by
    cases hmv with
    | drop h1 h2 h3 h4 h5 =>
      obtain ⟨a, ha1, ha2⟩ := h5
      have hca : m.c.toUInt8 = a := UInt8.toNat_inj.1 (by rw [hcc, ha2])
      exact ⟨by rw [hca]; exact horT.2 a ha1, .inl ⟨h1, h3, by rw [hca]; exact ha1⟩⟩
    | go fr h1 h2 h3 h4 h5 h6 =>
      have hne : cellN p.C fr ≠ 46 := by
        intro e
        rw [e] at h4
        simp [ownB] at h4
      have hW2 : fr < W' * H' := by rw [← hf.c]; exact h2
      have hu := (up_facts (cellN p.C fr) (hcell fr h2).2 (hcell fr h2).1 hne).1
      have hft := can_ne hf.t1 hW2 hg.cell h4 h6
      refine ⟨?_, .inr ⟨fr, h1, h2, hft⟩⟩
      rw [hcc, h5]
      simp only [capB, Bool.and_eq_true, decide_eq_true_eq]
      omega
  have hmd := rMade_any W' H' T' p.C p.A p.B v0 v1 v2 v3 v4 v5 v6 v8 v9 v10 v11 v12 dr m.f m.t m.c.toUInt8 u hf.t1 hf.a hf.b hs64 f1 hfacts.1 horT.1 hcell hfacts.2
  rw [hcc, ← hf.w, ← hf.h, ← hf.t] at hmd
  refine hmd.mono fun e w' hh => ⟨hh.1.trans ?_, hh.2⟩
  have hT := hf.t
  have hTn : p.T.toNat = T' := by rw [hT]; rfl
  unfold behP
  rw [hTn]
  rcases (by have := hf.t1; omega : T' = 0 ∨ T' = 1) with rfl | rfl
  · have hT0 : p.T = 0 := hT
    rw [if_pos rfl, if_pos rfl, if_pos hT0, if_pos hT0]
    rfl
  · have hT1 : ¬ p.T = 0 := by rw [hT]; omega
    rw [if_neg (by omega), if_neg (by omega), if_neg hT1, if_neg hT1]
    rfl
end Go.Proofs.YtihojhfpepbjhaaGreatDoor

namespace Go.Proofs.YtihojhfpepbjhaaGreatDoor
open Go.RowKit
attribute [local go_sem ↓] Go.wp_at_zero Go.wp_at_succ

theorem isMb.frozen8 {w : World} {b : Nat} {f t c : Int} (h : isMb w b f t c) (k : Nat) : w.frozen? ⟨b, k, none⟩ = false := frozen_of_row w b k _ _ h
theorem isMb.setAll8 {w : World} {b : Nat} {f t c : Int} (h : isMb w b f t c) (f' t' c' : Int) : isMb (((w.setCell ⟨b, 0, none⟩ (.int .i64 f')).setCell ⟨b, 1, none⟩ (.int .i64 t')).setCell ⟨b, 2, none⟩ (.int .u8 c')) b f' t' c' := by
  unfold isMb at h ⊢; simp [World.setCell, Array.getElem?_modify, h]
/-- What is read: the first move of the list with that text. -/
def readM (tx : Mv → List UInt8) (s : ByteArray) : List Mv → Mv × Int
  | [] => (⟨0, 0, 0⟩, 5)
  | m :: L => if tx m = s.data.toList then (m, 0) else readM tx s L
theorem readM_drop {tx : Mv → List UInt8} {s : ByteArray} {L : List Mv} {i : Nat} {m : Mv} (h : L[i]? = some m) : readM tx s (L.drop i) = if tx m = s.data.toList then (m, 0) else readM tx s (L.drop (i + 1)) := by
  obtain ⟨hi, rfl⟩ := List.getElem?_eq_some_iff.1 h
  rw [List.drop_eq_getElem_cons hi, readM]

end Go.Proofs.YtihojhfpepbjhaaGreatDoor

namespace Go.Proofs.YtihojhfpepbjhaaGreatDoor
open Go.RowKit
attribute [local go_sem ↓] Go.wp_at_zero Go.wp_at_succ

theorem below_set3 {B : Nat} {w u : World} {b : Nat} (h : Below B w u) (hb : B ≤ b) (x y z : Value) : Below B w (((u.setCell ⟨b, 0, none⟩ x).setCell ⟨b, 1, none⟩ y).setCell ⟨b, 2, none⟩ z) := ((h.setCell (p := ⟨b, 0, none⟩) hb x).setCell (p := ⟨b, 1, none⟩) hb y).setCell (p := ⟨b, 2, none⟩) hb z

set_option maxHeartbeats 4000000 in
set_option maxRecDepth 100000 in
theorem Read_ok (v0 v1 v2 v3 v4 v5 v6 v7 v8 v9 v10 v11 v12 : Value) (W H T : Int) (C A B s : ByteArray) (L : List Mv) (tx : Mv → List UInt8) (w : World)
    (hck : ∀ u, Below w.heap.size w u → Calls Tryz.prog 48 #[.agg #[v0, v1, v2, v3, v4, v5, v6, v7, v8, v9, v10, v11, v12], .agg #[.int .i64 W, .int .i64 H, .string C, .int .i64 T, .string A, .string B]] u fun e w' => e = .returned (.int .i64 0) ∧ Below u.heap.size u w')
    (hL : ∀ u, Below w.heap.size w u → Calls Tryz.prog 49 #[.agg #[v0, v1, v2, v3, v4, v5, v6, v7, v8, v9, v10, v11, v12], .agg #[.int .i64 W, .int .i64 H, .string C, .int .i64 T, .string A, .string B]] u fun e w' => ∃ v, e = .returned v ∧ w'.ownsRow u.heap.size 61 3 v L.length (mvals L) ∧ Below u.heap.size u w')
    (htx : ∀ m ∈ L, ∀ u, Calls Tryz.prog 143 #[.agg #[.int .i64 W, .int .i64 H, .string C, .int .i64 T, .string A, .string B], .agg #[.int .i64 m.f, .int .i64 (m.t : Int), .int .u8 (m.c : Int)]] u fun e w' => e = .returned (.string ⟨(tx m).toArray⟩) ∧ Below u.heap.size u w') :
    Calls Tryz.prog 104 #[.agg #[v0, v1, v2, v3, v4, v5, v6, v7, v8, v9, v10, v11, v12], .agg #[.int .i64 W, .int .i64 H, .string C, .int .i64 T, .string A, .string B], .string s] w fun e w' => e = .returned (.tuple #[.agg #[.int .i64 (readM tx s L).1.f, .int .i64 ((readM tx s L).1.t : Int), .int .u8 ((readM tx s L).1.c : Int)], .int .i64 (readM tx s L).2]) ∧ Below w.heap.size w w' := by
  obtain ⟨R, hR⟩ : ∃ R, R = readM tx s L := ⟨_, rfl⟩
  rw [← hR]
  obtain ⟨w1, hw1⟩ : ∃ w1, w1 = w.alloc (.cells #[v0, v1, v2, v3, v4, v5, v6, v7, v8, v9, v10, v11, v12] 27 (0, 0)) := ⟨_, rfl⟩
  obtain ⟨w2, hw2⟩ : ∃ w2, w2 = w1.alloc (.cells #[.int .i64 W, .int .i64 H, .string C, .int .i64 T, .string A, .string B] 24 (0, 0)) := ⟨_, rfl⟩
  obtain ⟨w3, hw3⟩ : ∃ w3, w3 = w2.alloc (.cells #[.int .i64 0, .int .i64 0, .int .u8 0] 61 (0, 0)) := ⟨_, rfl⟩
  have hb1 : Below w.heap.size w w1 := by rw [hw1]; exact (Below.refl _ _).alloc (Nat.le_refl _) _
  have hb2 : Below w1.heap.size w1 w2 := by rw [hw2]; exact (Below.refl _ _).alloc (Nat.le_refl _) _
  have hb3 : Below w2.heap.size w2 w3 := by rw [hw3]; exact (Below.refl _ _).alloc (Nat.le_refl _) _
  have s1 : w1.heap.size = w.heap.size + 1 := by rw [hw1]; simp
  have s2 : w2.heap.size = w.heap.size + 1 + 1 := by rw [hw2]; simp [s1]
  have hru : isRu w3 w.heap.size v0 v1 v2 v3 v4 v5 v6 v7 v8 v9 v10 v11 v12 := isRu.below (isRu.below (show isRu w1 w.heap.size v0 v1 v2 v3 v4 v5 v6 v7 v8 v9 v10 v11 v12 by rw [hw1]; exact heap_alloc_new w _) hb2 (by omega)) hb3 (by omega)
  have hpb : isPb w3 (w.heap.size + 1) W H T C A B := isPb.below (show isPb w2 (w.heap.size + 1) W H T C A B by rw [hw2, ← s1]; exact heap_alloc_new w1 _) hb3 (by omega)
  have hmb : isMb w3 (w.heap.size + 1 + 1) 0 0 0 := by rw [hw3, ← s2]; exact heap_alloc_new w2 _
  have hbw : Below w.heap.size w w3 := (hb1.trans (hb2.mono (by omega))).trans (hb3.mono (by omega))
  have HRU := hide hru
  have HPB := hide hpb
  have HMB := hide hmb
  have HBW := hide hbw
  have HW1 := hide hw1
  have HW2 := hide hw2
  have HW3 := hide hw3
  have HK := hide (hck w3 hbw)
  have HL := hide hL
  have HT := hide htx
  have HR := hide hR
  clear hck hL htx hw1 hw2 hw3 hb1 hb2 hb3 s1 s2 hru hpb hmb hbw hR
  go_enter Tryz.func104, Tryz.ntmps104
  go_wp2_with fail
  rw [← unhide HW1, ← unhide HW2, ← unhide HW3]
  refine (unhide HK).mono ?_
  rintro e u ⟨rfl, hb⟩
  have hr := (unhide HRU).below hb (unhide HRU).lt
  have hp := (unhide HPB).below hb (unhide HPB).lt
  have hm := (unhide HMB).below hb (unhide HMB).lt
  have HB := hide ((unhide HBW).trans (hb.mono (unhide HBW).size))
  clear HRU HPB HMB HBW HW1 HW2 HW3 HK hb
  have HPB := hide hp
  have HMB := hide hm
  obtain ⟨r0, r1, r2, r3, r4, r5, r6, r7, r8, r9, r10, r11, r12⟩ := hr.cells
  obtain ⟨p0, p1, p2, p3, p4, p5⟩ := hp.all
  clear hr hp hm
  go_wp2_with fail
  refine (unhide HL _ (unhide HB)).mono ?_
  rintro e wc ⟨v, rfl, hown, hbc⟩
  obtain ⟨lo1, lc1, rfl⟩ := row_len hown
  obtain ⟨n, hn⟩ : ∃ n, n = L.length := ⟨_, rfl⟩
  have hl4 : isMvs wc (.slice lo1 n lc1) L := isMvs.of (by rw [hn]; exact hown)
  rw [← hn]
  have HN := hide hn
  have HLD := hide hl4
  have hp2 := (unhide HPB).below hbc (unhide HPB).lt
  have hm2 := (unhide HMB).below hbc (unhide HMB).lt
  have HBC := hide ((unhide HB).trans (hbc.mono (unhide HB).size))
  clear HPB HMB HB hbc hown hn hl4 r0 r1 r2 r3 r4 r5 r6 r7 r8 r9 r10 r11 r12 p0 p1 p2 p3 p4 p5 HL
  have HPB := hide hp2
  have HMB := hide hm2
  have hszc : w.heap.size + 1 + 1 < wc.heap.size := hm2.lt
  clear hp2 hm2
  go_wp2_with fail
  go_loopw [22] (fun iv wr => ∃ i : Nat, iv = .int .i64 (i : Int) ∧ i ≤ n ∧ Hid (readM tx s (L.drop i) = R) ∧ Hid (Below wc.heap.size wc wr)) (fun iv _ => n - (intOf iv).toNat)
  case atStart => exact ⟨0, rfl, Nat.zero_le _, hide (unhide HR).symm, hide (Below.refl _ _)⟩
  case round =>
    obtain ⟨i, rfl, hi, HRI, HBR⟩ := hrel
    have hbr := (unhide HBC).trans ((unhide HBR).mono (unhide HBC).size)
    have hpr := (unhide HPB).below (unhide HBR) (by omega)
    have hmr := (unhide HMB).below (unhide HBR) (by omega)
    have hsr := (unhide HBR).size
    by_cases hlt : i < n
    · have hlti : (i : Int) < (n : Int) := by omega
      have hi0 : (0 : Int) ≤ (i : Int) := by omega
      have hil : i < L.length := by rw [← unhide HN]; exact hlt
      obtain ⟨m, hm⟩ : ∃ m, m = L[i] := ⟨_, rfl⟩
      have hmi : L[i]? = some m := by rw [hm]; exact List.getElem?_eq_getElem hil
      have hstep := unhide HRI
      rw [readM_drop hmi] at hstep
      obtain ⟨ao, cap, e1, hle, hmx, hcs⟩ := (unhide HLD).below (unhide HBR)
      obtain ⟨g, off, eg, hgk, c0, c1, c2⟩ := hcs i m hmi
      simp only [Value.slice.injEq] at e1
      obtain ⟨e1, e2, e3⟩ := e1
      subst eg
      subst e1
      subst e3
      unfold maxLen at hmx
      rw [← unhide HN] at hle
      have hnx : n ≤ 9223372036854775807 := by omega
      obtain ⟨wi, hwi⟩ : ∃ wi, wi = wr.alloc (.cells #[.int .i64 m.f, .int .i64 (m.t : Int), .int .u8 (m.c : Int)] 61 (0, 0)) := ⟨_, rfl⟩
      have hbi : Below wr.heap.size wr wi := by rw [hwi]; exact (Below.refl _ _).alloc (Nat.le_refl _) _
      have hmbi : isMb wi wr.heap.size m.f m.t m.c := by rw [hwi]; exact heap_alloc_new wr _
      have hpi := hpr.below hbi (by omega)
      have hmi2 := hmr.below hbi (by omega)
      have HTX := hide (unhide HT m (List.mem_of_getElem? hmi) wi)
      obtain ⟨X, hX⟩ : ∃ X : ByteArray, X = ⟨(tx m).toArray⟩ := ⟨_, rfl⟩
      rw [← hX] at HTX
      have hXs : (X = s) ↔ tx m = s.data.toList := by
        rw [hX]
        constructor
        · intro h; rw [← h]
        · intro h; rw [h]
      obtain ⟨p0, p1, p2, p3, p4, p5⟩ := hpi.all
      obtain ⟨m0, m1, m2⟩ := hmbi.all
      have HMBI := hide hmbi
      have HMI2 := hide hmi2
      have HBI := hide (hbr.trans (hbi.mono hbr.size))
      have HBCI := hide ((unhide HBR).trans (hbi.mono hsr))
      have HWI := hide hwi
      have HST := hide hstep
      have HXS := hide hXs
      clear hm hmi hstep hcs e2 hgk hwi hbi hmbi hpi hmi2 hX hXs hbr hpr hmr
      go_upto_region 7 with fail
      rw [← unhide HWI]
      clear HWI c0 c1 c2
      go_wp2_with fail
      refine (unhide HTX).mono ?_
      rintro e wt ⟨rfl, hbt⟩
      have hmt := (unhide HMBI).below hbt (unhide HMBI).lt
      have hmt2 := (unhide HMI2).below hbt (unhide HMI2).lt
      have HBT := hide ((unhide HBI).trans (hbt.mono (unhide HBI).size))
      have HBCT := hide ((unhide HBCI).trans (hbt.mono (unhide HBCI).size))
      have HMT2 := hide hmt2
      clear m0 m1 m2 p0 p1 p2 p3 p4 p5 HMBI HMI2 HBI HBCI HTX hbt
      obtain ⟨m0, m1, m2⟩ := hmt.all
      obtain ⟨k0, k1, k2⟩ := hmt2.all
      have z0 := isMb.frozen8 hmt2 0
      have z1 := isMb.frozen8 hmt2 1
      have z2 := isMb.frozen8 hmt2 2
      have hfin := isMb.setAll8 hmt2 m.f m.t m.c
      obtain ⟨f0, f1, f2⟩ := hfin.all
      have HBF := hide (below_set3 (b := w.heap.size + 1 + 1) (unhide HBT) (by omega) (.int .i64 m.f) (.int .i64 (m.t : Int)) (.int .u8 (m.c : Int)))
      clear hmt hmt2 hfin
      by_cases hxs : X = s
      · have hR2 : (m, (0 : Int)) = R := by
          have := unhide HST
          rwa [if_pos ((unhide HXS).1 hxs)] at this
        have HR2 := hide hR2
        have hq1 : (X.toList == s.toList) = true := by rw [hxs]; simp
        clear hR2 hxs
        go_wp2
        refine bodyPost_ret (v := .tuple #[.agg #[.int .i64 m.f, .int .i64 (m.t : Int), .int .u8 (m.c : Int)], .int .i64 0]) (by simp [results, Tryz.results104, go_sem, f0, f1, f2]) rfl ⟨by rw [← unhide HR2], unhide HBF⟩
      · have hR2 : readM tx s (L.drop (i + 1)) = R := by
          have := unhide HST
          rwa [if_neg (fun h => hxs ((unhide HXS).2 h))] at this
        have HR2 := hide hR2
        have hq1 : (X.toList == s.toList) = false := by
          rw [beq_eq_false_iff_ne]
          intro h
          rw [Lib.toList_data, Lib.toList_data] at h
          exact hxs (ByteArray.ext (Array.ext' h))
        clear hR2
        go_wp2
        go_roundw
        case rel => exact ⟨i + 1, by go_num, by omega, HR2, HBCT⟩
        case measure => simp only [intOf]; omega
    · have hlti : ¬ (i : Int) < (n : Int) := by omega
      have hR2 : ((⟨0, 0, 0⟩ : Mv), (5 : Int)) = R := by
        have := unhide HRI
        rwa [List.drop_eq_nil_of_le (by rw [← unhide HN]; omega)] at this
      have HR2 := hide hR2
      obtain ⟨k0, k1, k2⟩ := hmr.all
      have z0 := isMb.frozen8 hmr 0
      have z1 := isMb.frozen8 hmr 1
      have z2 := isMb.frozen8 hmr 2
      have hfin := isMb.setAll8 hmr 0 0 0
      obtain ⟨f0, f1, f2⟩ := hfin.all
      have HBF := hide (below_set3 (b := w.heap.size + 1 + 1) hbr (by omega) (.int .i64 0) (.int .i64 0) (.int .u8 0))
      clear hR2 hfin hbr hpr hmr
      go_wp2
      refine bodyPost_ret (v := .tuple #[.agg #[.int .i64 0, .int .i64 0, .int .u8 0], .int .i64 5]) (by simp [results, Tryz.results104, go_sem, f0, f1, f2]) rfl ⟨by rw [← unhide HR2]; rfl, unhide HBF⟩
end Go.Proofs.YtihojhfpepbjhaaGreatDoor

namespace Go.Proofs.YtihojhfpepbjhaaGreatDoor
open Go.RowKit

/-! Texts. -/
def txM (W : Nat) (C : ByteArray) (m : Mv) : List UInt8 := txtL W C m.f m.t m.c.toUInt8
end Go.Proofs.YtihojhfpepbjhaaGreatDoor
