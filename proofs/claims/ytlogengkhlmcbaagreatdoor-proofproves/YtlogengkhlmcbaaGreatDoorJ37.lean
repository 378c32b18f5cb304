/-
  package gameref, walked: Of.
  package moves: Apply, joined with what it calls; what a position of rules is, as the document's answer asks for it.
  What the document makes of a move of the list.
-/
import Derived.Test.YtlogengkhlmcbaaGreatDoorS5
import Derived.Test.YtlogengkhlmcbaaGreatDoorJ12
import Derived.Deep.Cut
import Derived.Deep.CutRange
import Derived.Test.YtlogengkhlmcbaaGreatDoorV23
import Derived.Test.YtlogengkhlmcbaaGreatDoorJ33
import Derived.Test.YtlogengkhlmcbaaGreatDoorV34
import Derived.Test.YtlogengkhlmcbaaGreatDoorJ23
namespace Go.Proofs.YtlogengkhlmcbaaGreatDoor
open Go.RowKit
attribute [local go_sem ↓] Go.wp_at_zero Go.wp_at_succ

/-- The document's answer is the program's. -/
theorem of_eq (W0 H0 T0 : Int) (C0 A0 B0 : List UInt8) (ps : List Pc) (lo re : Nat) (li pl W H T : Int) (C A B : List UInt8) :
    atB W0 H0 C0 T0 A0 B0 ps lo li re pl W H C T A B = (rulesB W0 H0 C0 T0 A0 B0 ps lo li re pl && (posB W H C T A B && (decide (W = W0) && (decide (H = H0) && (C ++ A ++ B).all (hasP ps))))) := by
  unfold atB
  cases hr : rulesB W0 H0 C0 T0 A0 B0 ps lo li re pl with
  | false => simp
  | true =>
    cases hp : posB W H C T A B with
    | false => simp
    | true =>
      have hps : psB ps = true := by
        unfold rulesB at hr
        simp only [Bool.and_eq_true] at hr
        exact hr.1.1.1.1.1.1
      rw [letters_all ps hps W H C T A B hp]
      simp [Bool.and_assoc]
set_option maxHeartbeats 4000000 in
set_option maxRecDepth 100000 in
theorem rOf_any (W0 H0 T0 : Int) (C0 A0 B0 : ByteArray) (ao : Option Addr) (cap : Nat) (ps : List Pc) (dr st : Bool) (lo re : Nat) (li pl : Int) (W H T : Int) (C A B : ByteArray) (w : World) (hA0 : A0.size ≤ maxLen) (hB0 : B0.size ≤ maxLen) (hlo : lo < 256) (hre : re < 256) (h : isPcs w ao cap ps) (hA : A.size ≤ maxLen) (hB : B.size ≤ maxLen) :
    Calls Tryz.prog 6 #[.agg #[.int .i64 W0, .int .i64 H0, .string C0, .int .i64 T0, .string A0, .string B0, .slice ao ps.length cap, .bool dr, .int .u8 (lo : Int), .int .i64 li, .int .u8 (re : Int), .bool st, .int .i64 pl], .agg #[.int .i64 W, .int .i64 H, .string C, .int .i64 T, .string A, .string B]] w fun e w' => e = .returned (.bool (atB W0 H0 C0.data.toList T0 A0.data.toList B0.data.toList ps lo li re pl W H C.data.toList T A.data.toList B.data.toList)) ∧ Below w.heap.size w w' := by
  obtain ⟨n, hn⟩ : ∃ n, n = ps.length := ⟨_, rfl⟩
  obtain ⟨R, hR⟩ : ∃ R, R = atB W0 H0 C0.data.toList T0 A0.data.toList B0.data.toList ps lo li re pl W H C.data.toList T A.data.toList B.data.toList := ⟨_, rfl⟩
  rw [← hR]
  rw [of_eq] at hR
  have hRU := fun u (hb : Below w.heap.size w u) => gRules_any W0 H0 T0 C0 A0 B0 ao cap ps dr st lo re li pl u hA0 hB0 hlo hre (h.below hb (Nat.le_refl _))
  have hPO := fun u => refPosition_any W H T C A B u hA hB
  have hLE := fun (s : ByteArray) u (hs : s.size ≤ 1000) (hb : Below w.heap.size w u) => gLetters_any W0 H0 T0 C0 A0 B0 ao cap ps dr st lo re li pl s u hs (h.below hb (Nat.le_refl _))
  have hsz : posB W H C.data.toList T A.data.toList B.data.toList = true → C.size ≤ 64 ∧ A.size ≤ 8 ∧ B.size ≤ 8 := fun hp => by
    unfold posB at hp
    simp only [Bool.and_eq_true, Bool.or_eq_true, decide_eq_true_eq, sideB, handB, len_data] at hp
    obtain ⟨⟨⟨⟨⟨hW, hH⟩, hC, -⟩, -⟩, hA8, -⟩, hB8, -⟩ := hp
    refine ⟨?_, hA8, hB8⟩
    have e1 : W * H ≤ 8 * 8 := Int.mul_le_mul (by omega) (by omega) (by omega) (by omega)
    omega
  rw [← hn]
  simp only [← hn] at hRU hLE
  have HSZ := hide hsz
  generalize rulesB W0 H0 C0.data.toList T0 A0.data.toList B0.data.toList ps lo li re pl = a1 at *
  generalize posB W H C.data.toList T A.data.toList B.data.toList = a2 at *
  have HR := hide hR
  have HLE := hide hLE
  have HPO := hide hPO
  obtain ⟨w1, hw1⟩ : ∃ w1, w1 = w.alloc (.cells #[.int .i64 W0, .int .i64 H0, .string C0, .int .i64 T0, .string A0, .string B0, .slice ao n cap, .bool dr, .int .u8 (lo : Int), .int .i64 li, .int .u8 (re : Int), .bool st, .int .i64 pl] 27 (0, 0)) := ⟨_, rfl⟩
  obtain ⟨w2, hw2⟩ : ∃ w2, w2 = w1.alloc (.cells #[.int .i64 W, .int .i64 H, .string C, .int .i64 T, .string A, .string B] 24 (0, 0)) := ⟨_, rfl⟩
  have hb1 : Below w.heap.size w w1 := by rw [hw1]; exact (Below.refl _ _).alloc (Nat.le_refl _) _
  have hb2 : Below w1.heap.size w1 w2 := by rw [hw2]; exact (Below.refl _ _).alloc (Nat.le_refl _) _
  have s1 : w1.heap.size = w.heap.size + 1 := by rw [hw1]; simp
  have hru : isRu w2 w.heap.size (.int .i64 W0) (.int .i64 H0) (.string C0) (.int .i64 T0) (.string A0) (.string B0) (.slice ao n cap) (.bool dr) (.int .u8 (lo : Int)) (.int .i64 li) (.int .u8 (re : Int)) (.bool st) (.int .i64 pl) := isRu.below (show isRu w1 w.heap.size (.int .i64 W0) (.int .i64 H0) (.string C0) (.int .i64 T0) (.string A0) (.string B0) (.slice ao n cap) (.bool dr) (.int .u8 (lo : Int)) (.int .i64 li) (.int .u8 (re : Int)) (.bool st) (.int .i64 pl) by rw [hw1]; exact heap_alloc_new w _) hb2 (by omega)
  have hpb : isPb w2 (w.heap.size + 1) W H T C A B := by rw [hw2, ← s1]; exact heap_alloc_new w1 _
  have hbw := hb1.trans (hb2.mono (show w.heap.size ≤ w1.heap.size by omega))
  have HRC := hide (hRU w2 hbw)
  have HBW := hide hbw
  have HPB := hide hpb
  have HRU := hide hru
  obtain ⟨r0, r1, r2, r3, r4, r5, r6, r7, r8, r9, r10, r11, r12⟩ := hru.cells
  obtain ⟨p0, p1, p2, p3, p4, p5⟩ := hpb.all
  clear hb1 hb2 s1 hru hpb hbw hRU hPO hLE hR hsz h hn
  go_enter Tryz.func6, Tryz.ntmps6
  go_wp2_with fail
  rw [← hw1, ← hw2]
  clear hw1 hw2
  refine (unhide HRC).mono ?_
  rintro e u ⟨rfl, hb1⟩
  have hPn := (unhide HPB).below hb1 (unhide HPB).lt
  have hRn := (unhide HRU).below hb1 (unhide HRU).lt
  have hBn := (unhide HBW).trans (hb1.mono (unhide HBW).size)
  clear HPB HRU HBW hb1 r0 r1 r2 r3 r4 r5 r6 r7 r8 r9 r10 r11 r12 p0 p1 p2 p3 p4 p5
  have HPB := hide hPn
  have HRU := hide hRn
  have HBW := hide hBn
  clear hPn hRn hBn
  obtain ⟨r0, r1, r2, r3, r4, r5, r6, r7, r8, r9, r10, r11, r12⟩ := (unhide HRU).cells
  obtain ⟨p0, p1, p2, p3, p4, p5⟩ := (unhide HPB).all
  cases a1 with
  | false =>
    go_wp2
    go_ret
    exact ⟨ret_bool (by rw [unhide HR]; rfl), unhide HBW⟩
  | true =>
    have HPC := hide (unhide HPO u)
    go_wp2_with fail
    refine (unhide HPC).mono ?_
    rintro e u ⟨rfl, hb1⟩
    have hPn := (unhide HPB).below hb1 (unhide HPB).lt
    have hRn := (unhide HRU).below hb1 (unhide HRU).lt
    have hBn := (unhide HBW).trans (hb1.mono (unhide HBW).size)
    clear HPB HRU HBW hb1 r0 r1 r2 r3 r4 r5 r6 r7 r8 r9 r10 r11 r12 p0 p1 p2 p3 p4 p5
    have HPB := hide hPn
    have HRU := hide hRn
    have HBW := hide hBn
    clear hPn hRn hBn
    obtain ⟨r0, r1, r2, r3, r4, r5, r6, r7, r8, r9, r10, r11, r12⟩ := (unhide HRU).cells
    obtain ⟨p0, p1, p2, p3, p4, p5⟩ := (unhide HPB).all
    cases a2 with
    | false =>
      go_wp2
      go_ret
      exact ⟨ret_bool (by rw [unhide HR]; rfl), unhide HBW⟩
    | true =>
      obtain ⟨z1, z2, z3⟩ := unhide HSZ rfl
      by_cases hW : W = W0
      · have hWb : (W == W0) = true := by simp [hW]
        by_cases hH : H = H0
        · have hHb : (H == H0) = true := by simp [hH]
          have hl1 : ¬ 9223372036854775807 < C.size + A.size := by omega
          have hl2 : ¬ 9223372036854775807 < C.size + A.size + B.size := by omega
          have HLC := hide (unhide HLE (C ++ A ++ B) u (by rw [ByteArray.size_append, ByteArray.size_append]; omega) (unhide HBW))
          have hda : (C ++ A ++ B).data.toList = C.data.toList ++ A.data.toList ++ B.data.toList := by simp
          rw [hda] at HLC
          have HRR : Hid (R = (C.data.toList ++ A.data.toList ++ B.data.toList).all (hasP ps)) := hide (by rw [unhide HR]; simp [hW, hH])
          generalize (C.data.toList ++ A.data.toList ++ B.data.toList).all (hasP ps) = a3 at *
          clear hda hW hH HR
          have HR := HRR
          go_wp2_with fail
          refine (unhide HLC).mono ?_
          rintro e u ⟨rfl, hb1⟩
          have hPn := (unhide HPB).below hb1 (unhide HPB).lt
          have hRn := (unhide HRU).below hb1 (unhide HRU).lt
          have hBn := (unhide HBW).trans (hb1.mono (unhide HBW).size)
          clear HPB HRU HBW hb1 r0 r1 r2 r3 r4 r5 r6 r7 r8 r9 r10 r11 r12 p0 p1 p2 p3 p4 p5
          have HPB := hide hPn
          have HRU := hide hRn
          have HBW := hide hBn
          clear hPn hRn hBn
          obtain ⟨r0, r1, r2, r3, r4, r5, r6, r7, r8, r9, r10, r11, r12⟩ := (unhide HRU).cells
          obtain ⟨p0, p1, p2, p3, p4, p5⟩ := (unhide HPB).all
          go_wp2
          go_ret
          exact ⟨ret_bool (by rw [unhide HR]; skip), unhide HBW⟩
        · have hHb : (H == H0) = false := by simp [hH]
          have HRR : Hid (R = false) := hide (by rw [unhide HR]; simp [hH])
          clear hW hH HR
          have HR := HRR
          go_wp2
          go_ret
          exact ⟨ret_bool (by rw [unhide HR]; skip), unhide HBW⟩
      · have hWb : (W == W0) = false := by simp [hW]
        have HRR : Hid (R = false) := hide (by rw [unhide HR]; simp [hW])
        clear hW HR
        have HR := HRR
        go_wp2
        go_ret
        exact ⟨ret_bool (by rw [unhide HR]; skip), unhide HBW⟩
end Go.Proofs.YtlogengkhlmcbaaGreatDoor

namespace Go.Proofs.YtlogengkhlmcbaaGreatDoor
open Go.RowKit

/-- What the document's answer needs of a position of rules. -/
structure AtG (ps : List Pc) (lo re : Nat) (li : Int) (C A B : ByteArray) (W' H' : Nat) : Prop where
  cell : ∀ c, c < W' * H' → cellB (cellN C c : Nat) = true ∧ cellN C c < 256
  let_ : ∀ c, c < W' * H' → cellN C c ≠ 46 → 0 ≤ idxF ps (upN (cellN C c)) 0 ∧ lowN (cellN C c) = upN (cellN C c)
  loc : lo ≠ 0 → capB (lo : Int) = true
  rec_ : re ≠ 0 → capB (re : Int) = true
  li : li = 0 ∨ (2 ≤ li ∧ li ≤ 8)
  oa : Ord A.data.toList ∧ ∀ a ∈ A.data.toList, capB a.toNat = true
  ob : Ord B.data.toList ∧ ∀ a ∈ B.data.toList, capB a.toNat = true
theorem hasZ_cap {S lo : Nat} (h : hasZ S lo = true) (h0 : lo ≠ 0) : capB (lo : Int) = true := by
  unfold hasZ hasL at h
  simp only [Bool.or_eq_true, Bool.and_eq_true, decide_eq_true_eq] at h
  rcases h with h | h
  · omega
  · exact h.1
theorem at_more {W0 H0 T0 : Int} {C0 A0 B0 : List UInt8} {ps : List Pc} {lo re : Nat} {li pl W H T : Int} {C A B : ByteArray} (h : atB W0 H0 C0 T0 A0 B0 ps lo li re pl W H C.data.toList T A.data.toList B.data.toList = true) {W' H' T' : Nat} (hf : AtF ps W H T C A B W' H' T') : AtG ps lo re li C A B W' H' := by
  have h1 := h
  rw [of_eq] at h1
  simp only [Bool.and_eq_true] at h1
  obtain ⟨hr, hp, -, -, hl⟩ := h1
  have hp0 := hp
  unfold posB at hp
  simp only [Bool.and_eq_true] at hp
  obtain ⟨⟨⟨⟨⟨-, -⟩, -, hcs⟩, -⟩, hA⟩, hB⟩ := hp
  have hcell : ∀ c, c < W' * H' → cellB (cellN C c : Nat) = true ∧ cellN C c < 256 := fun c hc => by
    have hc' : c < C.size := by rw [hf.c]; exact hc
    obtain ⟨q1, q2⟩ := cellN_list C c hc'
    unfold cellsB at hcs
    rw [List.all_eq_true] at hcs
    refine ⟨?_, by rw [q2]; exact UInt8.toNat_lt _⟩
    rw [q2]
    exact hcs _ (List.mem_of_getElem? q1)
  refine ⟨hcell, fun c hc h46 => ?_, ?_, ?_, ?_, hand_ord hA, hand_ord hB⟩
  · have hc' : c < C.size := by rw [hf.c]; exact hc
    obtain ⟨q1, q2⟩ := cellN_list C c hc'
    obtain ⟨u1, -⟩ := up_low (cellN C c) (hcell c hc).2 (hcell c hc).1 h46
    refine ⟨?_, u1.symm⟩
    rw [List.all_eq_true] at hl
    have := hl (C.get! c) (by simp only [List.mem_append]; exact .inl (.inl (List.mem_of_getElem? q1)))
    unfold hasP at this
    rw [← q2] at this
    simp only [Bool.or_eq_true, decide_eq_true_eq] at this
    rcases this with this | this
    · exact absurd this h46
    · rw [u1]; exact this
  · unfold rulesB at hr
    simp only [Bool.and_eq_true] at hr
    exact hasZ_cap hr.1.1.1.2
  · unfold rulesB at hr
    simp only [Bool.and_eq_true] at hr
    exact hasZ_cap hr.1.1.2
  · unfold rulesB inB at hr
    simp only [Bool.and_eq_true, Bool.or_eq_true, decide_eq_true_eq] at hr
    omega
theorem moves_is {W H T : Nat} {C A B : ByteArray} {ps : List Pc} {dr : Bool} {lo re : Nat} {li : Int} {m : Mv} (h : m ∈ movesL W H T C A B ps dr lo li re) : MvIs W H T C A B ps dr m := by
  unfold movesL at h
  split at h
  · exact poss_is h
  · cases h
end Go.Proofs.YtlogengkhlmcbaaGreatDoor

namespace Go.Proofs.YtlogengkhlmcbaaGreatDoor
open Go.RowKit

/-- What the document makes of a move of the list. -/
theorem made_P {W0 H0 T0 : Int} {C0 A0 B0 : List UInt8} {ps : List Pc} {lo re : Nat} {li pl : Int} {dr : Bool} {p : Po} (hat : atB W0 H0 C0 T0 A0 B0 ps lo li re pl p.W p.H p.C.data.toList p.T p.A.data.toList p.B.data.toList = true) {m : Mv} (hm : m ∈ movP ps dr lo li re p) (v0 v1 v2 v3 v4 v5 v6 v8 v9 v10 v11 v12 : Value) (u : World) :
    Calls Tryz.prog 21 #[.agg #[v0, v1, v2, v3, v4, v5, v6, .bool dr, v8, v9, v10, v11, v12], .agg #[.int .i64 p.W, .int .i64 p.H, .string p.C, .int .i64 p.T, .string p.A, .string p.B], .agg #[.int .i64 m.f, .int .i64 (m.t : Int), .int .u8 (m.c : Int)]] u fun e w' => e = .returned (.agg #[.int .i64 (behP dr p m).W, .int .i64 (behP dr p m).H, .string (behP dr p m).C, .int .i64 (behP dr p m).T, .string (behP dr p m).A, .string (behP dr p m).B]) ∧ Below u.heap.size u w' := by
  obtain ⟨W', H', T', hf⟩ := at_facts hat
  have hg := at_more hat hf
  rw [hf.movs] at hm
  have hmv := mov_is hm
  obtain ⟨f1, f2, f3⟩ := hmv.facts
  have hcc : m.c.toUInt8.toNat = m.c := u8_back f3
  have hs64 : p.C.size ≤ 64 := by rw [hf.c]; exact Nat.mul_le_mul hf.w1.2 hf.h1.2
  have hcell : ∀ i, i < p.C.size → cellB (cellN p.C i : Nat) = true ∧ cellN p.C i < 256 := fun i hi => hg.cell i (by rw [← hf.c]; exact hi)
  have horT : Ord (handOf T' p.A p.B).data.toList ∧ ∀ a ∈ (handOf T' p.A p.B).data.toList, capB a.toNat = true := by
    unfold handOf
    split
    · exact hg.oa
    · exact hg.ob
  have hfacts : capB (m.c.toUInt8.toNat : Int) = true ∧ ((m.f = -1 ∧ cellN p.C m.t = 46 ∧ m.c.toUInt8 ∈ (handOf T' p.A p.B).data.toList) ∨ (∃ fr : Nat, m.f = fr ∧ fr < p.C.size ∧ fr ≠ m.t)) := by
    cases hmv with
    | drop h1 h2 h3 h4 h5 =>
      obtain ⟨a, ha1, ha2⟩ := h5
      have hca : m.c.toUInt8 = a := UInt8.toNat_inj.1 (by rw [hcc, ha2])
      exact ⟨by rw [hca]; exact horT.2 a ha1, .inl ⟨h1, h3, by rw [hca]; exact ha1⟩⟩
    | go fr h1 h2 h3 h4 h5 h6 =>
      have hne : cellN p.C fr ≠ 46 := by
        intro e
        rw [e] at h4
        simp [ownB] at h4
      have hW2 : fr < W' * H' := by rw [← hf.c]; exact h2
      have hu := (up_facts (cellN p.C fr) (hcell fr h2).2 (hcell fr h2).1 hne).1
      have hft := can_ne hf.t1 hW2 hg.cell h4 h6
      refine ⟨?_, .inr ⟨fr, h1, h2, hft⟩⟩
      rw [hcc, h5]
      simp only [capB, Bool.and_eq_true, decide_eq_true_eq]
      omega
  have hmd := rMade_any W' H' T' p.C p.A p.B v0 v1 v2 v3 v4 v5 v6 v8 v9 v10 v11 v12 dr m.f m.t m.c.toUInt8 u hf.t1 hf.a hf.b hs64 f1 hfacts.1 horT.1 hcell hfacts.2
  rw [hcc, ← hf.w, ← hf.h, ← hf.t] at hmd
  refine hmd.mono fun e w' hh => ⟨hh.1.trans ?_, hh.2⟩
  have hT := hf.t
  have hTn : p.T.toNat = T' := by rw [hT]; rfl
  unfold behP
  rw [hTn]
  rcases (by have := hf.t1; omega : T' = 0 ∨ T' = 1) with rfl | rfl
  · have hT0 : p.T = 0 := hT
    rw [if_pos rfl, if_pos rfl, if_pos hT0, if_pos hT0]
    rfl
  · have hT1 : ¬ p.T = 0 := by rw [hT]; omega
    rw [if_neg (by omega), if_neg (by omega), if_neg hT1, if_neg hT1]
    rfl
end Go.Proofs.YtlogengkhlmcbaaGreatDoor
