/-
  What comes behind a move is of the rules.
  package moves, walked: Apply.
  package gameref, walked: mark of any player.
  package gameref, walked: Made.
  Plain mathematics: pieces' letters as the document's answer looks for them (the first piece with a letter), against sets of letters as bits.
  gameref.Position, walked: is it a position?
  The document's answer on rules (package gameref), walked: Rules.
  package gameref, walked: Of.
  package moves: Apply, joined with what it calls; what a position of rules is, as the document's answer asks for it.
  Mathematics: by a move of the other one the winner does not win.
  Plain mathematics: wins counted in moves of the winner's own, and in moves of both.
  Plain mathematics: what the hunt answers, and what it keeps.
  The game's rules are such a game: the winner does not win by a move of the other one.
  package moves, walked: appendCell, text.
-/
import Derived.Test.YtihojhfpepbjhaaGreatDoorJ17
import Derived.Test.YtihojhfpepbjhaaGreatDoorJ18
import Derived.Test.YtihojhfpepbjhaaGreatDoorJ12
import Derived.Test.YtihojhfpepbjhaaGreatDoorV22
import Derived.BigQuiet
import Derived.Deep.Cut
import Derived.Deep.CutRange
import Derived.Deep.RegionLawGrows
import Derived.Test.YtihojhfpepbjhaaGreatDoorJ5
import Derived.Test.YtihojhfpepbjhaaGreatDoorV23
import Derived.RowKit
import Derived.Test.YtihojhfpepbjhaaGreatDoorV21
namespace Go.Proofs.YtihojhfpepbjhaaGreatDoor
open Go.RowKit

/-! Hands. -/
theorem caps_of : ∀ (h : List UInt8) (m : Int), Ord h → (∀ a ∈ h, m ≤ a.toNat ∧ capB a.toNat = true) → capsB m h = true
  | [], _, _, _ => rfl
  | a :: t, m, ho, hc => by
    obtain ⟨h1, h2⟩ := List.pairwise_cons.1 ho
    rw [capsB, Bool.and_eq_true, Bool.and_eq_true]
    refine ⟨⟨(hc a (by simp)).2, decide_eq_true (hc a (by simp)).1⟩, caps_of t a.toNat h2 (fun b hb => ⟨?_, (hc b (by simp [hb])).2⟩)⟩
    have := UInt8.le_iff_toNat_le.1 (h1 b hb)
    omega
theorem hand_of {h : List UInt8} (hl : h.length ≤ 8) (ho : Ord h) (hc : ∀ a ∈ h, capB a.toNat = true) : handB h = true := by
  unfold handB
  rw [Bool.and_eq_true]
  refine ⟨decide_eq_true hl, caps_of h 65 ho (fun a ha => ⟨?_, hc a ha⟩)⟩
  have := hc a ha
  simp only [capB, Bool.and_eq_true, decide_eq_true_eq] at this
  exact this.1
theorem insL_mem {c b : UInt8} : ∀ {h : List UInt8}, b ∈ insL h c → b = c ∨ b ∈ h
  | [], hb => by rw [insL_nil] at hb; simp at hb; exact .inl hb
  | a :: t, hb => by
    by_cases hac : a < c
    · rw [insL_lt hac] at hb
      rcases List.mem_cons.1 hb with rfl | hb
      · exact .inr (by simp)
      · rcases insL_mem hb with h | h
        · exact .inl h
        · exact .inr (by simp [h])
    · rw [insL_ge hac] at hb
      rcases List.mem_cons.1 hb with rfl | hb
      · exact .inl rfl
      · exact .inr hb
theorem insL_ord {c : UInt8} : ∀ {h : List UInt8}, Ord h → Ord (insL h c)
  | [], _ => by rw [insL_nil]; exact List.pairwise_singleton _ _
  | a :: t, ho => by
    obtain ⟨h1, h2⟩ := List.pairwise_cons.1 ho
    by_cases hac : a < c
    · rw [insL_lt hac]
      refine List.pairwise_cons.2 ⟨fun b hb => ?_, insL_ord h2⟩
      rcases insL_mem hb with rfl | hb
      · rw [UInt8.le_iff_toNat_le]; rw [UInt8.lt_iff_toNat_lt] at hac; omega
      · exact h1 b hb
    · rw [insL_ge hac]
      refine List.pairwise_cons.2 ⟨fun b hb => ?_, ho⟩
      have hca : c ≤ a := by rw [UInt8.le_iff_toNat_le]; rw [UInt8.lt_iff_toNat_lt] at hac; omega
      rcases List.mem_cons.1 hb with rfl | hb
      · exact hca
      · have := h1 b hb
        rw [UInt8.le_iff_toNat_le] at this hca ⊢
        omega
theorem insL_len (h : List UInt8) (c : UInt8) : (insL h c).length = h.length + 1 := by
  unfold insL
  have h1 := congrArg List.length (List.take_append_drop (placeN h c) h)
  rw [List.length_append] at h1
  rw [List.length_append, List.length_cons]
  omega
theorem without_sub (h : List UInt8) (c : UInt8) : (withoutL h c).Sublist h := by
  unfold withoutL
  split
  · exact List.Sublist.refl _
  · generalize (Lib.indexByte h c).toNat = k
    have h1 : (h.drop (k + 1)).Sublist (h.drop k) := by
      rw [← List.drop_drop]
      exact List.drop_sublist _ _
    have := (List.Sublist.refl (h.take k)).append h1
    rwa [List.take_append_drop] at this
/-- A hand of letters of the rules. -/
structure HandS (S : Nat) (h : List UInt8) : Prop where
  len : h.length ≤ 8
  ord : Ord h
  mem : ∀ a ∈ h, hasL S (a.toNat : Nat) = true
theorem HandS.sub {S : Nat} {h h' : List UInt8} (hh : HandS S h) (hs : h'.Sublist h) : HandS S h' :=
  ⟨Nat.le_trans hs.length_le hh.len, hh.ord.sublist hs, fun a ha => hh.mem a (hs.subset ha)⟩
theorem hasL_cap {S c : Nat} (h : hasL S (c : Nat) = true) : capB (c : Int) = true := by
  unfold hasL at h
  simp only [Bool.and_eq_true] at h
  exact h.1
theorem HandS.handB {S : Nat} {h : List UInt8} (hh : HandS S h) : handB h = true := hand_of hh.len hh.ord (fun a ha => hasL_cap (hh.mem a ha))
theorem behH_hand {S : Nat} {C h : List UInt8} {dr : Bool} {f : Int} {t : Nat} {c : UInt8} (hh : HandS S h) (hk : (cellsA C f)[t]! = 46 ∨ hasL S (upN ((cellsA C f)[t]!).toNat : Nat) = true) : HandS S (behH C h dr f t c) := by
  have h1 : HandS S (handA h f c) := by
    unfold handA
    split
    · exact hh.sub (without_sub h c)
    · exact hh
  unfold behH handB'
  split
  · rename_i h2
    have hk2 : hasL S (upN ((cellsA C f)[t]!).toNat : Nat) = true := by
      rcases hk with h | h
      · exact absurd h h2.1
      · exact h
    have h256 := (up_andNot _ (UInt8.toNat_lt (cellsA C f)[t]!)).2
    unfold withL
    split
    · exact h1
    · rename_i h8
      rw [isort_ins _ _ h1.ord]
      refine ⟨by rw [insL_len]; have := h1.len; omega, insL_ord h1.ord, fun a ha => ?_⟩
      rcases insL_mem ha with rfl | ha
      · rw [u8_back h256]; exact hk2
      · exact h1.mem a ha
  · exact h1

/-! Cells. -/
theorem cap_cell : ∀ c : Nat, c < 256 → capB (c : Int) = true → cellB (letN 0 c : Nat) = true ∧ cellB (letN 1 c : Nat) = true ∧ upN (letN 0 c) = c ∧ upN (letN 1 c) = c := by decide +kernel
theorem cap_let {T c : Nat} (hT : T ≤ 1) (hc : c < 256) (h : capB (c : Int) = true) : cellB (letN T c : Nat) = true ∧ upN (letN T c) = c := by
  obtain ⟨h1, h2, h3, h4⟩ := cap_cell c hc h
  rcases (by omega : T = 0 ∨ T = 1) with rfl | rfl
  · exact ⟨h1, h3⟩
  · exact ⟨h2, h4⟩
theorem beh_mem {C : List UInt8} {f : Int} {t : Nat} {x a : UInt8} (h : a ∈ behC C f t x) : a ∈ C ∨ a = 46 ∨ a = x := by
  unfold behC cellsA at h
  rcases List.mem_or_eq_of_mem_set h with h | h
  · split at h
    · exact .inl h
    · rcases List.mem_or_eq_of_mem_set h with h | h
      · exact .inl h
      · exact .inr (.inl h)
  · exact .inr (.inr h)
theorem cellsA_at {C : List UInt8} {f : Int} {t : Nat} (ht : t < C.length) : (cellsA C f)[t]! = 46 ∨ (cellsA C f)[t]! ∈ C := by
  have hl : t < (cellsA C f).length := by unfold cellsA; split <;> simpa using ht
  have hm : (cellsA C f)[t]! ∈ cellsA C f := by rw [getElem!_pos (cellsA C f) t hl]; exact List.getElem_mem hl
  generalize (cellsA C f)[t]! = a at *
  unfold cellsA at hm
  split at hm
  · exact .inr hm
  · rcases List.mem_or_eq_of_mem_set hm with h | h
    · exact .inr h
    · exact .inl h

/-- What comes behind a move is a position of the rules. -/
theorem at_beh {W0 H0 T0 : Int} {C0 A0 B0 : List UInt8} {ps : List Pc} {lo re : Nat} {li pl : Int} {p : Po} {dr : Bool} (h : atB W0 H0 C0 T0 A0 B0 ps lo li re pl p.W p.H p.C.data.toList p.T p.A.data.toList p.B.data.toList = true) {m : Mv} (hm : m ∈ movP ps dr lo li re p) :
    atB W0 H0 C0 T0 A0 B0 ps lo li re pl (behP dr p m).W (behP dr p m).H (behP dr p m).C.data.toList (behP dr p m).T (behP dr p m).A.data.toList (behP dr p m).B.data.toList = true := by
  obtain ⟨W', H', T', hf⟩ := at_facts h
  rw [hf.movs] at hm
  have hmv := mov_is hm
  obtain ⟨f1, f2, f3⟩ := hmv.facts
  have ht1 := hf.t1
  have hTn : p.T.toNat = T' := by rw [hf.t]; rfl
  unfold atB posB allL at h ⊢
  simp only [Bool.and_eq_true, decide_eq_true_eq] at h ⊢
  obtain ⟨⟨⟨⟨hr, ⟨⟨⟨⟨hw, hh⟩, hlen, hcs⟩, -⟩, hA⟩, hB⟩, hw0⟩, hh0⟩, ⟨hl1, hl2⟩, hl3⟩ := h
  generalize lettersS ps = S at *
  have hAS : HandS S p.A.data.toList := ⟨by rw [len_data]; exact hf.a, (hand_ord hA).1, fun a ha => List.all_eq_true.1 hl2 a ha⟩
  have hBS : HandS S p.B.data.toList := ⟨by rw [len_data]; exact hf.b, (hand_ord hB).1, fun a ha => List.all_eq_true.1 hl3 a ha⟩
  have hcl : ∀ a ∈ p.C.data.toList, a = 46 ∨ hasL S (upN a.toNat : Nat) = true := fun a ha => by
    have := List.all_eq_true.1 hl1 a ha
    unfold cellL at this
    simp only [Bool.or_eq_true, decide_eq_true_eq] at this
    rcases this with h | h
    · exact .inl (UInt8.toNat_inj.1 h)
    · exact .inr h
  have hget : ∀ i, i < p.C.size → ∃ a ∈ p.C.data.toList, a.toNat = cellN p.C i := fun i hi => by
    refine ⟨p.C.get! i, ?_, rfl⟩
    have hi' : i < p.C.data.size := hi
    have e1 : p.C.get! i = p.C.data[i] := by
      show p.C.data.get!Internal i = _
      exact getElem!_pos p.C.data i hi'
    rw [e1]
    exact Array.mem_toList_iff.2 (Array.getElem_mem hi')
  -- the letter of the piece that moves
  have hcS : hasL S (m.c : Nat) = true := by
    cases hmv with
    | drop h1 h2 h3 h4 h5 =>
      obtain ⟨a, ha, e⟩ := h5
      rw [e]
      unfold handOf at ha
      split at ha
      · exact hAS.mem a ha
      · exact hBS.mem a ha
    | go fr h1 h2 h3 h4 h5 h6 =>
      obtain ⟨a, ha, e⟩ := hget fr h2
      rw [h5, ← e]
      rcases hcl a ha with h | h
      · rw [← e, h] at h4
        simp [ownB] at h4
      · exact h
  have hcap := hasL_cap hcS
  obtain ⟨q1, q2⟩ := cap_let ht1 f3 hcap
  have hx : ((letN T' m.c).toUInt8).toNat = letN T' m.c := u8_back (letN_lt f3)
  have hk : (cellsA p.C.data.toList m.f)[m.t]! = 46 ∨ hasL S (upN ((cellsA p.C.data.toList m.f)[m.t]!).toNat : Nat) = true := by
    rcases cellsA_at (C := p.C.data.toList) (f := m.f) (t := m.t) (by rw [len_data]; exact f1) with h | h
    · exact .inl h
    · exact hcl _ h
  have hqA : HandS S (behP dr p m).A.data.toList := by
    unfold behP
    dsimp only
    split
    · exact behH_hand hAS hk
    · exact hAS
  have hqB : HandS S (behP dr p m).B.data.toList := by
    unfold behP
    dsimp only
    split
    · exact hBS
    · exact behH_hand hBS hk
  have hqC : ∀ a ∈ (behP dr p m).C.data.toList, a ∈ p.C.data.toList ∨ a = 46 ∨ a = (letN T' m.c).toUInt8 := fun a ha => by
    have : a ∈ behC p.C.data.toList m.f m.t (letN p.T.toNat m.c).toUInt8 := ha
    rw [hTn] at this
    exact beh_mem this
  refine ⟨⟨⟨⟨hr, ⟨⟨⟨⟨hw, hh⟩, ?_, ?_⟩, ?_⟩, hqA.handB⟩, hqB.handB⟩, hw0⟩, hh0⟩, ⟨?_, ?_⟩, ?_⟩
  · show ((behC p.C.data.toList m.f m.t (letN p.T.toNat m.c).toUInt8).length : Int) = p.W * p.H
    rw [behC_len]
    exact hlen
  · unfold cellsB at hcs ⊢
    rw [List.all_eq_true] at hcs ⊢
    intro a ha
    rcases hqC a ha with h | rfl | rfl
    · exact hcs a h
    · decide
    · rw [hx]; exact q1
  · show (decide (1 - p.T = 0) || decide (1 - p.T = 1)) = true
    rw [hf.t]
    simp only [Bool.or_eq_true, decide_eq_true_eq]
    omega
  · rw [List.all_eq_true]
    intro a ha
    rcases hqC a ha with h | rfl | rfl
    · exact List.all_eq_true.1 hl1 a h
    · simp [cellL]
    · unfold cellL; rw [hx, q2, hcS]; simp
  · rw [List.all_eq_true]; exact hqA.mem
  · rw [List.all_eq_true]; exact hqB.mem
end Go.Proofs.YtihojhfpepbjhaaGreatDoor

namespace Go.Proofs.YtihojhfpepbjhaaGreatDoor
open Go.RowKit
attribute [local go_sem ↓] Go.wp_at_zero Go.wp_at_succ

theorem isPb.frozen' {w : World} {b : Nat} {W H T : Int} {C A B : ByteArray} (h : isPb w b W H T C A B) (k : Nat) : w.frozen? ⟨b, k, none⟩ = false := frozen_of_row w b k _ _ h
set_option maxHeartbeats 4000000 in
set_option maxRecDepth 100000 in
theorem Apply_go (W0 H0 T0 : Int) (C0 A0 B0 : ByteArray) (ao : Option Addr) (cap : Nat) (ps : List Pc) (dr st : Bool) (lo re : Nat) (li pl : Int) (W H T : Int) (C A B : ByteArray) (f t : Int) (c : Nat) (Q0 Q1 Q3 : Int) (Q2 Q4 Q5 : ByteArray) (w : World)
    (hck : ∀ u, Below w.heap.size w u → Calls Tryz.prog 144 #[.agg #[.int .i64 W0, .int .i64 H0, .string C0, .int .i64 T0, .string A0, .string B0, .slice ao ps.length cap, .bool dr, .int .u8 (lo : Int), .int .i64 li, .int .u8 (re : Int), .bool st, .int .i64 pl], .agg #[.int .i64 W, .int .i64 H, .string C, .int .i64 T, .string A, .string B], .agg #[.int .i64 f, .int .i64 t, .int .u8 (c : Int)]] u fun e w' => e = .returned (.int .i64 0) ∧ Below u.heap.size u w')
    (hbe : ∀ u, Below w.heap.size w u → Calls Tryz.prog 145 #[.agg #[.int .i64 W0, .int .i64 H0, .string C0, .int .i64 T0, .string A0, .string B0, .slice ao ps.length cap, .bool dr, .int .u8 (lo : Int), .int .i64 li, .int .u8 (re : Int), .bool st, .int .i64 pl], .agg #[.int .i64 W, .int .i64 H, .string C, .int .i64 T, .string A, .string B], .agg #[.int .i64 f, .int .i64 t, .int .u8 (c : Int)]] u fun e w' => e = .returned (.agg #[.int .i64 Q0, .int .i64 Q1, .string Q2, .int .i64 Q3, .string Q4, .string Q5]) ∧ Below u.heap.size u w') :
    Calls Tryz.prog 105 #[.agg #[.int .i64 W0, .int .i64 H0, .string C0, .int .i64 T0, .string A0, .string B0, .slice ao ps.length cap, .bool dr, .int .u8 (lo : Int), .int .i64 li, .int .u8 (re : Int), .bool st, .int .i64 pl], .agg #[.int .i64 W, .int .i64 H, .string C, .int .i64 T, .string A, .string B], .agg #[.int .i64 f, .int .i64 t, .int .u8 (c : Int)]] w fun e w' => e = .returned (.tuple #[.agg #[.int .i64 Q0, .int .i64 Q1, .string Q2, .int .i64 Q3, .string Q4, .string Q5], .int .i64 0]) ∧ Below w.heap.size w w' := by
  obtain ⟨n, hn⟩ : ∃ n, n = ps.length := ⟨_, rfl⟩
  obtain ⟨w1, hw1⟩ : ∃ w1, w1 = w.alloc (.cells #[.int .i64 W0, .int .i64 H0, .string C0, .int .i64 T0, .string A0, .string B0, .slice ao n cap, .bool dr, .int .u8 (lo : Int), .int .i64 li, .int .u8 (re : Int), .bool st, .int .i64 pl] 27 (0, 0)) := ⟨_, rfl⟩
  obtain ⟨w2, hw2⟩ : ∃ w2, w2 = w1.alloc (.cells #[.int .i64 W, .int .i64 H, .string C, .int .i64 T, .string A, .string B] 24 (0, 0)) := ⟨_, rfl⟩
  obtain ⟨w3, hw3⟩ : ∃ w3, w3 = w2.alloc (.cells #[.int .i64 f, .int .i64 t, .int .u8 (c : Int)] 61 (0, 0)) := ⟨_, rfl⟩
  obtain ⟨wz, hwz⟩ : ∃ wz, wz = w3.alloc (.cells #[.int .i64 0, .int .i64 0, .string ⟨#[]⟩, .int .i64 0, .string ⟨#[]⟩, .string ⟨#[]⟩] 24 (0, 0)) := ⟨_, rfl⟩
  have hbz : Below w3.heap.size w3 wz := by rw [hwz]; exact (Below.refl _ _).alloc (Nat.le_refl _) _
  have hb1 : Below w.heap.size w w1 := by rw [hw1]; exact (Below.refl _ _).alloc (Nat.le_refl _) _
  have hb2 : Below w1.heap.size w1 w2 := by rw [hw2]; exact (Below.refl _ _).alloc (Nat.le_refl _) _
  have hb3 : Below w2.heap.size w2 w3 := by rw [hw3]; exact (Below.refl _ _).alloc (Nat.le_refl _) _
  have s1 : w1.heap.size = w.heap.size + 1 := by rw [hw1]; simp
  have s2 : w2.heap.size = w.heap.size + 1 + 1 := by rw [hw2]; simp [s1]
  have hru : isRu w3 w.heap.size (.int .i64 W0) (.int .i64 H0) (.string C0) (.int .i64 T0) (.string A0) (.string B0) (.slice ao n cap) (.bool dr) (.int .u8 (lo : Int)) (.int .i64 li) (.int .u8 (re : Int)) (.bool st) (.int .i64 pl) := isRu.below (isRu.below (show isRu w1 w.heap.size (.int .i64 W0) (.int .i64 H0) (.string C0) (.int .i64 T0) (.string A0) (.string B0) (.slice ao n cap) (.bool dr) (.int .u8 (lo : Int)) (.int .i64 li) (.int .u8 (re : Int)) (.bool st) (.int .i64 pl) by rw [hw1]; exact heap_alloc_new w _) hb2 (by omega)) hb3 (by omega)
  have hpb : isPb w3 (w.heap.size + 1) W H T C A B := isPb.below (show isPb w2 (w.heap.size + 1) W H T C A B by rw [hw2, ← s1]; exact heap_alloc_new w1 _) hb3 (by omega)
  have hmb : isMb w3 (w.heap.size + 1 + 1) f t c := by rw [hw3, ← s2]; exact heap_alloc_new w2 _
  have hbw := (hb1.trans (hb2.mono (show w.heap.size ≤ w1.heap.size by omega))).trans (hb3.mono (show w.heap.size ≤ w2.heap.size by omega))
  have s3 : w3.heap.size = w.heap.size + 1 + 1 + 1 := by rw [hw3]; simp [s2]
  have hzb : isPb wz (w.heap.size + 1 + 1 + 1) 0 0 0 ⟨#[]⟩ ⟨#[]⟩ ⟨#[]⟩ := by rw [hwz, ← s3]; exact heap_alloc_new w3 _
  have hbwz := hbw.trans (hbz.mono (show w.heap.size ≤ w3.heap.size by omega))
  have HBW := hide hbwz
  have HPB := hide (hpb.below hbz (by omega))
  have HRU := hide (hru.below hbz (by omega))
  have HMB := hide (hmb.below hbz (by omega))
  have HZB := hide hzb
  have HWZ := hide hwz
  have HW1 := hide hw1
  have HW2 := hide hw2
  have HW3 := hide hw3
  have HK := hide (hck wz hbwz)
  have HBE := hide hbe
  rw [← hn] at HK HBE ⊢
  clear hck hbe hw1 hw2 hw3 hwz hb1 hb2 hb3 hbz s1 s2 s3 hru hpb hmb hzb hbw hbwz hn
  go_enter Tryz.func105, Tryz.ntmps105
  go_wp2_with fail
  rw [← unhide HW1, ← unhide HW2, ← unhide HW3, ← unhide HWZ]
  refine (unhide HK).mono ?_
  rintro e u ⟨rfl, hb1⟩
  have hPn := (unhide HPB).below hb1 (unhide HPB).lt
  have hRn := (unhide HRU).below hb1 (unhide HRU).lt
  have hMn := (unhide HMB).below hb1 (unhide HMB).lt
  have hZn := (unhide HZB).below hb1 (unhide HZB).lt
  have hBn := (unhide HBW).trans (hb1.mono (unhide HBW).size)
  have HBE1 := hide (unhide HBE u hBn)
  have HZB' := hide hZn
  have HB := hide hBn
  obtain ⟨p0, p1, p2, p3, p4, p5⟩ := hPn.all
  obtain ⟨r0, r1, r2, r3, r4, r5, r6, r7, r8, r9, r10, r11, r12⟩ := hRn.cells
  obtain ⟨m0, m1, m2⟩ := hMn.all
  clear HPB HRU HMB HZB HBW HW1 HW2 HW3 HWZ hb1 HK HBE hPn hRn hMn hZn hBn
  go_wp2_with fail
  refine (unhide HBE1).mono ?_
  rintro e v ⟨rfl, hb1⟩
  have hz := (unhide HZB').below hb1 (unhide HZB').lt
  have HBV := hide ((unhide HB).trans (hb1.mono (unhide HB).size))
  clear HZB' HB hb1 HBE1 p0 p1 p2 p3 p4 p5 r0 r1 r2 r3 r4 r5 r6 r7 r8 r9 r10 r11 r12 m0 m1 m2
  obtain ⟨e0, e1, e2, e3, e4, e5⟩ := hz.all
  have z0 := hz.frozen' 0
  have z1 := hz.frozen' 1
  have z2 := hz.frozen' 2
  have z3 := hz.frozen' 3
  have z4 := hz.frozen' 4
  have z5 := hz.frozen' 5
  clear hz
  go_wp2
  refine bodyPost_ret (v := .tuple #[.agg #[.int .i64 Q0, .int .i64 Q1, .string Q2, .int .i64 Q3, .string Q4, .string Q5], .int .i64 0]) (by simp [results, Tryz.results105, go_sem, e0, e1, e2, e3, e4, e5]) rfl ⟨rfl, ?_⟩
  exact below_set6 (by omega) (unhide HBV)
end Go.Proofs.YtihojhfpepbjhaaGreatDoor

namespace Go.Proofs.YtihojhfpepbjhaaGreatDoor
open Go.RowKit
attribute [local go_sem ↓] Go.wp_at_zero Go.wp_at_succ

end Go.Proofs.YtihojhfpepbjhaaGreatDoor

namespace Go.Proofs.YtihojhfpepbjhaaGreatDoor
open Go.RowKit
attribute [local go_sem ↓] Go.wp_at_zero Go.wp_at_succ

/-- What stays while Made goes on: its five boxes. -/
structure Fr (w0 : World) (v0 v1 v2 v3 v4 v5 v6 v7 v8 v9 v10 v11 v12 : Value) (W H T : Nat) (C A B : ByteArray) (f t : Int) (c : Nat) (w : World) : Prop where
  ru : isRu w w0.heap.size v0 v1 v2 v3 v4 v5 v6 v7 v8 v9 v10 v11 v12
  pb : isPb w (w0.heap.size + 1) W H T C A B
  mb : isMb w (w0.heap.size + 1 + 1) f t c
  zb : isPb w (w0.heap.size + 1 + 1 + 1) 0 0 0 ⟨#[]⟩ ⟨#[]⟩ ⟨#[]⟩
  qb : isPb w (w0.heap.size + 1 + 1 + 1 + 1) W H T C A B
  bw : Below w0.heap.size w0 w
theorem Fr.below {w0 : World} {v0 v1 v2 v3 v4 v5 v6 v7 v8 v9 v10 v11 v12 : Value} {W H T : Nat} {C A B : ByteArray} {f t : Int} {c : Nat} {w w' : World} (h : Fr w0 v0 v1 v2 v3 v4 v5 v6 v7 v8 v9 v10 v11 v12 W H T C A B f t c w) (hb : Below w.heap.size w w') : Fr w0 v0 v1 v2 v3 v4 v5 v6 v7 v8 v9 v10 v11 v12 W H T C A B f t c w' :=
  ⟨h.ru.below hb h.ru.lt, h.pb.below hb h.pb.lt, h.mb.below hb h.mb.lt, h.zb.below hb h.zb.lt, h.qb.below hb h.qb.lt, h.bw.trans (hb.mono h.bw.size)⟩
theorem isPb.set2 {w : World} {b : Nat} {W H T : Int} {C A B : ByteArray} (h : isPb w b W H T C A B) (X : ByteArray) : isPb (w.setCell ⟨b, 2, none⟩ (.string X)) b W H T X A B := by
  unfold isPb at h ⊢; rw [setCell_eq_setRow w b 2 _ _ _ _ h]; exact setRow_heap w b _ _ _ _ h
end Go.Proofs.YtihojhfpepbjhaaGreatDoor

namespace Go.Proofs.YtihojhfpepbjhaaGreatDoor

end Go.Proofs.YtihojhfpepbjhaaGreatDoor

namespace Go.Proofs.YtihojhfpepbjhaaGreatDoor
open Go.RowKit

end Go.Proofs.YtihojhfpepbjhaaGreatDoor

namespace Go.Proofs.YtihojhfpepbjhaaGreatDoor
open Go.RowKit
attribute [local go_sem ↓] Go.wp_at_zero Go.wp_at_succ

end Go.Proofs.YtihojhfpepbjhaaGreatDoor

namespace Go.Proofs.YtihojhfpepbjhaaGreatDoor
open Go.RowKit
attribute [local go_sem ↓] Go.wp_at_zero Go.wp_at_succ

end Go.Proofs.YtihojhfpepbjhaaGreatDoor

namespace Go.Proofs.YtihojhfpepbjhaaGreatDoor
open Go.RowKit

end Go.Proofs.YtihojhfpepbjhaaGreatDoor

namespace Go.Proofs.YtihojhfpepbjhaaGreatDoor

end Go.Proofs.YtihojhfpepbjhaaGreatDoor

namespace Go.Proofs.YtihojhfpepbjhaaGreatDoor

section
variable {α : Type} (nx : α → List α) (wn : α → Bool)
variable {nx wn} {turn : α → Bool}
end
end Go.Proofs.YtihojhfpepbjhaaGreatDoor

namespace Go.Proofs.YtihojhfpepbjhaaGreatDoor

section
variable {α : Type} {nx : α → List α} {wn turn : α → Bool} {ok : α → Prop}
end
end Go.Proofs.YtihojhfpepbjhaaGreatDoor

namespace Go.Proofs.YtihojhfpepbjhaaGreatDoor
open Go.RowKit

/-- The outcome of a position. -/
def outP (ps : List Pc) (dr st : Bool) (lo : Nat) (li : Int) (re : Nat) (p : Po) : Int := outO p.W.toNat p.H.toNat p.T.toNat p.C p.A p.B ps dr st lo li re
theorem AtF.out {ps : List Pc} {dr st : Bool} {lo : Nat} {li : Int} {re : Nat} {p : Po} {W' H' T' : Nat} (h : AtF ps p.W p.H p.T p.C p.A p.B W' H' T') : outP ps dr st lo li re p = outO W' H' T' p.C p.A p.B ps dr st lo li re := by
  unfold outP
  rw [h.w, h.h, h.t]
  rfl
/-- A position of the rules. -/
def OkP (W0 H0 T0 : Int) (C0 A0 B0 : List UInt8) (ps : List Pc) (lo re : Nat) (li pl : Int) (p : Po) : Prop := atB W0 H0 C0 T0 A0 B0 ps lo li re pl p.W p.H p.C.data.toList p.T p.A.data.toList p.B.data.toList = true
end Go.Proofs.YtihojhfpepbjhaaGreatDoor

namespace Go.Proofs.YtihojhfpepbjhaaGreatDoor
open Go.RowKit
attribute [local go_sem ↓] Go.wp_at_zero Go.wp_at_succ

theorem infoU8 : (Tryz.prog.info? 5).map (fun i => (i.zero, i.size, i.bytes)) = some (some (.int .u8 0), 1, 1) := by kernel_rfl
theorem own_low8 {w : World} {base e size : Nat} {v : Value} {n : Nat} {xs : List Value} (h : w.ownsRow base e size v n xs) : ∀ k, v.ownBlock = some k → base ≤ k := fun k hk => (h.lt k hk).1
theorem row_slice8 {w : World} {base : Nat} {e : TypeId} {size n : Nat} {v : Value} {xs : List Value} (h : w.ownsRow base e size v n xs) : ∃ uo uc, v = .slice uo n uc := by
  rcases h.2 with ⟨h1, h2⟩ | ⟨g, cap, cur, h1, -⟩
  · exact ⟨none, 0, by rw [h1, h2]⟩
  · exact ⟨_, _, h1⟩
theorem own_conv {w : World} {base n : Nat} {uo : Option Addr} {uc : Nat} {l : List UInt8} (h : w.ownsRow base 5 1 (.slice uo n uc) n (bvals l)) (hl : l.length = n) (hn : 0 < n) : (convert 127 9 (.slice uo n uc)).run Tryz.prog w = .ok (.string ⟨l.toArray⟩) w := by
  rcases h.2 with ⟨h1, h2⟩ | ⟨g, cap, cur, h1, -, hg, -, -, -, ht⟩
  · omega
  · cases h1
    refine RowB.conv (l := l) ⟨cur, (0, 0), hg, .inl rfl, ?_⟩ (hide hl)
    rw [hl, ← ht, Nat.mul_one]

theorem step_append8 {P : Program} {ops : Array Oper} {o : Oper} {a : Act} {w : World} {K : Act → World → Prop} {Q : Exit → Act → World → Prop} {E : Prop}
    (hg : o.guard = none) (s x : Operand) (t : TypeId) (hop : o.op = Op.call { callee := Callee.builtin Builtin.append, args := #[s, x], argTypes := #[t, t] })
    (base : Nat) (e : TypeId) (i : TypeInfo) (z : Value) (size bytes : Nat) (h1 : P.underlying t = some (.slice e)) (h2 : P.info? e = some i) (h3 : i.zero = some z) (h4 : i.size = size) (h5 : i.bytes = bytes) (h6 : z.cells.size = size) (h7 : 0 < size)
    (v : Value) (n : Nat) (xs : List Value) (hs : a.eval s = v) (hown : w.ownsRow base e size v n xs)
    (ad : Addr) (m c : Nat) (news : List Value) (hx : a.eval x = .slice (some ad) m c) (hn : news.length = m * size) (hc : ∀ j u, news[j]? = some u → w.cell? (ad.add j) = some u) (h1c : ∀ u ∈ news, u.oneCell' = true)
    (b1 : n + m ≤ maxLen) (b2 : (n + m) * bytes ≤ 140737488355328) (hbase : base ≤ w.heap.size)
    (hK : ∀ v' w', w'.ownsRow base e size v' (n + m) (xs ++ news) → w.grownBy w' v.ownBlock → K (a.put o.dst v') w') :
    if Region.wanted o (yielded ops a.tmps) = true then Oper.wp P o a w K Q else E := by
  have hw : Region.wanted o (yielded ops a.tmps) = true := by simp [Region.wanted, hg]
  rw [if_pos hw]
  obtain ⟨v', w', hrun, r1, r2, _⟩ := run_append_own (P := P) w base t o.type e i z size bytes h1 h2 h3 h4 h5 h6 h7 v n xs hown ad m c news hn hc h1c b1 b2 hbase
  unfold Oper.wp
  simp [execOp, hop, resolve, invoke, builtin, hs, hx, hrun, Result.andThen]
  exact hK v' w' r1 r2
/-- The two bytes of a cell. -/
def cellT (W i : Nat) : List UInt8 := [UInt8.ofNat (97 + i % W), UInt8.ofNat (49 + i / W)]
set_option maxHeartbeats 2000000 in
set_option maxRecDepth 100000 in
theorem appendCell_any (uo : Option Addr) (n uc base : Nat) (l : List UInt8) (W : Nat) (H T : Int) (C A B : ByteArray) (i : Nat) (w : World) (h : w.ownsRow base 5 1 (.slice uo n uc) n (bvals l)) (hn : n ≤ 10) (hb : base ≤ w.heap.size) (hW : 1 ≤ W ∧ W ≤ 8) (hi64 : i < 64) :
    Calls Tryz.prog 174 #[.slice uo n uc, .agg #[.int .i64 (W : Int), .int .i64 H, .string C, .int .i64 T, .string A, .string B], .int .i64 (i : Int)] w fun e w' => ∃ vo vc, e = .returned (.slice vo (n + 2) vc) ∧ w'.ownsRow base 5 1 (.slice vo (n + 2) vc) (n + 2) (bvals (l ++ cellT W i)) ∧ Below base w w' := by
  have et : ((i : Int)).tmod (W : Int) = ((i % W : Nat) : Int) := by rw [Int.tmod_eq_emod_of_nonneg (by omega)]; rfl
  have eq : ((i : Int)).tdiv (W : Int) = ((i / W : Nat) : Int) := by rw [Int.tdiv_eq_ediv_of_nonneg (by omega)]; rfl
  have hx : i % W < W := Nat.mod_lt _ (by omega)
  have hy : i / W ≤ 63 := Nat.le_trans (Nat.div_le_self _ _) (by omega)
  have hW0 : ¬ (W : Int) = 0 := by omega
  have hWn : ¬ W = 0 := by omega
  have hWb : ((W : Int) == 0) = false := by simp; omega
  have hW1 : ((W : Int) == -1) = false := by simp
  have hcell : bvals (l ++ cellT W i) = bvals l ++ [.int .u8 ((97 + i % W : Nat) : Int), .int .u8 ((49 + i / W : Nat) : Int)] := by
    have h1 : (UInt8.ofNat (97 + i % W)).toNat = 97 + i % W := Nat.mod_eq_of_lt (by omega)
    have h2 : (UInt8.ofNat (49 + i / W)).toNat = 49 + i / W := Nat.mod_eq_of_lt (by generalize i / W = y at hy; omega)
    unfold cellT bvals
    rw [List.map_append, List.map_cons, List.map_cons, List.map_nil, h1, h2]
  generalize i % W = x at *
  generalize i / W = y at *
  obtain ⟨a, ha⟩ : ∃ a, a = 97 + x := ⟨_, rfl⟩
  obtain ⟨b, hbb⟩ : ∃ b, b = 49 + y := ⟨_, rfl⟩
  rw [← ha, ← hbb] at hcell
  have ea : 97 + (x : Int) = (a : Int) := by omega
  have eb : 49 + (y : Int) = (b : Int) := by omega
  have wa : IntKind.u8.wrap (a : Int) = (a : Int) := by unfold IntKind.wrap; simp [IntKind.signed, IntKind.bits]; omega
  have wb : IntKind.u8.wrap (b : Int) = (b : Int) := by unfold IntKind.wrap; simp [IntKind.signed, IntKind.bits]; omega
  have wx : IntKind.u8.wrap (x : Int) = (x : Int) := by unfold IntKind.wrap; simp [IntKind.signed, IntKind.bits]; omega
  have wy : IntKind.u8.wrap (y : Int) = (y : Int) := by unfold IntKind.wrap; simp [IntKind.signed, IntKind.bits]; omega
  have wy64 : IntKind.i64.wrap (y : Int) = (y : Int) := by unfold IntKind.wrap; simp [IntKind.signed, IntKind.bits]; omega
  obtain ⟨w1, hw1⟩ : ∃ w1, w1 = w.alloc (.cells #[.int .i64 (W : Int), .int .i64 H, .string C, .int .i64 T, .string A, .string B] 24 (0, 0)) := ⟨_, rfl⟩
  have hb1 : Below w.heap.size w w1 := by rw [hw1]; exact (Below.refl _ _).alloc (Nat.le_refl _) _
  have hpb : isPb w1 w.heap.size W H T C A B := by rw [hw1]; exact heap_alloc_new w _
  have s1 : w1.heap.size = w.heap.size + 1 := by rw [hw1]; simp
  have ho1 : w1.ownsRow base 5 1 (.slice uo n uc) n (bvals l) := own_below h hb1
  obtain ⟨p0, p1, p2, p3, p4, p5⟩ := hpb.all
  obtain ⟨i0, hi, hz0, hz1, hz2⟩ := info_parts infoU8
  have HROW : Hid (∀ o, (w1.alloc o).drew.ownsRow base 5 1 (.slice uo n uc) n (bvals l)) := hide fun o => (ho1.alloc o)
  have HC1 : Hid (∀ (j : Nat) (u : Value), [Value.int .u8 (a : Int), .int .u8 (b : Int)][j]? = some u → (w1.alloc (.cells #[.int .u8 (a : Int), .int .u8 (b : Int)] 5 (0, 0))).drew.cell? ((⟨w1.heap.size, 0, none⟩ : Addr).add j) = some u) := by
    refine hide fun j u hj => ?_
    have hx := heap_alloc_new w1 (.cells #[.int .u8 (a : Int), .int .u8 (b : Int)] 5 (0, 0))
    match j, hj with
    | 0, hj => simp only [List.getElem?_cons_zero, Option.some.injEq] at hj; subst hj; exact cell_of_row _ _ _ _ _ _ hx
    | 1, hj => simp only [List.getElem?_cons_succ, List.getElem?_cons_zero, Option.some.injEq] at hj; subst hj; exact cell_of_row _ _ _ _ _ _ hx
  have HC2 : Hid (∀ u ∈ [Value.int .u8 (a : Int), .int .u8 (b : Int)], u.oneCell' = true) := hide fun u hu => by
    simp only [List.mem_cons, List.not_mem_nil, or_false] at hu
    rcases hu with rfl | rfl <;> rfl
  have HC3 : Hid (n + 2 ≤ maxLen) := hide (by unfold maxLen; omega)
  have HC4 : Hid ((n + 2) * 1 ≤ 140737488355328) := hide (by omega)
  have HC5 : Hid (∀ o, base ≤ (w1.alloc o).drew.heap.size) := hide fun o => by show base ≤ (w1.alloc o).heap.size; simp; omega
  have HFIN : Hid (∀ o v' w9, w9.ownsRow base 5 1 v' (n + 2) (bvals l ++ [Value.int .u8 (a : Int), .int .u8 (b : Int)]) → (w1.alloc o).drew.grownBy w9 (Value.slice uo n uc).ownBlock → Below base w w9) := hide fun o v' w9 hown9 hgrow => by
    have hgrow' : (w1.alloc o).grownBy w9 (Value.slice uo n uc).ownBlock := ⟨hgrow.os, hgrow.tape, hgrow.output, hgrow.size, hgrow.block⟩
    exact ((hb1.mono hb).alloc (by omega) o).grown hgrow' (by simp; omega) (own_low8 h)
  have HW1 := hide hw1
  have HCELL := hide hcell
  clear hb1 hpb s1 ho1 hw1 hcell ha hbb h
  go_enter Tryz.func174, Tryz.ntmps174
  go_upto_region 1 with fail
  rw [← unhide HW1]
  go_region_law (refine step_append8 rfl (.tmp 7) (.tmp 20) 127 rfl base 5 i0 _ 1 1 Tryz.underlying127 hi hz0 hz1 hz2 rfl (by decide) (.slice uo n uc) n (bvals l) (by simp [Act.eval]) (unhide HROW _) ⟨w1.heap.size, 0, none⟩ 2 2 [.int .u8 (a : Int), .int .u8 (b : Int)] (by simp [Act.eval]) rfl (unhide HC1) (unhide HC2) (unhide HC3) (unhide HC4) (unhide HC5 _) ?_; intro v' w9 hown9 hgrow9; have HB9 := hide (unhide HFIN _ v' w9 hown9 hgrow9); obtain ⟨vo, vc, rfl⟩ := row_slice8 hown9; have HO9 := hide hown9; clear hown9 hgrow9)
  all_goals
    go_wp2
    go_ret
    exact ⟨vo, vc, rfl, by rw [unhide HCELL]; exact unhide HO9, unhide HB9⟩
end Go.Proofs.YtihojhfpepbjhaaGreatDoor
