/-
  The document's answer on rules (package gameref), walked: line, of any text.
  The document's answer on rules (package gameref), walked: piece, letters.
-/
import Derived.Test.YtfhmpgjemobjhaaGreatDoorS13
import Derived.Test.YtfhmpgjemobjhaaGreatDoorR6
import Derived.Test.YtfhmpgjemobjhaaGreatDoorJ28
import Derived.Deep.RegionHeld3
namespace Go.Proofs.YtfhmpgjemobjhaaGreatDoor
open Go.RowKit

theorem pre_no (s : List UInt8) (h : (Lib.cut s [32]).1 ≠ wStart ∨ (Lib.cut s [32]).2.2 = false) : ([115, 116, 97, 114, 116, 32] : List UInt8).isPrefixOf s = false := by
  rw [Bool.eq_false_iff, ne_eq, List.isPrefixOf_iff_prefix]
  rintro ⟨t, ht⟩
  have e : Lib.cut s [32] = (wStart, t, true) := by
    rw [← ht]
    exact cut_hit 32 [] wStart t (by decide)
  rw [e] at h
  simp at h
theorem lineB_cut (x : Rl) (s a b : List UInt8) (f : Bool) (hc : Lib.cut s [32] = (a, b, f)) : lineB x s =
    if lineOf a = 1 then
      match posF b with
      | (some (W, H, C, T, A, B), n) => if n = b.length then some { x with W := W, H := H, C := C, T := T, A := A, B := B } else .none
      | _ => .none
    else if lineOf a = 2 then (pieceF b).map fun p => { x with ps := x.ps ++ [p] }
    else if lineOf a = 3 then if f then .none else some { x with dr := true }
    else if lineOf a = 4 then (letterOf b).map fun c => { x with lo := c }
    else if lineOf a = 5 then (numOf b).bind fun n => if 0 < n then some { x with li := n } else .none
    else if lineOf a = 6 then (letterOf b).map fun c => { x with re := c }
    else if lineOf a = 7 then if f then .none else some { x with st := true }
    else if lineOf a = 8 then (numOf b).map fun n => { x with pl := n }
    else .none := by
  unfold lineB
  rw [hc]
  rfl
theorem lineOf_zero (a : List UInt8) (h : lineOf a = 0) : a ≠ wStart ∧ a ≠ wPiece ∧ a ≠ wDrops ∧ a ≠ wLose ∧ a ≠ wLine ∧ a ≠ wReach ∧ a ≠ wStuck ∧ a ≠ wPlies := by
  refine ⟨?_, ?_, ?_, ?_, ?_, ?_, ?_, ?_⟩ <;> (rintro rfl; exact absurd h (by decide))
theorem one_word (b p1 : List UInt8) (hp : (spl 32 b).head? = some p1) (h : (spl 32 b).length = 1) : p1 = b := by
  rcases cut32 b with ⟨a, c, -, -, -, e⟩ | ⟨-, -, e⟩
  · rw [e, List.length_cons] at h
    have := List.length_pos_iff.2 (spl_ne 32 c)
    omega
  · rw [e] at hp
    simpa using hp.symm
theorem has_blank (l : List UInt8) (a b : List UInt8) (h : l = a ++ 32 :: b) (t : List UInt8) (ht : (32 : UInt8) ∉ t) : l ≠ t := by
  rintro rfl
  exact ht (by rw [h]; simp)
theorem lineB_short (x : Rl) (s : List UInt8) (hc : Lib.cut s [32] = (s, [], false)) (h3 : lineOf s ≠ 3) (h7 : lineOf s ≠ 7) : lineB x s = none := by
  rw [lineB_cut x s s [] false hc, if_neg h3, if_neg h7]
  have e1 : (match posF [] with
      | (some (W, H, C, T, A, B), n) => if n = ([] : List UInt8).length then some ({ x with W := W, H := H, C := C, T := T, A := A, B := B } : Rl) else .none
      | _ => .none) = none := by
    split
    · rename_i W H C T A B n hp
      have hf : (posF []).1 = none := rfl
      rw [hp] at hf
      cases hf
    · rfl
  have e2 : pieceF [] = none := pieceF_no [] (fun c r h => by cases h)
  have e3 : letterOf [] = none := rfl
  rw [e1, e2, e3, numOf_nil]
  simp

theorem gLine_any (g : Nat) (x : Rl) (s : ByteArray) (m : Int) (w : World) (hg : GS w g x) (hs : s.size < 2000000) (hm : w.cell? ⟨0, 0, none⟩ = some (.int .i64 m)) (ht : isTab w) (hps : x.ps.length ≤ 2000000) :
    Calls Tryz.prog 20 #[.pointer (some ⟨g, 0, none⟩), .string s] w fun e w' => LineG x s g w e w' := by
  have hgl : g ≤ w.heap.size := Nat.le_of_lt hg.lt
  have none_of : ∀ (p0 p1 : List UInt8) (q : List (List UInt8)), lineB x s.data.toList = none → spl 32 s.data.toList = p0 :: q → (q.head? = some p1 ∨ q = []) → ([115, 116, 97, 114, 116, 32] : List UInt8).isPrefixOf s.data.toList = false → s.data.toList ≠ wDrops → s.data.toList ≠ wStuck →
      (2 ≤ q.length → p0 = wPiece → letterOf p1 = none) → (q.length = 1 → (p0 = wLose ∨ p0 = wReach) → letterOf p1 = none) → (q.length = 1 → p0 = wLine → cntI p1 ≤ 0) → (q.length = 1 → p0 = wPlies → cntI p1 < 0) →
      Calls Tryz.prog 20 #[.pointer (some ⟨g, 0, none⟩), .string s] w fun e w' => LineG x s g w e w' := by
    intro p0 p1 q hB h1 h2 h3 h4 h5 h6 h7 h8 h9
    refine (gLine_none g s m w hs hm ht p0 p1 q h1 h2 h3 h4 h5 h6 h7 h8 h9).mono ?_
    rintro e w' ⟨rfl, hb⟩
    exact ⟨Or.inr ⟨hB, rfl⟩, hb.mono hgl⟩
  have yes_of : ∀ (x' : Rl) (r : Int), lineB x s.data.toList = some x' → r = (lineOf (Lib.cut s.data.toList [32]).1 : Int) - 1 → (Calls Tryz.prog 20 #[.pointer (some ⟨g, 0, none⟩), .string s] w fun e w' => LineY g x' r w e w') → Calls Tryz.prog 20 #[.pointer (some ⟨g, 0, none⟩), .string s] w fun e w' => LineG x s g w e w' := by
    intro x' r hB hr hC
    refine hC.mono ?_
    rintro e w' ⟨rfl, h1, h2⟩
    exact ⟨Or.inl ⟨x', hB, by rw [hr], h1⟩, h2⟩
  rcases cut32 s.data.toList with ⟨a, b, hsd, ha, hc, hsp⟩ | ⟨hnb, hc, hsp⟩
  · have hB := lineB_cut x s.data.toList a b true hc
    obtain ⟨p1, hp1⟩ : ∃ p1, (spl 32 b).head? = some p1 := by
      match h : spl 32 b, spl_ne 32 b with
      | y :: t, _ => exact ⟨y, rfl⟩
    have hnd : s.data.toList ≠ wDrops := has_blank _ a b hsd _ (by decide)
    have hns : s.data.toList ≠ wStuck := has_blank _ a b hsd _ (by decide)
    have hpr : a ≠ wStart → ([115, 116, 97, 114, 116, 32] : List UInt8).isPrefixOf s.data.toList = false := fun h => pre_no _ (Or.inl (by rw [hc]; exact h))
    rcases lineOf_w a with h0 | ⟨h0, hw⟩ | ⟨h0, hw⟩ | ⟨h0, hw⟩ | ⟨h0, hw⟩ | ⟨h0, hw⟩ | ⟨h0, hw⟩ | ⟨h0, hw⟩ | ⟨h0, hw⟩
    · obtain ⟨n1, n2, n3, n4, n5, n6, n7, n8⟩ := lineOf_zero a h0
      refine none_of a p1 _ (by rw [hB, h0]; simp) hsp (Or.inl hp1) (hpr n1) hnd hns (fun _ e => absurd e n2) (fun _ e => e.elim (fun e => absurd e n4) (fun e => absurd e n6)) (fun _ e => absurd e n5) (fun _ e => absurd e n8)
    · subst hw
      refine (gLine_start g x s m w hg hs hm b hsd).mono ?_
      rintro e w' ⟨h1, h2⟩
      rw [if_pos h0] at hB
      rcases h1 with ⟨y, hy, rfl, hgs⟩ | ⟨hno, rfl⟩
      · obtain ⟨W, H, C, T, A, B⟩ := y
        rw [hy] at hB
        simp only [if_true] at hB
        exact ⟨Or.inl ⟨_, hB, by rw [hc, h0]; rfl, hgs⟩, h2⟩
      · refine ⟨Or.inr ⟨?_, rfl⟩, h2⟩
        rw [hB]
        split
        · rename_i W H C T A B n hp
          rw [if_neg]
          intro hn
          exact hno (W, H, C, T, A, B) (by rw [hp, hn])
        · rfl
    · subst hw
      rw [if_neg (by rw [h0]; decide), if_pos h0] at hB
      by_cases hb : ∃ c r2, b = c :: 32 :: r2 ∧ capB (c.toNat : Nat) = true
      · obtain ⟨c, r2, rfl, hcap⟩ := hb
        refine (gLine_piece g x s m w hg hs hm ht c hcap r2 hsd hps).mono ?_
        rintro e w' ⟨h1, h2⟩
        rcases h1 with ⟨p, hp, rfl, hgs⟩ | ⟨hp, rfl⟩
        · rw [hp] at hB
          exact ⟨Or.inl ⟨_, hB, by rw [hc, h0]; rfl, hgs⟩, h2⟩
        · rw [hp] at hB
          exact ⟨Or.inr ⟨hB, rfl⟩, h2⟩
      · have hpn : pieceF b = none := pieceF_no b (fun c r2 e => by
          cases hcp : capB (c.toNat : Nat) with
          | false => rfl
          | true => exact absurd ⟨c, r2, e, hcp⟩ hb)
        rw [hpn] at hB
        refine none_of _ p1 _ hB hsp (Or.inl hp1) (hpr (by decide)) hnd hns (fun hl _ => ?_) (fun _ e => absurd e (by decide)) (fun _ e => absurd e (by decide)) (fun _ e => absurd e (by decide))
        rcases cut32 b with ⟨b1, b2, he, -, -, e⟩ | ⟨-, -, e⟩
        · rw [e] at hp1
          simp only [List.head?_cons, Option.some.injEq] at hp1
          subst hp1
          cases hlt : letterOf b1 with
          | none => rfl
          | some c =>
            obtain ⟨e1, hcp⟩ := letterOf_some _ _ hlt
            exact absurd ⟨c, b2, by rw [he, e1]; rfl, hcp⟩ hb
        · rw [e] at hl
          simp at hl
    · subst hw
      refine none_of _ p1 _ (by rw [hB, h0]; simp) hsp (Or.inl hp1) (hpr (by decide)) hnd hns (fun _ e => absurd e (by decide)) (fun _ e => absurd e (by decide)) (fun _ e => absurd e (by decide)) (fun _ e => absurd e (by decide))
    · subst hw
      cases hlt : letterOf b with
      | none =>
        refine none_of _ p1 _ (by rw [hB, h0, hlt]; simp) hsp (Or.inl hp1) (hpr (by decide)) hnd hns (fun _ e => absurd e (by decide)) (fun hl _ => by rw [one_word b p1 hp1 hl]; exact hlt) (fun _ e => absurd e (by decide)) (fun _ e => absurd e (by decide))
      | some c =>
        obtain ⟨e1, hcp⟩ := letterOf_some _ _ hlt
        exact yes_of _ 3 (by rw [hB, h0, hlt]; rfl) (by rw [hc, h0]; rfl) (gLine_lose g x s m w hg hs hm c hcp (by rw [hsd, e1]))
    · subst hw
      cases hnm : numOf b with
      | none =>
        refine none_of _ p1 _ (by rw [hB, h0, hnm]; rfl) hsp (Or.inl hp1) (hpr (by decide)) hnd hns (fun _ e => absurd e (by decide)) (fun _ e => absurd e (by decide)) (fun hl _ => by rw [one_word b p1 hp1 hl]; unfold cntI; rw [hnm]; decide) (fun _ e => absurd e (by decide))
      | some n =>
        by_cases hn : 0 < n
        · exact yes_of { x with li := n } 4 (by rw [hB, h0, hnm]; simp [hn]) (by rw [hc, h0]; rfl) (gLine_line g x s m w hg hs hm ht b n hnm hn hsd)
        · refine none_of _ p1 _ (by rw [hB, h0, hnm]; simp [hn]) hsp (Or.inl hp1) (hpr (by decide)) hnd hns (fun _ e => absurd e (by decide)) (fun _ e => absurd e (by decide)) (fun hl _ => by rw [one_word b p1 hp1 hl]; unfold cntI; rw [hnm]; show ((n : Nat) : Int) ≤ 0; omega) (fun _ e => absurd e (by decide))
    · subst hw
      cases hlt : letterOf b with
      | none =>
        refine none_of _ p1 _ (by rw [hB, h0, hlt]; simp) hsp (Or.inl hp1) (hpr (by decide)) hnd hns (fun _ e => absurd e (by decide)) (fun hl _ => by rw [one_word b p1 hp1 hl]; exact hlt) (fun _ e => absurd e (by decide)) (fun _ e => absurd e (by decide))
      | some c =>
        obtain ⟨e1, hcp⟩ := letterOf_some _ _ hlt
        exact yes_of _ 5 (by rw [hB, h0, hlt]; rfl) (by rw [hc, h0]; rfl) (gLine_reach g x s m w hg hs hm c hcp (by rw [hsd, e1]))
    · subst hw
      refine none_of _ p1 _ (by rw [hB, h0]; simp) hsp (Or.inl hp1) (hpr (by decide)) hnd hns (fun _ e => absurd e (by decide)) (fun _ e => absurd e (by decide)) (fun _ e => absurd e (by decide)) (fun _ e => absurd e (by decide))
    · subst hw
      cases hnm : numOf b with
      | none =>
        refine none_of _ p1 _ (by rw [hB, h0, hnm]; rfl) hsp (Or.inl hp1) (hpr (by decide)) hnd hns (fun _ e => absurd e (by decide)) (fun _ e => absurd e (by decide)) (fun _ e => absurd e (by decide)) (fun hl _ => by rw [one_word b p1 hp1 hl]; unfold cntI; rw [hnm]; decide)
      | some n =>
        exact yes_of { x with pl := n } 7 (by rw [hB, h0, hnm]; rfl) (by rw [hc, h0]; rfl) (gLine_plies g x s m w hg hs hm ht b n hnm hsd)
  · by_cases h3 : lineOf s.data.toList = 3
    · have hw : s.data.toList = wDrops := by
        rcases lineOf_w s.data.toList with h0 | ⟨h0, hw⟩ | ⟨h0, hw⟩ | ⟨h0, hw⟩ | ⟨h0, hw⟩ | ⟨h0, hw⟩ | ⟨h0, hw⟩ | ⟨h0, hw⟩ | ⟨h0, hw⟩
        all_goals first | exact hw | omega
      exact yes_of _ 2 (by rw [lineB_cut x _ _ _ _ hc, h3]; rfl) (by rw [hc, h3]; rfl) (gLine_drops g x s m w hg hs hm hw)
    · by_cases h7 : lineOf s.data.toList = 7
      · have hw : s.data.toList = wStuck := by
          rcases lineOf_w s.data.toList with h0 | ⟨h0, hw⟩ | ⟨h0, hw⟩ | ⟨h0, hw⟩ | ⟨h0, hw⟩ | ⟨h0, hw⟩ | ⟨h0, hw⟩ | ⟨h0, hw⟩ | ⟨h0, hw⟩
          all_goals first | (exfalso; omega) | exact hw
        exact yes_of _ 6 (by rw [lineB_cut x _ _ _ _ hc, h7]; rfl) (by rw [hc, h7]; rfl) (gLine_stuck g x s m w hg hs hm hw)
      · refine none_of _ [] [] (lineB_short x _ hc h3 h7) hsp (Or.inr rfl) (pre_no _ (Or.inr (by rw [hc]))) ?_ ?_ (fun h => by simp at h) (fun h => by simp at h) (fun h => by simp at h) (fun h => by simp at h)
        · intro e; rw [e] at h3; exact h3 (by decide)
        · intro e; rw [e] at h7; exact h7 (by decide)
end Go.Proofs.YtfhmpgjemobjhaaGreatDoor

namespace Go.Proofs.YtfhmpgjemobjhaaGreatDoor
open Go.RowKit
attribute [local go_sem ↓] Go.wp_at_zero Go.wp_at_succ

/-- The first piece with that letter, counted from i; -1: none. -/
def idxF : List Pc → Nat → Nat → Int
  | [], _, _ => -1
  | p :: t, c, i => if p.l = c then (i : Nat) else idxF t c (i + 1)
def lowN (c : Nat) : Nat := if 97 ≤ c ∧ c ≤ 122 then c - 32 else c


set_option maxHeartbeats 1000000 in
set_option maxRecDepth 100000 in
theorem gPiece_any (W H T : Int) (C A B : ByteArray) (ao : Option Addr) (cap : Nat) (ps : List Pc) (dr st : Bool) (lo re : Nat) (li pl : Int) (c : Nat) (w : World) (hc : c < 256) (h : isPcs w ao cap ps) :
    Calls Tryz.prog 23 #[.agg #[.int .i64 W, .int .i64 H, .string C, .int .i64 T, .string A, .string B, .slice ao ps.length cap, .bool dr, .int .u8 (lo : Int), .int .i64 li, .int .u8 (re : Int), .bool st, .int .i64 pl], .int .u8 (c : Int)] w fun e w' => e = .returned (.int .i64 (idxF ps (lowN c) 0)) ∧ Below w.heap.size w w' := by
  have hle := h.le
  have hmx := h.mx
  unfold maxLen at hmx
  obtain ⟨n, hn⟩ : ∃ n, n = ps.length := ⟨_, rfl⟩
  obtain ⟨R, hR⟩ : ∃ R, R = idxF ps (lowN c) 0 := ⟨_, rfl⟩
  rw [← hR, ← hn]
  rw [← hn] at hle
  have HN := hide hn
  have HP := hide h
  obtain ⟨wa, hwa⟩ : ∃ wa, wa = w.alloc (.cells #[.int .i64 W, .int .i64 H, .string C, .int .i64 T, .string A, .string B, .slice ao n cap, .bool dr, .int .u8 (lo : Int), .int .i64 li, .int .u8 (re : Int), .bool st, .int .i64 pl] 27 (0, 0)) := ⟨_, rfl⟩
  have hba : Below w.heap.size w wa := by rw [hwa]; exact (Below.refl _ w).alloc (Nat.le_refl _) _
  have hbox : isRu wa w.heap.size (.int .i64 W) (.int .i64 H) (.string C) (.int .i64 T) (.string A) (.string B) (.slice ao n cap) (.bool dr) (.int .u8 (lo : Int)) (.int .i64 li) (.int .u8 (re : Int)) (.bool st) (.int .i64 pl) := by rw [hwa]; exact heap_alloc_new w _
  have c6 := hbox.cells.2.2.2.2.2.2.1
  have HWA := hide hwa
  have HBA := hide hba
  clear hn h hwa hba hbox
  cases hsm : smallB (c : Int) with
  | true =>
    have hcs : 97 ≤ c ∧ c ≤ 122 := by
      simp only [smallB, Bool.and_eq_true, decide_eq_true_eq] at hsm
      omega
    obtain ⟨d, hd⟩ : ∃ d, d = lowN c := ⟨_, rfl⟩
    have hdc : (c : Int) - 32 = (d : Int) := by
      rw [hd, lowN, if_pos hcs]; omega
    have hdw : IntKind.u8.wrap (d : Int) = (d : Int) := by simp [IntKind.wrap, IntKind.signed, IntKind.bits]; omega
    rw [← hd] at hR
    have HR := hide hR
    have HSM := hide hsm
    clear hR hd hsm
    go_enter Tryz.func23, Tryz.ntmps23
    go_wp2_with fail
    refine (Small_any _ _).mono ?_
    rintro e w1 ⟨rfl, rfl⟩
    rw [unhide HSM]
    go_wp2
    rw [← unhide HWA]
    go_loopw [5] (fun iv wr => ∃ k : Nat, k ≤ n ∧ iv = .int .i64 (k : Int) ∧ Hid (idxF (ps.drop k) d k = R) ∧ wr = wa) (fun iv _ => n - (intOf iv).toNat)
    case atStart => exact ⟨0, Nat.zero_le _, rfl, hide (unhide HR).symm, rfl⟩
    case round =>
      obtain ⟨k, hk, rfl, HK, rfl⟩ := hrel
      by_cases hkl : k < n
      · have hki : (k : Int) < (n : Int) := by omega
        have hk0 : (0 : Int) ≤ (k : Int) := by omega
        have hkw : k < ps.length := by rw [← unhide HN]; exact hkl
        obtain ⟨p, hp⟩ : ∃ p, ps[k]? = some p := ⟨ps[k], List.getElem?_eq_getElem hkw⟩
        obtain ⟨g, off, eg, hg, hcc⟩ := (unhide HP).cells (by rintro rfl; simp at hkw)
        subst eg
        obtain ⟨hl, wo, wc, e0, -⟩ := hcc k p hp
        have e0 := ((unhide HBA).cell (p := ⟨g, off + k * 3, none⟩) hg).trans e0
        have hK := unhide HK
        rw [dropP ps k p hp, idxF] at hK
        by_cases hpl : p.l = d
        · rw [if_pos hpl] at hK
          subst hpl
          have HK2 := hide hK
          clear hK hcc HK
          go_wp2
          go_ret
          exact ⟨ret_int (unhide HK2), unhide HBA⟩
        · rw [if_neg hpl] at hK
          have hpi : ¬ (p.l : Int) = (d : Int) := by omega
          have hpb : ((p.l : Int) == (d : Int)) = false := by simp; omega
          have HK2 := hide hK
          clear hK hcc HK hpl
          go_wp2
          go_roundw
          case rel => exact ⟨k + 1, by omega, by go_num, HK2, trivial⟩
          case measure => simp [intOf]; omega
      · have hki : ¬ (k : Int) < (n : Int) := by omega
        have hK := unhide HK
        rw [List.drop_eq_nil_of_le (by rw [← unhide HN]; omega), idxF] at hK
        have HK2 := hide hK
        clear hK HK
        go_wp2
        go_ret
        exact ⟨ret_int (unhide HK2), unhide HBA⟩
  | false =>
    have hcs : ¬ (97 ≤ c ∧ c ≤ 122) := by
      simp only [smallB, Bool.and_eq_false_iff, decide_eq_false_iff_not] at hsm
      omega
    obtain ⟨d, hd⟩ : ∃ d, d = c := ⟨_, rfl⟩
    rw [lowN, if_neg hcs, ← hd] at hR
    rw [← hd] at hsm ⊢
    have HR := hide hR
    have HSM := hide hsm
    clear hR hsm hcs hd
    go_enter Tryz.func23, Tryz.ntmps23
    go_wp2_with fail
    refine (Small_any _ _).mono ?_
    rintro e w1 ⟨rfl, rfl⟩
    rw [unhide HSM]
    go_wp2
    rw [← unhide HWA]
    go_loopw [5] (fun iv wr => ∃ k : Nat, k ≤ n ∧ iv = .int .i64 (k : Int) ∧ Hid (idxF (ps.drop k) d k = R) ∧ wr = wa) (fun iv _ => n - (intOf iv).toNat)
    case atStart => exact ⟨0, Nat.zero_le _, rfl, hide (unhide HR).symm, rfl⟩
    case round =>
      obtain ⟨k, hk, rfl, HK, rfl⟩ := hrel
      by_cases hkl : k < n
      · have hki : (k : Int) < (n : Int) := by omega
        have hk0 : (0 : Int) ≤ (k : Int) := by omega
        have hkw : k < ps.length := by rw [← unhide HN]; exact hkl
        obtain ⟨p, hp⟩ : ∃ p, ps[k]? = some p := ⟨ps[k], List.getElem?_eq_getElem hkw⟩
        obtain ⟨g, off, eg, hg, hcc⟩ := (unhide HP).cells (by rintro rfl; simp at hkw)
        subst eg
        obtain ⟨hl, wo, wc, e0, -⟩ := hcc k p hp
        have e0 := ((unhide HBA).cell (p := ⟨g, off + k * 3, none⟩) hg).trans e0
        have hK := unhide HK
        rw [dropP ps k p hp, idxF] at hK
        by_cases hpl : p.l = d
        · rw [if_pos hpl] at hK
          subst hpl
          have HK2 := hide hK
          clear hK hcc HK
          go_wp2
          go_ret
          exact ⟨ret_int (unhide HK2), unhide HBA⟩
        · rw [if_neg hpl] at hK
          have hpi : ¬ (p.l : Int) = (d : Int) := by omega
          have hpb : ((p.l : Int) == (d : Int)) = false := by simp; omega
          have HK2 := hide hK
          clear hK hcc HK hpl
          go_wp2
          go_roundw
          case rel => exact ⟨k + 1, by omega, by go_num, HK2, trivial⟩
          case measure => simp [intOf]; omega
      · have hki : ¬ (k : Int) < (n : Int) := by omega
        have hK := unhide HK
        rw [List.drop_eq_nil_of_le (by rw [← unhide HN]; omega), idxF] at hK
        have HK2 := hide hK
        clear hK HK
        go_wp2
        go_ret
        exact ⟨ret_int (unhide HK2), unhide HBA⟩

/-- A letter of a board or a hand: is there a piece with it? -/
def hasP (ps : List Pc) (c : UInt8) : Bool := decide (c.toNat = 46) || decide (0 ≤ idxF ps (lowN c.toNat) 0)

set_option maxHeartbeats 1000000 in
set_option maxRecDepth 100000 in
theorem gLetters_any (W H T : Int) (C A B : ByteArray) (ao : Option Addr) (cap : Nat) (ps : List Pc) (dr st : Bool) (lo re : Nat) (li pl : Int) (s : ByteArray) (w : World) (hs : s.size ≤ 1000) (h : isPcs w ao cap ps) :
    Calls Tryz.prog 24 #[.agg #[.int .i64 W, .int .i64 H, .string C, .int .i64 T, .string A, .string B, .slice ao ps.length cap, .bool dr, .int .u8 (lo : Int), .int .i64 li, .int .u8 (re : Int), .bool st, .int .i64 pl], .string s] w fun e w' => e = .returned (.bool (s.data.toList.all (hasP ps))) ∧ Below w.heap.size w w' := by
  obtain ⟨R, hR⟩ : ∃ R, R = s.data.toList.all (hasP ps) := ⟨_, rfl⟩
  rw [← hR]
  obtain ⟨wa, hwa⟩ : ∃ wa, wa = w.alloc (.cells #[.int .i64 W, .int .i64 H, .string C, .int .i64 T, .string A, .string B, .slice ao ps.length cap, .bool dr, .int .u8 (lo : Int), .int .i64 li, .int .u8 (re : Int), .bool st, .int .i64 pl] 27 (0, 0)) := ⟨_, rfl⟩
  have hba : Below w.heap.size w wa := by rw [hwa]; exact (Below.refl _ w).alloc (Nat.le_refl _) _
  have hbox : isRu wa w.heap.size (.int .i64 W) (.int .i64 H) (.string C) (.int .i64 T) (.string A) (.string B) (.slice ao ps.length cap) (.bool dr) (.int .u8 (lo : Int)) (.int .i64 li) (.int .u8 (re : Int)) (.bool st) (.int .i64 pl) := by rw [hwa]; exact heap_alloc_new w _
  have HWA := hide hwa
  have HBA := hide hba
  have HP := hide h
  have HR := hide hR
  have HBX := hide hbox
  clear h hwa hba hbox hR
  go_enter Tryz.func24, Tryz.ntmps24
  go_wp2
  rw [← unhide HWA]
  go_loopw [5] (fun iv wr => ∃ k : Nat, k ≤ s.size ∧ iv = .int .i64 (k : Int) ∧ Hid ((s.data.toList.take k).all (hasP ps) = true) ∧ Below wa.heap.size wa wr) (fun iv _ => s.size - (intOf iv).toNat)
  case atStart => exact ⟨0, Nat.zero_le _, rfl, hide rfl, Below.refl _ _⟩
  case round =>
    obtain ⟨k, hk, rfl, HK, hbr⟩ := hrel
    have hlt := (unhide HBX).lt
    have hszr := hbr.size
    by_cases hkl : k < s.size
    · have hki : (k : Int) < (s.size : Int) := by omega
      have hk0 : (0 : Int) ≤ (k : Int) := by omega
      have h256 : s[k].toNat < 256 := s[k].toNat_lt
      have HSN := hide (all_snoc (hasP ps) s k hkl)
      have HNO := hide (all_no (hasP ps) s k hkl)
      by_cases h46 : s[k].toNat = 46
      · have h46i : (s[k].toNat : Int) = 46 := by omega
        have hnew : (s.data.toList.take (k + 1)).all (hasP ps) = true := by
          rw [unhide HSN, unhide HK]
          simp [hasP, h46]
        have HNEW := hide hnew
        have hb0 : ((s[k].toNat : Int) != 46) = false := by simp; omega
        have hd0 : decide (s[k].toNat = 46) = true := decide_eq_true h46
        clear hnew
        go_wp2
        go_quiet (fail)
        go_wp2
        go_roundw
        case rel => exact ⟨k + 1, by omega, by go_num, HNEW, below_drewN hbr _⟩
        case measure => simp [intOf]; omega
      · have h46i : ¬ (s[k].toNat : Int) = 46 := by omega
        have hb1 : ((s[k].toNat : Int) != 46) = true := by simp; omega
        obtain ⟨d0, d1, d2, d3, d4, d5, d6, d7, d8, d9, d10, d11, d12⟩ := ((unhide HBX).below hbr hlt).cells
        have hpw : isPcs wr ao cap ps := (unhide HP).below ((unhide HBA).trans (hbr.mono (unhide HBA).size)) (Nat.le_refl _)
        obtain ⟨I, hI⟩ : ∃ I, I = idxF ps (lowN s[k].toNat) 0 := ⟨_, rfl⟩
        have HPC : Hid (Calls Tryz.prog 23 #[.agg #[.int .i64 W, .int .i64 H, .string C, .int .i64 T, .string A, .string B, .slice ao ps.length cap, .bool dr, .int .u8 (lo : Int), .int .i64 li, .int .u8 (re : Int), .bool st, .int .i64 pl], .int .u8 (s[k].toNat : Int)] wr.drew fun e w' => e = .returned (.int .i64 I) ∧ Below wr.heap.size wr w') := by
          rw [hI]
          refine hide ((gPiece_any W H T C A B ao cap ps dr st lo re li pl s[k].toNat wr.drew h256 (hpw.below (show Below wr.heap.size wr wr.drew from (Below.refl _ _).drew) (Nat.le_refl _))).mono ?_)
          rintro e w' ⟨rfl, hb⟩
          exact ⟨rfl, ((Below.refl wr.heap.size wr).drew).trans hb⟩
        have HI : Hid (hasP ps s[k] = decide (0 ≤ I)) := by
          refine hide ?_
          rw [hI]
          simp [hasP, h46]
        clear hI hpw
        cases hIb : decide (0 ≤ I) with
        | true =>
          have hI0 : ¬ I < 0 := by have := of_decide_eq_true hIb; omega
          have hnew : (s.data.toList.take (k + 1)).all (hasP ps) = true := by
            rw [unhide HSN, unhide HK, unhide HI, hIb]; rfl
          have HNEW := hide hnew
          clear hnew hIb
          go_wp2
          go_region_with (first | (go_at_call 23; (with_reducible refine (unhide HPC).mono ?_); rintro e wp ⟨rfl, hbp⟩))
          all_goals (
            have hbf : Below wa.heap.size wa wp := hbr.trans (hbp.mono hszr)
            clear hbp
            go_wp2
            go_roundw
            case rel => exact ⟨k + 1, by omega, by go_num, HNEW, hbf⟩
            case measure => simp [intOf]; omega)
        | false =>
          have hI0 : I < 0 := by have := of_decide_eq_false hIb; omega
          have hff : R = false := by rw [unhide HR]; exact unhide HNO (by rw [unhide HI, hIb])
          have HFF := hide hff
          clear hff hIb
          go_wp2
          go_region_with (first | (go_at_call 23; (with_reducible refine (unhide HPC).mono ?_); rintro e wp ⟨rfl, hbp⟩))
          all_goals (
            have hbf : Below w.heap.size w wp := (unhide HBA).trans ((hbr.trans (hbp.mono hszr)).mono (unhide HBA).size)
            clear hbp
            go_wp2
            go_ret
            exact ⟨ret_bool (unhide HFF).symm, hbf⟩)
    · obtain rfl : k = s.size := by omega
      have hki : ¬ (s.size : Int) < (s.size : Int) := by omega
      have hall : R = true := by
        have := unhide HK
        rw [take_all s s.size (Nat.le_refl _)] at this
        rw [unhide HR, this]
      have HALL := hide hall
      have hbf : Below w.heap.size w wr := (unhide HBA).trans (hbr.mono (unhide HBA).size)
      clear hall
      go_wp2
      go_ret
      exact ⟨ret_bool (unhide HALL).symm, hbf⟩
end Go.Proofs.YtfhmpgjemobjhaaGreatDoor
