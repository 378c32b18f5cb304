/-
  The document's answer on rules (package gameref), walked: piece, letters.
  Plain mathematics: a letter put into a hand in order; what the moves of a list are; what is behind them.
-/
import Derived.Test.YtihojhfpepbjhaaGreatDoorJ5
import Derived.Test.YtihojhfpepbjhaaGreatDoorJ14
import Derived.Deep.RegionHeld3
import Derived.Test.YtihojhfpepbjhaaGreatDoorV22
import Derived.Test.YtihojhfpepbjhaaGreatDoorJ10
namespace Go.Proofs.YtihojhfpepbjhaaGreatDoor
open Go.RowKit
attribute [local go_sem ↓] Go.wp_at_zero Go.wp_at_succ

/-- The first piece with that letter, counted from i; -1: none. -/
def idxF : List Pc → Nat → Nat → Int
  | [], _, _ => -1
  | p :: t, c, i => if p.l = c then (i : Nat) else idxF t c (i + 1)
def lowN (c : Nat) : Nat := if 97 ≤ c ∧ c ≤ 122 then c - 32 else c


set_option maxHeartbeats 1000000 in
set_option maxRecDepth 100000 in
theorem gPiece_any (W H T : Int) (C A B : ByteArray) (ao : Option Addr) (cap : Nat) (ps : List Pc) (dr st : Bool) (lo re : Nat) (li pl : Int) (c : Nat) (w : World) (hc : c < 256) (h : isPcs w ao cap ps) :
    Calls Tryz.prog 32 #[.agg #[.int .i64 W, .int .i64 H, .string C, .int .i64 T, .string A, .string B, .slice ao ps.length cap, .bool dr, .int .u8 (lo : Int), .int .i64 li, .int .u8 (re : Int), .bool st, .int .i64 pl], .int .u8 (c : Int)] w fun e w' => e = .returned (.int .i64 (idxF ps (lowN c) 0)) ∧ Below w.heap.size w w' := by
  have hle := h.le
  have hmx := h.mx
  unfold maxLen at hmx
  obtain ⟨n, hn⟩ : ∃ n, n = ps.length := ⟨_, rfl⟩
  obtain ⟨R, hR⟩ : ∃ R, R = idxF ps (lowN c) 0 := ⟨_, rfl⟩
  rw [← hR, ← hn]
  rw [← hn] at hle
  have HN := hide hn
  have HP := hide h
  obtain ⟨wa, hwa⟩ : ∃ wa, wa = w.alloc (.cells #[.int .i64 W, .int .i64 H, .string C, .int .i64 T, .string A, .string B, .slice ao n cap, .bool dr, .int .u8 (lo : Int), .int .i64 li, .int .u8 (re : Int), .bool st, .int .i64 pl] 27 (0, 0)) := ⟨_, rfl⟩
  have hba : Below w.heap.size w wa := by rw [hwa]; exact (Below.refl _ w).alloc (Nat.le_refl _) _
  have hbox : isRu wa w.heap.size (.int .i64 W) (.int .i64 H) (.string C) (.int .i64 T) (.string A) (.string B) (.slice ao n cap) (.bool dr) (.int .u8 (lo : Int)) (.int .i64 li) (.int .u8 (re : Int)) (.bool st) (.int .i64 pl) := by rw [hwa]; exact heap_alloc_new w _
  have c6 := hbox.cells.2.2.2.2.2.2.1
  have HWA := hide hwa
  have HBA := hide hba
  clear hn h hwa hba hbox
  cases hsm : smallB (c : Int) with
  | true =>
    have hcs : 97 ≤ c ∧ c ≤ 122 := by
      simp only [smallB, Bool.and_eq_true, decide_eq_true_eq] at hsm
      omega
    obtain ⟨d, hd⟩ : ∃ d, d = lowN c := ⟨_, rfl⟩
    have hdc : (c : Int) - 32 = (d : Int) := by
      rw [hd, lowN, if_pos hcs]; omega
    have hdw : IntKind.u8.wrap (d : Int) = (d : Int) := by simp [IntKind.wrap, IntKind.signed, IntKind.bits]; omega
    rw [← hd] at hR
    have HR := hide hR
    have HSM := hide hsm
    clear hR hd hsm
    go_enter Tryz.func32, Tryz.ntmps32
    go_wp2_with fail
    refine (Small_any _ _).mono ?_
    rintro e w1 ⟨rfl, rfl⟩
    rw [unhide HSM]
    go_wp2
    rw [← unhide HWA]
    go_loopw [5] (fun iv wr => ∃ k : Nat, k ≤ n ∧ iv = .int .i64 (k : Int) ∧ Hid (idxF (ps.drop k) d k = R) ∧ wr = wa) (fun iv _ => n - (intOf iv).toNat)
    case atStart => exact ⟨0, Nat.zero_le _, rfl, hide (unhide HR).symm, rfl⟩
    case round =>
      obtain ⟨k, hk, rfl, HK, rfl⟩ := hrel
      by_cases hkl : k < n
      · have hki : (k : Int) < (n : Int) := by omega
        have hk0 : (0 : Int) ≤ (k : Int) := by omega
        have hkw : k < ps.length := by rw [← unhide HN]; exact hkl
        obtain ⟨p, hp⟩ : ∃ p, ps[k]? = some p := ⟨ps[k], List.getElem?_eq_getElem hkw⟩
        obtain ⟨g, off, eg, hg, hcc⟩ := (unhide HP).cells (by rintro rfl; simp at hkw)
        subst eg
        obtain ⟨hl, wo, wc, e0, -⟩ := hcc k p hp
        have e0 := ((unhide HBA).cell (p := ⟨g, off + k * 3, none⟩) hg).trans e0
        have hK := unhide HK
        rw [dropP ps k p hp, idxF] at hK
        by_cases hpl : p.l = d
        · rw [if_pos hpl] at hK
          subst hpl
          have HK2 := hide hK
          clear hK hcc HK
          go_wp2
          go_ret
          exact ⟨ret_int (unhide HK2), unhide HBA⟩
        · rw [if_neg hpl] at hK
          have hpi : ¬ (p.l : Int) = (d : Int) := by omega
          have hpb : ((p.l : Int) == (d : Int)) = false := by simp; omega
          have HK2 := hide hK
          clear hK hcc HK hpl
          go_wp2
          go_roundw
          case rel => exact ⟨k + 1, by omega, by go_num, HK2, trivial⟩
          case measure => simp [intOf]; omega
      · have hki : ¬ (k : Int) < (n : Int) := by omega
        have hK := unhide HK
        rw [List.drop_eq_nil_of_le (by rw [← unhide HN]; omega), idxF] at hK
        have HK2 := hide hK
        clear hK HK
        go_wp2
        go_ret
        exact ⟨ret_int (unhide HK2), unhide HBA⟩
  | false =>
    have hcs : ¬ (97 ≤ c ∧ c ≤ 122) := by
      simp only [smallB, Bool.and_eq_false_iff, decide_eq_false_iff_not] at hsm
      omega
    obtain ⟨d, hd⟩ : ∃ d, d = c := ⟨_, rfl⟩
    rw [lowN, if_neg hcs, ← hd] at hR
    rw [← hd] at hsm ⊢
    have HR := hide hR
    have HSM := hide hsm
    clear hR hsm hcs hd
    go_enter Tryz.func32, Tryz.ntmps32
    go_wp2_with fail
    refine (Small_any _ _).mono ?_
    rintro e w1 ⟨rfl, rfl⟩
    rw [unhide HSM]
    go_wp2
    rw [← unhide HWA]
    go_loopw [5] (fun iv wr => ∃ k : Nat, k ≤ n ∧ iv = .int .i64 (k : Int) ∧ Hid (idxF (ps.drop k) d k = R) ∧ wr = wa) (fun iv _ => n - (intOf iv).toNat)
    case atStart => exact ⟨0, Nat.zero_le _, rfl, hide (unhide HR).symm, rfl⟩
    case round =>
      obtain ⟨k, hk, rfl, HK, rfl⟩ := hrel
      by_cases hkl : k < n
      · have hki : (k : Int) < (n : Int) := by omega
        have hk0 : (0 : Int) ≤ (k : Int) := by omega
        have hkw : k < ps.length := by rw [← unhide HN]; exact hkl
        obtain ⟨p, hp⟩ : ∃ p, ps[k]? = some p := ⟨ps[k], List.getElem?_eq_getElem hkw⟩
        obtain ⟨g, off, eg, hg, hcc⟩ := (unhide HP).cells (by rintro rfl; simp at hkw)
        subst eg
        obtain ⟨hl, wo, wc, e0, -⟩ := hcc k p hp
        have e0 := ((unhide HBA).cell (p := ⟨g, off + k * 3, none⟩) hg).trans e0
        have hK := unhide HK
        rw [dropP ps k p hp, idxF] at hK
        by_cases hpl : p.l = d
        · rw [if_pos hpl] at hK
          subst hpl
          have HK2 := hide hK
          clear hK hcc HK
          go_wp2
          go_ret
          exact ⟨ret_int (unhide HK2), unhide HBA⟩
        · rw [if_neg hpl] at hK
          have hpi : ¬ (p.l : Int) = (d : Int) := by omega
          have hpb : ((p.l : Int) == (d : Int)) = false := by simp; omega
          have HK2 := hide hK
          clear hK hcc HK hpl
          go_wp2
          go_roundw
          case rel => exact ⟨k + 1, by omega, by go_num, HK2, trivial⟩
          case measure => simp [intOf]; omega
      · have hki : ¬ (k : Int) < (n : Int) := by omega
        have hK := unhide HK
        rw [List.drop_eq_nil_of_le (by rw [← unhide HN]; omega), idxF] at hK
        have HK2 := hide hK
        clear hK HK
        go_wp2
        go_ret
        exact ⟨ret_int (unhide HK2), unhide HBA⟩

/-- A letter of a board or a hand: is there a piece with it? -/
def hasP (ps : List Pc) (c : UInt8) : Bool := decide (c.toNat = 46) || decide (0 ≤ idxF ps (lowN c.toNat) 0)

set_option maxHeartbeats 1000000 in
set_option maxRecDepth 100000 in
theorem gLetters_any (W H T : Int) (C A B : ByteArray) (ao : Option Addr) (cap : Nat) (ps : List Pc) (dr st : Bool) (lo re : Nat) (li pl : Int) (s : ByteArray) (w : World) (hs : s.size ≤ 1000) (h : isPcs w ao cap ps) :
    Calls Tryz.prog 33 #[.agg #[.int .i64 W, .int .i64 H, .string C, .int .i64 T, .string A, .string B, .slice ao ps.length cap, .bool dr, .int .u8 (lo : Int), .int .i64 li, .int .u8 (re : Int), .bool st, .int .i64 pl], .string s] w fun e w' => e = .returned (.bool (s.data.toList.all (hasP ps))) ∧ Below w.heap.size w w' := by
  obtain ⟨R, hR⟩ : ∃ R, R = s.data.toList.all (hasP ps) := ⟨_, rfl⟩
  rw [← hR]
  obtain ⟨wa, hwa⟩ : ∃ wa, wa = w.alloc (.cells #[.int .i64 W, .int .i64 H, .string C, .int .i64 T, .string A, .string B, .slice ao ps.length cap, .bool dr, .int .u8 (lo : Int), .int .i64 li, .int .u8 (re : Int), .bool st, .int .i64 pl] 27 (0, 0)) := ⟨_, rfl⟩
  have hba : Below w.heap.size w wa := by rw [hwa]; exact (Below.refl _ w).alloc (Nat.le_refl _) _
  have hbox : isRu wa w.heap.size (.int .i64 W) (.int .i64 H) (.string C) (.int .i64 T) (.string A) (.string B) (.slice ao ps.length cap) (.bool dr) (.int .u8 (lo : Int)) (.int .i64 li) (.int .u8 (re : Int)) (.bool st) (.int .i64 pl) := by rw [hwa]; exact heap_alloc_new w _
  have HWA := hide hwa
  have HBA := hide hba
  have HP := hide h
  have HR := hide hR
  have HBX := hide hbox
  clear h hwa hba hbox hR
  go_enter Tryz.func33, Tryz.ntmps33
  go_wp2
  rw [← unhide HWA]
  go_loopw [5] (fun iv wr => ∃ k : Nat, k ≤ s.size ∧ iv = .int .i64 (k : Int) ∧ Hid ((s.data.toList.take k).all (hasP ps) = true) ∧ Below wa.heap.size wa wr) (fun iv _ => s.size - (intOf iv).toNat)
  case atStart => exact ⟨0, Nat.zero_le _, rfl, hide rfl, Below.refl _ _⟩
  case round =>
    obtain ⟨k, hk, rfl, HK, hbr⟩ := hrel
    have hlt := (unhide HBX).lt
    have hszr := hbr.size
    by_cases hkl : k < s.size
    · have hki : (k : Int) < (s.size : Int) := by omega
      have hk0 : (0 : Int) ≤ (k : Int) := by omega
      have h256 : s[k].toNat < 256 := s[k].toNat_lt
      have HSN := hide (all_snoc (hasP ps) s k hkl)
      have HNO := hide (all_no (hasP ps) s k hkl)
      by_cases h46 : s[k].toNat = 46
      · have h46i : (s[k].toNat : Int) = 46 := by omega
        have hnew : (s.data.toList.take (k + 1)).all (hasP ps) = true := by
          rw [unhide HSN, unhide HK]
          simp [hasP, h46]
        have HNEW := hide hnew
        have hb0 : ((s[k].toNat : Int) != 46) = false := by simp; omega
        have hd0 : decide (s[k].toNat = 46) = true := decide_eq_true h46
        clear hnew
        go_wp2
        go_quiet (fail)
        go_wp2
        go_roundw
        case rel => exact ⟨k + 1, by omega, by go_num, HNEW, below_drewN hbr _⟩
        case measure => simp [intOf]; omega
      · have h46i : ¬ (s[k].toNat : Int) = 46 := by omega
        have hb1 : ((s[k].toNat : Int) != 46) = true := by simp; omega
        obtain ⟨d0, d1, d2, d3, d4, d5, d6, d7, d8, d9, d10, d11, d12⟩ := ((unhide HBX).below hbr hlt).cells
        have hpw : isPcs wr ao cap ps := (unhide HP).below ((unhide HBA).trans (hbr.mono (unhide HBA).size)) (Nat.le_refl _)
        obtain ⟨I, hI⟩ : ∃ I, I = idxF ps (lowN s[k].toNat) 0 := ⟨_, rfl⟩
        have HPC : Hid (Calls Tryz.prog 32 #[.agg #[.int .i64 W, .int .i64 H, .string C, .int .i64 T, .string A, .string B, .slice ao ps.length cap, .bool dr, .int .u8 (lo : Int), .int .i64 li, .int .u8 (re : Int), .bool st, .int .i64 pl], .int .u8 (s[k].toNat : Int)] wr.drew fun e w' => e = .returned (.int .i64 I) ∧ Below wr.heap.size wr w') := by
          rw [hI]
          refine hide ((gPiece_any W H T C A B ao cap ps dr st lo re li pl s[k].toNat wr.drew h256 (hpw.below (show Below wr.heap.size wr wr.drew from (Below.refl _ _).drew) (Nat.le_refl _))).mono ?_)
          rintro e w' ⟨rfl, hb⟩
          exact ⟨rfl, ((Below.refl wr.heap.size wr).drew).trans hb⟩
        have HI : Hid (hasP ps s[k] = decide (0 ≤ I)) := by
          refine hide ?_
          rw [hI]
          simp [hasP, h46]
        clear hI hpw
        cases hIb : decide (0 ≤ I) with
        | true =>
          have hI0 : ¬ I < 0 := by have := of_decide_eq_true hIb; omega
          have hnew : (s.data.toList.take (k + 1)).all (hasP ps) = true := by
            rw [unhide HSN, unhide HK, unhide HI, hIb]; rfl
          have HNEW := hide hnew
          clear hnew hIb
          go_wp2
          go_region_with (first | (go_at_call 32; (with_reducible refine (unhide HPC).mono ?_); rintro e wp ⟨rfl, hbp⟩))
          all_goals (
            have hbf : Below wa.heap.size wa wp := hbr.trans (hbp.mono hszr)
            clear hbp
            go_wp2
            go_roundw
            case rel => exact ⟨k + 1, by omega, by go_num, HNEW, hbf⟩
            case measure => simp [intOf]; omega)
        | false =>
          have hI0 : I < 0 := by have := of_decide_eq_false hIb; omega
          have hff : R = false := by rw [unhide HR]; exact unhide HNO (by rw [unhide HI, hIb])
          have HFF := hide hff
          clear hff hIb
          go_wp2
          go_region_with (first | (go_at_call 32; (with_reducible refine (unhide HPC).mono ?_); rintro e wp ⟨rfl, hbp⟩))
          all_goals (
            have hbf : Below w.heap.size w wp := (unhide HBA).trans ((hbr.trans (hbp.mono hszr)).mono (unhide HBA).size)
            clear hbp
            go_wp2
            go_ret
            exact ⟨ret_bool (unhide HFF).symm, hbf⟩)
    · obtain rfl : k = s.size := by omega
      have hki : ¬ (s.size : Int) < (s.size : Int) := by omega
      have hall : R = true := by
        have := unhide HK
        rw [take_all s s.size (Nat.le_refl _)] at this
        rw [unhide HR, this]
      have HALL := hide hall
      have hbf : Below w.heap.size w wr := (unhide HBA).trans (hbr.mono (unhide HBA).size)
      clear hall
      go_wp2
      go_ret
      exact ⟨ret_bool (unhide HALL).symm, hbf⟩
end Go.Proofs.YtihojhfpepbjhaaGreatDoor

namespace Go.Proofs.YtihojhfpepbjhaaGreatDoor

/-- A byte's place ahead of the first that is not below it. -/
def placeN (h : List UInt8) (c : UInt8) : Nat := (h.takeWhile fun a => decide (a < c)).length
def insL (h : List UInt8) (c : UInt8) : List UInt8 := h.take (placeN h c) ++ c :: h.drop (placeN h c)
theorem insL_nil (c : UInt8) : insL [] c = [c] := rfl
theorem insL_lt {a c : UInt8} {h : List UInt8} (ha : a < c) : insL (a :: h) c = a :: insL h c := by simp [insL, placeN, ha]
theorem insL_ge {a c : UInt8} {h : List UInt8} (ha : ¬ a < c) : insL (a :: h) c = c :: a :: h := by simp [insL, placeN, ha]
/-- In order. -/
def Ord (h : List UInt8) : Prop := h.Pairwise (· ≤ ·)
theorem swap_at (l : List UInt8) (a c : UInt8) (s : List UInt8) : swapB (l ++ a :: c :: s) (l.length + 1) = l ++ c :: a :: s := by
  unfold swapB
  have h1 : (l ++ a :: c :: s)[l.length + 1 - 1]! = a := by simp
  have h2 : (l ++ a :: c :: s)[l.length + 1]! = c := by
    rw [List.getElem!_eq_getElem?_getD, List.getElem?_append_right (by omega)]
    simp
  rw [h1, h2, show l.length + 1 - 1 = l.length by omega]
  rw [List.set_append_right _ _ (by omega), show l.length + 1 - l.length = 1 by omega]
  rw [List.set_append_right _ _ (by omega), Nat.sub_self]
  rfl
theorem sink_snoc (l : List UInt8) (a c : UInt8) (s : List UInt8) : sinkB (l.length + 1) (l ++ a :: c :: s) = if c < a then sinkB l.length (l ++ c :: a :: s) else l ++ a :: c :: s := by
  have h1 : (l ++ a :: c :: s)[l.length]! = a := by simp
  have h2 : (l ++ a :: c :: s)[l.length + 1]! = c := by
    rw [List.getElem!_eq_getElem?_getD, List.getElem?_append_right (by omega)]
    simp
  rw [sinkB, h1, h2, swap_at]
/-- What is behind a byte's own place goes through. -/
theorem insL_snoc_lt {h : List UInt8} {a c : UInt8} (ho : Ord (h ++ [a])) (hc : c < a) : insL (h ++ [a]) c = insL h c ++ [a] := by
  induction h with
  | nil =>
    have : ¬ a < c := by intro h; exact absurd (UInt8.lt_trans h hc) (UInt8.lt_irrefl _)
    simp only [List.nil_append]
    rw [insL_ge this]; rfl
  | cons b t ih =>
    have ho' : Ord (t ++ [a]) := List.Pairwise.tail ho
    by_cases hb : b < c
    · rw [List.cons_append, insL_lt hb, insL_lt hb, ih ho']; rfl
    · rw [List.cons_append, insL_ge hb, insL_ge hb]; rfl
theorem insL_snoc_ge {h : List UInt8} {c : UInt8} (hc : ∀ a ∈ h, a ≤ c) (ho : Ord h) : insL h c = h ++ [c] := by
  induction h with
  | nil => rfl
  | cons b t ih =>
    by_cases hb : b < c
    · rw [insL_lt hb, ih (fun a ha => hc a (by simp [ha])) (List.Pairwise.tail ho)]; rfl
    · rw [insL_ge hb]
      have hall : ∀ a ∈ b :: t, a = c := by
        intro a ha
        have h1 := hc a ha
        have h2 : b ≤ a := by
          rcases List.mem_cons.1 ha with rfl | ha
          · exact UInt8.le_refl _
          · exact (List.pairwise_cons.1 ho).1 a ha
        have h3 : c ≤ b := UInt8.not_lt.1 hb
        exact UInt8.le_antisymm h1 (UInt8.le_trans h3 h2)
      have : b :: t = List.replicate (t.length + 1) c := by
        rw [List.eq_replicate_iff]; exact ⟨rfl, hall⟩
      rw [this, ← List.replicate_succ, ← List.replicate_succ']
theorem sink_ins : ∀ (n : Nat) (h : List UInt8) (c : UInt8) (s : List UInt8), h.length = n → Ord h → sinkB n (h ++ c :: s) = insL h c ++ s
  | 0, h, c, s, hl, _ => by
    have : h = [] := List.length_eq_zero_iff.1 hl
    subst this; rfl
  | n + 1, h, c, s, hl, ho => by
    have hne : h ≠ [] := by intro e; rw [e] at hl; simp at hl
    obtain ⟨l, a, rfl⟩ : ∃ l a, h = l ++ [a] := ⟨h.dropLast, h.getLast hne, (List.dropLast_concat_getLast hne).symm⟩
    have hn : l.length = n := by simpa using hl
    have ho' : Ord l := (List.pairwise_append.1 ho).1
    have e : l ++ [a] ++ c :: s = l ++ a :: c :: s := by simp
    rw [e, ← hn, sink_snoc]
    split
    · rename_i hc
      rw [hn, sink_ins n l c (a :: s) hn ho', insL_snoc_lt ho hc]; simp
    · rename_i hc
      have hca : a ≤ c := UInt8.not_lt.1 hc
      rw [insL_snoc_ge _ ho]
      · simp
      · intro b hb
        rcases List.mem_append.1 hb with hb | hb
        · exact UInt8.le_trans ((List.pairwise_append.1 ho).2.2 b hb a (by simp)) hca
        · rw [List.mem_singleton.1 hb]; exact hca
theorem sink_stay {l : List UInt8} {i : Nat} (h : ∀ j, j + 1 = i → ¬ l[j + 1]! < l[j]!) : sinkB i l = l := by
  cases i with
  | zero => rfl
  | succ j => rw [sinkB, if_neg (h j rfl)]
theorem ord_at {h : List UInt8} (ho : Ord h) {j : Nat} (hj : j + 1 < h.length) : ¬ h[j + 1]! < h[j]! := by
  rw [getElem!_pos h (j + 1) hj, getElem!_pos h j (by omega)]
  exact UInt8.not_lt.2 (List.pairwise_iff_getElem.1 ho j (j + 1) (by omega) hj (by omega))
theorem fold_stay {l : List UInt8} : ∀ (is : List Nat), (∀ i ∈ is, ∀ j, j + 1 = i → ¬ l[j + 1]! < l[j]!) → is.foldl (fun l i => sinkB i l) l = l
  | [], _ => rfl
  | i :: is, h => by rw [List.foldl_cons, sink_stay (h i (by simp)), fold_stay is fun i hi => h i (by simp [hi])]
/-- A byte behind a row in order, sorted: it goes to its place. -/
theorem isort_ins (h : List UInt8) (c : UInt8) (ho : Ord h) : isortB (h ++ [c]) (h.length + 1) = insL h c := by
  unfold isortB
  rw [show h.length + 1 - 1 = h.length by omega]
  by_cases h0 : h.length = 0
  · have : h = [] := List.length_eq_zero_iff.1 h0
    subst this; rfl
  · obtain ⟨n, hn⟩ : ∃ n, h.length = n + 1 := ⟨h.length - 1, by omega⟩
    have e2 : (List.range' 1 n).foldl (fun l i => sinkB i l) (h ++ [c]) = h ++ [c] := by
      refine fold_stay _ fun i hi j hj => ?_
      rw [List.mem_range'_1] at hi
      have e : ∀ k, k < h.length → (h ++ [c])[k]! = h[k]! := fun k hk => by
        rw [List.getElem!_eq_getElem?_getD, List.getElem!_eq_getElem?_getD, List.getElem?_append_left hk]
      rw [e (j + 1) (by omega), e j (by omega)]
      exact ord_at ho (by omega)
    rw [hn, List.range'_concat, List.foldl_append, e2]
    have := sink_ins (n + 1) h c [] hn ho
    rw [List.append_nil] at this
    simp only [List.foldl_cons, List.foldl_nil, Nat.one_mul]
    rw [show 1 + n = n + 1 by omega]
    exact this
theorem caps_ord : ∀ (h : List UInt8) (m : Int), capsB m h = true → Ord h ∧ ∀ a ∈ h, m ≤ a.toNat ∧ capB a.toNat = true
  | [], _, _ => ⟨List.Pairwise.nil, fun a h => by cases h⟩
  | c :: t, m, h => by
    rw [capsB, Bool.and_eq_true, Bool.and_eq_true, decide_eq_true_eq] at h
    obtain ⟨⟨h1, h2⟩, h3⟩ := h
    obtain ⟨q1, q2⟩ := caps_ord t _ h3
    refine ⟨List.Pairwise.cons (fun a ha => ?_) q1, fun a ha => ?_⟩
    · have := (q2 a ha).1
      rw [UInt8.le_iff_toNat_le]; omega
    · rcases List.mem_cons.1 ha with rfl | ha
      · exact ⟨h2, h1⟩
      · have := q2 a ha
        exact ⟨by omega, this.2⟩
theorem hand_ord {h : List UInt8} (hh : handB h = true) : Ord h ∧ ∀ a ∈ h, capB a.toNat = true := by
  rw [handB, Bool.and_eq_true] at hh
  obtain ⟨q1, q2⟩ := caps_ord h 65 hh.2
  exact ⟨q1, fun a ha => (q2 a ha).2⟩
/-- May the piece enter by a way that takes so, as the document's answer asks it? -/
def fitsB (t : Int) (T : Nat) (there : Int) : Bool := (decide (there = 2) && decide (t ≠ 1)) || (decide (there = 1 - (T : Int)) && decide (t ≠ 2))
def canZ (W T : Nat) (C : ByteArray) (fr to : Nat) (z : Wy) : Bool := fitsB z.t T (rownI (cellN C to : Nat)) && decide (fr ≠ to) && goesB W T C z.k z.x z.y fr to
theorem rown_46 : rownI ((46 : Nat) : Int) = 2 := by decide
theorem rown_le : ∀ c : Nat, c < 256 → cellB (c : Int) = true → c ≠ 46 → rownI (c : Int) = 0 ∨ rownI (c : Int) = 1 := by decide +kernel
theorem fits_ent (t : Int) (T c : Nat) (hT : T ≤ 1) (hc : c < 256) (hb : cellB (c : Int) = true) : entB t T c = fitsB t T (rownI (c : Int)) := by
  unfold entB fitsB
  by_cases h : c = 46
  · subst h
    rw [if_pos rfl, rown_46]
    have : ¬ (2 : Int) = 1 - (T : Int) := by omega
    simp [this]
  · rw [if_neg h, own_rown c hc hb (1 - T) (by omega)]
    have e : ((1 - T : Nat) : Int) = 1 - (T : Int) := by omega
    rw [e]
    have h2 : ¬ rownI (c : Int) = 2 := by rcases rown_le c hc hb h with h | h <;> omega
    simp only [h2, decide_false, Bool.false_and, Bool.false_or]
    rw [Bool.and_comm]
theorem can_bit {W H T : Nat} {C : ByteArray} {fr to : Nat} {ws : List Wy} (hT : T ≤ 1) (hW : 1 ≤ W ∧ W ≤ 8) (hH : H ≤ 8) (hf : fr < W * H) (ht : to < W * H) (hok : ∀ z ∈ ws, z.ok = true) (hC : ∀ c, c < W * H → cellB (cellN C c : Nat) = true ∧ cellN C c < 256) (hown : ownB T (cellN C fr) = true) :
    (goalsG W H T C fr ws).testBit to = ws.any (canZ W T C fr to) := by
  rw [Bool.eq_iff_iff, goals_bit, List.any_eq_true]
  have hne : ∀ t, fitsB t T (rownI (cellN C to : Nat)) = true → fr ≠ to := by
    rintro t h rfl
    rw [own_rown _ (hC _ hf).2 (hC _ hf).1 T hT, decide_eq_true_eq] at hown
    unfold fitsB at h
    rw [hown] at h
    simp only [Bool.or_eq_true, Bool.and_eq_true, decide_eq_true_eq] at h
    omega
  constructor
  · rintro ⟨z, hz, h1, h2⟩
    rw [fits_ent _ _ _ hT (hC _ ht).2 (hC _ ht).1] at h1
    refine ⟨z, hz, ?_⟩
    unfold canZ
    rw [h1, (goes_iff (hok z hz) hT hW hH hf ht).1 h2]
    simp [hne _ h1]
  · rintro ⟨z, hz, h⟩
    unfold canZ at h
    rw [Bool.and_eq_true, Bool.and_eq_true] at h
    refine ⟨z, hz, ?_, (goes_iff (hok z hz) hT hW hH hf ht).2 h.2⟩
    rw [fits_ent _ _ _ hT (hC _ ht).2 (hC _ ht).1]
    exact h.1.1
theorem can_ne {W H T : Nat} {C : ByteArray} {fr to : Nat} {ws : List Wy} (hT : T ≤ 1) (hf : fr < W * H) (hC : ∀ c, c < W * H → cellB (cellN C c : Nat) = true ∧ cellN C c < 256) (hown : ownB T (cellN C fr) = true) (hb : (goalsG W H T C fr ws).testBit to = true) : fr ≠ to := by
  rintro rfl
  obtain ⟨z, -, h1, -⟩ := (goals_bit W H T C fr fr ws).1 hb
  rw [fits_ent _ _ _ hT (hC _ hf).2 (hC _ hf).1] at h1
  rw [own_rown _ (hC _ hf).2 (hC _ hf).1 T hT, decide_eq_true_eq] at hown
  unfold fitsB at h1
  rw [hown] at h1
  simp only [Bool.or_eq_true, Bool.and_eq_true, decide_eq_true_eq] at h1
  omega
theorem idx_piece : ∀ (ps : List Pc) (l i : Nat), 0 ≤ idxF ps l i → ∃ k p, idxF ps l i = ((i + k : Nat) : Int) ∧ ps[k]? = some p ∧ p.l = l ∧ waysP l ps = p.ws
  | [], l, i, h => by rw [idxF] at h; omega
  | p :: t, l, i, h => by
    rw [idxF] at h ⊢
    rw [waysP]
    by_cases hp : p.l = l
    · rw [if_pos hp, if_pos hp]
      exact ⟨0, p, rfl, rfl, hp, rfl⟩
    · rw [if_neg hp] at h ⊢
      rw [if_neg hp]
      obtain ⟨k, q, h1, h2, h3, h4⟩ := idx_piece t l (i + 1) h
      exact ⟨k + 1, q, by rw [h1]; congr 1; omega, h2, h3, h4⟩
/-- What a move of the list is. -/
inductive MvIs (W H T : Nat) (C A B : ByteArray) (ps : List Pc) (dr : Bool) (m : Mv) : Prop
  | drop : m.f = -1 → m.t < C.size → cellN C m.t = 46 → dr = true → (∃ c : UInt8, c ∈ (handOf T A B).data.toList ∧ m.c = c.toNat) → MvIs W H T C A B ps dr m
  | go : (fr : Nat) → m.f = fr → fr < C.size → m.t < C.size → ownB T (cellN C fr) = true → m.c = upN (cellN C fr) → (goalsG W H T C fr (waysP (upN (cellN C fr)) ps)).testBit m.t = true → MvIs W H T C A B ps dr m
theorem cpt_mem {d : List UInt8} {m : Nat} {c : UInt8} (hm : m ≤ d.length) (h : c ∈ cptN d m) : c ∈ d := by
  unfold cptN at h
  obtain ⟨i, hi, rfl⟩ := List.mem_map.1 h
  have hl : i < d.length := by have := List.mem_range.1 (List.mem_filter.1 hi).1; omega
  rw [getElem!_pos d i hl]
  exact List.getElem_mem hl
theorem poss_is {W H T : Nat} {C A B : ByteArray} {ps : List Pc} {dr : Bool} {m : Mv} (h : m ∈ possL W H T C A B ps dr) : MvIs W H T C A B ps dr m := by
  unfold possL at h
  rcases List.mem_append.1 h with h | h
  · cases dr with
    | false => simp at h
    | true =>
      simp only [if_true] at h
      unfold dropsTo at h
      obtain ⟨to, ht, h⟩ := List.mem_flatMap.1 h
      unfold dropAt at h
      split at h
      · rename_i hc
        obtain ⟨c, hcm, rfl⟩ := List.mem_map.1 h
        exact .drop rfl (List.mem_range.1 ht) hc rfl ⟨c, cpt_mem (by simp) hcm, rfl⟩
      · cases h
  · unfold goesTo at h
    obtain ⟨fr, hf, h⟩ := List.mem_flatMap.1 h
    unfold goesAt at h
    split at h
    · rename_i ho
      unfold goTo at h
      obtain ⟨to, ht, rfl⟩ := List.mem_map.1 h
      obtain ⟨h1, h2⟩ := List.mem_filter.1 ht
      exact .go fr rfl (List.mem_range.1 hf) (List.mem_range.1 h1) ho rfl h2
    · cases h
theorem behC_len (C : List UInt8) (f : Int) (t : Nat) (x : UInt8) : (behC C f t x).length = C.length := by unfold behC cellsA; split <;> simp
/-- The cells behind a move, one by one. -/
theorem behC_at {C : List UInt8} {f : Int} {t : Nat} {x : UInt8} (hf : f = -1 ∨ (0 ≤ f ∧ f ≠ (t : Int))) {i : Nat} (hi : i < C.length) : (behC C f t x)[i]? = some (if (i : Int) = f then 46 else if i = t then x else C[i]) := by
  unfold behC cellsA
  by_cases h1 : f = -1
  · rw [if_pos h1, if_neg (by omega)]
    by_cases h2 : i = t
    · subst h2; rw [if_pos rfl, List.getElem?_set_self hi]
    · rw [if_neg h2, List.getElem?_set_ne (by omega), List.getElem?_eq_getElem hi]
  · rw [if_neg h1]
    obtain ⟨g, rfl⟩ : ∃ g : Nat, f = g := ⟨f.toNat, by omega⟩
    by_cases h2 : i = t
    · subst h2
      rw [if_neg (by omega), if_pos rfl, List.getElem?_set_self (by simpa using hi)]
    · rw [List.getElem?_set_ne (by omega)]
      by_cases h3 : i = g
      · subst h3
        rw [if_pos rfl]
        exact List.getElem?_set_self hi
      · rw [if_neg (by omega), if_neg h2]
        rw [show ((g : Int)).toNat = g from rfl, List.getElem?_set_ne (by omega), List.getElem?_eq_getElem hi]
/-- The hand behind a move out of the hand. -/
theorem behH_drop {C h : List UInt8} {dr : Bool} {t : Nat} {c : UInt8} (ht : C[t]! = 46) : behH C h dr (-1) t c = withoutL h c := by
  unfold behH cellsA handA handB'
  rw [if_pos rfl, if_pos rfl, ht, if_neg (by simp)]
/-- .. behind a move on the board. -/
theorem behH_go {C h : List UInt8} {dr : Bool} {f t : Nat} {c : UInt8} (ht : t < C.length) (hft : f ≠ t) (ho : Ord h) (hl : h.length ≤ 8) : behH C h dr f t c = if C[t] ≠ 46 ∧ dr = true ∧ h.length < 8 then insL h (upN C[t].toNat).toUInt8 else h := by
  unfold behH cellsA handA handB'
  rw [if_neg (show ¬ (f : Int) = -1 by omega), if_neg (show ¬ (f : Int) = -1 by omega)]
  have e : (C.set ((f : Int)).toNat 46)[t]! = C[t] := by
    rw [List.getElem!_eq_getElem?_getD, show ((f : Int)).toNat = f from rfl, List.getElem?_set_ne hft, List.getElem?_eq_getElem ht]; rfl
  rw [e]
  unfold withL
  by_cases h1 : C[t] ≠ 46 ∧ dr = true
  · rw [if_pos h1]
    by_cases h2 : h.length = 8
    · rw [if_pos h2, if_neg (by omega)]
    · rw [if_neg h2, if_pos ⟨h1.1, h1.2, by omega⟩, isort_ins h _ ho]
  · rw [if_neg h1, if_neg (fun q => h1 ⟨q.1, q.2.1⟩)]
theorem without_at {h : List UInt8} {c : UInt8} (hc : c ∈ h) : ∃ k : Nat, Lib.indexByte h c = k ∧ k < h.length ∧ withoutL h c = h.take k ++ h.drop (k + 1) := by
  have h0 := (index_mem h c).2 hc
  obtain ⟨k, hk⟩ : ∃ k : Nat, Lib.indexByte h c = k := ⟨(Lib.indexByte h c).toNat, by omega⟩
  refine ⟨k, hk, ?_, ?_⟩
  · exact (List.getElem?_eq_some_iff.1 (Lib.indexByte_some hk).1).1
  · unfold withoutL
    rw [if_neg (by omega), hk]; rfl
end Go.Proofs.YtihojhfpepbjhaaGreatDoor
