/-
  The document's answer on rules (package gameref), walked: piece, letters.
-/
import Derived.Test.YtbglppcbgfkhmabGreatDoorJ4
import Derived.Test.YtbglppcbgfkhmabGreatDoorJ25
import Derived.Deep.RegionHeld3
namespace Go.Proofs.YtbglppcbgfkhmabGreatDoor
open Go.RowKit
attribute [local go_sem ↓] Go.wp_at_zero Go.wp_at_succ

/-- The first piece with that letter, counted from i; -1: none. -/
def idxF : List Pc → Nat → Nat → Int
  | [], _, _ => -1
  | p :: t, c, i => if p.l = c then (i : Nat) else idxF t c (i + 1)
def lowN (c : Nat) : Nat := if 97 ≤ c ∧ c ≤ 122 then c - 32 else c


set_option maxHeartbeats 1000000 in
set_option maxRecDepth 100000 in
theorem gPiece_any (W H T : Int) (C A B : ByteArray) (ao : Option Addr) (cap : Nat) (ps : List Pc) (dr st : Bool) (lo re : Nat) (li pl : Int) (c : Nat) (w : World) (hc : c < 256) (h : isPcs w ao cap ps) :
    Calls Tryz.prog 67 #[.agg #[.int .i64 W, .int .i64 H, .string C, .int .i64 T, .string A, .string B, .slice ao ps.length cap, .bool dr, .int .u8 (lo : Int), .int .i64 li, .int .u8 (re : Int), .bool st, .int .i64 pl], .int .u8 (c : Int)] w fun e w' => e = .returned (.int .i64 (idxF ps (lowN c) 0)) ∧ Below w.heap.size w w' := by
  have hle := h.le
  have hmx := h.mx
  unfold maxLen at hmx
  obtain ⟨n, hn⟩ : ∃ n, n = ps.length := ⟨_, rfl⟩
  obtain ⟨R, hR⟩ : ∃ R, R = idxF ps (lowN c) 0 := ⟨_, rfl⟩
  rw [← hR, ← hn]
  rw [← hn] at hle
  have HN := hide hn
  have HP := hide h
  obtain ⟨wa, hwa⟩ : ∃ wa, wa = w.alloc (.cells #[.int .i64 W, .int .i64 H, .string C, .int .i64 T, .string A, .string B, .slice ao n cap, .bool dr, .int .u8 (lo : Int), .int .i64 li, .int .u8 (re : Int), .bool st, .int .i64 pl] 27 (0, 0)) := ⟨_, rfl⟩
  have hba : Below w.heap.size w wa := by rw [hwa]; exact (Below.refl _ w).alloc (Nat.le_refl _) _
  have hbox : isRu wa w.heap.size (.int .i64 W) (.int .i64 H) (.string C) (.int .i64 T) (.string A) (.string B) (.slice ao n cap) (.bool dr) (.int .u8 (lo : Int)) (.int .i64 li) (.int .u8 (re : Int)) (.bool st) (.int .i64 pl) := by rw [hwa]; exact heap_alloc_new w _
  have c6 := hbox.cells.2.2.2.2.2.2.1
  have HWA := hide hwa
  have HBA := hide hba
  clear hn h hwa hba hbox
  cases hsm : smallB (c : Int) with
  | true =>
    have hcs : 97 ≤ c ∧ c ≤ 122 := by
      simp only [smallB, Bool.and_eq_true, decide_eq_true_eq] at hsm
      omega
    obtain ⟨d, hd⟩ : ∃ d, d = lowN c := ⟨_, rfl⟩
    have hdc : (c : Int) - 32 = (d : Int) := by
      rw [hd, lowN, if_pos hcs]; omega
    have hdw : IntKind.u8.wrap (d : Int) = (d : Int) := by simp [IntKind.wrap, IntKind.signed, IntKind.bits]; omega
    rw [← hd] at hR
    have HR := hide hR
    have HSM := hide hsm
    clear hR hd hsm
    go_enter Tryz.func67, Tryz.ntmps67
    go_wp2_with fail
    refine (Small_any _ _).mono ?_
    rintro e w1 ⟨rfl, rfl⟩
    rw [unhide HSM]
    go_wp2
    rw [← unhide HWA]
    go_loopw [5] (fun iv wr => ∃ k : Nat, k ≤ n ∧ iv = .int .i64 (k : Int) ∧ Hid (idxF (ps.drop k) d k = R) ∧ wr = wa) (fun iv _ => n - (intOf iv).toNat)
    case atStart => exact ⟨0, Nat.zero_le _, rfl, hide (unhide HR).symm, rfl⟩
    case round =>
      obtain ⟨k, hk, rfl, HK, rfl⟩ := hrel
      by_cases hkl : k < n
      · have hki : (k : Int) < (n : Int) := by omega
        have hk0 : (0 : Int) ≤ (k : Int) := by omega
        have hkw : k < ps.length := by rw [← unhide HN]; exact hkl
        obtain ⟨p, hp⟩ : ∃ p, ps[k]? = some p := ⟨ps[k], List.getElem?_eq_getElem hkw⟩
        obtain ⟨g, off, eg, hg, hcc⟩ := (unhide HP).cells (by rintro rfl; simp at hkw)
        subst eg
        obtain ⟨hl, wo, wc, e0, -⟩ := hcc k p hp
        have e0 := ((unhide HBA).cell (p := ⟨g, off + k * 3, none⟩) hg).trans e0
        have hK := unhide HK
        rw [dropP ps k p hp, idxF] at hK
        by_cases hpl : p.l = d
        · rw [if_pos hpl] at hK
          subst hpl
          have HK2 := hide hK
          clear hK hcc HK
          go_wp2
          go_ret
          exact ⟨ret_int (unhide HK2), unhide HBA⟩
        · rw [if_neg hpl] at hK
          have hpi : ¬ (p.l : Int) = (d : Int) := by omega
          have hpb : ((p.l : Int) == (d : Int)) = false := by simp; omega
          have HK2 := hide hK
          clear hK hcc HK hpl
          go_wp2
          go_roundw
          case rel => exact ⟨k + 1, by omega, by go_num, HK2, trivial⟩
          case measure => simp [intOf]; omega
      · have hki : ¬ (k : Int) < (n : Int) := by omega
        have hK := unhide HK
        rw [List.drop_eq_nil_of_le (by rw [← unhide HN]; omega), idxF] at hK
        have HK2 := hide hK
        clear hK HK
        go_wp2
        go_ret
        exact ⟨ret_int (unhide HK2), unhide HBA⟩
  | false =>
    have hcs : ¬ (97 ≤ c ∧ c ≤ 122) := by
      simp only [smallB, Bool.and_eq_false_iff, decide_eq_false_iff_not] at hsm
      omega
    obtain ⟨d, hd⟩ : ∃ d, d = c := ⟨_, rfl⟩
    rw [lowN, if_neg hcs, ← hd] at hR
    rw [← hd] at hsm ⊢
    have HR := hide hR
    have HSM := hide hsm
    clear hR hsm hcs hd
    go_enter Tryz.func67, Tryz.ntmps67
    go_wp2_with fail
    refine (Small_any _ _).mono ?_
    rintro e w1 ⟨rfl, rfl⟩
    rw [unhide HSM]
    go_wp2
    rw [← unhide HWA]
    go_loopw [5] (fun iv wr => ∃ k : Nat, k ≤ n ∧ iv = .int .i64 (k : Int) ∧ Hid (idxF (ps.drop k) d k = R) ∧ wr = wa) (fun iv _ => n - (intOf iv).toNat)
    case atStart => exact ⟨0, Nat.zero_le _, rfl, hide (unhide HR).symm, rfl⟩
    case round =>
      obtain ⟨k, hk, rfl, HK, rfl⟩ := hrel
      by_cases hkl : k < n
      · have hki : (k : Int) < (n : Int) := by omega
        have hk0 : (0 : Int) ≤ (k : Int) := by omega
        have hkw : k < ps.length := by rw [← unhide HN]; exact hkl
        obtain ⟨p, hp⟩ : ∃ p, ps[k]? = some p := ⟨ps[k], List.getElem?_eq_getElem hkw⟩
        obtain ⟨g, off, eg, hg, hcc⟩ := (unhide HP).cells (by rintro rfl; simp at hkw)
        subst eg
        obtain ⟨hl, wo, wc, e0, -⟩ := hcc k p hp
        have e0 := ((unhide HBA).cell (p := ⟨g, off + k * 3, none⟩) hg).trans e0
        have hK := unhide HK
        rw [dropP ps k p hp, idxF] at hK
        by_cases hpl : p.l = d
        · rw [if_pos hpl] at hK
          subst hpl
          have HK2 := hide hK
          clear hK hcc HK
          go_wp2
          go_ret
          exact ⟨ret_int (unhide HK2), unhide HBA⟩
        · rw [if_neg hpl] at hK
          have hpi : ¬ (p.l : Int) = (d : Int) := by omega
          have hpb : ((p.l : Int) == (d : Int)) = false := by simp; omega
          have HK2 := hide hK
          clear hK hcc HK hpl
          go_wp2
          go_roundw
          case rel => exact ⟨k + 1, by omega, by go_num, HK2, trivial⟩
          case measure => simp [intOf]; omega
      · have hki : ¬ (k : Int) < (n : Int) := by omega
        have hK := unhide HK
        rw [List.drop_eq_nil_of_le (by rw [← unhide HN]; omega), idxF] at hK
        have HK2 := hide hK
        clear hK HK
        go_wp2
        go_ret
        exact ⟨ret_int (unhide HK2), unhide HBA⟩

/-- A letter of a board or a hand: is there a piece with it? -/
def hasP (ps : List Pc) (c : UInt8) : Bool := decide (c.toNat = 46) || decide (0 ≤ idxF ps (lowN c.toNat) 0)

set_option maxHeartbeats 1000000 in
set_option maxRecDepth 100000 in
theorem gLetters_any (W H T : Int) (C A B : ByteArray) (ao : Option Addr) (cap : Nat) (ps : List Pc) (dr st : Bool) (lo re : Nat) (li pl : Int) (s : ByteArray) (w : World) (hs : s.size ≤ 1000) (h : isPcs w ao cap ps) :
    Calls Tryz.prog 34 #[.agg #[.int .i64 W, .int .i64 H, .string C, .int .i64 T, .string A, .string B, .slice ao ps.length cap, .bool dr, .int .u8 (lo : Int), .int .i64 li, .int .u8 (re : Int), .bool st, .int .i64 pl], .string s] w fun e w' => e = .returned (.bool (s.data.toList.all (hasP ps))) ∧ Below w.heap.size w w' := by
  obtain ⟨R, hR⟩ : ∃ R, R = s.data.toList.all (hasP ps) := ⟨_, rfl⟩
  rw [← hR]
  obtain ⟨wa, hwa⟩ : ∃ wa, wa = w.alloc (.cells #[.int .i64 W, .int .i64 H, .string C, .int .i64 T, .string A, .string B, .slice ao ps.length cap, .bool dr, .int .u8 (lo : Int), .int .i64 li, .int .u8 (re : Int), .bool st, .int .i64 pl] 27 (0, 0)) := ⟨_, rfl⟩
  have hba : Below w.heap.size w wa := by rw [hwa]; exact (Below.refl _ w).alloc (Nat.le_refl _) _
  have hbox : isRu wa w.heap.size (.int .i64 W) (.int .i64 H) (.string C) (.int .i64 T) (.string A) (.string B) (.slice ao ps.length cap) (.bool dr) (.int .u8 (lo : Int)) (.int .i64 li) (.int .u8 (re : Int)) (.bool st) (.int .i64 pl) := by rw [hwa]; exact heap_alloc_new w _
  have HWA := hide hwa
  have HBA := hide hba
  have HP := hide h
  have HR := hide hR
  have HBX := hide hbox
  clear h hwa hba hbox hR
  go_enter Tryz.func34, Tryz.ntmps34
  go_wp2
  rw [← unhide HWA]
  go_loopw [5] (fun iv wr => ∃ k : Nat, k ≤ s.size ∧ iv = .int .i64 (k : Int) ∧ Hid ((s.data.toList.take k).all (hasP ps) = true) ∧ Below wa.heap.size wa wr) (fun iv _ => s.size - (intOf iv).toNat)
  case atStart => exact ⟨0, Nat.zero_le _, rfl, hide rfl, Below.refl _ _⟩
  case round =>
    obtain ⟨k, hk, rfl, HK, hbr⟩ := hrel
    have hlt := (unhide HBX).lt
    have hszr := hbr.size
    by_cases hkl : k < s.size
    · have hki : (k : Int) < (s.size : Int) := by omega
      have hk0 : (0 : Int) ≤ (k : Int) := by omega
      have h256 : s[k].toNat < 256 := s[k].toNat_lt
      have HSN := hide (all_snoc (hasP ps) s k hkl)
      have HNO := hide (all_no (hasP ps) s k hkl)
      by_cases h46 : s[k].toNat = 46
      · have h46i : (s[k].toNat : Int) = 46 := by omega
        have hnew : (s.data.toList.take (k + 1)).all (hasP ps) = true := by
          rw [unhide HSN, unhide HK]
          simp [hasP, h46]
        have HNEW := hide hnew
        have hb0 : ((s[k].toNat : Int) != 46) = false := by simp; omega
        have hd0 : decide (s[k].toNat = 46) = true := decide_eq_true h46
        clear hnew
        go_wp2
        go_quiet (fail)
        go_wp2
        go_roundw
        case rel => exact ⟨k + 1, by omega, by go_num, HNEW, below_drewN hbr _⟩
        case measure => simp [intOf]; omega
      · have h46i : ¬ (s[k].toNat : Int) = 46 := by omega
        have hb1 : ((s[k].toNat : Int) != 46) = true := by simp; omega
        obtain ⟨d0, d1, d2, d3, d4, d5, d6, d7, d8, d9, d10, d11, d12⟩ := ((unhide HBX).below hbr hlt).cells
        have hpw : isPcs wr ao cap ps := (unhide HP).below ((unhide HBA).trans (hbr.mono (unhide HBA).size)) (Nat.le_refl _)
        obtain ⟨I, hI⟩ : ∃ I, I = idxF ps (lowN s[k].toNat) 0 := ⟨_, rfl⟩
        have HPC : Hid (Calls Tryz.prog 67 #[.agg #[.int .i64 W, .int .i64 H, .string C, .int .i64 T, .string A, .string B, .slice ao ps.length cap, .bool dr, .int .u8 (lo : Int), .int .i64 li, .int .u8 (re : Int), .bool st, .int .i64 pl], .int .u8 (s[k].toNat : Int)] wr.drew fun e w' => e = .returned (.int .i64 I) ∧ Below wr.heap.size wr w') := by
          rw [hI]
          refine hide ((gPiece_any W H T C A B ao cap ps dr st lo re li pl s[k].toNat wr.drew h256 (hpw.below (show Below wr.heap.size wr wr.drew from (Below.refl _ _).drew) (Nat.le_refl _))).mono ?_)
          rintro e w' ⟨rfl, hb⟩
          exact ⟨rfl, ((Below.refl wr.heap.size wr).drew).trans hb⟩
        have HI : Hid (hasP ps s[k] = decide (0 ≤ I)) := by
          refine hide ?_
          rw [hI]
          simp [hasP, h46]
        clear hI hpw
        cases hIb : decide (0 ≤ I) with
        | true =>
          have hI0 : ¬ I < 0 := by have := of_decide_eq_true hIb; omega
          have hnew : (s.data.toList.take (k + 1)).all (hasP ps) = true := by
            rw [unhide HSN, unhide HK, unhide HI, hIb]; rfl
          have HNEW := hide hnew
          clear hnew hIb
          go_wp2
          go_region_with (first | (go_at_call 67; (with_reducible refine (unhide HPC).mono ?_); rintro e wp ⟨rfl, hbp⟩))
          all_goals (
            have hbf : Below wa.heap.size wa wp := hbr.trans (hbp.mono hszr)
            clear hbp
            go_wp2
            go_roundw
            case rel => exact ⟨k + 1, by omega, by go_num, HNEW, hbf⟩
            case measure => simp [intOf]; omega)
        | false =>
          have hI0 : I < 0 := by have := of_decide_eq_false hIb; omega
          have hff : R = false := by rw [unhide HR]; exact unhide HNO (by rw [unhide HI, hIb])
          have HFF := hide hff
          clear hff hIb
          go_wp2
          go_region_with (first | (go_at_call 67; (with_reducible refine (unhide HPC).mono ?_); rintro e wp ⟨rfl, hbp⟩))
          all_goals (
            have hbf : Below w.heap.size w wp := (unhide HBA).trans ((hbr.trans (hbp.mono hszr)).mono (unhide HBA).size)
            clear hbp
            go_wp2
            go_ret
            exact ⟨ret_bool (unhide HFF).symm, hbf⟩)
    · obtain rfl : k = s.size := by omega
      have hki : ¬ (s.size : Int) < (s.size : Int) := by omega
      have hall : R = true := by
        have := unhide HK
        rw [take_all s s.size (Nat.le_refl _)] at this
        rw [unhide HR, this]
      have HALL := hide hall
      have hbf : Below w.heap.size w wr := (unhide HBA).trans (hbr.mono (unhide HBA).size)
      clear hall
      go_wp2
      go_ret
      exact ⟨ret_bool (unhide HALL).symm, hbf⟩
end Go.Proofs.YtbglppcbgfkhmabGreatDoor
