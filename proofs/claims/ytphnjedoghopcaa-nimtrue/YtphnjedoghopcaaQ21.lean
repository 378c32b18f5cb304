/-
  package nim, walked: slices.Clone; strings.CutPrefix at "0."; takingOf; gameref.Code.
-/
import Derived.Test.YtphnjedoghopcaaQ20
import Derived.Test.YtphnjedoghopcaaQ13
import Derived.Laws.Cover3
namespace Go.Proofs.Ytphnjedoghopcaa
open Go.RowKit
attribute [local go_sem ↓] Go.wp_at_zero Go.wp_at_succ

/-- What Clone leaves. -/
structure CloneEnd (r : List Int) (w : World) (e : Ending) (w' : World) : Prop where
  low : Below w.heap.size w w'
  out : ∃ ao cap, e = .returned (.slice ao r.length cap) ∧ isIs w' w'.heap.size ao cap r ∧ ∀ k, (Value.slice ao r.length cap).ownBlock = some k → w.heap.size ≤ k

set_option maxHeartbeats 1000000 in
set_option maxRecDepth 100000 in
theorem Clone_any (ao : Option Addr) (cap : Nat) (r : List Int) (w : World) (h : isIs w w.heap.size ao cap r) (hr : r.length ≤ 100000) (hno : ao = none → cap = 0) :
    Calls Try.prog 39 #[.slice ao r.length cap] w fun e w' => CloneEnd r w e w' := by
  have hl := h.1
  have hm := h.2.1
  unfold maxLen at hm
  obtain ⟨i0, hinfo, hz0, hz1, hz2⟩ := info_parts Try.infoI
  have heq : ∀ (a : Option Addr) (l c : Nat) (u : World), (binOp .eql 22 (.slice a l c) (.slice none 0 0)).run Try.prog u = .ok (.bool a.isNone) u := fun a l c u => by
    simp only [binOp]
    simp [run_equal_slice_nil u 22 3 a l c Try.underlying22]
  cases ao with
  | none =>
    have hc0 := hno rfl
    subst hc0
    have hr0 : r = [] := List.eq_nil_of_length_eq_zero (by omega)
    subst hr0
    have HE : Hid (CloneEnd [] w (.returned (.slice none 0 0)) w) := hide ⟨Below.refl _ _, none, 0, rfl, ⟨Nat.le_refl _, by unfold maxLen; omega, fun h => absurd rfl h⟩, fun k h => by cases h⟩
    go_enter Try.func39, Try.ntmps39
    go_wp2
    go_ret
    exact unhide HE
  | some a =>
    obtain ⟨wa, hwa⟩ : ∃ wa, wa = w.alloc (.cells #[] 3 (0, 0)) := ⟨_, rfl⟩
    have hba : Below w.heap.size w wa := by rw [hwa]; exact (Below.refl _ _).alloc (Nat.le_refl _) _
    have hown : wa.ownsRow w.heap.size 3 1 (.slice (some ⟨w.heap.size, 0, none⟩) 0 0) 0 [] := by rw [hwa]; exact World.ownsRow_lit w #[] 0 (Nat.le_refl _) (by unfold maxLen; omega) rfl
    have hcells : ∀ (j : Nat) (u : Value), (ivals r)[j]? = some u → wa.cell? (a.add j) = some u := by
      intro j u hj
      have hjr : j < r.length := by have := (List.getElem?_eq_some_iff.1 hj).1; simpa [ivals] using this
      obtain ⟨g, off, e, hg, hc⟩ := h.at_ (List.getElem?_eq_getElem hjr)
      cases e
      rw [show (⟨g, off, none⟩ : Addr).add j = ⟨g, off + j, none⟩ by simp [Addr.add]]
      refine (hba.cell (p := ⟨g, off + j, none⟩) hg).trans (hc.trans ?_)
      rw [← hj]
      unfold ivals
      rw [List.getElem?_map, List.getElem?_eq_getElem hjr]
      rfl
    have hone : ∀ u ∈ ivals r, u.oneCell' = true := by
      intro u hu
      unfold ivals at hu
      obtain ⟨y, -, rfl⟩ := List.mem_map.1 hu
      rfl
    have hil : (ivals r).length = r.length * 1 := by simp [ivals]
    have HBA := hide hba
    have HOW := hide hown
    have HCE := hide hcells
    have HON := hide hone
    have HIL := hide hil
    have HWA := hide hwa
    have HI0 := hide hinfo
    have HZ0 := hide hz0
    have HZ1 := hide hz1
    have HZ2 := hide hz2
    clear hba hown hcells hone hil hwa h hinfo hz0 hz1 hz2 hno
    go_enter Try.func39, Try.ntmps39
    go_wp2_with (at_builtin; rw [← unhide HWA]; refine wpList_append_own _ rfl _ _ 22 rfl w.heap.size 3 i0 _ 1 8 Try.underlying22 (unhide HI0) (unhide HZ0) (unhide HZ1) (unhide HZ2) rfl (by decide) _ 0 _ rfl (unhide HOW) a r.length cap (ivals r) rfl (unhide HIL) (unhide HCE) (unhide HON) ?c3 ?c4 (unhide HBA).size ?_)
    case c3 => unfold maxLen; omega
    case c4 => omega
    intro v' w2 hown' hg' _
    have hb2 : Below w.heap.size w w2 := (unhide HBA).grown hg' (unhide HBA).size (fun k hk => by cases hk; exact Nat.le_refl _)
    have hown2 : w2.ownsRow w.heap.size 3 1 v' r.length (ivals r) := by simpa using hown'
    obtain ⟨ao, cp, rfl, hP⟩ := isIsP.of_row hown2
    have HE : Hid (CloneEnd r w (.returned (.slice ao r.length cp)) w2) := hide ⟨hb2, ao, cp, rfl, ⟨hP.1, hP.2.1, fun hne => by
      obtain ⟨g, off, e, hS, hc⟩ := hP.2.2 hne
      exact ⟨g, off, e, hS.2, hc⟩⟩, own_ge hown2⟩
    clear hown' hg' hown2 hb2 hP
    go_wp2
    go_ret
    exact unhide HE

/-- Does it begin so? -/
def preB (s : ByteArray) : Bool := decide (2 ≤ s.size) && ((s.extract 0 2).toList == [48, 46])
set_option maxHeartbeats 1000000 in
set_option maxRecDepth 100000 in
theorem hasPrefix_any (s : ByteArray) (w : World) (hs : s.size ≤ maxLen) :
    Calls Try.prog 40 #[.string s, .string ⟨#[48, 46]⟩] w fun e w' => e = .returned (.bool (preB s)) ∧ w' = w := by
  unfold maxLen at hs
  unfold preB
  by_cases h2 : 2 ≤ s.size
  · have h2i : (2 : Int) ≤ (s.size : Int) := by omega
    rw [decide_eq_true h2]
    go_enter Try.func40, Try.ntmps40
    go_wp2
    go_ret
    exact ⟨ret_bool (by simp), rfl⟩
  · have h2i : ¬ (2 : Int) ≤ (s.size : Int) := by omega
    rw [decide_eq_false h2]
    go_enter Try.func40, Try.ntmps40
    go_wp2
    go_ret
    exact ⟨rfl, rfl⟩
/-- What stands behind it. -/
def dig (s : ByteArray) : ByteArray := s.extract 2 s.size
theorem dig_size {s : ByteArray} (h : 2 ≤ s.size) : (dig s).size + 2 = s.size := by unfold dig; rw [ByteArray.size_extract]; omega
set_option maxHeartbeats 1000000 in
set_option maxRecDepth 100000 in
theorem cutLite_any (s : ByteArray) (w : World) (hs : s.size ≤ maxLen) :
    Calls Try.prog 36 #[.string s, .string ⟨#[48, 46]⟩] w fun e w' => e = .returned (.tuple #[.string (if preB s then dig s else s), .bool (preB s)]) ∧ w' = w := by
  have HP := hide (hasPrefix_any s w hs)
  have h2 : preB s = true → 2 ≤ s.size := fun h => by unfold preB at h; rw [Bool.and_eq_true] at h; exact of_decide_eq_true h.1
  have hdd : s.extract 2 s.size = dig s := rfl
  unfold maxLen at hs
  have HDD := hide hdd
  cases hb : preB s with
  | true =>
    have h2s := h2 hb
    have h2i : (2 : Int) ≤ (s.size : Int) := by omega
    rw [hb] at HP
    clear hb h2 hdd
    go_enter Try.func36, Try.ntmps36
    go_wp2_with fail
    refine (unhide HP).mono ?_
    rintro e w1 ⟨rfl, rfl⟩
    go_wp2
    go_ret2
    exact ⟨by first | rfl | (simp [unhide HDD]), rfl⟩
  | false =>
    rw [hb] at HP
    clear hb h2 hdd
    go_enter Try.func36, Try.ntmps36
    go_wp2_with fail
    refine (unhide HP).mono ?_
    rintro e w1 ⟨rfl, rfl⟩
    go_wp2
    go_ret2
    exact ⟨rfl, rfl⟩
set_option maxHeartbeats 1000000 in
set_option maxRecDepth 100000 in
theorem cut_any (s : ByteArray) (w : World) (hs : s.size ≤ maxLen) :
    Calls Try.prog 27 #[.string s, .string ⟨#[48, 46]⟩] w fun e w' => e = .returned (.tuple #[.string (if preB s then dig s else s), .bool (preB s)]) ∧ w' = w := by
  have HP := hide (cutLite_any s w hs)
  generalize (if preB s then dig s else s) = d at *
  generalize preB s = b at *
  go_enter Try.func27, Try.ntmps27
  go_wp2_with fail
  refine (unhide HP).mono ?_
  rintro e w1 ⟨rfl, rfl⟩
  go_wp2
  go_ret2
  exact ⟨rfl, rfl⟩
/-- Is it a digit? -/
def digB (c : UInt8) : Bool := decide (48 ≤ (c.toNat : Int)) && decide ((c.toNat : Int) ≤ 55)
/-- Is it a code? -/
def codeB (s : ByteArray) : Bool := preB s && (decide (3 ≤ s.size) && (decide (s.size ≤ 8) && (dig s).data.toList.all digB))

set_option maxHeartbeats 2000000 in
set_option maxRecDepth 100000 in
theorem takingOf_any (s : ByteArray) (w : World) (hs : s.size ≤ maxLen) :
    Calls Try.prog 18 #[.string s] w fun e w' => e = .returned (.tuple #[.string (if codeB s then dig s else ⟨#[]⟩), .bool (codeB s)]) ∧ w' = w := by
  have HC := hide (cut_any s w hs)
  have h2 : preB s = true → 2 ≤ s.size := fun h => by unfold preB at h; rw [Bool.and_eq_true] at h; exact of_decide_eq_true h.1
  obtain ⟨R, hR⟩ : ∃ R, R = codeB s := ⟨_, rfl⟩
  rw [← hR]
  unfold codeB at hR
  unfold maxLen at hs
  cases hb : preB s with
  | false =>
    rw [hb] at HC hR
    have hR' : R = false := hR
    subst hR'
    clear hb h2 hR
    go_enter Try.func18, Try.ntmps18
    go_wp2_with fail
    refine (unhide HC).mono ?_
    rintro e w1 ⟨rfl, rfl⟩
    go_wp2
    go_ret2
    exact ⟨rfl, rfl⟩
  | true =>
    rw [hb, Bool.true_and] at hR
    rw [hb] at HC
    have hds := dig_size (h2 hb)
    simp only [if_true] at HC
    obtain ⟨d, hd⟩ : ∃ d, d = dig s := ⟨_, rfl⟩
    rw [← hd] at HC hR hds ⊢
    rw [show decide (3 ≤ s.size) = decide (1 ≤ d.size) from decide_eq_decide.2 (by omega), show decide (s.size ≤ 8) = decide (d.size ≤ 6) from decide_eq_decide.2 (by omega)] at hR
    have HR := hide hR
    clear hb h2 hR hd
    by_cases h1 : 1 ≤ d.size
    · by_cases h6 : d.size ≤ 6
      · have h1i : ¬ (d.size : Int) < 1 := by omega
        have h6i : ¬ (6 : Int) < (d.size : Int) := by omega
        have HR2 : Hid (R = d.data.toList.all digB) := hide (by rw [unhide HR, decide_eq_true h1, decide_eq_true h6, Bool.true_and, Bool.true_and])
        have hdl : d.data.toList.length = d.size := Array.length_toList
        obtain ⟨S, hS⟩ : ∃ S : ByteArray, S = if R = true then d else ⟨#[]⟩ := ⟨_, rfl⟩
        rw [← hS]
        have HS := hide hS
        clear hS
        go_enter Try.func18, Try.ntmps18
        go_wp2_with fail
        refine (unhide HC).mono ?_
        rintro e w1 ⟨rfl, rfl⟩
        go_wp2
        go_loop [26] (fun iv => ∃ k : Nat, k ≤ d.size ∧ iv = .int .i64 (k : Int) ∧ Hid (R = (d.data.toList.drop k).all digB)) (fun iv => d.size - (intOf iv).toNat)
        case atStart => exact ⟨0, Nat.zero_le _, rfl, HR2⟩
        case round =>
          obtain ⟨k, hk, rfl, HK⟩ := hrel
          by_cases hlt : k < d.size
          · have hlti : (k : Int) < (d.size : Int) := by omega
            have hk0 : (0 : Int) ≤ (k : Int) := by omega
            have hst := unhide HK
            rw [List.drop_eq_getElem_cons (by omega), List.all_cons, show d.data.toList[k]'(by omega) = d[k] from rfl] at hst
            have HST := hide hst
            clear hst
            by_cases ha : (d[k].toNat : Int) < 48
            · have hre : R = false := by
                rw [unhide HST]
                unfold digB
                rw [decide_eq_false (by omega)]
                rfl
              have HRE := hide hre
              clear hre
              go_wp2
              go_ret2
              exact ⟨by rw [unhide HS, unhide HRE]; rfl, rfl⟩
            · by_cases hb : 55 < (d[k].toNat : Int)
              · have hre : R = false := by
                  rw [unhide HST]
                  unfold digB
                  rw [decide_eq_false (p := (d[k].toNat : Int) ≤ 55) (by omega), Bool.and_false]
                  rfl
                have HRE := hide hre
                clear hre
                go_wp2
                go_ret2
                exact ⟨by rw [unhide HS, unhide HRE]; rfl, rfl⟩
              · have HS2 : Hid (R = (d.data.toList.drop (k + 1)).all digB) := hide (by
                  rw [unhide HST]
                  rw [show digB d[k] = true by unfold digB; rw [decide_eq_true (by omega), decide_eq_true (by omega)]; rfl, Bool.true_and])
                go_wp2
                go_round
                case rel => exact ⟨k + 1, by omega, by go_num, HS2⟩
                case measure => simp only [intOf]; omega
          · have hlti : ¬ (k : Int) < (d.size : Int) := by omega
            have hre : R = true := by rw [unhide HK, List.drop_eq_nil_of_le (by omega)]; rfl
            have HRE := hide hre
            clear hre
            go_wp2
            go_ret2
            exact ⟨by rw [unhide HS, unhide HRE]; rfl, rfl⟩
      · have h1i : ¬ (d.size : Int) < 1 := by omega
        have h6i : (6 : Int) < (d.size : Int) := by omega
        have hre : R = false := by rw [unhide HR, decide_eq_false h6]; simp
        subst hre
        go_enter Try.func18, Try.ntmps18
        go_wp2_with fail
        refine (unhide HC).mono ?_
        rintro e w1 ⟨rfl, rfl⟩
        go_wp2
        go_ret2
        exact ⟨rfl, rfl⟩
    · have h1i : (d.size : Int) < 1 := by omega
      have hre : R = false := by rw [unhide HR, decide_eq_false h1]; rfl
      subst hre
      go_enter Try.func18, Try.ntmps18
      go_wp2_with fail
      refine (unhide HC).mono ?_
      rintro e w1 ⟨rfl, rfl⟩
      go_wp2
      go_ret2
      exact ⟨rfl, rfl⟩
end Go.Proofs.Ytphnjedoghopcaa
