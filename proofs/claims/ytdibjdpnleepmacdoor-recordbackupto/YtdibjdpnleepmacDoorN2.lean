/-
  package record, walked: isText.
-/
import Derived.Test.YtdibjdpnleepmacDoorN1
import Derived.Test.YtdibjdpnleepmacDoorShelf
import Derived.Lib.OthersKept
import Derived.Lib.TrimU
import Derived.Lib.ValidU
namespace Go.Proofs.YtdibjdpnleepmacDoor
open Go.RowKit
attribute [local go_sem ↓] Go.wp_at_zero Go.wp_at_succ

/-- How many runes there are from place pos on, n being behind it, if all fit and there are no more than most. -/
def txF (fits : Int → Bool) (most : Nat) (s : ByteArray) : Nat → Nat → Nat → Option Nat
  | 0, _, n => some n
  | f + 1, pos, n => if pos < s.size then (if most < n + 1 ∨ fits ((Utf8.decode s pos).1 : Nat) = false then none else txF fits most s f (pos + (Utf8.decode s pos).2) (n + 1)) else some n
theorem txF_end (fits : Int → Bool) (most : Nat) (s : ByteArray) (f pos n : Nat) (h : ¬ pos < s.size) : txF fits most s f pos n = some n := by
  cases f with
  | zero => rfl
  | succ f => rw [txF, if_neg h]
def isTextB (fits : Int → Bool) (least most : Nat) (s : ByteArray) : Bool := match txF fits most s s.size 0 0 with
  | none => false
  | some n => decide (least ≤ n) && Lib.validD s.data.toList

set_option maxHeartbeats 4000000 in
set_option maxRecDepth 1000000 in
theorem isText_any (fits : Int → Bool) (F : FuncId) (least most : Nat) (s : ByteArray) (w : World) (hs : s.size < 2000000) (hmost : most ≤ 1000)
    (hE : ∀ args (u : World), (callFunc F args).run Tryd.prog u = .ok (.enter F args) u)
    (hF : ∀ (c : Int) (u : World), Calls Tryd.prog F #[.int .i32 c] u fun e u' => e = .returned (.bool (fits c)) ∧ u' = u)
    (hT : Lib.Utf8Tabs 0 1 w)
    (hV : ∀ u, Lib.Utf8Tabs 0 1 u → Calls Tryd.prog 36 #[.string s] u fun e u' => e = .returned (.bool (Lib.validD s.data.toList)) ∧ Below u.heap.size u u') :
    Calls Tryd.prog 27 #[.string s, .int .i64 (least : Int), .int .i64 (most : Int), .func (.func F) #[] #[]] w fun e w' => e = .returned (.bool (isTextB fits least most s)) ∧ Below w.heap.size w w' := by
  obtain ⟨R, hR⟩ : ∃ R, R = isTextB fits least most s := ⟨_, rfl⟩
  rw [← hR]
  obtain ⟨T, hTX⟩ : ∃ T, T = txF fits most s s.size 0 0 := ⟨_, rfl⟩
  unfold isTextB at hR
  rw [← hTX] at hR
  have HR := hide hR
  have HTX := hide hTX
  have HF := hide hF
  have HV := hide hV
  have HT := hide hT
  clear hR hTX hF hV hT
  go_enter Tryd.func27, Tryd.ntmps27
  go_wp2
  go_loopw [9] (fun nv wr => ∃ (pos f n : Nat), nv = .int .i64 (n : Int) ∧ wr.heap[w.heap.size]? = some (.stringIter s pos) ∧ Below w.heap.size w wr ∧ Hid (T = txF fits most s f pos n) ∧ s.size ≤ f + pos ∧ n ≤ most) (fun _ wr => s.size - wr.iterPos w.heap.size)
  case atStart =>
    refine ⟨0, s.size, 0, rfl, ?_, (Below.refl _ w).alloc (Nat.le_refl _) _, HTX, by omega, by omega⟩
    exact World.iter_heap w s 0
  case round =>
    obtain ⟨pos, f, n, rfl, hit, hbw, HTT, hfu, hnm⟩ := hrel
    have hsz : w.heap.size < wr.heap.size := (Array.getElem?_eq_some_iff.1 hit).1
    by_cases hp : pos < s.size
    · have hnx : ∀ ty, (Instr.next (.pointer (some ⟨w.heap.size, 0, none⟩)) true ty).run Tryd.prog wr = _ := fun ty => Lib.run_next_any_at wr w.heap.size s pos ty hit hp
      obtain ⟨f, rfl⟩ : ∃ f', f = f' + 1 := ⟨f - 1, by omega⟩
      have hstep := unhide HTT
      rw [txF, if_pos hp] at hstep
      have hwd := Lib.width_pos s pos
      have hd1 := decode_le s pos
      have hit2 := Lib.iterAt_heap wr w.heap.size s pos (pos + (Utf8.decode s pos).2) hit
      have hbw2 := Lib.below_iterAt hbw (k := w.heap.size) (Nat.le_refl _) s (pos + (Utf8.decode s pos).2)
      obtain ⟨rr, hrr⟩ : ∃ rr, rr = (Utf8.decode s pos).1 := ⟨_, rfl⟩
      obtain ⟨p2, hp2⟩ : ∃ p2, p2 = pos + (Utf8.decode s pos).2 := ⟨_, rfl⟩
      rw [← hp2] at hit2 hbw2
      rw [← hrr, ← hp2] at hstep
      rw [← hrr] at hd1
      simp only [← hrr, ← hp2] at hnx
      have hp2' : pos < p2 := by omega
      have HST := hide hstep
      have HIT2 := hide hit2
      have HBW2 := hide hbw2
      have HIT := hide hit
      clear hstep hrr hp2 hwd hit2 hbw2 hit hbw HTT
      by_cases hm : most < n + 1
      · have hmi : (most : Int) < (n : Int) + 1 := by omega
        have hRe : R = false := by
          rw [unhide HR, unhide HST, if_pos (Or.inl hm)]
        have HRE := hide hRe
        clear hRe hm
        go_wp2
        go_ret
        exact ⟨by rw [unhide HRE]; rfl, unhide HBW2⟩
      · have hmi : ¬ (most : Int) < (n : Int) + 1 := by omega
        go_wp2_with fail
        refine (unhide HF _ _).mono ?_
        rintro e w2 ⟨rfl, rfl⟩
        cases hfit : fits ((rr : Nat) : Int) with
        | false =>
          have hRe : R = false := by
            rw [unhide HR, unhide HST, if_pos (Or.inr hfit)]
          have HRE := hide hRe
          clear hRe hfit
          go_wp2
          go_ret
          exact ⟨by rw [unhide HRE]; rfl, unhide HBW2⟩
        | true =>
          have hTn : T = txF fits most s f p2 (n + 1) := by
            rw [unhide HST, if_neg (by rw [hfit]; simp; omega)]
          have HTN := hide hTn
          clear hTn hfit
          go_wp2
          go_roundw
          case rel => exact ⟨p2, f, n + 1, by go_num, unhide HIT2, unhide HBW2, HTN, by omega, by omega⟩
          case measure =>
            simp only [World.iterPos, unhide HIT2, unhide HIT]
            omega
    · have hnx : ∀ ty, (Instr.next (.pointer (some ⟨w.heap.size, 0, none⟩)) true ty).run Tryd.prog wr = _ := fun ty => Lib.run_next_end_at wr w.heap.size s pos ty hit hp
      have hTe : T = some n := by rw [unhide HTT]; exact txF_end _ _ _ _ _ _ hp
      have hRe := unhide HR
      rw [hTe] at hRe
      simp only at hRe
      have htab : Lib.Utf8Tabs 0 1 wr := Utf8Tabs_below (unhide HT) hbw
      by_cases hl : least ≤ n
      · have hli : (least : Int) ≤ (n : Int) := by omega
        have HRE : Hid (R = Lib.validD s.data.toList) := by rw [hRe]; simp [Hid, hl]
        have HTAB := hide htab
        clear hRe hTe hl htab
        go_wp2_with fail
        refine (unhide HV _ (unhide HTAB)).mono ?_
        rintro e w2 ⟨rfl, hb2⟩
        have hb3 : Below w.heap.size w w2 := hbw.trans (hb2.mono (by omega))
        clear hb2
        rw [← unhide HRE]
        go_wp2
        go_ret
        exact ⟨rfl, hb3⟩
      · have hli : ¬ (least : Int) ≤ (n : Int) := by omega
        have HRE : Hid (R = false) := by rw [hRe]; simp [Hid, hl]
        clear hRe hTe hl htab
        go_wp2
        go_ret
        exact ⟨by rw [unhide HRE]; rfl, hbw⟩
end Go.Proofs.YtdibjdpnleepmacDoor
