/-
  package tourney, walked: twos in memory; isField, areTwos.
-/
import Derived.Test.YtppkejblhkbkjaaZ19
namespace Go.Proofs.Ytppkejblhkbkjaa
open Go.RowKit Tu
attribute [local go_sem ↓] Go.wp_at_zero Go.wp_at_succ

/-- Twos of numbers in memory, in a block below B. -/
structure isTw (w : World) (B : Nat) (ao : Option Addr) (cap : Nat) (l : List (Int × Int)) : Prop where
  le : l.length ≤ cap
  mx : cap ≤ maxLen
  cells : l ≠ [] → ∃ g off, ao = some ⟨g, off, none⟩ ∧ g < B ∧ ∀ (i : Nat) (z : Int × Int), l[i]? = some z → w.cell? ⟨g, off + i * 2, none⟩ = some (.int .i64 z.1) ∧ w.cell? ⟨g, off + i * 2 + 1, none⟩ = some (.int .i64 z.2)
theorem isTw.keep {w w' : World} {B B' : Nat} {ao : Option Addr} {cap : Nat} {l : List (Int × Int)} (h : isTw w B ao cap l) (hk : ∀ k, k < B → w'.heap[k]? = w.heap[k]?) (hB : B ≤ B') : isTw w' B' ao cap l := by
  refine ⟨h.le, h.mx, fun hl => ?_⟩
  obtain ⟨g, off, e, hg, hc⟩ := h.cells hl
  refine ⟨g, off, e, by omega, fun i z hz => ?_⟩
  rw [blk_cell (hk g hg), blk_cell (hk g hg)]
  exact hc i z hz
theorem isTw.below {w w' : World} {B B' : Nat} {ao : Option Addr} {cap : Nat} {l : List (Int × Int)} (h : isTw w B ao cap l) (hb : Below B' w w') (hB : B ≤ B') : isTw w' B ao cap l := h.keep (fun k hk => hb.block k (by omega)) (Nat.le_refl _)
theorem isTw.at_ {w : World} {B : Nat} {ao : Option Addr} {cap : Nat} {l : List (Int × Int)} (h : isTw w B ao cap l) {i : Nat} {z : Int × Int} (hz : l[i]? = some z) : ∃ g off, ao = some ⟨g, off, none⟩ ∧ g < B ∧ w.cell? ⟨g, off + i * 2, none⟩ = some (.int .i64 z.1) ∧ w.cell? ⟨g, off + i * 2 + 1, none⟩ = some (.int .i64 z.2) := by
  obtain ⟨g, off, e, hg, hc⟩ := h.cells (by rintro rfl; simp at hz)
  exact ⟨g, off, e, hg, hc i z hz⟩
/-- Two different players of n. -/
def okTw (n : Int) (p : Int × Int) : Bool := decide (0 ≤ p.1 ∧ p.1 < n ∧ 0 ≤ p.2 ∧ p.2 < n ∧ p.1 ≠ p.2)
def fldB (n : Int) : Bool := decide (0 ≤ n ∧ n ≤ 60 ∧ n.tmod 2 = 0)

set_option maxHeartbeats 1000000 in
theorem isField_any (n : Int) (w : World) : Calls Try.prog 25 #[.int .i64 n] w fun e w' => e = .returned (.bool (fldB n)) ∧ w' = w := by
  have HF := hide (tisFrom_any 0 n 60 w)
  by_cases h : 0 ≤ n ∧ n ≤ 60
  · have HF2 : Hid (Calls Try.prog 18 #[.int .i64 0, .int .i64 n, .int .i64 60] w fun e w' => e = .returned (.bool true) ∧ w' = w) := hide (by
      have := unhide HF
      rw [show decide (0 ≤ n ∧ n ≤ 60) = true by simpa using h] at this
      exact this)
    clear HF
    obtain ⟨q, hq⟩ : ∃ q, n.tmod 2 = q := ⟨_, rfl⟩
    by_cases hz : q = 0
    · have HR : Hid (fldB n = true) := hide (by unfold fldB; rw [hq]; simp [h, hz])
      have hqb : (q == 0) = true := by simp [hz]
      clear hz h
      go_enter Try.func25, Try.ntmps25
      go_wp2_with fail
      refine (unhide HF2).mono ?_
      rintro e w' ⟨rfl, hw⟩
      replace hw := hw.symm
      subst hw
      go_wp2
      go_ret
      exact ⟨ret_bool (by rw [unhide HR]), rfl⟩
    · have HR : Hid (fldB n = false) := hide (by unfold fldB; rw [hq]; simp [hz])
      have hqb : (q == 0) = false := by simpa using hz
      clear hz h
      go_enter Try.func25, Try.ntmps25
      go_wp2_with fail
      refine (unhide HF2).mono ?_
      rintro e w' ⟨rfl, hw⟩
      replace hw := hw.symm
      subst hw
      go_wp2
      go_ret
      exact ⟨ret_bool (by rw [unhide HR]), rfl⟩
  · have HF2 : Hid (Calls Try.prog 18 #[.int .i64 0, .int .i64 n, .int .i64 60] w fun e w' => e = .returned (.bool false) ∧ w' = w) := hide (by
      have := unhide HF
      rw [show decide (0 ≤ n ∧ n ≤ 60) = false by simpa using h] at this
      exact this)
    have HR : Hid (fldB n = false) := hide (by unfold fldB; exact decide_eq_false (fun e => h ⟨e.1, e.2.1⟩))
    clear HF h
    go_enter Try.func25, Try.ntmps25
    go_wp2_with fail
    refine (unhide HF2).mono ?_
    rintro e w' ⟨rfl, hw⟩
    replace hw := hw.symm
    subst hw
    go_wp2
    go_ret
    exact ⟨ret_bool (by rw [unhide HR]), rfl⟩

set_option maxHeartbeats 4000000 in
set_option maxRecDepth 100000 in
theorem areTwos_any (n : Int) (hn : 0 ≤ n) (hn2 : n ≤ 60) (l : List (Int × Int)) (ao : Option Addr) (cap : Nat) (w : World) (h : isTw w w.heap.size ao cap l) :
    Calls Try.prog 26 #[.int .i64 n, .slice ao l.length cap] w fun e w' => e = .returned (.bool (l.all (okTw n))) ∧ Below w.heap.size w w' := by
  have hle := h.le
  have hmx := h.mx
  unfold maxLen at hmx
  obtain ⟨L, hL⟩ : ∃ L, L = l.length := ⟨_, rfl⟩
  rw [← hL] at hle ⊢
  obtain ⟨R, hR⟩ : ∃ R, R = l.all (okTw n) := ⟨_, rfl⟩
  rw [← hR]
  have HL := hide hL
  have HR := hide hR
  have HH := hide h
  have HST : Hid ((l.take 0).all (okTw n) = true ∧ Below w.heap.size w w) := hide ⟨by simp, Below.refl _ _⟩
  clear hL hR h
  go_enter Try.func26, Try.ntmps26
  go_wp2
  go_loopw [9] (fun iv wr => ∃ i : Nat, i ≤ L ∧ iv = .int .i64 (i : Int) ∧ Hid ((l.take i).all (okTw n) = true ∧ Below w.heap.size w wr)) (fun iv _ => L - (intOf iv).toNat)
  case atStart => exact ⟨0, Nat.zero_le _, rfl, HST⟩
  case round =>
    obtain ⟨i, hi, rfl, HI⟩ := hrel
    rename World => wr
    clear HST
    by_cases hil : i < L
    · have hii : (i : Int) < (L : Int) := by omega
      have hi0 : (0 : Int) ≤ (i : Int) := by omega
      obtain ⟨z, hz⟩ : ∃ z, l[i]? = some z := ⟨l[i]'(by rw [← unhide HL]; exact hil), List.getElem?_eq_getElem _⟩
      obtain ⟨g, off, rfl, hg, c1, c2⟩ := ((unhide HH).below (unhide HI).2 (Nat.le_refl _)).at_ hz
      have hst : (l.take (i + 1)).all (okTw n) = okTw n z := by
        rw [List.take_add_one, hz, List.all_append, (unhide HI).1]
        simp
      have hbs := (unhide HI).2.size
      obtain ⟨W1, hW1⟩ : ∃ W1, W1 = wr.alloc (Obj.cells #[Value.int .i64 z.1, Value.int .i64 z.2] 45 (0, 0)) := ⟨_, rfl⟩
      have hb1 : Below w.heap.size w W1 := by rw [hW1]; exact (unhide HI).2.alloc hbs _
      have HTW := hide (isTwo_any n z.1 z.2 W1 hn (by omega))
      have hok : decide (0 ≤ z.1 ∧ z.1 < n ∧ 0 ≤ z.2 ∧ z.2 < n ∧ z.1 ≠ z.2) = okTw n z := rfl
      rw [hok] at HTW
      have HSM := hide (List.mem_of_getElem? hz)
      have HS := hide hst
      have HB1 := hide hb1
      have HW1 := hide hW1
      obtain ⟨za, zb⟩ := z
      clear hz hst hok hb1 hW1
      cases hk : okTw n (za, zb) with
      | true =>
        rw [hk] at HTW HS
        have HN : Hid ((l.take (i + 1)).all (okTw n) = true ∧ Below w.heap.size w W1) := hide ⟨unhide HS, unhide HB1⟩
        clear hk HS HSM HI
        go_wp2_with fail
        rw [← unhide HW1]
        clear HW1 c1 c2
        refine (unhide HTW).mono ?_
        rintro e w' ⟨rfl, hw⟩
        replace hw := hw.symm
        subst hw
        clear HTW
        go_wp2
        go_roundw
        case rel => exact ⟨i + 1, by omega, by go_num, HN⟩
        case measure => simp only [intOf]; omega
      | false =>
        rw [hk] at HTW
        have HE : Hid (R = false) := hide (by
          rw [unhide HR]
          cases ha : l.all (okTw n) with
          | false => rfl
          | true =>
            rw [List.all_eq_true] at ha
            have := ha _ (unhide HSM)
            rw [hk] at this; cases this)
        clear hk HS HSM HI
        go_wp2_with fail
        rw [← unhide HW1]
        clear HW1 c1 c2
        refine (unhide HTW).mono ?_
        rintro e w' ⟨rfl, hw⟩
        replace hw := hw.symm
        subst hw
        clear HTW
        go_wp2
        go_ret
        exact ⟨ret_bool (by rw [unhide HE]), unhide HB1⟩
    · obtain rfl : i = L := by omega
      have hii : ¬ (i : Int) < (i : Int) := by omega
      have HE : Hid (R = true) := hide (by
        rw [unhide HR]
        have := (unhide HI).1
        rwa [unhide HL, List.take_length] at this)
      go_wp2
      go_ret
      exact ⟨ret_bool (by rw [unhide HE]), (unhide HI).2⟩
end Go.Proofs.Ytppkejblhkbkjaa
