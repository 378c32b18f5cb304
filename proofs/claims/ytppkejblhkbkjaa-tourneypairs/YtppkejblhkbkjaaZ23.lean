/-
  gameref's Barred, Players, walked.
-/
import Derived.Test.YtppkejblhkbkjaaZ22
import Derived.LaidEql
import Derived.ChangeKeysEq
namespace Go.Proofs.Ytppkejblhkbkjaa
open Go.RowKit Tu
attribute [local go_sem ↓] Go.wp_at_zero Go.wp_at_succ

theorem eqTwo (w : World) (a b c d : Int) :
    (binOp .eql 45 (.agg #[.int .i64 a, .int .i64 b]) (.agg #[.int .i64 c, .int .i64 d])).run Try.prog w = .ok (.bool (decide (a = c ∧ b = d))) w := by
  obtain ⟨i, hi⟩ : ∃ i, Try.prog.info? 3 = some i := by
    have h : (Try.prog.info? 3).isSome = true := by kernel_rfl
    exact Option.isSome_iff_exists.1 h
  have hc : Try.prog.cellsOf 3 = 1 := by kernel_rfl
  have key : (Op.equalIn 10000 45 (.agg #[.int .i64 a, .int .i64 b]) (.agg #[.int .i64 c, .int .i64 d])).run Try.prog w = .ok (decide (a = c ∧ b = d)) w := by
    rw [run_equalIn_array w 9999 _ _ Try.underlying45 hi, hc]
    have hr : List.range 2 = [0, 1] := rfl
    rw [hr]
    simp [go_sem, Op.eqItems]
    by_cases h1 : a = c <;> by_cases h2 : b = d <;> simp [h1, h2]
  have key2 : (Op.equal 45 (.agg #[.int .i64 a, .int .i64 b]) (.agg #[.int .i64 c, .int .i64 d])).run Try.prog w = .ok (decide (a = c ∧ b = d)) w := key
  simp only [binOp]
  simp [key2]
def brB (l : List (Int × Int)) (a b : Int) : Bool := decide ((a, b) ∈ l ∨ (b, a) ∈ l)

set_option maxHeartbeats 4000000 in
set_option maxRecDepth 100000 in
theorem rBarred_any (l : List (Int × Int)) (ao : Option Addr) (cap : Nat) (a b : Int) (w : World) (B : Nat) (h : isTw w B ao cap l) :
    Calls Try.prog 16 #[.slice ao l.length cap, .int .i64 a, .int .i64 b] w fun e w' => e = .returned (.bool (brB l a b)) ∧ w' = w := by
  have hle := h.le
  have hmx := h.mx
  unfold maxLen at hmx
  obtain ⟨L, hL⟩ : ∃ L, L = l.length := ⟨_, rfl⟩
  rw [← hL] at hle ⊢
  obtain ⟨R, hR⟩ : ∃ R, R = brB l a b := ⟨_, rfl⟩
  rw [← hR]
  have HL := hide hL
  have HR := hide hR
  have HH := hide h
  clear hL hR h
  go_enter Try.func16, Try.ntmps16
  go_wp2
  go_loopw [7] (fun iv wr => ∃ i : Nat, i ≤ L ∧ iv = .int .i64 (i : Int) ∧ Hid (brB (l.take i) a b = false) ∧ wr = w) (fun iv _ => L - (intOf iv).toNat)
  case atStart => exact ⟨0, Nat.zero_le _, rfl, hide (by simp [brB]), rfl⟩
  case round =>
    obtain ⟨i, hi, rfl, HI, hwe⟩ := hrel
    replace hwe := hwe.symm
    subst hwe
    by_cases hil : i < L
    · have hii : (i : Int) < (L : Int) := by omega
      have hi0 : (0 : Int) ≤ (i : Int) := by omega
      obtain ⟨⟨za, zb⟩, hz⟩ : ∃ z, l[i]? = some z := ⟨l[i]'(by rw [← unhide HL]; exact hil), List.getElem?_eq_getElem _⟩
      obtain ⟨g, off, rfl, hg, c1, c2⟩ := (unhide HH).at_ hz
      have hst : brB (l.take (i + 1)) a b = (decide (za = a ∧ zb = b) || decide (za = b ∧ zb = a)) := by
        have h0 := unhide HI
        unfold brB at h0 ⊢
        rw [List.take_add_one, hz]
        simp only [decide_eq_false_iff_not, not_or] at h0
        simp only [Option.toList_some, List.mem_append, h0.1, h0.2, false_or, List.mem_singleton, Prod.mk.injEq]
        by_cases e1 : za = a ∧ zb = b
        · simp [e1]
        · by_cases e2 : za = b ∧ zb = a
          · simp [e2]
          · have e1' : ¬ (a = za ∧ b = zb) := fun e => e1 ⟨e.1.symm, e.2.symm⟩
            have e2' : ¬ (b = za ∧ a = zb) := fun e => e2 ⟨e.1.symm, e.2.symm⟩
            simp [e1, e2, e1', e2']
      have q1 := fun u => eqTwo u za zb a b
      have q2 := fun u => eqTwo u za zb b a
      cases k1 : decide (za = a ∧ zb = b) with
      | true =>
        have HE : Hid (R = true) := hide (by
          rw [unhide HR]
          unfold brB
          have := of_decide_eq_true k1
          rw [this.1, this.2] at hz
          exact decide_eq_true (.inl (List.mem_of_getElem? hz)))
        simp only [k1] at q1
        clear k1 q2 hst hz
        go_wp2
        go_ret
        exact ⟨ret_bool (by rw [unhide HE]), rfl⟩
      | false =>
        simp only [k1] at q1
        cases k2 : decide (za = b ∧ zb = a) with
        | true =>
          have HE : Hid (R = true) := hide (by
            rw [unhide HR]
            unfold brB
            have := of_decide_eq_true k2
            rw [this.1, this.2] at hz
            exact decide_eq_true (.inr (List.mem_of_getElem? hz)))
          simp only [k2] at q2
          clear k1 k2 hst hz
          go_wp2
          go_ret
          exact ⟨ret_bool (by rw [unhide HE]), rfl⟩
        | false =>
          have HN : Hid (brB (l.take (i + 1)) a b = false) := hide (by rw [hst, k1, k2]; rfl)
          simp only [k2] at q2
          clear k1 k2 hst hz
          go_wp2
          go_roundw
          case rel => exact ⟨i + 1, by omega, by go_num, HN, trivial⟩
          case measure => simp only [intOf]; omega
    · obtain rfl : i = L := by omega
      have hii : ¬ (i : Int) < (i : Int) := by omega
      have HE : Hid (R = false) := hide (by
        rw [unhide HR]
        have := unhide HI
        rwa [unhide HL, List.take_length] at this)
      go_wp2
      go_ret
      exact ⟨ret_bool (by rw [unhide HE]), rfl⟩
end Go.Proofs.Ytppkejblhkbkjaa
