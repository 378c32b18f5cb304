/-
  What package gameref asks of a position, walked: Big, Small, hand, Position: the same as board.Check asks.
  The reference's small functions: abs, owner, mark.
  Plain mathematics: pieces in a row, counted along a ray and cell by cell.
  package gameref, walked: lined.
-/
import Derived.Test.YtihojhfpepbjhaaGreatDoorJ1
import Derived.Test.YtihojhfpepbjhaaGreatDoorV21
import Derived.Test.YtihojhfpepbjhaaGreatDoorJ5
import Derived.Test.YtihojhfpepbjhaaGreatDoorJ9
import Derived.BigQuiet
import Derived.Deep.Cut
import Derived.Deep.CutRange
namespace Go.Proofs.YtihojhfpepbjhaaGreatDoor
open Go.RowKit

def smallB (c : Int) : Bool := decide (97 ≤ c) && decide (c ≤ 122)

set_option maxHeartbeats 400000 in
theorem Big_any (c : Int) (w : World) :
    Calls Tryz.prog 31 #[.int .u8 c] w fun e w' => e = .returned (.bool (capB c)) ∧ w' = w := by
  go_enter Tryz.func31, Tryz.ntmps31
  go_wp2
  all_goals go_ret
  all_goals refine ⟨ret_bool ?_, rfl⟩
  all_goals (unfold capB; simp; try omega)

set_option maxHeartbeats 400000 in
theorem Small_any (c : Int) (w : World) :
    Calls Tryz.prog 62 #[.int .u8 c] w fun e w' => e = .returned (.bool (smallB c)) ∧ w' = w := by
  go_enter Tryz.func62, Tryz.ntmps62
  go_wp2
  all_goals go_ret
  all_goals refine ⟨ret_bool ?_, rfl⟩
  all_goals (unfold smallB; simp; try omega)

/-- The byte ahead of the k-th one, or 'A'. -/
def prevI (s : ByteArray) (k : Nat) : Int := if k = 0 then 65 else ((s.data.toList.getD (k - 1) 0).toNat : Int)
theorem prevI_succ (s : ByteArray) (k : Nat) (h : k < s.size) : prevI s (k + 1) = (s[k].toNat : Int) := by
  unfold prevI
  rw [if_neg (by omega), Nat.add_sub_cancel, List.getD_eq_getElem?_getD, List.getElem?_eq_getElem (by rw [len_data]; exact h)]
  rfl

set_option maxHeartbeats 1000000 in
theorem refHand_any (s : ByteArray) (w : World) (hs : s.size ≤ maxLen) :
    Calls Tryz.prog 61 #[.string s] w fun e w' => e = .returned (.bool (handB s.data.toList)) ∧ ∃ n, w' = w.drewN n := by
  unfold maxLen at hs
  by_cases hn : s.size ≤ 8
  · go_enter Tryz.func61, Tryz.ntmps61
    go_wp2
    go_loopw [3] (fun i wr => ∃ (k : Nat), k ≤ s.size ∧ i = .int .i64 k ∧ handB s.data.toList = capsB (prevI s k) (s.data.toList.drop k) ∧ ∃ n, wr = w.drewN n) (fun i _ => s.size - (intOf i).toNat)
    case atStart => exact ⟨0, Nat.zero_le _, rfl, by simp [handB, hn, prevI], 0, rfl⟩
    case round =>
      obtain ⟨k, hk, rfl, hc, hw⟩ := hrel
      have HW : Hid (∀ m, ∃ n, wr.drewN m = w.drewN n) := by
        obtain ⟨n, hn'⟩ := hw
        exact fun m => ⟨n + m, by rw [hn', World.drewN_drewN]⟩
      have HW0 := hide hw
      have HC := hide hc
      clear hc hw
      by_cases hlt : k < s.size
      · have HS := hide (drop_cons s k hlt)
        have HP := hide (prevI_succ s k hlt)
        have i0 : (0 : Int) ≤ (k : Int) := by omega
        have i1 : (k : Int) < (s.size : Int) := by omega
        cases hcap : capB ↑s[k].toNat with
        | false =>
          go_wp2
          go_quiet ((go_at_call 31; exact Calls.quiet_of_same (Big_any _ _)))
          go_wp2
          go_ret
          exact ⟨ret_bool (by rw [unhide HC, unhide HS]; simp [capsB, hcap]), unhide HW _⟩
        | true =>
          by_cases hk0 : k = 0
          · subst hk0
            have HP0 : Hid (prevI s 0 = 65) := rfl
            go_wp2
            go_quiet ((go_at_call 31; exact Calls.quiet_of_same (Big_any _ _)))
            go_wp2
            go_roundw
            case rel =>
              refine ⟨0 + 1, by omega, by go_num, ?_, unhide HW _⟩
              rw [unhide HC, unhide HS, unhide HP, unhide HP0]
              have h65 : (65 : Int) ≤ ↑s[0].toNat := by simp only [capB, Bool.and_eq_true, decide_eq_true_eq] at hcap; exact hcap.1
              simp [capsB, hcap, h65]
            case measure => simp [intOf]; omega
          · obtain ⟨j, rfl⟩ : ∃ j, k = j + 1 := ⟨k - 1, by omega⟩
            have j0 : (0 : Int) ≤ (j : Int) := by omega
            have j1 : (j : Int) < (s.size : Int) := by omega
            have j2 : j < s.size := by omega
            have j3 : (0 : Int) < (j : Int) + 1 := by omega
            have j4 : (0 : Int) ≤ (j : Int) + 1 := by omega
            have j5 : (j : Int) + 1 < (s.size : Int) := by omega
            have HPj := hide (prevI_succ s j j2)
            go_wp2
            go_quiet ((go_at_call 31; exact Calls.quiet_of_same (Big_any _ _)))
            go_wp2
            · have h1 : s[j + 1].toNat < s[j].toNat := by assumption
              go_ret
              refine ⟨ret_bool ?_, unhide HW _⟩
              rw [unhide HC, unhide HS, unhide HPj]
              have hd : decide ((s[j].toNat : Int) ≤ (s[j + 1].toNat : Int)) = false := by simp; omega
              simp only [capsB, hd, Bool.and_false, Bool.false_and]
            · have h1 : ¬ s[j + 1].toNat < s[j].toNat := by assumption
              go_roundw
              case rel =>
                refine ⟨j + 1 + 1, by omega, by go_num, ?_, unhide HW _⟩
                rw [unhide HC, unhide HS, unhide HPj, unhide HP]
                have hd : decide ((s[j].toNat : Int) ≤ (s[j + 1].toNat : Int)) = true := by simp; omega
                simp only [capsB, hd, hcap, Bool.and_true, Bool.true_and]
              case measure => simp [intOf]; omega
      · go_wp2
        go_ret
        exact ⟨ret_bool (by rw [unhide HC, drop_all s k (by omega)]; rfl), unhide HW0⟩
  · go_enter Tryz.func61, Tryz.ntmps61
    go_wp2
    go_ret
    exact ⟨ret_bool (by simp [handB, hn]), 0, rfl⟩

theorem cellB_alt (c : Int) : cellB c = (decide (c = 46) || capB c || smallB c) := rfl

/-- All of the position but its cells. -/
def headB (W H : Int) (n : Nat) (T : Int) (A B : List UInt8) : Bool :=
  sideB W && sideB H && decide ((n : Int) = W * H) && (decide (T = 0) || decide (T = 1)) && handB A && handB B
theorem posB_alt (W H : Int) (C : List UInt8) (T : Int) (A B : List UInt8) : posB W H C T A B = (headB W H C.length T A B && cellsB C) := by
  unfold posB headB
  cases sideB W <;> cases sideB H <;> cases decide ((C.length : Int) = W * H) <;> cases cellsB C <;> cases (decide (T = 0) || decide (T = 1)) <;> cases handB A <;> cases handB B <;> rfl

set_option maxHeartbeats 2000000 in
theorem refPosition_head (W H T : Int) (C A B : ByteArray) (w : World) (hA : A.size ≤ maxLen) (hB : B.size ≤ maxLen) (h : headB W H C.size T A.data.toList B.data.toList = false) :
    Calls Tryz.prog 30 #[.agg #[.int .i64 W, .int .i64 H, .string C, .int .i64 T, .string A, .string B]] w fun e w' => e = .returned (.bool false) ∧ Below w.heap.size w w' := by
  have HH := hide h
  clear h
  go_enter Tryz.func30, Tryz.ntmps30
  go_wp2_with (go_at_call 61; refine (refHand_any _ _ ?_).mono ?_; assumption; rintro e w' ⟨rfl, n, rfl⟩)
  all_goals first
    | (exfalso; have hw := wrapWH W H; have h := unhide HH; simp_all [headB, sideB]; done)
    | go_ret
  all_goals refine ⟨rfl, ?_⟩
  all_goals first
    | exact (Below.refl _ _).alloc (Nat.le_refl _) _
    | exact below_drewN ((Below.refl _ _).alloc (Nat.le_refl _) _) _
    | exact below_drewN (below_drewN ((Below.refl _ _).alloc (Nat.le_refl _) _) _) _

end Go.Proofs.YtihojhfpepbjhaaGreatDoor

namespace Go.Proofs.YtihojhfpepbjhaaGreatDoor
open Go.RowKit
attribute [local go_sem ↓] Go.wp_at_zero Go.wp_at_succ

theorem rAbs_any (n : Int) (w : World) (hn : -1000 ≤ n ∧ n ≤ 1000) :
    Calls Tryz.prog 178 #[.int .i64 n] w fun e w' => e = .returned (.int .i64 (n.natAbs : Nat)) ∧ w' = w := by
  by_cases h : n < 0
  · have e : ((n.natAbs : Nat) : Int) = -n := by omega
    rw [e]
    clear e
    go_enter Tryz.func178, Tryz.ntmps178
    go_wp2
    go_ret
    exact ⟨rfl, rfl⟩
  · have e : ((n.natAbs : Nat) : Int) = n := by omega
    rw [e]
    clear e
    go_enter Tryz.func178, Tryz.ntmps178
    go_wp2
    go_ret
    exact ⟨rfl, rfl⟩
/-- Whose is a byte? 2: nobody's. -/
def rownI (c : Int) : Int := if capB c then 0 else if smallB c then 1 else 2
theorem rOwner_any (c : Int) (w : World) :
    Calls Tryz.prog 147 #[.int .u8 c] w fun e w' => e = .returned (.int .i64 (rownI c)) ∧ w' = w := by
  have HB := hide (fun u => Big_any c u)
  have HS := hide (fun u => Small_any c u)
  obtain ⟨R, hR⟩ : ∃ R, R = rownI c := ⟨_, rfl⟩
  rw [← hR]
  unfold rownI at hR
  have HR := hide hR
  clear hR
  generalize capB c = b at *
  generalize smallB c = s at *
  cases b with
  | true =>
    go_enter Tryz.func147, Tryz.ntmps147
    go_wp2_with fail
    refine (unhide HB _).mono ?_
    rintro e w1 ⟨rfl, rfl⟩
    go_wp2
    go_ret
    exact ⟨by rw [unhide HR]; rfl, rfl⟩
  | false =>
    cases s with
    | true =>
      go_enter Tryz.func147, Tryz.ntmps147
      go_wp2_with fail
      refine (unhide HB _).mono ?_
      rintro e w1 ⟨rfl, rfl⟩
      go_wp2_with fail
      refine (unhide HS _).mono ?_
      rintro e w1 ⟨rfl, rfl⟩
      go_wp2
      go_ret
      exact ⟨by rw [unhide HR]; rfl, rfl⟩
    | false =>
      go_enter Tryz.func147, Tryz.ntmps147
      go_wp2_with fail
      refine (unhide HB _).mono ?_
      rintro e w1 ⟨rfl, rfl⟩
      go_wp2_with fail
      refine (unhide HS _).mono ?_
      rintro e w1 ⟨rfl, rfl⟩
      go_wp2
      go_ret
      exact ⟨by rw [unhide HR]; rfl, rfl⟩
/-- The byte of a piece of a player. -/
theorem rMark_0 (c : UInt8) (w : World) :
    Calls Tryz.prog 110 #[.int .u8 (c.toNat : Int), .int .i64 0] w fun e w' => e = .returned (.string ⟨#[c]⟩) ∧ Below w.heap.size w w' := by
  have hcv := conv1r w c
  go_enter Tryz.func110, Tryz.ntmps110
  go_wp2
  go_ret
  exact ⟨rfl, (Below.refl _ w).alloc (Nat.le_refl _) _⟩
theorem rMark_1 (c x : UInt8) (w : World) (hx : c.toNat + 32 = x.toNat) :
    Calls Tryz.prog 110 #[.int .u8 (c.toNat : Int), .int .i64 1] w fun e w' => e = .returned (.string ⟨#[x]⟩) ∧ Below w.heap.size w w' := by
  have hcv := conv1r w x
  have h8 := x.toNat_lt
  have hxi : (c.toNat : Int) + 32 = (x.toNat : Int) := by omega
  go_enter Tryz.func110, Tryz.ntmps110
  go_wp2
  go_ret
  exact ⟨rfl, (Below.refl _ w).alloc (Nat.le_refl _) _⟩
end Go.Proofs.YtihojhfpepbjhaaGreatDoor

namespace Go.Proofs.YtihojhfpepbjhaaGreatDoor

/-- How many in a row from a cell on: m of them at least just where the first m behind it are the player's. -/
theorem count_ray (W H : Nat) (own : Nat → Bool) (dx dy : Int) : ∀ (f m : Nat) (x y : Int), m ≤ f → (m ≤ (rayL W H own dx dy f x y).countP own ↔ ∀ i, 1 ≤ i → i ≤ m → inP W H dx dy x y i ∧ own (ptN W dx dy x y i) = true)
  | f, 0, x, y, _ => ⟨fun _ i a b => by omega, fun _ => Nat.zero_le _⟩
  | 0, m + 1, x, y, h => by omega
  | f + 1, m + 1, x, y, h => by
    rw [rayL]
    have ih := count_ray W H own dx dy f m (x + dx) (y + dy) (by omega)
    by_cases hin : 0 ≤ x + dx ∧ x + dx < W ∧ 0 ≤ y + dy ∧ y + dy < H
    · rw [if_pos hin, ← ptN_one]
      have hin1 := (inP_one W H dx dy x y).2 hin
      by_cases hon : own (ptN W dx dy x y 1) = true
      · rw [if_pos hon, List.countP_cons, if_pos hon]
        constructor
        · intro h' i a b
          by_cases hi : i = 1
          · rw [hi]; exact ⟨hin1, hon⟩
          · obtain ⟨k, rfl⟩ : ∃ k, i = k + 1 := ⟨i - 1, by omega⟩
            have := ih.1 (by omega) k (by omega) (by omega)
            rw [inP_succ, ptN_succ] at this
            exact this
        · intro h'
          have := ih.2 fun i a b => by rw [inP_succ, ptN_succ]; exact h' (i + 1) (by omega) (by omega)
          omega
      · rw [if_neg hon]
        constructor
        · intro h'; simp [hon] at h'
        · intro h'; exact absurd (h' 1 (by omega) (by omega)).2 hon
    · rw [if_neg hin]
      constructor
      · intro h'; simp at h'
      · intro h'; exact absurd ((inP_one W H dx dy x y).1 (h' 1 (by omega) (by omega)).1) hin
/-- Whose is the byte of a cell? -/
theorem own_rown : ∀ c : Nat, c < 256 → cellB (c : Int) = true → ∀ P : Nat, P ≤ 1 → ownB P c = decide (rownI (c : Int) = (P : Int)) := by
  have h : ∀ c : Nat, c < 256 → cellB (c : Int) = true → (ownB 0 c = decide (rownI (c : Int) = ((0 : Nat) : Int)) ∧ ownB 1 c = decide (rownI (c : Int) = ((1 : Nat) : Int))) := by decide +kernel
  intro c hc hb P hP
  rcases (by omega : P = 0 ∨ P = 1) with rfl | rfl
  · exact (h c hc hb).1
  · exact (h c hc hb).2
instance decInP (W H : Nat) (dx dy x y : Int) (k : Nat) : Decidable (inP W H dx dy x y k) := inferInstanceAs (Decidable (_ ∧ _))
/-- Are so many in a row from a cell on the player's? -/
def rowB (W H P : Nat) (C : ByteArray) (x y dx dy : Int) (n : Nat) : Bool := (List.range n).all fun k => decide (inP W H dx dy x y k) && decide (rownI (cellN C (ptN W dx dy x y k) : Nat) = (P : Int))
def lineAt (W H P : Nat) (C : ByteArray) (n : Nat) (y x : Nat) : Bool := dirs4.any fun d => rowB W H P C x y d.1 d.2 n
def linedB (W H P : Nat) (C : ByteArray) (n : Nat) : Bool := (List.range H).any fun y => (List.range W).any fun x => lineAt W H P C n y x
theorem inP_zero (W H : Nat) (dx dy x y : Int) : inP W H dx dy x y 0 ↔ (0 ≤ x ∧ x < W ∧ 0 ≤ y ∧ y < H) := by unfold inP; simp
theorem pt_zero (W from_ : Nat) (dx dy : Int) : ptN W dx dy ((from_ % W : Nat) : Int) ((from_ / W : Nat) : Int) 0 = from_ := by
  unfold ptN
  have hf : ((from_ / W : Nat) : Int) * W + ((from_ % W : Nat) : Int) = (from_ : Int) := by
    have := Nat.div_add_mod from_ W
    rw [Nat.mul_comm] at this
    rw [← Int.natCast_mul, ← Int.natCast_add, this]
  simp only [Int.natCast_zero, Int.zero_mul, Int.add_zero, hf]
  rfl
theorem inP_pt {W H : Nat} {dx dy x y : Int} {k : Nat} (h : inP W H dx dy x y k) : ptN W dx dy x y k < W * H := by
  obtain ⟨h0, h1, h2, h3⟩ := h
  exact (cell_no h0 h1 h2 h3).2
theorem line_iff {W H P : Nat} {C : ByteArray} {from_ n : Nat} {d : Int × Int} (hP : P ≤ 1) (hW : 1 ≤ W) (hf : from_ < W * H) (hn : 1 ≤ n ∧ n ≤ 8) (hC : ∀ c, c < W * H → cellB (cellN C c : Nat) = true ∧ cellN C c < 256) :
    (ownB P (cellN C from_) && decide ((n : Int) ≤ (lineN W H P C from_ d.1 d.2 : Nat))) = rowB W H P C ((from_ % W : Nat) : Int) ((from_ / W : Nat) : Int) d.1 d.2 n := by
  rw [Bool.eq_iff_iff]
  have hcnt := count_ray W H (fun c => ownB P (cellN C c)) d.1 d.2 8 (n - 1) ((from_ % W : Nat) : Int) ((from_ / W : Nat) : Int) (by omega)
  have a1 : from_ % W < W := Nat.mod_lt _ hW
  have a3 : from_ / W < H := Nat.div_lt_of_lt_mul hf
  have e0 : ∀ c, c < W * H → (ownB P (cellN C c) = true ↔ rownI (cellN C c : Nat) = (P : Int)) := fun c hc => by rw [own_rown _ (hC c hc).2 (hC c hc).1 P hP]; simp
  simp only [Bool.and_eq_true, decide_eq_true_eq, rowB, List.all_eq_true, List.mem_range]
  have hl : ((n : Int) ≤ (lineN W H P C from_ d.1 d.2 : Nat)) ↔ n - 1 ≤ (rayL W H (fun c => ownB P (cellN C c)) d.1 d.2 8 ((from_ % W : Nat) : Int) ((from_ / W : Nat) : Int)).countP (fun c => ownB P (cellN C c)) := by unfold lineN; omega
  rw [hl, hcnt]
  constructor
  · rintro ⟨h0, h1⟩ k hk
    by_cases hk0 : k = 0
    · subst hk0
      refine ⟨(inP_zero ..).2 ⟨Int.natCast_nonneg _, by exact_mod_cast a1, Int.natCast_nonneg _, by exact_mod_cast a3⟩, ?_⟩
      rw [pt_zero]; exact (e0 _ hf).1 h0
    · obtain ⟨q1, q2⟩ := h1 k (by omega) (by omega)
      exact ⟨q1, (e0 _ (inP_pt q1)).1 q2⟩
  · intro h
    constructor
    · have := (h 0 (by omega)).2
      rw [pt_zero] at this
      exact (e0 _ hf).2 this
    · intro i a b
      obtain ⟨q1, q2⟩ := h i (by omega)
      exact ⟨q1, (e0 _ (inP_pt q1)).2 q2⟩
theorem lined_eq {W H P : Nat} {C : ByteArray} {n : Nat} (hP : P ≤ 1) (hW : 1 ≤ W) (hn : 1 ≤ n ∧ n ≤ 8) (hC : ∀ c, c < W * H → cellB (cellN C c : Nat) = true ∧ cellN C c < 256) : hasLineB W H P C n = linedB W H P C n := by
  have hat : ∀ c, c < W * H → lineFromB W H P C n c = lineAt W H P C n (c / W) (c % W) := by
    intro c hc
    unfold lineFromB lineAt dirs4
    simp only [List.any_cons, List.any_nil]
    have e := fun d => line_iff (d := d) hP hW hc hn hC
    rw [← e (1, 0), ← e (0, 1), ← e (1, 1), ← e (-1, 1)]
    cases ownB P (cellN C c) <;> simp
  unfold hasLineB linedB
  rw [Bool.eq_iff_iff]
  simp only [List.any_eq_true, List.mem_range]
  constructor
  · rintro ⟨c, hc, h⟩
    rw [hat c hc] at h
    exact ⟨c / W, Nat.div_lt_of_lt_mul hc, c % W, Nat.mod_lt _ hW, h⟩
  · rintro ⟨y, hy, x, hx, h⟩
    have hc : y * W + x < W * H := by
      have : (y + 1) * W ≤ H * W := Nat.mul_le_mul_right _ (by omega)
      rw [Nat.add_mul, Nat.one_mul] at this
      rw [Nat.mul_comm W H]; omega
    refine ⟨y * W + x, hc, ?_⟩
    rw [hat _ hc]
    have hm : (y * W + x) % W = x := by rw [Nat.mul_comm, Nat.mul_add_mod]; exact Nat.mod_eq_of_lt hx
    have hd : (y * W + x) / W = y := by rw [Nat.mul_comm, Nat.mul_add_div (by omega), Nat.div_eq_of_lt hx]; rfl
    rw [hm, hd]; exact h
end Go.Proofs.YtihojhfpepbjhaaGreatDoor

namespace Go.Proofs.YtihojhfpepbjhaaGreatDoor
open Go.RowKit
attribute [local go_sem ↓] Go.wp_at_zero Go.wp_at_succ

theorem rowB_succ (W H P : Nat) (C : ByteArray) (x y dx dy : Int) (k : Nat) : rowB W H P C x y dx dy (k + 1) = (rowB W H P C x y dx dy k && (decide (inP W H dx dy x y k) && decide (rownI (cellN C (ptN W dx dy x y k) : Nat) = (P : Int)))) := by
  unfold rowB; rw [List.range_succ, List.all_append]; simp
theorem anyR_succ (f : Nat → Bool) (n : Nat) : (List.range (n + 1)).any f = ((List.range n).any f || f n) := by rw [List.range_succ, List.any_append]; simp
/-- The four ways in which pieces can be in a row. -/
theorem dir_at (d : Nat) (hd : d < 4) : ∃ dx dy : Int, dirs4[d]? = some (dx, dy) ∧ (-1 ≤ dx ∧ dx ≤ 1) ∧ (0 ≤ dy ∧ dy ≤ 1) ∧ ((d = 0 ∧ dx = 1 ∧ dy = 0) ∨ (d = 1 ∧ dx = 0 ∧ dy = 1) ∨ (d = 2 ∧ dx = 1 ∧ dy = 1) ∨ (d = 3 ∧ dx = -1 ∧ dy = 1)) := by
  rcases (by omega : d = 0 ∨ d = 1 ∨ d = 2 ∨ d = 3) with rfl | rfl | rfl | rfl
  · exact ⟨1, 0, rfl, by omega, by omega, by omega⟩
  · exact ⟨0, 1, rfl, by omega, by omega, by omega⟩
  · exact ⟨1, 1, rfl, by omega, by omega, by omega⟩
  · exact ⟨-1, 1, rfl, by omega, by omega, by omega⟩
theorem takeD_succ {f : Int × Int → Bool} {d : Nat} {x : Int × Int} (h : dirs4[d]? = some x) : (dirs4.take (d + 1)).any f = ((dirs4.take d).any f || f x) := by
  have hd : d < dirs4.length := (List.getElem?_eq_some_iff.1 h).1
  have he : dirs4[d] = x := (List.getElem?_eq_some_iff.1 h).2
  rw [List.take_succ_eq_append_getElem hd, List.any_append, he]; simp
theorem quad0 (a b c d : Int) (w : World) : (Instr.index 197 (.agg #[.int .i64 a, .int .i64 b, .int .i64 c, .int .i64 d]) (.int .i64 0)).run Tryz.prog w = .ok (.int .i64 a) w := by kernel_rfl
theorem quad1 (a b c d : Int) (w : World) : (Instr.index 197 (.agg #[.int .i64 a, .int .i64 b, .int .i64 c, .int .i64 d]) (.int .i64 1)).run Tryz.prog w = .ok (.int .i64 b) w := by kernel_rfl
theorem quad2 (a b c d : Int) (w : World) : (Instr.index 197 (.agg #[.int .i64 a, .int .i64 b, .int .i64 c, .int .i64 d]) (.int .i64 2)).run Tryz.prog w = .ok (.int .i64 c) w := by kernel_rfl
theorem quad3 (a b c d : Int) (w : World) : (Instr.index 197 (.agg #[.int .i64 a, .int .i64 b, .int .i64 c, .int .i64 d]) (.int .i64 3)).run Tryz.prog w = .ok (.int .i64 d) w := by kernel_rfl
set_option maxHeartbeats 4000000 in
set_option maxRecDepth 100000 in
theorem rLined_any (W H P n : Nat) (T : Int) (C A B : ByteArray) (w : World) (hW : 1 ≤ W ∧ W ≤ 8) (hH : 1 ≤ H ∧ H ≤ 8) (hC : C.size = W * H) (hn : n ≤ 8) :
    Calls Tryz.prog 112 #[.agg #[.int .i64 (W : Int), .int .i64 (H : Int), .string C, .int .i64 T, .string A, .string B], .int .i64 (P : Int), .int .i64 (n : Int)] w fun e w' => e = .returned (.bool (linedB W H P C n)) ∧ Below w.heap.size w w' := by
  obtain ⟨R, hR⟩ : ∃ R, R = linedB W H P C n := ⟨_, rfl⟩
  rw [← hR]
  have HR := hide hR
  obtain ⟨w1, hw1⟩ : ∃ w1, w1 = w.alloc (.cells #[.int .i64 (W : Int), .int .i64 (H : Int), .string C, .int .i64 T, .string A, .string B] 24 (0, 0)) := ⟨_, rfl⟩
  have hbw : Below w.heap.size w w1 := by rw [hw1]; exact (Below.refl _ _).alloc (Nat.le_refl _) _
  have hpb : isPb w1 w.heap.size W H T C A B := by rw [hw1]; exact heap_alloc_new w _
  have HBW := hide hbw
  have HPB := hide hpb
  obtain ⟨p0, p1, p2, -⟩ := hpb.all
  clear hR hbw hpb
  go_enter Tryz.func112, Tryz.ntmps112
  go_wp2
  rw [← hw1]
  clear hw1
  go_loopw [7] (fun iv wr => ∃ y : Nat, iv = .int .i64 (y : Int) ∧ y ≤ H ∧ (List.range y).any (fun y => (List.range W).any fun x => lineAt W H P C n y x) = false ∧ isPb wr w.heap.size W H T C A B ∧ Below w.heap.size w wr) (fun iv _ => H - (intOf iv).toNat)
  case atStart => exact ⟨0, rfl, Nat.zero_le _, rfl, unhide HPB, unhide HBW⟩
  case round =>
    obtain ⟨y, rfl, hy, hno, hpb, hbw⟩ := hrel
    clear HPB HBW p0 p1 p2
    obtain ⟨p0, p1, p2, -⟩ := hpb.all
    have HPB := hide hpb
    have HBW := hide hbw
    have HNO := hide hno
    clear hpb hbw hno
    by_cases hyl : y < H
    · have hyli : (y : Int) < (H : Int) := by omega
      go_wp2
      go_loopw [8] (fun iv wr => ∃ x : Nat, iv = .int .i64 (x : Int) ∧ x ≤ W ∧ (List.range x).any (fun x => lineAt W H P C n y x) = false ∧ isPb wr w.heap.size W H T C A B ∧ Below w.heap.size w wr) (fun iv _ => W - (intOf iv).toNat)
      case atStart => exact ⟨0, rfl, Nat.zero_le _, rfl, unhide HPB, unhide HBW⟩
      case round =>
        obtain ⟨x, rfl, hx, hno, hpb, hbw⟩ := hrel
        clear HPB HBW p0 p1 p2
        obtain ⟨p0, p1, p2, -⟩ := hpb.all
        have HPB := hide hpb
        have HBW := hide hbw
        have HNX := hide hno
        clear hpb hbw hno
        by_cases hxl : x < W
        · have hxli : (x : Int) < (W : Int) := by omega
          go_wp2
          go_loopw [9] (fun iv wr => ∃ d : Nat, iv = .int .i64 (d : Int) ∧ d ≤ 4 ∧ (dirs4.take d).any (fun d => rowB W H P C x y d.1 d.2 n) = false ∧ isPb wr w.heap.size W H T C A B ∧ Below w.heap.size w wr) (fun iv _ => 4 - (intOf iv).toNat)
          case atStart => exact ⟨0, rfl, Nat.zero_le _, rfl, unhide HPB, unhide HBW⟩
          case round =>
            obtain ⟨d, rfl, hd, hno, hpb, hbw⟩ := hrel
            clear HPB HBW p0 p1 p2
            obtain ⟨p0, p1, p2, -⟩ := hpb.all
            have HPB := hide hpb
            have HBW := hide hbw
            have HND := hide hno
            clear hpb hbw hno
            by_cases hdl : d < 4
            · have hdli : (d : Int) < 4 := by omega
              obtain ⟨dx, dy, hdd, bx, bY, hcs⟩ := dir_at d hdl
              have HDS := hide (fun f => takeD_succ (f := f) hdd)
              have HCS := hide hcs
              clear hdd hcs
              go_upto_region 10 with fail
              go_cut [10, 11] from 32 to 37 (fun v10 v11 wz => v10 = .int .i64 dx ∧ v11 = .int .i64 dy ∧ ∃ q, wz = wr.drewN q)
              case first =>
                rcases unhide HCS with ⟨rfl, rfl, rfl⟩ | ⟨rfl, rfl, rfl⟩ | ⟨rfl, rfl, rfl⟩ | ⟨rfl, rfl, rfl⟩
                all_goals
                  have f0 := quad0
                  have f1 := quad1
                  have f2 := quad2
                  have f3 := quad3
                  go_region_law (fail)
                  all_goals
                    go_wp2
                    go_meet
                    case rel => exact ⟨rfl, rfl, 1, rfl⟩
              case rest =>
                obtain ⟨rfl, rfl, q, rfl⟩ := hcut
                have hpb : isPb (wr.drewN q) w.heap.size W H T C A B := unhide HPB
                have hbw : Below w.heap.size w (wr.drewN q) := ⟨(unhide HBW).os, (unhide HBW).tape, (unhide HBW).output, (unhide HBW).size, (unhide HBW).block⟩
                generalize wr.drewN q = wr1 at *
                clear p0 p1 p2 HPB HBW HCS
                have HPB := hide hpb
                have HBW := hide hbw
                clear hpb hbw
                go_wp2
                go_loopw [12, 13] (fun av iv wr => ∃ k : Nat, iv = .int .i64 (k : Int) ∧ k ≤ n ∧ av = .bool (rowB W H P C x y dx dy k) ∧ isPb wr w.heap.size W H T C A B ∧ Below w.heap.size w wr) (fun _ iv _ => n - (intOf iv).toNat)
                case atStart => exact ⟨0, rfl, Nat.zero_le _, rfl, unhide HPB, unhide HBW⟩
                case round =>
                  obtain ⟨k, rfl, hk, rfl, hpb, hbw⟩ := hrel
                  clear HPB HBW
                  have HPB := hide hpb
                  have HBW := hide hbw
                  obtain ⟨p0, p1, p2, -⟩ := hpb.all
                  clear hpb hbw
                  by_cases hkn : k < n
                  · have hkni : (k : Int) < (n : Int) := by omega
                    have hsu := rowB_succ W H P C x y dx dy k
                    obtain ⟨al, hal⟩ : ∃ al, al = rowB W H P C x y dx dy k := ⟨_, rfl⟩
                    rw [← hal] at hsu ⊢
                    clear hal
                    obtain ⟨kx, hkx⟩ : ∃ kx, (k : Int) * dx = kx := ⟨_, rfl⟩
                    obtain ⟨ky, hky⟩ : ∃ ky, (k : Int) * dy = ky := ⟨_, rfl⟩
                    have bkx : -8 ≤ kx ∧ kx ≤ 8 := by
                      rcases (by omega : dx = -1 ∨ dx = 0 ∨ dx = 1) with rfl | rfl | rfl <;> omega
                    have bky : 0 ≤ ky ∧ ky ≤ 8 := by
                      rcases (by omega : dy = 0 ∨ dy = 1) with rfl | rfl <;> omega
                    have HSU := hide hsu
                    clear hsu
                    cases al with
                    | false =>
                      have hs2 := unhide HSU
                      rw [Bool.false_and] at hs2
                      have HS2 := hide hs2
                      clear hs2 HSU
                      go_wp2
                      go_roundw
                      case rel => exact ⟨k + 1, by go_num, by omega, by rw [unhide HS2], unhide HPB, unhide HBW⟩
                      case measure => simp only [intOf]; omega
                    | true =>
                      have hs2 := unhide HSU
                      rw [Bool.true_and] at hs2
                      clear HSU
                      have HSU := hide hs2
                      clear hs2
                      by_cases i0 : 0 ≤ (x : Int) + kx
                      · by_cases i1 : (x : Int) + kx < (W : Int)
                        · by_cases i2 : 0 ≤ (y : Int) + ky
                          · by_cases i3 : (y : Int) + ky < (H : Int)
                            · obtain ⟨hcn, hcl⟩ := cell_no i0 i1 i2 i3
                              have hin : inP W H dx dy x y k := by unfold inP; rw [hkx, hky]; exact ⟨i0, i1, i2, i3⟩
                              have hpt : ptN W dx dy x y k = (((y : Int) + ky) * W + ((x : Int) + kx)).toNat := by unfold ptN; rw [hkx, hky]
                              have hs2 := unhide HSU
                              rw [show decide (inP W H dx dy x y k) = true from decide_eq_true hin, Bool.true_and, hpt] at hs2
                              obtain ⟨ya, hya⟩ : ∃ ya, (y : Int) + ky = ya := ⟨_, rfl⟩
                              obtain ⟨xa, hxa⟩ : ∃ xa, (x : Int) + kx = xa := ⟨_, rfl⟩
                              rw [hya, hxa] at hcn hcl hs2
                              obtain ⟨M, hM⟩ : ∃ M, M = (ya * (W : Int) + xa).toNat := ⟨_, rfl⟩
                              rw [← hM] at hcn hcl hs2
                              have hMl : M < C.size := by omega
                              obtain ⟨hcc, h256⟩ := cellN_at C M hMl
                              obtain ⟨N, hN⟩ : ∃ N, N = cellN C M := ⟨_, rfl⟩
                              rw [← hN] at hs2 hcc h256
                              obtain ⟨yw, hyw⟩ : ∃ yw, ya * (W : Int) = yw := ⟨_, rfl⟩
                              rw [hyw] at hcn
                              rw [hxa] at i0 i1
                              rw [hya] at i2 i3
                              have h64 : W * H ≤ 8 * 8 := Nat.mul_le_mul hW.2 hH.2
                              have hcs : (C.size : Int) ≤ 64 := by omega
                              have hM0 : (0 : Int) ≤ (M : Int) ∧ (M : Int) < (C.size : Int) := by omega
                              have HS2 := hide hs2
                              have hmn : min (M : Int) ((W : Int) * (H : Int) - 1) = (M : Int) := by
                                have : ((W * H : Nat) : Int) = (W : Int) * (H : Int) := Int.natCast_mul _ _
                                omega
                              clear hs2 HSU hin hpt hM hN hcl
                              go_wp2_with fail
                              refine (rOwner_any (N : Int) _).mono ?_
                              rintro e u ⟨rfl, rfl⟩
                              go_wp2
                              go_roundw
                              case rel => exact ⟨k + 1, by go_num, by omega, congrArg Value.bool (by rw [unhide HS2, Bool.eq_iff_iff]; simp), unhide HPB, unhide HBW⟩
                              case measure => simp only [intOf]; omega
                            · have hs2 := unhide HSU
                              rw [show (decide (inP W H dx dy x y k)) = false by rw [decide_eq_false_iff_not]; unfold inP; rw [hkx, hky]; omega] at hs2
                              rw [Bool.false_and] at hs2
                              have HS2 := hide hs2
                              clear hs2 HSU
                              go_wp2
                              go_roundw
                              case rel => exact ⟨k + 1, by go_num, by omega, by rw [unhide HS2], unhide HPB, unhide HBW⟩
                              case measure => simp only [intOf]; omega
                          · exact absurd (show 0 ≤ (y : Int) + ky by omega) i2
                        · have hs2 := unhide HSU
                          rw [show (decide (inP W H dx dy x y k)) = false by rw [decide_eq_false_iff_not]; unfold inP; rw [hkx, hky]; omega] at hs2
                          rw [Bool.false_and] at hs2
                          have HS2 := hide hs2
                          clear hs2 HSU
                          go_wp2
                          go_roundw
                          case rel => exact ⟨k + 1, by go_num, by omega, by rw [unhide HS2], unhide HPB, unhide HBW⟩
                          case measure => simp only [intOf]; omega
                      · have hs2 := unhide HSU
                        rw [show (decide (inP W H dx dy x y k)) = false by rw [decide_eq_false_iff_not]; unfold inP; rw [hkx, hky]; omega] at hs2
                        rw [Bool.false_and] at hs2
                        have HS2 := hide hs2
                        clear hs2 HSU
                        go_wp2
                        go_roundw
                        case rel => exact ⟨k + 1, by go_num, by omega, by rw [unhide HS2], unhide HPB, unhide HBW⟩
                        case measure => simp only [intOf]; omega
                  · have hkni : ¬ (k : Int) < (n : Int) := by omega
                    obtain rfl : k = n := by omega
                    have hds := unhide HDS (fun d => rowB W H P C x y d.1 d.2 k)
                    rw [unhide HND, Bool.false_or] at hds
                    obtain ⟨al, hal⟩ : ∃ al, al = rowB W H P C x y dx dy k := ⟨_, rfl⟩
                    rw [← hal] at hds ⊢
                    clear hal
                    have HD2 := hide hds
                    clear hds
                    cases al with
                    | true =>
                      have hRe : R = true := by
                        have h1 : lineAt W H P C k y x = true := by
                          unfold lineAt
                          obtain ⟨q, hq, hf⟩ := List.any_eq_true.1 (unhide HD2)
                          exact List.any_eq_true.2 ⟨q, List.mem_of_mem_take hq, hf⟩
                        rw [unhide HR]
                        unfold linedB
                        exact List.any_eq_true.2 ⟨y, List.mem_range.2 hyl, List.any_eq_true.2 ⟨x, List.mem_range.2 hxl, h1⟩⟩
                      have HRE := hide hRe
                      clear hRe HR
                      go_wp2
                      go_ret
                      exact ⟨by rw [unhide HRE]; rfl, unhide HBW⟩
                    | false =>
                      go_wp2
                      go_roundw
                      case rel => exact ⟨d + 1, by go_num, by omega, unhide HD2, unhide HPB, unhide HBW⟩
                      case measure => simp only [intOf]; omega
            · have hdli : ¬ (d : Int) < 4 := by omega
              have hnx : (List.range (x + 1)).any (fun x => lineAt W H P C n y x) = false := by
                rw [anyR_succ, unhide HNX, Bool.false_or]
                have := unhide HND
                rw [List.take_of_length_le (by show 4 ≤ d; omega)] at this
                exact this
              have HNX2 := hide hnx
              clear hnx
              go_wp2
              go_roundw
              case rel => exact ⟨x + 1, by go_num, by omega, unhide HNX2, unhide HPB, unhide HBW⟩
              case measure => simp only [intOf]; omega
        · have hxli : ¬ (x : Int) < (W : Int) := by omega
          have hny : (List.range (y + 1)).any (fun y => (List.range W).any fun x => lineAt W H P C n y x) = false := by
            rw [anyR_succ, unhide HNO, Bool.false_or]
            have := unhide HNX
            rw [show x = W by omega] at this
            exact this
          have HNO2 := hide hny
          clear hny
          go_wp2
          go_roundw
          case rel => exact ⟨y + 1, by go_num, by omega, unhide HNO2, unhide HPB, unhide HBW⟩
          case measure => simp only [intOf]; omega
    · have hyli : ¬ (y : Int) < (H : Int) := by omega
      have hRe : R = false := by
        rw [unhide HR]
        unfold linedB
        have := unhide HNO
        rw [show y = H by omega] at this
        exact this
      have HRE := hide hRe
      clear hRe HR
      go_wp2
      go_ret
      exact ⟨by rw [unhide HRE]; rfl, unhide HBW⟩
end Go.Proofs.YtihojhfpepbjhaaGreatDoor
