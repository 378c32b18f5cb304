/-
  What package gameref asks of a position, walked: Big, Small, hand, Position: the same as board.Check asks.
  The reference's small functions: abs, owner, mark.
  Plain mathematics: pieces in a row, counted along a ray and cell by cell.
  The document's answer on rules (package gameref), walked: piece, letters.
-/
import Derived.Test.YtihojhfpepbjhaaGreatDoorJ3
import Derived.Test.YtihojhfpepbjhaaGreatDoorJ23
import Derived.Test.YtihojhfpepbjhaaGreatDoorJ7
import Derived.Test.YtihojhfpepbjhaaGreatDoorJ16
import Derived.Test.YtihojhfpepbjhaaGreatDoorJ8
import Derived.Deep.RegionHeld3
namespace Go.Proofs.YtihojhfpepbjhaaGreatDoor
open Go.RowKit

def smallB (c : Int) : Bool := decide (97 ≤ c) && decide (c ≤ 122)

set_option maxHeartbeats 400000 in
theorem Big_any (c : Int) (w : World) :
    Calls Tryz.prog 31 #[.int .u8 c] w fun e w' => e = .returned (.bool (capB c)) ∧ w' = w := by
  go_enter Tryz.func31, Tryz.ntmps31
  go_wp2
  all_goals go_ret
  all_goals refine ⟨ret_bool ?_, rfl⟩
  all_goals (unfold capB; simp; try omega)

set_option maxHeartbeats 400000 in
theorem Small_any (c : Int) (w : World) :
    Calls Tryz.prog 62 #[.int .u8 c] w fun e w' => e = .returned (.bool (smallB c)) ∧ w' = w := by
  go_enter Tryz.func62, Tryz.ntmps62
  go_wp2
  all_goals go_ret
  all_goals refine ⟨ret_bool ?_, rfl⟩
  all_goals (unfold smallB; simp; try omega)

/-- The byte ahead of the k-th one, or 'A'. -/
def prevI (s : ByteArray) (k : Nat) : Int := if k = 0 then 65 else ((s.data.toList.getD (k - 1) 0).toNat : Int)
theorem prevI_succ (s : ByteArray) (k : Nat) (h : k < s.size) : prevI s (k + 1) = (s[k].toNat : Int) := by
  unfold prevI
  rw [if_neg (by omega), Nat.add_sub_cancel, List.getD_eq_getElem?_getD, List.getElem?_eq_getElem (by rw [len_data]; exact h)]
  rfl

set_option maxHeartbeats 1000000 in
theorem refHand_any (s : ByteArray) (w : World) (hs : s.size ≤ maxLen) :
    Calls Tryz.prog 61 #[.string s] w fun e w' => e = .returned (.bool (handB s.data.toList)) ∧ ∃ n, w' = w.drewN n := by
  unfold maxLen at hs
  by_cases hn : s.size ≤ 8
  · go_enter Tryz.func61, Tryz.ntmps61
    go_wp2
    go_loopw [3] (fun i wr => ∃ (k : Nat), k ≤ s.size ∧ i = .int .i64 k ∧ handB s.data.toList = capsB (prevI s k) (s.data.toList.drop k) ∧ ∃ n, wr = w.drewN n) (fun i _ => s.size - (intOf i).toNat)
    case atStart => exact ⟨0, Nat.zero_le _, rfl, by simp [handB, hn, prevI], 0, rfl⟩
    case round =>
      obtain ⟨k, hk, rfl, hc, hw⟩ := hrel
      have HW : Hid (∀ m, ∃ n, wr.drewN m = w.drewN n) := by
        obtain ⟨n, hn'⟩ := hw
        exact fun m => ⟨n + m, by rw [hn', World.drewN_drewN]⟩
      have HW0 := hide hw
      have HC := hide hc
      clear hc hw
      by_cases hlt : k < s.size
      · have HS := hide (drop_cons s k hlt)
        have HP := hide (prevI_succ s k hlt)
        have i0 : (0 : Int) ≤ (k : Int) := by omega
        have i1 : (k : Int) < (s.size : Int) := by omega
        cases hcap : capB ↑s[k].toNat with
        | false =>
          go_wp2
          go_quiet ((go_at_call 31; exact Calls.quiet_of_same (Big_any _ _)))
          go_wp2
          go_ret
          exact ⟨ret_bool (by rw [unhide HC, unhide HS]; simp [capsB, hcap]), unhide HW _⟩
        | true =>
          by_cases hk0 : k = 0
          · subst hk0
            have HP0 : Hid (prevI s 0 = 65) := rfl
            go_wp2
            go_quiet ((go_at_call 31; exact Calls.quiet_of_same (Big_any _ _)))
            go_wp2
            go_roundw
            case rel =>
              refine ⟨0 + 1, by omega, by go_num, ?_, unhide HW _⟩
              rw [unhide HC, unhide HS, unhide HP, unhide HP0]
              have h65 : (65 : Int) ≤ ↑s[0].toNat := by simp only [capB, Bool.and_eq_true, decide_eq_true_eq] at hcap; exact hcap.1
              simp [capsB, hcap, h65]
            case measure => simp [intOf]; omega
          · obtain ⟨j, rfl⟩ : ∃ j, k = j + 1 := ⟨k - 1, by omega⟩
            have j0 : (0 : Int) ≤ (j : Int) := by omega
            have j1 : (j : Int) < (s.size : Int) := by omega
            have j2 : j < s.size := by omega
            have j3 : (0 : Int) < (j : Int) + 1 := by omega
            have j4 : (0 : Int) ≤ (j : Int) + 1 := by omega
            have j5 : (j : Int) + 1 < (s.size : Int) := by omega
            have HPj := hide (prevI_succ s j j2)
            go_wp2
            go_quiet ((go_at_call 31; exact Calls.quiet_of_same (Big_any _ _)))
            go_wp2
            · have h1 : s[j + 1].toNat < s[j].toNat := by assumption
              go_ret
              refine ⟨ret_bool ?_, unhide HW _⟩
              rw [unhide HC, unhide HS, unhide HPj]
              have hd : decide ((s[j].toNat : Int) ≤ (s[j + 1].toNat : Int)) = false := by simp; omega
              simp only [capsB, hd, Bool.and_false, Bool.false_and]
            · have h1 : ¬ s[j + 1].toNat < s[j].toNat := by assumption
              go_roundw
              case rel =>
                refine ⟨j + 1 + 1, by omega, by go_num, ?_, unhide HW _⟩
                rw [unhide HC, unhide HS, unhide HPj, unhide HP]
                have hd : decide ((s[j].toNat : Int) ≤ (s[j + 1].toNat : Int)) = true := by simp; omega
                simp only [capsB, hd, hcap, Bool.and_true, Bool.true_and]
              case measure => simp [intOf]; omega
      · go_wp2
        go_ret
        exact ⟨ret_bool (by rw [unhide HC, drop_all s k (by omega)]; rfl), unhide HW0⟩
  · go_enter Tryz.func61, Tryz.ntmps61
    go_wp2
    go_ret
    exact ⟨ret_bool (by simp [handB, hn]), 0, rfl⟩

theorem cellB_alt (c : Int) : cellB c = (decide (c = 46) || capB c || smallB c) := rfl

/-- All of the position but its cells. -/
def headB (W H : Int) (n : Nat) (T : Int) (A B : List UInt8) : Bool :=
  sideB W && sideB H && decide ((n : Int) = W * H) && (decide (T = 0) || decide (T = 1)) && handB A && handB B
theorem posB_alt (W H : Int) (C : List UInt8) (T : Int) (A B : List UInt8) : posB W H C T A B = (headB W H C.length T A B && cellsB C) := by
  unfold posB headB
  cases sideB W <;> cases sideB H <;> cases decide ((C.length : Int) = W * H) <;> cases cellsB C <;> cases (decide (T = 0) || decide (T = 1)) <;> cases handB A <;> cases handB B <;> rfl

set_option maxHeartbeats 2000000 in
theorem refPosition_head (W H T : Int) (C A B : ByteArray) (w : World) (hA : A.size ≤ maxLen) (hB : B.size ≤ maxLen) (h : headB W H C.size T A.data.toList B.data.toList = false) :
    Calls Tryz.prog 30 #[.agg #[.int .i64 W, .int .i64 H, .string C, .int .i64 T, .string A, .string B]] w fun e w' => e = .returned (.bool false) ∧ Below w.heap.size w w' := by
  have HH := hide h
  clear h
  go_enter Tryz.func30, Tryz.ntmps30
  go_wp2_with (go_at_call 61; refine (refHand_any _ _ ?_).mono ?_; assumption; rintro e w' ⟨rfl, n, rfl⟩)
  all_goals first
    | (exfalso; have hw := wrapWH W H; have h := unhide HH; simp_all [headB, sideB]; done)
    | go_ret
  all_goals refine ⟨rfl, ?_⟩
  all_goals first
    | exact (Below.refl _ _).alloc (Nat.le_refl _) _
    | exact below_drewN ((Below.refl _ _).alloc (Nat.le_refl _) _) _
    | exact below_drewN (below_drewN ((Below.refl _ _).alloc (Nat.le_refl _) _) _) _

end Go.Proofs.YtihojhfpepbjhaaGreatDoor

namespace Go.Proofs.YtihojhfpepbjhaaGreatDoor
open Go.RowKit
attribute [local go_sem ↓] Go.wp_at_zero Go.wp_at_succ

theorem rAbs_any (n : Int) (w : World) (hn : -1000 ≤ n ∧ n ≤ 1000) :
    Calls Tryz.prog 178 #[.int .i64 n] w fun e w' => e = .returned (.int .i64 (n.natAbs : Nat)) ∧ w' = w := by
  by_cases h : n < 0
  · have e : ((n.natAbs : Nat) : Int) = -n := by omega
    rw [e]
    clear e
    go_enter Tryz.func178, Tryz.ntmps178
    go_wp2
    go_ret
    exact ⟨rfl, rfl⟩
  · have e : ((n.natAbs : Nat) : Int) = n := by omega
    rw [e]
    clear e
    go_enter Tryz.func178, Tryz.ntmps178
    go_wp2
    go_ret
    exact ⟨rfl, rfl⟩
/-- Whose is a byte? 2: nobody's. -/
def rownI (c : Int) : Int := if capB c then 0 else if smallB c then 1 else 2
theorem rOwner_any (c : Int) (w : World) :
    Calls Tryz.prog 147 #[.int .u8 c] w fun e w' => e = .returned (.int .i64 (rownI c)) ∧ w' = w := by
  have HB := hide (fun u => Big_any c u)
  have HS := hide (fun u => Small_any c u)
  obtain ⟨R, hR⟩ : ∃ R, R = rownI c := ⟨_, rfl⟩
  rw [← hR]
  unfold rownI at hR
  have HR := hide hR
  clear hR
  generalize capB c = b at *
  generalize smallB c = s at *
  cases b with
  | true =>
    go_enter Tryz.func147, Tryz.ntmps147
    go_wp2_with fail
    refine (unhide HB _).mono ?_
    rintro e w1 ⟨rfl, rfl⟩
    go_wp2
    go_ret
    exact ⟨by rw [unhide HR]; rfl, rfl⟩
  | false =>
    cases s with
    | true =>
      go_enter Tryz.func147, Tryz.ntmps147
      go_wp2_with fail
      refine (unhide HB _).mono ?_
      rintro e w1 ⟨rfl, rfl⟩
      go_wp2_with fail
      refine (unhide HS _).mono ?_
      rintro e w1 ⟨rfl, rfl⟩
      go_wp2
      go_ret
      exact ⟨by rw [unhide HR]; rfl, rfl⟩
    | false =>
      go_enter Tryz.func147, Tryz.ntmps147
      go_wp2_with fail
      refine (unhide HB _).mono ?_
      rintro e w1 ⟨rfl, rfl⟩
      go_wp2_with fail
      refine (unhide HS _).mono ?_
      rintro e w1 ⟨rfl, rfl⟩
      go_wp2
      go_ret
      exact ⟨by rw [unhide HR]; rfl, rfl⟩
/-- The byte of a piece of a player. -/
theorem rMark_0 (c : UInt8) (w : World) :
    Calls Tryz.prog 110 #[.int .u8 (c.toNat : Int), .int .i64 0] w fun e w' => e = .returned (.string ⟨#[c]⟩) ∧ Below w.heap.size w w' := by
  have hcv := conv1r w c
  go_enter Tryz.func110, Tryz.ntmps110
  go_wp2
  go_ret
  exact ⟨rfl, (Below.refl _ w).alloc (Nat.le_refl _) _⟩
theorem rMark_1 (c x : UInt8) (w : World) (hx : c.toNat + 32 = x.toNat) :
    Calls Tryz.prog 110 #[.int .u8 (c.toNat : Int), .int .i64 1] w fun e w' => e = .returned (.string ⟨#[x]⟩) ∧ Below w.heap.size w w' := by
  have hcv := conv1r w x
  have h8 := x.toNat_lt
  have hxi : (c.toNat : Int) + 32 = (x.toNat : Int) := by omega
  go_enter Tryz.func110, Tryz.ntmps110
  go_wp2
  go_ret
  exact ⟨rfl, (Below.refl _ w).alloc (Nat.le_refl _) _⟩
end Go.Proofs.YtihojhfpepbjhaaGreatDoor

namespace Go.Proofs.YtihojhfpepbjhaaGreatDoor

/-- How many in a row from a cell on: m of them at least just where the first m behind it are the player's. -/
theorem count_ray (W H : Nat) (own : Nat → Bool) (dx dy : Int) : ∀ (f m : Nat) (x y : Int), m ≤ f → (m ≤ (rayL W H own dx dy f x y).countP own ↔ ∀ i, 1 ≤ i → i ≤ m → inP W H dx dy x y i ∧ own (ptN W dx dy x y i) = true)
  | f, 0, x, y, _ => ⟨fun _ i a b => by omega, fun _ => Nat.zero_le _⟩
  | 0, m + 1, x, y, h => by omega
  | f + 1, m + 1, x, y, h => by
    rw [rayL]
    have ih := count_ray W H own dx dy f m (x + dx) (y + dy) (by omega)
    by_cases hin : 0 ≤ x + dx ∧ x + dx < W ∧ 0 ≤ y + dy ∧ y + dy < H
    · rw [if_pos hin, ← ptN_one]
      have hin1 := (inP_one W H dx dy x y).2 hin
      by_cases hon : own (ptN W dx dy x y 1) = true
      · rw [if_pos hon, List.countP_cons, if_pos hon]
        constructor
        · intro h' i a b
          by_cases hi : i = 1
          · rw [hi]; exact ⟨hin1, hon⟩
          · obtain ⟨k, rfl⟩ : ∃ k, i = k + 1 := ⟨i - 1, by omega⟩
            have := ih.1 (by omega) k (by omega) (by omega)
            rw [inP_succ, ptN_succ] at this
            exact this
        · intro h'
          have := ih.2 fun i a b => by rw [inP_succ, ptN_succ]; exact h' (i + 1) (by omega) (by omega)
          omega
      · rw [if_neg hon]
        constructor
        · intro h'; simp [hon] at h'
        · intro h'; exact absurd (h' 1 (by omega) (by omega)).2 hon
    · rw [if_neg hin]
      constructor
      · intro h'; simp at h'
      · intro h'; exact absurd ((inP_one W H dx dy x y).1 (h' 1 (by omega) (by omega)).1) hin
/-- Whose is the byte of a cell? -/
theorem own_rown : ∀ c : Nat, c < 256 → cellB (c : Int) = true → ∀ P : Nat, P ≤ 1 → ownB P c = decide (rownI (c : Int) = (P : Int)) := by
  have h : ∀ c : Nat, c < 256 → cellB (c : Int) = true → (ownB 0 c = decide (rownI (c : Int) = ((0 : Nat) : Int)) ∧ ownB 1 c = decide (rownI (c : Int) = ((1 : Nat) : Int))) := by decide +kernel
  intro c hc hb P hP
  rcases (by omega : P = 0 ∨ P = 1) with rfl | rfl
  · exact (h c hc hb).1
  · exact (h c hc hb).2
instance decInP (W H : Nat) (dx dy x y : Int) (k : Nat) : Decidable (inP W H dx dy x y k) := inferInstanceAs (Decidable (_ ∧ _))
/-- Are so many in a row from a cell on the player's? -/
def rowB (W H P : Nat) (C : ByteArray) (x y dx dy : Int) (n : Nat) : Bool := (List.range n).all fun k => decide (inP W H dx dy x y k) && decide (rownI (cellN C (ptN W dx dy x y k) : Nat) = (P : Int))
def lineAt (W H P : Nat) (C : ByteArray) (n : Nat) (y x : Nat) : Bool := dirs4.any fun d => rowB W H P C x y d.1 d.2 n
def linedB (W H P : Nat) (C : ByteArray) (n : Nat) : Bool := (List.range H).any fun y => (List.range W).any fun x => lineAt W H P C n y x
theorem inP_zero (W H : Nat) (dx dy x y : Int) : inP W H dx dy x y 0 ↔ (0 ≤ x ∧ x < W ∧ 0 ≤ y ∧ y < H) := by unfold inP; simp
theorem pt_zero (W from_ : Nat) (dx dy : Int) : ptN W dx dy ((from_ % W : Nat) : Int) ((from_ / W : Nat) : Int) 0 = from_ := by
  unfold ptN
  have hf : ((from_ / W : Nat) : Int) * W + ((from_ % W : Nat) : Int) = (from_ : Int) := by
    have := Nat.div_add_mod from_ W
    rw [Nat.mul_comm] at this
    rw [← Int.natCast_mul, ← Int.natCast_add, this]
  simp only [Int.natCast_zero, Int.zero_mul, Int.add_zero, hf]
  rfl
theorem inP_pt {W H : Nat} {dx dy x y : Int} {k : Nat} (h : inP W H dx dy x y k) : ptN W dx dy x y k < W * H := by
  obtain ⟨h0, h1, h2, h3⟩ := h
  exact (cell_no h0 h1 h2 h3).2
theorem line_iff {W H P : Nat} {C : ByteArray} {from_ n : Nat} {d : Int × Int} (hP : P ≤ 1) (hW : 1 ≤ W) (hf : from_ < W * H) (hn : 1 ≤ n ∧ n ≤ 8) (hC : ∀ c, c < W * H → cellB (cellN C c : Nat) = true ∧ cellN C c < 256) :
    (ownB P (cellN C from_) && decide ((n : Int) ≤ (lineN W H P C from_ d.1 d.2 : Nat))) = rowB W H P C ((from_ % W : Nat) : Int) ((from_ / W : Nat) : Int) d.1 d.2 n := by
  rw [Bool.eq_iff_iff]
  have hcnt := count_ray W H (fun c => ownB P (cellN C c)) d.1 d.2 8 (n - 1) ((from_ % W : Nat) : Int) ((from_ / W : Nat) : Int) (by omega)
  have a1 : from_ % W < W := Nat.mod_lt _ hW
  have a3 : from_ / W < H := Nat.div_lt_of_lt_mul hf
  have e0 : ∀ c, c < W * H → (ownB P (cellN C c) = true ↔ rownI (cellN C c : Nat) = (P : Int)) := fun c hc => by rw [own_rown _ (hC c hc).2 (hC c hc).1 P hP]; simp
  simp only [Bool.and_eq_true, decide_eq_true_eq, rowB, List.all_eq_true, List.mem_range]
  have hl : ((n : Int) ≤ (lineN W H P C from_ d.1 d.2 : Nat)) ↔ n - 1 ≤ (rayL W H (fun c => ownB P (cellN C c)) d.1 d.2 8 ((from_ % W : Nat) : Int) ((from_ / W : Nat) : Int)).countP (fun c => ownB P (cellN C c)) := by unfold lineN; omega
  rw [hl, hcnt]
  constructor
  · rintro ⟨h0, h1⟩ k hk
    by_cases hk0 : k = 0
    · subst hk0
      refine ⟨(inP_zero ..).2 ⟨Int.natCast_nonneg _, by exact_mod_cast a1, Int.natCast_nonneg _, by exact_mod_cast a3⟩, ?_⟩
      rw [pt_zero]; exact (e0 _ hf).1 h0
    · obtain ⟨q1, q2⟩ := h1 k (by omega) (by omega)
      exact ⟨q1, (e0 _ (inP_pt q1)).1 q2⟩
  · intro h
    constructor
    · have := (h 0 (by omega)).2
      rw [pt_zero] at this
      exact (e0 _ hf).2 this
    · intro i a b
      obtain ⟨q1, q2⟩ := h i (by omega)
      exact ⟨q1, (e0 _ (inP_pt q1)).2 q2⟩
theorem lined_eq {W H P : Nat} {C : ByteArray} {n : Nat} (hP : P ≤ 1) (hW : 1 ≤ W) (hn : 1 ≤ n ∧ n ≤ 8) (hC : ∀ c, c < W * H → cellB (cellN C c : Nat) = true ∧ cellN C c < 256) : hasLineB W H P C n = linedB W H P C n := by
  have hat : ∀ c, c < W * H → lineFromB W H P C n c = lineAt W H P C n (c / W) (c % W) := by
    intro c hc
    unfold lineFromB lineAt dirs4
    simp only [List.any_cons, List.any_nil]
    have e := fun d => line_iff (d := d) hP hW hc hn hC
    rw [← e (1, 0), ← e (0, 1), ← e (1, 1), ← e (-1, 1)]
    cases ownB P (cellN C c) <;> simp
  unfold hasLineB linedB
  rw [Bool.eq_iff_iff]
  simp only [List.any_eq_true, List.mem_range]
  constructor
  · rintro ⟨c, hc, h⟩
    rw [hat c hc] at h
    exact ⟨c / W, Nat.div_lt_of_lt_mul hc, c % W, Nat.mod_lt _ hW, h⟩
  · rintro ⟨y, hy, x, hx, h⟩
    have hc : y * W + x < W * H := by
      have : (y + 1) * W ≤ H * W := Nat.mul_le_mul_right _ (by omega)
      rw [Nat.add_mul, Nat.one_mul] at this
      rw [Nat.mul_comm W H]; omega
    refine ⟨y * W + x, hc, ?_⟩
    rw [hat _ hc]
    have hm : (y * W + x) % W = x := by rw [Nat.mul_comm, Nat.mul_add_mod]; exact Nat.mod_eq_of_lt hx
    have hd : (y * W + x) / W = y := by rw [Nat.mul_comm, Nat.mul_add_div (by omega), Nat.div_eq_of_lt hx]; rfl
    rw [hm, hd]; exact h
end Go.Proofs.YtihojhfpepbjhaaGreatDoor

namespace Go.Proofs.YtihojhfpepbjhaaGreatDoor
open Go.RowKit
attribute [local go_sem ↓] Go.wp_at_zero Go.wp_at_succ

/-- The first piece with that letter, counted from i; -1: none. -/
def idxF : List Pc → Nat → Nat → Int
  | [], _, _ => -1
  | p :: t, c, i => if p.l = c then (i : Nat) else idxF t c (i + 1)
def lowN (c : Nat) : Nat := if 97 ≤ c ∧ c ≤ 122 then c - 32 else c


set_option maxHeartbeats 1000000 in
set_option maxRecDepth 100000 in
theorem gPiece_any (W H T : Int) (C A B : ByteArray) (ao : Option Addr) (cap : Nat) (ps : List Pc) (dr st : Bool) (lo re : Nat) (li pl : Int) (c : Nat) (w : World) (hc : c < 256) (h : isPcs w ao cap ps) :
    Calls Tryz.prog 32 #[.agg #[.int .i64 W, .int .i64 H, .string C, .int .i64 T, .string A, .string B, .slice ao ps.length cap, .bool dr, .int .u8 (lo : Int), .int .i64 li, .int .u8 (re : Int), .bool st, .int .i64 pl], .int .u8 (c : Int)] w fun e w' => e = .returned (.int .i64 (idxF ps (lowN c) 0)) ∧ Below w.heap.size w w' := by
  have hle := h.le
  have hmx := h.mx
  unfold maxLen at hmx
  obtain ⟨n, hn⟩ : ∃ n, n = ps.length := ⟨_, rfl⟩
  obtain ⟨R, hR⟩ : ∃ R, R = idxF ps (lowN c) 0 := ⟨_, rfl⟩
  rw [← hR, ← hn]
  rw [← hn] at hle
  have HN := hide hn
  have HP := hide h
  obtain ⟨wa, hwa⟩ : ∃ wa, wa = w.alloc (.cells #[.int .i64 W, .int .i64 H, .string C, .int .i64 T, .string A, .string B, .slice ao n cap, .bool dr, .int .u8 (lo : Int), .int .i64 li, .int .u8 (re : Int), .bool st, .int .i64 pl] 27 (0, 0)) := ⟨_, rfl⟩
  have hba : Below w.heap.size w wa := by rw [hwa]; exact (Below.refl _ w).alloc (Nat.le_refl _) _
  have hbox : isRu wa w.heap.size (.int .i64 W) (.int .i64 H) (.string C) (.int .i64 T) (.string A) (.string B) (.slice ao n cap) (.bool dr) (.int .u8 (lo : Int)) (.int .i64 li) (.int .u8 (re : Int)) (.bool st) (.int .i64 pl) := by rw [hwa]; exact heap_alloc_new w _
  have c6 := hbox.cells.2.2.2.2.2.2.1
  have HWA := hide hwa
  have HBA := hide hba
  clear hn h hwa hba hbox
  cases hsm : smallB (c : Int) with
  | true =>
    have hcs : 97 ≤ c ∧ c ≤ 122 := by
      simp only [smallB, Bool.and_eq_true, decide_eq_true_eq] at hsm
      omega
    obtain ⟨d, hd⟩ : ∃ d, d = lowN c := ⟨_, rfl⟩
    have hdc : (c : Int) - 32 = (d : Int) := by
      rw [hd, lowN, if_pos hcs]; omega
    have hdw : IntKind.u8.wrap (d : Int) = (d : Int) := by simp [IntKind.wrap, IntKind.signed, IntKind.bits]; omega
    rw [← hd] at hR
    have HR := hide hR
    have HSM := hide hsm
    clear hR hd hsm
    go_enter Tryz.func32, Tryz.ntmps32
    go_wp2_with fail
    refine (Small_any _ _).mono ?_
    rintro e w1 ⟨rfl, rfl⟩
    rw [unhide HSM]
    go_wp2
    rw [← unhide HWA]
    go_loopw [5] (fun iv wr => ∃ k : Nat, k ≤ n ∧ iv = .int .i64 (k : Int) ∧ Hid (idxF (ps.drop k) d k = R) ∧ wr = wa) (fun iv _ => n - (intOf iv).toNat)
    case atStart => exact ⟨0, Nat.zero_le _, rfl, hide (unhide HR).symm, rfl⟩
    case round =>
      obtain ⟨k, hk, rfl, HK, rfl⟩ := hrel
      by_cases hkl : k < n
      · have hki : (k : Int) < (n : Int) := by omega
        have hk0 : (0 : Int) ≤ (k : Int) := by omega
        have hkw : k < ps.length := by rw [← unhide HN]; exact hkl
        obtain ⟨p, hp⟩ : ∃ p, ps[k]? = some p := ⟨ps[k], List.getElem?_eq_getElem hkw⟩
        obtain ⟨g, off, eg, hg, hcc⟩ := (unhide HP).cells (by rintro rfl; simp at hkw)
        subst eg
        obtain ⟨hl, wo, wc, e0, -⟩ := hcc k p hp
        have e0 := ((unhide HBA).cell (p := ⟨g, off + k * 3, none⟩) hg).trans e0
        have hK := unhide HK
        rw [dropP ps k p hp, idxF] at hK
        by_cases hpl : p.l = d
        · rw [if_pos hpl] at hK
          subst hpl
          have HK2 := hide hK
          clear hK hcc HK
          go_wp2
          go_ret
          exact ⟨ret_int (unhide HK2), unhide HBA⟩
        · rw [if_neg hpl] at hK
          have hpi : ¬ (p.l : Int) = (d : Int) := by omega
          have hpb : ((p.l : Int) == (d : Int)) = false := by simp; omega
          have HK2 := hide hK
          clear hK hcc HK hpl
          go_wp2
          go_roundw
          case rel => exact ⟨k + 1, by omega, by go_num, HK2, trivial⟩
          case measure => simp [intOf]; omega
      · have hki : ¬ (k : Int) < (n : Int) := by omega
        have hK := unhide HK
        rw [List.drop_eq_nil_of_le (by rw [← unhide HN]; omega), idxF] at hK
        have HK2 := hide hK
        clear hK HK
        go_wp2
        go_ret
        exact ⟨ret_int (unhide HK2), unhide HBA⟩
  | false =>
    have hcs : ¬ (97 ≤ c ∧ c ≤ 122) := by
      simp only [smallB, Bool.and_eq_false_iff, decide_eq_false_iff_not] at hsm
      omega
    obtain ⟨d, hd⟩ : ∃ d, d = c := ⟨_, rfl⟩
    rw [lowN, if_neg hcs, ← hd] at hR
    rw [← hd] at hsm ⊢
    have HR := hide hR
    have HSM := hide hsm
    clear hR hsm hcs hd
    go_enter Tryz.func32, Tryz.ntmps32
    go_wp2_with fail
    refine (Small_any _ _).mono ?_
    rintro e w1 ⟨rfl, rfl⟩
    rw [unhide HSM]
    go_wp2
    rw [← unhide HWA]
    go_loopw [5] (fun iv wr => ∃ k : Nat, k ≤ n ∧ iv = .int .i64 (k : Int) ∧ Hid (idxF (ps.drop k) d k = R) ∧ wr = wa) (fun iv _ => n - (intOf iv).toNat)
    case atStart => exact ⟨0, Nat.zero_le _, rfl, hide (unhide HR).symm, rfl⟩
    case round =>
      obtain ⟨k, hk, rfl, HK, rfl⟩ := hrel
      by_cases hkl : k < n
      · have hki : (k : Int) < (n : Int) := by omega
        have hk0 : (0 : Int) ≤ (k : Int) := by omega
        have hkw : k < ps.length := by rw [← unhide HN]; exact hkl
        obtain ⟨p, hp⟩ : ∃ p, ps[k]? = some p := ⟨ps[k], List.getElem?_eq_getElem hkw⟩
        obtain ⟨g, off, eg, hg, hcc⟩ := (unhide HP).cells (by rintro rfl; simp at hkw)
        subst eg
        obtain ⟨hl, wo, wc, e0, -⟩ := hcc k p hp
        have e0 := ((unhide HBA).cell (p := ⟨g, off + k * 3, none⟩) hg).trans e0
        have hK := unhide HK
        rw [dropP ps k p hp, idxF] at hK
        by_cases hpl : p.l = d
        · rw [if_pos hpl] at hK
          subst hpl
          have HK2 := hide hK
          clear hK hcc HK
          go_wp2
          go_ret
          exact ⟨ret_int (unhide HK2), unhide HBA⟩
        · rw [if_neg hpl] at hK
          have hpi : ¬ (p.l : Int) = (d : Int) := by omega
          have hpb : ((p.l : Int) == (d : Int)) = false := by simp; omega
          have HK2 := hide hK
          clear hK hcc HK hpl
          go_wp2
          go_roundw
          case rel => exact ⟨k + 1, by omega, by go_num, HK2, trivial⟩
          case measure => simp [intOf]; omega
      · have hki : ¬ (k : Int) < (n : Int) := by omega
        have hK := unhide HK
        rw [List.drop_eq_nil_of_le (by rw [← unhide HN]; omega), idxF] at hK
        have HK2 := hide hK
        clear hK HK
        go_wp2
        go_ret
        exact ⟨ret_int (unhide HK2), unhide HBA⟩

/-- A letter of a board or a hand: is there a piece with it? -/
def hasP (ps : List Pc) (c : UInt8) : Bool := decide (c.toNat = 46) || decide (0 ≤ idxF ps (lowN c.toNat) 0)

set_option maxHeartbeats 1000000 in
set_option maxRecDepth 100000 in
theorem gLetters_any (W H T : Int) (C A B : ByteArray) (ao : Option Addr) (cap : Nat) (ps : List Pc) (dr st : Bool) (lo re : Nat) (li pl : Int) (s : ByteArray) (w : World) (hs : s.size ≤ 1000) (h : isPcs w ao cap ps) :
    Calls Tryz.prog 33 #[.agg #[.int .i64 W, .int .i64 H, .string C, .int .i64 T, .string A, .string B, .slice ao ps.length cap, .bool dr, .int .u8 (lo : Int), .int .i64 li, .int .u8 (re : Int), .bool st, .int .i64 pl], .string s] w fun e w' => e = .returned (.bool (s.data.toList.all (hasP ps))) ∧ Below w.heap.size w w' := by
  obtain ⟨R, hR⟩ : ∃ R, R = s.data.toList.all (hasP ps) := ⟨_, rfl⟩
  rw [← hR]
  obtain ⟨wa, hwa⟩ : ∃ wa, wa = w.alloc (.cells #[.int .i64 W, .int .i64 H, .string C, .int .i64 T, .string A, .string B, .slice ao ps.length cap, .bool dr, .int .u8 (lo : Int), .int .i64 li, .int .u8 (re : Int), .bool st, .int .i64 pl] 27 (0, 0)) := ⟨_, rfl⟩
  have hba : Below w.heap.size w wa := by rw [hwa]; exact (Below.refl _ w).alloc (Nat.le_refl _) _
  have hbox : isRu wa w.heap.size (.int .i64 W) (.int .i64 H) (.string C) (.int .i64 T) (.string A) (.string B) (.slice ao ps.length cap) (.bool dr) (.int .u8 (lo : Int)) (.int .i64 li) (.int .u8 (re : Int)) (.bool st) (.int .i64 pl) := by rw [hwa]; exact heap_alloc_new w _
  have HWA := hide hwa
  have HBA := hide hba
  have HP := hide h
  have HR := hide hR
  have HBX := hide hbox
  clear h hwa hba hbox hR
  go_enter Tryz.func33, Tryz.ntmps33
  go_wp2
  rw [← unhide HWA]
  go_loopw [5] (fun iv wr => ∃ k : Nat, k ≤ s.size ∧ iv = .int .i64 (k : Int) ∧ Hid ((s.data.toList.take k).all (hasP ps) = true) ∧ Below wa.heap.size wa wr) (fun iv _ => s.size - (intOf iv).toNat)
  case atStart => exact ⟨0, Nat.zero_le _, rfl, hide rfl, Below.refl _ _⟩
  case round =>
    obtain ⟨k, hk, rfl, HK, hbr⟩ := hrel
    have hlt := (unhide HBX).lt
    have hszr := hbr.size
    by_cases hkl : k < s.size
    · have hki : (k : Int) < (s.size : Int) := by omega
      have hk0 : (0 : Int) ≤ (k : Int) := by omega
      have h256 : s[k].toNat < 256 := s[k].toNat_lt
      have HSN := hide (all_snoc (hasP ps) s k hkl)
      have HNO := hide (all_no (hasP ps) s k hkl)
      by_cases h46 : s[k].toNat = 46
      · have h46i : (s[k].toNat : Int) = 46 := by omega
        have hnew : (s.data.toList.take (k + 1)).all (hasP ps) = true := by
          rw [unhide HSN, unhide HK]
          simp [hasP, h46]
        have HNEW := hide hnew
        have hb0 : ((s[k].toNat : Int) != 46) = false := by simp; omega
        have hd0 : decide (s[k].toNat = 46) = true := decide_eq_true h46
        clear hnew
        go_wp2
        go_quiet (fail)
        go_wp2
        go_roundw
        case rel => exact ⟨k + 1, by omega, by go_num, HNEW, below_drewN hbr _⟩
        case measure => simp [intOf]; omega
      · have h46i : ¬ (s[k].toNat : Int) = 46 := by omega
        have hb1 : ((s[k].toNat : Int) != 46) = true := by simp; omega
        obtain ⟨d0, d1, d2, d3, d4, d5, d6, d7, d8, d9, d10, d11, d12⟩ := ((unhide HBX).below hbr hlt).cells
        have hpw : isPcs wr ao cap ps := (unhide HP).below ((unhide HBA).trans (hbr.mono (unhide HBA).size)) (Nat.le_refl _)
        obtain ⟨I, hI⟩ : ∃ I, I = idxF ps (lowN s[k].toNat) 0 := ⟨_, rfl⟩
        have HPC : Hid (Calls Tryz.prog 32 #[.agg #[.int .i64 W, .int .i64 H, .string C, .int .i64 T, .string A, .string B, .slice ao ps.length cap, .bool dr, .int .u8 (lo : Int), .int .i64 li, .int .u8 (re : Int), .bool st, .int .i64 pl], .int .u8 (s[k].toNat : Int)] wr.drew fun e w' => e = .returned (.int .i64 I) ∧ Below wr.heap.size wr w') := by
          rw [hI]
          refine hide ((gPiece_any W H T C A B ao cap ps dr st lo re li pl s[k].toNat wr.drew h256 (hpw.below (show Below wr.heap.size wr wr.drew from (Below.refl _ _).drew) (Nat.le_refl _))).mono ?_)
          rintro e w' ⟨rfl, hb⟩
          exact ⟨rfl, ((Below.refl wr.heap.size wr).drew).trans hb⟩
        have HI : Hid (hasP ps s[k] = decide (0 ≤ I)) := by
          refine hide ?_
          rw [hI]
          simp [hasP, h46]
        clear hI hpw
        cases hIb : decide (0 ≤ I) with
        | true =>
          have hI0 : ¬ I < 0 := by have := of_decide_eq_true hIb; omega
          have hnew : (s.data.toList.take (k + 1)).all (hasP ps) = true := by
            rw [unhide HSN, unhide HK, unhide HI, hIb]; rfl
          have HNEW := hide hnew
          clear hnew hIb
          go_wp2
          go_region_with (first | (go_at_call 32; (with_reducible refine (unhide HPC).mono ?_); rintro e wp ⟨rfl, hbp⟩))
          all_goals (
            have hbf : Below wa.heap.size wa wp := hbr.trans (hbp.mono hszr)
            clear hbp
            go_wp2
            go_roundw
            case rel => exact ⟨k + 1, by omega, by go_num, HNEW, hbf⟩
            case measure => simp [intOf]; omega)
        | false =>
          have hI0 : I < 0 := by have := of_decide_eq_false hIb; omega
          have hff : R = false := by rw [unhide HR]; exact unhide HNO (by rw [unhide HI, hIb])
          have HFF := hide hff
          clear hff hIb
          go_wp2
          go_region_with (first | (go_at_call 32; (with_reducible refine (unhide HPC).mono ?_); rintro e wp ⟨rfl, hbp⟩))
          all_goals (
            have hbf : Below w.heap.size w wp := (unhide HBA).trans ((hbr.trans (hbp.mono hszr)).mono (unhide HBA).size)
            clear hbp
            go_wp2
            go_ret
            exact ⟨ret_bool (unhide HFF).symm, hbf⟩)
    · obtain rfl : k = s.size := by omega
      have hki : ¬ (s.size : Int) < (s.size : Int) := by omega
      have hall : R = true := by
        have := unhide HK
        rw [take_all s s.size (Nat.le_refl _)] at this
        rw [unhide HR, this]
      have HALL := hide hall
      have hbf : Below w.heap.size w wr := (unhide HBA).trans (hbr.mono (unhide HBA).size)
      clear hall
      go_wp2
      go_ret
      exact ⟨ret_bool (unhide HALL).symm, hbf⟩
end Go.Proofs.YtihojhfpepbjhaaGreatDoor
