/-
  package rules, walked: Check.
  package gamekeep, walked: kings.
  package board, package moves, walked: letters of players, small functions.
  '==' between two positions: field by field.
-/
import Derived.Test.YtbglppcbgfkhmabGreatDoorJ3
import Derived.Test.YtbglppcbgfkhmabGreatDoorJ2
import Derived.ChangeKeysEq
namespace Go.Proofs.YtbglppcbgfkhmabGreatDoor
open Go.RowKit
attribute [local go_sem ↓] Go.wp_at_zero Go.wp_at_succ

/-- In block g lie rules. -/
def isRu (w : World) (g : Nat) (v0 v1 v2 v3 v4 v5 v6 v7 v8 v9 v10 v11 v12 : Value) : Prop := w.heap[g]? = some (.cells #[v0, v1, v2, v3, v4, v5, v6, v7, v8, v9, v10, v11, v12] 27 (0, 0))
theorem isRu.cells {w : World} {g : Nat} {v0 v1 v2 v3 v4 v5 v6 v7 v8 v9 v10 v11 v12 : Value} (h : isRu w g v0 v1 v2 v3 v4 v5 v6 v7 v8 v9 v10 v11 v12) :
    w.cell? ⟨g, 0, none⟩ = some v0 ∧ w.cell? ⟨g, 1, none⟩ = some v1 ∧ w.cell? ⟨g, 2, none⟩ = some v2 ∧ w.cell? ⟨g, 3, none⟩ = some v3 ∧ w.cell? ⟨g, 4, none⟩ = some v4 ∧ w.cell? ⟨g, 5, none⟩ = some v5 ∧ w.cell? ⟨g, 6, none⟩ = some v6 ∧ w.cell? ⟨g, 7, none⟩ = some v7 ∧ w.cell? ⟨g, 8, none⟩ = some v8 ∧ w.cell? ⟨g, 9, none⟩ = some v9 ∧ w.cell? ⟨g, 10, none⟩ = some v10 ∧ w.cell? ⟨g, 11, none⟩ = some v11 ∧ w.cell? ⟨g, 12, none⟩ = some v12 := by
  refine ⟨?_, ?_, ?_, ?_, ?_, ?_, ?_, ?_, ?_, ?_, ?_, ?_, ?_⟩ <;> exact cell_of_row _ _ _ _ _ _ h
theorem isRu.lt {w : World} {g : Nat} {v0 v1 v2 v3 v4 v5 v6 v7 v8 v9 v10 v11 v12 : Value} (h : isRu w g v0 v1 v2 v3 v4 v5 v6 v7 v8 v9 v10 v11 v12) : g < w.heap.size := by
  rcases Nat.lt_or_ge g w.heap.size with hlt | hge
  · exact hlt
  · unfold isRu at h; rw [Array.getElem?_eq_none hge] at h; cases h
theorem isRu.below {w w1 : World} {g : Nat} {v0 v1 v2 v3 v4 v5 v6 v7 v8 v9 v10 v11 v12 : Value} (h : isRu w g v0 v1 v2 v3 v4 v5 v6 v7 v8 v9 v10 v11 v12) {B : Nat} (hb : Below B w w1) (hB : g < B) : isRu w1 g v0 v1 v2 v3 v4 v5 v6 v7 v8 v9 v10 v11 v12 := by
  unfold isRu; rw [hb.block g hB]; exact h
theorem isRu.fresh {w w1 : World} {v0 v1 v2 v3 v4 v5 v6 v7 v8 v9 v10 v11 v12 : Value} (hb : Below (w.alloc (.cells #[v0, v1, v2, v3, v4, v5, v6, v7, v8, v9, v10, v11, v12] 27)).heap.size (w.alloc (.cells #[v0, v1, v2, v3, v4, v5, v6, v7, v8, v9, v10, v11, v12] 27)) w1) : isRu w1 w.heap.size v0 v1 v2 v3 v4 v5 v6 v7 v8 v9 v10 v11 v12 :=
  isRu.below (show isRu (w.alloc (.cells #[v0, v1, v2, v3, v4, v5, v6, v7, v8, v9, v10, v11, v12] 27)) w.heap.size v0 v1 v2 v3 v4 v5 v6 v7 v8 v9 v10 v11 v12 from heap_alloc_new w _) hb (by simp)
theorem bel_on {B : Nat} {w0 w w1 : World} {o : Obj} (h : Below B w0 w) (hB : B ≤ w.heap.size) (hb : Below (w.alloc o).heap.size (w.alloc o) w1) : Below B w0 w1 :=
  (h.alloc hB o).trans (hb.mono (by simp; omega))

/-- P6: are they rules? -/
def rulesB (W H : Int) (C : List UInt8) (T : Int) (A B : List UInt8) (ps : List Pc) (lo : Nat) (li : Int) (re : Nat) (pl : Int) : Bool :=
  psB ps && posB W H C T A B && allL (lettersS ps) C A B && hasZ (lettersS ps) lo && hasZ (lettersS ps) re && (decide (li = 0) || inB li 2 8) && inB pl 1 1000

theorem bitsP26 : ∀ (ps : List Pc) (S : Nat), S < 67108864 → okP S ps = true → bitsP S ps < 67108864
  | [], S, h, _ => h
  | p :: t, S, h, ho => by
    rw [okP, Bool.and_eq_true, Bool.and_eq_true] at ho
    have hc : capB (p.l : Int) = true := by
      have := ho.1.1
      simp only [pcB, Bool.and_eq_true] at this
      exact this.1.1.1
    simp only [capB, Bool.and_eq_true, decide_eq_true_eq] at hc
    exact bitsP26 t _ (or26 S (p.l - 65) h (by omega)) ho.2
theorem lettersS26 (ps : List Pc) : lettersS ps < 67108864 := by
  unfold lettersS
  split
  · rename_i h
    exact bitsP26 ps 0 (by omega) (by simp only [psB, Bool.and_eq_true] at h; exact h.2)
  · omega

set_option maxHeartbeats 2000000 in
set_option maxRecDepth 100000 in
theorem rCheck_any (W H T : Int) (C A B : ByteArray) (ao : Option Addr) (cap : Nat) (ps : List Pc) (dr st : Bool) (lo re : Nat) (li pl : Int) (w : World) (hC : C.size ≤ maxLen) (hA : A.size ≤ maxLen) (hB : B.size ≤ maxLen) (hlo : lo < 256) (hre : re < 256) (h : isPcs w ao cap ps) :
    Calls Tryz.prog 53 #[.agg #[.int .i64 W, .int .i64 H, .string C, .int .i64 T, .string A, .string B, .slice ao ps.length cap, .bool dr, .int .u8 (lo : Int), .int .i64 li, .int .u8 (re : Int), .bool st, .int .i64 pl]] w fun e w' => e = .returned (.int .i64 (errI (rulesB W H C.data.toList T A.data.toList B.data.toList ps lo li re pl))) ∧ Below w.heap.size w w' := by
  obtain ⟨r, hr⟩ : ∃ r, r = rulesB W H C.data.toList T A.data.toList B.data.toList ps lo li re pl := ⟨_, rfl⟩
  rw [← hr]
  have hba : Below w.heap.size w (w.alloc (.cells #[.int .i64 W, .int .i64 H, .string C, .int .i64 T, .string A, .string B, .slice ao ps.length cap, .bool dr, .int .u8 (lo : Int), .int .i64 li, .int .u8 (re : Int), .bool st, .int .i64 pl] 27 (0, 0))) := (Below.refl _ w).alloc (Nat.le_refl _) _
  have HLET := hide (lettersOf_any ao cap ps _ (h.below hba (Nat.le_refl _)))
  have hS26 := lettersS26 ps
  obtain ⟨S, hS⟩ : ∃ S, S = lettersS ps := ⟨_, rfl⟩
  rw [← hS] at HLET hS26
  unfold rulesB at hr
  rw [← hS] at hr
  have HR := hide hr
  clear hr hS h hba
  go_enter Tryz.func53, Tryz.ntmps53
  go_wp2_with fail
  refine (unhide HLET).mono ?_
  rintro e w1 ⟨rfl, hb1⟩
  have bp1 := isRu.fresh hb1
  have hw1 : Below w.heap.size w w1 := bel_on (Below.refl _ _) (Nat.le_refl _) hb1
  clear hb1 HLET
  obtain ⟨d0, d1, d2, d3, d4, d5, d6, d7, d8, d9, d10, d11, d12⟩ := bp1.cells
  cases hps : psB ps with
  | false =>
    have hf : r = false := by rw [unhide HR, hps]; rfl
    subst hf
    go_wp2
    go_ret
    exact ⟨rfl, hw1⟩
  | true =>
  have hR1 := unhide HR
  rw [hps, Bool.true_and] at hR1
  have HR1 := hide hR1
  clear hR1 HR
  go_wp2_with fail
  refine (Check_any _ _ _ _ _ _ _ hC hA hB).mono ?_
  rintro e w2 ⟨rfl, hb2⟩
  have bp2 := bp1.below hb2 bp1.lt
  have hw2 := hw1.trans (hb2.mono hw1.size)
  clear hb2 bp1 hw1 d0 d1 d2 d3 d4 d5 d6 d7 d8 d9 d10 d11 d12
  obtain ⟨d0, d1, d2, d3, d4, d5, d6, d7, d8, d9, d10, d11, d12⟩ := bp2.cells
  cases hpos : posB W H C.data.toList T A.data.toList B.data.toList with
  | false =>
    have hf : r = false := by rw [unhide HR1, hpos]; rfl
    subst hf
    rw [show errI false = 1 from rfl]
    go_wp2
    go_ret
    exact ⟨rfl, hw2⟩
  | true =>
  have hR2 := unhide HR1
  rw [hpos, Bool.true_and] at hR2
  have HR2 := hide hR2
  rw [show errI true = 0 from rfl]
  clear hR2 HR1 hpos
  go_wp2_with fail
  refine (haveAllOf_any S _ _ _ _ _ _ _ hS26 hC hA hB).mono ?_
  rintro e w3 ⟨rfl, hb3⟩
  have bp3 := bp2.below hb3 bp2.lt
  have hw3 := hw2.trans (hb3.mono hw2.size)
  clear hb3 bp2 hw2 d0 d1 d2 d3 d4 d5 d6 d7 d8 d9 d10 d11 d12
  obtain ⟨d0, d1, d2, d3, d4, d5, d6, d7, d8, d9, d10, d11, d12⟩ := bp3.cells
  cases hal : allL S C.data.toList A.data.toList B.data.toList with
  | false =>
    have hf : r = false := by rw [unhide HR2, hal]; rfl
    subst hf
    go_wp2
    go_ret
    exact ⟨rfl, hw3⟩
  | true =>
  have hR3 := unhide HR2
  rw [hal, Bool.true_and] at hR3
  have HR3 := hide hR3
  clear hR3 HR2 hal
  go_wp2_with fail
  refine (haveIfAny_any S lo _ (by omega) hlo).mono ?_
  rintro e w4 ⟨rfl, rfl⟩
  cases hzl : hasZ S (lo : Int) with
  | false =>
    have hf : r = false := by rw [unhide HR3, hzl]; rfl
    subst hf
    go_wp2
    go_ret
    exact ⟨rfl, hw3⟩
  | true =>
  have hR4 := unhide HR3
  rw [hzl, Bool.true_and] at hR4
  have HR4 := hide hR4
  clear hR4 HR3 hzl
  go_wp2_with fail
  refine (haveIfAny_any S re _ (by omega) hre).mono ?_
  rintro e w5 ⟨rfl, rfl⟩
  cases hzr : hasZ S (re : Int) with
  | false =>
    have hf : r = false := by rw [unhide HR4, hzr]; rfl
    subst hf
    go_wp2
    go_ret
    exact ⟨rfl, hw3⟩
  | true =>
  have hR5 := unhide HR4
  rw [hzr, Bool.true_and] at hR5
  have HR5 := hide hR5
  clear hR5 HR4 hzr
  by_cases hl0 : li = 0
  · subst hl0
    have hR6 : r = inB pl 1 1000 := by rw [unhide HR5]; simp
    have HR6 := hide hR6
    clear hR6 HR5
    go_wp2_with fail
    refine (isWithin_any _ _ _ _).mono ?_
    rintro e w6 ⟨rfl, rfl⟩
    rw [← unhide HR6]
    cases r with
    | false =>
      go_wp2
      go_ret
      exact ⟨rfl, hw3⟩
    | true =>
      go_wp2
      go_ret
      exact ⟨rfl, hw3⟩
  · have hlb : (li != 0) = true := by simp [hl0]
    cases hil : inB li 2 8 with
    | false =>
      have hf : r = false := by rw [unhide HR5, hil]; simp [hl0]
      subst hf
      have HIL := hide hil
      clear hil
      go_wp2_with fail
      refine (isWithin_any _ _ _ _).mono ?_
      rintro e w6 ⟨rfl, rfl⟩
      rw [unhide HIL]
      go_wp2
      go_ret
      exact ⟨rfl, hw3⟩
    | true =>
      have hR6 : r = inB pl 1 1000 := by rw [unhide HR5, hil]; simp
      have HR6 := hide hR6
      have HIL := hide hil
      clear hR6 HR5 hil
      go_wp2_with fail
      refine (isWithin_any _ _ _ _).mono ?_
      rintro e w6 ⟨rfl, rfl⟩
      rw [unhide HIL]
      go_wp2_with fail
      refine (isWithin_any _ _ _ _).mono ?_
      rintro e w7 ⟨rfl, rfl⟩
      rw [← unhide HR6]
      cases r with
      | false =>
        go_wp2
        go_ret
        exact ⟨rfl, hw3⟩
      | true =>
        go_wp2
        go_ret
        exact ⟨rfl, hw3⟩
end Go.Proofs.YtbglppcbgfkhmabGreatDoor

namespace Go.Proofs.YtbglppcbgfkhmabGreatDoor
open Go.RowKit
attribute [local go_sem ↓] Go.wp_at_zero Go.wp_at_succ

set_option maxHeartbeats 4000000 in
set_option maxRecDepth 100000 in
theorem kings_any (w : World) : Calls Tryz.prog 45 #[] w fun e w' => ∃ ao cap, e = .returned (.agg #[.int .i64 3, .int .i64 1, .string ⟨#[75, 46, 107]⟩, .int .i64 0, .string ⟨#[]⟩, .string ⟨#[]⟩, .slice ao 1 cap, .bool false, .int .u8 75, .int .i64 0, .int .u8 0, .bool false, .int .i64 9]) ∧ isPcs w' ao cap [⟨75, 0, [⟨1, 0, 1, 0⟩]⟩] ∧ Below w.heap.size w w' := by
  go_enter Tryz.func45, Tryz.ntmps45
  go_wp2
  generalize hw1 : w.alloc _ = w1
  generalize hw2 : w1.alloc _ = w2
  generalize hw3 : w2.alloc _ = w3
  have hb1 : Below w.heap.size w w1 := by rw [← hw1]; exact (Below.refl _ _).alloc (Nat.le_refl _) _
  have hb2 : Below w1.heap.size w1 w2 := by rw [← hw2]; exact (Below.refl _ _).alloc (Nat.le_refl _) _
  have hb3 : Below w2.heap.size w2 w3 := by rw [← hw3]; exact (Below.refl _ _).alloc (Nat.le_refl _) _
  have s1 : w1.heap.size = w.heap.size + 1 := by rw [← hw1]; simp
  have s2 : w2.heap.size = w.heap.size + 1 + 1 := by rw [← hw2]; simp [s1]
  have s3 : w3.heap.size = w.heap.size + 1 + 1 + 1 := by rw [← hw3]; simp [s2]
  have hr1 : isRu w1 w.heap.size (.int .i64 3) (.int .i64 1) (.string ⟨#[75, 46, 107]⟩) (.int .i64 0) (.string ⟨#[]⟩) (.string ⟨#[]⟩) (.slice (some ⟨w.heap.size + 1 + 1, 0, none⟩) 1 1) (.bool false) (.int .u8 75) (.int .i64 0) (.int .u8 0) (.bool false) (.int .i64 9) := by rw [← hw1]; exact heap_alloc_new w _
  have hr3 := (hr1.below hb2 (by omega)).below hb3 (by omega)
  have hx2 : w2.heap[w.heap.size + 1]? = some (.cells #[.int .i64 1, .int .i64 0, .int .i64 1, .int .i64 0] 93 (0, 0)) := by rw [← hw2, ← s1]; exact heap_alloc_new w1 _
  have hx3 : w3.heap[w.heap.size + 1]? = some (.cells #[.int .i64 1, .int .i64 0, .int .i64 1, .int .i64 0] 93 (0, 0)) := (hb3.block _ (by omega)).trans hx2
  have hy3 : w3.heap[w.heap.size + 1 + 1]? = some (.cells #[.int .u8 75, .int .i64 0, .slice (some ⟨w.heap.size + 1, 0, none⟩) 1 1] 90 (0, 0)) := by rw [← hw3, ← s2]; exact heap_alloc_new w2 _
  obtain ⟨r0, r1, r2, r3, r4, r5, r6, r7, r8, r9, r10, r11, r12⟩ := hr3.cells
  refine bodyPost_ret (v := .agg #[.int .i64 3, .int .i64 1, .string ⟨#[75, 46, 107]⟩, .int .i64 0, .string ⟨#[]⟩, .string ⟨#[]⟩, .slice (some ⟨w.heap.size + 1 + 1, 0, none⟩) 1 1, .bool false, .int .u8 75, .int .i64 0, .int .u8 0, .bool false, .int .i64 9]) (by simp [results, Tryz.results45, go_sem, r0, r1, r2, r3, r4, r5, r6, r7, r8, r9, r10, r11, r12]) rfl ⟨some ⟨w.heap.size + 1 + 1, 0, none⟩, 1, rfl, ⟨by simp, by unfold maxLen; omega, by simp, fun _ => ⟨_, 0, rfl, by omega, fun i p hp => ?_⟩⟩, ?_⟩
  · have hi : i = 0 := by
      have := (List.getElem?_eq_some_iff.1 hp).1
      simp at this
      omega
    subst hi
    simp only [List.getElem?_cons_zero, Option.some.injEq] at hp
    subst hp
    refine ⟨by decide, some ⟨w.heap.size + 1, 0, none⟩, 1, cell_of_row _ _ _ _ _ _ hy3, cell_of_row _ _ _ _ _ _ hy3, cell_of_row _ _ _ _ _ _ hy3, ⟨by simp, by unfold maxLen; omega, by simp, fun _ => ⟨_, 0, rfl, by omega, fun i z hz => ?_⟩⟩⟩
    have hi : i = 0 := by
      have := (List.getElem?_eq_some_iff.1 hz).1
      simp at this
      omega
    subst hi
    simp only [List.getElem?_cons_zero, Option.some.injEq] at hz
    subst hz
    exact ⟨cell_of_row _ _ _ _ _ _ hx3, cell_of_row _ _ _ _ _ _ hx3, cell_of_row _ _ _ _ _ _ hx3, cell_of_row _ _ _ _ _ _ hx3⟩
  · exact (hb1.trans (hb2.mono (by omega))).trans (hb3.mono (by omega))
end Go.Proofs.YtbglppcbgfkhmabGreatDoor

namespace Go.Proofs.YtbglppcbgfkhmabGreatDoor
open Go.RowKit
attribute [local go_sem ↓] Go.wp_at_zero Go.wp_at_succ

/-- What stands in a cell for a player's piece. -/
def letN (T c : Nat) : Nat := if T = 0 then c else c ||| 32
/-- Is the byte of a cell a piece of that player? -/
def ownB (T c : Nat) : Bool := !decide (c = 46) && decide (letN T (upN c) = c)
theorem or32 : ∀ c : Nat, c < 256 → bits .or .u8 (c : Int) 32 = ((c ||| 32 : Nat) : Int) ∧ c ||| 32 < 256 := by decide +kernel
theorem or0 : ∀ c : Nat, c < 256 → bits .or .u8 (c : Int) 0 = (c : Int) := by decide +kernel
theorem letN_lt {T c : Nat} (h : c < 256) : letN T c < 256 := by unfold letN; split; exact h; exact (or32 c h).2

set_option maxHeartbeats 1000000 in
theorem LetterOf_any (T c : Nat) (w : World) (hT : T ≤ 1) (hc : c < 256) :
    Calls Tryz.prog 64 #[.int .i64 (T : Int), .int .u8 (c : Int)] w fun e w' => e = .returned (.int .u8 (letN T c : Nat)) ∧ w' = w := by
  rcases (by omega : T = 0 ∨ T = 1) with rfl | rfl
  · have h0 := or0 c hc
    go_enter Tryz.func64, Tryz.ntmps64
    go_wp2
    go_ret
    exact ⟨rfl, rfl⟩
  · have h1 := (or32 c hc).1
    go_enter Tryz.func64, Tryz.ntmps64
    go_wp2
    go_ret
    exact ⟨rfl, rfl⟩

set_option maxHeartbeats 1000000 in
theorem IsOf_any (T c : Nat) (w : World) (hT : T ≤ 1) (hc : c < 256) :
    Calls Tryz.prog 88 #[.int .i64 (T : Int), .int .u8 (c : Int)] w fun e w' => e = .returned (.bool (ownB T c)) ∧ w' = w := by
  obtain ⟨R, hR⟩ : ∃ R, R = ownB T c := ⟨_, rfl⟩
  rw [← hR]
  unfold ownB at hR
  by_cases h46 : c = 46
  · have hRe : R = false := by rw [hR]; simp [h46]
    have hb : ((c : Int) != 46) = false := by simp; omega
    have HRE := hide hRe
    clear hR hRe h46
    go_enter Tryz.func88, Tryz.ntmps88
    go_wp2
    go_ret
    exact ⟨by rw [unhide HRE]; rfl, rfl⟩
  · have hRe : R = decide (letN T (upN c) = c) := by rw [hR]; simp [h46]
    have hb : ((c : Int) != 46) = true := by simp; omega
    have hup := up_andNot c hc
    have HC := hide (Capital_any c w)
    rw [hup.1] at HC
    have HL := hide (LetterOf_any T (upN c) w hT hup.2)
    have HRE := hide hRe
    clear hR hRe h46 hup
    go_enter Tryz.func88, Tryz.ntmps88
    go_wp2_with fail
    refine (unhide HC).mono ?_
    rintro e w1 ⟨rfl, rfl⟩
    go_wp2_with fail
    refine (unhide HL).mono ?_
    rintro e w2 ⟨rfl, rfl⟩
    go_wp2
    go_ret
    refine ⟨ret_bool ?_, rfl⟩
    rw [unhide HRE]
    rw [Bool.eq_iff_iff]
    simp
    omega
/-- The first player's way up, the second one's down. -/
def fwdI (T : Nat) : Int := 1 - 2 * (T : Int)
theorem forward_any (T : Nat) (w : World) (hT : T ≤ 1) :
    Calls Tryz.prog 124 #[.int .i64 (T : Int)] w fun e w' => e = .returned (.int .i64 (fwdI T)) ∧ w' = w := by
  go_enter Tryz.func124, Tryz.ntmps124
  go_wp2
  go_ret
  exact ⟨rfl, rfl⟩
/-- Who has won. -/
def wonI (T : Int) : Int := if T = 0 then 1 else 2
theorem wonBy_any (T : Int) (w : World) :
    Calls Tryz.prog 59 #[.int .i64 T] w fun e w' => e = .returned (.int .i64 (wonI T)) ∧ w' = w := by
  by_cases h : T = 0
  · have hb : (T == 0) = true := by simp [h]
    have hv : wonI T = 1 := by unfold wonI; rw [if_pos h]
    rw [hv]
    clear h hv
    go_enter Tryz.func59, Tryz.ntmps59
    go_wp2
    go_ret
    exact ⟨rfl, rfl⟩
  · have hb : (T == 0) = false := by simpa using h
    have hv : wonI T = 2 := by unfold wonI; rw [if_neg h]
    rw [hv]
    clear h hv
    go_enter Tryz.func59, Tryz.ntmps59
    go_wp2
    go_ret
    exact ⟨rfl, rfl⟩
/-- May a piece of the player's enter a cell by a way that takes so? -/
def entB (take : Int) (T c : Nat) : Bool := if c = 46 then decide (take ≠ 1) else decide (take ≠ 2) && ownB (1 - T) c

set_option maxHeartbeats 1000000 in
theorem mayEnter_any (k x y t : Int) (T c : Nat) (w : World) (hT : T ≤ 1) (hc : c < 256) :
    Calls Tryz.prog 108 #[.agg #[.int .i64 k, .int .i64 x, .int .i64 y, .int .i64 t], .int .i64 (T : Int), .int .u8 (c : Int)] w fun e w' => e = .returned (.bool (entB t T c)) ∧ Below w.heap.size w w' := by
  obtain ⟨R, hR⟩ : ∃ R, R = entB t T c := ⟨_, rfl⟩
  rw [← hR]
  unfold entB at hR
  have hTi : (1 : Int) - (T : Int) = ((1 - T : Nat) : Int) := by omega
  have HO := hide (fun u => IsOf_any (1 - T) c u (by omega) hc)
  rw [← hTi] at HO
  by_cases h46 : c = 46
  · have hRe : R = decide (t ≠ 1) := by rw [hR, if_pos h46]
    have hb : ((c : Int) == 46) = true := by simp; omega
    have HRE := hide hRe
    clear hR hRe h46 hTi
    go_enter Tryz.func108, Tryz.ntmps108
    go_wp2
    go_ret
    refine ⟨ret_bool ?_, (Below.refl _ w).alloc (Nat.le_refl _) _⟩
    rw [unhide HRE, Bool.eq_iff_iff]
    simp
  · have hb : ((c : Int) == 46) = false := by simp; omega
    by_cases h1 : t = 2
    · have hRe : R = false := by rw [hR, if_neg h46]; simp [h1]
      have hb1 : (t != 2) = false := by simp [h1]
      have HRE := hide hRe
      clear hR hRe h46 h1 hTi
      go_enter Tryz.func108, Tryz.ntmps108
      go_wp2
      go_ret
      exact ⟨by rw [unhide HRE]; rfl, (Below.refl _ w).alloc (Nat.le_refl _) _⟩
    · have hRe : R = ownB (1 - T) c := by rw [hR, if_neg h46]; simp [h1]
      have hb1 : (t != 2) = true := by simp [h1]
      have HRE := hide hRe
      clear hR hRe h46 h1 hTi
      go_enter Tryz.func108, Tryz.ntmps108
      go_wp2_with fail
      refine (unhide HO _).mono ?_
      rintro e w1 ⟨rfl, rfl⟩
      go_wp2
      go_ret
      exact ⟨by rw [unhide HRE]; rfl, (Below.refl _ w).alloc (Nat.le_refl _) _⟩
end Go.Proofs.YtbglppcbgfkhmabGreatDoor

namespace Go.Proofs.YtbglppcbgfkhmabGreatDoor
open Go.RowKit

def samePos (W H : Int) (C : ByteArray) (T : Int) (A B : ByteArray) (W' H' : Int) (C' : ByteArray) (T' : Int) (A' B' : ByteArray) : Bool :=
  W == W' && H == H' && C.toList == C'.toList && T == T' && A.toList == A'.toList && B.toList == B'.toList

theorem eqHands (w : World) (A B A' B' : ByteArray) :
    (Op.equalIn 9999 22 (.agg #[.string A, .string B]) (.agg #[.string A', .string B'])).run Tryz.prog w = .ok (A.toList == A'.toList && B.toList == B'.toList) w := by
  obtain ⟨i, hi⟩ : ∃ i, Tryz.prog.info? 9 = some i := by
    have h : (Tryz.prog.info? 9).isSome = true := by kernel_rfl
    exact Option.isSome_iff_exists.1 h
  have hc : Tryz.prog.cellsOf 9 = 1 := by kernel_rfl
  rw [run_equalIn_array w 9998 _ _ Tryz.underlying22 hi, hc]
  have hr : List.range 2 = [0, 1] := rfl
  rw [hr]
  simp [go_sem, Op.eqItems]
  by_cases h1 : A.toList = A'.toList <;> by_cases h2 : B.toList = B'.toList <;> simp [h1, h2]

set_option maxHeartbeats 1000000 in
theorem eqPos (w : World) (W H T W' H' T' : Int) (C A B C' A' B' : ByteArray) :
    (Op.equalIn 10000 24 (.agg #[.int .i64 W, .int .i64 H, .string C, .int .i64 T, .string A, .string B]) (.agg #[.int .i64 W', .int .i64 H', .string C', .int .i64 T', .string A', .string B'])).run Tryz.prog w =
      .ok (samePos W H C T A B W' H' C' T' A' B') w := by
  rw [run_equalIn_agg w 9999 24 _ _ (by kernel_rfl) (by kernel_rfl)]
  unfold Program.fieldsOf
  rw [Tryz.underlying24]
  simp [go_sem, eqHands, samePos]
  by_cases h1 : W = W' <;> by_cases h2 : H = H' <;> by_cases h3 : C.toList = C'.toList <;> by_cases h4 : T = T' <;> by_cases h5 : A.toList = A'.toList <;> by_cases h6 : B.toList = B'.toList <;> simp [h1, h2, h3, h4, h5, h6]
theorem samePos_refl (W H : Int) (C : ByteArray) (T : Int) (A B : ByteArray) : samePos W H C T A B W H C T A B = true := by simp [samePos]
end Go.Proofs.YtbglppcbgfkhmabGreatDoor
