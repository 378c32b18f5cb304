/-
  gameref.Text, walked at a position: the same text as board.Write's.
  Plain mathematics: pieces' letters as the document's answer looks for them (the first piece with a letter), against sets of letters as bits.
  gameref.Position, walked: is it a position?
-/
import Derived.Test.YtihojhfpepbjhaaGreatDoorJ24
import Derived.Lib.Strings
import Derived.Test.YtihojhfpepbjhaaGreatDoorJ18
import Derived.Test.YtihojhfpepbjhaaGreatDoorJ5
import Derived.Test.YtihojhfpepbjhaaGreatDoorJ14
namespace Go.Proofs.YtihojhfpepbjhaaGreatDoor
open Go.RowKit

theorem bytes_dataT (l : List UInt8) : (⟨l.toArray⟩ : ByteArray).data.toList = l := rfl
theorem bytes_eqT {a b : ByteArray} (h : a.data.toList = b.data.toList) : a = b := by
  cases a with | mk x => cases b with | mk y => simp only at h; rw [Array.toList_inj.1 h]
theorem wrows_top (W : Nat) (C : List UInt8) (k : Nat) : wrows W C (k + 1) = (C.drop (k * W)).take W ++ (if k = 0 then [] else 47 :: wrows W C k) := rfl

theorem app_data (a b : ByteArray) : (a ++ b).data.toList = a.data.toList ++ b.data.toList := by simp [ByteArray.data_append]
/-- One row more. -/
theorem text_step {W H k j m : Nat} {C X Y : List UInt8} (hj : H = k + 1 + j) (hm : m = j * W) (hX : X ++ (if k = 0 ∨ k = H then [] else [47]) ++ wrows W C (H - k) = wrows W C H)
    (hY : Y = X ++ (if k = 0 then [] else [47]) ++ (C.drop m).take W) : Y ++ (if k + 1 = 0 ∨ k + 1 = H then [] else [47]) ++ wrows W C (H - (k + 1)) = wrows W C H := by
  have e1 : (if k + 1 = 0 ∨ k + 1 = H then ([] : List UInt8) else [47]) = if j = 0 then [] else [47] := by
    by_cases j0 : j = 0
    · rw [if_pos j0, if_pos (by omega)]
    · rw [if_neg j0, if_neg (by omega)]
  have e2 : (if k = 0 ∨ k = H then ([] : List UInt8) else [47]) = if k = 0 then [] else [47] := by
    by_cases k0 : k = 0
    · rw [if_pos k0, if_pos (by omega)]
    · rw [if_neg k0, if_neg (by omega)]
  have e3 : H - k = j + 1 := by omega
  have e4 : H - (k + 1) = j := by omega
  rw [← hX, e1, e2, e3, e4, hY, wrows_top, ← hm]
  by_cases j0 : j = 0
  · simp [j0, wrows]
  · simp [j0]

set_option maxHeartbeats 1000000 in
set_option maxRecDepth 100000 in
theorem Text_ok {W H : Nat} {T : Int} {C A B : ByteArray} (w : World) (p : IsPos W H C T A B) :
    Calls Tryz.prog 40 #[.agg #[.int .i64 W, .int .i64 H, .string C, .int .i64 T, .string A, .string B]] w fun e w' =>
      e = .returned (.string ⟨(wtxt W H C.data.toList T A.data.toList B.data.toList).toArray⟩) ∧ Below w.heap.size w w' := by
  have h64 := p.c64
  have hA := p.as
  have hB := p.bs
  have hW0 := p.w0
  have hW1 := p.w1
  have hH0 := p.h0
  have hH1 := p.h1
  have HC : Hid (C.size = W * H) := p.c
  have hT := p.t
  clear p
  go_enter Tryz.func40, Tryz.ntmps40
  go_wp2
  go_loopw [3, 4] (fun v i wr => ∃ (k : Nat) (X : ByteArray), k ≤ H ∧ i = .int .i64 (k : Int) ∧ v = .string X ∧ X.data.toList ++ (if k = 0 ∨ k = H then [] else [47]) ++ wrows W C.data.toList (H - k) = wrows W C.data.toList H ∧ X.size ≤ 72 ∧ wr = w.alloc (.cells #[.int .i64 W, .int .i64 H, .string C, .int .i64 T, .string A, .string B] 24 (0, 0))) (fun _ i _ => H - (intOf i).toNat)
  case atStart => exact ⟨0, ⟨#[]⟩, Nat.zero_le _, rfl, rfl, by simp, by decide, rfl⟩
  case round =>
    obtain ⟨k, X, hk, rfl, rfl, hX, hXs, rfl⟩ := hrel
    have hXl : X.data.toList.length = X.size := len_data X
    by_cases hlt : k < H
    · obtain ⟨j, hj⟩ : ∃ j, H = k + 1 + j := ⟨H - (k + 1), by omega⟩
      have hHk : (H : Int) - (k : Int) = (j : Int) + 1 := by omega
      have hH1 : (H : Int) - 1 - (k : Int) = (j : Int) := by omega
      obtain ⟨m, hm⟩ : ∃ m, m = j * W := ⟨_, rfl⟩
      have hmW : m + W = (j + 1) * W := by rw [hm, Nat.succ_mul]
      have hle : m + W ≤ C.size := by rw [hmW, unhide HC, Nat.mul_comm W H]; exact Nat.mul_le_mul_right _ (by omega)
      have hmi : (j : Int) * (W : Int) = (m : Int) := by rw [hm]; simp
      have hni : ((j : Int) + 1) * (W : Int) = ((m + W : Nat) : Int) := by rw [hmW]; simp
      have hx : (C.extract m (m + W)).data.toList = (C.data.toList.drop m).take W := by
        rw [ByteArray.data_extract, Array.toList_extract, List.extract_eq_take_drop]
        congr 1
        omega
      have hxs : (C.extract m (m + W)).size = W := by rw [ByteArray.size_extract]; omega
      have htot : (wrows W C.data.toList H).length ≤ 72 := by
        have h1 := wrows_length W C.data.toList H
        have h2 : H * (W + 1) ≤ 8 * 9 := Nat.mul_le_mul (by omega) (by omega)
        omega
      have hfin : ∀ (Y : ByteArray), Y.data.toList = X.data.toList ++ (if k = 0 then [] else [47]) ++ (C.data.toList.drop m).take W →
          Y.data.toList ++ (if k + 1 = 0 ∨ k + 1 = H then [] else [47]) ++ wrows W C.data.toList (H - (k + 1)) = wrows W C.data.toList H ∧ Y.size ≤ 72 := by
        intro Y hY
        have hall := text_step hj hm hX hY
        refine ⟨hall, ?_⟩
        have := congrArg List.length hall
        rw [List.length_append, List.length_append, len_data] at this
        omega
      have HFIN := hide hfin
      have HX := hide hx
      clear hfin hx hX hm hmW htot hj hXl
      generalize hXX : C.extract m (m + W) = R at HX hxs
      by_cases hk0 : k = 0
      · have hki : ¬ (0 : Int) < (k : Int) := by omega
        have HK0 := hide hk0
        clear hk0
        go_wp2
        go_roundw
        case rel =>
          obtain ⟨f1, f2⟩ := unhide HFIN (X ++ R) (by rw [app_data, unhide HX, if_pos (unhide HK0), List.append_nil])
          exact ⟨k + 1, X ++ R, by omega, by go_num, rfl, f1, f2, trivial⟩
        case measure => simp [intOf]; omega
      · have hki : (0 : Int) < (k : Int) := by omega
        go_wp2
        go_roundw
        case rel =>
          obtain ⟨f1, f2⟩ := unhide HFIN (X ++ ⟨#[47]⟩ ++ R) (by rw [app_data, app_data, unhide HX, if_neg hk0])
          exact ⟨k + 1, X ++ ⟨#[47]⟩ ++ R, by omega, by go_num, rfl, f1, f2, trivial⟩
        case measure => simp [intOf]; omega
    · obtain rfl : k = H := by omega
      have hXe : X.data.toList = wrows W C.data.toList k := by
        rw [← hX, Nat.sub_self]
        simp [wrows]
      have HXE := hide hXe
      clear hX hXe hXl
      have strE : ∀ s : ByteArray, s.size = 0 → s = ⟨#[]⟩ := fun s h => ByteArray.ext (Array.eq_empty_of_size_eq_zero h)
      have neE : ∀ s : ByteArray, ¬ s.size = 0 → s.toList.isEmpty = false ∧ whand s.data.toList = s.data.toList := fun s h => by
        have hne : s.data.toList ≠ [] := fun e => h (by rw [← len_data, e]; rfl)
        exact ⟨by rw [Lib.toList_data, List.isEmpty_eq_false_iff]; exact hne, by rw [whand, if_neg hne]⟩
      rcases hT with rfl | rfl
      all_goals
        by_cases hA0 : A.size = 0
        · obtain rfl := strE A hA0
          by_cases hB0 : B.size = 0
          · obtain rfl := strE B hB0
            clear strE neE hA0 hB0
            go_wp2
            go_quiet (fail)
            go_wp2
            go_ret
            refine ⟨?_, below_drewN ((Below.refl _ _).alloc (Nat.le_refl _) _) _⟩
            show Ending.returned (.string _) = Ending.returned (.string _)
            congr 2
            apply bytes_eqT
            rw [bytes_dataT]
            simp [unhide HXE, wtxt, whand]
          · obtain ⟨hB1, hB2⟩ := neE B hB0
            have HB2 := hide hB2
            clear strE neE hA0 hB0 hB2
            go_wp2
            go_quiet (fail)
            go_wp2
            go_ret
            refine ⟨?_, below_drewN ((Below.refl _ _).alloc (Nat.le_refl _) _) _⟩
            show Ending.returned (.string _) = Ending.returned (.string _)
            congr 2
            apply bytes_eqT
            rw [bytes_dataT]
            simp [unhide HXE, wtxt, unhide HB2]
            simp [whand]
        · obtain ⟨hA1, hA2⟩ := neE A hA0
          have HA2 := hide hA2
          by_cases hB0 : B.size = 0
          · obtain rfl := strE B hB0
            clear strE neE hA0 hB0 hA2
            go_wp2
            go_quiet (fail)
            go_wp2
            go_ret
            refine ⟨?_, below_drewN ((Below.refl _ _).alloc (Nat.le_refl _) _) _⟩
            show Ending.returned (.string _) = Ending.returned (.string _)
            congr 2
            apply bytes_eqT
            rw [bytes_dataT]
            simp [unhide HXE, wtxt, unhide HA2]
            simp [whand]
          · obtain ⟨hB1, hB2⟩ := neE B hB0
            have HB2 := hide hB2
            clear strE neE hA0 hB0 hB2 hA2
            go_wp2
            go_quiet (fail)
            go_wp2
            go_ret
            refine ⟨?_, below_drewN ((Below.refl _ _).alloc (Nat.le_refl _) _) _⟩
            show Ending.returned (.string _) = Ending.returned (.string _)
            congr 2
            apply bytes_eqT
            rw [bytes_dataT]
            simp [unhide HXE, wtxt, unhide HA2, unhide HB2]
end Go.Proofs.YtihojhfpepbjhaaGreatDoor

namespace Go.Proofs.YtihojhfpepbjhaaGreatDoor

theorem idxF_pos (ps : List Pc) (c i : Nat) : 0 ≤ idxF ps c i ↔ ∃ p ∈ ps, p.l = c := by
  induction ps generalizing i with
  | nil => simp [idxF]
  | cons q t ih =>
    rw [idxF]
    by_cases h : q.l = c
    · rw [if_pos h]; simp [h]
    · rw [if_neg h, ih]; simp [h]
/-- The place of the first piece with the letter of the k-th is k just where none ahead has it. -/
theorem idxF_at (ps : List Pc) (k i : Nat) (p : Pc) (h : ps[k]? = some p) : idxF ps p.l i = ((i + k : Nat) : Int) ↔ ∀ q ∈ ps.take k, q.l ≠ p.l := by
  induction ps generalizing k i with
  | nil => simp at h
  | cons q t ih =>
    cases k with
    | zero =>
      simp only [List.getElem?_cons_zero, Option.some.injEq] at h
      subst h
      simp [idxF]
    | succ k =>
      rw [List.getElem?_cons_succ] at h
      rw [idxF]
      by_cases hq : q.l = p.l
      · rw [if_pos hq]
        constructor
        · intro e; omega
        · intro hall; exact absurd hq (hall q (by simp))
      · rw [if_neg hq, show i + (k + 1) = (i + 1) + k by omega, ih k (i + 1) h]
        simp [hq]
theorem hasL_bit (S l c : Nat) (hl : capB (l : Int) = true) (hc : capB (c : Int) = true) : hasL (S ||| 2 ^ (l - 65)) c = (hasL S c || decide (l = c)) := by
  unfold capB at hl hc
  simp only [Bool.and_eq_true, decide_eq_true_eq] at hl hc
  have hcb : capB (c : Int) = true := by simp only [capB, Bool.and_eq_true, decide_eq_true_eq]; exact hc
  unfold hasL
  rw [hcb, Bool.true_and, Bool.true_and, Nat.testBit_or, Nat.testBit_two_pow]
  have e : ((c : Int) - 65).toNat = c - 65 := by omega
  rw [e]
  congr 1
  by_cases h : l = c
  · subst h; simp
  · have : ¬ l - 65 = c - 65 := by omega
    simp [h, this]
theorem hasL_bitsP : ∀ (ps : List Pc) (S c : Nat), (∀ p ∈ ps, capB (p.l : Int) = true) → capB (c : Int) = true → (hasL (bitsP S ps) c = true ↔ (hasL S c = true ∨ ∃ p ∈ ps, p.l = c))
  | [], S, c, _, _ => by simp [bitsP]
  | p :: t, S, c, h, hc => by
    rw [bitsP, hasL_bitsP t _ c (fun q hq => h q (List.mem_cons_of_mem _ hq)) hc, hasL_bit S p.l c (h p (by simp)) hc]
    simp only [Bool.or_eq_true, decide_eq_true_eq, List.mem_cons, exists_eq_or_imp, or_assoc]
theorem pcB_cap {l v : Int} {ws : List Wy} (h : pcB l v ws = true) : capB l = true := by
  simp only [pcB, Bool.and_eq_true] at h
  exact h.1.1.1
/-- No letter twice: each piece is the first with its letter. -/
theorem okP_iff : ∀ (t pre : List Pc) (S : Nat), (∀ p ∈ pre, capB (p.l : Int) = true) → (∀ c : Nat, capB (c : Int) = true → (hasL S c = true ↔ ∃ p ∈ pre, p.l = c)) →
    (okP S t = true ↔ ∀ (k : Nat) (p : Pc), t[k]? = some p → pcB p.l p.v p.ws = true ∧ ∀ q ∈ pre ++ t.take k, q.l ≠ p.l)
  | [], pre, S, _, _ => by simp [okP]
  | p :: t, pre, S, hpre, hS => by
    rw [okP, Bool.and_eq_true, Bool.and_eq_true]
    constructor
    · rintro ⟨⟨hp, hn⟩, ht⟩ k q hq
      have hcap := pcB_cap hp
      have hno : ∀ r ∈ pre, r.l ≠ p.l := fun r hr e => by
        have := (hS p.l hcap).2 ⟨r, hr, e⟩
        rw [this] at hn; cases hn
      cases k with
      | zero =>
        simp only [List.getElem?_cons_zero, Option.some.injEq] at hq
        subst hq
        simpa using ⟨hp, hno⟩
      | succ k =>
        rw [List.getElem?_cons_succ] at hq
        have ih := (okP_iff t (pre ++ [p]) (S ||| 2 ^ (p.l - 65)) (fun r hr => by
          rcases List.mem_append.1 hr with h | h
          · exact hpre r h
          · rw [List.mem_singleton.1 h]; exact hcap) (fun c hc => by
            rw [hasL_bit S p.l c hcap hc, Bool.or_eq_true, hS c hc, decide_eq_true_eq]
            simp [or_and_right, exists_or])).1 ht k q hq
        refine ⟨ih.1, fun r hr => ih.2 r ?_⟩
        simpa [List.take_succ_cons] using hr
    · intro h
      have h0 := h 0 p rfl
      have hcap := pcB_cap h0.1
      refine ⟨⟨h0.1, ?_⟩, ?_⟩
      · cases hh : hasL S p.l with
        | false => rfl
        | true =>
          obtain ⟨r, hr, e⟩ := (hS p.l hcap).1 hh
          exact absurd e (h0.2 r (by simpa using hr))
      · refine (okP_iff t (pre ++ [p]) (S ||| 2 ^ (p.l - 65)) (fun r hr => by
          rcases List.mem_append.1 hr with h | h
          · exact hpre r h
          · rw [List.mem_singleton.1 h]; exact hcap) (fun c hc => by
            rw [hasL_bit S p.l c hcap hc, Bool.or_eq_true, hS c hc, decide_eq_true_eq]
            simp [or_and_right, exists_or])).2 fun k q hq => ?_
        have := h (k + 1) q (by rw [List.getElem?_cons_succ]; exact hq)
        refine ⟨this.1, fun r hr => this.2 r ?_⟩
        simpa [List.take_succ_cons] using hr
theorem hasL_zero (c : Int) : hasL 0 c = false := by simp [hasL]
theorem okP_zero (ps : List Pc) : okP 0 ps = true ↔ ∀ (k : Nat) (p : Pc), ps[k]? = some p → pcB p.l p.v p.ws = true ∧ idxF ps p.l 0 = (k : Int) := by
  rw [okP_iff ps [] 0 (by simp) (fun c _ => by rw [hasL_zero]; simp)]
  constructor
  · intro h k p hp
    have := h k p hp
    refine ⟨this.1, ?_⟩
    have e := (idxF_at ps k 0 p hp).2 (by simpa using this.2)
    simpa using e
  · intro h k p hp
    have := h k p hp
    refine ⟨this.1, ?_⟩
    have e := (idxF_at ps k 0 p hp).1 (by simpa using this.2)
    simpa using e
/-- A capital letter is one of the pieces'. -/
theorem letter_of (ps : List Pc) (h : psB ps = true) (c : Nat) (hc : capB (c : Int) = true) : hasL (lettersS ps) c = decide (0 ≤ idxF ps c 0) := by
  have hok : okP 0 ps = true := by simp only [psB, Bool.and_eq_true] at h; exact h.2
  have hcap : ∀ p ∈ ps, capB (p.l : Int) = true := fun p hp => by
    obtain ⟨k, hk, e⟩ := List.getElem_of_mem hp
    exact pcB_cap ((okP_zero ps).1 hok k p (by rw [List.getElem?_eq_getElem hk, e])).1
  rw [lettersS, if_pos h]
  have := hasL_bitsP ps 0 c hcap hc
  rw [hasL_zero] at this
  cases hh : hasL (bitsP 0 ps) c with
  | true =>
    rw [hh] at this
    have h2 := this.1 rfl
    symm
    rw [decide_eq_true_eq, idxF_pos]
    simpa using h2
  | false =>
    symm
    rw [decide_eq_false_iff_not, idxF_pos]
    intro h2
    rw [hh] at this
    exact absurd (this.2 (Or.inr h2)) (by simp)
end Go.Proofs.YtihojhfpepbjhaaGreatDoor

namespace Go.Proofs.YtihojhfpepbjhaaGreatDoor
open Go.RowKit

theorem cell1 {c : Int} (h : c = 46) : cellB c = true := by simp [cellB, h]
theorem cell2 {c : Int} (h : capB c = true) : cellB c = true := by simp [cellB, h]
theorem cell3 {c : Int} (h : (c != 46) = false ∨ (!smallB c) = false) : cellB c = true := by
  rw [cellB_alt]
  rcases h with h | h
  · simp only [bne_eq_false_iff_eq] at h; simp [h]
  · simp only [Bool.not_eq_false'] at h; simp [h]
theorem cell4 {c : Int} (h : ¬ capB c = true) (h' : (c != 46) = true ∧ (!smallB c) = true) : cellB c = false := by
  rw [cellB_alt]
  simp only [bne_iff_ne, ne_eq, Bool.not_eq_true', Bool.not_eq_true] at h h'
  simp [h, h'.1, h'.2]

set_option maxHeartbeats 2000000 in
theorem refPosition_rest {W H : Nat} {T : Int} {C A B : ByteArray} (w : World) (hA : A.size ≤ maxLen) (hB : B.size ≤ maxLen) (h : headB W H C.size T A.data.toList B.data.toList = true) :
    Calls Tryz.prog 30 #[.agg #[.int .i64 W, .int .i64 H, .string C, .int .i64 T, .string A, .string B]] w fun e w' => e = .returned (.bool (cellsB C.data.toList)) ∧ Below w.heap.size w w' := by
  simp only [headB, sideB, Bool.and_eq_true, Bool.or_eq_true, decide_eq_true_eq] at h
  obtain ⟨⟨⟨⟨⟨⟨w0, w1⟩, h0, h1⟩, hc⟩, ht⟩, ha⟩, hb⟩ := h
  have w1' : W ≤ 8 := by omega
  have h1' : H ≤ 8 := by omega
  have hm : W * H ≤ 64 := Nat.mul_le_mul w1' h1'
  have hcs : ((C.size : Int) != (W : Int) * (H : Int)) = false := by simpa using hc
  have h64 : C.size ≤ 64 := by have : ((W * H : Nat) : Int) = (W : Int) * H := by simp
                               omega
  clear hc
  have hd1 : decide ((W : Int) < 1) = false := by simp; omega
  have hd2 : decide ((8 : Int) < (W : Int)) = false := by simp; omega
  have hd3 : decide ((H : Int) < 1) = false := by simp; omega
  have hd4 : decide ((8 : Int) < (H : Int)) = false := by simp; omega
  clear w0 w1 h0 h1 w1' h1'
  rcases ht with rfl | rfl
  all_goals
    go_enter Tryz.func30, Tryz.ntmps30
    go_wp2_with (go_at_call 61; refine (refHand_any _ _ ?_).mono ?_; assumption; rintro e w' ⟨rfl, n, rfl⟩)
    go_loop [3] (fun i => ∃ k : Nat, k ≤ C.size ∧ i = .int .i64 k ∧ cellsB (C.data.toList.take k) = true) (fun i => C.size - (intOf i).toNat)
    case atStart => exact ⟨0, Nat.zero_le _, rfl, rfl⟩
    case round =>
      obtain ⟨k, hk, rfl, hcl⟩ := hrel
      have HC := hide hcl
      clear hcl
      by_cases hlt : k < C.size
      · have HS := hide (take_snoc C k hlt)
        go_wp2_with (first | (go_at_call 31; refine (Big_any _ _).mono ?_; rintro e w' ⟨rfl, rfl⟩) | (go_at_call 62; refine (Small_any _ _).mono ?_; rintro e w' ⟨rfl, rfl⟩))
        all_goals first
          | (have hx : cellB ↑C[k].toNat = true := (by first | exact cell1 (by assumption) | exact cell2 (by assumption) | exact cell3 (by assumption))
             refine ⟨⟨k + 1, by omega, by go_num, ?_⟩, by simp [intOf]; omega⟩
             rw [unhide HS, cellsB_snoc, unhide HC, hx]; rfl)
          | (have hx : cellB ↑C[k].toNat = false := cell4 (by assumption) (by assumption)
             go_ret
             refine ⟨ret_bool (cellsB_take (k + 1) (by rw [unhide HS, cellsB_snoc, hx, Bool.and_false])).symm, ?_⟩
             first
               | exact (Below.refl _ _).alloc (Nat.le_refl _) _
               | exact below_drewN ((Below.refl _ _).alloc (Nat.le_refl _) _) _
               | exact below_drewN (below_drewN ((Below.refl _ _).alloc (Nat.le_refl _) _) _) _)
      · go_wp2
        go_ret
        have h1 := unhide HC
        rw [take_all C k (by omega)] at h1
        refine ⟨ret_bool h1.symm, ?_⟩
        first
          | exact (Below.refl _ _).alloc (Nat.le_refl _) _
          | exact below_drewN ((Below.refl _ _).alloc (Nat.le_refl _) _) _
          | exact below_drewN (below_drewN ((Below.refl _ _).alloc (Nat.le_refl _) _) _) _

theorem refPosition_any (W H T : Int) (C A B : ByteArray) (w : World) (hA : A.size ≤ maxLen) (hB : B.size ≤ maxLen) :
    Calls Tryz.prog 30 #[.agg #[.int .i64 W, .int .i64 H, .string C, .int .i64 T, .string A, .string B]] w fun e w' => e = .returned (.bool (posB W H C.data.toList T A.data.toList B.data.toList)) ∧ Below w.heap.size w w' := by
  rw [posB_alt, len_data]
  cases h : headB W H C.size T A.data.toList B.data.toList with
  | false => exact refPosition_head W H T C A B w hA hB h
  | true =>
    have h' := h
    simp only [headB, sideB, Bool.and_eq_true, decide_eq_true_eq] at h
    obtain ⟨W', rfl⟩ := Int.eq_ofNat_of_zero_le (show 0 ≤ W by omega)
    obtain ⟨H', rfl⟩ := Int.eq_ofNat_of_zero_le (show 0 ≤ H by omega)
    exact refPosition_rest w hA hB h'
end Go.Proofs.YtihojhfpepbjhaaGreatDoor
