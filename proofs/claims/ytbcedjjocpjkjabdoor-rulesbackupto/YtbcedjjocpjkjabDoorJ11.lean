/-
  board.writeHand and board.Write, walked: the text of a position.
  board.Write, walked at a position.
  package rules, walked: writeLine.
-/
import Derived.Test.YtbcedjjocpjkjabDoorJ1
import Derived.Test.YtbcedjjocpjkjabDoorW40
import Derived.Test.YtbcedjjocpjkjabDoorM7
import Derived.Test.YtbcedjjocpjkjabDoorR8
namespace Go.Proofs.YtbcedjjocpjkjabDoor
open Go.RowKit

theorem Bld.lt {b : Nat} {l : List UInt8} {w : World} (h : Bld b l w) : b < w.heap.size := by
  rcases h with h | h
  · exact h.lt
  · exact h.lt

theorem Bld.fresh (w : World) : Bld w.heap.size [] (w.alloc (.cells #[.pointer none, .slice none 0 0] 47 (0, 0))) := by
  refine Or.inl ⟨Nat.le_refl _, .slice none 0 0, heap_alloc_new w _, ?_, by simp [Value.ownBlock]⟩
  exact ⟨rfl, Or.inl ⟨rfl, rfl⟩⟩

theorem Bld.drew {b : Nat} {l : List UInt8} {w : World} (h : Bld b l w) : Bld b l w.drew := h

set_option maxHeartbeats 400000 in
theorem writeHand_any (b : Nat) (l : List UInt8) (s : ByteArray) (w : World) (h : Bld b l w) (hlen : l.length < 1000000) (hs : s.size < 1000000) :
    Calls Tryd.prog 30 #[.pointer (some ⟨b, 0, none⟩), .string s] w fun e w' => e = .returned (.tuple #[]) ∧ Bld b (l ++ whand s.data.toList) w' ∧ Below b w w' := by
  by_cases h0 : s.size = 0
  · have hs : s = ⟨#[]⟩ := by
      apply ByteArray.ext
      exact Array.eq_empty_of_size_eq_zero h0
    subst hs
    go_enter Tryd.func30, Tryd.ntmps30
    go_wp2_with (go_at_call 29; refine (WriteByte_any b l 45 _ h hlen).mono ?_)
    rintro e w1 ⟨rfl, h1, hb1⟩
    go_wp2
    refine bodyPost_ret (v := .tuple #[]) (by simp [results, Tryd.results30]) rfl ⟨rfl, h1, hb1⟩
  · have hne : s.data.toList ≠ [] := fun e => h0 (by rw [← len_data, e]; rfl)
    have hw : whand s.data.toList = s.data.toList := by rw [whand, if_neg hne]
    have hne2 : s.toList.isEmpty = false := by rw [Lib.toList_data, List.isEmpty_eq_false_iff]; exact hne
    go_enter Tryd.func30, Tryd.ntmps30
    go_wp2_with (go_at_call 28; refine (WriteString_any b l s _ h hlen hs).mono ?_)
    rintro e w1 ⟨rfl, h1, hb1⟩
    go_wp2
    go_end0
    exact ⟨rfl, by rw [hw]; exact h1, hb1⟩

set_option maxHeartbeats 400000 in
theorem Write_no (W H T : Int) (C A B : ByteArray) (w : World) (hC : C.size ≤ maxLen) (hA : A.size ≤ maxLen) (hB : B.size ≤ maxLen) (h : posB W H C.data.toList T A.data.toList B.data.toList = false) :
    Calls Tryd.prog 10 #[.agg #[.int .i64 W, .int .i64 H, .string C, .int .i64 T, .string A, .string B]] w fun e w' =>
      e = .returned (.tuple #[.string ⟨#[]⟩, .int .i64 1]) ∧ Below w.heap.size w w' := by
  have HP := hide h
  clear h
  go_enter Tryd.func10, Tryd.ntmps10
  go_wp2_with fail
  refine (Check_no _ _ _ _ _ _ _ hC hA hB (unhide HP)).mono ?_
  rintro e w1 ⟨rfl, hb1⟩
  go_wp2
  go_ret2
  exact ⟨rfl, Below.trans ((Below.refl _ _).alloc (Nat.le_refl _) _) (hb1.mono (by simp))⟩
end Go.Proofs.YtbcedjjocpjkjabDoor

namespace Go.Proofs.YtbcedjjocpjkjabDoor
open Go.RowKit

theorem wrows_length (W : Nat) (C : List UInt8) : ∀ n, (wrows W C n).length ≤ n * (W + 1)
  | 0 => by simp [wrows]
  | n + 1 => by
    have := wrows_length W C n
    rw [wrows, List.length_append, Nat.succ_mul]
    have h1 : (List.take W (List.drop (n * W) C)).length ≤ W := by simp; omega
    split <;> simp <;> omega

set_option maxHeartbeats 1000000 in
set_option maxRecDepth 100000 in
theorem Write_ok {W H : Nat} {T : Int} {C A B : ByteArray} (w : World) (p : IsPos W H C T A B) :
    Calls Tryd.prog 10 #[.agg #[.int .i64 W, .int .i64 H, .string C, .int .i64 T, .string A, .string B]] w fun e w' =>
      e = .returned (.tuple #[.string ⟨(wtxt W H C.data.toList T A.data.toList B.data.toList).toArray⟩, .int .i64 0]) ∧ Below w.heap.size w w' := by
  have HP := hide p
  have h64 := p.c64
  have hA := p.as
  have hB := p.bs
  have hW0 := p.w0
  have hW1 := p.w1
  have hH0 := p.h0
  have hH1 := p.h1
  have HC : Hid (C.size = W * H) := p.c
  have hT := p.t
  clear p
  go_enter Tryd.func10, Tryd.ntmps10
  go_wp2_with fail
  refine (Check_ok _ _ _ _ _ _ _ (by unfold maxLen; omega) (by unfold maxLen; omega) (by unfold maxLen; omega) (unhide HP).posB).mono ?_
  rintro e w1 ⟨rfl, hb1⟩
  have hs1 : w.heap.size + 1 ≤ w1.heap.size := by have := hb1.size; simp at this; omega
  obtain ⟨hc1, hf1⟩ := bcell hb1
  have d0 : w1.cell? ⟨w.heap.size, 0, none⟩ = some (.int .i64 W) := (hc1 w.heap.size 0 (by simp)).trans (by simp)
  have d1 : w1.cell? ⟨w.heap.size, 1, none⟩ = some (.int .i64 H) := (hc1 w.heap.size 1 (by simp)).trans (by simp)
  have d2 : w1.cell? ⟨w.heap.size, 2, none⟩ = some (.string C) := (hc1 w.heap.size 2 (by simp)).trans (by simp)
  have d3 : w1.cell? ⟨w.heap.size, 3, none⟩ = some (.int .i64 T) := (hc1 w.heap.size 3 (by simp)).trans (by simp)
  have d4 : w1.cell? ⟨w.heap.size, 4, none⟩ = some (.string A) := (hc1 w.heap.size 4 (by simp)).trans (by simp)
  have d5 : w1.cell? ⟨w.heap.size, 5, none⟩ = some (.string B) := (hc1 w.heap.size 5 (by simp)).trans (by simp)
  have hbw : Below w.heap.size w w1 := Below.trans ((Below.refl _ _).alloc (Nat.le_refl _) _) (hb1.mono (by simp))
  clear hc1 hf1 hb1
  have a1 : ∀ o, (w1.alloc o).cell? ⟨w.heap.size, 1, none⟩ = some (.int .i64 H) := fun o => (((Below.refl w1.heap.size w1).alloc (Nat.le_refl _) o).cell (p := ⟨w.heap.size, 1, none⟩) (by dsimp only; omega)).trans d1
  go_wp2
  clear a1
  have hfr := Bld.fresh w1
  go_loopw [6] (fun i wr => ∃ (k : Nat) (pre : List UInt8), k ≤ H ∧ i = .int .i64 ((k : Int) - 1) ∧ pre ++ wrows W C.data.toList k = wrows W C.data.toList H ∧ Bld w1.heap.size pre wr ∧ Below w1.heap.size w1 wr) (fun i _ => (intOf i + 1).toNat)
  case atStart => exact ⟨H, [], Nat.le_refl _, by go_num, rfl, hfr, (Below.refl _ _).alloc (Nat.le_refl _) _⟩
  case round =>
    obtain ⟨k, pre, hk, rfl, hpre, hbl, hbr⟩ := hrel
    clear hfr
    have hsz : w1.heap.size ≤ wr.heap.size := hbr.size
    have e0 := (hbr.cell (p := ⟨w.heap.size, 0, none⟩) (by dsimp only; omega)).trans d0
    have e2 := (hbr.cell (p := ⟨w.heap.size, 2, none⟩) (by dsimp only; omega)).trans d2
    have e3 := (hbr.cell (p := ⟨w.heap.size, 3, none⟩) (by dsimp only; omega)).trans d3
    have e4 := (hbr.cell (p := ⟨w.heap.size, 4, none⟩) (by dsimp only; omega)).trans d4
    have e5 := (hbr.cell (p := ⟨w.heap.size, 5, none⟩) (by dsimp only; omega)).trans d5
    have hpl : pre.length ≤ 72 := by
      have h1 := congrArg List.length hpre
      have h2 := wrows_length W C.data.toList H
      have h3 : H * (W + 1) ≤ 8 * 9 := Nat.mul_le_mul hH1 (by omega)
      rw [List.length_append] at h1
      omega
    cases k with
    | zero =>
      have hpe : pre = wrows W C.data.toList H := by rw [← hpre]; simp [wrows]
      have HPE := hide hpe
      have hA9 : A.data.toList.length ≤ 8 := by rw [len_data]; exact hA
      have hwA : (whand A.data.toList).length ≤ 8 := by unfold whand; split <;> simp <;> omega
      clear hpe hpre
      rcases hT with rfl | rfl
      · go_wp2_with fail
        refine (WriteString_any _ pre ⟨#[32, 119, 32]⟩ _ hbl (by omega) (by decide)).mono ?_
        rintro e w2 ⟨rfl, hbl2, hb2⟩
        have hs2 := hb2.size
        have q4 := (hb2.cell (p := ⟨w.heap.size, 4, none⟩) (by dsimp only; omega)).trans e4
        have q5 := (hb2.cell (p := ⟨w.heap.size, 5, none⟩) (by dsimp only; omega)).trans e5
        go_wp2_with fail
        refine (writeHand_any _ _ A _ hbl2 (by rw [List.length_append]; simp; omega) (by omega)).mono ?_
        rintro e w3 ⟨rfl, hbl3, hb3⟩
        have hs3 := hb3.size
        have t5 := (hb3.cell (p := ⟨w.heap.size, 5, none⟩) (by dsimp only; omega)).trans q5
        go_wp2_with fail
        refine (WriteByte_any _ _ 47 _ hbl3 (by rw [List.length_append, List.length_append]; simp; omega)).mono ?_
        rintro e w4 ⟨rfl, hbl4, hb4⟩
        have hs4 := hb4.size
        have v5 := (hb4.cell (p := ⟨w.heap.size, 5, none⟩) (by dsimp only; omega)).trans t5
        go_wp2_with fail
        refine (writeHand_any _ _ B _ hbl4 (by rw [List.length_append, List.length_append, List.length_append]; simp; omega) (by omega)).mono ?_
        rintro e w5 ⟨rfl, hbl5, hb5⟩
        go_wp2_with fail
        refine (String_any _ _ _ hbl5).mono ?_
        rintro e w6 ⟨rfl, hb6⟩
        go_wp2
        go_ret2
        refine ⟨?_, hbw.trans (((((hbr.trans hb2).trans hb3).trans hb4).trans hb5).trans hb6 |>.mono (by omega))⟩
        rw [unhide HPE]
        simp [wtxt]
      · go_wp2_with fail
        refine (WriteString_any _ pre ⟨#[32, 98, 32]⟩ _ hbl (by omega) (by decide)).mono ?_
        rintro e w2 ⟨rfl, hbl2, hb2⟩
        have hs2 := hb2.size
        have q4 := (hb2.cell (p := ⟨w.heap.size, 4, none⟩) (by dsimp only; omega)).trans e4
        have q5 := (hb2.cell (p := ⟨w.heap.size, 5, none⟩) (by dsimp only; omega)).trans e5
        go_wp2_with fail
        refine (writeHand_any _ _ A _ hbl2 (by rw [List.length_append]; simp; omega) (by omega)).mono ?_
        rintro e w3 ⟨rfl, hbl3, hb3⟩
        have hs3 := hb3.size
        have t5 := (hb3.cell (p := ⟨w.heap.size, 5, none⟩) (by dsimp only; omega)).trans q5
        go_wp2_with fail
        refine (WriteByte_any _ _ 47 _ hbl3 (by rw [List.length_append, List.length_append]; simp; omega)).mono ?_
        rintro e w4 ⟨rfl, hbl4, hb4⟩
        have hs4 := hb4.size
        have v5 := (hb4.cell (p := ⟨w.heap.size, 5, none⟩) (by dsimp only; omega)).trans t5
        go_wp2_with fail
        refine (writeHand_any _ _ B _ hbl4 (by rw [List.length_append, List.length_append, List.length_append]; simp; omega) (by omega)).mono ?_
        rintro e w5 ⟨rfl, hbl5, hb5⟩
        go_wp2_with fail
        refine (String_any _ _ _ hbl5).mono ?_
        rintro e w6 ⟨rfl, hb6⟩
        go_wp2
        go_ret2
        refine ⟨?_, hbw.trans (((((hbr.trans hb2).trans hb3).trans hb4).trans hb5).trans hb6 |>.mono (by omega))⟩
        rw [unhide HPE]
        simp [wtxt]
    | succ j =>
      obtain ⟨m, hm⟩ : ∃ m, m = j * W := ⟨_, rfl⟩
      have hmW : m + W = (j + 1) * W := by rw [hm, Nat.succ_mul]
      have hle : m + W ≤ C.size := by rw [hmW, unhide HC, Nat.mul_comm W H]; exact Nat.mul_le_mul_right _ hk
      have hmi : (j : Int) * (W : Int) = (m : Int) := by rw [hm]; simp
      have hni : ((j : Int) + 1) * (W : Int) = ((m + W : Nat) : Int) := by rw [hmW]; simp
      have hji : ((j + 1 : Nat) : Int) - 1 = (j : Int) := by omega
      rw [hji]
      clear hji
      have HM := hide hm
      have HMW := hide hmW
      clear hm hmW
      have hx : (C.extract m (m + W)).data.toList = (C.data.toList.drop m).take W := by
        rw [ByteArray.data_extract, Array.toList_extract, List.extract_eq_take_drop]
        congr 1
        omega
      have hxs : (C.extract m (m + W)).size ≤ 8 := by rw [ByteArray.size_extract]; omega
      have HX := hide hx
      clear hx
      have hrow : pre ++ ((C.data.toList.drop m).take W ++ (if j = 0 then [] else 47 :: wrows W C.data.toList j)) = wrows W C.data.toList H := by
        rw [← hpre, wrows, ← unhide HM]
      have HROW := hide hrow
      clear hrow
      go_wp2_with fail
      generalize C.extract m (m + W) = X at HX hxs ⊢
      refine (WriteString_any _ pre X _ hbl (by omega) (by omega)).mono ?_
      rintro e w2 ⟨rfl, hbl2, hb2⟩
      rw [unhide HX] at hbl2
      have hbr2 := hbr.trans hb2
      by_cases hj : j = 0
      · subst hj
        go_wp2
        go_roundw
        case rel => exact ⟨0, pre ++ (C.data.toList.drop m).take W, by omega, by go_num, by rw [← unhide HROW]; simp [wrows], hbl2, hbr2⟩
        case measure => simp [intOf]
      · have hj0 : (0 : Int) < (j : Int) := by omega
        go_wp2_with fail
        refine (WriteByte_any _ _ 47 _ hbl2 (by rw [List.length_append, List.length_take]; omega)).mono ?_
        rintro e w3 ⟨rfl, hbl3, hb3⟩
        have hbr3 := hbr2.trans hb3
        go_wp2
        go_roundw
        case rel => exact ⟨j, _, by omega, by go_num, by rw [← unhide HROW, if_neg hj, List.append_assoc, List.append_assoc]; rfl, hbl3, hbr3⟩
        case measure => simp [intOf]
end Go.Proofs.YtbcedjjocpjkjabDoor

namespace Go.Proofs.YtbcedjjocpjkjabDoor
open Go.RowKit
attribute [local go_sem ↓] Go.wp_at_zero Go.wp_at_succ

theorem builderAt_below {b : Nat} {p : Value} {bs : List Value} {w w' : World} {B : Nat} (h : Lib.BuilderAt 47 5 b b p bs w) (hb : Below B w w') (hB : w.heap.size ≤ B) : Lib.BuilderAt 47 5 b b p bs w' := by
  have hlt := h.lt
  obtain ⟨h0, v, h1, h2, h3⟩ := h
  refine ⟨h0, v, (hb.block b (by omega)).trans h1, ?_, h3⟩
  obtain ⟨h4, h5⟩ := h2
  refine ⟨h4, ?_⟩
  rcases h5 with h5 | ⟨g, cap, cur, e, hbg, hg, r⟩
  · exact .inl h5
  · refine .inr ⟨g, cap, cur, e, hbg, ?_, r⟩
    have hg2 : g < w.heap.size := by
      rcases Nat.lt_or_ge g w.heap.size with hl | hl
      · exact hl
      · rw [Array.getElem?_eq_none hl] at hg; cases hg
    exact (hb.block g (by omega)).trans hg
theorem Bld.below {b : Nat} {l : List UInt8} {w w' : World} {B : Nat} (h : Bld b l w) (hb : Below B w w') (hB : w.heap.size ≤ B) : Bld b l w' := by
  rcases h with h | h
  · exact .inl (builderAt_below h hb hB)
  · exact .inr (builderAt_below h hb hB)

/-- A line of words. -/
def lineL (xs : List (List UInt8)) : List UInt8 := Lib.join xs [32] ++ [10]

set_option maxHeartbeats 400000 in
theorem writeLine_any (b bk : Nat) (l : List UInt8) (xs : List ByteArray) (w : World) (h : Bld b l w) (hlen : l.length < 500000) (hcells : ∀ (j : Nat) x, xs[j]? = some x → w.cell? ⟨bk, j, none⟩ = some (.string x)) (hbk : bk < w.heap.size) (hxs : xs.length ≤ 10) (hjl : (Lib.join (xs.map (·.data.toList)) [32]).length < 100000) :
    Calls Tryd.prog 11 #[.pointer (some ⟨b, 0, none⟩), .slice (some ⟨bk, 0, none⟩) xs.length xs.length] w fun e w' => e = .returned (.tuple #[]) ∧ Bld b (l ++ lineL (xs.map (·.data.toList))) w' ∧ Below b w w' := by
  have hjn := Tryd.strings_Join bk 0 xs.length xs ⟨#[32]⟩ w (fun j x hx => by rw [Nat.zero_add]; exact hcells j x hx) hbk (by omega) (Nat.le_refl _) (by show (Lib.join (xs.map (·.data.toList)) [32]).length ≤ _; omega)
  obtain ⟨J, hJ⟩ : ∃ J : ByteArray, J = ⟨(Lib.join (xs.map (·.data.toList)) (⟨#[32]⟩ : ByteArray).data.toList).toArray⟩ := ⟨_, rfl⟩
  rw [← hJ] at hjn
  have hJd : J.data.toList = Lib.join (xs.map (·.data.toList)) [32] := by rw [hJ]
  have zJ : J.size < 100000 := by rw [← len_data, hJd]; exact hjl
  have hll : (l ++ J.data.toList).length < 1000000 := by rw [List.length_append, len_data]; omega
  have HJ := hide hjn
  have HJD := hide hJd
  have HB := hide h
  have hblt := h.lt
  clear hjn hJ hJd h hcells
  go_enter Tryd.func11, Tryd.ntmps11
  go_wp2_with fail
  refine (unhide HJ).mono ?_
  rintro e w1 ⟨rfl, hb1⟩
  have hB1 := (unhide HB).below hb1 (Nat.le_refl _)
  have HB1 := hide hB1
  clear hB1
  go_wp2_with fail
  refine (WriteString_any b l J w1 (unhide HB1) (by omega) (by omega)).mono ?_
  rintro e w2 ⟨rfl, hB2, hb2⟩
  have HB2 := hide hB2
  clear hB2
  go_wp2_with fail
  refine (WriteString_any b _ ⟨#[10]⟩ w2 (unhide HB2) hll (by decide)).mono ?_
  rintro e w3 ⟨rfl, hB3, hb3⟩
  have hf : l ++ J.data.toList ++ (⟨#[10]⟩ : ByteArray).data.toList = l ++ lineL (xs.map (·.data.toList)) := by rw [unhide HJD, List.append_assoc]; rfl
  rw [hf] at hB3
  clear hf
  have hbb : Below b w w3 := ((hb1.mono (by omega)).trans hb2).trans hb3
  go_wp2
  go_end0
  exact ⟨rfl, hB3, hbb⟩
end Go.Proofs.YtbcedjjocpjkjabDoor
