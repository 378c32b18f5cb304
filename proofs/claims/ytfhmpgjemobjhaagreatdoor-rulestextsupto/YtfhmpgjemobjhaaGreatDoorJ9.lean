/-
  board.writeHand and board.Write, walked: the text of a position.
  board.Write, walked at a position.
  package rules, walked: writeLine.
  package rules, walked: Write.
-/
import Derived.Test.YtfhmpgjemobjhaaGreatDoorJ1
import Derived.Test.YtfhmpgjemobjhaaGreatDoorW40
import Derived.Test.YtfhmpgjemobjhaaGreatDoorM7
import Derived.Test.YtfhmpgjemobjhaaGreatDoorR8
import Derived.Deep.Cut
namespace Go.Proofs.YtfhmpgjemobjhaaGreatDoor
open Go.RowKit

theorem Bld.lt {b : Nat} {l : List UInt8} {w : World} (h : Bld b l w) : b < w.heap.size := by
  rcases h with h | h
  · exact h.lt
  · exact h.lt

theorem Bld.fresh (w : World) : Bld w.heap.size [] (w.alloc (.cells #[.pointer none, .slice none 0 0] 44 (0, 0))) := by
  refine Or.inl ⟨Nat.le_refl _, .slice none 0 0, heap_alloc_new w _, ?_, by simp [Value.ownBlock]⟩
  exact ⟨rfl, Or.inl ⟨rfl, rfl⟩⟩

theorem Bld.drew {b : Nat} {l : List UInt8} {w : World} (h : Bld b l w) : Bld b l w.drew := h

set_option maxHeartbeats 400000 in
theorem writeHand_any (b : Nat) (l : List UInt8) (s : ByteArray) (w : World) (h : Bld b l w) (hlen : l.length < 1000000) (hs : s.size < 1000000) :
    Calls Tryz.prog 34 #[.pointer (some ⟨b, 0, none⟩), .string s] w fun e w' => e = .returned (.tuple #[]) ∧ Bld b (l ++ whand s.data.toList) w' ∧ Below b w w' := by
  by_cases h0 : s.size = 0
  · have hs : s = ⟨#[]⟩ := by
      apply ByteArray.ext
      exact Array.eq_empty_of_size_eq_zero h0
    subst hs
    go_enter Tryz.func34, Tryz.ntmps34
    go_wp2_with (go_at_call 33; refine (WriteByte_any b l 45 _ h hlen).mono ?_)
    rintro e w1 ⟨rfl, h1, hb1⟩
    go_wp2
    refine bodyPost_ret (v := .tuple #[]) (by simp [results, Tryz.results34]) rfl ⟨rfl, h1, hb1⟩
  · have hne : s.data.toList ≠ [] := fun e => h0 (by rw [← len_data, e]; rfl)
    have hw : whand s.data.toList = s.data.toList := by rw [whand, if_neg hne]
    have hne2 : s.toList.isEmpty = false := by rw [Lib.toList_data, List.isEmpty_eq_false_iff]; exact hne
    go_enter Tryz.func34, Tryz.ntmps34
    go_wp2_with (go_at_call 32; refine (WriteString_any b l s _ h hlen hs).mono ?_)
    rintro e w1 ⟨rfl, h1, hb1⟩
    go_wp2
    go_end0
    exact ⟨rfl, by rw [hw]; exact h1, hb1⟩

set_option maxHeartbeats 400000 in
theorem Write_no (W H T : Int) (C A B : ByteArray) (w : World) (hC : C.size ≤ maxLen) (hA : A.size ≤ maxLen) (hB : B.size ≤ maxLen) (h : posB W H C.data.toList T A.data.toList B.data.toList = false) :
    Calls Tryz.prog 11 #[.agg #[.int .i64 W, .int .i64 H, .string C, .int .i64 T, .string A, .string B]] w fun e w' =>
      e = .returned (.tuple #[.string ⟨#[]⟩, .int .i64 1]) ∧ Below w.heap.size w w' := by
  have HP := hide h
  clear h
  go_enter Tryz.func11, Tryz.ntmps11
  go_wp2_with fail
  refine (Check_no _ _ _ _ _ _ _ hC hA hB (unhide HP)).mono ?_
  rintro e w1 ⟨rfl, hb1⟩
  go_wp2
  go_ret2
  exact ⟨rfl, Below.trans ((Below.refl _ _).alloc (Nat.le_refl _) _) (hb1.mono (by simp))⟩
end Go.Proofs.YtfhmpgjemobjhaaGreatDoor

namespace Go.Proofs.YtfhmpgjemobjhaaGreatDoor
open Go.RowKit

theorem wrows_length (W : Nat) (C : List UInt8) : ∀ n, (wrows W C n).length ≤ n * (W + 1)
  | 0 => by simp [wrows]
  | n + 1 => by
    have := wrows_length W C n
    rw [wrows, List.length_append, Nat.succ_mul]
    have h1 : (List.take W (List.drop (n * W) C)).length ≤ W := by simp; omega
    split <;> simp <;> omega

set_option maxHeartbeats 1000000 in
set_option maxRecDepth 100000 in
theorem Write_ok {W H : Nat} {T : Int} {C A B : ByteArray} (w : World) (p : IsPos W H C T A B) :
    Calls Tryz.prog 11 #[.agg #[.int .i64 W, .int .i64 H, .string C, .int .i64 T, .string A, .string B]] w fun e w' =>
      e = .returned (.tuple #[.string ⟨(wtxt W H C.data.toList T A.data.toList B.data.toList).toArray⟩, .int .i64 0]) ∧ Below w.heap.size w w' := by
  have HP := hide p
  have h64 := p.c64
  have hA := p.as
  have hB := p.bs
  have hW0 := p.w0
  have hW1 := p.w1
  have hH0 := p.h0
  have hH1 := p.h1
  have HC : Hid (C.size = W * H) := p.c
  have hT := p.t
  clear p
  go_enter Tryz.func11, Tryz.ntmps11
  go_wp2_with fail
  refine (Check_ok _ _ _ _ _ _ _ (by unfold maxLen; omega) (by unfold maxLen; omega) (by unfold maxLen; omega) (unhide HP).posB).mono ?_
  rintro e w1 ⟨rfl, hb1⟩
  have hs1 : w.heap.size + 1 ≤ w1.heap.size := by have := hb1.size; simp at this; omega
  obtain ⟨hc1, hf1⟩ := bcell hb1
  have d0 : w1.cell? ⟨w.heap.size, 0, none⟩ = some (.int .i64 W) := (hc1 w.heap.size 0 (by simp)).trans (by simp)
  have d1 : w1.cell? ⟨w.heap.size, 1, none⟩ = some (.int .i64 H) := (hc1 w.heap.size 1 (by simp)).trans (by simp)
  have d2 : w1.cell? ⟨w.heap.size, 2, none⟩ = some (.string C) := (hc1 w.heap.size 2 (by simp)).trans (by simp)
  have d3 : w1.cell? ⟨w.heap.size, 3, none⟩ = some (.int .i64 T) := (hc1 w.heap.size 3 (by simp)).trans (by simp)
  have d4 : w1.cell? ⟨w.heap.size, 4, none⟩ = some (.string A) := (hc1 w.heap.size 4 (by simp)).trans (by simp)
  have d5 : w1.cell? ⟨w.heap.size, 5, none⟩ = some (.string B) := (hc1 w.heap.size 5 (by simp)).trans (by simp)
  have hbw : Below w.heap.size w w1 := Below.trans ((Below.refl _ _).alloc (Nat.le_refl _) _) (hb1.mono (by simp))
  clear hc1 hf1 hb1
  have a1 : ∀ o, (w1.alloc o).cell? ⟨w.heap.size, 1, none⟩ = some (.int .i64 H) := fun o => (((Below.refl w1.heap.size w1).alloc (Nat.le_refl _) o).cell (p := ⟨w.heap.size, 1, none⟩) (by dsimp only; omega)).trans d1
  go_wp2
  clear a1
  have hfr := Bld.fresh w1
  go_loopw [6] (fun i wr => ∃ (k : Nat) (pre : List UInt8), k ≤ H ∧ i = .int .i64 ((k : Int) - 1) ∧ pre ++ wrows W C.data.toList k = wrows W C.data.toList H ∧ Bld w1.heap.size pre wr ∧ Below w1.heap.size w1 wr) (fun i _ => (intOf i + 1).toNat)
  case atStart => exact ⟨H, [], Nat.le_refl _, by go_num, rfl, hfr, (Below.refl _ _).alloc (Nat.le_refl _) _⟩
  case round =>
    obtain ⟨k, pre, hk, rfl, hpre, hbl, hbr⟩ := hrel
    clear hfr
    have hsz : w1.heap.size ≤ wr.heap.size := hbr.size
    have e0 := (hbr.cell (p := ⟨w.heap.size, 0, none⟩) (by dsimp only; omega)).trans d0
    have e2 := (hbr.cell (p := ⟨w.heap.size, 2, none⟩) (by dsimp only; omega)).trans d2
    have e3 := (hbr.cell (p := ⟨w.heap.size, 3, none⟩) (by dsimp only; omega)).trans d3
    have e4 := (hbr.cell (p := ⟨w.heap.size, 4, none⟩) (by dsimp only; omega)).trans d4
    have e5 := (hbr.cell (p := ⟨w.heap.size, 5, none⟩) (by dsimp only; omega)).trans d5
    have hpl : pre.length ≤ 72 := by
      have h1 := congrArg List.length hpre
      have h2 := wrows_length W C.data.toList H
      have h3 : H * (W + 1) ≤ 8 * 9 := Nat.mul_le_mul hH1 (by omega)
      rw [List.length_append] at h1
      omega
    cases k with
    | zero =>
      have hpe : pre = wrows W C.data.toList H := by rw [← hpre]; simp [wrows]
      have HPE := hide hpe
      have hA9 : A.data.toList.length ≤ 8 := by rw [len_data]; exact hA
      have hwA : (whand A.data.toList).length ≤ 8 := by unfold whand; split <;> simp <;> omega
      clear hpe hpre
      rcases hT with rfl | rfl
      · go_wp2_with fail
        refine (WriteString_any _ pre ⟨#[32, 119, 32]⟩ _ hbl (by omega) (by decide)).mono ?_
        rintro e w2 ⟨rfl, hbl2, hb2⟩
        have hs2 := hb2.size
        have q4 := (hb2.cell (p := ⟨w.heap.size, 4, none⟩) (by dsimp only; omega)).trans e4
        have q5 := (hb2.cell (p := ⟨w.heap.size, 5, none⟩) (by dsimp only; omega)).trans e5
        go_wp2_with fail
        refine (writeHand_any _ _ A _ hbl2 (by rw [List.length_append]; simp; omega) (by omega)).mono ?_
        rintro e w3 ⟨rfl, hbl3, hb3⟩
        have hs3 := hb3.size
        have t5 := (hb3.cell (p := ⟨w.heap.size, 5, none⟩) (by dsimp only; omega)).trans q5
        go_wp2_with fail
        refine (WriteByte_any _ _ 47 _ hbl3 (by rw [List.length_append, List.length_append]; simp; omega)).mono ?_
        rintro e w4 ⟨rfl, hbl4, hb4⟩
        have hs4 := hb4.size
        have v5 := (hb4.cell (p := ⟨w.heap.size, 5, none⟩) (by dsimp only; omega)).trans t5
        go_wp2_with fail
        refine (writeHand_any _ _ B _ hbl4 (by rw [List.length_append, List.length_append, List.length_append]; simp; omega) (by omega)).mono ?_
        rintro e w5 ⟨rfl, hbl5, hb5⟩
        go_wp2_with fail
        refine (String_any _ _ _ hbl5).mono ?_
        rintro e w6 ⟨rfl, hb6⟩
        go_wp2
        go_ret2
        refine ⟨?_, hbw.trans (((((hbr.trans hb2).trans hb3).trans hb4).trans hb5).trans hb6 |>.mono (by omega))⟩
        rw [unhide HPE]
        simp [wtxt]
      · go_wp2_with fail
        refine (WriteString_any _ pre ⟨#[32, 98, 32]⟩ _ hbl (by omega) (by decide)).mono ?_
        rintro e w2 ⟨rfl, hbl2, hb2⟩
        have hs2 := hb2.size
        have q4 := (hb2.cell (p := ⟨w.heap.size, 4, none⟩) (by dsimp only; omega)).trans e4
        have q5 := (hb2.cell (p := ⟨w.heap.size, 5, none⟩) (by dsimp only; omega)).trans e5
        go_wp2_with fail
        refine (writeHand_any _ _ A _ hbl2 (by rw [List.length_append]; simp; omega) (by omega)).mono ?_
        rintro e w3 ⟨rfl, hbl3, hb3⟩
        have hs3 := hb3.size
        have t5 := (hb3.cell (p := ⟨w.heap.size, 5, none⟩) (by dsimp only; omega)).trans q5
        go_wp2_with fail
        refine (WriteByte_any _ _ 47 _ hbl3 (by rw [List.length_append, List.length_append]; simp; omega)).mono ?_
        rintro e w4 ⟨rfl, hbl4, hb4⟩
        have hs4 := hb4.size
        have v5 := (hb4.cell (p := ⟨w.heap.size, 5, none⟩) (by dsimp only; omega)).trans t5
        go_wp2_with fail
        refine (writeHand_any _ _ B _ hbl4 (by rw [List.length_append, List.length_append, List.length_append]; simp; omega) (by omega)).mono ?_
        rintro e w5 ⟨rfl, hbl5, hb5⟩
        go_wp2_with fail
        refine (String_any _ _ _ hbl5).mono ?_
        rintro e w6 ⟨rfl, hb6⟩
        go_wp2
        go_ret2
        refine ⟨?_, hbw.trans (((((hbr.trans hb2).trans hb3).trans hb4).trans hb5).trans hb6 |>.mono (by omega))⟩
        rw [unhide HPE]
        simp [wtxt]
    | succ j =>
      obtain ⟨m, hm⟩ : ∃ m, m = j * W := ⟨_, rfl⟩
      have hmW : m + W = (j + 1) * W := by rw [hm, Nat.succ_mul]
      have hle : m + W ≤ C.size := by rw [hmW, unhide HC, Nat.mul_comm W H]; exact Nat.mul_le_mul_right _ hk
      have hmi : (j : Int) * (W : Int) = (m : Int) := by rw [hm]; simp
      have hni : ((j : Int) + 1) * (W : Int) = ((m + W : Nat) : Int) := by rw [hmW]; simp
      have hji : ((j + 1 : Nat) : Int) - 1 = (j : Int) := by omega
      rw [hji]
      clear hji
      have HM := hide hm
      have HMW := hide hmW
      clear hm hmW
      have hx : (C.extract m (m + W)).data.toList = (C.data.toList.drop m).take W := by
        rw [ByteArray.data_extract, Array.toList_extract, List.extract_eq_take_drop]
        congr 1
        omega
      have hxs : (C.extract m (m + W)).size ≤ 8 := by rw [ByteArray.size_extract]; omega
      have HX := hide hx
      clear hx
      have hrow : pre ++ ((C.data.toList.drop m).take W ++ (if j = 0 then [] else 47 :: wrows W C.data.toList j)) = wrows W C.data.toList H := by
        rw [← hpre, wrows, ← unhide HM]
      have HROW := hide hrow
      clear hrow
      go_wp2_with fail
      generalize C.extract m (m + W) = X at HX hxs ⊢
      refine (WriteString_any _ pre X _ hbl (by omega) (by omega)).mono ?_
      rintro e w2 ⟨rfl, hbl2, hb2⟩
      rw [unhide HX] at hbl2
      have hbr2 := hbr.trans hb2
      by_cases hj : j = 0
      · subst hj
        go_wp2
        go_roundw
        case rel => exact ⟨0, pre ++ (C.data.toList.drop m).take W, by omega, by go_num, by rw [← unhide HROW]; simp [wrows], hbl2, hbr2⟩
        case measure => simp [intOf]
      · have hj0 : (0 : Int) < (j : Int) := by omega
        go_wp2_with fail
        refine (WriteByte_any _ _ 47 _ hbl2 (by rw [List.length_append, List.length_take]; omega)).mono ?_
        rintro e w3 ⟨rfl, hbl3, hb3⟩
        have hbr3 := hbr2.trans hb3
        go_wp2
        go_roundw
        case rel => exact ⟨j, _, by omega, by go_num, by rw [← unhide HROW, if_neg hj, List.append_assoc, List.append_assoc]; rfl, hbl3, hbr3⟩
        case measure => simp [intOf]
end Go.Proofs.YtfhmpgjemobjhaaGreatDoor

namespace Go.Proofs.YtfhmpgjemobjhaaGreatDoor
open Go.RowKit
attribute [local go_sem ↓] Go.wp_at_zero Go.wp_at_succ

theorem builderAt_below {b : Nat} {p : Value} {bs : List Value} {w w' : World} {B : Nat} (h : Lib.BuilderAt 44 5 b b p bs w) (hb : Below B w w') (hB : w.heap.size ≤ B) : Lib.BuilderAt 44 5 b b p bs w' := by
  have hlt := h.lt
  obtain ⟨h0, v, h1, h2, h3⟩ := h
  refine ⟨h0, v, (hb.block b (by omega)).trans h1, ?_, h3⟩
  obtain ⟨h4, h5⟩ := h2
  refine ⟨h4, ?_⟩
  rcases h5 with h5 | ⟨g, cap, cur, e, hbg, hg, r⟩
  · exact .inl h5
  · refine .inr ⟨g, cap, cur, e, hbg, ?_, r⟩
    have hg2 : g < w.heap.size := by
      rcases Nat.lt_or_ge g w.heap.size with hl | hl
      · exact hl
      · rw [Array.getElem?_eq_none hl] at hg; cases hg
    exact (hb.block g (by omega)).trans hg
theorem Bld.below {b : Nat} {l : List UInt8} {w w' : World} {B : Nat} (h : Bld b l w) (hb : Below B w w') (hB : w.heap.size ≤ B) : Bld b l w' := by
  rcases h with h | h
  · exact .inl (builderAt_below h hb hB)
  · exact .inr (builderAt_below h hb hB)

/-- A line of words. -/
def lineL (xs : List (List UInt8)) : List UInt8 := Lib.join xs [32] ++ [10]

set_option maxHeartbeats 400000 in
theorem writeLine_any (b bk : Nat) (l : List UInt8) (xs : List ByteArray) (w : World) (h : Bld b l w) (hlen : l.length < 500000) (hcells : ∀ (j : Nat) x, xs[j]? = some x → w.cell? ⟨bk, j, none⟩ = some (.string x)) (hbk : bk < w.heap.size) (hxs : xs.length ≤ 10) (hjl : (Lib.join (xs.map (·.data.toList)) [32]).length < 100000) :
    Calls Tryz.prog 12 #[.pointer (some ⟨b, 0, none⟩), .slice (some ⟨bk, 0, none⟩) xs.length xs.length] w fun e w' => e = .returned (.tuple #[]) ∧ Bld b (l ++ lineL (xs.map (·.data.toList))) w' ∧ Below b w w' := by
  have hjn := Tryz.strings_Join bk 0 xs.length xs ⟨#[32]⟩ w (fun j x hx => by rw [Nat.zero_add]; exact hcells j x hx) hbk (by omega) (Nat.le_refl _) (by show (Lib.join (xs.map (·.data.toList)) [32]).length ≤ _; omega)
  obtain ⟨J, hJ⟩ : ∃ J : ByteArray, J = ⟨(Lib.join (xs.map (·.data.toList)) (⟨#[32]⟩ : ByteArray).data.toList).toArray⟩ := ⟨_, rfl⟩
  rw [← hJ] at hjn
  have hJd : J.data.toList = Lib.join (xs.map (·.data.toList)) [32] := by rw [hJ]
  have zJ : J.size < 100000 := by rw [← len_data, hJd]; exact hjl
  have hll : (l ++ J.data.toList).length < 1000000 := by rw [List.length_append, len_data]; omega
  have HJ := hide hjn
  have HJD := hide hJd
  have HB := hide h
  have hblt := h.lt
  clear hjn hJ hJd h hcells
  go_enter Tryz.func12, Tryz.ntmps12
  go_wp2_with fail
  refine (unhide HJ).mono ?_
  rintro e w1 ⟨rfl, hb1⟩
  have hB1 := (unhide HB).below hb1 (Nat.le_refl _)
  have HB1 := hide hB1
  clear hB1
  go_wp2_with fail
  refine (WriteString_any b l J w1 (unhide HB1) (by omega) (by omega)).mono ?_
  rintro e w2 ⟨rfl, hB2, hb2⟩
  have HB2 := hide hB2
  clear hB2
  go_wp2_with fail
  refine (WriteString_any b _ ⟨#[10]⟩ w2 (unhide HB2) hll (by decide)).mono ?_
  rintro e w3 ⟨rfl, hB3, hb3⟩
  have hf : l ++ J.data.toList ++ (⟨#[10]⟩ : ByteArray).data.toList = l ++ lineL (xs.map (·.data.toList)) := by rw [unhide HJD, List.append_assoc]; rfl
  rw [hf] at hB3
  clear hf
  have hbb : Below b w w3 := ((hb1.mono (by omega)).trans hb2).trans hb3
  go_wp2
  go_end0
  exact ⟨rfl, hB3, hbb⟩
end Go.Proofs.YtfhmpgjemobjhaaGreatDoor

namespace Go.Proofs.YtfhmpgjemobjhaaGreatDoor
open Go.RowKit
attribute [local go_sem ↓] Go.wp_at_zero Go.wp_at_succ

theorem writeLine2 (b : Nat) (l : List UInt8) (x y : ByteArray) (w : World) (h : Bld b l w) (hlen : l.length < 500000) (hx : x.size ≤ 100) (hy : y.size ≤ 1000) :
    Calls Tryz.prog 12 #[.pointer (some ⟨b, 0, none⟩), .slice (some ⟨w.heap.size, 0, none⟩) 2 2] (w.alloc (.cells #[.string x, .string y] 9 (0, 0))) fun e w' => e = .returned (.tuple #[]) ∧ Bld b (l ++ lineL [x.data.toList, y.data.toList]) w' ∧ Below b w w' := by
  have hba : Below w.heap.size w (w.alloc (.cells #[.string x, .string y] 9 (0, 0))) := (Below.refl _ w).alloc (Nat.le_refl _) _
  have hjl : (Lib.join ([x, y].map (·.data.toList)) [32]).length < 100000 := by
    rw [List.map_cons, List.map_cons, List.map_nil, join_two, Lib.join_one, List.length_append, List.length_append, len_data, len_data]
    simp; omega
  refine (writeLine_any b w.heap.size l [x, y] _ (h.below hba (Nat.le_refl _)) hlen ?_ (by simp) (by simp) hjl).mono ?_
  · intro j u hu
    rw [cell_of_row _ _ _ _ _ _ (heap_alloc_new w _)]
    match j, hu with
    | 0, hu => simp at hu; subst hu; rfl
    | 1, hu => simp at hu; subst hu; rfl
  · rintro e w' ⟨rfl, h1, h2⟩
    exact ⟨rfl, h1, (hba.mono (Nat.le_of_lt h.lt)).trans h2⟩
theorem writeLine1 (b : Nat) (l : List UInt8) (x : ByteArray) (w : World) (h : Bld b l w) (hlen : l.length < 500000) (hx : x.size ≤ 100) :
    Calls Tryz.prog 12 #[.pointer (some ⟨b, 0, none⟩), .slice (some ⟨w.heap.size, 0, none⟩) 1 1] (w.alloc (.cells #[.string x] 9 (0, 0))) fun e w' => e = .returned (.tuple #[]) ∧ Bld b (l ++ lineL [x.data.toList]) w' ∧ Below b w w' := by
  have hba : Below w.heap.size w (w.alloc (.cells #[.string x] 9 (0, 0))) := (Below.refl _ w).alloc (Nat.le_refl _) _
  have hjl : (Lib.join ([x].map (·.data.toList)) [32]).length < 100000 := by
    rw [List.map_cons, List.map_nil, Lib.join_one, len_data]
    omega
  refine (writeLine_any b w.heap.size l [x] _ (h.below hba (Nat.le_refl _)) hlen ?_ (by simp) (by simp) hjl).mono ?_
  · intro j u hu
    rw [cell_of_row _ _ _ _ _ _ (heap_alloc_new w _)]
    match j, hu with
    | 0, hu => simp at hu; subst hu; rfl
  · rintro e w' ⟨rfl, h1, h2⟩
    exact ⟨rfl, h1, (hba.mono (Nat.le_of_lt h.lt)).trans h2⟩

def wStart : List UInt8 := [115, 116, 97, 114, 116]
def wPiece : List UInt8 := [112, 105, 101, 99, 101]
def wDrops : List UInt8 := [100, 114, 111, 112, 115]
def wLose : List UInt8 := [108, 111, 115, 101]
def wLine : List UInt8 := [108, 105, 110, 101]
def wReach : List UInt8 := [114, 101, 97, 99, 104]
def wStuck : List UInt8 := [115, 116, 117, 99, 107]
def wPlies : List UInt8 := [112, 108, 105, 101, 115]
def pcL (p : Pc) : List UInt8 := lineL [wPiece, pieceL (UInt8.ofNat p.l) p.v p.ws]
def dropsL (dr : Bool) : List UInt8 := if dr then lineL [wDrops] else []
def stuckL (st : Bool) : List UInt8 := if st then lineL [wStuck] else []
def letL (wd : List UInt8) (c : UInt8) : List UInt8 := if c = 0 then [] else lineL [wd, [c]]
def numL (n : Int) : List UInt8 := if n = 0 then [] else lineL [wLine, Lib.decDigits n.toNat]
/-- The text of rules. -/
def rulesL (W H : Nat) (C : List UInt8) (T : Int) (A B : List UInt8) (ps : List Pc) (dr : Bool) (lo : UInt8) (li : Int) (re : UInt8) (st : Bool) (pl : Int) : List UInt8 :=
  lineL [wStart, wtxt W H C T A B] ++ ps.flatMap pcL ++ dropsL dr ++ letL wLose lo ++ numL li ++ letL wReach re ++ stuckL st ++ lineL [wPlies, Lib.decDigits pl.toNat]

theorem wtxt_len {W H : Nat} {T : Int} {C A B : ByteArray} (p : IsPos W H C T A B) : (wtxt W H C.data.toList T A.data.toList B.data.toList).length ≤ 200 := by
  have h1 := wrows_length W C.data.toList H
  have h2 : H * (W + 1) ≤ 8 * 9 := Nat.mul_le_mul p.h1 (by have := p.w1; omega)
  have ha := p.as
  have hb := p.bs
  have k : ∀ X : List UInt8, (whand X).length ≤ X.length + 1 := by
    intro X; unfold whand; split
    · simp
    · omega
  have ka := k A.data.toList
  have kb := k B.data.toList
  rw [len_data] at ka kb
  unfold wtxt
  simp only [List.length_append, List.length_cons]
  omega
theorem pieceL_len (c : UInt8) (v : Int) (ws : List Wy) (h : pcB (c.toNat : Nat) v ws = true) : (pieceL c v ws).length ≤ 150 := by
  simp only [pcB, inB, Bool.and_eq_true, decide_eq_true_eq] at h
  obtain ⟨⟨⟨_, hv0, hv1⟩, h8⟩, hall⟩ := h
  have k1 := dec_len v.toNat (by omega)
  have k2 := join_len [44, 32] 15 (ws.map wayL) (fun x hx => by
    obtain ⟨z, hz, rfl⟩ := List.mem_map.1 hx
    exact wayL_len z (List.all_eq_true.1 hall z hz))
  rw [List.length_map] at k2
  have e2 : ([44, 32] : List UInt8).length = 2 := rfl
  rw [e2] at k2
  simp only [pieceL, List.length_cons, List.length_append]
  split
  · simp; omega
  · simp only [List.length_cons]; omega
theorem okP_mem : ∀ (ps : List Pc) (S : Nat), okP S ps = true → ∀ p ∈ ps, pcB (p.l : Int) p.v p.ws = true
  | [], _, _, p, hp => by cases hp
  | q :: t, S, h, p, hp => by
    rw [okP, Bool.and_eq_true, Bool.and_eq_true] at h
    rcases List.mem_cons.1 hp with rfl | hp
    · exact h.1.1
    · exact okP_mem t _ h.2 p hp

set_option maxHeartbeats 400000 in
theorem rWrite_no (W H T : Int) (C A B : ByteArray) (ao : Option Addr) (cap : Nat) (ps : List Pc) (dr st : Bool) (lo re : UInt8) (li pl : Int) (w : World) (hC : C.size ≤ maxLen) (hA : A.size ≤ maxLen) (hB : B.size ≤ maxLen) (h : isPcs w ao cap ps) (hf : rulesB W H C.data.toList T A.data.toList B.data.toList ps lo.toNat li re.toNat pl = false) :
    Calls Tryz.prog 4 #[.agg #[.int .i64 W, .int .i64 H, .string C, .int .i64 T, .string A, .string B, .slice ao ps.length cap, .bool dr, .int .u8 (lo.toNat : Int), .int .i64 li, .int .u8 (re.toNat : Int), .bool st, .int .i64 pl]] w fun e w' => e = .returned (.tuple #[.string ⟨#[]⟩, .int .i64 1]) ∧ Below w.heap.size w w' := by
  have hba : Below w.heap.size w (w.alloc (.cells #[.int .i64 W, .int .i64 H, .string C, .int .i64 T, .string A, .string B, .slice ao ps.length cap, .bool dr, .int .u8 (lo.toNat : Int), .int .i64 li, .int .u8 (re.toNat : Int), .bool st, .int .i64 pl] 27 (0, 0))) := (Below.refl _ w).alloc (Nat.le_refl _) _
  have hck := rCheck_any W H T C A B ao cap ps dr st lo.toNat re.toNat li pl _ hC hA hB lo.toNat_lt re.toNat_lt (h.below hba (Nat.le_refl _))
  rw [hf] at hck
  have HCK := hide hck
  clear hck h hf
  go_enter Tryz.func4, Tryz.ntmps4
  go_wp2_with fail
  refine (unhide HCK).mono ?_
  rintro e w1 ⟨rfl, hb1⟩
  rw [show errI false = 1 from rfl]
  have hw1 : Below w.heap.size w w1 := bel_on (Below.refl _ _) (Nat.le_refl _) hb1
  clear hb1
  go_wp2
  go_ret2
  exact ⟨rfl, hw1⟩
end Go.Proofs.YtfhmpgjemobjhaaGreatDoor
