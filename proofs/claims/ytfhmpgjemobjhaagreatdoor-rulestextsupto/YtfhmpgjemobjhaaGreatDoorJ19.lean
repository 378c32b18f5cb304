/-
  Plain mathematics: lines as the document's answer reads them: words between blanks, ways between commas.
  package rules, walked: appendUpTo at ways.
  package rules, walked: appendUpTo at pieces.
  strings.Cut, in letters.
-/
import Derived.Test.YtfhmpgjemobjhaaGreatDoorJ16
import Derived.Lib.CountLaws
import Derived.Lib.Split
namespace Go.Proofs.YtfhmpgjemobjhaaGreatDoor

theorem split_cut (s sep : List UInt8) (hsep : sep ≠ []) : Lib.split s sep = (Lib.cut s sep).1 :: (if (Lib.cut s sep).2.2 then Lib.split (Lib.cut s sep).2.1 sep else []) := by
  have hge := Lib.index_ge s sep
  by_cases h : Lib.index s sep = -1
  · unfold Lib.split Lib.cut
    rw [Lib.count_miss h, if_neg (by omega)]
    simp [Lib.splitK]
  · obtain ⟨i, hi⟩ := Int.eq_ofNat_of_zero_le (show 0 ≤ Lib.index s sep by omega)
    have hc := Lib.count_hit hsep hi
    unfold Lib.split Lib.cut
    rw [if_pos (by omega), hc]
    simp only [if_true]
    rw [Nat.add_comm, Lib.splitK, if_neg (by simp [h]), hi]
    simp
theorem ways_split : ∀ (n : Nat) (s : List UInt8), s.length < n → waysF n s = (Lib.split s [44, 32]).mapM wayOf
  | 0, s, h => absurd h (Nat.not_lt_zero _)
  | n + 1, s, h => by
    rw [waysF, split_cut s [44, 32] (by simp), List.mapM_cons]
    cases hw : wayOf (Lib.cut s [44, 32]).1 with
    | none => rfl
    | some z =>
      cases hf : (Lib.cut s [44, 32]).2.2 with
      | false => simp
      | true =>
        have hsh := cut_shorter s [44, 32] (by simp) hf
        simp only [if_true]
        rw [ways_split n _ (by omega)]
        cases (Lib.split (Lib.cut s [44, 32]).2.1 [44, 32]).mapM wayOf <;> rfl
/-- A text up to its first blank. -/
theorem cut32 (s : List UInt8) : (∃ a b, s = a ++ 32 :: b ∧ (32 : UInt8) ∉ a ∧ Lib.cut s [32] = (a, b, true) ∧ spl 32 s = a :: spl 32 b) ∨ ((32 : UInt8) ∉ s ∧ Lib.cut s [32] = (s, [], false) ∧ spl 32 s = [s]) := by
  by_cases h : (32 : UInt8) ∈ s
  · obtain ⟨a, b, e, ha⟩ := first_c 32 s h
    refine Or.inl ⟨a, b, e, ha, ?_, ?_⟩
    · rw [e]; exact cut_hit 32 [] a b ha
    · rw [e, spl_app, spl_nomem 32 a ha]; rfl
  · exact Or.inr ⟨h, cut_no 32 [] s h, spl_nomem 32 s h⟩
/-- One line, whatever the one ahead of it was. -/
def lineB (x : Rl) (s : List UInt8) : Option Rl :=
  if lineOf (Lib.cut s [32]).1 = 1 then
    match posF (Lib.cut s [32]).2.1 with
    | (some (W, H, C, T, A, B), n) => if n = (Lib.cut s [32]).2.1.length then some { x with W := W, H := H, C := C, T := T, A := A, B := B } else .none
    | _ => .none
  else if lineOf (Lib.cut s [32]).1 = 2 then (pieceF (Lib.cut s [32]).2.1).map fun p => { x with ps := x.ps ++ [p] }
  else if lineOf (Lib.cut s [32]).1 = 3 then if (Lib.cut s [32]).2.2 then .none else some { x with dr := true }
  else if lineOf (Lib.cut s [32]).1 = 4 then (letterOf (Lib.cut s [32]).2.1).map fun c => { x with lo := c }
  else if lineOf (Lib.cut s [32]).1 = 5 then (numOf (Lib.cut s [32]).2.1).bind fun n => if 0 < n then some { x with li := n } else .none
  else if lineOf (Lib.cut s [32]).1 = 6 then (letterOf (Lib.cut s [32]).2.1).map fun c => { x with re := c }
  else if lineOf (Lib.cut s [32]).1 = 7 then if (Lib.cut s [32]).2.2 then .none else some { x with st := true }
  else if lineOf (Lib.cut s [32]).1 = 8 then (numOf (Lib.cut s [32]).2.1).map fun n => { x with pl := n }
  else .none
theorem lineF_lineB (last : Nat) (x : Rl) (s : List UInt8) : lineF last x s = if mayB last (lineOf (Lib.cut s [32]).1) = false then none else lineB x s := rfl
/-- Ranks (one less than kinds, -1: none) follow each other as kinds do. -/
theorem may_rank (last k : Nat) (hk : 1 ≤ k) : mayB last k = true ↔ (((k : Int) - 1 = ((last : Int) - 1) + 1 ∧ (k : Int) - 1 ≤ 1) ∨ ((k : Int) - 1 = 1 ∧ (last : Int) - 1 = 1) ∨ ((k : Int) - 1 > (last : Int) - 1 ∧ (k : Int) - 1 > 1 ∧ (last : Int) - 1 ≥ 1)) := by
  constructor
  · intro h
    rcases may_of _ _ h with h | h | h | h <;> omega
  · intro h
    unfold mayB
    split
    · rw [decide_eq_true_eq]; omega
    split
    · rw [decide_eq_true_eq]; omega
    split
    · rw [decide_eq_true_eq]; omega
    · rw [decide_eq_true_eq]; omega
theorem numOf_blank (l : List UInt8) (h : (32 : UInt8) ∈ l) : numOf l = none := by
  cases hn : numOf l with
  | none => rfl
  | some n => rw [numOf_back l n hn] at h; exact absurd h (dec_noblank n)
theorem numOf_nil : numOf [] = none := by simp [numOf]
theorem letterOf_some (l : List UInt8) (c : UInt8) (h : letterOf l = some c) : l = [c] ∧ capB (c.toNat : Nat) = true := by
  unfold letterOf at h
  split at h
  · split at h
    · rename_i hc; cases h; exact ⟨rfl, hc⟩
    · cases h
  · cases h
theorem cap_58 (c : UInt8) (h : capB (c.toNat : Nat) = true) : c ≠ 58 ∧ c ≠ 32 := by
  constructor
  · rintro rfl; exact absurd h (by decide)
  · rintro rfl; exact absurd h (by decide)
/-- What is ahead of ': ' begins as the whole does, if that begins with a capital letter and a blank. -/
theorem cut_head (c : UInt8) (r2 : List UInt8) (hc : capB (c.toNat : Nat) = true) :
    ∃ h2, (Lib.cut (c :: 32 :: r2) [58, 32]).1 = c :: 32 :: h2 ∧ ((Lib.cut (c :: 32 :: r2) [58, 32]).2.2 = false → h2 = r2) := by
  by_cases hf : (Lib.cut (c :: 32 :: r2) [58, 32]).2.2 = true
  · have e := cut_back _ _ hf
    generalize hP : Lib.cut (c :: 32 :: r2) [58, 32] = P at *
    obtain ⟨h, w, f⟩ := P
    simp only at e hf
    subst hf
    have hc58 := cap_58 c hc
    match h, e with
    | [], e => simp at e; exact absurd e.1 hc58.1
    | [a], e => simp at e
    | a :: b :: h2, e =>
      simp only [List.cons_append, List.cons.injEq] at e
      obtain ⟨rfl, rfl, -⟩ := e
      exact ⟨h2, rfl, fun h => by cases h⟩
  · obtain ⟨h1, -⟩ := cut_whole _ _ (Bool.eq_false_iff.2 hf)
    exact ⟨r2, h1, fun _ => rfl⟩
theorem pieceF_yes (c : UInt8) (r2 h2 : List UInt8) (hc : capB (c.toNat : Nat) = true) (hh : (Lib.cut (c :: 32 :: r2) [58, 32]).1 = c :: 32 :: h2) :
    pieceF (c :: 32 :: r2) = match numOf h2 with
      | none => none
      | some v => if (Lib.cut (c :: 32 :: r2) [58, 32]).2.2 then ((Lib.split (Lib.cut (c :: 32 :: r2) [58, 32]).2.1 [44, 32]).mapM wayOf).map fun ws => ⟨c.toNat, (v : Nat), ws⟩ else some ⟨c.toNat, (v : Nat), []⟩ := by
  have e1 : Lib.cut (c :: 32 :: h2) [32] = ([c], h2, true) := cut_hit 32 [] [c] h2 (by simpa using (cap_58 c hc).2.symm)
  have hl : letterOf [c] = some c := by simp only [letterOf]; rw [if_pos hc]
  unfold pieceF
  rw [hh, e1]
  simp only [hl]
  cases numOf h2 with
  | none => rfl
  | some v =>
    simp only
    cases hf : (Lib.cut (c :: 32 :: r2) [58, 32]).2.2 with
    | false => rfl
    | true =>
      simp only [if_true]
      rw [ways_split _ _ (by have := cut_shorter (c :: 32 :: r2) [58, 32] (by simp) hf; omega)]
theorem pieceF_no (r : List UInt8) (h : ∀ c r2, r = c :: 32 :: r2 → capB (c.toNat : Nat) = false) : pieceF r = none := by
  cases hp : pieceF r with
  | none => rfl
  | some p =>
    exfalso
    unfold pieceF at hp
    split at hp
    · rename_i l v hl hv
      obtain ⟨e1, hc⟩ := letterOf_some _ _ hl
      have hm : (Lib.cut (Lib.cut r [58, 32]).1 [32]).2.2 = true := by
        cases hb : (Lib.cut (Lib.cut r [58, 32]).1 [32]).2.2 with
        | true => rfl
        | false =>
          rw [(cut_whole _ _ hb).2, numOf_nil] at hv
          cases hv
      have e2 := cut_back _ _ hm
      rw [e1] at e2
      have e3 : ∃ t, r = (Lib.cut r [58, 32]).1 ++ t := by
        cases hb : (Lib.cut r [58, 32]).2.2 with
        | true => exact ⟨_, cut_back _ _ hb⟩
        | false => exact ⟨[], by rw [(cut_whole _ _ hb).1, List.append_nil]⟩
      obtain ⟨t, e3⟩ := e3
      rw [e2] at e3
      have := h l ((Lib.cut (Lib.cut r [58, 32]).1 [32]).2.1 ++ t) (e3.trans (by simp))
      rw [hc] at this
      cases this
    · cases hp
end Go.Proofs.YtfhmpgjemobjhaaGreatDoor

namespace Go.Proofs.YtfhmpgjemobjhaaGreatDoor
open Go.RowKit
attribute [local go_sem ↓] Go.wp_at_zero Go.wp_at_succ

theorem infoWay : (Tryz.prog.info? 62).map (fun i => (i.zero, i.size, i.bytes)) = some (some (.agg #[.int .i64 0, .int .i64 0, .int .i64 0, .int .i64 0]), 4, 32) := by kernel_rfl
/-- Ways' cells in a row. -/
def wvals (l : List Wy) : List Value := l.flatMap fun z => [.int .i64 z.k, .int .i64 z.x, .int .i64 z.y, .int .i64 z.t]

set_option maxHeartbeats 1000000 in
set_option maxRecDepth 100000 in
theorem upWay_any (base : Nat) (v : Value) (ws : List Wy) (z : Wy) (w : World) (hown : w.ownsRow base 62 4 v ws.length (wvals ws)) (hlen : ws.length ≤ 9) (hbase : base ≤ w.heap.size) :
    Calls Tryz.prog 69 #[v, z.v, .int .i64 9] w fun e w' => ∃ v', e = .returned v' ∧ w'.ownsRow base 62 4 v' ((ws ++ [z]).take 9).length (wvals ((ws ++ [z]).take 9)) ∧ Below base w w' := by
  obtain ⟨i0, hi, hz0, hz1, hz2⟩ := info_parts infoWay
  obtain ⟨ao, cap, rfl⟩ : ∃ ao cap, v = .slice ao ws.length cap := by
    rcases hown.2 with ⟨h1, h2⟩ | ⟨g, cap, cur, h, -⟩
    · exact ⟨none, 0, by rw [h1, h2]⟩
    · exact ⟨_, _, h⟩
  by_cases h9 : ws.length = 9
  · have h9i : (ws.length : Int) = 9 := by omega
    have e : (ws ++ [z]).take 9 = ws := by rw [← h9]; simp
    rw [e]
    have HO := hide hown
    clear e hown
    go_enter Tryz.func69, Tryz.ntmps69
    unfold Wy.v
    go_wp2
    go_ret
    exact ⟨_, rfl, (unhide HO).alloc _, (Below.refl _ _).alloc hbase _⟩
  · have h9i : ¬ (ws.length : Int) = 9 := by omega
    have e : (ws ++ [z]).take 9 = ws ++ [z] := List.take_of_length_le (by simp; omega)
    rw [e]
    clear e
    go_enter Tryz.func69, Tryz.ntmps69
    unfold Wy.v
    go_wp2_with (at_builtin; refine wpList_append_own _ rfl _ _ 46 rfl base 62 i0 _ 4 32 Tryz.underlying46 hi hz0 hz1 hz2 rfl (by decide) _ _ _ rfl ((hown.alloc _).alloc _) ⟨w.heap.size + 1, 0, none⟩ 1 1 [.int .i64 z.k, .int .i64 z.x, .int .i64 z.y, .int .i64 z.t] rfl rfl ?c1 ?c2 ?c3 ?c4 ?c5 ?_)
    case c1 =>
      intro j u hj
      match j, hj with
      | 0, hj => simp at hj; subst hj; simp [Addr.add]
      | 1, hj => simp at hj; subst hj; simp [Addr.add]
      | 2, hj => simp at hj; subst hj; simp [Addr.add]
      | 3, hj => simp at hj; subst hj; simp [Addr.add]
    case c2 =>
      intro u hu
      simp only [List.mem_cons, List.not_mem_nil, or_false] at hu
      rcases hu with rfl | rfl | rfl | rfl <;> rfl
    case c3 => unfold maxLen; omega
    case c4 => omega
    case c5 => simp; omega
    intro v' w2 hown' hgrow _
    have hb2 : Below base w w2 := (((Below.refl _ w).alloc hbase _).alloc (by simp; omega) _).grown hgrow (by simp; omega) (own_ge hown)
    have e1 : wvals (ws ++ [z]) = wvals ws ++ [.int .i64 z.k, .int .i64 z.x, .int .i64 z.y, .int .i64 z.t] := by simp [wvals]
    have HO : Hid (w2.ownsRow base 62 4 v' (ws ++ [z]).length (wvals (ws ++ [z]))) := by
      refine hide ?_
      rw [e1, List.length_append]
      exact hown'
    clear hown' hgrow hown e1
    go_wp2
    go_ret
    exact ⟨_, rfl, unhide HO, hb2⟩
end Go.Proofs.YtfhmpgjemobjhaaGreatDoor

namespace Go.Proofs.YtfhmpgjemobjhaaGreatDoor
open Go.RowKit
attribute [local go_sem ↓] Go.wp_at_zero Go.wp_at_succ

theorem infoPiece : (Tryz.prog.info? 48).map (fun i => (i.zero, i.size, i.bytes)) = some (some (.agg #[.int .u8 0, .int .i64 0, .slice none 0 0]), 3, 40) := by kernel_rfl
/-- A piece's three cells. -/
structure Pv where
  l : Nat
  v : Int
  ao : Option Addr
  n : Nat
  c : Nat
def Pv.cells (p : Pv) : List Value := [.int .u8 (p.l : Int), .int .i64 p.v, .slice p.ao p.n p.c]
def Pv.val (p : Pv) : Value := .agg #[.int .u8 (p.l : Int), .int .i64 p.v, .slice p.ao p.n p.c]
def pvals (l : List Pv) : List Value := l.flatMap Pv.cells

set_option maxHeartbeats 1000000 in
set_option maxRecDepth 100000 in
theorem upPiece_any (base : Nat) (v : Value) (ps : List Pv) (z : Pv) (w : World) (hown : w.ownsRow base 48 3 v ps.length (pvals ps)) (hlen : ps.length ≤ 11) (hbase : base ≤ w.heap.size) :
    Calls Tryz.prog 70 #[v, z.val, .int .i64 11] w fun e w' => ∃ v', e = .returned v' ∧ w'.ownsRow base 48 3 v' ((ps ++ [z]).take 11).length (pvals ((ps ++ [z]).take 11)) ∧ w.grownBy w' v.ownBlock ∧ Below base w w' := by
  obtain ⟨i0, hi, hz0, hz1, hz2⟩ := info_parts infoPiece
  obtain ⟨ao, cap, rfl⟩ : ∃ ao cap, v = .slice ao ps.length cap := by
    rcases hown.2 with ⟨h1, h2⟩ | ⟨g, cap, cur, h, -⟩
    · exact ⟨none, 0, by rw [h1, h2]⟩
    · exact ⟨_, _, h⟩
  by_cases h9 : ps.length = 11
  · have h9i : (ps.length : Int) = 11 := by omega
    have e : (ps ++ [z]).take 11 = ps := by rw [← h9]; simp
    rw [e]
    have HO := hide hown
    clear e hown
    unfold Pv.val
    go_enter Tryz.func70, Tryz.ntmps70
    go_wp2
    go_ret
    exact ⟨_, rfl, (unhide HO).alloc _, World.grownBy_alloc _ _ _, (Below.refl _ _).alloc hbase _⟩
  · have h9i : ¬ (ps.length : Int) = 11 := by omega
    have e : (ps ++ [z]).take 11 = ps ++ [z] := List.take_of_length_le (by simp; omega)
    rw [e]
    clear e
    unfold Pv.val
    go_enter Tryz.func70, Tryz.ntmps70
    go_wp2_with (at_builtin; refine wpList_append_own _ rfl _ _ 25 rfl base 48 i0 _ 3 40 Tryz.underlying25 hi hz0 hz1 hz2 rfl (by decide) _ _ _ rfl ((hown.alloc _).alloc _) ⟨w.heap.size + 1, 0, none⟩ 1 1 [.int .u8 (z.l : Int), .int .i64 z.v, .slice z.ao z.n z.c] rfl rfl ?c1 ?c2 ?c3 ?c4 ?c5 ?_)
    case c1 =>
      intro j u hj
      match j, hj with
      | 0, hj => simp at hj; subst hj; simp [Addr.add]
      | 1, hj => simp at hj; subst hj; simp [Addr.add]
      | 2, hj => simp at hj; subst hj; simp [Addr.add]
    case c2 =>
      intro u hu
      simp only [List.mem_cons, List.not_mem_nil, or_false] at hu
      rcases hu with rfl | rfl | rfl <;> rfl
    case c3 => unfold maxLen; omega
    case c4 => omega
    case c5 => simp; omega
    intro v' w2 hown' hgrow _
    have hb2 : Below base w w2 := (((Below.refl _ w).alloc hbase _).alloc (by simp; omega) _).grown hgrow (by simp; omega) (own_ge hown)
    have HG : Hid (w.grownBy w2 (Value.slice ao ps.length cap).ownBlock) := by
      refine hide ⟨hgrow.os, hgrow.tape, hgrow.output, ?_, ?_⟩
      · have := hgrow.size; simp at this; omega
      · intro k hk hne
        rw [hgrow.block k (by simp; omega) hne, Below.heap_alloc _ _ _ (by simp; omega), Below.heap_alloc _ _ _ hk]
    have e1 : pvals (ps ++ [z]) = pvals ps ++ [.int .u8 (z.l : Int), .int .i64 z.v, .slice z.ao z.n z.c] := by simp [pvals, Pv.cells]
    have HO : Hid (w2.ownsRow base 48 3 v' (ps ++ [z]).length (pvals (ps ++ [z]))) := by
      refine hide ?_
      rw [e1, List.length_append]
      exact hown'
    clear hown' hgrow hown e1
    go_wp2
    go_ret
    exact ⟨_, rfl, unhide HO, unhide HG, hb2⟩
end Go.Proofs.YtfhmpgjemobjhaaGreatDoor

namespace Go.Proofs.YtfhmpgjemobjhaaGreatDoor
open Go.RowKit

theorem cut_le (s sep : List UInt8) : (Lib.cut s sep).1.length ≤ s.length ∧ (Lib.cut s sep).2.1.length ≤ s.length := by
  by_cases h : (Lib.cut s sep).2.2 = true
  · have e := congrArg List.length (cut_back s sep h)
    simp only [List.length_append] at e
    omega
  · obtain ⟨h1, h2⟩ := cut_whole s sep (Bool.eq_false_iff.2 h)
    rw [h1, h2]
    simp
/-- What Cut leaves: two texts and whether it was found; the memory as it was. -/
theorem Cut_any (s sep : ByteArray) (m : Int) (w : World) (hs : s.size < 2000000) (hm : w.cell? ⟨0, 0, none⟩ = some (.int .i64 m)) :
    Calls Tryz.prog 17 #[.string s, .string sep] w fun e w' => ∃ (a b : ByteArray) (f : Bool), e = .returned (.tuple #[.string a, .string b, .bool f]) ∧ Lib.cut s.data.toList sep.data.toList = (a.data.toList, b.data.toList, f) ∧ a.size ≤ s.size ∧ b.size ≤ s.size ∧ Below w.heap.size w w' ∧ w'.heap.size = w.heap.size := by
  refine (Tryz.strings_Cut s sep m w (by omega) hm).mono ?_
  rintro e w' ⟨rfl, n, rfl⟩
  have hl := cut_le s.data.toList sep.data.toList
  rw [len_data] at hl
  refine ⟨_, _, _, rfl, rfl, ?_, ?_, below_drewN (Below.refl _ _) _, rfl⟩
  · rw [← len_data]; exact hl.1
  · rw [← len_data]; exact hl.2
end Go.Proofs.YtfhmpgjemobjhaaGreatDoor
