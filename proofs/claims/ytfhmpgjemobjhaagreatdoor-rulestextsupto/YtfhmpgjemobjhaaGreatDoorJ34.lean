/-
  The document's answer on rules (package gameref), walked: line, at the start's line.
  What the reading of a piece's line leans on: an append as a step of a drawn region; parts of a text; ways one behind the other.
-/
import Derived.Test.YtfhmpgjemobjhaaGreatDoorS10
import Derived.Deep.RegionLawGrows
namespace Go.Proofs.YtfhmpgjemobjhaaGreatDoor
open Go.RowKit
attribute [local go_sem ↓] Go.wp_at_zero Go.wp_at_succ

theorem GS.start {w : World} {g : Nat} {x : Rl} (h : GS w g x) (y : Six) (hs : y.2.2.1.length ≤ 64 ∧ y.2.2.2.2.1.length ≤ 8 ∧ y.2.2.2.2.2.length ≤ 8) :
    GS ((((((w.setCell ⟨g, 0, none⟩ (.int .i64 (y.1 : Int))).setCell ⟨g, 1, none⟩ (.int .i64 (y.2.1 : Int))).setCell ⟨g, 2, none⟩ (.string ⟨y.2.2.1.toArray⟩)).setCell ⟨g, 3, none⟩ (.int .i64 y.2.2.2.1)).setCell ⟨g, 4, none⟩ (.string ⟨y.2.2.2.2.1.toArray⟩)).setCell ⟨g, 5, none⟩ (.string ⟨y.2.2.2.2.2.toArray⟩)) g
      { x with W := y.1, H := y.2.1, C := y.2.2.1, T := y.2.2.2.1, A := y.2.2.2.2.1, B := y.2.2.2.2.2 } := by
  obtain ⟨⟨v, qs, hr, hpk⟩, -⟩ := h
  refine ⟨⟨v, qs, isRu.start hr _ _ _ _ _ _, ?_⟩, hs⟩
  refine hpk.keep fun j hj _ => ?_
  rw [Below.heap_setCell _ _ _ _ (by simp only; omega), Below.heap_setCell _ _ _ _ (by simp only; omega), Below.heap_setCell _ _ _ _ (by simp only; omega), Below.heap_setCell _ _ _ _ (by simp only; omega), Below.heap_setCell _ _ _ _ (by simp only; omega), Below.heap_setCell _ _ _ _ (by simp only; omega)]
theorem low_set6 {a w : World} {g : Nat} (h : Below g a w) (u0 u1 u2 u3 u4 u5 : Value) :
    Below g a ((((((w.setCell ⟨g, 0, none⟩ u0).setCell ⟨g, 1, none⟩ u1).setCell ⟨g, 2, none⟩ u2).setCell ⟨g, 3, none⟩ u3).setCell ⟨g, 4, none⟩ u4).setCell ⟨g, 5, none⟩ u5) :=
  (((((h.setCell (p := ⟨g, 0, none⟩) (Nat.le_refl _) _).setCell (p := ⟨g, 1, none⟩) (Nat.le_refl _) _).setCell (p := ⟨g, 2, none⟩) (Nat.le_refl _) _).setCell (p := ⟨g, 3, none⟩) (Nat.le_refl _) _).setCell (p := ⟨g, 4, none⟩) (Nat.le_refl _) _).setCell (p := ⟨g, 5, none⟩) (Nat.le_refl _) _
structure LineS (g : Nat) (x : Rl) (b : List UInt8) (w : World) (e : Ending) (w' : World) : Prop where
  ex : (∃ y : Six, posF b = (some y, b.length) ∧ e = .returned (.int .i64 0) ∧ GS w' g { x with W := y.1, H := y.2.1, C := y.2.2.1, T := y.2.2.2.1, A := y.2.2.2.2.1, B := y.2.2.2.2.2 }) ∨ ((∀ y : Six, posF b ≠ (some y, b.length)) ∧ e = .returned (.int .i64 (-1)))
  low : Below g w w'

set_option maxHeartbeats 1000000 in
set_option maxRecDepth 100000 in
theorem gLine_start (g : Nat) (x : Rl) (s : ByteArray) (m : Int) (w : World) (hg : GS w g x) (hs : s.size < 2000000) (hm : w.cell? ⟨0, 0, none⟩ = some (.int .i64 m)) (b : List UInt8) (hsd : s.data.toList = wStart ++ 32 :: b) :
    Calls Tryz.prog 20 #[.pointer (some ⟨g, 0, none⟩), .string s] w fun e w' => LineS g x b w e w' := by
  have hpre : ([115, 116, 97, 114, 116, 32] : List UInt8).isPrefixOf s.data.toList = true := by rw [hsd]; simp [wStart, List.isPrefixOf]
  have hsz : s.size = 6 + b.length := by rw [← len_data, hsd]; simp [wStart]; omega
  obtain ⟨S, hSX⟩ : ∃ S, s.extract 6 s.size = S := ⟨_, rfl⟩
  have hSd : S.data.toList = b := by
    rw [← hSX, ByteArray.data_extract, Array.toList_extract, List.extract_eq_take_drop, hsd]
    simp [wStart, hsz]
  have hz6 : (6 : Int) ≤ (s.size : Int) := by omega
  have HSP := hide (Split_any s 32 m w hs hm)
  obtain ⟨P, hP⟩ : ∃ P, P = spl 32 s.data.toList := ⟨_, rfl⟩
  rw [← hP] at HSP
  have HPRE := hide hpre
  have HG := hide hg
  have HM := hide hm
  have HGW : Hid (g < w.heap.size) := hide hg.lt
  have HSD := hide hSd
  clear hpre hm hg hsd hsz hSd hP
  go_enter Tryz.func20, Tryz.ntmps20
  go_wp2_with fail
  refine (unhide HSP).mono ?_
  rintro e w1 ⟨rfl, hb1, hrv⟩
  have HM1 : Hid (w1.cell? ⟨0, 0, none⟩ = some (.int .i64 m)) := hide ((hb1.cell (p := ⟨0, 0, none⟩) (Nat.lt_of_le_of_lt (Nat.zero_le g) (unhide HGW))).trans (unhide HM))
  have HL1 : Hid (0 < w1.heap.size) := hide (Nat.lt_of_le_of_lt (Nat.zero_le _) hrv.lt)
  have HG1 := hide ((unhide HG).below hb1)
  have HB1 := hide (hb1.mono (Nat.le_of_lt (unhide HGW)))
  clear hb1 hrv
  go_wp2_with fail
  refine (hasPrefix_any s ⟨#[115, 116, 97, 114, 116, 32]⟩ w1).mono ?_
  rintro e w2 ⟨rfl, rfl⟩
  rw [unhide HPRE]
  go_wp2_with fail
  refine (Parsed_any S m _ (unhide HM1) (unhide HL1)).mono ?_
  rintro e w3 ⟨hh, hb3⟩
  have hg3 := (unhide HG1).below hb3
  have hb4 : Below g w w3 := (unhide HB1).trans (hb3.mono (Nat.le_of_lt (unhide HG1).lt))
  have hgl := hg3.lt
  have hne : w3.heap.size + 1 ≠ g := by omega
  have hne' : g ≠ w3.heap.size + 1 := by omega
  have hne1 : w3.heap.size ≠ g := by omega
  have hne1' : g ≠ w3.heap.size := by omega
  have hba : ∀ o o', Below w3.heap.size w3 ((w3.alloc o).alloc o') := fun o o' => ((Below.refl _ _).alloc (Nat.le_refl _) o).alloc (by simp) o'
  have hga : ∀ o o', GS ((w3.alloc o).alloc o') g x := fun o o' => hg3.below (hba o o')
  obtain ⟨⟨u0, a0⟩, b0⟩ := hg3.cell 0 (by decide)
  obtain ⟨⟨u1, a1⟩, b1⟩ := hg3.cell 1 (by decide)
  obtain ⟨⟨u2, a2⟩, b2⟩ := hg3.cell 2 (by decide)
  obtain ⟨⟨u3, a3⟩, b3⟩ := hg3.cell 3 (by decide)
  obtain ⟨⟨u4, a4⟩, b4⟩ := hg3.cell 4 (by decide)
  obtain ⟨⟨u5, a5⟩, b5⟩ := hg3.cell 5 (by decide)
  have c0 := fun o o' => ((hba o o').cell (p := ⟨g, 0, none⟩) hgl).trans a0
  have c1 := fun o o' => ((hba o o').cell (p := ⟨g, 1, none⟩) hgl).trans a1
  have c2 := fun o o' => ((hba o o').cell (p := ⟨g, 2, none⟩) hgl).trans a2
  have c3 := fun o o' => ((hba o o').cell (p := ⟨g, 3, none⟩) hgl).trans a3
  have c4 := fun o o' => ((hba o o').cell (p := ⟨g, 4, none⟩) hgl).trans a4
  have c5 := fun o o' => ((hba o o').cell (p := ⟨g, 5, none⟩) hgl).trans a5
  have f0 := fun o o' => ((hba o o').frozen (p := ⟨g, 0, none⟩) hgl).trans b0
  have f1 := fun o o' => ((hba o o').frozen (p := ⟨g, 1, none⟩) hgl).trans b1
  have f2 := fun o o' => ((hba o o').frozen (p := ⟨g, 2, none⟩) hgl).trans b2
  have f3 := fun o o' => ((hba o o').frozen (p := ⟨g, 3, none⟩) hgl).trans b3
  have f4 := fun o o' => ((hba o o').frozen (p := ⟨g, 4, none⟩) hgl).trans b4
  have f5 := fun o o' => ((hba o o').frozen (p := ⟨g, 5, none⟩) hgl).trans b5
  have HGA := hide hga
  have HB4 := hide (fun o o' => hb4.trans ((hba o o').mono (Nat.le_of_lt hgl)))
  clear hb3 hg3 hb4 hgl hba hga a0 a1 a2 a3 a4 a5 b0 b1 b2 b3 b4 b5
  rcases hh with ⟨y, hy, rfl⟩ | ⟨hno, rfl⟩
  · have HSM := hide (reads_small hy)
    unfold readsAs at hy
    rw [unhide HSD] at hy
    have HY := hide hy
    clear hy
    obtain ⟨W, H, C, T, A, B⟩ := y
    simp only [sixOf, sixV, faultV]
    obtain ⟨CB, hCB⟩ : ∃ CB : ByteArray, CB = ⟨C.toArray⟩ := ⟨_, rfl⟩
    obtain ⟨AB, hAB⟩ : ∃ AB : ByteArray, AB = ⟨A.toArray⟩ := ⟨_, rfl⟩
    obtain ⟨BB, hBB⟩ : ∃ BB : ByteArray, BB = ⟨B.toArray⟩ := ⟨_, rfl⟩
    rw [← hCB, ← hAB, ← hBB]
    have HCB := hide hCB
    have HAB := hide hAB
    have HBB := hide hBB
    clear hCB hAB hBB
    go_wp2
    go_ret
    refine ⟨Or.inl ⟨(W, H, C, T, A, B), unhide HY, rfl, ?_⟩, low_set6 (unhide HB4 _ _) _ _ _ _ _ _⟩
    rw [unhide HCB, unhide HAB, unhide HBB]
    exact GS.start (unhide HGA _ _) (W, H, C, T, A, B) (unhide HSM)
  · have hno' : ∀ y : Six, posF b ≠ (some y, b.length) := by
      intro y hy
      apply hno y
      unfold readsAs
      rw [unhide HSD]; exact hy
    have HNO := hide hno'
    clear hno hno'
    generalize (posF S.data.toList).2 = pn
    simp only [zeroPos, faultV]
    go_wp2
    go_ret
    exact ⟨Or.inr ⟨unhide HNO, rfl⟩, low_set6 (unhide HB4 _ _) _ _ _ _ _ _⟩
end Go.Proofs.YtfhmpgjemobjhaaGreatDoor

namespace Go.Proofs.YtfhmpgjemobjhaaGreatDoor
open Go.RowKit

theorem step_append_own {P : Program} {ops : Array Oper} {o : Oper} {a : Act} {w : World} {K : Act → World → Prop} {Q : Exit → Act → World → Prop} {E : Prop}
    (hg : o.guard = none) (s x : Operand) (t : TypeId) (hop : o.op = Op.call { callee := Callee.builtin Builtin.append, args := #[s, x], argTypes := #[t, t] })
    (base : Nat) (e : TypeId) (i : TypeInfo) (z : Value) (size bytes : Nat) (h1 : P.underlying t = some (.slice e)) (h2 : P.info? e = some i) (h3 : i.zero = some z) (h4 : i.size = size) (h5 : i.bytes = bytes) (h6 : z.cells.size = size) (h7 : 0 < size)
    (v : Value) (n : Nat) (xs : List Value) (hs : a.eval s = v) (hown : w.ownsRow base e size v n xs)
    (ad : Addr) (m c : Nat) (news : List Value) (hx : a.eval x = .slice (some ad) m c) (hn : news.length = m * size) (hc : ∀ j u, news[j]? = some u → w.cell? (ad.add j) = some u) (h1c : ∀ u ∈ news, u.oneCell' = true)
    (b1 : n + m ≤ maxLen) (b2 : (n + m) * bytes ≤ 140737488355328) (hbase : base ≤ w.heap.size)
    (hK : ∀ v' w', w'.ownsRow base e size v' (n + m) (xs ++ news) → w.grownBy w' v.ownBlock → K (a.put o.dst v') w') :
    if Region.wanted o (yielded ops a.tmps) = true then Oper.wp P o a w K Q else E := by
  have hw : Region.wanted o (yielded ops a.tmps) = true := by simp [Region.wanted, hg]
  rw [if_pos hw]
  obtain ⟨v', w', hrun, r1, r2, _⟩ := run_append_own (P := P) w base t o.type e i z size bytes h1 h2 h3 h4 h5 h6 h7 v n xs hown ad m c news hn hc h1c b1 b2 hbase
  unfold Oper.wp
  simp [execOp, hop, resolve, invoke, builtin, hs, hx, hrun, Result.andThen]
  exact hK v' w' r1 r2

theorem cut_fst_le (s sep : List UInt8) : (Lib.cut s sep).1.length ≤ s.length := by
  unfold Lib.cut
  split
  · simp only [List.length_take]; omega
  · exact Nat.le_refl _
theorem split_short (sep : List UInt8) (hsep : sep ≠ []) : ∀ (n : Nat) (s : List UInt8), s.length ≤ n → ∀ p ∈ Lib.split s sep, p.length ≤ s.length
  | n, s, hn, p, hp => by
    rw [split_cut s sep hsep] at hp
    rcases List.mem_cons.1 hp with rfl | hp
    · exact cut_fst_le s sep
    · split at hp
      · rename_i hf
        have hsh := cut_shorter s sep hsep hf
        match n, hn with
        | 0, hn => omega
        | n + 1, hn =>
          have := split_short sep hsep n _ (by omega) p hp
          omega
      · cases hp
theorem split_len (sep : List UInt8) (hsep : sep ≠ []) : ∀ (n : Nat) (s : List UInt8), s.length ≤ n → (Lib.split s sep).length ≤ s.length + 1
  | n, s, hn => by
    rw [split_cut s sep hsep, List.length_cons]
    split
    · rename_i hf
      have hsh := cut_shorter s sep hsep hf
      match n, hn with
      | 0, hn => omega
      | n + 1, hn =>
        have := split_len sep hsep n _ (show (Lib.cut s sep).2.1.length ≤ n by omega)
        omega
    · simp
/-- The ways that were read, and those still to come. -/
theorem ways_next (L : List (List UInt8)) (k : Nat) (l : List UInt8) (WS : List Wy) (z : Wy) (hl : L[k]? = some l) (hz : wayOf l = some z) (h : L.mapM wayOf = ((L.drop k).mapM wayOf).map (WS ++ ·)) : L.mapM wayOf = ((L.drop (k + 1)).mapM wayOf).map ((WS ++ [z]) ++ ·) := by
  obtain ⟨hk, he⟩ := List.getElem?_eq_some_iff.1 hl
  rw [h, List.drop_eq_getElem_cons hk, he, List.mapM_cons, hz]
  cases (L.drop (k + 1)).mapM wayOf with
  | none => rfl
  | some t => simp
theorem ways_stop (L : List (List UInt8)) (k : Nat) (l : List UInt8) (WS : List Wy) (hl : L[k]? = some l) (hz : wayOf l = none) (h : L.mapM wayOf = ((L.drop k).mapM wayOf).map (WS ++ ·)) : L.mapM wayOf = none := by
  obtain ⟨hk, he⟩ := List.getElem?_eq_some_iff.1 hl
  rw [h, List.drop_eq_getElem_cons hk, he, List.mapM_cons, hz]
  rfl
theorem ways_done (L : List (List UInt8)) (WS : List Wy) (h : L.mapM wayOf = ((L.drop L.length).mapM wayOf).map (WS ++ ·)) : L.mapM wayOf = some WS := by
  rw [h, List.drop_length]
  simp
theorem wvals_snoc (ws : List Wy) (z : Wy) : wvals (ws ++ [z]) = wvals ws ++ [.int .i64 z.k, .int .i64 z.x, .int .i64 z.y, .int .i64 z.t] := by simp [wvals]
theorem pvals_snoc (ps : List Pv) (z : Pv) : pvals (ps ++ [z]) = pvals ps ++ [.int .u8 (z.l : Int), .int .i64 z.v, .slice z.ao z.n z.c] := by simp [pvals, Pv.cells]
/-- What a piece's line leaves. -/
structure LineP (g : Nat) (x : Rl) (R : Option Pc) (w : World) (e : Ending) (w' : World) : Prop where
  ex : (∃ p, R = some p ∧ e = .returned (.int .i64 1) ∧ GS w' g { x with ps := x.ps ++ [p] }) ∨ (R = none ∧ e = .returned (.int .i64 (-1)))
  low : Below g w w'
/-- The pieces, one more. -/
theorem GS.snoc {w w' : World} {g : Nat} {x : Rl} {v v' : Value} {qs : List Pv} (h1 : isGs w g x v) (h2 : isPk w (g + 1) v qs x.ps) (h3 : x.C.length ≤ 64 ∧ x.A.length ≤ 8 ∧ x.B.length ≤ 8) {q : Pv} {p : Pc} (hq : Pv.is w (g + 1) q p)
    (hrow : w'.ownsRow (g + 1) 48 3 v' (qs ++ [q]).length (pvals (qs ++ [q]))) (hg : w.grownBy w' v.ownBlock) (hb : Below (g + 1) w w') : GS (w'.setCell ⟨g, 6, none⟩ v') g { x with ps := x.ps ++ [p] } := by
  have h4 := h2.snocG hq hrow hg
  exact ⟨⟨v', qs ++ [q], isRu.set6 (isRu.below h1 hb (Nat.lt_succ_self _)) _, h4.keep fun k hk _ => keep_set _ _ _ _ _ hk⟩, h3⟩
end Go.Proofs.YtfhmpgjemobjhaaGreatDoor
