/-
  board.reader's rows, walked.
  board.reader.position, walked: what is read, or where it stops.
-/
import Derived.Test.YtfhmpgjemobjhaaGreatDoorJ22
import Derived.Test.YtfhmpgjemobjhaaGreatDoorJ17
import Derived.Test.YtfhmpgjemobjhaaGreatDoorJ0
namespace Go.Proofs.YtfhmpgjemobjhaaGreatDoor
open Go.RowKit

theorem info_str : (Tryz.prog.info? 9).map (fun i => (i.zero, i.size, i.bytes)) = some (some (.string ⟨#[]⟩), 1, 16) := by kernel_rfl

theorem own_rd {w w1 : World} {base e size b m : Nat} {s : ByteArray} {v : Value} {n : Nat} {xs : List Value} (h : w.ownsRow base e size v n xs) (hb : Rd w.heap.size b s m w w1) (hl : b < base) : w1.ownsRow base e size v n xs := by
  refine ⟨h.1, ?_⟩
  rcases h.2 with h2 | ⟨g, cap, cur, hv, hg, hh, rest⟩
  · exact Or.inl h2
  · have hlt := (h.lt g (by rw [hv]; rfl)).2
    exact Or.inr ⟨g, cap, cur, hv, hg, (hb.block g hlt (by omega)).trans hh, rest⟩

/-- What holds in the loop of board.reader.rows: acc: the rows till now; k: how many more there may be; at a; l: the text from where it began, at n. -/
structure RowsInv (s : ByteArray) (n : Nat) (acc : List (List UInt8)) (k least most a : Nat) : Prop where
  ok : (rowsF 8 1 8 (s.data.toList.drop n)).1 = (rowsF k least most (s.data.toList.drop a)).1
  rows : (rowsF 8 1 8 (s.data.toList.drop n)).2.1 = acc ++ (rowsF k least most (s.data.toList.drop a)).2.1
  stop : n + (rowsF 8 1 8 (s.data.toList.drop n)).2.2 = a + (rowsF k least most (s.data.toList.drop a)).2.2
  k0 : 1 ≤ k
  len : acc.length + k = 8
  l8 : least ≤ 8
  m8 : most ≤ 8
  a8 : a ≤ s.size

/-- A round: what the row there makes of it. -/
theorem RowsInv.step {s : ByteArray} {n : Nat} {acc : List (List UInt8)} {k least most a : Nat} (i : RowsInv s n acc k least most a) :
    rowN most (s.data.toList.drop a) ≤ 8 ∧ a + rowN most (s.data.toList.drop a) ≤ s.size ∧
    (rowN most (s.data.toList.drop a) < least → (rowsF 8 1 8 (s.data.toList.drop n)).1 = false ∧ n + (rowsF 8 1 8 (s.data.toList.drop n)).2.2 = a + rowN most (s.data.toList.drop a)) ∧
    (¬ rowN most (s.data.toList.drop a) < least → acc.length = 7 ∨ atB s.data.toList (a + rowN most (s.data.toList.drop a)) 47 = false →
      (rowsF 8 1 8 (s.data.toList.drop n)).1 = true ∧ (rowsF 8 1 8 (s.data.toList.drop n)).2.1 = acc ++ [(s.data.toList.drop a).take (rowN most (s.data.toList.drop a))] ∧ n + (rowsF 8 1 8 (s.data.toList.drop n)).2.2 = a + rowN most (s.data.toList.drop a)) ∧
    (¬ rowN most (s.data.toList.drop a) < least → acc.length ≠ 7 → atB s.data.toList (a + rowN most (s.data.toList.drop a)) 47 = true →
      RowsInv s n (acc ++ [(s.data.toList.drop a).take (rowN most (s.data.toList.drop a))]) (k - 1) (rowN most (s.data.toList.drop a)) (rowN most (s.data.toList.drop a)) (a + rowN most (s.data.toList.drop a) + 1)) := by
  obtain ⟨ok, rows, stop, k0, len, l8, m8, a8⟩ := i
  obtain ⟨k, rfl⟩ : ∃ j, k = j + 1 := ⟨k - 1, by omega⟩
  have hle := rowN_le most (s.data.toList.drop a)
  rw [List.length_drop, len_data] at hle
  generalize hN : rowN most (s.data.toList.drop a) = N at hle
  generalize hF : rowsF 8 1 8 (s.data.toList.drop n) = F at ok rows stop ⊢
  rw [rowsF, hN] at ok rows stop
  have hhd : ((s.data.toList.drop a).drop N).head? = s.data.toList[a + N]? := by rw [List.drop_drop, List.head?_drop]
  rw [hhd] at ok rows stop
  have hdd : (s.data.toList.drop a).drop (N + 1) = s.data.toList.drop (a + N + 1) := by rw [List.drop_drop, Nat.add_assoc]
  rw [hdd] at ok rows stop
  refine ⟨by omega, by omega, ?_, ?_, ?_⟩
  · intro h
    rw [if_pos h] at ok stop
    exact ⟨ok, stop⟩
  · intro h h2
    have h3 : k = 0 ∨ s.data.toList[a + N]? ≠ some 47 := by
      rcases h2 with h2 | h2
      · left; omega
      · right; simpa [atB] using h2
    rw [if_neg h, if_pos h3] at ok rows stop
    exact ⟨ok, rows, stop⟩
  · intro h h2 h3
    have h4 : ¬ (k = 0 ∨ s.data.toList[a + N]? ≠ some 47) := by
      simp only [atB, decide_eq_true_eq] at h3
      rw [h3]; simp; omega
    have hlt : a + N < s.data.toList.length := by
      simp only [atB, decide_eq_true_eq] at h3
      exact (List.getElem?_eq_some_iff.1 h3).1
    rw [len_data] at hlt
    rw [if_neg h, if_neg h4] at ok rows stop
    subst hF
    refine ⟨ok, ?_, ?_, by omega, by simp; omega, by omega, by omega, by omega⟩
    · rw [rows, Nat.add_sub_cancel]; simp
    · rw [stop, Nat.add_sub_cancel]; simp only; omega

set_option maxHeartbeats 1000000 in
set_option maxRecDepth 100000 in
theorem rows_any (b n : Nat) (s : ByteArray) (w : World) (h : isRd w b s n) (hs : s.size ≤ maxLen) (hn : n ≤ s.size) :
    Calls Tryz.prog 88 #[.pointer (some ⟨b, 0, none⟩)] w fun e w' => ∃ v : Value, e = .returned (.tuple #[v, .bool (rowsF 8 1 8 (s.data.toList.drop n)).1]) ∧
      Rd w.heap.size b s (n + (rowsF 8 1 8 (s.data.toList.drop n)).2.2) w w' ∧
      ((rowsF 8 1 8 (s.data.toList.drop n)).1 = true → w'.ownsRow w.heap.size 9 1 v (rowsF 8 1 8 (s.data.toList.drop n)).2.1.length (rvals (rowsF 8 1 8 (s.data.toList.drop n)).2.1)) := by
  obtain ⟨i0, hi, hz0, hz1, hz2⟩ := info_parts info_str
  have hlt : b < w.heap.size := h.lt
  have hR0 := Rd.refl (B := w.heap.size) h
  have hI0 : RowsInv s n [] 8 1 8 n := ⟨rfl, rfl, rfl, by omega, rfl, by omega, by omega, hn⟩
  have HST : Hid (∀ (acc : List (List UInt8)) (k least most a : Nat), RowsInv s n acc k least most a → _) := fun acc k least most a i => i.step
  generalize rowsF 8 1 8 (s.data.toList.drop n) = F at HST ⊢
  go_enter Tryz.func88, Tryz.ntmps88
  go_wp2
  go_loopw [4, 5, 6] (fun v x y wr => ∃ (acc : List (List UInt8)) (k least most a : Nat), RowsInv s n acc k least most a ∧ x = .int .i64 (least : Int) ∧ y = .int .i64 (most : Int) ∧ wr.ownsRow w.heap.size 9 1 v acc.length (rvals acc) ∧ Rd w.heap.size b s a w wr) (fun _ _ _ wr => s.size + 1 - atOf wr b)
  case atStart => exact ⟨[], 8, 1, 8, n, hI0, rfl, rfl, World.ownsRow_nil _ _ _ _, hR0⟩
  case round =>
    obtain ⟨acc, k, least, most, a, inv, rfl, rfl, hown, hr⟩ := hrel
    clear hR0 hI0
    have hst := unhide HST acc k least most a inv
    have hm8 := inv.m8
    have ha8 := inv.a8
    have hl8 := inv.l8
    go_wp2_with fail
    refine (row_any b a most s _ hr.rd hs ha8 hm8).mono ?_
    rintro e w1 ⟨rfl, hr1⟩
    have hX := ext_str s a (rowN most (s.data.toList.drop a))
    have hXs : (s.extract a (a + rowN most (s.data.toList.drop a))).size = rowN most (s.data.toList.drop a) := by
      have h1 := hst.2.1
      rw [ByteArray.size_extract]; omega
    generalize rowN most (s.data.toList.drop a) = N at hst hr1 hX hXs ⊢
    obtain ⟨hN8, hNs, s1, s2, s3⟩ := hst
    generalize s.extract a (a + N) = X at hX hXs ⊢
    have HX := hide hX
    have hat := hr.rd.atOf
    have hsw := hr.size
    have hr2 := hr.trans (hr1.mono hsw)
    have hown1 := own_rd hown hr1 hlt
    have hal : acc.length ≤ 7 := by have := inv.len; have := inv.k0; omega
    clear hX inv hown
    by_cases hNl : N < least
    · obtain ⟨g1, g2⟩ := s1 hNl
      have HG := hide g1
      have HG2 := hide g2
      clear s1 s2 s3 g1 g2
      have hNi : (N : Int) < (least : Int) := by omega
      go_wp2
      go_ret2
      refine ⟨_, by rw [unhide HG]; rfl, by rw [unhide HG2]; exact hr2, fun e => ?_⟩
      rw [unhide HG] at e
      cases e
    · have HS2 := hide (s2 hNl)
      have HS3 := hide (s3 hNl)
      clear s1 s2 s3
      have hNi : ¬ (N : Int) < (least : Int) := by omega
      go_wp2_with (at_builtin; refine wpList_append_own _ rfl _ _ 80 rfl w.heap.size 9 i0 (.string ⟨#[]⟩) 1 16 Tryz.underlying80 hi hz0 hz1 hz2 rfl (by decide) _ _ _ rfl (hown1.alloc _) ⟨w1.heap.size, 0, none⟩ 1 1 [.string X] rfl rfl ?c1 ?c2 ?c3 ?c4 ?c5 ?_)
      case c1 =>
        intro j u hj
        match j, hj with
        | 0, hj => simp at hj; subst hj; simp [Addr.add]
      case c2 => intro u hu; simp at hu; subst hu; rfl
      case c3 => unfold maxLen; omega
      case c4 => omega
      case c5 => have := hr1.size; simp; omega
      intro v' w2 hown' hgrow _
      have hs1 := hr2.size
      have hb2 : Below w.heap.size w1 w2 := ((Below.refl _ w1).alloc hs1 _).grown hgrow (by simp; omega) (own_ge hown1)
      have hr3 := hr2.below hb2 hlt
      obtain ⟨g, cap, hv, hg1, hg2⟩ := hown'.form (by omega)
      subst hv
      have hown3 : w2.ownsRow w.heap.size 9 1 (.slice (some ⟨g, 0, none⟩) (acc.length + 1) cap) (acc ++ [(s.data.toList.drop a).take N]).length (rvals (acc ++ [(s.data.toList.drop a).take N])) := by
        have e1 : rvals (acc ++ [(s.data.toList.drop a).take N]) = rvals acc ++ [.string X] := by rw [unhide HX]; simp [rvals]
        have e2 : (acc ++ [(s.data.toList.drop a).take N]).length = acc.length + 1 := by simp
        rw [e1, e2]; exact hown'
      clear hown' hgrow hown1 hr2 hr1 hr hb2
      by_cases h7 : acc.length = 7
      · obtain ⟨g1, g2, g3⟩ := unhide HS2 (Or.inl h7)
        have HG1 := hide g1
        have HG2 := hide g2
        have HG3 := hide g3
        clear g1 g2 g3
        have h7i : (acc.length : Int) + 1 = 8 := by omega
        go_wp2
        go_ret2
        refine ⟨_, by rw [unhide HG1]; rfl, by rw [unhide HG3]; exact hr3, fun _ => ?_⟩
        rw [unhide HG2]
        exact hown3
      · have h7i : ¬ (acc.length : Int) + 1 = 8 := by omega
        go_wp2_with fail
        refine (take_any b (a + N) 47 s _ hr3.rd (by decide) hs).mono ?_
        rintro e w3 ⟨rfl, hr4⟩
        have hr5 := hr3.trans (hr4.mono hr3.size)
        have hown4 := own_rd hown3 (hr4.mono (Nat.le_refl _)) hlt
        cases h8 : atB s.data.toList (a + N) 47 with
        | true =>
          rw [h8, if_pos rfl] at hr5
          have inv2 := unhide HS3 h7 h8
          have HI := hide inv2
          clear inv2
          go_wp2
          go_roundw
          case rel => exact ⟨_, _, _, _, _, unhide HI, rfl, rfl, hown4, hr5⟩
          case measure =>
            have h1 : atOf _ b = a + N + 1 := hr5.rd.atOf
            have h2 := (unhide HI).a8
            rw [h1, hat]
            omega
        | false =>
          rw [h8, if_neg (by simp)] at hr5
          obtain ⟨g1, g2, g3⟩ := unhide HS2 (Or.inr h8)
          have HG1 := hide g1
          have HG2 := hide g2
          have HG3 := hide g3
          clear g1 g2 g3
          go_wp2
          go_ret2
          refine ⟨_, by rw [unhide HG1]; rfl, by rw [unhide HG3]; exact hr5, fun _ => ?_⟩
          rw [unhide HG2]
          exact hown4
end Go.Proofs.YtfhmpgjemobjhaaGreatDoor

namespace Go.Proofs.YtfhmpgjemobjhaaGreatDoor
open Go.RowKit

/-! ### The reading's ways, one by one -/
theorem turnF_no (s : List UInt8) (n : Nat) (h : (turnF s n).1 = false) : (turnF s n).2.2 = n := by
  unfold turnF at h ⊢
  split
  · rename_i h1; rw [if_pos h1] at h; cases h
  · rename_i h1
    rw [if_neg h1] at h
    split
    · rename_i h2; rw [if_pos h2] at h; cases h
    · rfl
theorem turnF_yes (s : List UInt8) (n : Nat) (h : (turnF s n).1 = true) : (turnF s n).2.2 = n + 1 ∧ n < s.length := by
  unfold turnF at h ⊢
  split
  · rename_i h1
    simp only [atB, decide_eq_true_eq] at h1
    exact ⟨rfl, (List.getElem?_eq_some_iff.1 h1).1⟩
  · rename_i h1
    rw [if_neg h1] at h
    split
    · rename_i h2
      simp only [atB, decide_eq_true_eq] at h2
      exact ⟨rfl, (List.getElem?_eq_some_iff.1 h2).1⟩
    · rename_i h2; rw [if_neg h2] at h; cases h
theorem atB_lt {s : List UInt8} {n : Nat} {c : UInt8} (h : atB s n c = true) : n < s.length := by
  simp only [atB, decide_eq_true_eq] at h
  exact (List.getElem?_eq_some_iff.1 h).1

/-- A position's six cells in block p. -/
def isBx (w : World) (p : Nat) (x0 x1 x2 x3 x4 x5 : Value) : Prop := w.heap[p]? = some (.cells #[x0, x1, x2, x3, x4, x5] 24 (0, 0))
theorem isBx.all {w : World} {p : Nat} {x0 x1 x2 x3 x4 x5 : Value} (h : isBx w p x0 x1 x2 x3 x4 x5) :
    (w.cell? ⟨p, 0, none⟩ = some x0 ∧ w.cell? ⟨p, 1, none⟩ = some x1 ∧ w.cell? ⟨p, 2, none⟩ = some x2 ∧ w.cell? ⟨p, 3, none⟩ = some x3 ∧ w.cell? ⟨p, 4, none⟩ = some x4 ∧ w.cell? ⟨p, 5, none⟩ = some x5) ∧
    w.frozen? ⟨p, 0, none⟩ = false ∧ w.frozen? ⟨p, 1, none⟩ = false ∧ w.frozen? ⟨p, 2, none⟩ = false ∧ w.frozen? ⟨p, 3, none⟩ = false ∧ w.frozen? ⟨p, 4, none⟩ = false ∧ w.frozen? ⟨p, 5, none⟩ = false := by
  unfold isBx at h; simp [World.cell?, World.frozen?, h]
theorem isBx.rd {w w' : World} {p B b n : Nat} {s : ByteArray} {x0 x1 x2 x3 x4 x5 : Value} (h : isBx w p x0 x1 x2 x3 x4 x5) (k : Rd B b s n w w') (hp : p < B) (hn : p ≠ b) : isBx w' p x0 x1 x2 x3 x4 x5 := by
  unfold isBx at h ⊢; rw [k.block p hp hn, h]
theorem isBx.below {w w' : World} {p B : Nat} {x0 x1 x2 x3 x4 x5 : Value} (h : isBx w p x0 x1 x2 x3 x4 x5) (k : Below B w w') (hp : p < B) : isBx w' p x0 x1 x2 x3 x4 x5 := by
  unfold isBx at h ⊢; rw [k.block p hp, h]
theorem isBx.set012 {w : World} {p : Nat} {x0 x1 x2 x3 x4 x5 : Value} (h : isBx w p x0 x1 x2 x3 x4 x5) (y0 y1 y2 : Value) : isBx (((w.setCell ⟨p, 0, none⟩ y0).setCell ⟨p, 1, none⟩ y1).setCell ⟨p, 2, none⟩ y2) p y0 y1 y2 x3 x4 x5 := by
  unfold isBx at h ⊢; simp [World.setCell, Array.getElem?_modify, h]
theorem isBx.set3 {w : World} {p : Nat} {x0 x1 x2 x3 x4 x5 : Value} (h : isBx w p x0 x1 x2 x3 x4 x5) (y : Value) : isBx (w.setCell ⟨p, 3, none⟩ y) p x0 x1 x2 y x4 x5 := by
  unfold isBx at h ⊢; simp [World.setCell, Array.getElem?_modify, h]
theorem isBx.set4 {w : World} {p : Nat} {x0 x1 x2 x3 x4 x5 : Value} (h : isBx w p x0 x1 x2 x3 x4 x5) (y : Value) : isBx (w.setCell ⟨p, 4, none⟩ y) p x0 x1 x2 x3 y x5 := by
  unfold isBx at h ⊢; simp [World.setCell, Array.getElem?_modify, h]
theorem isBx.set5 {w : World} {p : Nat} {x0 x1 x2 x3 x4 x5 : Value} (h : isBx w p x0 x1 x2 x3 x4 x5) (y : Value) : isBx (w.setCell ⟨p, 5, none⟩ y) p x0 x1 x2 x3 x4 y := by
  unfold isBx at h ⊢; simp [World.setCell, Array.getElem?_modify, h]
/-- A store into another block from B on, or into one that is not the reader's. -/
theorem Rd.put {B b n : Nat} {s : ByteArray} {v w : World} (h : Rd B b s n v w) {p : Addr} (hp : B ≤ p.block) (hB : b < B) (u : Value) : Rd B b s n v (w.setCell p u) :=
  h.below ((Below.refl B w).setCell hp u) hB
theorem isRd.put {w : World} {b n : Nat} {s : ByteArray} (h : isRd w b s n) {p : Addr} (hp : p.block ≠ b) (u : Value) : isRd (w.setCell p u) b s n := by
  unfold isRd at h ⊢; rw [Below.heap_setCell _ _ _ _ hp.symm, h]

theorem Rd.put6 {B b n : Nat} {s : ByteArray} {v w : World} (h : Rd B b s n v w) {p : Nat} (hp : B ≤ p) (hB : b < B) {u0 u1 u2 u3 u4 u5 : Value} :
    Rd B b s n v ((((((w.setCell ⟨p, 0, none⟩ u0).setCell ⟨p, 1, none⟩ u1).setCell ⟨p, 2, none⟩ u2).setCell ⟨p, 3, none⟩ u3).setCell ⟨p, 4, none⟩ u4).setCell ⟨p, 5, none⟩ u5) :=
  (((((h.put (p := ⟨p, 0, none⟩) hp hB u0).put (p := ⟨p, 1, none⟩) hp hB u1).put (p := ⟨p, 2, none⟩) hp hB u2).put (p := ⟨p, 3, none⟩) hp hB u3).put (p := ⟨p, 4, none⟩) hp hB u4).put (p := ⟨p, 5, none⟩) hp hB u5

/-- Six parts as a value. -/
def sixV (W H : Int) (C : ByteArray) (T : Int) (A B : ByteArray) : Value := .agg #[.int .i64 W, .int .i64 H, .string C, .int .i64 T, .string A, .string B]
/-- v is a position's value; where one was read: that one. -/
def posV (o : Option Six) (v : Value) : Prop := ∃ (W H : Int) (C : ByteArray) (T : Int) (A B : ByteArray), v = sixV W H C T A B ∧
  ∀ x, o = some x → W = (x.1 : Int) ∧ H = (x.2.1 : Int) ∧ C = ⟨x.2.2.1.toArray⟩ ∧ T = x.2.2.2.1 ∧ A = ⟨x.2.2.2.2.1.toArray⟩ ∧ B = ⟨x.2.2.2.2.2.toArray⟩
theorem posV_none (W H : Int) (C : ByteArray) (T : Int) (A B : ByteArray) : posV none (sixV W H C T A B) := ⟨W, H, C, T, A, B, rfl, fun _ h => nomatch h⟩

/-- The reading's ways (the text's bytes l = s.data.toList; E: where the rows end). -/
structure PosWays (s : ByteArray) (P : Option Six × Nat) : Prop where
  a : (rowsF 8 1 8 s.data.toList).1 = false → P = (none, rowsEnd s.data.toList)
  b : (rowsF 8 1 8 s.data.toList).1 = true → atB s.data.toList (rowsEnd s.data.toList) 32 = false → P = (none, rowsEnd s.data.toList)
  c : (rowsF 8 1 8 s.data.toList).1 = true → atB s.data.toList (rowsEnd s.data.toList) 32 = true → (turnF s.data.toList (rowsEnd s.data.toList + 1)).1 = false → P = (none, rowsEnd s.data.toList + 1)
  d : (rowsF 8 1 8 s.data.toList).1 = true → atB s.data.toList (rowsEnd s.data.toList) 32 = true → (turnF s.data.toList (rowsEnd s.data.toList + 1)).1 = true → atB s.data.toList (rowsEnd s.data.toList + 2) 32 = false → P = (none, rowsEnd s.data.toList + 2)
  e : (rowsF 8 1 8 s.data.toList).1 = true → atB s.data.toList (rowsEnd s.data.toList) 32 = true → (turnF s.data.toList (rowsEnd s.data.toList + 1)).1 = true → atB s.data.toList (rowsEnd s.data.toList + 2) 32 = true →
    (handF (s.data.toList.drop (rowsEnd s.data.toList + 3))).1 = false → P = (none, handE s (rowsEnd s.data.toList + 3))
  f : (rowsF 8 1 8 s.data.toList).1 = true → atB s.data.toList (rowsEnd s.data.toList) 32 = true → (turnF s.data.toList (rowsEnd s.data.toList + 1)).1 = true → atB s.data.toList (rowsEnd s.data.toList + 2) 32 = true →
    (handF (s.data.toList.drop (rowsEnd s.data.toList + 3))).1 = true → atB s.data.toList (handE s (rowsEnd s.data.toList + 3)) 47 = false → P = (none, handE s (rowsEnd s.data.toList + 3))
  g : (rowsF 8 1 8 s.data.toList).1 = true → atB s.data.toList (rowsEnd s.data.toList) 32 = true → (turnF s.data.toList (rowsEnd s.data.toList + 1)).1 = true → atB s.data.toList (rowsEnd s.data.toList + 2) 32 = true →
    (handF (s.data.toList.drop (rowsEnd s.data.toList + 3))).1 = true → atB s.data.toList (handE s (rowsEnd s.data.toList + 3)) 47 = true →
    (handF (s.data.toList.drop (handE s (rowsEnd s.data.toList + 3) + 1))).1 = false → P = (none, handE s (handE s (rowsEnd s.data.toList + 3) + 1))
  h : (rowsF 8 1 8 s.data.toList).1 = true → atB s.data.toList (rowsEnd s.data.toList) 32 = true → (turnF s.data.toList (rowsEnd s.data.toList + 1)).1 = true → atB s.data.toList (rowsEnd s.data.toList + 2) 32 = true →
    (handF (s.data.toList.drop (rowsEnd s.data.toList + 3))).1 = true → atB s.data.toList (handE s (rowsEnd s.data.toList + 3)) 47 = true →
    (handF (s.data.toList.drop (handE s (rowsEnd s.data.toList + 3) + 1))).1 = true →
    P = (some (((rowsF 8 1 8 s.data.toList).2.1.headD []).length, (rowsF 8 1 8 s.data.toList).2.1.length, (rowsF 8 1 8 s.data.toList).2.1.reverse.flatten, (turnF s.data.toList (rowsEnd s.data.toList + 1)).2.1, (handF (s.data.toList.drop (rowsEnd s.data.toList + 3))).2.1, (handF (s.data.toList.drop (handE s (rowsEnd s.data.toList + 3) + 1))).2.1), handE s (handE s (rowsEnd s.data.toList + 3) + 1))
theorem posWays (s : ByteArray) : PosWays s (posF s.data.toList) := by
  refine ⟨?_, ?_, ?_, ?_, ?_, ?_, ?_, ?_⟩
  · intro h; simp [posF, h]
  · intro h h1; simp [posF, h, h1]
  · intro h h1 h2; simp [posF, h, h1, h2]
  · intro h h1 h2 h3; simp [posF, h, h1, h2, h3]
  · intro h h1 h2 h3 h4; simp [posF, h, h1, h2, h3, h4, handE]
  · intro h h1 h2 h3 h4 h5; unfold handE at h5; simp [posF, h, h1, h2, h3, h4, h5, handE]
  · intro h h1 h2 h3 h4 h5 h6; unfold handE at h5 h6; simp [posF, h, h1, h2, h3, h4, h5, h6, handE]
  · intro h h1 h2 h3 h4 h5 h6; unfold handE at h5 h6; simp [posF, h, h1, h2, h3, h4, h5, h6, handE]
theorem handE_le (s : ByteArray) (n : Nat) (h : n ≤ s.size) : handE s n ≤ s.size ∨ (handF (s.data.toList.drop n)).1 = false := by
  cases hb : (handF (s.data.toList.drop n)).1 with
  | false => exact Or.inr rfl
  | true =>
    left
    have := (handF_s _ hb).2.1
    rw [List.length_drop, len_data] at this
    unfold handE; omega
end Go.Proofs.YtfhmpgjemobjhaaGreatDoor
