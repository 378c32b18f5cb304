/-
  package rules, walked: reader.line.
-/
import Derived.Test.YtfhmpgjemobjhaaGreatDoorR20
import Derived.Test.YtfhmpgjemobjhaaGreatDoorW51
namespace Go.Proofs.YtfhmpgjemobjhaaGreatDoor
open Go.RowKit
attribute [local go_sem ↓] Go.wp_at_zero Go.wp_at_succ

section
variable {w : World} {g last : Nat} {x : Rl}
theorem RS.lt (h : RS w g x last) : g < w.heap.size := by
  obtain ⟨⟨v, qs, hr, -⟩, -⟩ := h
  exact isRr.lt hr
theorem RS.frozen (h : RS w g x last) (k : Nat) : w.frozen? ⟨g, k, none⟩ = false := by
  obtain ⟨⟨v, qs, hr, -⟩, -⟩ := h
  exact isRr.frozen hr k
theorem RS.c7 (h : RS w g x last) : w.cell? ⟨g, 7, none⟩ = some (.bool x.dr) := by
  obtain ⟨⟨v, qs, hr, -⟩, -⟩ := h
  exact (isRr.cells hr).2.2.2.2.2.2.2.1
theorem RS.c8 (h : RS w g x last) : w.cell? ⟨g, 8, none⟩ = some (.int .u8 (x.lo.toNat : Int)) := by
  obtain ⟨⟨v, qs, hr, -⟩, -⟩ := h
  exact (isRr.cells hr).2.2.2.2.2.2.2.2.1
theorem RS.c9 (h : RS w g x last) : w.cell? ⟨g, 9, none⟩ = some (.int .i64 (x.li : Int)) := by
  obtain ⟨⟨v, qs, hr, -⟩, -⟩ := h
  exact (isRr.cells hr).2.2.2.2.2.2.2.2.2.1
theorem RS.c10 (h : RS w g x last) : w.cell? ⟨g, 10, none⟩ = some (.int .u8 (x.re.toNat : Int)) := by
  obtain ⟨⟨v, qs, hr, -⟩, -⟩ := h
  exact (isRr.cells hr).2.2.2.2.2.2.2.2.2.2.1
theorem RS.c11 (h : RS w g x last) : w.cell? ⟨g, 11, none⟩ = some (.bool x.st) := by
  obtain ⟨⟨v, qs, hr, -⟩, -⟩ := h
  exact (isRr.cells hr).2.2.2.2.2.2.2.2.2.2.2.1
theorem RS.c12 (h : RS w g x last) : w.cell? ⟨g, 12, none⟩ = some (.int .i64 (x.pl : Int)) := by
  obtain ⟨⟨v, qs, hr, -⟩, -⟩ := h
  exact (isRr.cells hr).2.2.2.2.2.2.2.2.2.2.2.2.1
theorem RS.c13 (h : RS w g x last) : w.cell? ⟨g, 13, none⟩ = some (.int .i64 (last : Int)) := by
  obtain ⟨⟨v, qs, hr, -⟩, -⟩ := h
  exact (isRr.cells hr).2.2.2.2.2.2.2.2.2.2.2.2.2
theorem RS.put (h : RS w g x last) {y : Rl} {l' k : Nat} {u : Value} (hy : ∀ v, isRs w g x v last → isRs (w.setCell ⟨g, k, none⟩ u) g y v l') (hp : y.ps = x.ps) (hc : y.C = x.C ∧ y.A = x.A ∧ y.B = x.B) : RS (w.setCell ⟨g, k, none⟩ u) g y l' := by
  obtain ⟨⟨v, qs, hr, hpk⟩, hs⟩ := h
  refine ⟨⟨v, qs, hy v hr, ?_⟩, by rw [hc.1, hc.2.1, hc.2.2]; exact hs⟩
  rw [hp]
  exact hpk.keep fun j hj _ => Below.heap_setCell _ _ _ _ (by simp only; omega)
theorem RS.put13 (h : RS w g x last) (K : Nat) : RS (w.setCell ⟨g, 13, none⟩ (.int .i64 (K : Int))) g x K := h.put (fun _ hr => isRr.set13 hr _) rfl ⟨rfl, rfl, rfl⟩
theorem RS.put7 (h : RS w g x last) (b : Bool) : RS (w.setCell ⟨g, 7, none⟩ (.bool b)) g { x with dr := b } last := h.put (fun _ hr => isRr.set7 hr _) rfl ⟨rfl, rfl, rfl⟩
theorem RS.put8 (h : RS w g x last) (c : UInt8) : RS (w.setCell ⟨g, 8, none⟩ (.int .u8 (c.toNat : Int))) g { x with lo := c } last := h.put (fun _ hr => isRr.set8 hr _) rfl ⟨rfl, rfl, rfl⟩
theorem RS.put9 (h : RS w g x last) (n : Nat) : RS (w.setCell ⟨g, 9, none⟩ (.int .i64 (n : Int))) g { x with li := n } last := h.put (fun _ hr => isRr.set9 hr _) rfl ⟨rfl, rfl, rfl⟩
theorem RS.put10 (h : RS w g x last) (c : UInt8) : RS (w.setCell ⟨g, 10, none⟩ (.int .u8 (c.toNat : Int))) g { x with re := c } last := h.put (fun _ hr => isRr.set10 hr _) rfl ⟨rfl, rfl, rfl⟩
theorem RS.put11 (h : RS w g x last) (b : Bool) : RS (w.setCell ⟨g, 11, none⟩ (.bool b)) g { x with st := b } last := h.put (fun _ hr => isRr.set11 hr _) rfl ⟨rfl, rfl, rfl⟩
theorem RS.put12 (h : RS w g x last) (n : Nat) : RS (w.setCell ⟨g, 12, none⟩ (.int .i64 (n : Int))) g { x with pl := n } last := h.put (fun _ hr => isRr.set12 hr _) rfl ⟨rfl, rfl, rfl⟩
theorem RS.start (h : RS w g x last) (y : Six) (hs : y.2.2.1.length ≤ 64 ∧ y.2.2.2.2.1.length ≤ 8 ∧ y.2.2.2.2.2.length ≤ 8) :
    RS ((((((w.setCell ⟨g, 0, none⟩ (.int .i64 (y.1 : Int))).setCell ⟨g, 1, none⟩ (.int .i64 (y.2.1 : Int))).setCell ⟨g, 2, none⟩ (.string ⟨y.2.2.1.toArray⟩)).setCell ⟨g, 3, none⟩ (.int .i64 y.2.2.2.1)).setCell ⟨g, 4, none⟩ (.string ⟨y.2.2.2.2.1.toArray⟩)).setCell ⟨g, 5, none⟩ (.string ⟨y.2.2.2.2.2.toArray⟩)) g
      { x with W := y.1, H := y.2.1, C := y.2.2.1, T := y.2.2.2.1, A := y.2.2.2.2.1, B := y.2.2.2.2.2 } last := by
  obtain ⟨⟨v, qs, hr, hpk⟩, -⟩ := h
  refine ⟨⟨v, qs, isRr.start hr _ _ _ _ _ _, ?_⟩, hs⟩
  refine hpk.keep fun j hj _ => ?_
  rw [Below.heap_setCell _ _ _ _ (by simp only; omega), Below.heap_setCell _ _ _ _ (by simp only; omega), Below.heap_setCell _ _ _ _ (by simp only; omega), Below.heap_setCell _ _ _ _ (by simp only; omega), Below.heap_setCell _ _ _ _ (by simp only; omega), Below.heap_setCell _ _ _ _ (by simp only; omega)]
end
theorem RS.trans {w w' : World} {g last last' : Nat} {x y : Rl} (h : RS w g x last) (hr : ∀ v, isRs w g x v last → isRs w' g y v last') (hk : ∀ k, g + 1 ≤ k → k < w.heap.size → w'.heap[k]? = w.heap[k]?) (hp : y.ps = x.ps) (hs : y.C.length ≤ 64 ∧ y.A.length ≤ 8 ∧ y.B.length ≤ 8) : RS w' g y last' := by
  obtain ⟨⟨v, qs, h1, hpk⟩, -⟩ := h
  refine ⟨⟨v, qs, hr v h1, ?_⟩, hs⟩
  rw [hp]
  exact hpk.keep hk
theorem reads_small {b : ByteArray} {y : Six} (h : readsAs b y) : y.2.2.1.length ≤ 64 ∧ y.2.2.2.2.1.length ≤ 8 ∧ y.2.2.2.2.2.length ≤ 8 := by
  obtain ⟨W, H, C, T, A, B⟩ := y
  unfold readsAs at h
  obtain ⟨h1, -⟩ := written_read _ _ _ _ _ _ _ h
  obtain ⟨W', H', -, -, q⟩ := isPos_of (W := W) (H := H) (C := ⟨C.toArray⟩) (T := T) (A := ⟨A.toArray⟩) (B := ⟨B.toArray⟩) h1
  have k1 := q.c64
  have k2 := q.as
  have k3 := q.bs
  rw [← len_data] at k1 k2 k3
  exact ⟨k1, k2, k3⟩
theorem set8_below {w2 w4 : World} {g : Nat} (hb24 : Below w2.heap.size w2 w4) (hw2 : g < w2.heap.size) (u0 u1 u2 u3 u4 u5 u6 u7 : Value) :
    Below g w2 ((((((((w4.setCell ⟨g, 0, none⟩ u0).setCell ⟨g, 1, none⟩ u1).setCell ⟨g, 2, none⟩ u2).setCell ⟨g, 3, none⟩ u3).setCell ⟨g, 4, none⟩ u4).setCell ⟨g, 5, none⟩ u5).setCell ⟨w2.heap.size, 0, none⟩ u6).setCell ⟨w2.heap.size, 1, none⟩ u7) :=
  ((((((((hb24.mono (Nat.le_of_lt hw2)).setCell (p := ⟨g, 0, none⟩) (Nat.le_refl _) _).setCell (p := ⟨g, 1, none⟩) (Nat.le_refl _) _).setCell (p := ⟨g, 2, none⟩) (Nat.le_refl _) _).setCell (p := ⟨g, 3, none⟩) (Nat.le_refl _) _).setCell (p := ⟨g, 4, none⟩) (Nat.le_refl _) _).setCell (p := ⟨g, 5, none⟩) (Nat.le_refl _) _).setCell (p := ⟨w2.heap.size, 0, none⟩) (by simp only; omega) _).setCell (p := ⟨w2.heap.size, 1, none⟩) (by simp only; omega) _
theorem started {w2 w4 : World} {g : Nat} {x : Rl} (h2 : RS w2 g x 1) (hb24 : Below w2.heap.size w2 w4) (hw2 : g < w2.heap.size) (y : Six) (hs : y.2.2.1.length ≤ 64 ∧ y.2.2.2.2.1.length ≤ 8 ∧ y.2.2.2.2.2.length ≤ 8) :
    RS ((((((((w4.setCell ⟨g, 0, none⟩ (.int .i64 (y.1 : Int))).setCell ⟨g, 1, none⟩ (.int .i64 (y.2.1 : Int))).setCell ⟨g, 2, none⟩ (.string ⟨y.2.2.1.toArray⟩)).setCell ⟨g, 3, none⟩ (.int .i64 y.2.2.2.1)).setCell ⟨g, 4, none⟩ (.string ⟨y.2.2.2.2.1.toArray⟩)).setCell ⟨g, 5, none⟩ (.string ⟨y.2.2.2.2.2.toArray⟩)).setCell ⟨w2.heap.size, 0, none⟩ (.int .i64 0)).setCell ⟨w2.heap.size, 1, none⟩ (.int .i64 0)) g
      { x with W := y.1, H := y.2.1, C := y.2.2.1, T := y.2.2.2.1, A := y.2.2.2.2.1, B := y.2.2.2.2.2 } 1 := by
  refine h2.trans (fun v hv => ?_) (fun k hk1 hk2 => ?_) rfl hs
  · exact isRr.below (isRr.start (isRr.below hv hb24 hw2) _ _ _ _ _ _) ((((Below.refl w2.heap.size _).setCell (p := ⟨w2.heap.size, 0, none⟩) (Nat.le_refl _) _)).setCell (p := ⟨w2.heap.size, 1, none⟩) (Nat.le_refl _) _) hw2
  · rw [Below.heap_setCell _ _ _ _ (by simp only; omega), Below.heap_setCell _ _ _ _ (by simp only; omega), Below.heap_setCell _ _ _ _ (by simp only; omega), Below.heap_setCell _ _ _ _ (by simp only; omega), Below.heap_setCell _ _ _ _ (by simp only; omega), Below.heap_setCell _ _ _ _ (by simp only; omega), Below.heap_setCell _ _ _ _ (by simp only; omega), Below.heap_setCell _ _ _ _ (by simp only; omega), hb24.block k hk2]
theorem lineOf_le (l : List UInt8) : lineOf l ≤ 8 := by
  unfold lineOf
  split; · omega
  split; · omega
  split; · omega
  split; · omega
  split; · omega
  split; · omega
  split; · omega
  split <;> omega

/-- What a line leaves. -/
structure LineEnd (g : Nat) (R : Option Rl) (K : Nat) (w : World) (e : Ending) (w' : World) : Prop where
  ex : ∃ ok : Bool, e = .returned (.bool ok) ∧ (∀ y, R = some y → ok = true ∧ RS w' g y K) ∧ (R = none → ok = false) ∧ Below g w w'

set_option maxHeartbeats 2000000 in
set_option maxRecDepth 100000 in
theorem line_any (g : Nat) (x : Rl) (last : Nat) (s : ByteArray) (m : Int) (w : World) (h : RS w g x last) (hs : s.size < 2000000) (hm : w.cell? ⟨0, 0, none⟩ = some (.int .i64 m)) (h0 : 0 < g) :
    Calls Tryz.prog 18 #[.pointer (some ⟨g, 0, none⟩), .string s] w fun e w' => LineEnd g (lineF last x s.data.toList) (lineOf (Lib.cut s.data.toList [32]).1) w e w' := by
  have hglt := h.lt
  have HM := hide hm
  obtain ⟨K, hK⟩ : ∃ K, K = lineOf (Lib.cut s.data.toList [32]).1 := ⟨_, rfl⟩
  obtain ⟨R, hR⟩ : ∃ R, R = lineF last x s.data.toList := ⟨_, rfl⟩
  rw [← hK, ← hR]
  have HR := hide hR
  have HK0 := hide hK
  clear hR hK
  go_enter Tryz.func18, Tryz.ntmps18
  go_wp2_with fail
  refine (Cut_any s ⟨#[32]⟩ m w hs hm).mono ?_
  rintro e w1 ⟨a, b, f, rfl, hc1, ha, hb, hl1, hz1⟩
  have hc1' : Lib.cut s.data.toList [32] = (a.data.toList, b.data.toList, f) := hc1
  have h1 : RS w1 g x last := h.below hl1
  have hbg : Below g w w1 := hl1.mono (by omega)
  have hLF : lineF last x s.data.toList = if mayB last (lineOf a.data.toList) = false then .none
      else if lineOf a.data.toList = 1 then
        match posF b.data.toList with
        | (some (W, H, C, T, A, B), n) => if n = b.data.toList.length then some { x with W := W, H := H, C := C, T := T, A := A, B := B } else .none
        | _ => .none
      else if lineOf a.data.toList = 2 then (pieceF b.data.toList).map fun p => { x with ps := x.ps ++ [p] }
      else if lineOf a.data.toList = 3 then if f then .none else some { x with dr := true }
      else if lineOf a.data.toList = 4 then (letterOf b.data.toList).map fun c => { x with lo := c }
      else if lineOf a.data.toList = 5 then (numOf b.data.toList).bind fun n => if 0 < n then some { x with li := n } else .none
      else if lineOf a.data.toList = 6 then (letterOf b.data.toList).map fun c => { x with re := c }
      else if lineOf a.data.toList = 7 then if f then .none else some { x with st := true }
      else if lineOf a.data.toList = 8 then (numOf b.data.toList).map fun n => { x with pl := n }
      else .none := by
    unfold lineF
    rw [hc1']
    rfl
  have hm1 : w1.cell? ⟨0, 0, none⟩ = some (.int .i64 m) := by rw [hl1.cell (p := ⟨0, 0, none⟩) (by simp only; omega)]; exact hm
  have hK : K = lineOf a.data.toList := by rw [unhide HK0, hc1']
  have hKle := lineOf_le a.data.toList
  rw [← hK, ← unhide HR] at hLF
  rw [← hK] at hKle
  have HLF := hide hLF
  have HK := hide hK
  have hglt1 : g < w1.heap.size := h1.lt
  clear hc1 hc1' h hl1 hz1 hm hLF HR HK0 hK
  go_wp2_with fail
  refine (lineKind_any a w1).mono ?_
  rintro e w1 ⟨rfl, rfl⟩
  rw [← unhide HK]
  have c13 := h1.c13
  have f13 := h1.frozen 13
  clear HK
  go_wp2_with fail
  refine (mayFollow_any last K w1).mono ?_
  rintro e w1 ⟨rfl, rfl⟩
  cases hmay : mayB last K with
  | false =>
    have e : R = none := by rw [unhide HLF, if_pos hmay]
    have HE := hide e
    clear hmay e
    go_wp2
    go_ret
    exact ⟨⟨false, rfl, (fun y hy => by rw [unhide HE] at hy; cases hy), fun _ => rfl, hbg⟩⟩
  | true =>
    have h2 := h1.put13 K
    have hbg2 := hbg.setCell (p := ⟨g, 13, none⟩) (Nat.le_refl _) (.int .i64 (K : Int))
    have hm2 : (w1.setCell ⟨g, 13, none⟩ (.int .i64 (K : Int))).cell? ⟨0, 0, none⟩ = some (.int .i64 m) := by rw [cell_put _ _ _ _ (by simp only; omega)]; exact hm1
    have hLF2 := unhide HLF
    rw [if_neg (by rw [hmay]; simp)] at hLF2
    have hK1 : 1 ≤ K := by
      rcases may_of _ _ hmay with hh | hh | hh | hh <;> omega
    clear hmay HLF
    rcases (show K = 1 ∨ K = 2 ∨ K = 3 ∨ K = 4 ∨ K = 5 ∨ K = 6 ∨ K = 7 ∨ K = 8 by omega) with rfl | rfl | rfl | rfl | rfl | rfl | rfl | rfl
    · rw [show ((1 : Nat) : Int) = 1 from rfl] at h2 hbg2 hm2 ⊢
      rw [if_pos rfl] at hLF2
      have HL := hide hLF2
      clear hLF2
      have hw2 := h2.lt
      have hsz2 : (w1.setCell ⟨g, 13, none⟩ (.int .i64 1)).heap.size = w1.heap.size := by simp [World.setCell]
      go_wp2_with fail
      clear c13 f13
      generalize w1.setCell ⟨g, 13, none⟩ (.int .i64 1) = w2 at *
      have hfx : isFx (w2.alloc (.cells #[.int .i64 0, .int .i64 0] 32 (0, 0))) w2.heap.size (.int .i64 0) (.int .i64 0) := heap_alloc_new w2 _
      have hba : Below w2.heap.size w2 (w2.alloc (.cells #[.int .i64 0, .int .i64 0] 32 (0, 0))) := (Below.refl _ w2).alloc (Nat.le_refl _) _
      refine (Read_any b _ (by unfold maxLen; omega)).mono ?_
      rintro e w4 ⟨hh, hb4⟩
      have hfx4 : isFx w4 w2.heap.size (.int .i64 0) (.int .i64 0) := by
        have := hfx.lt
        unfold isFx at hfx ⊢
        rw [hb4.block _ this]
        exact hfx
      have hb24 : Below w2.heap.size w2 w4 := hba.trans (hb4.mono hba.size)
      have h4 : RS w4 g x 1 := h2.below hb24
      obtain ⟨⟨v, qs, hrr, -⟩, -⟩ := h4
      have hcs := isRr.cells hrr
      obtain ⟨u0, c0⟩ : ∃ u, w4.cell? ⟨g, 0, none⟩ = some u := ⟨_, hcs.1⟩
      obtain ⟨u1, c1⟩ : ∃ u, w4.cell? ⟨g, 1, none⟩ = some u := ⟨_, hcs.2.1⟩
      obtain ⟨u2, c2⟩ : ∃ u, w4.cell? ⟨g, 2, none⟩ = some u := ⟨_, hcs.2.2.1⟩
      obtain ⟨u3, c3⟩ : ∃ u, w4.cell? ⟨g, 3, none⟩ = some u := ⟨_, hcs.2.2.2.1⟩
      obtain ⟨u4, c4⟩ : ∃ u, w4.cell? ⟨g, 4, none⟩ = some u := ⟨_, hcs.2.2.2.2.1⟩
      obtain ⟨u5, c5⟩ : ∃ u, w4.cell? ⟨g, 5, none⟩ = some u := ⟨_, hcs.2.2.2.2.2.1⟩
      have f0 := isRr.frozen hrr 0
      have f1 := isRr.frozen hrr 1
      have f2 := isRr.frozen hrr 2
      have f3 := isRr.frozen hrr 3
      have f4 := isRr.frozen hrr 4
      have f5 := isRr.frozen hrr 5
      obtain ⟨⟨e0, e1⟩, k0, k1⟩ := hfx4.all
      have hne : w2.heap.size ≠ g := by omega
      have hne' : g ≠ w2.heap.size := by omega
      have HSZ2 := hide hsz2
      rw [hsz2] at e0 e1 k0 k1 hne hne'
      have HW2 := hide hw2
      clear hsz2 hw2
      clear hcs hrr hfx hba hb4 hfx4
      rcases hh with ⟨y, hy, rfl⟩ | ⟨hno, rfl⟩
      · have HSM := hide (reads_small hy)
        have hL1 : R = some { x with W := y.1, H := y.2.1, C := y.2.2.1, T := y.2.2.2.1, A := y.2.2.2.2.1, B := y.2.2.2.2.2 } := by
          have h1 := unhide HL
          unfold readsAs at hy
          rw [hy] at h1
          rw [h1]
          simp
        have HL1 := hide hL1
        have H2 := hide h2
        have HB24 := hide hb24
        have HBG := hide hbg2
        clear hL1 HL hy h2 hb24 hbg2
        obtain ⟨W, H, C, T, A, B⟩ := y
        simp only [sixOf, sixV, faultV]
        obtain ⟨CB, hCB⟩ : ∃ CB : ByteArray, CB = ⟨C.toArray⟩ := ⟨_, rfl⟩
        obtain ⟨AB, hAB⟩ : ∃ AB : ByteArray, AB = ⟨A.toArray⟩ := ⟨_, rfl⟩
        obtain ⟨BB, hBB⟩ : ∃ BB : ByteArray, BB = ⟨B.toArray⟩ := ⟨_, rfl⟩
        rw [← hCB, ← hAB, ← hBB]
        have HCB := hide hCB
        have HAB := hide hAB
        have HBB := hide hBB
        clear hCB hAB hBB
        go_wp2
        go_ret
        have hst := started (unhide H2) (unhide HB24) (unhide HW2) (W, H, C, T, A, B) (unhide HSM)
        rw [unhide HCB, unhide HAB, unhide HBB, ← unhide HSZ2]
        refine ⟨⟨true, rfl, ?_, (fun hy => by rw [unhide HL1] at hy; cases hy), (unhide HBG).trans (set8_below (unhide HB24) (unhide HW2) _ _ _ _ _ _ _ _)⟩⟩
        intro y hy
        rw [unhide HL1] at hy
        simp only [Option.some.injEq] at hy
        subst hy
        exact ⟨rfl, hst⟩
      · have hL1 : R = none := by
          have h1 := unhide HL
          rw [h1]
          split
          · rename_i W H C T A B n hp
            rw [if_neg]
            intro hn
            exact hno (W, H, C, T, A, B) (by unfold readsAs; rw [hp, hn])
          · rfl
        have HL1 := hide hL1
        clear hL1 HL hno h2
        generalize (posF b.data.toList).2 = pn
        simp only [zeroPos, faultV]
        go_wp2
        go_ret
        rw [← unhide HSZ2]
        exact ⟨⟨false, rfl, (fun y hy => by rw [unhide HL1] at hy; cases hy), fun _ => rfl, hbg2.trans (set8_below hb24 (unhide HW2) _ _ _ _ _ _ _ _)⟩⟩
    · rw [show ((2 : Nat) : Int) = 2 from rfl] at h2 hbg2 hm2 ⊢
      rw [if_neg (by omega), if_pos rfl] at hLF2
      have HL := hide hLF2
      clear hLF2
      go_wp2_with fail
      clear c13 f13
      generalize w1.setCell ⟨g, 13, none⟩ (.int .i64 2) = w2 at *
      refine (piece_any g x 2 b m w2 h2 (by omega) hm2 h0).mono ?_
      rintro e w3 ⟨ok, rfl, hp1, hp2, hb3⟩
      have HP1 := hide hp1
      have HP2 := hide hp2
      clear hp1 hp2
      go_wp2
      go_ret
      refine ⟨⟨ok, rfl, ?_, ?_, hbg2.trans hb3⟩⟩
      · intro y hy
        rw [unhide HL] at hy
        cases hp : pieceF b.data.toList with
        | none => rw [hp] at hy; cases hy
        | some p =>
          rw [hp] at hy
          simp only [Option.map_some, Option.some.injEq] at hy
          subst hy
          exact unhide HP1 p hp
      · intro hy
        rw [unhide HL] at hy
        cases hp : pieceF b.data.toList with
        | none => exact unhide HP2 hp
        | some p => rw [hp] at hy; cases hy
    · rw [show ((3 : Nat) : Int) = 3 from rfl] at h2 hbg2 hm2 ⊢
      rw [if_neg (by omega), if_neg (by omega), if_pos rfl] at hLF2
      have HL := hide hLF2
      clear hLF2
      have h3 := h2.put7 true
      have hbg3 := hbg2.setCell (p := ⟨g, 7, none⟩) (Nat.le_refl _) (.bool true)
      have c7 := h2.c7
      have f7 := h2.frozen 7
      cases f with
      | true =>
        go_wp2
        go_ret
        exact ⟨⟨false, rfl, (fun y hy => by rw [unhide HL] at hy; cases hy), fun _ => rfl, hbg3⟩⟩
      | false =>
        go_wp2
        go_ret
        refine ⟨⟨true, rfl, ?_, (fun hy => by rw [unhide HL] at hy; cases hy), hbg3⟩⟩
        intro y hy
        rw [unhide HL] at hy
        simp only [Bool.false_eq_true, if_false, Option.some.injEq] at hy
        subst hy
        exact ⟨rfl, h3⟩
    · rw [show ((4 : Nat) : Int) = 4 from rfl] at h2 hbg2 hm2 ⊢
      rw [if_neg (by omega), if_neg (by omega), if_neg (by omega), if_pos rfl] at hLF2
      have HL := hide hLF2
      clear hLF2
      go_wp2_with fail
      clear c13 f13
      generalize w1.setCell ⟨g, 13, none⟩ (.int .i64 4) = w2 at *
      refine (readLetter_any b w2).mono ?_
      rintro e w2 ⟨rfl, rfl⟩
      have c8 := h2.c8
      have f8 := h2.frozen 8
      cases hl : letterOf b.data.toList with
      | none =>
        have h3 := h2.put8 0
        have hbg3 := hbg2.setCell (p := ⟨g, 8, none⟩) (Nat.le_refl _) (.int .u8 0)
        rw [hl] at HL
        simp only [Option.getD_none, Option.isSome_none]
        rw [show (((0 : UInt8).toNat : Nat) : Int) = 0 from rfl]
        go_wp2
        go_ret
        exact ⟨⟨false, rfl, (fun y hy => by rw [unhide HL] at hy; cases hy), fun _ => rfl, hbg3⟩⟩
      | some c =>
        have h3 := h2.put8 c
        have hbg3 := hbg2.setCell (p := ⟨g, 8, none⟩) (Nat.le_refl _) (.int .u8 (c.toNat : Int))
        rw [hl] at HL
        simp only [Option.getD_some, Option.isSome_some]
        go_wp2
        go_ret
        refine ⟨⟨true, rfl, ?_, (fun hy => by rw [unhide HL] at hy; cases hy), hbg3⟩⟩
        intro y hy
        rw [unhide HL] at hy
        simp only [Option.map_some, Option.some.injEq] at hy
        subst hy
        exact ⟨rfl, h3⟩
    · rw [show ((5 : Nat) : Int) = 5 from rfl] at h2 hbg2 hm2 ⊢
      rw [if_neg (by omega), if_neg (by omega), if_neg (by omega), if_neg (by omega), if_pos rfl] at hLF2
      have HL := hide hLF2
      clear hLF2
      go_wp2_with fail
      clear c13 f13
      generalize w1.setCell ⟨g, 13, none⟩ (.int .i64 5) = w2 at *
      refine (readNumber_any b w2).mono ?_
      rintro e w2 ⟨rfl, rfl⟩
      have c9 := h2.c9
      have f9 := h2.frozen 9
      cases hl : numOf b.data.toList with
      | none =>
        have hbg3 := hbg2.setCell (p := ⟨g, 9, none⟩) (Nat.le_refl _) (.int .i64 0)
        rw [hl] at HL
        simp only [Option.getD_none, Option.isSome_none]
        rw [show ((0 : Nat) : Int) = 0 from rfl]
        go_wp2
        go_ret
        exact ⟨⟨false, rfl, (fun y hy => by rw [unhide HL] at hy; cases hy), fun _ => rfl, hbg3⟩⟩
      | some c =>
        have h3 := h2.put9 c
        have hbg3 := hbg2.setCell (p := ⟨g, 9, none⟩) (Nat.le_refl _) (.int .i64 (c : Int))
        rw [hl] at HL
        simp only [Option.getD_some, Option.isSome_some]
        have k9 := h3.c9
        by_cases hc0 : 0 < c
        · have hci : (0 : Int) < (c : Int) := by omega
          go_wp2
          go_ret
          refine ⟨⟨true, rfl, ?_, (fun hy => by rw [unhide HL] at hy; simp [hc0] at hy), hbg3⟩⟩
          intro y hy
          rw [unhide HL] at hy
          simp only [Option.bind_some, hc0, if_true, Option.some.injEq] at hy
          subst hy
          exact ⟨rfl, h3⟩
        · have hci : ¬ (0 : Int) < (c : Int) := by omega
          go_wp2
          go_ret
          exact ⟨⟨false, rfl, (fun y hy => by rw [unhide HL] at hy; simp [hc0] at hy), fun _ => rfl, hbg3⟩⟩
    · rw [show ((6 : Nat) : Int) = 6 from rfl] at h2 hbg2 hm2 ⊢
      rw [if_neg (by omega), if_neg (by omega), if_neg (by omega), if_neg (by omega), if_neg (by omega), if_pos rfl] at hLF2
      have HL := hide hLF2
      clear hLF2
      go_wp2_with fail
      clear c13 f13
      generalize w1.setCell ⟨g, 13, none⟩ (.int .i64 6) = w2 at *
      refine (readLetter_any b w2).mono ?_
      rintro e w2 ⟨rfl, rfl⟩
      have c10 := h2.c10
      have f10 := h2.frozen 10
      cases hl : letterOf b.data.toList with
      | none =>
        have h3 := h2.put10 0
        have hbg3 := hbg2.setCell (p := ⟨g, 10, none⟩) (Nat.le_refl _) (.int .u8 0)
        rw [hl] at HL
        simp only [Option.getD_none, Option.isSome_none]
        rw [show (((0 : UInt8).toNat : Nat) : Int) = 0 from rfl]
        go_wp2
        go_ret
        exact ⟨⟨false, rfl, (fun y hy => by rw [unhide HL] at hy; cases hy), fun _ => rfl, hbg3⟩⟩
      | some c =>
        have h3 := h2.put10 c
        have hbg3 := hbg2.setCell (p := ⟨g, 10, none⟩) (Nat.le_refl _) (.int .u8 (c.toNat : Int))
        rw [hl] at HL
        simp only [Option.getD_some, Option.isSome_some]
        go_wp2
        go_ret
        refine ⟨⟨true, rfl, ?_, (fun hy => by rw [unhide HL] at hy; cases hy), hbg3⟩⟩
        intro y hy
        rw [unhide HL] at hy
        simp only [Option.map_some, Option.some.injEq] at hy
        subst hy
        exact ⟨rfl, h3⟩
    · rw [show ((7 : Nat) : Int) = 7 from rfl] at h2 hbg2 hm2 ⊢
      rw [if_neg (by omega), if_neg (by omega), if_neg (by omega), if_neg (by omega), if_neg (by omega), if_neg (by omega), if_pos rfl] at hLF2
      have HL := hide hLF2
      clear hLF2
      have h3 := h2.put11 true
      have hbg3 := hbg2.setCell (p := ⟨g, 11, none⟩) (Nat.le_refl _) (.bool true)
      have c11 := h2.c11
      have f11 := h2.frozen 11
      cases f with
      | true =>
        go_wp2
        go_ret
        exact ⟨⟨false, rfl, (fun y hy => by rw [unhide HL] at hy; cases hy), fun _ => rfl, hbg3⟩⟩
      | false =>
        go_wp2
        go_ret
        refine ⟨⟨true, rfl, ?_, (fun hy => by rw [unhide HL] at hy; cases hy), hbg3⟩⟩
        intro y hy
        rw [unhide HL] at hy
        simp only [Bool.false_eq_true, if_false, Option.some.injEq] at hy
        subst hy
        exact ⟨rfl, h3⟩
    · rw [show ((8 : Nat) : Int) = 8 from rfl] at h2 hbg2 hm2 ⊢
      rw [if_neg (by omega), if_neg (by omega), if_neg (by omega), if_neg (by omega), if_neg (by omega), if_neg (by omega), if_neg (by omega), if_pos rfl] at hLF2
      have HL := hide hLF2
      clear hLF2
      go_wp2_with fail
      clear c13 f13
      generalize w1.setCell ⟨g, 13, none⟩ (.int .i64 8) = w2 at *
      refine (readNumber_any b w2).mono ?_
      rintro e w2 ⟨rfl, rfl⟩
      have c12 := h2.c12
      have f12 := h2.frozen 12
      cases hl : numOf b.data.toList with
      | none =>
        have hbg3 := hbg2.setCell (p := ⟨g, 12, none⟩) (Nat.le_refl _) (.int .i64 0)
        rw [hl] at HL
        simp only [Option.getD_none, Option.isSome_none]
        rw [show ((0 : Nat) : Int) = 0 from rfl]
        go_wp2
        go_ret
        exact ⟨⟨false, rfl, (fun y hy => by rw [unhide HL] at hy; cases hy), fun _ => rfl, hbg3⟩⟩
      | some c =>
        have h3 := h2.put12 c
        have hbg3 := hbg2.setCell (p := ⟨g, 12, none⟩) (Nat.le_refl _) (.int .i64 (c : Int))
        rw [hl] at HL
        simp only [Option.getD_some, Option.isSome_some]
        go_wp2
        go_ret
        refine ⟨⟨true, rfl, ?_, (fun hy => by rw [unhide HL] at hy; cases hy), hbg3⟩⟩
        intro y hy
        rw [unhide HL] at hy
        simp only [Option.map_some, Option.some.injEq] at hy
        subst hy
        exact ⟨rfl, h3⟩
end Go.Proofs.YtfhmpgjemobjhaaGreatDoor
