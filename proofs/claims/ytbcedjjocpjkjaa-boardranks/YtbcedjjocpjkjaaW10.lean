/-
  board.Least, walked: the least of a position's turns, and the turn that gave it.
-/
import Derived.Test.YtbcedjjocpjkjaaJ15
import Derived.Deep.CutRange
namespace Go.Proofs.Ytbcedjjocpjkjaa
open Go.RowKit
attribute [local go_sem ↓] Go.wp_at_zero Go.wp_at_succ

/-- A boxed position: a block of its six cells. -/
def isBox (w : World) (g : Nat) (v0 v1 v2 v3 v4 v5 : Value) : Prop := w.heap[g]? = some (.cells #[v0, v1, v2, v3, v4, v5] 24 (0, 0))
theorem isBox.cells {w : World} {g : Nat} {v0 v1 v2 v3 v4 v5 : Value} (h : isBox w g v0 v1 v2 v3 v4 v5) :
    w.cell? ⟨g, 0, none⟩ = some v0 ∧ w.cell? ⟨g, 1, none⟩ = some v1 ∧ w.cell? ⟨g, 2, none⟩ = some v2 ∧ w.cell? ⟨g, 3, none⟩ = some v3 ∧ w.cell? ⟨g, 4, none⟩ = some v4 ∧ w.cell? ⟨g, 5, none⟩ = some v5 := by
  refine ⟨?_, ?_, ?_, ?_, ?_, ?_⟩ <;> exact cell_of_row _ _ _ _ _ _ h
theorem isBox.frozen {w : World} {g : Nat} {v0 v1 v2 v3 v4 v5 : Value} (h : isBox w g v0 v1 v2 v3 v4 v5) (j : Nat) : w.frozen? ⟨g, j, none⟩ = false := frozen_of_row w g j _ _ h
theorem isBox.lt {w : World} {g : Nat} {v0 v1 v2 v3 v4 v5 : Value} (h : isBox w g v0 v1 v2 v3 v4 v5) : g < w.heap.size := by
  rcases Nat.lt_or_ge g w.heap.size with hlt | hge
  · exact hlt
  · unfold isBox at h; rw [Array.getElem?_eq_none hge] at h; cases h
theorem isBox.below {w w1 : World} {g : Nat} {v0 v1 v2 v3 v4 v5 : Value} (h : isBox w g v0 v1 v2 v3 v4 v5) {B : Nat} (hb : Below B w w1) (hB : g < B) : isBox w1 g v0 v1 v2 v3 v4 v5 := by
  unfold isBox; rw [hb.block g hB]; exact h
theorem isBox.set6 {w : World} {g : Nat} {v0 v1 v2 v3 v4 v5 : Value} (h : isBox w g v0 v1 v2 v3 v4 v5) (u0 u1 u2 u3 u4 u5 : Value) :
    isBox ((((((w.setCell ⟨g, 0, none⟩ u0).setCell ⟨g, 1, none⟩ u1).setCell ⟨g, 2, none⟩ u2).setCell ⟨g, 3, none⟩ u3).setCell ⟨g, 4, none⟩ u4).setCell ⟨g, 5, none⟩ u5) g u0 u1 u2 u3 u4 u5 := by
  have h0 := heap_setCell_same w g 0 _ _ u0 h
  have h1 := heap_setCell_same _ g 1 _ _ u1 h0
  have h2 := heap_setCell_same _ g 2 _ _ u2 h1
  have h3 := heap_setCell_same _ g 3 _ _ u3 h2
  have h4 := heap_setCell_same _ g 4 _ _ u4 h3
  have h5 := heap_setCell_same _ g 5 _ _ u5 h4
  simpa [isBox] using h5
theorem isBox_new (w : World) (v0 v1 v2 v3 v4 v5 : Value) : isBox (w.alloc (.cells #[v0, v1, v2, v3, v4, v5] 24)) w.heap.size v0 v1 v2 v3 v4 v5 := heap_alloc_new w _

/-- How turn j's position stands to turn b's: below 0: it is less. -/
def keyK (C : ByteArray) (W H j b : Nat) : Int := kcmp (twd W H j : Nat) (thd W H j : Nat) (tstr C W H j).data.toList (twd W H b : Nat) (thd W H b : Nat) (tstr C W H b).data.toList
def stepK (C : ByteArray) (W H b j : Nat) : Nat := if keyK C W H j b < 0 then j else b
def bestK (C : ByteArray) (W H k0 : Nat) (ns : List Nat) : Nat := ns.foldl (stepK C W H) k0

theorem tand : ∀ m : Nat, m < 256 → ∀ k : Nat, k < 8 → (bits .and .i64 (m : Int) (wrap64 (2 ^ k)) != 0) = m.testBit k := by decide +kernel
theorem tor : ∀ m : Nat, m < 256 → ∀ k : Nat, k < 8 → bits .or .i64 (m : Int) (wrap64 (2 ^ k)) = ((m ||| 2 ^ k : Nat) : Int) := by decide +kernel
theorem tone : ∀ k : Nat, k < 8 → wrap64 (2 ^ k) = ((2 ^ k : Nat) : Int) := by decide +kernel
theorem pow_lt : ∀ k : Nat, k < 8 → 2 ^ k < 256 := by decide +kernel
theorem or_lt (m k : Nat) (hm : m < 256) (hk : k < 8) : m ||| 2 ^ k < 256 := Nat.or_lt_two_pow (n := 8) hm (pow_lt k hk)

/-- What holds of the loop behind some of its rounds: 'b' is the best so far, 'm' bears the turns that have been tried. -/
structure LeastInv (C : ByteArray) (W H k0 : Nat) (done : List Nat) (b m : Nat) : Prop where
  b8 : b < 8
  m8 : m < 256
  best : b = bestK C W H k0 done
  tried : ∀ j, m.testBit j = true → ¬ keyK C W H j b < 0

theorem keyK_self (C : ByteArray) (W H j : Nat) : keyK C W H j j = 0 := by simp [keyK, kcmp, orI, cmpI, cb_self]
theorem keyK_trans {C : ByteArray} {W H a b c : Nat} (h : keyK C W H a b < 0) (h' : keyK C W H b c < 0) : keyK C W H a c < 0 := kcmp_trans h h'
theorem keyK_neg (C : ByteArray) (W H a b : Nat) : keyK C W H a b = - keyK C W H b a := kcmp_neg _ _ _ _ _ _

theorem LeastInv.start (C : ByteArray) (W H k0 : Nat) (h : k0 < 8) : LeastInv C W H k0 [] k0 (2 ^ k0) := by
  refine ⟨h, pow_lt k0 h, rfl, fun j hj => ?_⟩
  rw [Nat.testBit_two_pow] at hj
  have : k0 = j := by simpa using hj
  rw [this, keyK_self]; omega
theorem LeastInv.skip {C : ByteArray} {W H k0 : Nat} {done : List Nat} {b m : Nat} (i : LeastInv C W H k0 done b m) (k : Nat) (hk : m.testBit k = true) : LeastInv C W H k0 (done ++ [k]) b m := by
  refine ⟨i.b8, i.m8, ?_, i.tried⟩
  unfold bestK
  rw [List.foldl_append, List.foldl_cons, List.foldl_nil]
  show b = stepK C W H (bestK C W H k0 done) k
  rw [← i.best, stepK, if_neg (i.tried k hk)]
theorem LeastInv.more {C : ByteArray} {W H k0 : Nat} {done : List Nat} {b m : Nat} (i : LeastInv C W H k0 done b m) (k : Nat) (hk : k < 8) (h : keyK C W H k b < 0) : LeastInv C W H k0 (done ++ [k]) k (m ||| 2 ^ k) := by
  refine ⟨hk, or_lt m k i.m8 hk, ?_, fun j hj => ?_⟩
  · unfold bestK
    rw [List.foldl_append, List.foldl_cons, List.foldl_nil]
    show k = stepK C W H (bestK C W H k0 done) k
    rw [← i.best, stepK, if_pos h]
  · rw [Nat.testBit_or, Nat.testBit_two_pow] at hj
    by_cases e : k = j
    · rw [e, keyK_self]; omega
    · simp [e] at hj
      exact fun hh => i.tried j hj (keyK_trans hh h)
theorem LeastInv.less {C : ByteArray} {W H k0 : Nat} {done : List Nat} {b m : Nat} (i : LeastInv C W H k0 done b m) (k : Nat) (hk : k < 8) (h : ¬ keyK C W H k b < 0) : LeastInv C W H k0 (done ++ [k]) b (m ||| 2 ^ k) := by
  refine ⟨i.b8, or_lt m k i.m8 hk, ?_, fun j hj => ?_⟩
  · unfold bestK
    rw [List.foldl_append, List.foldl_cons, List.foldl_nil]
    show b = stepK C W H (bestK C W H k0 done) k
    rw [← i.best, stepK, if_neg h]
  · rw [Nat.testBit_or, Nat.testBit_two_pow] at hj
    by_cases e : k = j
    · rw [← e]; exact h
    · simp [e] at hj
      exact i.tried j hj

theorem lt_alloc (w : World) (o : Obj) : w.heap.size < (w.alloc o).heap.size := by simp
theorem undrew {B : Nat} {w w' : World} (h : Below B w.drew w') : Below B w w' := ⟨h.os, h.tape, h.output, h.size, h.block⟩
theorem areTurns_nat (g off cap : Nat) (ns : List Nat) (w : World) (hn : ns.length ≤ maxLen) (h0 : 0 < ns.length) (hall : ∀ n ∈ ns, n < 8) (hc : ∀ j (h : j < ns.length), w.cell? ⟨g, off + j, none⟩ = some (.int .i64 (ns[j] : Int))) :
    Calls Try.prog 38 #[.slice (some ⟨g, off, none⟩) ns.length cap] w fun e w' => e = .returned (.bool true) ∧ w = w' := by
  have h := areTurns_any g off cap (ns.map fun n : Nat => (n : Int)) w (by simpa using hn) (by simpa using h0) (fun j hj => by simpa using hc j (by simpa using hj))
  have ht : (ns.map fun n : Nat => (n : Int)).all turnB = true := by
    rw [List.all_map, List.all_eq_true]
    intro n hn'
    have := hall n hn'
    simp [turnB]; omega
  rw [ht, List.length_map] at h
  exact h.mono fun e w' ⟨a, b⟩ => ⟨a, b.symm⟩

set_option maxHeartbeats 2000000 in
set_option maxRecDepth 100000 in
theorem Least_ok {W H : Nat} {T : Int} {C A B : ByteArray} (g off cap : Nat) (ns : List Nat) (w : World) (p : IsPos W H C T A B) (hn : ns.length ≤ maxLen) (h0 : 0 < ns.length) (hall : ∀ n ∈ ns, n < 8) (hg : g < w.heap.size)
    (hc : ∀ j (h : j < ns.length), w.cell? ⟨g, off + j, none⟩ = some (.int .i64 (ns[j] : Int))) :
    Calls Try.prog 16 #[.agg #[.int .i64 W, .int .i64 H, .string C, .int .i64 T, .string A, .string B], .slice (some ⟨g, off, none⟩) ns.length cap] w fun e w' =>
      e = .returned (.tuple #[.agg #[.int .i64 (twd W H (bestK C W H ns[0] ns) : Nat), .int .i64 (thd W H (bestK C W H ns[0] ns) : Nat), .string (tstr C W H (bestK C W H ns[0] ns)), .int .i64 T, .string A, .string B], .int .i64 (bestK C W H ns[0] ns : Nat), .int .i64 0]) ∧ Below w.heap.size w w' := by
  have mC : C.size ≤ maxLen := by have := p.c64; unfold maxLen; omega
  have mA : A.size ≤ maxLen := by have := p.as; unfold maxLen; omega
  have mB : B.size ≤ maxLen := by have := p.bs; unfold maxLen; omega
  have hn' : ns.length ≤ 9223372036854775807 := by unfold maxLen at hn; exact hn
  have HP := hide p.posB
  have HA := hide hall
  obtain ⟨k0, hk0⟩ : ∃ k0 : Nat, k0 = ns[0] := ⟨_, rfl⟩
  have hk8 : k0 < 8 := by rw [hk0]; exact hall _ (List.getElem_mem _)
  have HK0 := hide hk0
  have HC := hide hc
  clear hk0 hc hall
  go_enter Try.func16, Try.ntmps16
  go_wp2_with fail
  refine (Check_ok _ _ _ _ _ _ _ mC mA mB (unhide HP)).mono ?_
  rintro e w1 ⟨rfl, hb1⟩
  have hz : w.heap.size + 1 < w1.heap.size := by have := hb1.size; simp at this; omega
  have bx : isBox w1 w.heap.size (.int .i64 W) (.int .i64 H) (.string C) (.int .i64 T) (.string A) (.string B) := (show isBox _ _ _ _ _ _ _ _ by rw [isBox, Below.heap_alloc _ _ _ (by simp)]; exact heap_alloc_new w _).below hb1 (by simp; omega)
  have br : isBox w1 (w.heap.size + 1) (.int .i64 0) (.int .i64 0) (.string ⟨#[]⟩) (.int .i64 0) (.string ⟨#[]⟩) (.string ⟨#[]⟩) := (show isBox _ _ _ _ _ _ _ _ by have := heap_alloc_new (w.alloc (.cells #[.int .i64 W, .int .i64 H, .string C, .int .i64 T, .string A, .string B] 24)) (.cells #[.int .i64 0, .int .i64 0, .string ⟨#[]⟩, .int .i64 0, .string ⟨#[]⟩, .string ⟨#[]⟩] 24); simpa [isBox] using this).below hb1 (by simp)
  have hbw : Below w.heap.size w w1 := Below.trans (((Below.refl _ _).alloc (Nat.le_refl _) _).alloc (by simp) _) (hb1.mono (by simp; omega))
  clear hb1
  have HC1 : Hid (∀ j (h : j < ns.length), w1.cell? ⟨g, off + j, none⟩ = some (.int .i64 (ns[j] : Int))) := fun j h => (hbw.cell hg).trans (unhide HC j h)
  have dk : w1.cell? ⟨g, off, none⟩ = some (.int .i64 (k0 : Int)) := by rw [unhide HK0]; exact unhide HC1 0 h0
  go_wp2_with fail
  refine (areTurns_nat g off cap ns _ hn h0 (unhide HA) (unhide HC1)).mono ?_
  rintro e _ ⟨rfl, rfl⟩
  obtain ⟨d0, d1, d2, d3, d4, d5⟩ := bx.cells
  have hlen : (0 : Int) < (ns.length : Int) := by omega
  go_wp2
  go_cut [7, 8] from 22 to 29 (fun s7 s8 wx => ∃ gb : Nat, s7 = .pointer (some ⟨gb, 0, none⟩) ∧ s8 = .int .i64 (k0 : Int) ∧ w.heap.size + 2 ≤ gb ∧ isBox wx gb (.int .i64 (twd W H k0 : Nat)) (.int .i64 (thd W H k0 : Nat)) (.string (tstr C W H k0)) (.int .i64 T) (.string A) (.string B) ∧ Below (w.heap.size + 2) w1 wx)
  case first =>
    have n0 : ¬ w1.heap.size = w.heap.size := by omega
    have n1 : ¬ w1.heap.size = g := by have := hbw.size; omega
    have n2 : g < w1.heap.size := by omega
    have n3 : w.heap.size < w1.heap.size := by omega
    go_region_held3 (fun w' => w'.cell? ⟨w.heap.size, 0, none⟩ = some (.int .i64 W) ∧ w'.cell? ⟨w.heap.size, 1, none⟩ = some (.int .i64 H) ∧ w'.cell? ⟨w.heap.size, 2, none⟩ = some (.string C) ∧ w'.cell? ⟨w.heap.size, 3, none⟩ = some (.int .i64 T) ∧ w'.cell? ⟨w.heap.size, 4, none⟩ = some (.string A) ∧ w'.cell? ⟨w.heap.size, 5, none⟩ = some (.string B) ∧ w'.cell? ⟨g, off, none⟩ = some (.int .i64 (k0 : Int)))
      (go_keep)
      (first
        | (go_at_call 36; refine (turned_any _ hk8 p).mono ?_; rintro e w2 ⟨rfl, hb2⟩; have hb3 : Below w1.heap.size w1 w2 := (by first | exact undrew hb2 | exact Below.trans (((Below.refl _ _).alloc (Nat.le_refl _) _).drew) (hb2.mono (Nat.le_of_lt (lt_alloc w1 _)))); have c0 := (hb3.cell (p := ⟨w.heap.size, 0, none⟩) n3).trans d0; have c1 := (hb3.cell (p := ⟨w.heap.size, 1, none⟩) n3).trans d1; have c2 := (hb3.cell (p := ⟨w.heap.size, 2, none⟩) n3).trans d2; have c3 := (hb3.cell (p := ⟨w.heap.size, 3, none⟩) n3).trans d3; have c4 := (hb3.cell (p := ⟨w.heap.size, 4, none⟩) n3).trans d4; have c5 := (hb3.cell (p := ⟨w.heap.size, 5, none⟩) n3).trans d5; have ck := (hb3.cell (p := ⟨g, off, none⟩) n2).trans dk; have m0 : ¬ w2.heap.size = w.heap.size := (by have := hb3.size; omega); have m1 : ¬ w2.heap.size = g := (by have := hb3.size; omega); (try have q0 := hb2.cell (p := ⟨w1.heap.size, 0, none⟩) (lt_alloc w1 _)); (try have z0 := hb2.frozen (p := ⟨w1.heap.size, 0, none⟩) (lt_alloc w1 _)); (try have q1 := hb2.cell (p := ⟨w1.heap.size, 1, none⟩) (lt_alloc w1 _)); (try have z1 := hb2.frozen (p := ⟨w1.heap.size, 1, none⟩) (lt_alloc w1 _)); (try have q2 := hb2.cell (p := ⟨w1.heap.size, 2, none⟩) (lt_alloc w1 _)); (try have z2 := hb2.frozen (p := ⟨w1.heap.size, 2, none⟩) (lt_alloc w1 _)); (try have q3 := hb2.cell (p := ⟨w1.heap.size, 3, none⟩) (lt_alloc w1 _)); (try have z3 := hb2.frozen (p := ⟨w1.heap.size, 3, none⟩) (lt_alloc w1 _)); (try have q4 := hb2.cell (p := ⟨w1.heap.size, 4, none⟩) (lt_alloc w1 _)); (try have z4 := hb2.frozen (p := ⟨w1.heap.size, 4, none⟩) (lt_alloc w1 _)); (try have q5 := hb2.cell (p := ⟨w1.heap.size, 5, none⟩) (lt_alloc w1 _)); (try have z5 := hb2.frozen (p := ⟨w1.heap.size, 5, none⟩) (lt_alloc w1 _))))
    · go_wp2
      go_meet
      case rel => exact ⟨w2.heap.size, rfl, rfl, by have := hb3.size; omega, isBox_new w2 _ _ _ _ _ _, (hb3.mono (by omega)).alloc (by have := hb3.size; omega) _⟩
    · go_wp2
      go_meet
      case rel => exact ⟨w1.heap.size, rfl, rfl, by omega, ((show isBox (w1.alloc _).drew w1.heap.size (.int .i64 0) (.int .i64 0) (.string ⟨#[]⟩) (.int .i64 0) (.string ⟨#[]⟩) (.string ⟨#[]⟩) from isBox_new w1 _ _ _ _ _ _).below hb2 (lt_alloc w1 _)).set6 _ _ _ _ _ _, below_set6 (by omega) (hb3.mono (by omega))⟩
  case rest =>
    obtain ⟨gb, rfl, rfl, hgb, bxb, hbc⟩ := hcut
    clear d0 d1 d2 d3 d4 d5
    have bxc := bx.below hbc (by omega)
    have brc := br.below hbc (by omega)
    have hbwc := hbw.trans (hbc.mono (by omega))
    have HCc : Hid (∀ j (h : j < ns.length), wc.cell? ⟨g, off + j, none⟩ = some (.int .i64 (ns[j] : Int))) := fun j h => (hbwc.cell hg).trans (unhide HC j h)
    have dk : wc.cell? ⟨g, off, none⟩ = some (.int .i64 (k0 : Int)) := by rw [unhide HK0]; exact unhide HCc 0 h0
    clear bx br hbw HC1 hbc
    go_wp2
    go_loopw [8, 9, 36] (fun s8 s9 i wr => ∃ (i' b m : Nat), i' ≤ ns.length ∧ i = .int .i64 i' ∧ s8 = .int .i64 (b : Int) ∧ s9 = .int .i64 (m : Int) ∧ LeastInv C W H k0 (ns.take i') b m ∧ isBox wr gb (.int .i64 (twd W H b : Nat)) (.int .i64 (thd W H b : Nat)) (.string (tstr C W H b)) (.int .i64 T) (.string A) (.string B) ∧ Below (w.heap.size + 2) wc wr) (fun _ _ i _ => ns.length - (intOf i).toNat)
    case atStart => exact ⟨0, k0, 2 ^ k0, Nat.zero_le _, rfl, rfl, by rw [tone k0 hk8], LeastInv.start C W H k0 hk8, bxb, Below.refl _ _⟩
    case round =>
      obtain ⟨i, b, m, hi, rfl, rfl, rfl, inv, bxr, hbr⟩ := hrel
      clear bxb dk
      by_cases hlt : i < ns.length
      · obtain ⟨k, hk⟩ : ∃ k : Nat, k = ns[i] := ⟨_, rfl⟩
        have hk8' : k < 8 := by rw [hk]; exact unhide HA _ (List.getElem_mem _)
        have dk : wr.cell? ⟨g, off + i, none⟩ = some (.int .i64 (k : Int)) := by rw [hk]; exact (hbr.cell (show g < w.heap.size + 2 by omega)).trans (unhide HCc i hlt)
        have HK : Hid (ns.take (i + 1) = ns.take i ++ [k]) := by rw [Hid, List.take_succ_eq_append_getElem hlt, hk]
        clear hk
        cases htb : m.testBit k with
        | true =>
          have ht : (bits .and .i64 (m : Int) (wrap64 (2 ^ k)) != 0) = true := by rw [tand m inv.m8 k hk8', htb]
          have INV := hide (inv.skip k htb)
          clear htb inv
          go_wp2
          go_roundw
          case rel => exact ⟨i + 1, b, m, by omega, by go_num, rfl, rfl, by rw [unhide HK]; exact unhide INV, bxr, hbr⟩
          case measure => simp [intOf]; omega
        | false =>
          have ht : (bits .and .i64 (m : Int) (wrap64 (2 ^ k)) != 0) = false := by rw [tand m inv.m8 k hk8', htb]
          have HOR := hide (tor m inv.m8 k hk8')
          clear htb
          have bpr := bxc.below hbr (by omega)
          obtain ⟨d0, d1, d2, d3, d4, d5⟩ := bpr.cells
          have hsr := hbr.size
          have hgl := bxr.lt
          have hsc := bxc.lt
          go_wp2_with fail
          refine (turned_any _ hk8' p).mono ?_
          rintro e w2 ⟨rfl, hb2⟩
          have hs2 := hb2.size
          have bxw := bxr.below hb2 hgl
          have hgl2 : gb < w2.heap.size := by omega
          have bxa := fun o => bxw.below ((Below.refl w2.heap.size w2).alloc (Nat.le_refl _) o) hgl2
          have e0 := fun o => (bxa o).cells.1
          have e1 := fun o => (bxa o).cells.2.1
          have e2 := fun o => (bxa o).cells.2.2.1
          have e3 := fun o => (bxa o).cells.2.2.2.1
          have e4 := fun o => (bxa o).cells.2.2.2.2.1
          have e5 := fun o => (bxa o).cells.2.2.2.2.2
          clear d0 d1 d2 d3 d4 d5
          by_cases hkey : keyK C W H k b < 0
          · have hkey' : orI (cmpI (twd W H k : Nat) (twd W H b : Nat)) (cmpI (thd W H k : Nat) (thd W H b : Nat)) (Lib.compareBytes (tstr C W H k).data.toList (tstr C W H b).data.toList) < 0 := hkey
            have INV := hide (inv.more k hk8' hkey)
            clear hkey inv
            go_wp2_with fail
            refine (compare_any _ _ _ _ _ _ _ _ _ _ _ _ _).mono ?_
            rintro e w3 ⟨rfl, hb3⟩
            have bxn : isBox w3 w2.heap.size (.int .i64 (twd W H k : Nat)) (.int .i64 (thd W H k : Nat)) (.string (tstr C W H k)) (.int .i64 T) (.string A) (.string B) := (isBox_new w2 _ _ _ _ _ _).below hb3 (lt_alloc w2 _)
            have bxo := (bxa _).below hb3 (Nat.lt_trans hgl2 (lt_alloc w2 _))
            have hbn : Below (w.heap.size + 2) wc w3 := (hbr.trans (hb2.mono (by omega))).alloc (by omega) _ |>.trans (hb3.mono (by simp; omega))
            clear e0 e1 e2 e3 e4 e5 bxw bxa hb3 hb2
            obtain ⟨e0, e1, e2, e3, e4, e5⟩ := bxo.cells
            obtain ⟨q0, q1, q2, q3, q4, q5⟩ := bxn.cells
            have z0 := bxo.frozen 0
            have z1 := bxo.frozen 1
            have z2 := bxo.frozen 2
            have z3 := bxo.frozen 3
            have z4 := bxo.frozen 4
            have z5 := bxo.frozen 5
            go_wp2
            go_roundw
            case rel => exact ⟨i + 1, k, m ||| 2 ^ k, by omega, by go_num, rfl, by rw [unhide HOR], by rw [unhide HK]; exact unhide INV, bxo.set6 _ _ _ _ _ _, below_set6 hgb hbn⟩
            case measure => simp [intOf]; omega
          · have hkey' : ¬ orI (cmpI (twd W H k : Nat) (twd W H b : Nat)) (cmpI (thd W H k : Nat) (thd W H b : Nat)) (Lib.compareBytes (tstr C W H k).data.toList (tstr C W H b).data.toList) < 0 := hkey
            have INV := hide (inv.less k hk8' hkey)
            clear hkey inv
            go_wp2_with fail
            refine (compare_any _ _ _ _ _ _ _ _ _ _ _ _ _).mono ?_
            rintro e w3 ⟨rfl, hb3⟩
            have bxn : isBox w3 w2.heap.size (.int .i64 (twd W H k : Nat)) (.int .i64 (thd W H k : Nat)) (.string (tstr C W H k)) (.int .i64 T) (.string A) (.string B) := (isBox_new w2 _ _ _ _ _ _).below hb3 (lt_alloc w2 _)
            have bxo := (bxa _).below hb3 (Nat.lt_trans hgl2 (lt_alloc w2 _))
            have hbn : Below (w.heap.size + 2) wc w3 := (hbr.trans (hb2.mono (by omega))).alloc (by omega) _ |>.trans (hb3.mono (by simp; omega))
            clear e0 e1 e2 e3 e4 e5 bxw bxa hb3 hb2
            obtain ⟨e0, e1, e2, e3, e4, e5⟩ := bxo.cells
            obtain ⟨q0, q1, q2, q3, q4, q5⟩ := bxn.cells
            have z0 := bxo.frozen 0
            have z1 := bxo.frozen 1
            have z2 := bxo.frozen 2
            have z3 := bxo.frozen 3
            have z4 := bxo.frozen 4
            have z5 := bxo.frozen 5
            go_wp2
            go_roundw
            case rel => exact ⟨i + 1, b, m ||| 2 ^ k, by omega, by go_num, rfl, by rw [unhide HOR], by rw [unhide HK]; exact unhide INV, bxo, hbn⟩
            case measure => simp [intOf]; omega
      · have brr := brc.below hbr (by omega)
        obtain ⟨e0, e1, e2, e3, e4, e5⟩ := bxr.cells
        obtain ⟨q0, q1, q2, q3, q4, q5⟩ := brr.cells
        have z0 := brr.frozen 0
        have z1 := brr.frozen 1
        have z2 := brr.frozen 2
        have z3 := brr.frozen 3
        have z4 := brr.frozen 4
        have z5 := brr.frozen 5
        have HB : Hid (b = bestK C W H ns[0] ns) := by
          have h1 := inv.best
          rw [List.take_of_length_le (by omega), unhide HK0] at h1
          exact h1
        clear inv
        go_wp2
        rw [← unhide HB]
        refine bodyPost_ret (v := .tuple #[.agg #[.int .i64 (twd W H b : Nat), .int .i64 (thd W H b : Nat), .string (tstr C W H b), .int .i64 T, .string A, .string B], .int .i64 (b : Int), .int .i64 0]) (by simp [results, Try.results16, go_sem, q0, q1, q2, q3, q4, q5]) rfl ⟨rfl, ?_⟩
        exact below_set6 (by omega) (hbwc.trans (hbr.mono (by omega)))
end Go.Proofs.Ytbcedjjocpjkjaa
