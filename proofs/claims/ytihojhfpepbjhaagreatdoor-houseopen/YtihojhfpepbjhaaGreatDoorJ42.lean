/-
  gamekeep.HouseOpen, at all rules.
  Messages that came in, opened; the table of the powers of ten.
-/
import Derived.Test.YtihojhfpepbjhaaGreatDoorHoZ
import Derived.Test.YtihojhfpepbjhaaGreatDoorJ41
import Derived.Test.YtihojhfpepbjhaaGreatDoorHoI
import Derived.Test.YtihojhfpepbjhaaGreatDoorJ22
import Derived.Lib.LaidTab
import Derived.LaidMore
import Derived.Lay
import Derived.Handed
namespace Go.Proofs.YtihojhfpepbjhaaGreatDoor
open Go.RowKit
attribute [local go_sem ↓] Go.wp_at_zero Go.wp_at_succ

set_option maxHeartbeats 4000000 in
set_option maxRecDepth 100000 in
theorem hopen_no (v0 v1 v2 v3 v4 v5 v6 v7 v8 v9 v10 v11 v12 : Value) (time : Int) (mv iv : Value) (w : World)
    (hHo : ∀ u, Below w.heap.size w u → Calls Tryz.prog 15 #[] u fun e u' => e = .returned (.bool true) ∧ Below u.heap.size u u')
    (hNew : ∀ u, Below w.heap.size w u → Calls Tryz.prog 8 #[.agg #[v0, v1, v2, v3, v4, v5, v6, v7, v8, v9, v10, v11, v12], .int .i64 time] u fun e w' => e = .returned (.tuple #[.pointer none, .int .i64 1]) ∧ Below u.heap.size u w') :
    Calls Tryz.prog 6 #[.agg #[v0, v1, v2, v3, v4, v5, v6, v7, v8, v9, v10, v11, v12], .int .i64 time, mv, iv] w fun e w' => e = .returned (.bool true) ∧ Below w.heap.size w w' := by
  obtain ⟨w1, hw1⟩ : ∃ w1, w1 = w.alloc (.cells #[v0, v1, v2, v3, v4, v5, v6, v7, v8, v9, v10, v11, v12] 27 (0, 0)) := ⟨_, rfl⟩
  have hb1 : Below w.heap.size w w1 := by rw [hw1]; exact (Below.refl _ _).alloc (Nat.le_refl _) _
  have hr1 : isRu w1 w.heap.size v0 v1 v2 v3 v4 v5 v6 v7 v8 v9 v10 v11 v12 := by rw [hw1]; exact heap_alloc_new w _
  have HNW := hide hNew
  have HHO := hide (hHo w1 hb1)
  have HB1 := hide hb1
  have HR1 := hide hr1
  have HW1 := hide hw1
  clear hNew hHo hb1 hr1 hw1
  go_enter Tryz.func6, Tryz.ntmps6
  go_upto_region 1 with fail
  rw [← unhide HW1]
  clear HW1
  go_wp2_with fail
  refine (unhide HHO).mono ?_
  rintro e w2 ⟨rfl, hb2⟩
  have hr2 := isRu.below (unhide HR1) hb2 (isRu.lt (unhide HR1))
  have HB02 := hide ((unhide HB1).trans (hb2.mono (unhide HB1).size))
  have HR2 := hide hr2
  clear HR1 HB1 HHO hb2 hr2
  obtain ⟨r0, r1, r2, r3, r4, r5, r6, r7, r8, r9, r10, r11, r12⟩ := (unhide HR2).cells
  go_wp2_with fail
  refine (unhide HNW w2 (unhide HB02)).mono ?_
  rintro e w3 ⟨rfl, hb3⟩
  have HB03 := hide ((unhide HB02).trans (hb3.mono (unhide HB02).size))
  clear HR2 HB02 hb3 r0 r1 r2 r3 r4 r5 r6 r7 r8 r9 r10 r11 r12 HNW
  go_wp2
  go_ret
  exact ⟨rfl, unhide HB03⟩
theorem up_cellX : ∀ c : Nat, c < 256 → cellB (c : Int) = true → c ≠ 46 → 65 ≤ upN c := by decide +kernel
theorem cellT_noX {W i : Nat} (hi : i < 64) : (10 : UInt8) ∉ cellT W i := by
  have h1 : i % W < 64 := Nat.lt_of_le_of_lt (Nat.mod_le _ _) hi
  have h2 : i / W < 64 := Nat.lt_of_le_of_lt (Nat.div_le_self _ _) hi
  unfold cellT
  generalize i % W = a at h1
  generalize i / W = b at h2
  intro h
  simp only [List.mem_cons, List.not_mem_nil, or_false] at h
  rcases h with h | h
  · have := congrArg UInt8.toNat h
    rw [UInt8.toNat_ofNat'] at this
    have e : (10 : UInt8).toNat = 10 := rfl
    omega
  · have := congrArg UInt8.toNat h
    rw [UInt8.toNat_ofNat'] at this
    have e : (10 : UInt8).toNat = 10 := rfl
    omega
theorem gm_nlX {W0 H0 T0 : Int} {C0 A0 B0 : List UInt8} {ps : List Pc} {lo re : Nat} {li pl : Int} (dr st : Bool) : ∀ p, OkP W0 H0 T0 C0 A0 B0 ps lo re li pl p → ∀ m ∈ (gmP ps dr st lo li re pl).L p, (10 : UInt8) ∉ (gmP ps dr st lo li re pl).tx p m := by
  intro p hp m hm
  obtain ⟨W', H', T', hf⟩ := at_facts hp
  have hpos := at_isPos hp hf
  have hm : m ∈ movP ps dr lo li re p := hm
  rw [hf.movs] at hm
  have hI := mov_is hm
  obtain ⟨f1, f2, f3⟩ := hI.facts
  have h64 : p.C.size ≤ 64 := by rw [hf.c]; exact Nat.mul_le_mul hf.w1.2 hf.h1.2
  have hc : 65 ≤ m.c := by
    cases hI with
    | drop h1 h2 h3 h4 h5 =>
      obtain ⟨c, hc1, hc2⟩ := h5
      have hcap : ∀ a ∈ (handOf T' p.A p.B).data.toList, capB a.toNat = true := by
        unfold handOf
        split
        · exact (hand_ord hpos.a).2
        · exact (hand_ord hpos.b).2
      have := hcap c hc1
      unfold capB at this
      simp only [Bool.and_eq_true, decide_eq_true_eq] at this
      omega
    | go fr h1 h2 h3 h4 h5 h6 =>
      have hcs := hpos.cs
      have hcell : cellB (cellN p.C fr : Int) = true ∧ cellN p.C fr < 256 := by
        have hlt : fr < p.C.data.toList.length := by rw [Array.length_toList]; exact h2
        have hg : p.C.get! fr = p.C.data.toList[fr] := by
          show p.C.data[fr]! = _
          rw [getElem!_pos p.C.data fr (by simpa using hlt)]
          rfl
        have hall := List.all_eq_true.1 (show (p.C.data.toList.all fun c => cellB c.toNat) = true from hcs) _ (List.getElem_mem hlt)
        unfold cellN
        rw [hg]
        exact ⟨hall, UInt8.toNat_lt _⟩
      unfold ownB at h4
      simp only [Bool.and_eq_true, Bool.not_eq_true', decide_eq_false_iff_not] at h4
      rw [h5]
      exact up_cellX _ hcell.2 hcell.1 h4.1
  have hcu : m.c.toUInt8.toNat = m.c := u8_back f3
  have hcx : (10 : UInt8) ≠ m.c.toUInt8 := fun e => by
    have := congrArg UInt8.toNat e
    rw [hcu] at this
    have e : (10 : UInt8).toNat = 10 := rfl
    omega
  show (10 : UInt8) ∉ txM p.W.toNat p.C m
  unfold txM txtL
  have ht := cellT_noX (W := p.W.toNat) (i := m.t) (by omega)
  split
  · simp only [List.cons_append, List.nil_append, List.mem_cons, not_or]
    exact ⟨hcx, by decide, ht⟩
  · have hfr := cellT_noX (W := p.W.toNat) (i := m.f.toNat) (by omega)
    simp only [List.cons_append, List.nil_append, List.mem_append, List.mem_cons, List.not_mem_nil, or_false, not_or]
    exact ⟨hcx, ⟨hfr, by split <;> decide⟩, ht⟩
theorem houseOpen_any (s : Po) (ao : Option Addr) (cap : Nat) (ps : List Pc) (dr st : Bool) (lo re : Nat) (li pl time : Int) (mo : Option Addr) (mc : Nat) (ml : List Ms) (cut : Int) (hcut : -9223372036854775808 ≤ cut ∧ cut < 9223372036854775808) (mx : Int) (w : World) (hm : w.cell? ⟨0, 0, none⟩ = some (.int .i64 mx)) (ht : isTab w) (hE : isEr w) (hC0 : s.C.size ≤ maxLen) (hA0 : s.A.size ≤ maxLen) (hB0 : s.B.size ≤ maxLen) (hlo : lo < 256) (hre : re < 256) (h : isPcs w ao cap ps) (hml : isMl w mo mc ml) (hmb : ∀ m ∈ ml, m.at_ < 9223372036854775808) :
    Calls Tryz.prog 6 #[.agg #[.int .i64 s.W, .int .i64 s.H, .string s.C, .int .i64 s.T, .string s.A, .string s.B, .slice ao ps.length cap, .bool dr, .int .u8 (lo : Int), .int .i64 li, .int .u8 (re : Int), .bool st, .int .i64 pl], .int .i64 time, .slice mo ml.length mc, .int .i64 cut] w fun e w' => e = .returned (.bool true) ∧ Below w.heap.size w w' := by
  have hps : ∀ u, Below w.heap.size w u → isPcs u ao cap ps := fun u hu => h.below hu (Nat.le_refl _)
  have hmx : ∀ u, Below w.heap.size w u → u.cell? ⟨0, 0, none⟩ = some (.int .i64 mx) := fun u hu => (hu.cell (p := ⟨0, 0, none⟩) (World.block_lt_of_cell? w ⟨0, 0, none⟩ hm)).trans hm
  have hHo : ∀ u, Below w.heap.size w u → Calls Tryz.prog 15 #[] u fun e u' => e = .returned (.bool true) ∧ Below u.heap.size u u' := fun u hu => housed_any mx u (hmx u hu) (tab_below ht hu (Nat.le_refl _))
  by_cases hgood : rulesB s.W s.H s.C.data.toList s.T s.A.data.toList s.B.data.toList ps lo li re pl = true ∧ 1 ≤ time ∧ time ≤ 1000000
  · obtain ⟨hR, ht1⟩ := hgood
    obtain ⟨hat, hpl⟩ := okP_self hR
    exact hopen_yes (gmP ps dr st lo li re pl) _ (gm_ok dr st hpl) (gm_nlX dr st) txtP s hat ao cap ps dr st lo re li time mo mc ml cut w ht1 hml hmb hcut mx hm hE hHo
      (fun u hu => new_P s ao cap ps dr st lo re li pl time u hC0 hA0 hB0 hlo hre (hps u hu) hR ht1)
      (fun b ao2 cp2 w00 hb h2 hl => hc_of (s := s) (dr := dr) (st := st) (li := li) (pl := pl) ao2 cp2 b w00 hb h2 ⟨hC0, hA0, hB0⟩ hlo hre mx (hmx w00 hl) (tab_below ht hl (Nat.le_refl _)))
  · have hbad : (rulesB s.W s.H s.C.data.toList s.T s.A.data.toList s.B.data.toList ps lo li re pl && (decide (1 ≤ time) && decide (time ≤ 1000000))) = false := by
      rw [Bool.eq_false_iff]
      intro hh
      simp only [Bool.and_eq_true, decide_eq_true_eq] at hh
      exact hgood hh
    exact hopen_no _ _ _ _ _ _ _ _ _ _ _ _ _ time _ _ w hHo (fun u hu => new_no s.W s.H s.T s.C s.A s.B ao cap ps dr st lo re li pl time u (hps u hu) hC0 hA0 hB0 hlo hre hbad)
end Go.Proofs.YtihojhfpepbjhaaGreatDoor

namespace Go.Proofs.YtihojhfpepbjhaaGreatDoor
open Go.ChangeShapes Go.WideShapes Go.ChangeAt Go.RowKit

theorem cells_msg : Tryz.prog.cellsOf 43 = 4 := by kernel_rfl
section
variable {H : Type} {enc : TypeId × Value → H} {w : World} {base : Nat} {spare : Nat → Bool} {held : Bool} {fuel : Nat} {cs : List Value} {x : DataW H × List MemPlace}
theorem open_msg (h : DataW.trod enc Tryz.prog w base spare held fuel 43 cs = some x) : ∃ m : Ms, cs = [.int .i64 m.seat, .int .i64 m.ply, .string m.mv, .int .i64 m.at_] ∧ m.at_ < 9223372036854775808 := by
  obtain ⟨xs, n, _, hx, hl, hlen, hfd⟩ := DataW.trod_struct Tryz.underlying43 h
  rw [cells_msg] at hl
  obtain ⟨c0, c1, c2, c3, rfl⟩ := list4 hl
  obtain ⟨y0, y1, y2, y3, rfl⟩ := list4 hlen
  have f0 := hfd 0 _ rfl
  have f1 := hfd 1 _ rfl
  have f2 := hfd 2 _ rfl
  have f3 := hfd 3 _ rfl
  simp [cells_int, cells_string] at f0 f1 f2 f3
  obtain ⟨a, e0, _, _⟩ := DataW.trod_int Tryz.underlying3 f0
  obtain ⟨b, e1, _, _⟩ := DataW.trod_int Tryz.underlying3 f1
  obtain ⟨s, e2, _, _⟩ := DataW.trod_string Tryz.underlying9 f2
  obtain ⟨c, e3, _, hc⟩ := DataW.trod_int Tryz.underlying3 f3
  simp at e0 e1 e2 e3
  subst e0 e1 e2 e3
  have := bounds_i64 hc
  exact ⟨⟨a, b, s, c⟩, rfl, by show c < _; omega⟩
theorem open_msgs {v : Value} (h : DataW.trod enc Tryz.prog w base spare held fuel 28 [v] = some x) : ∃ (ao : Option Addr) (cap : Nat) (l : List Ms), v = .slice ao l.length cap ∧ isMl w ao cap l ∧ ∀ m ∈ l, m.at_ < 9223372036854775808 := by
  rcases Go.Deep.open_slice Tryz.underlying28 h with ⟨e, -⟩ | ⟨a, len, cap, m, n, D, Pl, e, hb, hl, hm, hmm, -, hx⟩
  · simp only [List.cons.injEq, and_true] at e
    exact ⟨none, 0, [], e, ⟨Nat.le_refl _, by unfold maxLen; omega, fun h => absurd rfl h⟩, fun m hm => by cases hm⟩
  · simp only [List.cons.injEq, and_true] at e
    have hlm : len ≤ m := by rw [hmm]; split <;> omega
    have each : ∀ i, i < len → ∃ z : Ms, z.at_ < 9223372036854775808 ∧ w.cell? (a.add (i * 4)) = some (.int .i64 z.seat) ∧ w.cell? (a.add (i * 4 + 1)) = some (.int .i64 z.ply) ∧ w.cell? (a.add (i * 4 + 2)) = some (.string z.mv) ∧ w.cell? (a.add (i * 4 + 3)) = some (.int .i64 z.at_) := by
      intro i hi
      obtain ⟨cs', h1, h2⟩ := hx i (by omega)
      rw [cells_msg] at h1
      obtain ⟨_, hlen, hcell⟩ := World.cells?_some h1
      obtain ⟨z, rfl, hz⟩ := open_msg h2
      have e0 := hcell 0 (by omega)
      have e1 := hcell 1 (by omega)
      have e2 := hcell 2 (by omega)
      have e3 := hcell 3 (by omega)
      rw [Go.Deep.add_add] at e0 e1 e2 e3
      exact ⟨z, hz, by simpa using e0, by simpa using e1, by simpa using e2, by simpa using e3⟩
    have hinh : Inhabited Ms := ⟨⟨0, 0, ⟨#[]⟩, 0⟩⟩
    obtain ⟨q, hq⟩ := Go.Deep.choose_lt each
    refine ⟨some a, cap, (List.range len).map q, by simp [e], ⟨by simp; omega, hm, fun hne => ?_⟩, fun z hz => ?_⟩
    · have hp : 0 < len := by
        rcases Nat.eq_zero_or_pos len with h0 | h0
        · subst h0; exact absurd rfl hne
        · exact h0
      obtain ⟨b, off, spot⟩ := a
      have hspot : spot = none := by simpa [Addr.add] using World.cell?_spot (hq 0 hp).2.1
      subst hspot
      have hlt : b < w.heap.size := by
        have := World.block_lt_of_cell? w _ (hq 0 hp).2.1
        rw [add_plain] at this
        exact this
      refine ⟨b, off, rfl, hlt, fun i z hz => ?_⟩
      have hi : i < len := by
        have := (List.getElem?_eq_some_iff.1 hz).1
        simpa using this
      have hqz : q i = z := by simpa [hi] using hz
      have := (hq i hi).2
      rw [add_plain, add_plain, add_plain, add_plain, hqz] at this
      exact this
    · simp only [List.mem_map, List.mem_range] at hz
      obtain ⟨i, hi, rfl⟩ := hz
      exact (hq i hi).1
end
theorem laid_tailH {P : Program} {w : World} {x : String × DataW Unit} {l : List (String × DataW Unit)} (h : laidMet P (x :: l) w) : laidMet P l w := by
  obtain ⟨ps, ⟨g, t, cs, fuel, p, q, h1, h2, h3, h4, h5, rfl⟩, hnd, hc⟩ := h
  exact ⟨q, h5, (List.nodup_append.1 hnd).2.1, fun b off hm => hc b off (List.mem_append_right _ hm)⟩
theorem gTabH : Tryz.prog.globalNamed "internal/strconv.uint64pow10" = some 3 := by kernel_rfl
theorem gTabTypeH : (Tryz.prog.globals[3]?).map (·.type) = some 239 := by kernel_rfl
theorem cells_tabH : Tryz.prog.cellsOf 239 = 20 := by kernel_rfl
theorem cells_u64H : Tryz.prog.cellsOf 175 = 1 := by kernel_rfl
theorem tabH {W : World} {a b : String × DataW Unit} {l : List (String × DataW Unit)} (h : laidMet Tryz.prog (a :: b :: ("internal/strconv.uint64pow10", Rows.laid_internal_strconv_uint64pow10) :: l) W) : isTab W :=
  Lib.tabIs_of_head gTabH gTabTypeH Tryz.underlying239 Tryz.underlying175 cells_u64H cells_tabH (laid_tailH (laid_tailH h))
end Go.Proofs.YtihojhfpepbjhaaGreatDoor
