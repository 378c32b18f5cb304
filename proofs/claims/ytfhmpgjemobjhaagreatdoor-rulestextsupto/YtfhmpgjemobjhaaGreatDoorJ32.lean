/-
  The document's answer on rules (package gameref): what its reading of a line leans on.
  The document's answer on rules (package gameref), walked: line, where the text is none.
-/
import Derived.Test.YtfhmpgjemobjhaaGreatDoorS4
import Derived.Test.YtfhmpgjemobjhaaGreatDoorJ19
import Derived.Test.YtfhmpgjemobjhaaGreatDoorR22
import Derived.Test.YtfhmpgjemobjhaaGreatDoorW64
import Derived.Deep.DeepCutAuto
namespace Go.Proofs.YtfhmpgjemobjhaaGreatDoor
open Go.RowKit
attribute [local go_sem ↓] Go.wp_at_zero Go.wp_at_succ

set_option maxHeartbeats 400000 in
theorem sliteHas_any (s p : ByteArray) (w : World) :
    Calls Tryz.prog 74 #[.string s, .string p] w fun e w' => e = .returned (.bool (p.data.toList.isPrefixOf s.data.toList)) ∧ w' = w := by
  by_cases h : p.size ≤ s.size
  · have hi : (p.size : Int) ≤ (s.size : Int) := by omega
    go_enter Tryz.func74, Tryz.ntmps74
    go_wp2
    go_ret
    refine ⟨ret_bool ?_, rfl⟩
    rw [Lib.toList_data, Lib.toList_data, Bool.eq_iff_iff, beq_iff_eq, List.isPrefixOf_iff_prefix, List.prefix_iff_eq_take, ByteArray.data_extract, Array.toList_extract, List.extract_eq_take_drop, len_data]
    simp only [List.drop_zero, Nat.sub_zero]
    exact ⟨fun h => h.symm, fun h => h.symm⟩
  · have hi : ¬ (p.size : Int) ≤ (s.size : Int) := by omega
    have hz : p.data.toList.isPrefixOf s.data.toList = false := by
      rw [Bool.eq_false_iff, ne_eq, List.isPrefixOf_iff_prefix]
      intro hp
      have := hp.length_le
      rw [len_data, len_data] at this
      exact h this
    rw [hz]
    go_enter Tryz.func74, Tryz.ntmps74
    go_wp2
    go_ret
    exact ⟨rfl, rfl⟩
set_option maxHeartbeats 400000 in
theorem hasPrefix_any (s p : ByteArray) (w : World) :
    Calls Tryz.prog 47 #[.string s, .string p] w fun e w' => e = .returned (.bool (p.data.toList.isPrefixOf s.data.toList)) ∧ w' = w := by
  obtain ⟨q, hq⟩ : ∃ q, q = p.data.toList.isPrefixOf s.data.toList := ⟨_, rfl⟩
  have H := hide (sliteHas_any s p w)
  rw [← hq] at H ⊢
  clear hq
  go_enter Tryz.func47, Tryz.ntmps47
  go_wp2_with fail
  refine (unhide H).mono ?_
  rintro e w' ⟨rfl, rfl⟩
  go_wp2
  go_ret
  exact ⟨rfl, rfl⟩
/-! ### Texts ahead of a separator -/
theorem index_app (c : UInt8) (r t : List UInt8) : ∀ a : List UInt8, c ∉ a → Lib.index (a ++ t) (c :: r) = if Lib.index t (c :: r) = -1 then -1 else Lib.index t (c :: r) + (a.length : Nat)
  | [], _ => by simp
  | x :: a, h => by
    have ih := index_app c r t a (fun hm => h (List.mem_cons_of_mem _ hm))
    have hx : x ≠ c := fun e => h (by rw [e]; simp)
    have hge := Lib.index_ge t (c :: r)
    rw [List.cons_append, Lib.index, if_neg (by simp [List.isPrefixOf, hx.symm]), ih, List.length_cons]
    by_cases h1 : Lib.index t (c :: r) = -1
    · simp [h1]
    · rw [if_neg h1, if_neg h1, if_neg (by rw [beq_iff_eq]; omega)]
      omega
/-- What stands ahead of the separator's first byte goes with the first part. -/
theorem cut_app (c : UInt8) (r a t : List UInt8) (h : c ∉ a) : Lib.cut (a ++ t) (c :: r) = (a ++ (Lib.cut t (c :: r)).1, (Lib.cut t (c :: r)).2.1, (Lib.cut t (c :: r)).2.2) := by
  have hge := Lib.index_ge t (c :: r)
  unfold Lib.cut
  rw [index_app c r t a h]
  by_cases h1 : Lib.index t (c :: r) = -1
  · simp [h1]
  · obtain ⟨i, hi⟩ := Int.eq_ofNat_of_zero_le (show 0 ≤ Lib.index t (c :: r) by omega)
    have e : ((i : Int) + (a.length : Nat)).toNat = a.length + i := by omega
    rw [if_neg h1, hi, if_pos (by omega), if_pos (by omega), e, Nat.add_assoc, List.take_length_add_append, List.drop_length_add_append]
    simp
theorem Split2_any (s sep : ByteArray) (m : Int) (w : World) (hs : s.size < 2000000) (h1 : 1 ≤ sep.size) (hm : w.cell? ⟨0, 0, none⟩ = some (.int .i64 m)) :
    Calls Tryz.prog 46 #[.string s, .string sep] w fun e w' => e = .returned (.slice (some ⟨w.heap.size, 0, none⟩) (Lib.split s.data.toList sep.data.toList).length (Lib.split s.data.toList sep.data.toList).length) ∧ Below w.heap.size w w' ∧ isRv w' w.heap.size (Lib.split s.data.toList sep.data.toList) := by
  have hlen := Lib.splitB_all sep h1 0 _ s rfl
  have hdat := Lib.splitB_data sep 0 (Lib.countB s sep) s
  have hsp : (Lib.splitB sep 0 (Lib.countB s sep) s).map (·.data.toList) = Lib.split s.data.toList sep.data.toList := by
    rw [hdat]; rfl
  have hn : Lib.countB s sep + 1 = (Lib.split s.data.toList sep.data.toList).length := by rw [← hsp, List.length_map, hlen]
  have hv : (Lib.splitB sep 0 (Lib.countB s sep) s).map Value.string = rvals (Lib.split s.data.toList sep.data.toList) := by
    rw [← hsp, rvals, List.map_map]
    rfl
  refine (Tryz.strings_Split s sep m w (by omega) hm h1).mono ?_
  rintro e w' ⟨rfl, rfl⟩
  rw [hn, hv]
  exact ⟨rfl, (Below.refl _ _).alloc (Nat.le_refl _) _, heap_alloc_new w _⟩
/-! ### The rules that are being read -/
theorem isPk.snocG {w w' : World} {base : Nat} {v v' : Value} {qs : List Pv} {ps : List Pc} (h : isPk w base v qs ps) {q : Pv} {p : Pc} (hq : Pv.is w base q p) (hrow : w'.ownsRow base 48 3 v' (qs ++ [q]).length (pvals (qs ++ [q]))) (hg : w.grownBy w' v.ownBlock) :
    isPk w' base v' (qs ++ [q]) (ps ++ [p]) := by
  have hlen := h.len
  refine ⟨hrow, by simp [hlen], fun i q' p' hq' hp' => ?_⟩
  have hc : Pv.is w base q' p' := by
    by_cases hil : i < qs.length
    · rw [List.getElem?_append_left hil] at hq'
      rw [List.getElem?_append_left (by omega)] at hp'
      exact h.each i q' p' hq' hp'
    · rw [List.getElem?_append_right (by omega)] at hq' hp'
      rw [hlen] at hq'
      generalize i - ps.length = j at hq' hp'
      cases j with
      | zero =>
        simp at hq' hp'
        rw [← hq', ← hp']; exact hq
      | succ j => simp at hq'
  exact ⟨hc.1, hc.2.1, hc.2.2.1, way_stay hc.2.2.2 h.row hg⟩
/-- The rules in block g are x so far, their pieces in v. -/
def isGs (w : World) (g : Nat) (x : Rl) (v : Value) : Prop :=
  isRu w g (.int .i64 (x.W : Int)) (.int .i64 (x.H : Int)) (.string ⟨x.C.toArray⟩) (.int .i64 x.T) (.string ⟨x.A.toArray⟩) (.string ⟨x.B.toArray⟩) v (.bool x.dr) (.int .u8 (x.lo.toNat : Int)) (.int .i64 (x.li : Int)) (.int .u8 (x.re.toNat : Int)) (.bool x.st) (.int .i64 (x.pl : Int))
structure GS (w : World) (g : Nat) (x : Rl) : Prop where
  ex : ∃ v qs, isGs w g x v ∧ isPk w (g + 1) v qs x.ps
  sz : x.C.length ≤ 64 ∧ x.A.length ≤ 8 ∧ x.B.length ≤ 8
theorem GS.below {w w' : World} {g : Nat} {x : Rl} (h : GS w g x) (hb : Below w.heap.size w w') : GS w' g x := by
  obtain ⟨⟨v, qs, h1, h2⟩, h3⟩ := h
  exact ⟨⟨v, qs, isRu.below h1 hb (isRu.lt h1), h2.keep fun k _ hk => hb.block k hk⟩, h3⟩
theorem GS.lt {w : World} {g : Nat} {x : Rl} (h : GS w g x) : g < w.heap.size := by
  obtain ⟨⟨v, qs, h1, h2⟩, h3⟩ := h
  exact isRu.lt h1
/-- What line leaves. -/
structure LineG (x : Rl) (s : ByteArray) (g : Nat) (w : World) (e : Ending) (w' : World) : Prop where
  ex : (∃ x', lineB x s.data.toList = some x' ∧ e = .returned (.int .i64 ((lineOf (Lib.cut s.data.toList [32]).1 : Int) - 1)) ∧ GS w' g x') ∨ (lineB x s.data.toList = none ∧ e = .returned (.int .i64 (-1)))
  low : Below g w w'
end Go.Proofs.YtfhmpgjemobjhaaGreatDoor

namespace Go.Proofs.YtfhmpgjemobjhaaGreatDoor
open Go.RowKit
attribute [local go_sem ↓] Go.wp_at_zero Go.wp_at_succ

theorem tl_true {A : ByteArray} {l : List UInt8} (h : A.data.toList = l) : (A.toList == l) = true := by rw [Lib.toList_data, beq_iff_eq]; exact h
theorem tl_false {A : ByteArray} {l : List UInt8} (h : A.data.toList ≠ l) : (A.toList == l) = false := by rw [Lib.toList_data, beq_eq_false_iff_ne]; exact h


set_option maxHeartbeats 4000000 in
set_option maxRecDepth 100000 in
theorem gLine_none (g : Nat) (s : ByteArray) (m : Int) (w : World) (hs : s.size < 2000000) (hm : w.cell? ⟨0, 0, none⟩ = some (.int .i64 m)) (ht : isTab w)
    (p0 p1 : List UInt8) (q : List (List UInt8)) (hsp : spl 32 s.data.toList = p0 :: q) (hq1 : q.head? = some p1 ∨ q = [])
    (hpre : ([115, 116, 97, 114, 116, 32] : List UInt8).isPrefixOf s.data.toList = false)
    (hd : s.data.toList ≠ wDrops) (hst : s.data.toList ≠ wStuck)
    (hpc : 2 ≤ q.length → p0 = wPiece → letterOf p1 = none)
    (hlr : q.length = 1 → (p0 = wLose ∨ p0 = wReach) → letterOf p1 = none)
    (hli : q.length = 1 → p0 = wLine → cntI p1 ≤ 0)
    (hpl : q.length = 1 → p0 = wPlies → cntI p1 < 0) :
    Calls Tryz.prog 20 #[.pointer (some ⟨g, 0, none⟩), .string s] w fun e w' => e = .returned (.int .i64 (-1)) ∧ Below w.heap.size w w' := by
  obtain ⟨n, hn⟩ : ∃ n, n = (p0 :: q).length := ⟨_, rfl⟩
  have HSP := hide (Split_any s 32 m w hs hm)
  rw [hsp, ← hn] at HSP
  rw [List.length_cons] at hn
  obtain ⟨A0, hA0⟩ : ∃ A0 : ByteArray, A0 = ⟨p0.toArray⟩ := ⟨_, rfl⟩
  obtain ⟨A1, hA1⟩ : ∃ A1 : ByteArray, A1 = ⟨p1.toArray⟩ := ⟨_, rfl⟩
  have hA0d : A0.data.toList = p0 := by rw [hA0]
  have hA1d : A1.data.toList = p1 := by rw [hA1]
  have HA0 := hide hA0
  have HP0 : Hid ((p0 :: q)[0]? = some p0) := hide rfl
  have HPRE := hide hpre
  have fd := tl_false hd
  have fs := tl_false hst
  unfold wDrops at fd
  unfold wStuck at fs
  have hsz := len_data A1
  rw [hA1d] at hsz
  have HHT := hide ht
  clear hpre hd hst hsp hm hA0 ht
  by_cases hq : q = []
  · have hn1 : n = 1 := by rw [hn, hq]; rfl
    have h2 : ¬ (n : Int) = 2 := by omega
    have h2b : ((n : Int) == 2) = false := by simp; omega
    have h2n : (n == 2) = false := by simp; omega
    have h3 : ¬ (3 : Int) ≤ (n : Int) := by omega
    have HR1 : Hid (∀ u : World, isRv u w.heap.size (p0 :: q) → True) := hide (fun _ _ => trivial)
    clear hpc hlr hli hpl hq1 hq hn hn1 hA0d hA1d hA1 hsz
    go_enter Tryz.func20, Tryz.ntmps20
    go_wp2_with fail
    refine (unhide HSP).mono ?_
    rintro e w1 ⟨rfl, hb1, hrv⟩
    have r0 := hrv.cell (k := 0) (unhide HP0)
    rw [← unhide HA0] at r0
    have r1 := unhide HR1 w1 hrv
    have HB1 := hide hb1
    have HRV := hide hrv
    clear hb1 hrv
    go_wp2_with fail
    refine (hasPrefix_any s ⟨#[115, 116, 97, 114, 116, 32]⟩ w1).mono ?_
    rintro e w2 ⟨rfl, rfl⟩
    rw [unhide HPRE]
    go_wp2
    go_ret
    exact ⟨rfl, unhide HB1⟩
  · have hq1' : q.head? = some p1 := hq1.resolve_right hq
    have hqe : ∃ r, q = p1 :: r := by
      match q, hq1' with
      | a :: r, h => simp at h; exact ⟨r, by rw [h]⟩
    obtain ⟨r, rfl⟩ := hqe
    have HR1 : Hid (∀ u : World, isRv u w.heap.size (p0 :: p1 :: r) → u.cell? ⟨w.heap.size, 1, none⟩ = some (.string A1)) := by
      refine hide fun u hu => ?_
      rw [hA1]
      exact hu.cell (k := 1) rfl
    have hCN := fun u hu => count_any A1 u hu
    rw [hA1d] at hCN
    have HCN := hide hCN
    clear hCN
    have hlet1 : ∀ (h1 : A1.size = 1), letterOf p1 = if capB ((A1[0]'(by omega)).toNat : Nat) then some (A1[0]'(by omega)) else none := by
      intro h1
      have hd : p1 = [A1[0]'(by omega)] := by
        rw [← hA1d]
        have hl : A1.data.toList.length = 1 := by rw [len_data]; exact h1
        match hm : A1.data.toList, hl with
        | [c], _ =>
          have : A1.data.toList[0]'(by rw [len_data]; omega) = A1[0]'(by omega) := rfl
          simp [hm] at this
          rw [this]
      rw [hd]
      simp only [letterOf]
    have HLET := hide hlet1
    clear hlet1 hq1 hq1' hq hA1 hA1d hsz
    by_cases hr : r = []
    · have hq1 : (p1 :: r).length = 1 := by rw [hr]; rfl
      have hn2 : n = 2 := by rw [hn, hq1]
      have h2 : (n : Int) = 2 := by omega
      have h3 : ¬ (3 : Int) ≤ (n : Int) := by omega
      have hi0 : (0 : Int) < (n : Int) := by omega
      have hi1 : (1 : Int) < (n : Int) := by omega
      have HLR := hide (hlr hq1)
      have HLI := hide (hli hq1)
      have HPL := hide (hpl hq1)
      clear hpc hlr hli hpl hn hn2 hq1 hr
      by_cases e1 : p0 = wLose ∨ p0 = wReach
      · have hlno := unhide HLR e1
        have f3 := tl_false (A := A0) (l := [108, 105, 110, 101]) (by rw [hA0d]; rcases e1 with rfl | rfl <;> decide)
        have f4 := tl_false (A := A0) (l := [112, 108, 105, 101, 115]) (by rw [hA0d]; rcases e1 with rfl | rfl <;> decide)
        have hor : (A0.toList == [108, 111, 115, 101]) = true ∨ ((A0.toList == [108, 111, 115, 101]) = false ∧ (A0.toList == [114, 101, 97, 99, 104]) = true) := by
          rcases e1 with h | h
          · exact Or.inl (tl_true (by rw [hA0d, h]; rfl))
          · exact Or.inr ⟨tl_false (by rw [hA0d, h]; decide), tl_true (by rw [hA0d, h]; rfl)⟩
        clear e1 hA0d
        by_cases h1 : A1.size = 1
        · have hcap : capB ((A1[0]'(by omega)).toNat : Nat) = false := by
            have := unhide HLET h1
            rw [hlno] at this
            cases hc : capB ((A1[0]'(by omega)).toNat : Nat) with
            | false => rfl
            | true => rw [hc] at this; simp at this
          have h1i : (A1.size : Int) = 1 := by omega
          have h10 : (0 : Int) < (A1.size : Int) := by omega
          have HCAP := hide hcap
          clear hcap hlno HLET
          rcases hor with f1 | ⟨f1, f2⟩
          all_goals
            go_enter Tryz.func20, Tryz.ntmps20
            go_wp2_with fail
            refine (unhide HSP).mono ?_
            rintro e w1 ⟨rfl, hb1, hrv⟩
            have r0 := hrv.cell (k := 0) (unhide HP0)
            rw [← unhide HA0] at r0
            have r1 := unhide HR1 w1 hrv
            have HB1 := hide hb1
            have HRV := hide hrv
            clear hb1 hrv
            go_wp2_with fail
            refine (hasPrefix_any s ⟨#[115, 116, 97, 114, 116, 32]⟩ w1).mono ?_
            rintro e w2 ⟨rfl, rfl⟩
            rw [unhide HPRE]
            go_wp2_with fail
            refine (Big_any _ _).mono ?_
            rintro e w3 ⟨rfl, rfl⟩
            rw [unhide HCAP]
            go_wp2
            go_ret
            exact ⟨rfl, unhide HB1⟩
        · have h1i : ¬ (A1.size : Int) = 1 := by omega
          have h1b : ((A1.size : Int) == 1) = false := by simp; omega
          clear hlno HLET
          rcases hor with f1 | ⟨f1, f2⟩
          all_goals
            go_enter Tryz.func20, Tryz.ntmps20
            go_wp2_with fail
            refine (unhide HSP).mono ?_
            rintro e w1 ⟨rfl, hb1, hrv⟩
            have r0 := hrv.cell (k := 0) (unhide HP0)
            rw [← unhide HA0] at r0
            have r1 := unhide HR1 w1 hrv
            have HB1 := hide hb1
            have HRV := hide hrv
            clear hb1 hrv
            go_wp2_with fail
            refine (hasPrefix_any s ⟨#[115, 116, 97, 114, 116, 32]⟩ w1).mono ?_
            rintro e w2 ⟨rfl, rfl⟩
            rw [unhide HPRE]
            go_wp2
            go_ret
            exact ⟨rfl, unhide HB1⟩
      · have f1 := tl_false (A := A0) (l := [108, 111, 115, 101]) (by rw [hA0d]; exact fun h => e1 (Or.inl h))
        have f2 := tl_false (A := A0) (l := [114, 101, 97, 99, 104]) (by rw [hA0d]; exact fun h => e1 (Or.inr h))
        clear e1
        by_cases e2 : p0 = wLine
        · have hneg := unhide HLI e2
          have f3 := tl_true (A := A0) (l := [108, 105, 110, 101]) (by rw [hA0d, e2]; rfl)
          have f4 := tl_false (A := A0) (l := [112, 108, 105, 101, 115]) (by rw [hA0d, e2]; decide)
          obtain ⟨K, hK⟩ : ∃ K, K = cntI p1 := ⟨_, rfl⟩
          rw [← hK] at HCN hneg
          have hni : ¬ (0 : Int) < K := by omega
          clear e2 hA0d hK HLET
          go_enter Tryz.func20, Tryz.ntmps20
          go_wp2_with fail
          refine (unhide HSP).mono ?_
          rintro e w1 ⟨rfl, hb1, hrv⟩
          have r0 := hrv.cell (k := 0) (unhide HP0)
          rw [← unhide HA0] at r0
          have r1 := unhide HR1 w1 hrv
          have HB1 := hide hb1
          have HRV := hide hrv
          clear hb1 hrv
          go_wp2_with fail
          refine (hasPrefix_any s ⟨#[115, 116, 97, 114, 116, 32]⟩ w1).mono ?_
          rintro e w2 ⟨rfl, rfl⟩
          rw [unhide HPRE]
          go_wp2_with fail
          refine (unhide HCN _ ((unhide HHT).below (unhide HB1))).mono ?_
          rintro e w3 ⟨rfl, hb3⟩
          have hb4 := (unhide HB1).trans (hb3.mono (unhide HB1).size)
          have r0' := (hb3.cell (p := ⟨w.heap.size, 0, none⟩) (unhide HRV).lt).trans r0
          clear hb3
          go_wp2
          go_ret
          exact ⟨rfl, hb4⟩
        · have f3 := tl_false (A := A0) (l := [108, 105, 110, 101]) (by rw [hA0d]; exact e2)
          clear e2
          by_cases e3 : p0 = wPlies
          · have hneg := unhide HPL e3
            have f4 := tl_true (A := A0) (l := [112, 108, 105, 101, 115]) (by rw [hA0d, e3]; rfl)
            obtain ⟨K, hK⟩ : ∃ K, K = cntI p1 := ⟨_, rfl⟩
            rw [← hK] at HCN hneg
            have hni : ¬ (0 : Int) ≤ K := by omega
            clear e3 hA0d hK HLET
            go_enter Tryz.func20, Tryz.ntmps20
            go_wp2_with fail
            refine (unhide HSP).mono ?_
            rintro e w1 ⟨rfl, hb1, hrv⟩
            have r0 := hrv.cell (k := 0) (unhide HP0)
            rw [← unhide HA0] at r0
            have r1 := unhide HR1 w1 hrv
            have HB1 := hide hb1
            have HRV := hide hrv
            clear hb1 hrv
            go_wp2_with fail
            refine (hasPrefix_any s ⟨#[115, 116, 97, 114, 116, 32]⟩ w1).mono ?_
            rintro e w2 ⟨rfl, rfl⟩
            rw [unhide HPRE]
            go_wp2_with fail
            refine (unhide HCN _ ((unhide HHT).below (unhide HB1))).mono ?_
            rintro e w3 ⟨rfl, hb3⟩
            have hb4 := (unhide HB1).trans (hb3.mono (unhide HB1).size)
            clear hb3
            go_wp2
            go_ret
            exact ⟨rfl, hb4⟩
          · have f4 := tl_false (A := A0) (l := [112, 108, 105, 101, 115]) (by rw [hA0d]; exact e3)
            clear e3 hA0d HLET HCN
            go_enter Tryz.func20, Tryz.ntmps20
            go_wp2_with fail
            refine (unhide HSP).mono ?_
            rintro e w1 ⟨rfl, hb1, hrv⟩
            have r0 := hrv.cell (k := 0) (unhide HP0)
            rw [← unhide HA0] at r0
            have r1 := unhide HR1 w1 hrv
            have HB1 := hide hb1
            have HRV := hide hrv
            clear hb1 hrv
            go_wp2_with fail
            refine (hasPrefix_any s ⟨#[115, 116, 97, 114, 116, 32]⟩ w1).mono ?_
            rintro e w2 ⟨rfl, rfl⟩
            rw [unhide HPRE]
            go_wp2
            go_ret
            exact ⟨rfl, unhide HB1⟩
    · have hrl := List.length_pos_iff.2 hr
      have hq2 : 2 ≤ (p1 :: r).length := by rw [List.length_cons]; omega
      have h2 : ¬ (n : Int) = 2 := by omega
      have h2b : ((n : Int) == 2) = false := by simp; omega
      have h2n : (n == 2) = false := by simp; omega
      have h3 : (3 : Int) ≤ (n : Int) := by omega
      have hi0 : (0 : Int) < (n : Int) := by omega
      have hi1 : (1 : Int) < (n : Int) := by omega
      have HPC := hide (hpc hq2)
      clear hpc hlr hli hpl hn hq2 hr hrl HCN
      by_cases e1 : p0 = wPiece
      · have hlno := unhide HPC e1
        have f1 := tl_true (A := A0) (l := [112, 105, 101, 99, 101]) (by rw [hA0d, e1]; rfl)
        clear e1 hA0d
        by_cases h1 : A1.size = 1
        · have hcap : capB ((A1[0]'(by omega)).toNat : Nat) = false := by
            have := unhide HLET h1
            rw [hlno] at this
            cases hc : capB ((A1[0]'(by omega)).toNat : Nat) with
            | false => rfl
            | true => rw [hc] at this; simp at this
          have h1i : (A1.size : Int) = 1 := by omega
          have h10 : (0 : Int) < (A1.size : Int) := by omega
          have HCAP := hide hcap
          clear hcap hlno HLET
          go_enter Tryz.func20, Tryz.ntmps20
          go_wp2_with fail
          refine (unhide HSP).mono ?_
          rintro e w1 ⟨rfl, hb1, hrv⟩
          have r0 := hrv.cell (k := 0) (unhide HP0)
          rw [← unhide HA0] at r0
          have r1 := unhide HR1 w1 hrv
          have HB1 := hide hb1
          have HRV := hide hrv
          clear hb1 hrv
          go_wp2_with fail
          refine (hasPrefix_any s ⟨#[115, 116, 97, 114, 116, 32]⟩ w1).mono ?_
          rintro e w2 ⟨rfl, rfl⟩
          rw [unhide HPRE]
          go_wp2_with fail
          refine (Big_any _ _).mono ?_
          rintro e w3 ⟨rfl, rfl⟩
          rw [unhide HCAP]
          go_wp2
          go_ret
          exact ⟨rfl, unhide HB1⟩
        · have h1i : ¬ (A1.size : Int) = 1 := by omega
          have h1b : ((A1.size : Int) == 1) = false := by simp; omega
          clear hlno HLET
          go_enter Tryz.func20, Tryz.ntmps20
          go_wp2_with fail
          refine (unhide HSP).mono ?_
          rintro e w1 ⟨rfl, hb1, hrv⟩
          have r0 := hrv.cell (k := 0) (unhide HP0)
          rw [← unhide HA0] at r0
          have r1 := unhide HR1 w1 hrv
          have HB1 := hide hb1
          have HRV := hide hrv
          clear hb1 hrv
          go_wp2_with fail
          refine (hasPrefix_any s ⟨#[115, 116, 97, 114, 116, 32]⟩ w1).mono ?_
          rintro e w2 ⟨rfl, rfl⟩
          rw [unhide HPRE]
          go_wp2
          go_ret
          exact ⟨rfl, unhide HB1⟩
      · have f1 := tl_false (A := A0) (l := [112, 105, 101, 99, 101]) (by rw [hA0d]; exact e1)
        clear e1 hA0d HLET
        go_enter Tryz.func20, Tryz.ntmps20
        go_wp2_with fail
        refine (unhide HSP).mono ?_
        rintro e w1 ⟨rfl, hb1, hrv⟩
        have r0 := hrv.cell (k := 0) (unhide HP0)
        rw [← unhide HA0] at r0
        have r1 := unhide HR1 w1 hrv
        have HB1 := hide hb1
        have HRV := hide hrv
        clear hb1 hrv
        go_wp2_with fail
        refine (hasPrefix_any s ⟨#[115, 116, 97, 114, 116, 32]⟩ w1).mono ?_
        rintro e w2 ⟨rfl, rfl⟩
        rw [unhide HPRE]
        go_wp2
        go_ret
        exact ⟨rfl, unhide HB1⟩
end Go.Proofs.YtfhmpgjemobjhaaGreatDoor
