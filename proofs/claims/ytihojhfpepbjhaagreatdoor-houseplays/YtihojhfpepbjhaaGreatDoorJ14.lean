/-
  package moves, walked: without, with.
  What package gameref asks of a position, walked: Big, Small, hand, Position: the same as board.Check asks.
  The reference's small functions: abs, owner, mark.
  Plain mathematics: pieces in a row, counted along a ray and cell by cell.
-/
import Derived.Test.YtihojhfpepbjhaaGreatDoorJ12
import Derived.Test.YtihojhfpepbjhaaGreatDoorJ13
import Derived.Deep.RegionLawGrows
import Derived.Test.YtihojhfpepbjhaaGreatDoorJ1
import Derived.Test.YtihojhfpepbjhaaGreatDoorJ5
import Derived.Test.YtihojhfpepbjhaaGreatDoorJ10
namespace Go.Proofs.YtihojhfpepbjhaaGreatDoor
open Go.RowKit
attribute [local go_sem ↓] Go.wp_at_zero Go.wp_at_succ

/-- A hand without a letter. -/
def withoutL (h : List UInt8) (c : UInt8) : List UInt8 := if Lib.indexByte h c = -1 then h else h.take (Lib.indexByte h c).toNat ++ h.drop ((Lib.indexByte h c).toNat + 1)
theorem replace_one (h : List UInt8) (c : UInt8) : Lib.replace h [c] [] 1 = withoutL h c := by
  unfold Lib.replace withoutL
  rw [if_neg (by simp), ← Lib.index_one h c]
  by_cases hi : Lib.index h [c] = -1
  · rw [if_pos hi]
    unfold Lib.replaceNum
    rw [Lib.count_miss hi, if_pos (.inr (by decide))]
    rfl
  · rw [if_neg hi]
    obtain ⟨i, hii⟩ : ∃ i : Nat, Lib.index h [c] = i := by
      have := Lib.index_ge h [c]
      exact ⟨(Lib.index h [c]).toNat, by omega⟩
    have hpos : 0 < Lib.count h [c] := by
      rw [Lib.count_hit (by simp) hii]; omega
    unfold Lib.replaceNum
    rw [if_neg (by omega), show (1 : Int).toNat = 0 + 1 from rfl, Lib.replaceK_hit _ _ _ _ i hii, hii]
    simp [Lib.replaceK]

theorem conv1r (w : World) (c : UInt8) :
    (convert 127 9 (.slice (some ⟨w.heap.size, 0, none⟩) 1 1)).run Tryz.prog (w.alloc (.cells #[.int .u8 (c.toNat : Int)] 5)) = .ok (.string ⟨#[c]⟩) (w.alloc (.cells #[.int .u8 (c.toNat : Int)] 5)) := by
  refine run_convert_bytes_back (w.alloc (.cells #[.int .u8 (c.toNat : Int)] 5)) 127 9 5 ⟨w.heap.size, 0, none⟩ 1 [c] Tryz.underlying127 Tryz.underlying5 Tryz.underlying9 fun j hj => ?_
  have e : (⟨w.heap.size, 0, none⟩ : Addr).add j = ⟨w.heap.size, 0 + j, none⟩ := by unfold Addr.add; split <;> simp_all
  rw [e, cell_of_row _ _ _ _ _ _ (heap_alloc_new w _)]
  have hj0 : j = 0 := by simpa using hj
  subst hj0
  rfl

set_option maxHeartbeats 2000000 in
set_option maxRecDepth 100000 in
theorem without_any (h : ByteArray) (c : UInt8) (m : Int) (w : World) (hs : h.size ≤ 8) (hm : w.cell? ⟨0, 0, none⟩ = some (.int .i64 m)) :
    Calls Tryz.prog 176 #[.string h, .int .u8 (c.toNat : Int)] w fun e w' => e = .returned (.string ⟨(withoutL h.data.toList c).toArray⟩) ∧ Below w.heap.size w w' := by
  have hcv := conv1r w c
  obtain ⟨wa, hwa⟩ : ∃ wa, wa = w.alloc (.cells #[.int .u8 (c.toNat : Int)] 5 (0, 0)) := ⟨_, rfl⟩
  have hba : Below w.heap.size w wa := by rw [hwa]; exact (Below.refl _ _).alloc (Nat.le_refl _) _
  have h0 : 0 < w.heap.size := by
    rcases Nat.lt_or_ge 0 w.heap.size with h | h
    · exact h
    · simp [World.cell?, Array.getElem?_eq_none h] at hm
  have HR := hide (Tryz.strings_Replace h ⟨#[c]⟩ ⟨#[]⟩ 1 m wa (by omega) ((hba.cell (p := ⟨0, 0, none⟩) h0).trans hm) (Nat.le_refl 1) (by show h.size + _ * 0 ≤ _; omega))
  rw [show (⟨#[c]⟩ : ByteArray).data.toList = [c] from rfl, show (⟨#[]⟩ : ByteArray).data.toList = [] from rfl, replace_one] at HR
  have HBA := hide hba
  clear hba hm h0
  go_enter Tryz.func176, Tryz.ntmps176
  go_wp2_with fail
  rw [← hwa]
  clear hwa hcv
  refine (unhide HR).mono ?_
  rintro e w1 ⟨rfl, hb1⟩
  have HB1 := hide ((unhide HBA).trans (hb1.mono (unhide HBA).size))
  clear hb1
  go_wp2
  go_ret
  exact ⟨rfl, unhide HB1⟩

theorem wpList_append_run {P : Program} {ops : Array Oper} {rest : List Oper} {o : Oper} {a : Act} {w : World} {Q : Exit → Act → World → Prop} (hgd : o.guard = none) (s x : Operand) (t : TypeId)
    (ho : o.op = .call { callee := .builtin .append, args := #[s, x], argTypes := #[t, t] }) (v1 v2 v' : Value) (w' : World) (hs : a.eval s = v1) (hx : a.eval x = v2)
    (hrun : (Builtin.append_ #[t, t] o.type #[v1, v2]).run P w = .ok v' w') (h : wpList P ops Q rest (a.put o.dst v') w') : wpList P ops Q (o :: rest) a w :=
  wpList_plain hgd fun K hK => by
    unfold Oper.wp
    simp [execOp, ho, resolve, invoke, builtin, hs, hx, hrun, Result.andThen]
    exact hK _ _ h
theorem foldl_len : ∀ (is : List Nat) (l : List UInt8), (is.foldl (fun l i => sinkB i l) l).length = l.length
  | [], _ => rfl
  | i :: is, l => by rw [List.foldl_cons, foldl_len is, sinkB_len]
/-- One byte behind a row of bytes. -/
theorem run_append_byte (w : World) (g n cap : Nat) (l : List UInt8) (c : UInt8) (ad : Addr) (ty : TypeId) (cur : Array Value) (fz : Nat × Nat) (hg : w.heap[g]? = some (.cells cur 5 fz)) (hfz : fz = (0, 0) ∨ cur.size ≤ fz.1) (hcs : cur.size = cap) (htk : cur.toList.take l.length = bvals l) (hn : l.length = n) (hnc : n ≤ cap) (hn64 : n ≤ 64) (hc : w.cell? ad = some (.int .u8 (c.toNat : Int))) :
    ∃ g' cap' w', (Builtin.append_ #[127, 127] ty #[.slice (some ⟨g, 0, none⟩) n cap, .slice (some ad) 1 1]).run Tryz.prog w = .ok (.slice (some ⟨g', 0, none⟩) (n + 1) cap') w' ∧ RowB w' g' (l ++ [c]) ∧ (g' = g ∨ g' = w.heap.size) ∧ Bt g w w' := by
  obtain ⟨i0, hi, hz0, hz1, hz2⟩ := info_parts Tryz.info5
  have hrow : RowB w g l := ⟨cur, fz, hg, hfz, htk⟩
  have hnews : ∀ j u, [Value.int .u8 (c.toNat : Int)][j]? = some u → w.cell? (ad.add j) = some u := by
    intro j u hj
    match j, hj with
    | 0, hj => simp at hj; subst hj; rw [show ad.add 0 = ad by unfold Addr.add; split <;> simp_all]; exact hc
  by_cases hroom : n + 1 ≤ cap
  · refine ⟨g, cap, w.setCells g (0 + n) [.int .u8 (c.toNat : Int)], ?_, ?_, .inl rfl, ?_⟩
    · have hf := run_firstCells_some (P := Tryz.prog) w 1 1 ad 1 1 [.int .u8 (c.toNat : Int)] rfl hnews
      have hst := run_storeCells_cells (P := Tryz.prog) g n [.int .u8 (c.toNat : Int)] 0 w (fun j hj => by
        have : j = 0 := by simpa using hj
        subst this
        rw [cell_of_row w g _ cur _ _ hg]
        simp; omega) (fun j hj => by
        have : j = 0 := by simpa using hj
        subst this
        simp only [World.frozen?, hg]
        rcases hfz with rfl | h
        · simp
        · simp; omega) (fun v hv => by simp at hv; subst hv; rfl)
      simp only [Nat.add_zero] at hst
      simp [Builtin.append_, run_underlying Tryz.underlying127, sizeOf, typeInfo, hi, hz1, Builtin.lenOf, hroom, hf, Addr.add_lit, hst]
    · rw [Nat.zero_add]
      show RowB (w.setCell ⟨g, n, none⟩ (.int .u8 (c.toNat : Int))) g (l ++ [c])
      refine ⟨cur.setIfInBounds n (.int .u8 (c.toNat : Int)), fz, ?_, by simpa using hfz, ?_⟩
      · rw [setCell_eq_setRow w g n cur _ _ _ hg]
        exact setRow_heap w g cur _ _ _ hg
      · rw [Array.toList_setIfInBounds, List.length_append, List.length_singleton, hn, List.take_succ_eq_append_getElem (by rw [List.length_set]; simp; omega), List.take_set_of_le (Nat.le_refl _), List.getElem_set_self, ← hn, htk]
        simp [bvals]
    · exact (Bt.refl g w).put _ _
  · have hcn : cap = n := by omega
    have hgr := run_append_grow (P := Tryz.prog) w 127 ty 5 i0 (.int .u8 0) Tryz.underlying127 hi hz0 ⟨g, 0, none⟩ n cap (bvals l) (by simp [bvals, hz1, hn]) (fun j v hj => by
        have hjl : j < l.length := by have := (List.getElem?_eq_some_iff.1 hj).1; simpa [bvals] using this
        rw [show (⟨g, 0, none⟩ : Addr).add j = ⟨g, j, none⟩ by unfold Addr.add; split <;> simp_all, hrow.cell j hjl, ← hj]
        simp [bvals, hjl]) ad 1 1 [.int .u8 (c.toNat : Int)] (by simp [hz1]) hnews (by omega) (by omega) (by rw [hz2]; have := nextslicecap_le (need := n + 1) (old := cap) (by omega); omega)
    refine ⟨_, _, _, hgr, ⟨_, (0, 0), heap_alloc_new w.drew _, .inl rfl, ?_⟩, .inr rfl, ⟨rfl, rfl, rfl, by simp, fun k hk _ => (by first | exact heap_alloc_old w.drew _ hk | exact heap_alloc_old w.drew _ _ hk)⟩⟩
    simp only [Array.toList_append, List.append_assoc]
    rw [show bvals (l ++ [c]) = bvals l ++ [.int .u8 (c.toNat : Int)] by simp [bvals], ← List.append_assoc]
    rw [List.take_append_of_le_length (by simp [bvals])]
    exact List.take_of_length_le (by simp [bvals])

set_option maxHeartbeats 2000000 in
set_option maxRecDepth 100000 in
theorem with_any (h : ByteArray) (c : UInt8) (w : World) (hs : h.size ≤ 7) :
    Calls Tryz.prog 177 #[.string h, .int .u8 (c.toNat : Int)] w fun e w' => e = .returned (.string ⟨(isortB (h.data.toList ++ [c]) (h.size + 1)).toArray⟩) ∧ Below w.heap.size w w' := by
  have hne : ((h.size : Int) == 8) = false := by simp; omega
  have hcv := run_bytes_of_string (P := Tryz.prog) w 9 127 5 h Tryz.underlying9 Tryz.underlying127 Tryz.underlying5
  obtain ⟨cap, hcap⟩ : ∃ cap, cap = grownCap w h.size 0 5 := ⟨_, rfl⟩
  rw [← hcap] at hcv
  have hcg : h.size ≤ cap := by rw [hcap]; exact grownCap_ge _ _ _ _
  obtain ⟨W1, hW1⟩ : ∃ W1, W1 = w.drew.alloc (.cells (bytesRow h cap) 5 ((bytesRow h cap).size, (bytesRow h cap).size + 1)) := ⟨_, rfl⟩
  rw [← hW1] at hcv
  have hb0 : Below w.heap.size w W1 := by rw [hW1]; exact (Below.refl _ _).drew.alloc (Nat.le_refl _) _
  have hs1 : W1.heap.size = w.heap.size + 1 := by rw [hW1]; simp
  obtain ⟨W2, hW2⟩ : ∃ W2, W2 = W1.alloc (.cells #[.int .u8 (c.toNat : Int)] 5 (0, 0)) := ⟨_, rfl⟩
  have hb2 : Below W1.heap.size W1 W2 := by rw [hW2]; exact (Below.refl _ _).alloc (Nat.le_refl _) _
  have hgr : W2.heap[w.heap.size]? = some (.cells (bytesRow h cap) 5 ((bytesRow h cap).size, (bytesRow h cap).size + 1)) := by
    rw [hb2.block _ (by omega), hW1]; exact heap_alloc_new w.drew _
  have hbs : (bytesRow h cap).size = cap := by unfold bytesRow; simp; show h.size + (cap - h.size) = cap; omega
  have hbt : (bytesRow h cap).toList.take h.data.toList.length = bvals h.data.toList := by
    unfold bytesRow bvals
    rw [Array.toList_append, List.take_append_of_le_length (by simp), List.take_of_length_le (by simp)]
    simp
  obtain ⟨g', cap', W3, hrun, hrow3, hg', hbt3⟩ : ∃ g' cap' w', (∀ ty, (Builtin.append_ #[127, 127] ty #[.slice (some ⟨w.heap.size, 0, none⟩) h.size cap, .slice (some ⟨W1.heap.size, 0, none⟩) 1 1]).run Tryz.prog W2 = .ok (.slice (some ⟨g', 0, none⟩) (h.size + 1) cap') w') ∧ RowB w' g' (h.data.toList ++ [c]) ∧ (g' = w.heap.size ∨ g' = W2.heap.size) ∧ Bt w.heap.size W2 w' := by
    obtain ⟨g', cap', w', h1, h2, h3, h4⟩ := run_append_byte W2 w.heap.size h.size cap h.data.toList c ⟨W1.heap.size, 0, none⟩ 0 (bytesRow h cap) _ hgr (.inr (Nat.le_refl _)) hbs hbt (len_data h) hcg (by omega) (by rw [hW2]; exact cell_of_row _ _ _ _ _ _ (heap_alloc_new W1 _))
    exact ⟨g', cap', w', fun ty => h1, h2, h3, h4⟩
  have hSO := SortB_any g' (h.size + 1) cap' (h.data.toList ++ [c]) W3 hrow3 (by rw [List.length_append, len_data]; rfl) (by omega)
  have hlen : (isortB (h.data.toList ++ [c]) (h.size + 1)).length = h.size + 1 := by
    unfold isortB; rw [foldl_len, List.length_append, len_data]; rfl
  rw [hW2] at hrun
  have HRUN := hide hrun
  clear hrun
  have HB3 : Hid (Below w.heap.size w W3) := by
    refine hide ((hb0.trans (hb2.mono (by omega))).trans (hbt3.below (Nat.le_refl _) ?_))
    have := hb2.size; omega
  have HG : Hid (w.heap.size ≤ g' ∧ w.heap.size ≤ W3.heap.size) := hide ⟨by have := hb2.size; omega, (unhide HB3).size⟩
  have HSO := hide hSO
  have HLEN := hide hlen
  have h7 : (h.size : Int) ≤ 7 := by omega
  clear hcap hcg hW1 hb0 hs1 hW2 hb2 hgr hbs hbt hrow3 hg' hbt3 hSO hlen
  generalize isortB (h.data.toList ++ [c]) (h.size + 1) = R at *
  go_enter Tryz.func177, Tryz.ntmps177
  go_wp2_with (at_builtin; refine wpList_append_run rfl _ _ 127 rfl _ _ _ _ rfl rfl (unhide HRUN _) ?_)
  refine (unhide HSO).mono ?_
  rintro e w4 ⟨rfl, hr4, hb4⟩
  have hcv2 := RowB.conv (cap := cap') hr4 HLEN
  have HB4 := hide ((unhide HB3).trans (hb4.below (unhide HG).1 (unhide HG).2))
  clear hr4 hb4 hcv
  go_wp2
  go_ret
  exact ⟨rfl, unhide HB4⟩
end Go.Proofs.YtihojhfpepbjhaaGreatDoor

namespace Go.Proofs.YtihojhfpepbjhaaGreatDoor
open Go.RowKit

def smallB (c : Int) : Bool := decide (97 ≤ c) && decide (c ≤ 122)

set_option maxHeartbeats 400000 in
theorem Big_any (c : Int) (w : World) :
    Calls Tryz.prog 31 #[.int .u8 c] w fun e w' => e = .returned (.bool (capB c)) ∧ w' = w := by
  go_enter Tryz.func31, Tryz.ntmps31
  go_wp2
  all_goals go_ret
  all_goals refine ⟨ret_bool ?_, rfl⟩
  all_goals (unfold capB; simp; try omega)

set_option maxHeartbeats 400000 in
theorem Small_any (c : Int) (w : World) :
    Calls Tryz.prog 62 #[.int .u8 c] w fun e w' => e = .returned (.bool (smallB c)) ∧ w' = w := by
  go_enter Tryz.func62, Tryz.ntmps62
  go_wp2
  all_goals go_ret
  all_goals refine ⟨ret_bool ?_, rfl⟩
  all_goals (unfold smallB; simp; try omega)

/-- The byte ahead of the k-th one, or 'A'. -/
def prevI (s : ByteArray) (k : Nat) : Int := if k = 0 then 65 else ((s.data.toList.getD (k - 1) 0).toNat : Int)
theorem prevI_succ (s : ByteArray) (k : Nat) (h : k < s.size) : prevI s (k + 1) = (s[k].toNat : Int) := by
  unfold prevI
  rw [if_neg (by omega), Nat.add_sub_cancel, List.getD_eq_getElem?_getD, List.getElem?_eq_getElem (by rw [len_data]; exact h)]
  rfl

set_option maxHeartbeats 1000000 in
theorem refHand_any (s : ByteArray) (w : World) (hs : s.size ≤ maxLen) :
    Calls Tryz.prog 61 #[.string s] w fun e w' => e = .returned (.bool (handB s.data.toList)) ∧ ∃ n, w' = w.drewN n := by
  unfold maxLen at hs
  by_cases hn : s.size ≤ 8
  · go_enter Tryz.func61, Tryz.ntmps61
    go_wp2
    go_loopw [3] (fun i wr => ∃ (k : Nat), k ≤ s.size ∧ i = .int .i64 k ∧ handB s.data.toList = capsB (prevI s k) (s.data.toList.drop k) ∧ ∃ n, wr = w.drewN n) (fun i _ => s.size - (intOf i).toNat)
    case atStart => exact ⟨0, Nat.zero_le _, rfl, by simp [handB, hn, prevI], 0, rfl⟩
    case round =>
      obtain ⟨k, hk, rfl, hc, hw⟩ := hrel
      have HW : Hid (∀ m, ∃ n, wr.drewN m = w.drewN n) := by
        obtain ⟨n, hn'⟩ := hw
        exact fun m => ⟨n + m, by rw [hn', World.drewN_drewN]⟩
      have HW0 := hide hw
      have HC := hide hc
      clear hc hw
      by_cases hlt : k < s.size
      · have HS := hide (drop_cons s k hlt)
        have HP := hide (prevI_succ s k hlt)
        have i0 : (0 : Int) ≤ (k : Int) := by omega
        have i1 : (k : Int) < (s.size : Int) := by omega
        cases hcap : capB ↑s[k].toNat with
        | false =>
          go_wp2
          go_quiet ((go_at_call 31; exact Calls.quiet_of_same (Big_any _ _)))
          go_wp2
          go_ret
          exact ⟨ret_bool (by rw [unhide HC, unhide HS]; simp [capsB, hcap]), unhide HW _⟩
        | true =>
          by_cases hk0 : k = 0
          · subst hk0
            have HP0 : Hid (prevI s 0 = 65) := rfl
            go_wp2
            go_quiet ((go_at_call 31; exact Calls.quiet_of_same (Big_any _ _)))
            go_wp2
            go_roundw
            case rel =>
              refine ⟨0 + 1, by omega, by go_num, ?_, unhide HW _⟩
              rw [unhide HC, unhide HS, unhide HP, unhide HP0]
              have h65 : (65 : Int) ≤ ↑s[0].toNat := by simp only [capB, Bool.and_eq_true, decide_eq_true_eq] at hcap; exact hcap.1
              simp [capsB, hcap, h65]
            case measure => simp [intOf]; omega
          · obtain ⟨j, rfl⟩ : ∃ j, k = j + 1 := ⟨k - 1, by omega⟩
            have j0 : (0 : Int) ≤ (j : Int) := by omega
            have j1 : (j : Int) < (s.size : Int) := by omega
            have j2 : j < s.size := by omega
            have j3 : (0 : Int) < (j : Int) + 1 := by omega
            have j4 : (0 : Int) ≤ (j : Int) + 1 := by omega
            have j5 : (j : Int) + 1 < (s.size : Int) := by omega
            have HPj := hide (prevI_succ s j j2)
            go_wp2
            go_quiet ((go_at_call 31; exact Calls.quiet_of_same (Big_any _ _)))
            go_wp2
            · have h1 : s[j + 1].toNat < s[j].toNat := by assumption
              go_ret
              refine ⟨ret_bool ?_, unhide HW _⟩
              rw [unhide HC, unhide HS, unhide HPj]
              have hd : decide ((s[j].toNat : Int) ≤ (s[j + 1].toNat : Int)) = false := by simp; omega
              simp only [capsB, hd, Bool.and_false, Bool.false_and]
            · have h1 : ¬ s[j + 1].toNat < s[j].toNat := by assumption
              go_roundw
              case rel =>
                refine ⟨j + 1 + 1, by omega, by go_num, ?_, unhide HW _⟩
                rw [unhide HC, unhide HS, unhide HPj, unhide HP]
                have hd : decide ((s[j].toNat : Int) ≤ (s[j + 1].toNat : Int)) = true := by simp; omega
                simp only [capsB, hd, hcap, Bool.and_true, Bool.true_and]
              case measure => simp [intOf]; omega
      · go_wp2
        go_ret
        exact ⟨ret_bool (by rw [unhide HC, drop_all s k (by omega)]; rfl), unhide HW0⟩
  · go_enter Tryz.func61, Tryz.ntmps61
    go_wp2
    go_ret
    exact ⟨ret_bool (by simp [handB, hn]), 0, rfl⟩

theorem cellB_alt (c : Int) : cellB c = (decide (c = 46) || capB c || smallB c) := rfl

/-- All of the position but its cells. -/
def headB (W H : Int) (n : Nat) (T : Int) (A B : List UInt8) : Bool :=
  sideB W && sideB H && decide ((n : Int) = W * H) && (decide (T = 0) || decide (T = 1)) && handB A && handB B
theorem posB_alt (W H : Int) (C : List UInt8) (T : Int) (A B : List UInt8) : posB W H C T A B = (headB W H C.length T A B && cellsB C) := by
  unfold posB headB
  cases sideB W <;> cases sideB H <;> cases decide ((C.length : Int) = W * H) <;> cases cellsB C <;> cases (decide (T = 0) || decide (T = 1)) <;> cases handB A <;> cases handB B <;> rfl

set_option maxHeartbeats 2000000 in
theorem refPosition_head (W H T : Int) (C A B : ByteArray) (w : World) (hA : A.size ≤ maxLen) (hB : B.size ≤ maxLen) (h : headB W H C.size T A.data.toList B.data.toList = false) :
    Calls Tryz.prog 30 #[.agg #[.int .i64 W, .int .i64 H, .string C, .int .i64 T, .string A, .string B]] w fun e w' => e = .returned (.bool false) ∧ Below w.heap.size w w' := by
  have HH := hide h
  clear h
  go_enter Tryz.func30, Tryz.ntmps30
  go_wp2_with (go_at_call 61; refine (refHand_any _ _ ?_).mono ?_; assumption; rintro e w' ⟨rfl, n, rfl⟩)
  all_goals first
    | (exfalso; have hw := wrapWH W H; have h := unhide HH; simp_all [headB, sideB]; done)
    | go_ret
  all_goals refine ⟨rfl, ?_⟩
  all_goals first
    | exact (Below.refl _ _).alloc (Nat.le_refl _) _
    | exact below_drewN ((Below.refl _ _).alloc (Nat.le_refl _) _) _
    | exact below_drewN (below_drewN ((Below.refl _ _).alloc (Nat.le_refl _) _) _) _

end Go.Proofs.YtihojhfpepbjhaaGreatDoor

namespace Go.Proofs.YtihojhfpepbjhaaGreatDoor
open Go.RowKit
attribute [local go_sem ↓] Go.wp_at_zero Go.wp_at_succ

theorem rAbs_any (n : Int) (w : World) (hn : -1000 ≤ n ∧ n ≤ 1000) :
    Calls Tryz.prog 178 #[.int .i64 n] w fun e w' => e = .returned (.int .i64 (n.natAbs : Nat)) ∧ w' = w := by
  by_cases h : n < 0
  · have e : ((n.natAbs : Nat) : Int) = -n := by omega
    rw [e]
    clear e
    go_enter Tryz.func178, Tryz.ntmps178
    go_wp2
    go_ret
    exact ⟨rfl, rfl⟩
  · have e : ((n.natAbs : Nat) : Int) = n := by omega
    rw [e]
    clear e
    go_enter Tryz.func178, Tryz.ntmps178
    go_wp2
    go_ret
    exact ⟨rfl, rfl⟩
/-- Whose is a byte? 2: nobody's. -/
def rownI (c : Int) : Int := if capB c then 0 else if smallB c then 1 else 2
theorem rOwner_any (c : Int) (w : World) :
    Calls Tryz.prog 147 #[.int .u8 c] w fun e w' => e = .returned (.int .i64 (rownI c)) ∧ w' = w := by
  have HB := hide (fun u => Big_any c u)
  have HS := hide (fun u => Small_any c u)
  obtain ⟨R, hR⟩ : ∃ R, R = rownI c := ⟨_, rfl⟩
  rw [← hR]
  unfold rownI at hR
  have HR := hide hR
  clear hR
  generalize capB c = b at *
  generalize smallB c = s at *
  cases b with
  | true =>
    go_enter Tryz.func147, Tryz.ntmps147
    go_wp2_with fail
    refine (unhide HB _).mono ?_
    rintro e w1 ⟨rfl, rfl⟩
    go_wp2
    go_ret
    exact ⟨by rw [unhide HR]; rfl, rfl⟩
  | false =>
    cases s with
    | true =>
      go_enter Tryz.func147, Tryz.ntmps147
      go_wp2_with fail
      refine (unhide HB _).mono ?_
      rintro e w1 ⟨rfl, rfl⟩
      go_wp2_with fail
      refine (unhide HS _).mono ?_
      rintro e w1 ⟨rfl, rfl⟩
      go_wp2
      go_ret
      exact ⟨by rw [unhide HR]; rfl, rfl⟩
    | false =>
      go_enter Tryz.func147, Tryz.ntmps147
      go_wp2_with fail
      refine (unhide HB _).mono ?_
      rintro e w1 ⟨rfl, rfl⟩
      go_wp2_with fail
      refine (unhide HS _).mono ?_
      rintro e w1 ⟨rfl, rfl⟩
      go_wp2
      go_ret
      exact ⟨by rw [unhide HR]; rfl, rfl⟩
/-- The byte of a piece of a player. -/
theorem rMark_0 (c : UInt8) (w : World) :
    Calls Tryz.prog 110 #[.int .u8 (c.toNat : Int), .int .i64 0] w fun e w' => e = .returned (.string ⟨#[c]⟩) ∧ Below w.heap.size w w' := by
  have hcv := conv1r w c
  go_enter Tryz.func110, Tryz.ntmps110
  go_wp2
  go_ret
  exact ⟨rfl, (Below.refl _ w).alloc (Nat.le_refl _) _⟩
theorem rMark_1 (c x : UInt8) (w : World) (hx : c.toNat + 32 = x.toNat) :
    Calls Tryz.prog 110 #[.int .u8 (c.toNat : Int), .int .i64 1] w fun e w' => e = .returned (.string ⟨#[x]⟩) ∧ Below w.heap.size w w' := by
  have hcv := conv1r w x
  have h8 := x.toNat_lt
  have hxi : (c.toNat : Int) + 32 = (x.toNat : Int) := by omega
  go_enter Tryz.func110, Tryz.ntmps110
  go_wp2
  go_ret
  exact ⟨rfl, (Below.refl _ w).alloc (Nat.le_refl _) _⟩
end Go.Proofs.YtihojhfpepbjhaaGreatDoor

namespace Go.Proofs.YtihojhfpepbjhaaGreatDoor

/-- How many in a row from a cell on: m of them at least just where the first m behind it are the player's. -/
theorem count_ray (W H : Nat) (own : Nat → Bool) (dx dy : Int) : ∀ (f m : Nat) (x y : Int), m ≤ f → (m ≤ (rayL W H own dx dy f x y).countP own ↔ ∀ i, 1 ≤ i → i ≤ m → inP W H dx dy x y i ∧ own (ptN W dx dy x y i) = true)
  | f, 0, x, y, _ => ⟨fun _ i a b => by omega, fun _ => Nat.zero_le _⟩
  | 0, m + 1, x, y, h => by omega
  | f + 1, m + 1, x, y, h => by
    rw [rayL]
    have ih := count_ray W H own dx dy f m (x + dx) (y + dy) (by omega)
    by_cases hin : 0 ≤ x + dx ∧ x + dx < W ∧ 0 ≤ y + dy ∧ y + dy < H
    · rw [if_pos hin, ← ptN_one]
      have hin1 := (inP_one W H dx dy x y).2 hin
      by_cases hon : own (ptN W dx dy x y 1) = true
      · rw [if_pos hon, List.countP_cons, if_pos hon]
        constructor
        · intro h' i a b
          by_cases hi : i = 1
          · rw [hi]; exact ⟨hin1, hon⟩
          · obtain ⟨k, rfl⟩ : ∃ k, i = k + 1 := ⟨i - 1, by omega⟩
            have := ih.1 (by omega) k (by omega) (by omega)
            rw [inP_succ, ptN_succ] at this
            exact this
        · intro h'
          have := ih.2 fun i a b => by rw [inP_succ, ptN_succ]; exact h' (i + 1) (by omega) (by omega)
          omega
      · rw [if_neg hon]
        constructor
        · intro h'; simp [hon] at h'
        · intro h'; exact absurd (h' 1 (by omega) (by omega)).2 hon
    · rw [if_neg hin]
      constructor
      · intro h'; simp at h'
      · intro h'; exact absurd ((inP_one W H dx dy x y).1 (h' 1 (by omega) (by omega)).1) hin
/-- Whose is the byte of a cell? -/
theorem own_rown : ∀ c : Nat, c < 256 → cellB (c : Int) = true → ∀ P : Nat, P ≤ 1 → ownB P c = decide (rownI (c : Int) = (P : Int)) := by
  have h : ∀ c : Nat, c < 256 → cellB (c : Int) = true → (ownB 0 c = decide (rownI (c : Int) = ((0 : Nat) : Int)) ∧ ownB 1 c = decide (rownI (c : Int) = ((1 : Nat) : Int))) := by decide +kernel
  intro c hc hb P hP
  rcases (by omega : P = 0 ∨ P = 1) with rfl | rfl
  · exact (h c hc hb).1
  · exact (h c hc hb).2
instance decInP (W H : Nat) (dx dy x y : Int) (k : Nat) : Decidable (inP W H dx dy x y k) := inferInstanceAs (Decidable (_ ∧ _))
/-- Are so many in a row from a cell on the player's? -/
def rowB (W H P : Nat) (C : ByteArray) (x y dx dy : Int) (n : Nat) : Bool := (List.range n).all fun k => decide (inP W H dx dy x y k) && decide (rownI (cellN C (ptN W dx dy x y k) : Nat) = (P : Int))
def lineAt (W H P : Nat) (C : ByteArray) (n : Nat) (y x : Nat) : Bool := dirs4.any fun d => rowB W H P C x y d.1 d.2 n
def linedB (W H P : Nat) (C : ByteArray) (n : Nat) : Bool := (List.range H).any fun y => (List.range W).any fun x => lineAt W H P C n y x
theorem inP_zero (W H : Nat) (dx dy x y : Int) : inP W H dx dy x y 0 ↔ (0 ≤ x ∧ x < W ∧ 0 ≤ y ∧ y < H) := by unfold inP; simp
theorem pt_zero (W from_ : Nat) (dx dy : Int) : ptN W dx dy ((from_ % W : Nat) : Int) ((from_ / W : Nat) : Int) 0 = from_ := by
  unfold ptN
  have hf : ((from_ / W : Nat) : Int) * W + ((from_ % W : Nat) : Int) = (from_ : Int) := by
    have := Nat.div_add_mod from_ W
    rw [Nat.mul_comm] at this
    rw [← Int.natCast_mul, ← Int.natCast_add, this]
  simp only [Int.natCast_zero, Int.zero_mul, Int.add_zero, hf]
  rfl
theorem inP_pt {W H : Nat} {dx dy x y : Int} {k : Nat} (h : inP W H dx dy x y k) : ptN W dx dy x y k < W * H := by
  obtain ⟨h0, h1, h2, h3⟩ := h
  exact (cell_no h0 h1 h2 h3).2
theorem line_iff {W H P : Nat} {C : ByteArray} {from_ n : Nat} {d : Int × Int} (hP : P ≤ 1) (hW : 1 ≤ W) (hf : from_ < W * H) (hn : 1 ≤ n ∧ n ≤ 8) (hC : ∀ c, c < W * H → cellB (cellN C c : Nat) = true ∧ cellN C c < 256) :
    (ownB P (cellN C from_) && decide ((n : Int) ≤ (lineN W H P C from_ d.1 d.2 : Nat))) = rowB W H P C ((from_ % W : Nat) : Int) ((from_ / W : Nat) : Int) d.1 d.2 n := by
  rw [Bool.eq_iff_iff]
  have hcnt := count_ray W H (fun c => ownB P (cellN C c)) d.1 d.2 8 (n - 1) ((from_ % W : Nat) : Int) ((from_ / W : Nat) : Int) (by omega)
  have a1 : from_ % W < W := Nat.mod_lt _ hW
  have a3 : from_ / W < H := Nat.div_lt_of_lt_mul hf
  have e0 : ∀ c, c < W * H → (ownB P (cellN C c) = true ↔ rownI (cellN C c : Nat) = (P : Int)) := fun c hc => by rw [own_rown _ (hC c hc).2 (hC c hc).1 P hP]; simp
  simp only [Bool.and_eq_true, decide_eq_true_eq, rowB, List.all_eq_true, List.mem_range]
  have hl : ((n : Int) ≤ (lineN W H P C from_ d.1 d.2 : Nat)) ↔ n - 1 ≤ (rayL W H (fun c => ownB P (cellN C c)) d.1 d.2 8 ((from_ % W : Nat) : Int) ((from_ / W : Nat) : Int)).countP (fun c => ownB P (cellN C c)) := by unfold lineN; omega
  rw [hl, hcnt]
  constructor
  · rintro ⟨h0, h1⟩ k hk
    by_cases hk0 : k = 0
    · subst hk0
      refine ⟨(inP_zero ..).2 ⟨Int.natCast_nonneg _, by exact_mod_cast a1, Int.natCast_nonneg _, by exact_mod_cast a3⟩, ?_⟩
      rw [pt_zero]; exact (e0 _ hf).1 h0
    · obtain ⟨q1, q2⟩ := h1 k (by omega) (by omega)
      exact ⟨q1, (e0 _ (inP_pt q1)).1 q2⟩
  · intro h
    constructor
    · have := (h 0 (by omega)).2
      rw [pt_zero] at this
      exact (e0 _ hf).2 this
    · intro i a b
      obtain ⟨q1, q2⟩ := h i (by omega)
      exact ⟨q1, (e0 _ (inP_pt q1)).2 q2⟩
theorem lined_eq {W H P : Nat} {C : ByteArray} {n : Nat} (hP : P ≤ 1) (hW : 1 ≤ W) (hn : 1 ≤ n ∧ n ≤ 8) (hC : ∀ c, c < W * H → cellB (cellN C c : Nat) = true ∧ cellN C c < 256) : hasLineB W H P C n = linedB W H P C n := by
  have hat : ∀ c, c < W * H → lineFromB W H P C n c = lineAt W H P C n (c / W) (c % W) := by
    intro c hc
    unfold lineFromB lineAt dirs4
    simp only [List.any_cons, List.any_nil]
    have e := fun d => line_iff (d := d) hP hW hc hn hC
    rw [← e (1, 0), ← e (0, 1), ← e (1, 1), ← e (-1, 1)]
    cases ownB P (cellN C c) <;> simp
  unfold hasLineB linedB
  rw [Bool.eq_iff_iff]
  simp only [List.any_eq_true, List.mem_range]
  constructor
  · rintro ⟨c, hc, h⟩
    rw [hat c hc] at h
    exact ⟨c / W, Nat.div_lt_of_lt_mul hc, c % W, Nat.mod_lt _ hW, h⟩
  · rintro ⟨y, hy, x, hx, h⟩
    have hc : y * W + x < W * H := by
      have : (y + 1) * W ≤ H * W := Nat.mul_le_mul_right _ (by omega)
      rw [Nat.add_mul, Nat.one_mul] at this
      rw [Nat.mul_comm W H]; omega
    refine ⟨y * W + x, hc, ?_⟩
    rw [hat _ hc]
    have hm : (y * W + x) % W = x := by rw [Nat.mul_comm, Nat.mul_add_mod]; exact Nat.mod_eq_of_lt hx
    have hd : (y * W + x) / W = y := by rw [Nat.mul_comm, Nat.mul_add_div (by omega), Nat.div_eq_of_lt hx]; rfl
    rw [hm, hd]; exact h
end Go.Proofs.YtihojhfpepbjhaaGreatDoor
