/-
  package moves, walked: without, with.
-/
import Derived.Test.YtihojhfpepbjhaaGreatDoorJ12
import Derived.Test.YtihojhfpepbjhaaGreatDoorJ13
import Derived.Deep.RegionLawGrows
namespace Go.Proofs.YtihojhfpepbjhaaGreatDoor
open Go.RowKit
attribute [local go_sem ↓] Go.wp_at_zero Go.wp_at_succ

/-- A hand without a letter. -/
def withoutL (h : List UInt8) (c : UInt8) : List UInt8 := if Lib.indexByte h c = -1 then h else h.take (Lib.indexByte h c).toNat ++ h.drop ((Lib.indexByte h c).toNat + 1)
theorem replace_one (h : List UInt8) (c : UInt8) : Lib.replace h [c] [] 1 = withoutL h c := by
  unfold Lib.replace withoutL
  rw [if_neg (by simp), ← Lib.index_one h c]
  by_cases hi : Lib.index h [c] = -1
  · rw [if_pos hi]
    unfold Lib.replaceNum
    rw [Lib.count_miss hi, if_pos (.inr (by decide))]
    rfl
  · rw [if_neg hi]
    obtain ⟨i, hii⟩ : ∃ i : Nat, Lib.index h [c] = i := by
      have := Lib.index_ge h [c]
      exact ⟨(Lib.index h [c]).toNat, by omega⟩
    have hpos : 0 < Lib.count h [c] := by
      rw [Lib.count_hit (by simp) hii]; omega
    unfold Lib.replaceNum
    rw [if_neg (by omega), show (1 : Int).toNat = 0 + 1 from rfl, Lib.replaceK_hit _ _ _ _ i hii, hii]
    simp [Lib.replaceK]

theorem conv1r (w : World) (c : UInt8) :
    (convert 127 9 (.slice (some ⟨w.heap.size, 0, none⟩) 1 1)).run Tryz.prog (w.alloc (.cells #[.int .u8 (c.toNat : Int)] 5)) = .ok (.string ⟨#[c]⟩) (w.alloc (.cells #[.int .u8 (c.toNat : Int)] 5)) := by
  refine run_convert_bytes_back (w.alloc (.cells #[.int .u8 (c.toNat : Int)] 5)) 127 9 5 ⟨w.heap.size, 0, none⟩ 1 [c] Tryz.underlying127 Tryz.underlying5 Tryz.underlying9 fun j hj => ?_
  have e : (⟨w.heap.size, 0, none⟩ : Addr).add j = ⟨w.heap.size, 0 + j, none⟩ := by unfold Addr.add; split <;> simp_all
  rw [e, cell_of_row _ _ _ _ _ _ (heap_alloc_new w _)]
  have hj0 : j = 0 := by simpa using hj
  subst hj0
  rfl

set_option maxHeartbeats 2000000 in
set_option maxRecDepth 100000 in
theorem without_any (h : ByteArray) (c : UInt8) (m : Int) (w : World) (hs : h.size ≤ 8) (hm : w.cell? ⟨0, 0, none⟩ = some (.int .i64 m)) :
    Calls Tryz.prog 176 #[.string h, .int .u8 (c.toNat : Int)] w fun e w' => e = .returned (.string ⟨(withoutL h.data.toList c).toArray⟩) ∧ Below w.heap.size w w' := by
  have hcv := conv1r w c
  obtain ⟨wa, hwa⟩ : ∃ wa, wa = w.alloc (.cells #[.int .u8 (c.toNat : Int)] 5 (0, 0)) := ⟨_, rfl⟩
  have hba : Below w.heap.size w wa := by rw [hwa]; exact (Below.refl _ _).alloc (Nat.le_refl _) _
  have h0 : 0 < w.heap.size := by
    rcases Nat.lt_or_ge 0 w.heap.size with h | h
    · exact h
    · simp [World.cell?, Array.getElem?_eq_none h] at hm
  have HR := hide (Tryz.strings_Replace h ⟨#[c]⟩ ⟨#[]⟩ 1 m wa (by omega) ((hba.cell (p := ⟨0, 0, none⟩) h0).trans hm) (Nat.le_refl 1) (by show h.size + _ * 0 ≤ _; omega))
  rw [show (⟨#[c]⟩ : ByteArray).data.toList = [c] from rfl, show (⟨#[]⟩ : ByteArray).data.toList = [] from rfl, replace_one] at HR
  have HBA := hide hba
  clear hba hm h0
  go_enter Tryz.func176, Tryz.ntmps176
  go_wp2_with fail
  rw [← hwa]
  clear hwa hcv
  refine (unhide HR).mono ?_
  rintro e w1 ⟨rfl, hb1⟩
  have HB1 := hide ((unhide HBA).trans (hb1.mono (unhide HBA).size))
  clear hb1
  go_wp2
  go_ret
  exact ⟨rfl, unhide HB1⟩

theorem wpList_append_run {P : Program} {ops : Array Oper} {rest : List Oper} {o : Oper} {a : Act} {w : World} {Q : Exit → Act → World → Prop} (hgd : o.guard = none) (s x : Operand) (t : TypeId)
    (ho : o.op = .call { callee := .builtin .append, args := #[s, x], argTypes := #[t, t] }) (v1 v2 v' : Value) (w' : World) (hs : a.eval s = v1) (hx : a.eval x = v2)
    (hrun : (Builtin.append_ #[t, t] o.type #[v1, v2]).run P w = .ok v' w') (h : wpList P ops Q rest (a.put o.dst v') w') : wpList P ops Q (o :: rest) a w :=
  wpList_plain hgd fun K hK => by
    unfold Oper.wp
    simp [execOp, ho, resolve, invoke, builtin, hs, hx, hrun, Result.andThen]
    exact hK _ _ h
theorem foldl_len : ∀ (is : List Nat) (l : List UInt8), (is.foldl (fun l i => sinkB i l) l).length = l.length
  | [], _ => rfl
  | i :: is, l => by rw [List.foldl_cons, foldl_len is, sinkB_len]
/-- One byte behind a row of bytes. -/
theorem run_append_byte (w : World) (g n cap : Nat) (l : List UInt8) (c : UInt8) (ad : Addr) (ty : TypeId) (cur : Array Value) (fz : Nat × Nat) (hg : w.heap[g]? = some (.cells cur 5 fz)) (hfz : fz = (0, 0) ∨ cur.size ≤ fz.1) (hcs : cur.size = cap) (htk : cur.toList.take l.length = bvals l) (hn : l.length = n) (hnc : n ≤ cap) (hn64 : n ≤ 64) (hc : w.cell? ad = some (.int .u8 (c.toNat : Int))) :
    ∃ g' cap' w', (Builtin.append_ #[127, 127] ty #[.slice (some ⟨g, 0, none⟩) n cap, .slice (some ad) 1 1]).run Tryz.prog w = .ok (.slice (some ⟨g', 0, none⟩) (n + 1) cap') w' ∧ RowB w' g' (l ++ [c]) ∧ (g' = g ∨ g' = w.heap.size) ∧ Bt g w w' := by
  obtain ⟨i0, hi, hz0, hz1, hz2⟩ := info_parts Tryz.info5
  have hrow : RowB w g l := ⟨cur, fz, hg, hfz, htk⟩
  have hnews : ∀ j u, [Value.int .u8 (c.toNat : Int)][j]? = some u → w.cell? (ad.add j) = some u := by
    intro j u hj
    match j, hj with
    | 0, hj => simp at hj; subst hj; rw [show ad.add 0 = ad by unfold Addr.add; split <;> simp_all]; exact hc
  by_cases hroom : n + 1 ≤ cap
  · refine ⟨g, cap, w.setCells g (0 + n) [.int .u8 (c.toNat : Int)], ?_, ?_, .inl rfl, ?_⟩
    · have hf := run_firstCells_some (P := Tryz.prog) w 1 1 ad 1 1 [.int .u8 (c.toNat : Int)] rfl hnews
      have hst := run_storeCells_cells (P := Tryz.prog) g n [.int .u8 (c.toNat : Int)] 0 w (fun j hj => by
        have : j = 0 := by simpa using hj
        subst this
        rw [cell_of_row w g _ cur _ _ hg]
        simp; omega) (fun j hj => by
        have : j = 0 := by simpa using hj
        subst this
        simp only [World.frozen?, hg]
        rcases hfz with rfl | h
        · simp
        · simp; omega) (fun v hv => by simp at hv; subst hv; rfl)
      simp only [Nat.add_zero] at hst
      simp [Builtin.append_, run_underlying Tryz.underlying127, sizeOf, typeInfo, hi, hz1, Builtin.lenOf, hroom, hf, Addr.add_lit, hst]
    · rw [Nat.zero_add]
      show RowB (w.setCell ⟨g, n, none⟩ (.int .u8 (c.toNat : Int))) g (l ++ [c])
      refine ⟨cur.setIfInBounds n (.int .u8 (c.toNat : Int)), fz, ?_, by simpa using hfz, ?_⟩
      · rw [setCell_eq_setRow w g n cur _ _ _ hg]
        exact setRow_heap w g cur _ _ _ hg
      · rw [Array.toList_setIfInBounds, List.length_append, List.length_singleton, hn, List.take_succ_eq_append_getElem (by rw [List.length_set]; simp; omega), List.take_set_of_le (Nat.le_refl _), List.getElem_set_self, ← hn, htk]
        simp [bvals]
    · exact (Bt.refl g w).put _ _
  · have hcn : cap = n := by omega
    have hgr := run_append_grow (P := Tryz.prog) w 127 ty 5 i0 (.int .u8 0) Tryz.underlying127 hi hz0 ⟨g, 0, none⟩ n cap (bvals l) (by simp [bvals, hz1, hn]) (fun j v hj => by
        have hjl : j < l.length := by have := (List.getElem?_eq_some_iff.1 hj).1; simpa [bvals] using this
        rw [show (⟨g, 0, none⟩ : Addr).add j = ⟨g, j, none⟩ by unfold Addr.add; split <;> simp_all, hrow.cell j hjl, ← hj]
        simp [bvals, hjl]) ad 1 1 [.int .u8 (c.toNat : Int)] (by simp [hz1]) hnews (by omega) (by omega) (by rw [hz2]; have := nextslicecap_le (need := n + 1) (old := cap) (by omega); omega)
    refine ⟨_, _, _, hgr, ⟨_, (0, 0), heap_alloc_new w.drew _, .inl rfl, ?_⟩, .inr rfl, ⟨rfl, rfl, rfl, by simp, fun k hk _ => (by first | exact heap_alloc_old w.drew _ hk | exact heap_alloc_old w.drew _ _ hk)⟩⟩
    simp only [Array.toList_append, List.append_assoc]
    rw [show bvals (l ++ [c]) = bvals l ++ [.int .u8 (c.toNat : Int)] by simp [bvals], ← List.append_assoc]
    rw [List.take_append_of_le_length (by simp [bvals])]
    exact List.take_of_length_le (by simp [bvals])

set_option maxHeartbeats 2000000 in
set_option maxRecDepth 100000 in
theorem with_any (h : ByteArray) (c : UInt8) (w : World) (hs : h.size ≤ 7) :
    Calls Tryz.prog 177 #[.string h, .int .u8 (c.toNat : Int)] w fun e w' => e = .returned (.string ⟨(isortB (h.data.toList ++ [c]) (h.size + 1)).toArray⟩) ∧ Below w.heap.size w w' := by
  have hne : ((h.size : Int) == 8) = false := by simp; omega
  have hcv := run_bytes_of_string (P := Tryz.prog) w 9 127 5 h Tryz.underlying9 Tryz.underlying127 Tryz.underlying5
  obtain ⟨cap, hcap⟩ : ∃ cap, cap = grownCap w h.size 0 5 := ⟨_, rfl⟩
  rw [← hcap] at hcv
  have hcg : h.size ≤ cap := by rw [hcap]; exact grownCap_ge _ _ _ _
  obtain ⟨W1, hW1⟩ : ∃ W1, W1 = w.drew.alloc (.cells (bytesRow h cap) 5 ((bytesRow h cap).size, (bytesRow h cap).size + 1)) := ⟨_, rfl⟩
  rw [← hW1] at hcv
  have hb0 : Below w.heap.size w W1 := by rw [hW1]; exact (Below.refl _ _).drew.alloc (Nat.le_refl _) _
  have hs1 : W1.heap.size = w.heap.size + 1 := by rw [hW1]; simp
  obtain ⟨W2, hW2⟩ : ∃ W2, W2 = W1.alloc (.cells #[.int .u8 (c.toNat : Int)] 5 (0, 0)) := ⟨_, rfl⟩
  have hb2 : Below W1.heap.size W1 W2 := by rw [hW2]; exact (Below.refl _ _).alloc (Nat.le_refl _) _
  have hgr : W2.heap[w.heap.size]? = some (.cells (bytesRow h cap) 5 ((bytesRow h cap).size, (bytesRow h cap).size + 1)) := by
    rw [hb2.block _ (by omega), hW1]; exact heap_alloc_new w.drew _
  have hbs : (bytesRow h cap).size = cap := by unfold bytesRow; simp; show h.size + (cap - h.size) = cap; omega
  have hbt : (bytesRow h cap).toList.take h.data.toList.length = bvals h.data.toList := by
    unfold bytesRow bvals
    rw [Array.toList_append, List.take_append_of_le_length (by simp), List.take_of_length_le (by simp)]
    simp
  obtain ⟨g', cap', W3, hrun, hrow3, hg', hbt3⟩ : ∃ g' cap' w', (∀ ty, (Builtin.append_ #[127, 127] ty #[.slice (some ⟨w.heap.size, 0, none⟩) h.size cap, .slice (some ⟨W1.heap.size, 0, none⟩) 1 1]).run Tryz.prog W2 = .ok (.slice (some ⟨g', 0, none⟩) (h.size + 1) cap') w') ∧ RowB w' g' (h.data.toList ++ [c]) ∧ (g' = w.heap.size ∨ g' = W2.heap.size) ∧ Bt w.heap.size W2 w' := by
    obtain ⟨g', cap', w', h1, h2, h3, h4⟩ := run_append_byte W2 w.heap.size h.size cap h.data.toList c ⟨W1.heap.size, 0, none⟩ 0 (bytesRow h cap) _ hgr (.inr (Nat.le_refl _)) hbs hbt (len_data h) hcg (by omega) (by rw [hW2]; exact cell_of_row _ _ _ _ _ _ (heap_alloc_new W1 _))
    exact ⟨g', cap', w', fun ty => h1, h2, h3, h4⟩
  have hSO := SortB_any g' (h.size + 1) cap' (h.data.toList ++ [c]) W3 hrow3 (by rw [List.length_append, len_data]; rfl) (by omega)
  have hlen : (isortB (h.data.toList ++ [c]) (h.size + 1)).length = h.size + 1 := by
    unfold isortB; rw [foldl_len, List.length_append, len_data]; rfl
  rw [hW2] at hrun
  have HRUN := hide hrun
  clear hrun
  have HB3 : Hid (Below w.heap.size w W3) := by
    refine hide ((hb0.trans (hb2.mono (by omega))).trans (hbt3.below (Nat.le_refl _) ?_))
    have := hb2.size; omega
  have HG : Hid (w.heap.size ≤ g' ∧ w.heap.size ≤ W3.heap.size) := hide ⟨by have := hb2.size; omega, (unhide HB3).size⟩
  have HSO := hide hSO
  have HLEN := hide hlen
  have h7 : (h.size : Int) ≤ 7 := by omega
  clear hcap hcg hW1 hb0 hs1 hW2 hb2 hgr hbs hbt hrow3 hg' hbt3 hSO hlen
  generalize isortB (h.data.toList ++ [c]) (h.size + 1) = R at *
  go_enter Tryz.func177, Tryz.ntmps177
  go_wp2_with (at_builtin; refine wpList_append_run rfl _ _ 127 rfl _ _ _ _ rfl rfl (unhide HRUN _) ?_)
  refine (unhide HSO).mono ?_
  rintro e w4 ⟨rfl, hr4, hb4⟩
  have hcv2 := RowB.conv (cap := cap') hr4 HLEN
  have HB4 := hide ((unhide HB3).trans (hb4.below (unhide HG).1 (unhide HG).2))
  clear hr4 hb4 hcv
  go_wp2
  go_ret
  exact ⟨rfl, unhide HB4⟩
end Go.Proofs.YtihojhfpepbjhaaGreatDoor
