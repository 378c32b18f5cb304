/-
  package moves, walked: without, with.
  package moves, walked: appendCell, text.
-/
import Derived.Test.YtihojhfpepbjhaaGreatDoorJ19
import Derived.Test.YtihojhfpepbjhaaGreatDoorJ22
import Derived.Deep.RegionLawGrows
import Derived.Deep.Cut
namespace Go.Proofs.YtihojhfpepbjhaaGreatDoor
open Go.RowKit
attribute [local go_sem ↓] Go.wp_at_zero Go.wp_at_succ

/-- A hand without a letter. -/
def withoutL (h : List UInt8) (c : UInt8) : List UInt8 := if Lib.indexByte h c = -1 then h else h.take (Lib.indexByte h c).toNat ++ h.drop ((Lib.indexByte h c).toNat + 1)
theorem replace_one (h : List UInt8) (c : UInt8) : Lib.replace h [c] [] 1 = withoutL h c := by
  unfold Lib.replace withoutL
  rw [if_neg (by simp), ← Lib.index_one h c]
  by_cases hi : Lib.index h [c] = -1
  · rw [if_pos hi]
    unfold Lib.replaceNum
    rw [Lib.count_miss hi, if_pos (.inr (by decide))]
    rfl
  · rw [if_neg hi]
    obtain ⟨i, hii⟩ : ∃ i : Nat, Lib.index h [c] = i := by
      have := Lib.index_ge h [c]
      exact ⟨(Lib.index h [c]).toNat, by omega⟩
    have hpos : 0 < Lib.count h [c] := by
      rw [Lib.count_hit (by simp) hii]; omega
    unfold Lib.replaceNum
    rw [if_neg (by omega), show (1 : Int).toNat = 0 + 1 from rfl, Lib.replaceK_hit _ _ _ _ i hii, hii]
    simp [Lib.replaceK]

theorem conv1r (w : World) (c : UInt8) :
    (convert 127 9 (.slice (some ⟨w.heap.size, 0, none⟩) 1 1)).run Tryz.prog (w.alloc (.cells #[.int .u8 (c.toNat : Int)] 5)) = .ok (.string ⟨#[c]⟩) (w.alloc (.cells #[.int .u8 (c.toNat : Int)] 5)) := by
  refine run_convert_bytes_back (w.alloc (.cells #[.int .u8 (c.toNat : Int)] 5)) 127 9 5 ⟨w.heap.size, 0, none⟩ 1 [c] Tryz.underlying127 Tryz.underlying5 Tryz.underlying9 fun j hj => ?_
  have e : (⟨w.heap.size, 0, none⟩ : Addr).add j = ⟨w.heap.size, 0 + j, none⟩ := by unfold Addr.add; split <;> simp_all
  rw [e, cell_of_row _ _ _ _ _ _ (heap_alloc_new w _)]
  have hj0 : j = 0 := by simpa using hj
  subst hj0
  rfl

set_option maxHeartbeats 2000000 in
set_option maxRecDepth 100000 in
theorem without_any (h : ByteArray) (c : UInt8) (m : Int) (w : World) (hs : h.size ≤ 8) (hm : w.cell? ⟨0, 0, none⟩ = some (.int .i64 m)) :
    Calls Tryz.prog 176 #[.string h, .int .u8 (c.toNat : Int)] w fun e w' => e = .returned (.string ⟨(withoutL h.data.toList c).toArray⟩) ∧ Below w.heap.size w w' := by
  have hcv := conv1r w c
  obtain ⟨wa, hwa⟩ : ∃ wa, wa = w.alloc (.cells #[.int .u8 (c.toNat : Int)] 5 (0, 0)) := ⟨_, rfl⟩
  have hba : Below w.heap.size w wa := by rw [hwa]; exact (Below.refl _ _).alloc (Nat.le_refl _) _
  have h0 : 0 < w.heap.size := by
    rcases Nat.lt_or_ge 0 w.heap.size with h | h
    · exact h
    · simp [World.cell?, Array.getElem?_eq_none h] at hm
  have HR := hide (Tryz.strings_Replace h ⟨#[c]⟩ ⟨#[]⟩ 1 m wa (by omega) ((hba.cell (p := ⟨0, 0, none⟩) h0).trans hm) (Nat.le_refl 1) (by show h.size + _ * 0 ≤ _; omega))
  rw [show (⟨#[c]⟩ : ByteArray).data.toList = [c] from rfl, show (⟨#[]⟩ : ByteArray).data.toList = [] from rfl, replace_one] at HR
  have HBA := hide hba
  clear hba hm h0
  go_enter Tryz.func176, Tryz.ntmps176
  go_wp2_with fail
  rw [← hwa]
  clear hwa hcv
  refine (unhide HR).mono ?_
  rintro e w1 ⟨rfl, hb1⟩
  have HB1 := hide ((unhide HBA).trans (hb1.mono (unhide HBA).size))
  clear hb1
  go_wp2
  go_ret
  exact ⟨rfl, unhide HB1⟩

theorem wpList_append_run {P : Program} {ops : Array Oper} {rest : List Oper} {o : Oper} {a : Act} {w : World} {Q : Exit → Act → World → Prop} (hgd : o.guard = none) (s x : Operand) (t : TypeId)
    (ho : o.op = .call { callee := .builtin .append, args := #[s, x], argTypes := #[t, t] }) (v1 v2 v' : Value) (w' : World) (hs : a.eval s = v1) (hx : a.eval x = v2)
    (hrun : (Builtin.append_ #[t, t] o.type #[v1, v2]).run P w = .ok v' w') (h : wpList P ops Q rest (a.put o.dst v') w') : wpList P ops Q (o :: rest) a w :=
  wpList_plain hgd fun K hK => by
    unfold Oper.wp
    simp [execOp, ho, resolve, invoke, builtin, hs, hx, hrun, Result.andThen]
    exact hK _ _ h
theorem foldl_len : ∀ (is : List Nat) (l : List UInt8), (is.foldl (fun l i => sinkB i l) l).length = l.length
  | [], _ => rfl
  | i :: is, l => by rw [List.foldl_cons, foldl_len is, sinkB_len]
/-- One byte behind a row of bytes. -/
theorem run_append_byte (w : World) (g n cap : Nat) (l : List UInt8) (c : UInt8) (ad : Addr) (ty : TypeId) (cur : Array Value) (fz : Nat × Nat) (hg : w.heap[g]? = some (.cells cur 5 fz)) (hfz : fz = (0, 0) ∨ cur.size ≤ fz.1) (hcs : cur.size = cap) (htk : cur.toList.take l.length = bvals l) (hn : l.length = n) (hnc : n ≤ cap) (hn64 : n ≤ 64) (hc : w.cell? ad = some (.int .u8 (c.toNat : Int))) :
    ∃ g' cap' w', (Builtin.append_ #[127, 127] ty #[.slice (some ⟨g, 0, none⟩) n cap, .slice (some ad) 1 1]).run Tryz.prog w = .ok (.slice (some ⟨g', 0, none⟩) (n + 1) cap') w' ∧ RowB w' g' (l ++ [c]) ∧ (g' = g ∨ g' = w.heap.size) ∧ Bt g w w' := by
  obtain ⟨i0, hi, hz0, hz1, hz2⟩ := info_parts Tryz.info5
  have hrow : RowB w g l := ⟨cur, fz, hg, hfz, htk⟩
  have hnews : ∀ j u, [Value.int .u8 (c.toNat : Int)][j]? = some u → w.cell? (ad.add j) = some u := by
    intro j u hj
    match j, hj with
    | 0, hj => simp at hj; subst hj; rw [show ad.add 0 = ad by unfold Addr.add; split <;> simp_all]; exact hc
  by_cases hroom : n + 1 ≤ cap
  · refine ⟨g, cap, w.setCells g (0 + n) [.int .u8 (c.toNat : Int)], ?_, ?_, .inl rfl, ?_⟩
    · have hf := run_firstCells_some (P := Tryz.prog) w 1 1 ad 1 1 [.int .u8 (c.toNat : Int)] rfl hnews
      have hst := run_storeCells_cells (P := Tryz.prog) g n [.int .u8 (c.toNat : Int)] 0 w (fun j hj => by
        have : j = 0 := by simpa using hj
        subst this
        rw [cell_of_row w g _ cur _ _ hg]
        simp; omega) (fun j hj => by
        have : j = 0 := by simpa using hj
        subst this
        simp only [World.frozen?, hg]
        rcases hfz with rfl | h
        · simp
        · simp; omega) (fun v hv => by simp at hv; subst hv; rfl)
      simp only [Nat.add_zero] at hst
      simp [Builtin.append_, run_underlying Tryz.underlying127, sizeOf, typeInfo, hi, hz1, Builtin.lenOf, hroom, hf, Addr.add_lit, hst]
    · rw [Nat.zero_add]
      show RowB (w.setCell ⟨g, n, none⟩ (.int .u8 (c.toNat : Int))) g (l ++ [c])
      refine ⟨cur.setIfInBounds n (.int .u8 (c.toNat : Int)), fz, ?_, by simpa using hfz, ?_⟩
      · rw [setCell_eq_setRow w g n cur _ _ _ hg]
        exact setRow_heap w g cur _ _ _ hg
      · rw [Array.toList_setIfInBounds, List.length_append, List.length_singleton, hn, List.take_succ_eq_append_getElem (by rw [List.length_set]; simp; omega), List.take_set_of_le (Nat.le_refl _), List.getElem_set_self, ← hn, htk]
        simp [bvals]
    · exact (Bt.refl g w).put _ _
  · have hcn : cap = n := by omega
    have hgr := run_append_grow (P := Tryz.prog) w 127 ty 5 i0 (.int .u8 0) Tryz.underlying127 hi hz0 ⟨g, 0, none⟩ n cap (bvals l) (by simp [bvals, hz1, hn]) (fun j v hj => by
        have hjl : j < l.length := by have := (List.getElem?_eq_some_iff.1 hj).1; simpa [bvals] using this
        rw [show (⟨g, 0, none⟩ : Addr).add j = ⟨g, j, none⟩ by unfold Addr.add; split <;> simp_all, hrow.cell j hjl, ← hj]
        simp [bvals, hjl]) ad 1 1 [.int .u8 (c.toNat : Int)] (by simp [hz1]) hnews (by omega) (by omega) (by rw [hz2]; have := nextslicecap_le (need := n + 1) (old := cap) (by omega); omega)
    refine ⟨_, _, _, hgr, ⟨_, (0, 0), heap_alloc_new w.drew _, .inl rfl, ?_⟩, .inr rfl, ⟨rfl, rfl, rfl, by simp, fun k hk _ => (by first | exact heap_alloc_old w.drew _ hk | exact heap_alloc_old w.drew _ _ hk)⟩⟩
    simp only [Array.toList_append, List.append_assoc]
    rw [show bvals (l ++ [c]) = bvals l ++ [.int .u8 (c.toNat : Int)] by simp [bvals], ← List.append_assoc]
    rw [List.take_append_of_le_length (by simp [bvals])]
    exact List.take_of_length_le (by simp [bvals])

set_option maxHeartbeats 2000000 in
set_option maxRecDepth 100000 in
theorem with_any (h : ByteArray) (c : UInt8) (w : World) (hs : h.size ≤ 7) :
    Calls Tryz.prog 177 #[.string h, .int .u8 (c.toNat : Int)] w fun e w' => e = .returned (.string ⟨(isortB (h.data.toList ++ [c]) (h.size + 1)).toArray⟩) ∧ Below w.heap.size w w' := by
  have hne : ((h.size : Int) == 8) = false := by simp; omega
  have hcv := run_bytes_of_string (P := Tryz.prog) w 9 127 5 h Tryz.underlying9 Tryz.underlying127 Tryz.underlying5
  obtain ⟨cap, hcap⟩ : ∃ cap, cap = grownCap w h.size 0 5 := ⟨_, rfl⟩
  rw [← hcap] at hcv
  have hcg : h.size ≤ cap := by rw [hcap]; exact grownCap_ge _ _ _ _
  obtain ⟨W1, hW1⟩ : ∃ W1, W1 = w.drew.alloc (.cells (bytesRow h cap) 5 ((bytesRow h cap).size, (bytesRow h cap).size + 1)) := ⟨_, rfl⟩
  rw [← hW1] at hcv
  have hb0 : Below w.heap.size w W1 := by rw [hW1]; exact (Below.refl _ _).drew.alloc (Nat.le_refl _) _
  have hs1 : W1.heap.size = w.heap.size + 1 := by rw [hW1]; simp
  obtain ⟨W2, hW2⟩ : ∃ W2, W2 = W1.alloc (.cells #[.int .u8 (c.toNat : Int)] 5 (0, 0)) := ⟨_, rfl⟩
  have hb2 : Below W1.heap.size W1 W2 := by rw [hW2]; exact (Below.refl _ _).alloc (Nat.le_refl _) _
  have hgr : W2.heap[w.heap.size]? = some (.cells (bytesRow h cap) 5 ((bytesRow h cap).size, (bytesRow h cap).size + 1)) := by
    rw [hb2.block _ (by omega), hW1]; exact heap_alloc_new w.drew _
  have hbs : (bytesRow h cap).size = cap := by unfold bytesRow; simp; show h.size + (cap - h.size) = cap; omega
  have hbt : (bytesRow h cap).toList.take h.data.toList.length = bvals h.data.toList := by
    unfold bytesRow bvals
    rw [Array.toList_append, List.take_append_of_le_length (by simp), List.take_of_length_le (by simp)]
    simp
  obtain ⟨g', cap', W3, hrun, hrow3, hg', hbt3⟩ : ∃ g' cap' w', (∀ ty, (Builtin.append_ #[127, 127] ty #[.slice (some ⟨w.heap.size, 0, none⟩) h.size cap, .slice (some ⟨W1.heap.size, 0, none⟩) 1 1]).run Tryz.prog W2 = .ok (.slice (some ⟨g', 0, none⟩) (h.size + 1) cap') w') ∧ RowB w' g' (h.data.toList ++ [c]) ∧ (g' = w.heap.size ∨ g' = W2.heap.size) ∧ Bt w.heap.size W2 w' := by
    obtain ⟨g', cap', w', h1, h2, h3, h4⟩ := run_append_byte W2 w.heap.size h.size cap h.data.toList c ⟨W1.heap.size, 0, none⟩ 0 (bytesRow h cap) _ hgr (.inr (Nat.le_refl _)) hbs hbt (len_data h) hcg (by omega) (by rw [hW2]; exact cell_of_row _ _ _ _ _ _ (heap_alloc_new W1 _))
    exact ⟨g', cap', w', fun ty => h1, h2, h3, h4⟩
  have hSO := SortB_any g' (h.size + 1) cap' (h.data.toList ++ [c]) W3 hrow3 (by rw [List.length_append, len_data]; rfl) (by omega)
  have hlen : (isortB (h.data.toList ++ [c]) (h.size + 1)).length = h.size + 1 := by
    unfold isortB; rw [foldl_len, List.length_append, len_data]; rfl
  rw [hW2] at hrun
  have HRUN := hide hrun
  clear hrun
  have HB3 : Hid (Below w.heap.size w W3) := by
    refine hide ((hb0.trans (hb2.mono (by omega))).trans (hbt3.below (Nat.le_refl _) ?_))
    have := hb2.size; omega
  have HG : Hid (w.heap.size ≤ g' ∧ w.heap.size ≤ W3.heap.size) := hide ⟨by have := hb2.size; omega, (unhide HB3).size⟩
  have HSO := hide hSO
  have HLEN := hide hlen
  have h7 : (h.size : Int) ≤ 7 := by omega
  clear hcap hcg hW1 hb0 hs1 hW2 hb2 hgr hbs hbt hrow3 hg' hbt3 hSO hlen
  generalize isortB (h.data.toList ++ [c]) (h.size + 1) = R at *
  go_enter Tryz.func177, Tryz.ntmps177
  go_wp2_with (at_builtin; refine wpList_append_run rfl _ _ 127 rfl _ _ _ _ rfl rfl (unhide HRUN _) ?_)
  refine (unhide HSO).mono ?_
  rintro e w4 ⟨rfl, hr4, hb4⟩
  have hcv2 := RowB.conv (cap := cap') hr4 HLEN
  have HB4 := hide ((unhide HB3).trans (hb4.below (unhide HG).1 (unhide HG).2))
  clear hr4 hb4 hcv
  go_wp2
  go_ret
  exact ⟨rfl, unhide HB4⟩
end Go.Proofs.YtihojhfpepbjhaaGreatDoor

namespace Go.Proofs.YtihojhfpepbjhaaGreatDoor
open Go.RowKit
attribute [local go_sem ↓] Go.wp_at_zero Go.wp_at_succ

theorem infoU8 : (Tryz.prog.info? 5).map (fun i => (i.zero, i.size, i.bytes)) = some (some (.int .u8 0), 1, 1) := by kernel_rfl
theorem own_low8 {w : World} {base e size : Nat} {v : Value} {n : Nat} {xs : List Value} (h : w.ownsRow base e size v n xs) : ∀ k, v.ownBlock = some k → base ≤ k := fun k hk => (h.lt k hk).1
theorem row_slice8 {w : World} {base : Nat} {e : TypeId} {size n : Nat} {v : Value} {xs : List Value} (h : w.ownsRow base e size v n xs) : ∃ uo uc, v = .slice uo n uc := by
  rcases h.2 with ⟨h1, h2⟩ | ⟨g, cap, cur, h1, -⟩
  · exact ⟨none, 0, by rw [h1, h2]⟩
  · exact ⟨_, _, h1⟩
theorem own_conv {w : World} {base n : Nat} {uo : Option Addr} {uc : Nat} {l : List UInt8} (h : w.ownsRow base 5 1 (.slice uo n uc) n (bvals l)) (hl : l.length = n) (hn : 0 < n) : (convert 127 9 (.slice uo n uc)).run Tryz.prog w = .ok (.string ⟨l.toArray⟩) w := by
  rcases h.2 with ⟨h1, h2⟩ | ⟨g, cap, cur, h1, -, hg, -, -, -, ht⟩
  · omega
  · cases h1
    refine RowB.conv (l := l) ⟨cur, (0, 0), hg, .inl rfl, ?_⟩ (hide hl)
    rw [hl, ← ht, Nat.mul_one]

theorem step_append8 {P : Program} {ops : Array Oper} {o : Oper} {a : Act} {w : World} {K : Act → World → Prop} {Q : Exit → Act → World → Prop} {E : Prop}
    (hg : o.guard = none) (s x : Operand) (t : TypeId) (hop : o.op = Op.call { callee := Callee.builtin Builtin.append, args := #[s, x], argTypes := #[t, t] })
    (base : Nat) (e : TypeId) (i : TypeInfo) (z : Value) (size bytes : Nat) (h1 : P.underlying t = some (.slice e)) (h2 : P.info? e = some i) (h3 : i.zero = some z) (h4 : i.size = size) (h5 : i.bytes = bytes) (h6 : z.cells.size = size) (h7 : 0 < size)
    (v : Value) (n : Nat) (xs : List Value) (hs : a.eval s = v) (hown : w.ownsRow base e size v n xs)
    (ad : Addr) (m c : Nat) (news : List Value) (hx : a.eval x = .slice (some ad) m c) (hn : news.length = m * size) (hc : ∀ j u, news[j]? = some u → w.cell? (ad.add j) = some u) (h1c : ∀ u ∈ news, u.oneCell' = true)
    (b1 : n + m ≤ maxLen) (b2 : (n + m) * bytes ≤ 140737488355328) (hbase : base ≤ w.heap.size)
    (hK : ∀ v' w', w'.ownsRow base e size v' (n + m) (xs ++ news) → w.grownBy w' v.ownBlock → K (a.put o.dst v') w') :
    if Region.wanted o (yielded ops a.tmps) = true then Oper.wp P o a w K Q else E := by
  have hw : Region.wanted o (yielded ops a.tmps) = true := by simp [Region.wanted, hg]
  rw [if_pos hw]
  obtain ⟨v', w', hrun, r1, r2, _⟩ := run_append_own (P := P) w base t o.type e i z size bytes h1 h2 h3 h4 h5 h6 h7 v n xs hown ad m c news hn hc h1c b1 b2 hbase
  unfold Oper.wp
  simp [execOp, hop, resolve, invoke, builtin, hs, hx, hrun, Result.andThen]
  exact hK v' w' r1 r2
/-- The two bytes of a cell. -/
def cellT (W i : Nat) : List UInt8 := [UInt8.ofNat (97 + i % W), UInt8.ofNat (49 + i / W)]
set_option maxHeartbeats 2000000 in
set_option maxRecDepth 100000 in
theorem appendCell_any (uo : Option Addr) (n uc base : Nat) (l : List UInt8) (W : Nat) (H T : Int) (C A B : ByteArray) (i : Nat) (w : World) (h : w.ownsRow base 5 1 (.slice uo n uc) n (bvals l)) (hn : n ≤ 10) (hb : base ≤ w.heap.size) (hW : 1 ≤ W ∧ W ≤ 8) (hi64 : i < 64) :
    Calls Tryz.prog 174 #[.slice uo n uc, .agg #[.int .i64 (W : Int), .int .i64 H, .string C, .int .i64 T, .string A, .string B], .int .i64 (i : Int)] w fun e w' => ∃ vo vc, e = .returned (.slice vo (n + 2) vc) ∧ w'.ownsRow base 5 1 (.slice vo (n + 2) vc) (n + 2) (bvals (l ++ cellT W i)) ∧ Below base w w' := by
  have et : ((i : Int)).tmod (W : Int) = ((i % W : Nat) : Int) := by rw [Int.tmod_eq_emod_of_nonneg (by omega)]; rfl
  have eq : ((i : Int)).tdiv (W : Int) = ((i / W : Nat) : Int) := by rw [Int.tdiv_eq_ediv_of_nonneg (by omega)]; rfl
  have hx : i % W < W := Nat.mod_lt _ (by omega)
  have hy : i / W ≤ 63 := Nat.le_trans (Nat.div_le_self _ _) (by omega)
  have hW0 : ¬ (W : Int) = 0 := by omega
  have hWn : ¬ W = 0 := by omega
  have hWb : ((W : Int) == 0) = false := by simp; omega
  have hW1 : ((W : Int) == -1) = false := by simp
  have hcell : bvals (l ++ cellT W i) = bvals l ++ [.int .u8 ((97 + i % W : Nat) : Int), .int .u8 ((49 + i / W : Nat) : Int)] := by
    have h1 : (UInt8.ofNat (97 + i % W)).toNat = 97 + i % W := Nat.mod_eq_of_lt (by omega)
    have h2 : (UInt8.ofNat (49 + i / W)).toNat = 49 + i / W := Nat.mod_eq_of_lt (by generalize i / W = y at hy; omega)
    unfold cellT bvals
    rw [List.map_append, List.map_cons, List.map_cons, List.map_nil, h1, h2]
  generalize i % W = x at *
  generalize i / W = y at *
  obtain ⟨a, ha⟩ : ∃ a, a = 97 + x := ⟨_, rfl⟩
  obtain ⟨b, hbb⟩ : ∃ b, b = 49 + y := ⟨_, rfl⟩
  rw [← ha, ← hbb] at hcell
  have ea : 97 + (x : Int) = (a : Int) := by omega
  have eb : 49 + (y : Int) = (b : Int) := by omega
  have wa : IntKind.u8.wrap (a : Int) = (a : Int) := by unfold IntKind.wrap; simp [IntKind.signed, IntKind.bits]; omega
  have wb : IntKind.u8.wrap (b : Int) = (b : Int) := by unfold IntKind.wrap; simp [IntKind.signed, IntKind.bits]; omega
  have wx : IntKind.u8.wrap (x : Int) = (x : Int) := by unfold IntKind.wrap; simp [IntKind.signed, IntKind.bits]; omega
  have wy : IntKind.u8.wrap (y : Int) = (y : Int) := by unfold IntKind.wrap; simp [IntKind.signed, IntKind.bits]; omega
  have wy64 : IntKind.i64.wrap (y : Int) = (y : Int) := by unfold IntKind.wrap; simp [IntKind.signed, IntKind.bits]; omega
  obtain ⟨w1, hw1⟩ : ∃ w1, w1 = w.alloc (.cells #[.int .i64 (W : Int), .int .i64 H, .string C, .int .i64 T, .string A, .string B] 24 (0, 0)) := ⟨_, rfl⟩
  have hb1 : Below w.heap.size w w1 := by rw [hw1]; exact (Below.refl _ _).alloc (Nat.le_refl _) _
  have hpb : isPb w1 w.heap.size W H T C A B := by rw [hw1]; exact heap_alloc_new w _
  have s1 : w1.heap.size = w.heap.size + 1 := by rw [hw1]; simp
  have ho1 : w1.ownsRow base 5 1 (.slice uo n uc) n (bvals l) := own_below h hb1
  obtain ⟨p0, p1, p2, p3, p4, p5⟩ := hpb.all
  obtain ⟨i0, hi, hz0, hz1, hz2⟩ := info_parts infoU8
  have HROW : Hid (∀ o, (w1.alloc o).drew.ownsRow base 5 1 (.slice uo n uc) n (bvals l)) := hide fun o => (ho1.alloc o)
  have HC1 : Hid (∀ (j : Nat) (u : Value), [Value.int .u8 (a : Int), .int .u8 (b : Int)][j]? = some u → (w1.alloc (.cells #[.int .u8 (a : Int), .int .u8 (b : Int)] 5 (0, 0))).drew.cell? ((⟨w1.heap.size, 0, none⟩ : Addr).add j) = some u) := by
    refine hide fun j u hj => ?_
    have hx := heap_alloc_new w1 (.cells #[.int .u8 (a : Int), .int .u8 (b : Int)] 5 (0, 0))
    match j, hj with
    | 0, hj => simp only [List.getElem?_cons_zero, Option.some.injEq] at hj; subst hj; exact cell_of_row _ _ _ _ _ _ hx
    | 1, hj => simp only [List.getElem?_cons_succ, List.getElem?_cons_zero, Option.some.injEq] at hj; subst hj; exact cell_of_row _ _ _ _ _ _ hx
  have HC2 : Hid (∀ u ∈ [Value.int .u8 (a : Int), .int .u8 (b : Int)], u.oneCell' = true) := hide fun u hu => by
    simp only [List.mem_cons, List.not_mem_nil, or_false] at hu
    rcases hu with rfl | rfl <;> rfl
  have HC3 : Hid (n + 2 ≤ maxLen) := hide (by unfold maxLen; omega)
  have HC4 : Hid ((n + 2) * 1 ≤ 140737488355328) := hide (by omega)
  have HC5 : Hid (∀ o, base ≤ (w1.alloc o).drew.heap.size) := hide fun o => by show base ≤ (w1.alloc o).heap.size; simp; omega
  have HFIN : Hid (∀ o v' w9, w9.ownsRow base 5 1 v' (n + 2) (bvals l ++ [Value.int .u8 (a : Int), .int .u8 (b : Int)]) → (w1.alloc o).drew.grownBy w9 (Value.slice uo n uc).ownBlock → Below base w w9) := hide fun o v' w9 hown9 hgrow => by
    have hgrow' : (w1.alloc o).grownBy w9 (Value.slice uo n uc).ownBlock := ⟨hgrow.os, hgrow.tape, hgrow.output, hgrow.size, hgrow.block⟩
    exact ((hb1.mono hb).alloc (by omega) o).grown hgrow' (by simp; omega) (own_low8 h)
  have HW1 := hide hw1
  have HCELL := hide hcell
  clear hb1 hpb s1 ho1 hw1 hcell ha hbb h
  go_enter Tryz.func174, Tryz.ntmps174
  go_upto_region 1 with fail
  rw [← unhide HW1]
  go_region_law (refine step_append8 rfl (.tmp 7) (.tmp 20) 127 rfl base 5 i0 _ 1 1 Tryz.underlying127 hi hz0 hz1 hz2 rfl (by decide) (.slice uo n uc) n (bvals l) (by simp [Act.eval]) (unhide HROW _) ⟨w1.heap.size, 0, none⟩ 2 2 [.int .u8 (a : Int), .int .u8 (b : Int)] (by simp [Act.eval]) rfl (unhide HC1) (unhide HC2) (unhide HC3) (unhide HC4) (unhide HC5 _) ?_; intro v' w9 hown9 hgrow9; have HB9 := hide (unhide HFIN _ v' w9 hown9 hgrow9); obtain ⟨vo, vc, rfl⟩ := row_slice8 hown9; have HO9 := hide hown9; clear hown9 hgrow9)
  all_goals
    go_wp2
    go_ret
    exact ⟨vo, vc, rfl, by rw [unhide HCELL]; exact unhide HO9, unhide HB9⟩
end Go.Proofs.YtihojhfpepbjhaaGreatDoor
