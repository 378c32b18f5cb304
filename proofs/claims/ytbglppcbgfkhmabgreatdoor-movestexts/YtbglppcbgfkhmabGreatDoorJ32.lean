/-
  movable; MovesMirror at a position that is not of the rules.
  package moves, walked: appendCell, text.
-/
import Derived.Test.YtbglppcbgfkhmabGreatDoorJ20
import Derived.Test.YtbglppcbgfkhmabGreatDoorC6
import Derived.Test.YtbglppcbgfkhmabGreatDoorD4
import Derived.Test.YtbglppcbgfkhmabGreatDoorJ22
import Derived.Deep.Cut
import Derived.Deep.RegionLawGrows
namespace Go.Proofs.YtbglppcbgfkhmabGreatDoor
open Go.RowKit
attribute [local go_sem ↓] Go.wp_at_zero Go.wp_at_succ

theorem king_at : atB 3 1 (⟨#[75, 46, 107]⟩ : ByteArray).data.toList 0 (⟨#[]⟩ : ByteArray).data.toList (⟨#[]⟩ : ByteArray).data.toList [⟨75, 0, [⟨1, 0, 1, 0⟩]⟩] 75 0 0 9 3 1 (⟨#[75, 46, 107]⟩ : ByteArray).data.toList 0 (⟨#[]⟩ : ByteArray).data.toList (⟨#[]⟩ : ByteArray).data.toList = true := by decide +kernel
theorem king_len : (movesL 3 1 0 ⟨#[75, 46, 107]⟩ ⟨#[]⟩ ⟨#[]⟩ [⟨75, 0, [⟨1, 0, 1, 0⟩]⟩] false 75 0 0).length = 1 := by decide +kernel
theorem king_f : AtF [⟨75, 0, [⟨1, 0, 1, 0⟩]⟩] 3 1 0 ⟨#[75, 46, 107]⟩ ⟨#[]⟩ ⟨#[]⟩ 3 1 0 :=
  ⟨rfl, rfl, rfl, by omega, by omega, by omega, rfl, by decide, by decide, fun p hp z hz => by
    simp only [List.mem_singleton] at hp
    subst hp
    simp only [List.mem_singleton] at hz
    subst hz
    decide⟩
theorem king_ends : (endsP [⟨75, 0, [⟨1, 0, 1, 0⟩]⟩] false 75 0 0 1 ⟨3, 1, ⟨#[75, 46, 107]⟩, 0, ⟨#[]⟩, ⟨#[]⟩⟩).length = 1 := by
  show ((movP [⟨75, 0, [⟨1, 0, 1, 0⟩]⟩] false 75 0 0 ⟨3, 1, ⟨#[75, 46, 107]⟩, 0, ⟨#[]⟩, ⟨#[]⟩⟩).map _ ++ []).length = 1
  rw [List.append_nil, List.length_map]
  exact king_len
theorem movable_any (mx : Int) (w : World) (hm : w.cell? ⟨0, 0, none⟩ = some (.int .i64 mx)) : Calls Tryz.prog 21 #[] w fun e w' => e = .returned (.bool true) ∧ Below w.heap.size w w' := by
  have hz : (⟨#[75, 46, 107]⟩ : ByteArray).size ≤ maxLen := by decide
  have he : (⟨#[]⟩ : ByteArray).size ≤ maxLen := by decide
  refine movable_walk w (fun ao cap u _ hp => ?_) (fun ao cap u hu hp => ?_)
  · have := Moves_ok 3 1 0 ⟨#[75, 46, 107]⟩ ⟨#[]⟩ ⟨#[]⟩ ao cap [⟨75, 0, [⟨1, 0, 1, 0⟩]⟩] false false 75 0 0 9 3 1 0 ⟨#[75, 46, 107]⟩ ⟨#[]⟩ ⟨#[]⟩ u hz he he (by omega) (by omega) hp hz he he king_at 3 1 0 king_f
    rw [king_len] at this
    refine this.mono fun e w' ⟨v, h1, h2, h3⟩ => ?_
    obtain ⟨uo, uc, rfl⟩ := row_len h2
    exact ⟨uo, uc, h1, h3⟩
  · have := Count_ok 3 1 0 ⟨#[75, 46, 107]⟩ ⟨#[]⟩ ⟨#[]⟩ ao cap [⟨75, 0, [⟨1, 0, 1, 0⟩]⟩] false false 75 0 0 9 3 1 0 ⟨#[75, 46, 107]⟩ ⟨#[]⟩ ⟨#[]⟩ 1 mx u ((hu.cell (p := ⟨0, 0, none⟩) (World.block_lt_of_cell? w ⟨0, 0, none⟩ hm)).trans hm) hz he he (by omega) (by omega) hp hz he he king_at ⟨3, 1, 0, king_f⟩ (by omega)
    refine this.mono fun e w' ⟨h1, h2⟩ => ?_
    rcases h2 with ⟨h2, _⟩ | ⟨_, i, hi, h3⟩
    · rw [king_ends] at h2
      exact ⟨h2, h1⟩
    · rcases (by omega : i = 0 ∨ i = 1) with rfl | rfl
      · simp [endsP] at h3
      · rw [king_ends] at h3
        omega

set_option maxHeartbeats 4000000 in
set_option maxRecDepth 100000 in
theorem mirror_no (v0 v1 v2 v3 v4 v5 v6 v7 v8 v9 v10 v11 v12 : Value) (W H T : Int) (C A B : ByteArray) (w : World)
    (hMv : ∀ u, Below w.heap.size w u → Calls Tryz.prog 21 #[] u fun e w' => e = .returned (.bool true) ∧ Below u.heap.size u w')
    (hM0 : ∀ u, Below w.heap.size w u → Calls Tryz.prog 7 #[.agg #[v0, v1, v2, v3, v4, v5, v6, v7, v8, v9, v10, v11, v12], .agg #[.int .i64 W, .int .i64 H, .string C, .int .i64 T, .string A, .string B]] u fun e w' => e = .returned (.tuple #[.slice none 0 0, .int .i64 1]) ∧ Below u.heap.size u w')
    (hO0 : ∀ u, Below w.heap.size w u → Calls Tryz.prog 8 #[.agg #[v0, v1, v2, v3, v4, v5, v6, v7, v8, v9, v10, v11, v12], .agg #[.int .i64 W, .int .i64 H, .string C, .int .i64 T, .string A, .string B]] u fun e w' => e = .returned (.tuple #[.int .i64 0, .int .i64 1]) ∧ Below u.heap.size u w') :
    Calls Tryz.prog 5 #[.agg #[v0, v1, v2, v3, v4, v5, v6, v7, v8, v9, v10, v11, v12], .agg #[.int .i64 W, .int .i64 H, .string C, .int .i64 T, .string A, .string B]] w fun e w' => e = .returned (.bool true) ∧ Below w.heap.size w w' := by
  obtain ⟨w1, hw1⟩ : ∃ w1, w1 = w.alloc (.cells #[v0, v1, v2, v3, v4, v5, v6, v7, v8, v9, v10, v11, v12] 27 (0, 0)) := ⟨_, rfl⟩
  obtain ⟨w2, hw2⟩ : ∃ w2, w2 = w1.alloc (.cells #[.int .i64 W, .int .i64 H, .string C, .int .i64 T, .string A, .string B] 24 (0, 0)) := ⟨_, rfl⟩
  have hb1 : Below w.heap.size w w1 := by rw [hw1]; exact (Below.refl _ _).alloc (Nat.le_refl _) _
  have hb2 : Below w1.heap.size w1 w2 := by rw [hw2]; exact (Below.refl _ _).alloc (Nat.le_refl _) _
  have s1 : w1.heap.size = w.heap.size + 1 := by rw [hw1]; simp
  have s2 : w2.heap.size = w.heap.size + 2 := by rw [hw2]; simp [s1]
  have hmf2 : MF w v0 v1 v2 v3 v4 v5 v6 v7 v8 v9 v10 v11 v12 W H T C A B w2 :=
    ⟨isRu.below (show isRu w1 w.heap.size v0 v1 v2 v3 v4 v5 v6 v7 v8 v9 v10 v11 v12 by rw [hw1]; exact heap_alloc_new w _) hb2 (by omega), by rw [hw2, ← s1]; exact heap_alloc_new w1 _, hb1.trans (hb2.mono (by omega)), by omega⟩
  have HMF := hide hmf2
  have HW1 := hide hw1
  have HW2 := hide hw2
  have HMV := hide hMv
  have HM0 := hide hM0
  have HO0 := hide hO0
  clear hw1 hw2 hb1 hb2 s1 s2 hmf2 hMv hM0 hO0
  go_enter Tryz.func5, Tryz.ntmps5
  go_wp2_with fail
  rw [← unhide HW1, ← unhide HW2]
  refine (unhide HMV _ (unhide HMF).bw).mono ?_
  rintro e w3 ⟨rfl, hb3⟩
  have HMF3 := hide ((unhide HMF).step hb3)
  clear HMF hb3 HW1 HW2 HMV
  obtain ⟨r0, r1, r2, r3, r4, r5, r6, r7, r8, r9, r10, r11, r12⟩ := (unhide HMF3).ru.cells
  obtain ⟨p0, p1, p2, p3, p4, p5⟩ := (unhide HMF3).pb.all
  go_wp2_with fail
  refine (unhide HM0 _ (unhide HMF3).bw).mono ?_
  rintro e w4 ⟨rfl, hb4⟩
  have HMF4 := hide ((unhide HMF3).step hb4)
  clear HMF3 hb4 HM0 r0 r1 r2 r3 r4 r5 r6 r7 r8 r9 r10 r11 r12 p0 p1 p2 p3 p4 p5
  obtain ⟨r0, r1, r2, r3, r4, r5, r6, r7, r8, r9, r10, r11, r12⟩ := (unhide HMF4).ru.cells
  obtain ⟨p0, p1, p2, p3, p4, p5⟩ := (unhide HMF4).pb.all
  go_wp2_with fail
  refine (unhide HO0 _ (unhide HMF4).bw).mono ?_
  rintro e w5 ⟨rfl, hb5⟩
  have HB5 := hide ((unhide HMF4).step hb5).bw
  clear HMF4 hb5 HO0 r0 r1 r2 r3 r4 r5 r6 r7 r8 r9 r10 r11 r12 p0 p1 p2 p3 p4 p5
  go_wp2
  go_ret
  exact ⟨rfl, unhide HB5⟩
end Go.Proofs.YtbglppcbgfkhmabGreatDoor

namespace Go.Proofs.YtbglppcbgfkhmabGreatDoor
open Go.RowKit
attribute [local go_sem ↓] Go.wp_at_zero Go.wp_at_succ

theorem infoU8 : (Tryz.prog.info? 5).map (fun i => (i.zero, i.size, i.bytes)) = some (some (.int .u8 0), 1, 1) := by kernel_rfl
theorem own_low8 {w : World} {base e size : Nat} {v : Value} {n : Nat} {xs : List Value} (h : w.ownsRow base e size v n xs) : ∀ k, v.ownBlock = some k → base ≤ k := fun k hk => (h.lt k hk).1
theorem row_slice8 {w : World} {base : Nat} {e : TypeId} {size n : Nat} {v : Value} {xs : List Value} (h : w.ownsRow base e size v n xs) : ∃ uo uc, v = .slice uo n uc := by
  rcases h.2 with ⟨h1, h2⟩ | ⟨g, cap, cur, h1, -⟩
  · exact ⟨none, 0, by rw [h1, h2]⟩
  · exact ⟨_, _, h1⟩
theorem own_conv {w : World} {base n : Nat} {uo : Option Addr} {uc : Nat} {l : List UInt8} (h : w.ownsRow base 5 1 (.slice uo n uc) n (bvals l)) (hl : l.length = n) (hn : 0 < n) : (convert 69 9 (.slice uo n uc)).run Tryz.prog w = .ok (.string ⟨l.toArray⟩) w := by
  rcases h.2 with ⟨h1, h2⟩ | ⟨g, cap, cur, h1, -, hg, -, -, -, ht⟩
  · omega
  · cases h1
    refine RowB.conv (l := l) ⟨cur, (0, 0), hg, .inl rfl, ?_⟩ (hide hl)
    rw [hl, ← ht, Nat.mul_one]

theorem step_append8 {P : Program} {ops : Array Oper} {o : Oper} {a : Act} {w : World} {K : Act → World → Prop} {Q : Exit → Act → World → Prop} {E : Prop}
    (hg : o.guard = none) (s x : Operand) (t : TypeId) (hop : o.op = Op.call { callee := Callee.builtin Builtin.append, args := #[s, x], argTypes := #[t, t] })
    (base : Nat) (e : TypeId) (i : TypeInfo) (z : Value) (size bytes : Nat) (h1 : P.underlying t = some (.slice e)) (h2 : P.info? e = some i) (h3 : i.zero = some z) (h4 : i.size = size) (h5 : i.bytes = bytes) (h6 : z.cells.size = size) (h7 : 0 < size)
    (v : Value) (n : Nat) (xs : List Value) (hs : a.eval s = v) (hown : w.ownsRow base e size v n xs)
    (ad : Addr) (m c : Nat) (news : List Value) (hx : a.eval x = .slice (some ad) m c) (hn : news.length = m * size) (hc : ∀ j u, news[j]? = some u → w.cell? (ad.add j) = some u) (h1c : ∀ u ∈ news, u.oneCell' = true)
    (b1 : n + m ≤ maxLen) (b2 : (n + m) * bytes ≤ 140737488355328) (hbase : base ≤ w.heap.size)
    (hK : ∀ v' w', w'.ownsRow base e size v' (n + m) (xs ++ news) → w.grownBy w' v.ownBlock → K (a.put o.dst v') w') :
    if Region.wanted o (yielded ops a.tmps) = true then Oper.wp P o a w K Q else E := by
  have hw : Region.wanted o (yielded ops a.tmps) = true := by simp [Region.wanted, hg]
  rw [if_pos hw]
  obtain ⟨v', w', hrun, r1, r2, _⟩ := run_append_own (P := P) w base t o.type e i z size bytes h1 h2 h3 h4 h5 h6 h7 v n xs hown ad m c news hn hc h1c b1 b2 hbase
  unfold Oper.wp
  simp [execOp, hop, resolve, invoke, builtin, hs, hx, hrun, Result.andThen]
  exact hK v' w' r1 r2
/-- The two bytes of a cell. -/
def cellT (W i : Nat) : List UInt8 := [UInt8.ofNat (97 + i % W), UInt8.ofNat (49 + i / W)]
set_option maxHeartbeats 2000000 in
set_option maxRecDepth 100000 in
theorem appendCell_any (uo : Option Addr) (n uc base : Nat) (l : List UInt8) (W : Nat) (H T : Int) (C A B : ByteArray) (i : Nat) (w : World) (h : w.ownsRow base 5 1 (.slice uo n uc) n (bvals l)) (hn : n ≤ 10) (hb : base ≤ w.heap.size) (hW : 1 ≤ W ∧ W ≤ 8) (hi64 : i < 64) :
    Calls Tryz.prog 73 #[.slice uo n uc, .agg #[.int .i64 (W : Int), .int .i64 H, .string C, .int .i64 T, .string A, .string B], .int .i64 (i : Int)] w fun e w' => ∃ vo vc, e = .returned (.slice vo (n + 2) vc) ∧ w'.ownsRow base 5 1 (.slice vo (n + 2) vc) (n + 2) (bvals (l ++ cellT W i)) ∧ Below base w w' := by
  have et : ((i : Int)).tmod (W : Int) = ((i % W : Nat) : Int) := by rw [Int.tmod_eq_emod_of_nonneg (by omega)]; rfl
  have eq : ((i : Int)).tdiv (W : Int) = ((i / W : Nat) : Int) := by rw [Int.tdiv_eq_ediv_of_nonneg (by omega)]; rfl
  have hx : i % W < W := Nat.mod_lt _ (by omega)
  have hy : i / W ≤ 63 := Nat.le_trans (Nat.div_le_self _ _) (by omega)
  have hW0 : ¬ (W : Int) = 0 := by omega
  have hWn : ¬ W = 0 := by omega
  have hWb : ((W : Int) == 0) = false := by simp; omega
  have hW1 : ((W : Int) == -1) = false := by simp
  have hcell : bvals (l ++ cellT W i) = bvals l ++ [.int .u8 ((97 + i % W : Nat) : Int), .int .u8 ((49 + i / W : Nat) : Int)] := by
    have h1 : (UInt8.ofNat (97 + i % W)).toNat = 97 + i % W := Nat.mod_eq_of_lt (by omega)
    have h2 : (UInt8.ofNat (49 + i / W)).toNat = 49 + i / W := Nat.mod_eq_of_lt (by generalize i / W = y at hy; omega)
    unfold cellT bvals
    rw [List.map_append, List.map_cons, List.map_cons, List.map_nil, h1, h2]
  generalize i % W = x at *
  generalize i / W = y at *
  obtain ⟨a, ha⟩ : ∃ a, a = 97 + x := ⟨_, rfl⟩
  obtain ⟨b, hbb⟩ : ∃ b, b = 49 + y := ⟨_, rfl⟩
  rw [← ha, ← hbb] at hcell
  have ea : 97 + (x : Int) = (a : Int) := by omega
  have eb : 49 + (y : Int) = (b : Int) := by omega
  have wa : IntKind.u8.wrap (a : Int) = (a : Int) := by unfold IntKind.wrap; simp [IntKind.signed, IntKind.bits]; omega
  have wb : IntKind.u8.wrap (b : Int) = (b : Int) := by unfold IntKind.wrap; simp [IntKind.signed, IntKind.bits]; omega
  have wx : IntKind.u8.wrap (x : Int) = (x : Int) := by unfold IntKind.wrap; simp [IntKind.signed, IntKind.bits]; omega
  have wy : IntKind.u8.wrap (y : Int) = (y : Int) := by unfold IntKind.wrap; simp [IntKind.signed, IntKind.bits]; omega
  have wy64 : IntKind.i64.wrap (y : Int) = (y : Int) := by unfold IntKind.wrap; simp [IntKind.signed, IntKind.bits]; omega
  obtain ⟨w1, hw1⟩ : ∃ w1, w1 = w.alloc (.cells #[.int .i64 (W : Int), .int .i64 H, .string C, .int .i64 T, .string A, .string B] 24 (0, 0)) := ⟨_, rfl⟩
  have hb1 : Below w.heap.size w w1 := by rw [hw1]; exact (Below.refl _ _).alloc (Nat.le_refl _) _
  have hpb : isPb w1 w.heap.size W H T C A B := by rw [hw1]; exact heap_alloc_new w _
  have s1 : w1.heap.size = w.heap.size + 1 := by rw [hw1]; simp
  have ho1 : w1.ownsRow base 5 1 (.slice uo n uc) n (bvals l) := own_below h hb1
  obtain ⟨p0, p1, p2, p3, p4, p5⟩ := hpb.all
  obtain ⟨i0, hi, hz0, hz1, hz2⟩ := info_parts infoU8
  have HROW : Hid (∀ o, (w1.alloc o).drew.ownsRow base 5 1 (.slice uo n uc) n (bvals l)) := hide fun o => (ho1.alloc o)
  have HC1 : Hid (∀ (j : Nat) (u : Value), [Value.int .u8 (a : Int), .int .u8 (b : Int)][j]? = some u → (w1.alloc (.cells #[.int .u8 (a : Int), .int .u8 (b : Int)] 5 (0, 0))).drew.cell? ((⟨w1.heap.size, 0, none⟩ : Addr).add j) = some u) := by
    refine hide fun j u hj => ?_
    have hx := heap_alloc_new w1 (.cells #[.int .u8 (a : Int), .int .u8 (b : Int)] 5 (0, 0))
    match j, hj with
    | 0, hj => simp only [List.getElem?_cons_zero, Option.some.injEq] at hj; subst hj; exact cell_of_row _ _ _ _ _ _ hx
    | 1, hj => simp only [List.getElem?_cons_succ, List.getElem?_cons_zero, Option.some.injEq] at hj; subst hj; exact cell_of_row _ _ _ _ _ _ hx
  have HC2 : Hid (∀ u ∈ [Value.int .u8 (a : Int), .int .u8 (b : Int)], u.oneCell' = true) := hide fun u hu => by
    simp only [List.mem_cons, List.not_mem_nil, or_false] at hu
    rcases hu with rfl | rfl <;> rfl
  have HC3 : Hid (n + 2 ≤ maxLen) := hide (by unfold maxLen; omega)
  have HC4 : Hid ((n + 2) * 1 ≤ 140737488355328) := hide (by omega)
  have HC5 : Hid (∀ o, base ≤ (w1.alloc o).drew.heap.size) := hide fun o => by show base ≤ (w1.alloc o).heap.size; simp; omega
  have HFIN : Hid (∀ o v' w9, w9.ownsRow base 5 1 v' (n + 2) (bvals l ++ [Value.int .u8 (a : Int), .int .u8 (b : Int)]) → (w1.alloc o).drew.grownBy w9 (Value.slice uo n uc).ownBlock → Below base w w9) := hide fun o v' w9 hown9 hgrow => by
    have hgrow' : (w1.alloc o).grownBy w9 (Value.slice uo n uc).ownBlock := ⟨hgrow.os, hgrow.tape, hgrow.output, hgrow.size, hgrow.block⟩
    exact ((hb1.mono hb).alloc (by omega) o).grown hgrow' (by simp; omega) (own_low8 h)
  have HW1 := hide hw1
  have HCELL := hide hcell
  clear hb1 hpb s1 ho1 hw1 hcell ha hbb h
  go_enter Tryz.func73, Tryz.ntmps73
  go_upto_region 1 with fail
  rw [← unhide HW1]
  go_region_law (refine step_append8 rfl (.tmp 7) (.tmp 20) 69 rfl base 5 i0 _ 1 1 Tryz.underlying69 hi hz0 hz1 hz2 rfl (by decide) (.slice uo n uc) n (bvals l) (by simp [Act.eval]) (unhide HROW _) ⟨w1.heap.size, 0, none⟩ 2 2 [.int .u8 (a : Int), .int .u8 (b : Int)] (by simp [Act.eval]) rfl (unhide HC1) (unhide HC2) (unhide HC3) (unhide HC4) (unhide HC5 _) ?_; intro v' w9 hown9 hgrow9; have HB9 := hide (unhide HFIN _ v' w9 hown9 hgrow9); obtain ⟨vo, vc, rfl⟩ := row_slice8 hown9; have HO9 := hide hown9; clear hown9 hgrow9)
  all_goals
    go_wp2
    go_ret
    exact ⟨vo, vc, rfl, by rw [unhide HCELL]; exact unhide HO9, unhide HB9⟩
end Go.Proofs.YtbglppcbgfkhmabGreatDoor
