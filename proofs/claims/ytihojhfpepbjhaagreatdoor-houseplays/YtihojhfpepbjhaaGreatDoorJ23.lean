/-
  package moves, walked: appendCell, text.
  package moves, walked: text.
  Contracts of the library, at this program: one application each.
-/
import Derived.Test.YtihojhfpepbjhaaGreatDoorJ14
import Derived.Deep.Cut
import Derived.Deep.RegionLawGrows
import Derived.Shelf.Strconv.Itoa3
import Derived.Test.YtihojhfpepbjhaaGreatDoorProg
namespace Go.Proofs.YtihojhfpepbjhaaGreatDoor
open Go.RowKit
attribute [local go_sem ↓] Go.wp_at_zero Go.wp_at_succ

theorem infoU8 : (Tryz.prog.info? 5).map (fun i => (i.zero, i.size, i.bytes)) = some (some (.int .u8 0), 1, 1) := by kernel_rfl
theorem own_low8 {w : World} {base e size : Nat} {v : Value} {n : Nat} {xs : List Value} (h : w.ownsRow base e size v n xs) : ∀ k, v.ownBlock = some k → base ≤ k := fun k hk => (h.lt k hk).1
theorem row_slice8 {w : World} {base : Nat} {e : TypeId} {size n : Nat} {v : Value} {xs : List Value} (h : w.ownsRow base e size v n xs) : ∃ uo uc, v = .slice uo n uc := by
  rcases h.2 with ⟨h1, h2⟩ | ⟨g, cap, cur, h1, -⟩
  · exact ⟨none, 0, by rw [h1, h2]⟩
  · exact ⟨_, _, h1⟩
theorem own_conv {w : World} {base n : Nat} {uo : Option Addr} {uc : Nat} {l : List UInt8} (h : w.ownsRow base 5 1 (.slice uo n uc) n (bvals l)) (hl : l.length = n) (hn : 0 < n) : (convert 127 9 (.slice uo n uc)).run Tryz.prog w = .ok (.string ⟨l.toArray⟩) w := by
  rcases h.2 with ⟨h1, h2⟩ | ⟨g, cap, cur, h1, -, hg, -, -, -, ht⟩
  · omega
  · cases h1
    refine RowB.conv (l := l) ⟨cur, (0, 0), hg, .inl rfl, ?_⟩ (hide hl)
    rw [hl, ← ht, Nat.mul_one]

theorem step_append8 {P : Program} {ops : Array Oper} {o : Oper} {a : Act} {w : World} {K : Act → World → Prop} {Q : Exit → Act → World → Prop} {E : Prop}
    (hg : o.guard = none) (s x : Operand) (t : TypeId) (hop : o.op = Op.call { callee := Callee.builtin Builtin.append, args := #[s, x], argTypes := #[t, t] })
    (base : Nat) (e : TypeId) (i : TypeInfo) (z : Value) (size bytes : Nat) (h1 : P.underlying t = some (.slice e)) (h2 : P.info? e = some i) (h3 : i.zero = some z) (h4 : i.size = size) (h5 : i.bytes = bytes) (h6 : z.cells.size = size) (h7 : 0 < size)
    (v : Value) (n : Nat) (xs : List Value) (hs : a.eval s = v) (hown : w.ownsRow base e size v n xs)
    (ad : Addr) (m c : Nat) (news : List Value) (hx : a.eval x = .slice (some ad) m c) (hn : news.length = m * size) (hc : ∀ j u, news[j]? = some u → w.cell? (ad.add j) = some u) (h1c : ∀ u ∈ news, u.oneCell' = true)
    (b1 : n + m ≤ maxLen) (b2 : (n + m) * bytes ≤ 140737488355328) (hbase : base ≤ w.heap.size)
    (hK : ∀ v' w', w'.ownsRow base e size v' (n + m) (xs ++ news) → w.grownBy w' v.ownBlock → K (a.put o.dst v') w') :
    if Region.wanted o (yielded ops a.tmps) = true then Oper.wp P o a w K Q else E := by
  have hw : Region.wanted o (yielded ops a.tmps) = true := by simp [Region.wanted, hg]
  rw [if_pos hw]
  obtain ⟨v', w', hrun, r1, r2, _⟩ := run_append_own (P := P) w base t o.type e i z size bytes h1 h2 h3 h4 h5 h6 h7 v n xs hown ad m c news hn hc h1c b1 b2 hbase
  unfold Oper.wp
  simp [execOp, hop, resolve, invoke, builtin, hs, hx, hrun, Result.andThen]
  exact hK v' w' r1 r2
/-- The two bytes of a cell. -/
def cellT (W i : Nat) : List UInt8 := [UInt8.ofNat (97 + i % W), UInt8.ofNat (49 + i / W)]
set_option maxHeartbeats 2000000 in
set_option maxRecDepth 100000 in
theorem appendCell_any (uo : Option Addr) (n uc base : Nat) (l : List UInt8) (W : Nat) (H T : Int) (C A B : ByteArray) (i : Nat) (w : World) (h : w.ownsRow base 5 1 (.slice uo n uc) n (bvals l)) (hn : n ≤ 10) (hb : base ≤ w.heap.size) (hW : 1 ≤ W ∧ W ≤ 8) (hi64 : i < 64) :
    Calls Tryz.prog 174 #[.slice uo n uc, .agg #[.int .i64 (W : Int), .int .i64 H, .string C, .int .i64 T, .string A, .string B], .int .i64 (i : Int)] w fun e w' => ∃ vo vc, e = .returned (.slice vo (n + 2) vc) ∧ w'.ownsRow base 5 1 (.slice vo (n + 2) vc) (n + 2) (bvals (l ++ cellT W i)) ∧ Below base w w' := by
  have et : ((i : Int)).tmod (W : Int) = ((i % W : Nat) : Int) := by rw [Int.tmod_eq_emod_of_nonneg (by omega)]; rfl
  have eq : ((i : Int)).tdiv (W : Int) = ((i / W : Nat) : Int) := by rw [Int.tdiv_eq_ediv_of_nonneg (by omega)]; rfl
  have hx : i % W < W := Nat.mod_lt _ (by omega)
  have hy : i / W ≤ 63 := Nat.le_trans (Nat.div_le_self _ _) (by omega)
  have hW0 : ¬ (W : Int) = 0 := by omega
  have hWn : ¬ W = 0 := by omega
  have hWb : ((W : Int) == 0) = false := by simp; omega
  have hW1 : ((W : Int) == -1) = false := by simp
  have hcell : bvals (l ++ cellT W i) = bvals l ++ [.int .u8 ((97 + i % W : Nat) : Int), .int .u8 ((49 + i / W : Nat) : Int)] := by
    have h1 : (UInt8.ofNat (97 + i % W)).toNat = 97 + i % W := Nat.mod_eq_of_lt (by omega)
    have h2 : (UInt8.ofNat (49 + i / W)).toNat = 49 + i / W := Nat.mod_eq_of_lt (by generalize i / W = y at hy; omega)
    unfold cellT bvals
    rw [List.map_append, List.map_cons, List.map_cons, List.map_nil, h1, h2]
  generalize i % W = x at *
  generalize i / W = y at *
  obtain ⟨a, ha⟩ : ∃ a, a = 97 + x := ⟨_, rfl⟩
  obtain ⟨b, hbb⟩ : ∃ b, b = 49 + y := ⟨_, rfl⟩
  rw [← ha, ← hbb] at hcell
  have ea : 97 + (x : Int) = (a : Int) := by omega
  have eb : 49 + (y : Int) = (b : Int) := by omega
  have wa : IntKind.u8.wrap (a : Int) = (a : Int) := by unfold IntKind.wrap; simp [IntKind.signed, IntKind.bits]; omega
  have wb : IntKind.u8.wrap (b : Int) = (b : Int) := by unfold IntKind.wrap; simp [IntKind.signed, IntKind.bits]; omega
  have wx : IntKind.u8.wrap (x : Int) = (x : Int) := by unfold IntKind.wrap; simp [IntKind.signed, IntKind.bits]; omega
  have wy : IntKind.u8.wrap (y : Int) = (y : Int) := by unfold IntKind.wrap; simp [IntKind.signed, IntKind.bits]; omega
  have wy64 : IntKind.i64.wrap (y : Int) = (y : Int) := by unfold IntKind.wrap; simp [IntKind.signed, IntKind.bits]; omega
  obtain ⟨w1, hw1⟩ : ∃ w1, w1 = w.alloc (.cells #[.int .i64 (W : Int), .int .i64 H, .string C, .int .i64 T, .string A, .string B] 24 (0, 0)) := ⟨_, rfl⟩
  have hb1 : Below w.heap.size w w1 := by rw [hw1]; exact (Below.refl _ _).alloc (Nat.le_refl _) _
  have hpb : isPb w1 w.heap.size W H T C A B := by rw [hw1]; exact heap_alloc_new w _
  have s1 : w1.heap.size = w.heap.size + 1 := by rw [hw1]; simp
  have ho1 : w1.ownsRow base 5 1 (.slice uo n uc) n (bvals l) := own_below h hb1
  obtain ⟨p0, p1, p2, p3, p4, p5⟩ := hpb.all
  obtain ⟨i0, hi, hz0, hz1, hz2⟩ := info_parts infoU8
  have HROW : Hid (∀ o, (w1.alloc o).drew.ownsRow base 5 1 (.slice uo n uc) n (bvals l)) := hide fun o => (ho1.alloc o)
  have HC1 : Hid (∀ (j : Nat) (u : Value), [Value.int .u8 (a : Int), .int .u8 (b : Int)][j]? = some u → (w1.alloc (.cells #[.int .u8 (a : Int), .int .u8 (b : Int)] 5 (0, 0))).drew.cell? ((⟨w1.heap.size, 0, none⟩ : Addr).add j) = some u) := by
    refine hide fun j u hj => ?_
    have hx := heap_alloc_new w1 (.cells #[.int .u8 (a : Int), .int .u8 (b : Int)] 5 (0, 0))
    match j, hj with
    | 0, hj => simp only [List.getElem?_cons_zero, Option.some.injEq] at hj; subst hj; exact cell_of_row _ _ _ _ _ _ hx
    | 1, hj => simp only [List.getElem?_cons_succ, List.getElem?_cons_zero, Option.some.injEq] at hj; subst hj; exact cell_of_row _ _ _ _ _ _ hx
  have HC2 : Hid (∀ u ∈ [Value.int .u8 (a : Int), .int .u8 (b : Int)], u.oneCell' = true) := hide fun u hu => by
    simp only [List.mem_cons, List.not_mem_nil, or_false] at hu
    rcases hu with rfl | rfl <;> rfl
  have HC3 : Hid (n + 2 ≤ maxLen) := hide (by unfold maxLen; omega)
  have HC4 : Hid ((n + 2) * 1 ≤ 140737488355328) := hide (by omega)
  have HC5 : Hid (∀ o, base ≤ (w1.alloc o).drew.heap.size) := hide fun o => by show base ≤ (w1.alloc o).heap.size; simp; omega
  have HFIN : Hid (∀ o v' w9, w9.ownsRow base 5 1 v' (n + 2) (bvals l ++ [Value.int .u8 (a : Int), .int .u8 (b : Int)]) → (w1.alloc o).drew.grownBy w9 (Value.slice uo n uc).ownBlock → Below base w w9) := hide fun o v' w9 hown9 hgrow => by
    have hgrow' : (w1.alloc o).grownBy w9 (Value.slice uo n uc).ownBlock := ⟨hgrow.os, hgrow.tape, hgrow.output, hgrow.size, hgrow.block⟩
    exact ((hb1.mono hb).alloc (by omega) o).grown hgrow' (by simp; omega) (own_low8 h)
  have HW1 := hide hw1
  have HCELL := hide hcell
  clear hb1 hpb s1 ho1 hw1 hcell ha hbb h
  go_enter Tryz.func174, Tryz.ntmps174
  go_upto_region 1 with fail
  rw [← unhide HW1]
  go_region_law (refine step_append8 rfl (.tmp 7) (.tmp 20) 127 rfl base 5 i0 _ 1 1 Tryz.underlying127 hi hz0 hz1 hz2 rfl (by decide) (.slice uo n uc) n (bvals l) (by simp [Act.eval]) (unhide HROW _) ⟨w1.heap.size, 0, none⟩ 2 2 [.int .u8 (a : Int), .int .u8 (b : Int)] (by simp [Act.eval]) rfl (unhide HC1) (unhide HC2) (unhide HC3) (unhide HC4) (unhide HC5 _) ?_; intro v' w9 hown9 hgrow9; have HB9 := hide (unhide HFIN _ v' w9 hown9 hgrow9); obtain ⟨vo, vc, rfl⟩ := row_slice8 hown9; have HO9 := hide hown9; clear hown9 hgrow9)
  all_goals
    go_wp2
    go_ret
    exact ⟨vo, vc, rfl, by rw [unhide HCELL]; exact unhide HO9, unhide HB9⟩
end Go.Proofs.YtihojhfpepbjhaaGreatDoor

namespace Go.Proofs.YtihojhfpepbjhaaGreatDoor
open Go.RowKit
attribute [local go_sem ↓] Go.wp_at_zero Go.wp_at_succ

/-- A move's text. -/
def txtL (W : Nat) (C : ByteArray) (f : Int) (t : Nat) (c : UInt8) : List UInt8 :=
  if f = -1 then [c, 64] ++ cellT W t else ([c] ++ cellT W f.toNat ++ [if cellN C t = 46 then 45 else 120]) ++ cellT W t
theorem own_one {w : World} (base : Nat) (c : UInt8) (hb : base ≤ w.heap.size) : (w.alloc (.cells #[.int .u8 (c.toNat : Int)] 5 (0, 0))).ownsRow base 5 1 (.slice (some ⟨w.heap.size, 0, none⟩) 1 1) 1 (bvals [c]) := by
  refine ⟨rfl, .inr ⟨w.heap.size, 1, #[.int .u8 (c.toNat : Int)], rfl, hb, heap_alloc_new w _, Nat.le_refl _, by unfold maxLen; omega, rfl, rfl⟩⟩
theorem one_new (w : World) (c : UInt8) : ∀ (j : Nat) (u : Value), [Value.int .u8 (c.toNat : Int)][j]? = some u → (w.alloc (.cells #[.int .u8 (c.toNat : Int)] 5 (0, 0))).cell? ((⟨w.heap.size, 0, none⟩ : Addr).add j) = some u := fun j u hj => by
  have hx := heap_alloc_new w (.cells #[.int .u8 (c.toNat : Int)] 5 (0, 0))
  match j, hj with
  | 0, hj => simp only [List.getElem?_cons_zero, Option.some.injEq] at hj; subst hj; exact cell_of_row _ _ _ _ _ _ hx

set_option maxHeartbeats 2000000 in
set_option maxRecDepth 100000 in
theorem text_drop (W : Nat) (H T : Int) (C A B : ByteArray) (t : Nat) (c : UInt8) (w : World) (hW : 1 ≤ W ∧ W ≤ 8) (ht : t < 64) :
    Calls Tryz.prog 143 #[.agg #[.int .i64 (W : Int), .int .i64 H, .string C, .int .i64 T, .string A, .string B], .agg #[.int .i64 (-1), .int .i64 (t : Int), .int .u8 (c.toNat : Int)]] w fun e w' => e = .returned (.string ⟨(txtL W C (-1) t c).toArray⟩) ∧ Below w.heap.size w w' := by
  obtain ⟨f, hf⟩ : ∃ f : Int, f = -1 := ⟨_, rfl⟩
  unfold txtL
  rw [if_pos rfl, ← hf]
  obtain ⟨w1, hw1⟩ : ∃ w1, w1 = w.alloc (.cells #[.int .i64 (W : Int), .int .i64 H, .string C, .int .i64 T, .string A, .string B] 24 (0, 0)) := ⟨_, rfl⟩
  obtain ⟨w2, hw2⟩ : ∃ w2, w2 = w1.alloc (.cells #[.int .i64 f, .int .i64 (t : Int), .int .u8 (c.toNat : Int)] 61 (0, 0)) := ⟨_, rfl⟩
  obtain ⟨w3, hw3⟩ : ∃ w3, w3 = w2.alloc (.cells #[.int .u8 (c.toNat : Int)] 5 (0, 0)) := ⟨_, rfl⟩
  have hb1 : Below w.heap.size w w1 := by rw [hw1]; exact (Below.refl _ _).alloc (Nat.le_refl _) _
  have hb2 : Below w1.heap.size w1 w2 := by rw [hw2]; exact (Below.refl _ _).alloc (Nat.le_refl _) _
  have hb3 : Below w2.heap.size w2 w3 := by rw [hw3]; exact (Below.refl _ _).alloc (Nat.le_refl _) _
  have s1 : w1.heap.size = w.heap.size + 1 := by rw [hw1]; simp
  have s2 : w2.heap.size = w.heap.size + 1 + 1 := by rw [hw2]; simp [s1]
  have s3 : w3.heap.size = w.heap.size + 1 + 1 + 1 := by rw [hw3]; simp [s2]
  have hpb : isPb w3 w.heap.size W H T C A B := isPb.below (isPb.below (show isPb w1 w.heap.size W H T C A B by rw [hw1]; exact heap_alloc_new w _) hb2 (by omega)) hb3 (by omega)
  have hmb : isMb w3 (w.heap.size + 1) f t (c.toNat : Int) := isMb.below (show isMb w2 (w.heap.size + 1) f t (c.toNat : Int) by rw [hw2, ← s1]; exact heap_alloc_new w1 _) hb3 (by omega)
  have hown : w3.ownsRow (w.heap.size + 1 + 1) 5 1 (.slice (some ⟨w2.heap.size, 0, none⟩) 1 1) 1 (bvals [c]) := by rw [hw3]; exact own_one _ c (by omega)
  rw [s2] at hown
  have hbw : Below w.heap.size w w3 := (hb1.trans (hb2.mono (by omega))).trans (hb3.mono (by omega))
  obtain ⟨i0, hi, hz0, hz1, hz2⟩ := info_parts infoU8
  have HPB := hide hpb
  have HMB := hide hmb
  have HOWN := hide hown
  have HBW := hide hbw
  have HW1 := hide hw1
  have HW2 := hide hw2
  have HW3 := hide hw3
  have HS3 := hide s3
  have hfb : (f == -1) = true := by simp [hf]
  obtain ⟨p0, p1, p2, p3, p4, p5⟩ := hpb.all
  obtain ⟨m0, m1, m2⟩ := hmb.all
  have HF := hide hf
  clear hw1 hw2 hw3 hb1 hb2 hb3 s1 s2 s3 hpb hmb hown hbw hf
  go_enter Tryz.func143, Tryz.ntmps143
  go_upto_region 2 with fail
  rw [← unhide HW1, ← unhide HW2, ← unhide HW3]
  clear HW1 HW2 HW3
  go_wp2_with
    (at_builtin; refine wpList_append_own _ rfl _ _ 127 rfl (w.heap.size + 1 + 1) 5 i0 _ 1 1 Tryz.underlying127 hi hz0 hz1 hz2 rfl (by decide) _ 1 (bvals [c]) rfl ((unhide HOWN).alloc _) ⟨w3.heap.size, 0, none⟩ 1 1 [.int .u8 64] rfl rfl (one_new w3 64) (fun u hu => by simp only [List.mem_singleton] at hu; subst hu; rfl) (by unfold maxLen; omega) (by omega) (by simp; have := unhide HS3; omega) ?_; intro v4 w4 hown4 hgrow4 _
     have hb4 : Below (w.heap.size + 1 + 1) w3 w4 := ((Below.refl _ _).alloc (by have := unhide HS3; omega) _).grown hgrow4 (by simp; have := unhide HS3; omega) (own_low8 (unhide HOWN))
     obtain ⟨uo, uc, rfl⟩ := row_slice8 hown4
     have hp4 := (unhide HPB).below hb4 (by omega)
     have hm4 := (unhide HMB).below hb4 (by omega)
     obtain ⟨x0, x1, x2, x3, x4, x5⟩ := hp4.all
     obtain ⟨y0, y1, y2⟩ := hm4.all
     have HP4 := hide hp4
     have HM4 := hide hm4
     have HB4 := hide ((unhide HBW).trans (hb4.mono (by omega)))
     have HS4 := hide (show w.heap.size + 1 + 1 ≤ w4.heap.size by have := hb4.size; have := unhide HS3; omega)
     have HO4 := hide hown4
     clear hown4 hgrow4 hb4 hp4 hm4)
  have hown4 : w4.ownsRow (w.heap.size + 1 + 1) 5 1 (.slice uo (1 + 1) uc) (1 + 1) (bvals [c, 64]) := unhide HO4
  have HAC := hide (appendCell_any uo (1 + 1) uc (w.heap.size + 1 + 1) [c, 64] W H T C A B t w4 hown4 (by omega) (unhide HS4) hW ht)
  refine (unhide HAC).mono ?_
  rintro e w5 ⟨vo, vc, rfl, hown5, hb5⟩
  have hcv := own_conv hown5 (by simp [cellT]) (by omega)
  have HB5 := hide ((unhide HB4).trans (hb5.mono (by omega)))
  clear hown4 hown5 hb5 HAC x0 x1 x2 x3 x4 x5 y0 y1 y2
  go_wp2
  go_ret
  exact ⟨rfl, unhide HB5⟩
set_option maxHeartbeats 2000000 in
set_option maxRecDepth 100000 in
theorem text_go (W : Nat) (H T : Int) (C A B : ByteArray) (fr t : Nat) (c : UInt8) (w : World) (hW : 1 ≤ W ∧ W ≤ 8) (hfr : fr < 64) (ht : t < 64) (htC : t < C.size) :
    Calls Tryz.prog 143 #[.agg #[.int .i64 (W : Int), .int .i64 H, .string C, .int .i64 T, .string A, .string B], .agg #[.int .i64 (fr : Int), .int .i64 (t : Int), .int .u8 (c.toNat : Int)]] w fun e w' => e = .returned (.string ⟨(txtL W C fr t c).toArray⟩) ∧ Below w.heap.size w w' := by
  unfold txtL
  rw [if_neg (by omega), Int.toNat_natCast]
  obtain ⟨f, hf⟩ : ∃ f : Int, f = fr := ⟨_, rfl⟩
  rw [← hf]
  obtain ⟨w1, hw1⟩ : ∃ w1, w1 = w.alloc (.cells #[.int .i64 (W : Int), .int .i64 H, .string C, .int .i64 T, .string A, .string B] 24 (0, 0)) := ⟨_, rfl⟩
  obtain ⟨w2, hw2⟩ : ∃ w2, w2 = w1.alloc (.cells #[.int .i64 f, .int .i64 (t : Int), .int .u8 (c.toNat : Int)] 61 (0, 0)) := ⟨_, rfl⟩
  obtain ⟨w3, hw3⟩ : ∃ w3, w3 = w2.alloc (.cells #[.int .u8 (c.toNat : Int)] 5 (0, 0)) := ⟨_, rfl⟩
  have hb1 : Below w.heap.size w w1 := by rw [hw1]; exact (Below.refl _ _).alloc (Nat.le_refl _) _
  have hb2 : Below w1.heap.size w1 w2 := by rw [hw2]; exact (Below.refl _ _).alloc (Nat.le_refl _) _
  have hb3 : Below w2.heap.size w2 w3 := by rw [hw3]; exact (Below.refl _ _).alloc (Nat.le_refl _) _
  have s1 : w1.heap.size = w.heap.size + 1 := by rw [hw1]; simp
  have s2 : w2.heap.size = w.heap.size + 1 + 1 := by rw [hw2]; simp [s1]
  have s3 : w3.heap.size = w.heap.size + 1 + 1 + 1 := by rw [hw3]; simp [s2]
  have hpb : isPb w3 w.heap.size W H T C A B := isPb.below (isPb.below (show isPb w1 w.heap.size W H T C A B by rw [hw1]; exact heap_alloc_new w _) hb2 (by omega)) hb3 (by omega)
  have hmb : isMb w3 (w.heap.size + 1) f t (c.toNat : Int) := isMb.below (show isMb w2 (w.heap.size + 1) f t (c.toNat : Int) by rw [hw2, ← s1]; exact heap_alloc_new w1 _) hb3 (by omega)
  have hown : w3.ownsRow (w.heap.size + 1 + 1) 5 1 (.slice (some ⟨w2.heap.size, 0, none⟩) 1 1) 1 (bvals [c]) := by rw [hw3]; exact own_one _ c (by omega)
  rw [s2] at hown
  have hbw : Below w.heap.size w w3 := (hb1.trans (hb2.mono (by omega))).trans (hb3.mono (by omega))
  obtain ⟨i0, hi, hz0, hz1, hz2⟩ := info_parts infoU8
  have HPB := hide hpb
  have HMB := hide hmb
  have HOWN := hide hown
  have HBW := hide hbw
  have HW1 := hide hw1
  have HW2 := hide hw2
  have HW3 := hide hw3
  have HS3 := hide s3
  have hfb : (f == -1) = false := by simp; omega
  obtain ⟨p0, p1, p2, p3, p4, p5⟩ := hpb.all
  obtain ⟨m0, m1, m2⟩ := hmb.all
  have HF := hide hf
  have HAC1 := hide (appendCell_any (some ⟨w.heap.size + 1 + 1, 0, none⟩) 1 1 (w.heap.size + 1 + 1) [c] W H T C A B fr w3 hown (by omega) (by omega) hW hfr)
  rw [← hf] at HAC1
  obtain ⟨hcn, h256⟩ := cellN_at C t htC
  obtain ⟨N, hN⟩ : ∃ N, N = cellN C t := ⟨_, rfl⟩
  rw [← hN] at hcn h256 ⊢
  have htl : (t : Int) < (C.size : Int) := by omega
  have ht0 : (0 : Int) ≤ (t : Int) := by omega
  have hC64 : C.size ≤ 9223372036854775807 ∨ True := .inr trivial
  clear hw1 hw2 hw3 hb1 hb2 hb3 s1 s2 s3 hpb hmb hown hbw hf hN hC64
  by_cases h46 : N = 46
  · have hb46 : ((N : Int) == 46) = true := by simp [h46]
    rw [if_pos h46]
    clear h46
    go_enter Tryz.func143, Tryz.ntmps143
    go_upto_region 2 with fail
    rw [← unhide HW1, ← unhide HW2, ← unhide HW3]
    clear HW1 HW2 HW3
    go_wp2_with fail
    refine (unhide HAC1).mono ?_
    rintro e w5 ⟨ao, ac, rfl, hown5, hb5⟩
    have hp5 := (unhide HPB).below hb5 (by omega)
    have hm5 := (unhide HMB).below hb5 (by omega)
    have HO5 := hide hown5
    have HS5 := hide (show w.heap.size + 1 + 1 ≤ w5.heap.size by have := hb5.size; have := unhide HS3; omega)
    have HB5 := hide ((unhide HBW).trans (hb5.mono (by omega)))
    clear HPB HMB HBW HOWN HS3 HAC1 hown5 hb5 p0 p1 p2 p3 p4 p5 m0 m1 m2
    obtain ⟨p0, p1, p2, p3, p4, p5⟩ := hp5.all
    obtain ⟨m0, m1, m2⟩ := hm5.all
    have HPB := hide hp5
    have HMB := hide hm5
    have HBW := HB5
    clear hp5 hm5 HB5
    go_wp2_with
      (at_builtin; refine wpList_append_own _ rfl _ _ 127 rfl (w.heap.size + 1 + 1) 5 i0 _ 1 1 Tryz.underlying127 hi hz0 hz1 hz2 rfl (by decide) _ (1 + 2) (bvals ([c] ++ cellT W fr)) rfl ((unhide HO5).alloc _) ⟨w5.heap.size, 0, none⟩ 1 1 [.int .u8 45] rfl rfl (one_new w5 45) (fun u hu => by simp only [List.mem_singleton] at hu; subst hu; rfl) (by unfold maxLen; omega) (by omega) (by simp; have := unhide HS5; omega) ?_; intro v4 w4 hown4 hgrow4 _
       have hb4 : Below (w.heap.size + 1 + 1) w5 w4 := ((Below.refl _ _).alloc (by have := unhide HS5; omega) _).grown hgrow4 (by simp; have := unhide HS5; omega) (own_low8 (unhide HO5))
       obtain ⟨uo, uc, rfl⟩ := row_slice8 hown4
       have hp4 := (unhide HPB).below hb4 (by omega)
       have hm4 := (unhide HMB).below hb4 (by omega)
       obtain ⟨x0, x1, x2, x3, x4, x5⟩ := hp4.all
       obtain ⟨y0, y1, y2⟩ := hm4.all
       have HP4 := hide hp4
       have HM4 := hide hm4
       have HB4 := hide ((unhide HBW).trans (hb4.mono (by omega)))
       have HS4 := hide (show w.heap.size + 1 + 1 ≤ w4.heap.size by have := hb4.size; have := unhide HS5; omega)
       have HO4 := hide hown4
       clear hown4 hgrow4 hb4 hp4 hm4)
    have hown4 : w4.ownsRow (w.heap.size + 1 + 1) 5 1 (.slice uo (1 + 2 + 1) uc) (1 + 2 + 1) (bvals ([c] ++ cellT W fr ++ [45])) := by
      have := unhide HO4
      rw [bvals_snoc]
      exact this
    have HAC := hide (appendCell_any uo (1 + 2 + 1) uc (w.heap.size + 1 + 1) ([c] ++ cellT W fr ++ [45]) W H T C A B t w4 hown4 (by omega) (unhide HS4) hW ht)
    refine (unhide HAC).mono ?_
    rintro e w6 ⟨vo, vc, rfl, hown6, hb6⟩
    have hcv := own_conv hown6 (by simp [cellT]) (by omega)
    have HB6 := hide ((unhide HB4).trans (hb6.mono (by omega)))
    clear hown4 hown6 hb6 HAC x0 x1 x2 x3 x4 x5 y0 y1 y2
    go_wp2
    go_ret
    exact ⟨rfl, unhide HB6⟩
  · have hb46 : ((N : Int) == 46) = false := by simp; omega
    rw [if_neg h46]
    clear h46
    go_enter Tryz.func143, Tryz.ntmps143
    go_upto_region 2 with fail
    rw [← unhide HW1, ← unhide HW2, ← unhide HW3]
    clear HW1 HW2 HW3
    go_wp2_with fail
    refine (unhide HAC1).mono ?_
    rintro e w5 ⟨ao, ac, rfl, hown5, hb5⟩
    have hp5 := (unhide HPB).below hb5 (by omega)
    have hm5 := (unhide HMB).below hb5 (by omega)
    have HO5 := hide hown5
    have HS5 := hide (show w.heap.size + 1 + 1 ≤ w5.heap.size by have := hb5.size; have := unhide HS3; omega)
    have HB5 := hide ((unhide HBW).trans (hb5.mono (by omega)))
    clear HPB HMB HBW HOWN HS3 HAC1 hown5 hb5 p0 p1 p2 p3 p4 p5 m0 m1 m2
    obtain ⟨p0, p1, p2, p3, p4, p5⟩ := hp5.all
    obtain ⟨m0, m1, m2⟩ := hm5.all
    have HPB := hide hp5
    have HMB := hide hm5
    have HBW := HB5
    clear hp5 hm5 HB5
    go_wp2_with
      (at_builtin; refine wpList_append_own _ rfl _ _ 127 rfl (w.heap.size + 1 + 1) 5 i0 _ 1 1 Tryz.underlying127 hi hz0 hz1 hz2 rfl (by decide) _ (1 + 2) (bvals ([c] ++ cellT W fr)) rfl ((unhide HO5).alloc _) ⟨w5.heap.size, 0, none⟩ 1 1 [.int .u8 120] rfl rfl (one_new w5 120) (fun u hu => by simp only [List.mem_singleton] at hu; subst hu; rfl) (by unfold maxLen; omega) (by omega) (by simp; have := unhide HS5; omega) ?_; intro v4 w4 hown4 hgrow4 _
       have hb4 : Below (w.heap.size + 1 + 1) w5 w4 := ((Below.refl _ _).alloc (by have := unhide HS5; omega) _).grown hgrow4 (by simp; have := unhide HS5; omega) (own_low8 (unhide HO5))
       obtain ⟨uo, uc, rfl⟩ := row_slice8 hown4
       have hp4 := (unhide HPB).below hb4 (by omega)
       have hm4 := (unhide HMB).below hb4 (by omega)
       obtain ⟨x0, x1, x2, x3, x4, x5⟩ := hp4.all
       obtain ⟨y0, y1, y2⟩ := hm4.all
       have HP4 := hide hp4
       have HM4 := hide hm4
       have HB4 := hide ((unhide HBW).trans (hb4.mono (by omega)))
       have HS4 := hide (show w.heap.size + 1 + 1 ≤ w4.heap.size by have := hb4.size; have := unhide HS5; omega)
       have HO4 := hide hown4
       clear hown4 hgrow4 hb4 hp4 hm4)
    have hown4 : w4.ownsRow (w.heap.size + 1 + 1) 5 1 (.slice uo (1 + 2 + 1) uc) (1 + 2 + 1) (bvals ([c] ++ cellT W fr ++ [120])) := by
      have := unhide HO4
      rw [bvals_snoc]
      exact this
    have HAC := hide (appendCell_any uo (1 + 2 + 1) uc (w.heap.size + 1 + 1) ([c] ++ cellT W fr ++ [120]) W H T C A B t w4 hown4 (by omega) (unhide HS4) hW ht)
    refine (unhide HAC).mono ?_
    rintro e w6 ⟨vo, vc, rfl, hown6, hb6⟩
    have hcv := own_conv hown6 (by simp [cellT]) (by omega)
    have HB6 := hide ((unhide HB4).trans (hb6.mono (by omega)))
    clear hown4 hown6 hb6 HAC x0 x1 x2 x3 x4 x5 y0 y1 y2
    go_wp2
    go_ret
    exact ⟨rfl, unhide HB6⟩
end Go.Proofs.YtihojhfpepbjhaaGreatDoor

namespace Go.Proofs
open Go.Shelf Go.RowKit Go.Sort Go.Lib
def Tryz.lays171_ren : Go.Shelf.Ren := ⟨fun | 171 => 75 | 243 => 109 | 246 => 149 | 283 => 179 | 284 => 180 | 285 => 181 | 286 => 182 | 129 => 195 | 317 => 194 | 318 => 196 | 319 => 197 | 320 => 198 | 337 => 202 | 338 => 203 | n => n, fun | 3 => 3 | 9 => 9 | 2 => 2 | 4 => 4 | 171 => 224 | 0 => 0 | 53 => 175 | 37 => 127 | 5 => 5 | 173 => 227 | 212 => 239 | 51 => 112 | 20 => 20 | 213 => 240 | 46 => 53 | 232 => 257 | 233 => 258 | n => n, fun | 17 => 3 | 18 => 6 | 19 => 7 | n => n⟩
theorem Tryz.lays171 : Go.Proofs.Lays.n171 Tryz.prog Tryz.lays171_ren := {
  mixed := by kernel_rfl
  f129 := Tryz.func195.trans (congrArg some (by kernel_rfl))
  f171 := Tryz.func75.trans (congrArg some (by kernel_rfl))
  f243 := Tryz.func109.trans (congrArg some (by kernel_rfl))
  f246 := Tryz.func149.trans (congrArg some (by kernel_rfl))
  f283 := Tryz.func179.trans (congrArg some (by kernel_rfl))
  f284 := Tryz.func180.trans (congrArg some (by kernel_rfl))
  f285 := Tryz.func181.trans (congrArg some (by kernel_rfl))
  f286 := Tryz.func182.trans (congrArg some (by kernel_rfl))
  f317 := Tryz.func194.trans (congrArg some (by kernel_rfl))
  f318 := Tryz.func196.trans (congrArg some (by kernel_rfl))
  f319 := Tryz.func197.trans (congrArg some (by kernel_rfl))
  f320 := Tryz.func198.trans (congrArg some (by kernel_rfl))
  f337 := Tryz.func202.trans (congrArg some (by kernel_rfl))
  f338 := Tryz.func203.trans (congrArg some (by kernel_rfl))
  t0 := Tryz.underlying0
  a0 := Tryz.isAgg0
  z0 := Tryz.sizeOf0
  v0 := Tryz.zeroValue0
  t2 := Tryz.underlying2
  a2 := Tryz.isAgg2
  z2 := Tryz.sizeOf2
  v2 := Tryz.zeroValue2
  t3 := Tryz.underlying3
  a3 := Tryz.isAgg3
  z3 := Tryz.sizeOf3
  v3 := Tryz.zeroValue3
  t4 := Tryz.underlying4
  a4 := Tryz.isAgg4
  z4 := Tryz.sizeOf4
  v4 := Tryz.zeroValue4
  t5 := Tryz.underlying5
  a5 := Tryz.isAgg5
  z5 := Tryz.sizeOf5
  v5 := Tryz.zeroValue5
  t9 := Tryz.underlying9
  a9 := Tryz.isAgg9
  z9 := Tryz.sizeOf9
  v9 := Tryz.zeroValue9
  t20 := Tryz.underlying20
  a20 := Tryz.isAgg20
  z20 := Tryz.sizeOf20
  v20 := Tryz.zeroValue20
  t37 := Tryz.underlying127
  a37 := Tryz.isAgg127
  z37 := Tryz.sizeOf127
  v37 := Tryz.zeroValue127
  t46 := Tryz.underlying53
  a46 := Tryz.isAgg53
  z46 := Tryz.sizeOf53
  v46 := Tryz.zeroValue53
  t51 := Tryz.underlying112
  a51 := Tryz.isAgg112
  z51 := Tryz.sizeOf112
  v51 := Tryz.zeroValue112
  t53 := Tryz.underlying175
  a53 := Tryz.isAgg175
  z53 := Tryz.sizeOf175
  v53 := Tryz.zeroValue175
  t171 := Tryz.underlying224
  a171 := Tryz.isAgg224
  z171 := Tryz.sizeOf224
  v171 := Tryz.zeroValue224
  t173 := Tryz.underlying227
  a173 := Tryz.isAgg227
  z173 := Tryz.sizeOf227
  v173 := Tryz.zeroValue227
  t212 := Tryz.underlying239
  a212 := Tryz.isAgg239
  z212 := Tryz.sizeOf239
  v212 := Tryz.zeroValue239
  t213 := Tryz.underlying240
  a213 := Tryz.isAgg240
  z213 := Tryz.sizeOf240
  t232 := Tryz.underlying257
  a232 := Tryz.isAgg257
  z232 := Tryz.sizeOf257
  v232 := Tryz.zeroValue257
  t233 := Tryz.underlying258
  a233 := Tryz.isAgg258
  z233 := Tryz.sizeOf258
  v233 := Tryz.zeroValue258
  g17 := by kernel_rfl
  g18 := by kernel_rfl
  g19 := by kernel_rfl }
theorem Tryz.strconv_Itoa_small (i : Nat) (hi : i < 100) (w : World) :
    Calls Tryz.prog 75 #[.int .i64 i] w fun e w' => e = .returned (.string ⟨(Lib.decDigits i).toArray⟩) ∧ w' = w := Any.strconv_Itoa_small Tryz.lays171 i hi w
end Go.Proofs
