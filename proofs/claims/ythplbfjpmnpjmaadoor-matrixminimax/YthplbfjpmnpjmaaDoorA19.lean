/-
  package matrix, walked: level.
-/
import Derived.Test.YthplbfjpmnpjmaaDoorA18
namespace Go.Proofs.YthplbfjpmnpjmaaDoor
open Go.RowKit Go.Shelf Lp
attribute [local go_sem] Oper.semAt_some

/-- What stays while cofactors are added. -/
structure LvF (w W : World) (b r c : Nat) (s : So) : Prop where
  bw : Below w.heap.size w W
  bm : Boxed W w.heap.size 63 (.pointer (some ⟨b, 0, none⟩))
  br : Boxed W (w.heap.size + 1) 69 (.int .u64 (r : Int))
  bc : Boxed W (w.heap.size + 1 + 1) 69 (.int .u64 (c : Int))
  re : isSo W (w.heap.size + 1 + 1 + 1) so0
  so : isSo W (w.heap.size + 4) s
section
variable {w W W' : World} {b r c : Nat} {s : So}
theorem LvF.size (h : LvF w W b r c s) : w.heap.size + 4 < W.heap.size := h.so.lt
theorem LvF.grown (h : LvF w W b r c s) {ob : Option Nat} (hg : W.grownBy W' ob) (hb : ∀ b, ob = some b → w.heap.size + 5 ≤ b) : LvF w W' b r c s := by
  have hs := h.size
  have key : ∀ k, k ≤ w.heap.size + 4 → W'.heap[k]? = W.heap[k]? := fun k hk => hg.block k (by omega) (fun e => by have := hb k e.symm; omega)
  exact ⟨⟨hg.os.trans h.bw.os, hg.tape.trans h.bw.tape, hg.output.trans h.bw.output, Nat.le_trans h.bw.size hg.size, fun k hk => (key k (by omega)).trans (h.bw.block k hk)⟩, (key _ (by omega)).trans h.bm, (key _ (by omega)).trans h.br, (key _ (by omega)).trans h.bc, h.re.keep (key _ (by omega)), h.so.keep (key _ (by omega))⟩
theorem LvF.alloc (h : LvF w W b r c s) (o : Obj) : LvF w (W.alloc o) b r c s := h.grown (World.grownBy_alloc W o none) (fun b e => by cases e)
theorem LvF.drewN (h : LvF w W b r c s) (q : Nat) : LvF w (W.drewN q) b r c s := ⟨⟨h.bw.os, h.bw.tape, h.bw.output, h.bw.size, h.bw.block⟩, h.bm, h.br, h.bc, h.re, h.so⟩
theorem lvF_own {β : Type} {B : Nat} (hB : w.heap.size + 5 ≤ B) (f : β → So) : OwnFrom B (fun (s : β) W => LvF w W b r c (f s)) := fun _ _ _ _ hs hg hr => hs.grown hg (fun b e => Nat.le_trans hB (hr b e).1)
/-- One cofactor more, in memory. -/
theorem LvF.step (h : LvF w W b r c s) {i j : Nat} (hi : i < 6) (hj : j < 6) (co : Nat → Nat → Int) : LvF w (((W.setCell ⟨w.heap.size + 4, 2 + i, none⟩ (.int .i64 (wrap64 (s.x i + co i j)))).setCell ⟨w.heap.size + 4, 8 + j, none⟩ (.int .i64 (wrap64 (s.y j + co i j)))).setCell ⟨w.heap.size + 4, 1, none⟩ (.int .i64 (wrap64 (s.t + co i j)))) b r c (stS co s i j) := by
  have key : ∀ k, k ≠ w.heap.size + 4 → (((W.setCell ⟨w.heap.size + 4, 2 + i, none⟩ (.int .i64 (wrap64 (s.x i + co i j)))).setCell ⟨w.heap.size + 4, 8 + j, none⟩ (.int .i64 (wrap64 (s.y j + co i j)))).setCell ⟨w.heap.size + 4, 1, none⟩ (.int .i64 (wrap64 (s.t + co i j)))).heap[k]? = W.heap[k]? := fun k hk => by
    rw [Below.heap_setCell _ _ _ _ (fun e => hk e), Below.heap_setCell _ _ _ _ (fun e => hk e), Below.heap_setCell _ _ _ _ (fun e => hk e)]
  have hs := ((h.so.putX hi (wrap64 (s.x i + co i j))).putY hj (wrap64 (s.y j + co i j))).putT (wrap64 (s.t + co i j))
  have hb := ((h.bw.setCell (p := ⟨w.heap.size + 4, 2 + i, none⟩) (by dsimp only; omega) (.int .i64 (wrap64 (s.x i + co i j)))).setCell (p := ⟨w.heap.size + 4, 8 + j, none⟩) (by dsimp only; omega) (.int .i64 (wrap64 (s.y j + co i j)))).setCell (p := ⟨w.heap.size + 4, 1, none⟩) (by dsimp only; omega) (.int .i64 (wrap64 (s.t + co i j)))
  refine ⟨hb, (key _ (by omega)).trans h.bm, (key _ (by omega)).trans h.br, (key _ (by omega)).trans h.bc, h.re.keep (key _ (by omega)), ?_⟩
  have e : (⟨s.v, wrap64 (s.t + co i j), upd s.x i (wrap64 (s.x i + co i j)), upd s.y j (wrap64 (s.y j + co i j))⟩ : So) = stS co s i j := So.ext' rfl rfl (fun k => by
    simp only [upd, stS]
    by_cases e : k = i
    · rw [if_pos e, if_pos e, e]
    · rw [if_neg e, if_neg e]) (fun k => by
    simp only [upd, stS]
    by_cases e : k = j
    · rw [if_pos e, if_pos e, e]
    · rw [if_neg e, if_neg e])
  rw [← e]
  exact hs
end

theorem oth14 (W : World) (b : Nat) (s : So) {k : Nat} (hk : k ≠ b) : ((((((((((((((W.setCell ⟨b, 0, none⟩ (.int .i64 (s.v))).setCell ⟨b, 1, none⟩ (.int .i64 (s.t))).setCell ⟨b, 2, none⟩ (.int .i64 (s.x 0))).setCell ⟨b, 3, none⟩ (.int .i64 (s.x 1))).setCell ⟨b, 4, none⟩ (.int .i64 (s.x 2))).setCell ⟨b, 5, none⟩ (.int .i64 (s.x 3))).setCell ⟨b, 6, none⟩ (.int .i64 (s.x 4))).setCell ⟨b, 7, none⟩ (.int .i64 (s.x 5))).setCell ⟨b, 8, none⟩ (.int .i64 (s.y 0))).setCell ⟨b, 9, none⟩ (.int .i64 (s.y 1))).setCell ⟨b, 10, none⟩ (.int .i64 (s.y 2))).setCell ⟨b, 11, none⟩ (.int .i64 (s.y 3))).setCell ⟨b, 12, none⟩ (.int .i64 (s.y 4))).setCell ⟨b, 13, none⟩ (.int .i64 (s.y 5))).heap[k]? = W.heap[k]? := by
  rw [Below.heap_setCell _ _ _ _ hk, Below.heap_setCell _ _ _ _ hk, Below.heap_setCell _ _ _ _ hk, Below.heap_setCell _ _ _ _ hk, Below.heap_setCell _ _ _ _ hk, Below.heap_setCell _ _ _ _ hk, Below.heap_setCell _ _ _ _ hk, Below.heap_setCell _ _ _ _ hk, Below.heap_setCell _ _ _ _ hk, Below.heap_setCell _ _ _ _ hk, Below.heap_setCell _ _ _ _ hk, Below.heap_setCell _ _ _ _ hk, Below.heap_setCell _ _ _ _ hk, Below.heap_setCell _ _ _ _ hk]
/-- What level hands back. -/
def lvR (s : So) : So := if s.t < 0 then negK s 6 else s

set_option maxRecDepth 100000 in
set_option maxHeartbeats 8000000 in
theorem level_any (b r c : Nat) (T : Nat → Nat → Int) (w : World) (hd : isDb w) (hM : isMn w b T) (hr : r < 64) (hc : c < 64) :
    Calls Tryd.prog 33 #[.pointer (some ⟨b, 0, none⟩), .int .u64 (r : Int), .int .u64 (c : Int)] w fun e w' => e = .returned (soV (lvR (ouS c (fun i j => cofT T r c i j) ⟨T r c, 0, fun _ => 0, fun _ => 0⟩ (memS r)))) ∧ Below w.heap.size w w' := by
  obtain ⟨co, hco⟩ : ∃ co : Nat → Nat → Int, co = fun i j => cofT T r c i j := ⟨_, rfl⟩
  obtain ⟨s0, hs0⟩ : ∃ s0 : So, s0 = ⟨T r c, 0, fun _ => 0, fun _ => 0⟩ := ⟨_, rfl⟩
  rw [← hco, ← hs0]
  obtain ⟨RV, hRV⟩ : ∃ RV, RV = soV (lvR (ouS c co s0 (memS r))) := ⟨_, rfl⟩
  rw [← hRV]
  have HCO0 := hide hco
  have HS0 := hide hs0
  have HRV := hide hRV
  clear hco hs0 hRV
  have h2w := hd.lt
  have hbw := hM.lt
  obtain ⟨c0, -⟩ := hM.cell hr hc
  obtain ⟨W3, hW3⟩ : ∃ W3, W3 = (((w.alloc (Obj.cells #[Value.pointer (some ⟨b, 0, none⟩)] 63)).alloc (Obj.cells #[Value.int .u64 (r : Int)] 69)).alloc (Obj.cells #[Value.int .u64 (c : Int)] 69)).alloc (Obj.cells (soC so0).toArray 48 (0, 0)) := ⟨_, rfl⟩
  have hs3 : W3.heap.size = w.heap.size + 4 := by rw [hW3]; simp
  have hB3 : Below w.heap.size w W3 := by rw [hW3]; exact ((((Below.refl _ w).alloc (Nat.le_refl _) _).alloc (by simp) _).alloc (by simp; omega) _).alloc (by simp; omega) _
  have bM3 : Boxed W3 w.heap.size 63 (.pointer (some ⟨b, 0, none⟩)) := by rw [hW3]; exact (((Boxed.new w _ _).alloc _).alloc _).alloc _
  have bR3 : Boxed W3 (w.heap.size + 1) 69 (.int .u64 (r : Int)) := by
    have := Boxed.new (w.alloc (Obj.cells #[Value.pointer (some ⟨b, 0, none⟩)] 63)) 69 (.int .u64 (r : Int))
    rw [World.size_alloc] at this
    rw [hW3]; exact (this.alloc _).alloc _
  have bC3 : Boxed W3 (w.heap.size + 1 + 1) 69 (.int .u64 (c : Int)) := by
    have := Boxed.new ((w.alloc (Obj.cells #[Value.pointer (some ⟨b, 0, none⟩)] 63)).alloc (Obj.cells #[Value.int .u64 (r : Int)] 69)) 69 (.int .u64 (c : Int))
    rw [World.size_alloc, World.size_alloc] at this
    rw [hW3]; exact this.alloc _
  have bZ3 : isSo W3 (w.heap.size + 1 + 1 + 1) so0 := by
    have := heap_alloc_new (((w.alloc (Obj.cells #[Value.pointer (some ⟨b, 0, none⟩)] 63)).alloc (Obj.cells #[Value.int .u64 (r : Int)] 69)).alloc (Obj.cells #[Value.int .u64 (c : Int)] 69)) (Obj.cells (soC so0).toArray 48 (0, 0))
    rw [World.size_alloc, World.size_alloc, World.size_alloc] at this
    rw [hW3]; exact this
  have hn0 : ∀ o, (W3.alloc o).cell? ⟨w.heap.size, 0, none⟩ = some (.pointer (some ⟨b, 0, none⟩)) := fun o => (bM3.alloc o).cell
  have hn1 : ∀ o, (W3.alloc o).cell? ⟨w.heap.size + 1, 0, none⟩ = some (.int .u64 (r : Int)) := fun o => (bR3.alloc o).cell
  have hn2 : ∀ o, (W3.alloc o).cell? ⟨w.heap.size + 1 + 1, 0, none⟩ = some (.int .u64 (c : Int)) := fun o => (bC3.alloc o).cell
  have hp0 := bM3.cell
  have hp1 := bR3.cell
  have hp2 := bC3.cell
  have hp3 : W3.cell? ⟨b, r * 64 + c, none⟩ = some (.int .i64 (T r c)) := (hB3.cell (p := ⟨b, r * 64 + c, none⟩) hbw).trans c0
  have hn3 : ∀ o, (W3.alloc o).cell? ⟨b, r * 64 + c, none⟩ = some (.int .i64 (T r c)) := fun o => (cell_block (Below.heap_alloc _ _ _ (by omega)) _).trans hp3
  have HB3 := hide hB3
  have HBM := hide bM3
  have HBR := hide bR3
  have HBC := hide bC3
  have HBZ := hide bZ3
  simp only [soC, so0] at hW3
  have HW3 := hide hW3
  clear hB3 bM3 bR3 bC3 bZ3 hW3 c0
  obtain ⟨tv, htv⟩ : ∃ tv, tv = T r c := ⟨_, rfl⟩
  rw [← htv] at hp3 hn3
  have HTV := hide htv
  clear htv
  have hr0 : (0 : Int) ≤ (r : Int) := by omega
  have hrI : (r : Int) < 64 := by omega
  have hcI0 : (0 : Int) ≤ (c : Int) := by omega
  have hcI : (c : Int) < 64 := by omega
  refine (callsIn_wide (n := 8)).1 ?_
  refine callsIn_of_wp_marks Tryd.func33 rfl trivial ?_ rfl
  simp only [Tryd.ntmps33, List.size_toArray, List.length_cons, List.length_nil, Nat.reduceAdd, Nat.reduceSub, Array.replicate_succ, Array.replicate_zero, List.push_toArray, List.append_toArray, List.nil_append, List.cons_append]
  gi_wp2_with fail
  rw [← unhide HW3]
  clear HW3
  refine wpIn_wide.2 ?_
  go_region
  obtain ⟨W4, hW4⟩ : ∃ W4, W4 = (W3.alloc (Obj.cells #[.int .i64 tv, .int .i64 0, .int .i64 0, .int .i64 0, .int .i64 0, .int .i64 0, .int .i64 0, .int .i64 0, .int .i64 0, .int .i64 0, .int .i64 0, .int .i64 0, .int .i64 0, .int .i64 0] 48)).drew := ⟨_, rfl⟩
  have hs4 : W4.heap.size = w.heap.size + 5 := by rw [hW4]; simp [World.drew, hs3]
  have hF4 : LvF w W4 b r c ⟨tv, 0, fun _ => 0, fun _ => 0⟩ := by
    have key : ∀ k, k < W3.heap.size → W4.heap[k]? = W3.heap[k]? := fun k hk => by rw [hW4]; exact Below.heap_alloc _ _ _ hk
    have hb := (unhide HB3)
    refine ⟨⟨by rw [hW4]; exact hb.os, by rw [hW4]; exact hb.tape, by rw [hW4]; exact hb.output, by omega, fun k hk => (key k (by omega)).trans (hb.block k hk)⟩, (key _ (by omega)).trans (unhide HBM), (key _ (by omega)).trans (unhide HBR), (key _ (by omega)).trans (unhide HBC), (unhide HBZ).keep (key _ (by omega)), ?_⟩
    have := heap_alloc_new W3 (Obj.cells #[.int .i64 tv, .int .i64 0, .int .i64 0, .int .i64 0, .int .i64 0, .int .i64 0, .int .i64 0, .int .i64 0, .int .i64 0, .int .i64 0, .int .i64 0, .int .i64 0, .int .i64 0, .int .i64 0] 48)
    rw [hs3] at this
    unfold isSo
    rw [hW4]
    exact this
  rw [← hW4]
  clear hW4 hn0 hn1 hn2 hn3 hp0 hp1 hp2 hp3 HB3 HBM HBR HBC HBZ hs3
  have cr4 := hF4.br.cell
  have HF4 := hide hF4
  clear hF4
  gi_wp2_with (refine ⟨trivial, ?_⟩; gi_at_call 56; refine (callsIn_wide.2 (members_any r _)).mono ?_; rintro e w' ⟨rfl, rfl⟩)
  obtain ⟨W5, hW5⟩ : ∃ W5, W4.alloc (Obj.cells #[Value.int .u64 (r : Int)] 69) = W5 := ⟨_, rfl⟩
  have hs5 : W5.heap.size = w.heap.size + 6 := by rw [← hW5]; simp [hs4]
  have hF5 : LvF w W5 b r c ⟨tv, 0, fun _ => 0, fun _ => 0⟩ := by rw [← hW5]; exact (unhide HF4).alloc _
  have bN5 : Boxed W5 (w.heap.size + 5) 69 (.int .u64 (r : Int)) := by
    have := Boxed.new W4 69 (.int .u64 (r : Int))
    rw [hs4] at this
    rw [← hW5]; exact this
  rw [hW5]
  clear hW5 HF4 cr4
  have HCO : Hid (∀ (i j : Nat) (u : World), i < 6 → j < 6 → Below w.heap.size w u → Calls Tryd.prog 57 #[.pointer (some ⟨b, 0, none⟩), .int .u64 (r : Int), .int .u64 (c : Int), .int .i64 (i : Int), .int .i64 (j : Int)] u fun e w' => e = .returned (.int .i64 (co i j)) ∧ ∃ q, w' = u.drewN q) := hide (fun i j u hi hj hu => by
    rw [unhide HCO0]
    exact cofactor_any b r c i j T hr hc hi hj u (hM.keep (hu.block b hbw)))
  have es0 : (⟨tv, 0, fun _ => 0, fun _ => 0⟩ : So) = s0 := by rw [unhide HS0, unhide HTV]
  rw [es0] at hF5
  clear es0 HS0 HTV hM
  refine wpIn_rangeFunc_ownH rfl (by omega) (gf := 79) (lb := #[.pointer (some ⟨w.heap.size + 5, 0, none⟩)]) rfl trivial (enters_of Tryd.func79 (by kernel_rfl) rfl)
    (mem_stops _ (by omega) (w.heap.size + 5) w.heap.size r hr h2w W5 (by omega) (by omega) bN5.cell (hd.below hF5.bw h2w)) belowK_t (belowK_b (by omega)) (Below.refl _ _) (fun _ => rfl)
    (fun pre W => LvF w W b r c (ouS c co s0 pre))
    (fun _ _ _ => False)
    (lvF_own (by omega) _)
    (fun _ _ _ _ _ hs _ _ => hs)
    hF5
    (fun x a' W => ∃ Bi, w.heap.size + 4 < Bi ∧ Boxed W Bi 3 (.int .i64 (x.1 : Int)) ∧ a' = { tmps := #[.pointer (some ⟨b, 0, none⟩), .int .u64 (r : Int), .int .u64 (c : Int), .pointer (some ⟨w.heap.size, 0, none⟩), .pointer (some ⟨w.heap.size + 1, 0, none⟩), .pointer (some ⟨w.heap.size + 1 + 1, 0, none⟩), .pointer (some ⟨w.heap.size + 1 + 1 + 1, 0, none⟩), .pointer (some ⟨w.heap.size + 4, 0, none⟩), .pointer (some ⟨Bi, 0, none⟩), undef, undef, .pointer (some ⟨b, 0, none⟩), .int .u64 (r : Int), .int .u64 (c : Int), .pointer (some ⟨b, 0, none⟩), .pointer (some ⟨b, r * 64, none⟩), .pointer (some ⟨b, r * 64 + c, none⟩), .int .i64 tv, .agg #[.int .i64 tv, .int .i64 0, .int .i64 0, .int .i64 0, .int .i64 0, .int .i64 0, .int .i64 0, .int .i64 0, .int .i64 0, .int .i64 0, .int .i64 0, .int .i64 0, .int .i64 0, .int .i64 0], .int .u64 (r : Int), .func (.func 79) #[] #[.pointer (some ⟨w.heap.size + 5, 0, none⟩)], .int .i64 (x.1 : Int), undef, undef, undef, undef, undef, undef, undef, undef, undef, undef, undef, undef, undef, undef, undef, undef, undef, undef, undef, undef, undef, undef, undef, undef, undef, undef, undef, undef, undef, undef, undef, undef, undef, undef, undef, undef], defers := [] })
    (fun x a' _ X Y row hs hgw hr => by
      obtain ⟨Bi, h1, h2, h3⟩ := hs
      exact ⟨Bi, h1, boxed_own Bi _ (fun (_ : Unit) => Value.int .i64 (x.1 : Int)) () X Y row h2 hgw (fun r e => (hr r e).2), h3⟩)
    ?assign ?body ?done ?stop
  case assign =>
    rintro l pre x W K hF hK
    have hsW := hF.size
    gi_wp2
    exact hK _ _ ((KeepsOthers.alloc _ _).from _) ((Below.refl _ W).alloc hF.bw.size _) (hF.alloc _) ⟨W.heap.size, by omega, Boxed.new W _ _, rfl⟩
  case body =>
    rintro l pre x a' W hl ⟨rr, hrr⟩ hF ⟨Bi, hBi, bI, rfl⟩ hlt
    obtain ⟨i, hi6, hib⟩ := x
    simp only at bI ⊢
    have hsW := hF.size
    have hsB := hF.bw.size
    have cC := hF.bc.cell
    gi_wp2_with (refine ⟨trivial, ?_⟩; gi_at_call 56; refine (CallsIn.inRound l (callsIn_wide.2 (members_any c _))).mono ?_; rintro e w' ⟨rfl, rfl⟩)
    obtain ⟨W1, hW1⟩ : ∃ W1, W.alloc (Obj.cells #[Value.int .u64 (c : Int)] 69) = W1 := ⟨_, rfl⟩
    have hs1 : W1.heap.size = W.heap.size + 1 := by rw [← hW1]; simp
    have hF1 : LvF w W1 b r c (ouS c co s0 pre) := by rw [← hW1]; exact hF.alloc _
    have bI1 : Boxed W1 Bi 3 (.int .i64 (i : Int)) := by rw [← hW1]; exact bI.alloc _
    have bN1 : Boxed W1 W.heap.size 69 (.int .u64 (c : Int)) := by rw [← hW1]; exact Boxed.new W _ _
    have hK1 : Below w.heap.size W W1 := by rw [← hW1]; exact (Below.refl _ W).alloc hsB _
    have hO1 : KeepsFrom W5.heap.size W W1 := by rw [← hW1]; exact (KeepsOthers.alloc _ _).from _
    have hr1 : W1.heap[l]? = some (.loop rr) := by
      rw [← hW1]
      exact (Below.heap_alloc _ _ _ (Array.getElem?_eq_some_iff.1 hrr).1).trans hrr
    have hbi := bI.lt
    rw [hW1]
    clear hW1 cC
    refine wpIn_rangeFunc_ownN (l₀ := l) (r₀ := rr) rfl hr1 (by omega) (gf := 79) (lb := #[.pointer (some ⟨W.heap.size, 0, none⟩)]) rfl trivial (enters_of Tryd.func79 (by kernel_rfl) rfl)
      ((mem_stops _ (by omega) W.heap.size w.heap.size c hc h2w W1 (by omega) (by omega) bN1.cell (hd.below hF1.bw h2w)).inRound l) belowK_t (belowK_b (by omega)) (Below.refl _ _) (fun _ => rfl)
      (fun pre' W' => (LvF w W' b r c (inS co (ouS c co s0 pre) i pre') ∧ Boxed W' Bi 3 (.int .i64 (i : Int))) ∧ (Below w.heap.size W W' ∧ KeepsFrom W5.heap.size W W'))
      (fun _ _ _ => False)
      (OwnFrom.and (OwnFrom.and (lvF_own (by omega) _) (Own.from (boxed_own _ _ _) _)) (OwnFrom.and (ownFrom_below hsB (by omega)) (ownFrom_keepsFrom (by omega))))
      (fun _ _ _ _ _ hs _ _ => hs)
      ⟨⟨hF1, bI1⟩, hK1, hO1⟩
      (fun y a'' _ => a'' = { tmps := #[.pointer (some ⟨b, 0, none⟩), .int .u64 (r : Int), .int .u64 (c : Int), .pointer (some ⟨w.heap.size, 0, none⟩), .pointer (some ⟨w.heap.size + 1, 0, none⟩), .pointer (some ⟨w.heap.size + 1 + 1, 0, none⟩), .pointer (some ⟨w.heap.size + 1 + 1 + 1, 0, none⟩), .pointer (some ⟨w.heap.size + 4, 0, none⟩), .pointer (some ⟨Bi, 0, none⟩), .int .i64 (y.1 : Int), undef, .pointer (some ⟨b, 0, none⟩), .int .u64 (r : Int), .int .u64 (c : Int), .pointer (some ⟨b, 0, none⟩), .pointer (some ⟨b, r * 64, none⟩), .pointer (some ⟨b, r * 64 + c, none⟩), .int .i64 tv, .agg #[.int .i64 tv, .int .i64 0, .int .i64 0, .int .i64 0, .int .i64 0, .int .i64 0, .int .i64 0, .int .i64 0, .int .i64 0, .int .i64 0, .int .i64 0, .int .i64 0, .int .i64 0, .int .i64 0], .int .u64 (r : Int), .func (.func 79) #[] #[.pointer (some ⟨w.heap.size + 5, 0, none⟩)], .int .i64 (i : Int), .int .u64 (c : Int), .func (.func 79) #[] #[.pointer (some ⟨W.heap.size, 0, none⟩)], .int .i64 (y.1 : Int), undef, undef, undef, undef, undef, undef, undef, undef, undef, undef, undef, undef, undef, undef, undef, undef, undef, undef, undef, undef, undef, undef, undef, undef, undef, undef, undef, undef, undef, undef, undef, undef, undef], defers := [] })
      (fun _ _ _ _ _ _ hs _ _ => hs)
      ?assign2 ?body2 ?done2 ?stop2
    case assign2 =>
      rintro l2 pre' y W' K hi hK
      gi_wp2
      exact hK _ _ (KeepsFrom.refl _ _) (Below.refl _ _) hi rfl
    case body2 =>
      rintro l2 pre' y a'' W' _ _ ⟨⟨hF2, bI2⟩, hBW, hKF⟩ rfl _
      obtain ⟨j, hj6, hjb⟩ := y
      simp only
      obtain ⟨ss, hss⟩ : ∃ ss, ss = inS co (ouS c co s0 pre) i pre' := ⟨_, rfl⟩
      have hsn := inS_snoc co (ouS c co s0 pre) i pre' ⟨j, hj6, hjb⟩
      rw [← hss] at hF2 hsn
      have C1 := unhide HCO i j W' hi6 hj6 hF2.bw
      have cm := hF2.bm.cell
      have cr := hF2.br.cell
      have cc := hF2.bc.cell
      have ci := bI2.cell
      have HF2 := hide hF2
      have HBI := hide bI2
      clear hF2 bI2
      gi_wp2_with fail
      refine ⟨trivial, ?_⟩
      refine (CallsIn.inRound l2 (CallsIn.inRound l (callsIn_wide.2 C1))).mono ?_
      clear C1
      rintro e w' ⟨rfl, q, rfl⟩
      have hFq := (unhide HF2).drewN q
      have bIq : Boxed (W'.drewN q) Bi 3 (.int .i64 (i : Int)) := unhide HBI
      have hKq : Below w.heap.size W (W'.drewN q) := ⟨hBW.os, hBW.tape, hBW.output, hBW.size, hBW.block⟩
      have hKF' : KeepsFrom W5.heap.size W (W'.drewN q) := ⟨hKF.size, hKF.same⟩
      have hZ : ∀ B, KeepsFrom B W' (W'.drewN q) := fun B => ⟨Nat.le_refl _, fun _ _ _ h _ => h⟩
      have hZb : Below w.heap.size W' (W'.drewN q) := ⟨rfl, rfl, rfl, Nat.le_refl _, fun _ _ => rfl⟩
      clear cm cr cc ci HF2 HBI hBW hKF
      generalize W'.drewN q = Wq at *
      have ci := bIq.cell
      obtain ⟨⟨-, ct⟩, cx, cy, fz⟩ := hFq.so.cells
      have c1 := cx i hi6
      have c2 := cy j hj6
      have f1 := fz (2 + i)
      have f2 := fz (8 + j)
      have f3 := fz 1
      obtain ⟨d, hd2⟩ : ∃ d, d = co i j := ⟨_, rfl⟩
      have hP := hFq.step hi6 hj6 co
      rw [← hd2] at hP ⊢
      have HP := hide hP
      have c2' : (Wq.setCell ⟨w.heap.size + 4, 2 + i, none⟩ (.int .i64 (wrap64 (ss.x i + d)))).cell? ⟨w.heap.size + 4, 8 + j, none⟩ = some (.int .i64 (ss.y j)) := by
        rw [World.cell?_setCell_other _ _ _ _ (by intro e; simp at e <;> omega)]; exact c2
      have ct' : ((Wq.setCell ⟨w.heap.size + 4, 2 + i, none⟩ (.int .i64 (wrap64 (ss.x i + d)))).setCell ⟨w.heap.size + 4, 8 + j, none⟩ (.int .i64 (wrap64 (ss.y j + d)))).cell? ⟨w.heap.size + 4, 1, none⟩ = some (.int .i64 ss.t) := by
        rw [World.cell?_setCell_other _ _ _ _ (by intro e; simp at e <;> omega), World.cell?_setCell_other _ _ _ _ (by intro e; simp at e <;> omega)]; exact ct
      have hi0 : (0 : Int) ≤ (i : Int) := by omega
      have hiI : (i : Int) < 6 := by omega
      have hj0 : (0 : Int) ≤ (j : Int) := by omega
      have hjI : (j : Int) < 6 := by omega
      have HQ : Hid (∀ V : World, V = (((Wq.setCell ⟨w.heap.size + 4, 2 + i, none⟩ (.int .i64 (wrap64 (ss.x i + d)))).setCell ⟨w.heap.size + 4, 8 + j, none⟩ (.int .i64 (wrap64 (ss.y j + d)))).setCell ⟨w.heap.size + 4, 1, none⟩ (.int .i64 (wrap64 (ss.t + d)))) → KeepsFrom W1.heap.size W' V ∧ Below w.heap.size W' V ∧ (LvF w V b r c (inS co (ouS c co s0 pre) i (pre' ++ [⟨j, hj6, hjb⟩])) ∧ Boxed V Bi 3 (.int .i64 (i : Int))) ∧ (Below w.heap.size W V ∧ KeepsFrom W5.heap.size W V)) := hide (fun V hV => by
        have key : ∀ k, k ≠ w.heap.size + 4 → V.heap[k]? = Wq.heap[k]? := fun k hk => by
          rw [hV, Below.heap_setCell _ _ _ _ hk, Below.heap_setCell _ _ _ _ hk, Below.heap_setCell _ _ _ _ hk]
        have hBV : Below w.heap.size Wq V := by
          rw [hV]
          exact (((Below.refl _ Wq).setCell (p := ⟨w.heap.size + 4, 2 + i, none⟩) (by dsimp only; omega) _).setCell (p := ⟨w.heap.size + 4, 8 + j, none⟩) (by dsimp only; omega) _).setCell (p := ⟨w.heap.size + 4, 1, none⟩) (by dsimp only; omega) _
        have hKV : KeepsOthers Wq V := by
          rw [hV]
          exact ((KeepsOthers.setCell _ _ _).trans (KeepsOthers.setCell _ _ _)).trans (KeepsOthers.setCell _ _ _)
        refine ⟨(hZ _).trans (hKV.from _), hZb.trans hBV, ⟨by rw [hsn, hV]; exact unhide HP, (key _ (by omega)).trans bIq⟩, hKq.trans hBV, hKF'.trans (hKV.from _)⟩)
      clear hP hsn hss hd2 cx cy fz hFq bIq hKq hKF' hZ hZb
      gi_wp2
      exact unhide HQ _ rfl
    case done2 =>
      rintro ys' W' rfl ⟨⟨hF2, bI2⟩, hBW, hKF⟩
      gi_wp2
      exact ⟨hKF, hBW, by show LvF w W' b r c (ouS c co s0 (pre ++ [⟨i, hi6, hib⟩])); rw [ouS_snoc]; exact hF2⟩
    case stop2 =>
      rintro c pre' W' _ h
      exact h.elim
  case done =>
    rintro D zs W hD rfl hF hK
    have hsW := hF.size
    obtain ⟨s, hs⟩ : ∃ s, s = ouS c co s0 (memS r) := ⟨_, rfl⟩
    rw [← hs] at hF HRV
    obtain ⟨c0, c1, c2, c3, c4, c5, c6, c7, c8, c9, c10, c11, c12, c13⟩ := hF.so.all
    obtain ⟨r0, r1, r2, r3, r4, r5, r6, r7, r8, r9, r10, r11, r12, r13⟩ := hF.re.all
    obtain ⟨-, -, -, fr⟩ := hF.re.cells
    have fz0 := fr 0
    have fz1 := fr 1
    have fz2 := fr 2
    have fz3 := fr 3
    have fz4 := fr 4
    have fz5 := fr 5
    have fz6 := fr 6
    have fz7 := fr 7
    have fz8 := fr 8
    have fz9 := fr 9
    have fz10 := fr 10
    have fz11 := fr 11
    have fz12 := fr 12
    have fz13 := fr 13
    simp only [so0] at r0 r1 r2 r3 r4 r5 r6 r7 r8 r9 r10 r11 r12 r13
    by_cases ht : s.t < 0
    · obtain ⟨z, hz⟩ : ∃ z, z = negK s 6 := ⟨_, rfl⟩
      have HRZ : Hid (soV z = RV) := hide (by rw [unhide HRV, hz]; unfold lvR; rw [if_pos ht])
      have HTU : Hid (Calls Tryd.prog 61 #[soV s] W fun e w' => e = .returned (soV z) ∧ Below W.heap.size W w') := hide (by rw [hz]; exact turned_any s W)
      unfold soV at HTU
      simp only [soC] at HTU
      have HF := hide hF
      have hDl := (Array.getElem?_eq_some_iff.1 hK).1
      clear hF hz hs fr r0 fz0 r1 fz1 r2 fz2 r3 fz3 r4 fz4 r5 fz5 r6 fz6 r7 fz7 r8 fz8 r9 fz9 r10 fz10 r11 fz11 r12 fz12 r13 fz13
      gi_wp2_with fail
      refine ⟨trivial, ?_⟩
      refine (callsIn_wide.2 (unhide HTU)).mono ?_
      rintro e w2 ⟨rfl, hb2⟩
      clear HTU c0 c1 c2 c3 c4 c5 c6 c7 c8 c9 c10 c11 c12 c13
      have hre : isSo w2 (w.heap.size + 1 + 1 + 1) so0 := (unhide HF).re.keep (hb2.block _ (by omega))
      obtain ⟨r0, r1, r2, r3, r4, r5, r6, r7, r8, r9, r10, r11, r12, r13⟩ := hre.all
      obtain ⟨-, -, -, fr⟩ := hre.cells
      have fz0 := fr 0
      have fz1 := fr 1
      have fz2 := fr 2
      have fz3 := fr 3
      have fz4 := fr 4
      have fz5 := fr 5
      have fz6 := fr 6
      have fz7 := fr 7
      have fz8 := fr 8
      have fz9 := fr 9
      have fz10 := fr 10
      have fz11 := fr 11
      have fz12 := fr 12
      have fz13 := fr 13
      simp only [so0] at r0 r1 r2 r3 r4 r5 r6 r7 r8 r9 r10 r11 r12 r13
      have hbw2 := (unhide HF).bw.trans (hb2.mono (unhide HF).bw.size)
      have hK2' := (hb2.block D hDl).trans hK
      have HE := hide (below14 hbw2 (by omega : w.heap.size ≤ w.heap.size + 1 + 1 + 1) z)
      have HI := hide (hre.put14 z)
      have HK2 : Hid (((((((((((((((w2.setCell ⟨w.heap.size + 1 + 1 + 1, 0, none⟩ (.int .i64 (z.v))).setCell ⟨w.heap.size + 1 + 1 + 1, 1, none⟩ (.int .i64 (z.t))).setCell ⟨w.heap.size + 1 + 1 + 1, 2, none⟩ (.int .i64 (z.x 0))).setCell ⟨w.heap.size + 1 + 1 + 1, 3, none⟩ (.int .i64 (z.x 1))).setCell ⟨w.heap.size + 1 + 1 + 1, 4, none⟩ (.int .i64 (z.x 2))).setCell ⟨w.heap.size + 1 + 1 + 1, 5, none⟩ (.int .i64 (z.x 3))).setCell ⟨w.heap.size + 1 + 1 + 1, 6, none⟩ (.int .i64 (z.x 4))).setCell ⟨w.heap.size + 1 + 1 + 1, 7, none⟩ (.int .i64 (z.x 5))).setCell ⟨w.heap.size + 1 + 1 + 1, 8, none⟩ (.int .i64 (z.y 0))).setCell ⟨w.heap.size + 1 + 1 + 1, 9, none⟩ (.int .i64 (z.y 1))).setCell ⟨w.heap.size + 1 + 1 + 1, 10, none⟩ (.int .i64 (z.y 2))).setCell ⟨w.heap.size + 1 + 1 + 1, 11, none⟩ (.int .i64 (z.y 3))).setCell ⟨w.heap.size + 1 + 1 + 1, 12, none⟩ (.int .i64 (z.y 4))).setCell ⟨w.heap.size + 1 + 1 + 1, 13, none⟩ (.int .i64 (z.y 5))).heap[D]? = some (.deferred (some []))) := hide ((oth14 w2 (w.heap.size + 1 + 1 + 1) z (by omega)).trans hK2')
      obtain ⟨wz, hwz⟩ : ∃ wz, wz = ((((((((((((((w2.setCell ⟨w.heap.size + 1 + 1 + 1, 0, none⟩ (.int .i64 (z.v))).setCell ⟨w.heap.size + 1 + 1 + 1, 1, none⟩ (.int .i64 (z.t))).setCell ⟨w.heap.size + 1 + 1 + 1, 2, none⟩ (.int .i64 (z.x 0))).setCell ⟨w.heap.size + 1 + 1 + 1, 3, none⟩ (.int .i64 (z.x 1))).setCell ⟨w.heap.size + 1 + 1 + 1, 4, none⟩ (.int .i64 (z.x 2))).setCell ⟨w.heap.size + 1 + 1 + 1, 5, none⟩ (.int .i64 (z.x 3))).setCell ⟨w.heap.size + 1 + 1 + 1, 6, none⟩ (.int .i64 (z.x 4))).setCell ⟨w.heap.size + 1 + 1 + 1, 7, none⟩ (.int .i64 (z.x 5))).setCell ⟨w.heap.size + 1 + 1 + 1, 8, none⟩ (.int .i64 (z.y 0))).setCell ⟨w.heap.size + 1 + 1 + 1, 9, none⟩ (.int .i64 (z.y 1))).setCell ⟨w.heap.size + 1 + 1 + 1, 10, none⟩ (.int .i64 (z.y 2))).setCell ⟨w.heap.size + 1 + 1 + 1, 11, none⟩ (.int .i64 (z.y 3))).setCell ⟨w.heap.size + 1 + 1 + 1, 12, none⟩ (.int .i64 (z.y 4))).setCell ⟨w.heap.size + 1 + 1 + 1, 13, none⟩ (.int .i64 (z.y 5))) := ⟨_, rfl⟩
      rw [← hwz] at HE HI HK2
      have HWZ := hide hwz
      clear hwz fr hre hbw2 hb2 hK2' hK
      gi_wp2_with fail
      rw [← unhide HWZ]
      clear HWZ
      refine ⟨by simp, .inl ⟨_, _, rfl, run_takeDeferred (unhide HK2), ?_⟩⟩
      have hI2 : isSo (wz.putObj D (.deferred none)) (w.heap.size + 1 + 1 + 1) z := (unhide HI).keep (World.putObj_heap_other (by omega))
      clear r0 fz0 r1 fz1 r2 fz2 r3 fz3 r4 fz4 r5 fz5 r6 fz6 r7 fz7 r8 fz8 r9 fz9 r10 fz10 r11 fz11 r12 fz12 r13 fz13
      obtain ⟨c0, c1, c2, c3, c4, c5, c6, c7, c8, c9, c10, c11, c12, c13⟩ := hI2.all
      refine ⟨soV z, by simp [results, Tryd.f33, go_sem, soV, soC, c0, c1, c2, c3, c4, c5, c6, c7, c8, c9, c10, c11, c12, c13], ret_val (unhide HRZ), (unhide HE).trans (belowK_b (w := w) (Nat.le_refl _) wz D _ _ (by omega) (unhide HK2) rfl rfl)⟩
    · obtain ⟨z, hz⟩ : ∃ z, z = s := ⟨_, rfl⟩
      have HRZ : Hid (soV z = RV) := hide (by rw [unhide HRV, hz]; unfold lvR; rw [if_neg ht])
      rw [← hz] at hF ht c0 c1 c2 c3 c4 c5 c6 c7 c8 c9 c10 c11 c12 c13
      have HE := hide (below14 hF.bw (by omega : w.heap.size ≤ w.heap.size + 1 + 1 + 1) z)
      have HI := hide (hF.re.put14 z)
      have HK2 : Hid (((((((((((((((W.setCell ⟨w.heap.size + 1 + 1 + 1, 0, none⟩ (.int .i64 (z.v))).setCell ⟨w.heap.size + 1 + 1 + 1, 1, none⟩ (.int .i64 (z.t))).setCell ⟨w.heap.size + 1 + 1 + 1, 2, none⟩ (.int .i64 (z.x 0))).setCell ⟨w.heap.size + 1 + 1 + 1, 3, none⟩ (.int .i64 (z.x 1))).setCell ⟨w.heap.size + 1 + 1 + 1, 4, none⟩ (.int .i64 (z.x 2))).setCell ⟨w.heap.size + 1 + 1 + 1, 5, none⟩ (.int .i64 (z.x 3))).setCell ⟨w.heap.size + 1 + 1 + 1, 6, none⟩ (.int .i64 (z.x 4))).setCell ⟨w.heap.size + 1 + 1 + 1, 7, none⟩ (.int .i64 (z.x 5))).setCell ⟨w.heap.size + 1 + 1 + 1, 8, none⟩ (.int .i64 (z.y 0))).setCell ⟨w.heap.size + 1 + 1 + 1, 9, none⟩ (.int .i64 (z.y 1))).setCell ⟨w.heap.size + 1 + 1 + 1, 10, none⟩ (.int .i64 (z.y 2))).setCell ⟨w.heap.size + 1 + 1 + 1, 11, none⟩ (.int .i64 (z.y 3))).setCell ⟨w.heap.size + 1 + 1 + 1, 12, none⟩ (.int .i64 (z.y 4))).setCell ⟨w.heap.size + 1 + 1 + 1, 13, none⟩ (.int .i64 (z.y 5))).heap[D]? = some (.deferred (some []))) := hide ((oth14 W (w.heap.size + 1 + 1 + 1) z (by omega)).trans hK)
      obtain ⟨wz, hwz⟩ : ∃ wz, wz = ((((((((((((((W.setCell ⟨w.heap.size + 1 + 1 + 1, 0, none⟩ (.int .i64 (z.v))).setCell ⟨w.heap.size + 1 + 1 + 1, 1, none⟩ (.int .i64 (z.t))).setCell ⟨w.heap.size + 1 + 1 + 1, 2, none⟩ (.int .i64 (z.x 0))).setCell ⟨w.heap.size + 1 + 1 + 1, 3, none⟩ (.int .i64 (z.x 1))).setCell ⟨w.heap.size + 1 + 1 + 1, 4, none⟩ (.int .i64 (z.x 2))).setCell ⟨w.heap.size + 1 + 1 + 1, 5, none⟩ (.int .i64 (z.x 3))).setCell ⟨w.heap.size + 1 + 1 + 1, 6, none⟩ (.int .i64 (z.x 4))).setCell ⟨w.heap.size + 1 + 1 + 1, 7, none⟩ (.int .i64 (z.x 5))).setCell ⟨w.heap.size + 1 + 1 + 1, 8, none⟩ (.int .i64 (z.y 0))).setCell ⟨w.heap.size + 1 + 1 + 1, 9, none⟩ (.int .i64 (z.y 1))).setCell ⟨w.heap.size + 1 + 1 + 1, 10, none⟩ (.int .i64 (z.y 2))).setCell ⟨w.heap.size + 1 + 1 + 1, 11, none⟩ (.int .i64 (z.y 3))).setCell ⟨w.heap.size + 1 + 1 + 1, 12, none⟩ (.int .i64 (z.y 4))).setCell ⟨w.heap.size + 1 + 1 + 1, 13, none⟩ (.int .i64 (z.y 5))) := ⟨_, rfl⟩
      rw [← hwz] at HE HI HK2
      have HWZ := hide hwz
      clear hwz hz hs fr hF
      gi_wp2_with fail
      rw [← unhide HWZ]
      clear HWZ
      refine ⟨by simp, .inl ⟨_, _, rfl, run_takeDeferred (unhide HK2), ?_⟩⟩
      have hI2 : isSo (wz.putObj D (.deferred none)) (w.heap.size + 1 + 1 + 1) z := (unhide HI).keep (World.putObj_heap_other (by omega))
      obtain ⟨c0, c1, c2, c3, c4, c5, c6, c7, c8, c9, c10, c11, c12, c13⟩ := hI2.all
      refine ⟨soV z, by simp [results, Tryd.f33, go_sem, soV, soC, c0, c1, c2, c3, c4, c5, c6, c7, c8, c9, c10, c11, c12, c13], ret_val (unhide HRZ), (unhide HE).trans (belowK_b (w := w) (Nat.le_refl _) wz D _ _ (by omega) (unhide HK2) rfl rfl)⟩
  case stop =>
    rintro D c pre W _ _ h _
    exact h.elim
end Go.Proofs.YthplbfjpmnpjmaaDoor
