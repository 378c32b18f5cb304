/-
  package matrix, walked: minorsOf.
-/
import Derived.Test.YthplbfjpmnpjmaaDoorJ29
import Derived.Laws.Tables
namespace Go.Proofs.YthplbfjpmnpjmaaDoor
open Go.RowKit Go.Shelf Lp
attribute [local go_sem] Oper.semAt_some
attribute [-go_sem] Instr.build Instr.fill

set_option maxRecDepth 100000 in
theorem built_mn : Tryd.prog.built 90 [] = some (Array.replicate 4096 (.int .i64 0)) := by kernel_rfl
/-- All zero. -/
theorem zero_ex : ∃ Z : Array Value, (∀ u, (Instr.build 90 #[]).run Tryd.prog u = .ok (.agg Z) u) ∧ Z.size = 4096 ∧ ∀ k, k < 4096 → Z[k]? = some (.int .i64 0) :=
  ⟨Array.replicate 4096 (.int .i64 0), fun u => run_build u _ _ _ built_mn, Array.size_replicate, fun k hk => by rw [Array.getElem?_replicate, if_pos hk]⟩
theorem step_call {P : Program} {ops : Array Oper} {o : Oper} {a : Act} {w : World} {K : Act → World → Prop} {Q : Exit → Act → World → Prop} {E : Prop}
    (hg : o.guard = none) (f : FuncId) (xs : Array Operand) (ts : Array TypeId) (hop : o.op = Op.call { callee := Callee.value (Operand.func f), args := xs, argTypes := ts }) (vs : Array Value) (hv : xs.map a.eval = vs)
    (he : ∀ args (u : World), (callFunc f args).run P u = .ok (.enter f args) u) {R : Ending → World → Prop} (hc : Calls P f vs w R) (hK : ∀ e w', R e w' → ∃ v, e = .returned v ∧ K (a.put o.dst v) w') :
    if Region.wanted o (yielded ops a.tmps) = true then Oper.wp P o a w K Q else E := by
  have hw : Region.wanted o (yielded ops a.tmps) = true := by simp [Region.wanted, hg]
  rw [if_pos hw]
  unfold Oper.wp
  have hr : (execOp a.eval o).run P w = .ok (.enter f vs) w := by
    rw [← he vs w, ← hv]
    simp [execOp, hop, resolve, invoke, Act.eval, Deferred.ofValue]
  rw [hr, Oper.upon_enter]
  refine hc.mono fun e w' h => ?_
  obtain ⟨v, rfl, hk⟩ := hK e w' h
  exact hk
theorem entCo : ∀ args (u : World), (callFunc 57 args).run Tryd.prog u = .ok (.enter 57 args) u := enters_of Tryd.func57 (by kernel_rfl) rfl

theorem wrapI64 (x : Int) : IntKind.i64.wrap x = wrap64 x := by
  unfold IntKind.wrap wrap64
  simp [IntKind.signed, IntKind.bits]
  split <;> omega

/-- What stays while determinants are made. -/
structure MnF (w W : World) (v : Value) (T : Nat → Nat → Int) : Prop where
  bw : Below w.heap.size w W
  ba : Boxed W w.heap.size 22 v
  mn : isMn W (w.heap.size + 1) T
  bm : Boxed W (w.heap.size + 1 + 1) 63 (.pointer (some ⟨w.heap.size + 1, 0, none⟩))
  bs : Boxed W (w.heap.size + 1 + 1 + 1) 22 v
section
variable {w W W' : World} {v : Value} {T : Nat → Nat → Int}
theorem MnF.size (h : MnF w W v T) : w.heap.size + 1 + 1 + 1 < W.heap.size := h.bs.lt
theorem MnF.grown (h : MnF w W v T) {ob : Option Nat} (hg : W.grownBy W' ob) (hb : ∀ b, ob = some b → w.heap.size + 4 ≤ b) : MnF w W' v T := by
  have hs := h.size
  have key : ∀ k, k ≤ w.heap.size + 3 → W'.heap[k]? = W.heap[k]? := fun k hk => hg.block k (by omega) (fun e => by have := hb k e.symm; omega)
  exact ⟨⟨hg.os.trans h.bw.os, hg.tape.trans h.bw.tape, hg.output.trans h.bw.output, Nat.le_trans h.bw.size hg.size, fun k hk => (key k (by omega)).trans (h.bw.block k hk)⟩, (key _ (by omega)).trans h.ba, h.mn.keep (key _ (by omega)), (key _ (by omega)).trans h.bm, (key _ (by omega)).trans h.bs⟩
theorem MnF.alloc (h : MnF w W v T) (o : Obj) : MnF w (W.alloc o) v T := h.grown (World.grownBy_alloc W o none) (fun b e => by cases e)
theorem MnF.drewN (h : MnF w W v T) (q : Nat) : MnF w (W.drewN q) v T := ⟨⟨h.bw.os, h.bw.tape, h.bw.output, h.bw.size, h.bw.block⟩, h.ba, h.mn.keep rfl, h.bm, h.bs⟩
theorem MnF.put (h : MnF w W v T) {r c : Nat} (hr : r < 64) (hc : c < 64) (x : Int) : MnF w (W.setCell ⟨w.heap.size + 1, r * 64 + c, none⟩ (.int .i64 x)) v (setT T r c x) := by
  have key : ∀ k, k ≠ w.heap.size + 1 → (W.setCell ⟨w.heap.size + 1, r * 64 + c, none⟩ (.int .i64 x)).heap[k]? = W.heap[k]? := fun k hk => by
    have : w.heap.size + 1 ≠ k := fun e => hk e.symm
    simp [World.setCell, Array.getElem?_modify, this]
  exact ⟨⟨h.bw.os, h.bw.tape, h.bw.output, by simpa [World.setCell] using h.bw.size, fun k hk => (key k (by omega)).trans (h.bw.block k hk)⟩, (key _ (by omega)).trans h.ba, h.mn.put hr hc x, (key _ (by omega)).trans h.bm, (key _ (by omega)).trans h.bs⟩
theorem mnF_own {β : Type} {B : Nat} (hB : w.heap.size + 4 ≤ B) (f : β → Nat → Nat → Int) : OwnFrom B (fun (s : β) W => MnF w W v (f s)) := fun _ _ _ _ hs hg hr => hs.grown hg (fun b e => Nat.le_trans hB (hr b e).1)
theorem kpB_own {β : Type} {B n₀ Bs : Nat} (h1 : n₀ ≤ W.heap.size) (h2 : n₀ ≤ B) (h3 : Bs < W.heap.size) (h4 : Bs < B) : OwnFrom B (fun (_ : β) X => KpB n₀ Bs W X) := fun s X Y row hs hg hr =>
  ⟨ownFrom_below (β := β) h1 h2 s X Y row hs.1 hg hr, (hg.block Bs (Nat.lt_of_lt_of_le h3 hs.1.size) (fun e => by have := (hr Bs e.symm).1; omega)).trans hs.2⟩
end
theorem mx_at {G : List (List Int)} {w : World} {ao : Option Addr} {cap N : Nat} (h : isMx w w.heap.size ao cap G) (hne : G ≠ []) (hrow : ∀ r ∈ G, r.length = N) : ∃ g off, ao = some ⟨g, off, none⟩ ∧ g < w.heap.size ∧ (∃ ro rc, w.cell? ⟨g, off, none⟩ = some (.slice ro N rc)) ∧ ∀ i j, i < G.length → j < N → ∃ rg roff rci, rg < w.heap.size ∧ N ≤ rci ∧ rci ≤ maxLen ∧ w.cell? ⟨g, off + i, none⟩ = some (.slice (some ⟨rg, roff, none⟩) N rci) ∧ w.cell? ⟨rg, roff + j, none⟩ = some (.int .i64 (atG G i j)) := by
  obtain ⟨g, off, e, hg, hc⟩ := h.cells hne
  refine ⟨g, off, e, hg, ?_, fun i j hi hj => ?_⟩
  · have h0 : 0 < G.length := List.length_pos_iff.2 hne
    obtain ⟨ro, rc, h1, -⟩ := hc 0 _ (List.getElem?_eq_getElem h0)
    rw [Nat.add_zero, hrow _ (List.getElem_mem h0)] at h1
    exact ⟨ro, rc, h1⟩
  · have hr := hrow _ (List.getElem_mem hi)
    obtain ⟨ro, rc, h1, h2⟩ := hc i _ (List.getElem?_eq_getElem hi)
    obtain ⟨rg, roff, e2, hrg, hcc⟩ := h2.cells (fun e => by rw [e] at hr; simp at hr; omega)
    have hjl : j < (G[i]).length := by omega
    subst e2
    refine ⟨rg, roff, rc, hrg, by have := h2.le; omega, h2.most, by rw [h1, hr], ?_⟩
    rw [hcc j _ (List.getElem?_eq_getElem hjl)]
    have e3 : G.getD i [] = G[i] := by rw [List.getD_eq_getElem?_getD, List.getElem?_eq_getElem hi]; rfl
    unfold atG
    rw [e3, List.getD_eq_getElem?_getD, List.getElem?_eq_getElem hjl]
    rfl

set_option linter.unusedSimpArgs false in
set_option maxRecDepth 100000 in
set_option maxHeartbeats 8000000 in
theorem minorsOf_any (G : List (List Int)) (ao : Option Addr) (cap m N : Nat) (w : World) (hd : isDb w) (h : isMx w w.heap.size ao cap G) (hm : G.length = m) (hm1 : 1 ≤ m) (hm6 : m ≤ 6) (hN6 : N ≤ 6) (hrow : ∀ r ∈ G, r.length = N) (hA : ∀ i j, (atG G i j).natAbs ≤ 100) :
    Calls Tryd.prog 31 #[.slice ao m cap] w fun e w' => ∃ b T, e = .returned (.pointer (some ⟨b, 0, none⟩)) ∧ isMn w' b T ∧ RT m N (atG G) (allP m N) T ∧ w.heap.size ≤ b ∧ Below w.heap.size w w' := by
  obtain ⟨Z, hZr, hZs, hZ⟩ := zero_ex
  have hcap1 := h.le
  have hcap2 := h.most
  rw [hm] at hcap1
  unfold maxLen at hcap2
  obtain ⟨g, off, rfl, hg, ⟨ro, rc, hc0⟩, hcs⟩ := mx_at h (fun e => by rw [e] at hm; simp at hm; omega) hrow
  rw [hm] at hcs
  have HCS := hide hcs
  have HA := hide hA
  have h2w := hd.lt
  clear h hm hrow hcs hA
  refine (callsIn_wide (n := 8)).1 ?_
  refine callsIn_of_wp_marks Tryd.func31 rfl trivial ?_ rfl
  simp only [Tryd.ntmps31, List.size_toArray, List.length_cons, List.length_nil, Nat.reduceAdd, Nat.reduceSub, Array.replicate_succ, Array.replicate_zero, List.push_toArray, List.append_toArray, List.nil_append, List.cons_append]
  gi_wp2_with (refine ⟨trivial, ?_⟩; gi_at_call 32; refine (callsIn_wide.2 (parts_any _ _ _ _)).mono ?_; rintro e w' ⟨rfl, rfl⟩)
  obtain ⟨W0, hW0⟩ : ∃ W0, (((w.alloc (Obj.cells #[Value.slice (some ⟨g, off, none⟩) m cap] 22)).alloc (Obj.cells (Z.setIfInBounds 0 (Value.int IntKind.i64 1)) 90)).alloc (Obj.cells #[Value.pointer (some ⟨w.heap.size + 1, 0, none⟩)] 63)).alloc (Obj.cells #[Value.slice (some ⟨g, off, none⟩) m cap] 22) = W0 := ⟨_, rfl⟩
  have hsz : W0.heap.size = w.heap.size + 4 := by rw [← hW0]; simp
  have hF0 : MnF w W0 (.slice (some ⟨g, off, none⟩) m cap) (setT (fun _ _ => 0) 0 0 1) := by
    rw [← hW0]
    refine ⟨((((Below.refl _ w).alloc (Nat.le_refl _) _).alloc (by simp) _).alloc (by simp; omega) _).alloc (by simp; omega) _, ?_, ?_, ?_, ?_⟩
    · exact (((Boxed.new w _ _).alloc _).alloc _).alloc _
    · refine ⟨_, (Below.heap_alloc _ _ _ (by simp)).trans ((Below.heap_alloc _ _ _ (by simp)).trans (by have := heap_alloc_new (w.alloc (Obj.cells #[Value.slice (some ⟨g, off, none⟩) m cap] 22)) (Obj.cells (Z.setIfInBounds 0 (Value.int IntKind.i64 1)) 90); rw [World.size_alloc] at this; exact this)), by simp [hZs], fun r c hr hc => ?_⟩
      rw [Array.getElem?_setIfInBounds]
      unfold setT
      by_cases e : r = 0 ∧ c = 0
      · rw [if_pos e, if_pos (by omega), if_pos (by omega)]
      · rw [if_neg e, if_neg (by omega)]
        exact hZ _ (by omega)
    · have := Boxed.new ((w.alloc (Obj.cells #[Value.slice (some ⟨g, off, none⟩) m cap] 22)).alloc (Obj.cells (Z.setIfInBounds 0 (Value.int IntKind.i64 1)) 90)) 63 (.pointer (some ⟨w.heap.size + 1, 0, none⟩))
      simp only [World.size_alloc] at this
      exact this.alloc _
    · have := Boxed.new (((w.alloc (Obj.cells #[Value.slice (some ⟨g, off, none⟩) m cap] 22)).alloc (Obj.cells (Z.setIfInBounds 0 (Value.int IntKind.i64 1)) 90)).alloc (Obj.cells #[Value.pointer (some ⟨w.heap.size + 1, 0, none⟩)] 63)) 22 (.slice (some ⟨g, off, none⟩) m cap)
      simp only [World.size_alloc] at this
      exact this
  rw [hW0]
  clear hW0
  have hPa : isPa W0 w.heap.size (w.heap.size + 1 + 1 + 1) g off cap m N ro rc := ⟨hg, hF0.bs.cell, (hF0.bw.cell (p := ⟨g, off, none⟩) hg).trans hc0⟩
  refine wpIn_rangeFunc_ownH rfl (by omega) (gf := 58) (lb := #[.pointer (some ⟨w.heap.size + 1 + 1 + 1, 0, none⟩)]) rfl trivial (enters_of Tryd.func58 (by kernel_rfl) rfl)
    (prt_stops _ (by omega) (w.heap.size + 1 + 1 + 1) w.heap.size g off cap m N ro rc hm1 hm6 hN6 W0 (by omega) (by omega) hPa) (fun h k => KpB.trans h k) (fun W l o o' => KpB.put (by omega) (by omega) W l o o') (Below.refl _ _) (fun _ => rfl)
    (fun pre W => ∃ T, MnF w W (.slice (some ⟨g, off, none⟩) m cap) T ∧ RT m N (atG G) pre T)
    (fun _ _ _ => False)
    (fun s X Y row hs hgw hr => by obtain ⟨T, h1, h2⟩ := hs; exact ⟨T, h1.grown hgw (fun b e => by have := (hr b e).1; omega), h2⟩)
    (fun _ _ _ _ _ hs _ _ => hs)
    ⟨_, hF0, RT.start m N (atG G)⟩
    (fun x a' W => ∃ Br Bc, w.heap.size + 3 < Br ∧ Br < Bc ∧ Boxed W Br 69 (.int .u64 (x.1.1 : Int)) ∧ Boxed W Bc 69 (.int .u64 (x.1.2 : Int)) ∧ a' = { tmps := #[.slice (some ⟨g, off, none⟩) m cap, .pointer (some ⟨w.heap.size, 0, none⟩), .pointer none, .pointer (some ⟨w.heap.size + 1 + 1, 0, none⟩), .pointer (some ⟨Br, 0, none⟩), .pointer (some ⟨Bc, 0, none⟩), undef, undef, .agg Z, .pointer (some ⟨w.heap.size + 1, 0, none⟩), .pointer (some ⟨w.heap.size + 1, 0, none⟩), .pointer (some ⟨w.heap.size + 1, 0, none⟩), .pointer (some ⟨w.heap.size + 1, 0, none⟩), .pointer (some ⟨w.heap.size + 1, 0, none⟩), .slice (some ⟨g, off, none⟩) m cap, .func (.func 58) #[] #[.pointer (some ⟨w.heap.size + 1 + 1 + 1, 0, none⟩)], .int .u64 (x.1.1 : Int), .int .u64 (x.1.2 : Int), undef, undef, undef, undef, undef, undef, undef, undef, undef, undef, undef, undef, undef, undef, undef, undef, undef, undef, undef, undef, undef, undef, undef, undef, undef, undef, undef, undef, undef, undef, undef], defers := [] })
    (fun x a' _ X Y row hs hgw hr => by
      obtain ⟨Br, Bc, h1, h2, h3, h4, h5⟩ := hs
      exact ⟨Br, Bc, h1, h2, boxed_own Br _ (fun (_ : Unit) => Value.int .u64 (x.1.1 : Int)) () X Y row h3 hgw (fun r e => (hr r e).2), boxed_own Bc _ (fun (_ : Unit) => Value.int .u64 (x.1.2 : Int)) () X Y row h4 hgw (fun r e => (hr r e).2), h5⟩)
    ?assign ?body ?done ?stop
  case assign =>
    rintro l pre x W K ⟨T, hF, hRT⟩ hK
    have hsW := hF.size
    gi_wp2
    have hB : Below w.heap.size W ((W.alloc (Obj.cells #[Value.int .u64 (x.1.1 : Int)] 69)).alloc (Obj.cells #[Value.int .u64 (x.1.2 : Int)] 69)) := ((Below.refl _ W).alloc hF.bw.size _).alloc (by have := hF.bw.size; simp; omega) _
    have b2 := Boxed.new (W.alloc (Obj.cells #[Value.int .u64 (x.1.1 : Int)] 69)) 69 (.int .u64 (x.1.2 : Int))
    rw [World.size_alloc] at b2
    exact hK _ _ (((KeepsOthers.alloc _ _).trans (KeepsOthers.alloc _ _)).from _) ⟨hB, (Below.heap_alloc _ _ _ (by simp; omega)).trans (Below.heap_alloc _ _ _ (by omega))⟩ ⟨T, (hF.alloc _).alloc _, hRT⟩ ⟨W.heap.size, W.heap.size + 1, by omega, by omega, (Boxed.new W _ _).alloc _, b2, rfl⟩
  case body =>
    rintro l pre x a' W hl ⟨rr, hr⟩ ⟨T, hF, hRT⟩ ⟨Br, Bc, hBr, hBrc, bR, bC, rfl⟩ hlt
    have HNX := hide (hRT.next (unhide HA) hm6 hN6 x)
    obtain ⟨⟨r, c⟩, hx⟩ := x
    simp only at HNX bR bC ⊢
    have x1 := hx.1
    have x2 := hx.2.1
    have x4 := hx.2.2.2.1
    simp only at x1 x2 x4
    have hr64 : r < 64 := Nat.lt_of_lt_of_le x2 (Nat.pow_le_pow_right (n := 2) (by omega) hm6)
    have hc64 : c < 64 := Nat.lt_of_lt_of_le x4 (Nat.pow_le_pow_right (n := 2) (by omega) hN6)
    obtain ⟨f1, f2, -⟩ := fs_mem r hr64 x1
    obtain ⟨i, hi⟩ : ∃ i, i = fs r := ⟨_, rfl⟩
    have him : i < m := MS.lt x2 ⟨i, by rw [hi]; exact f1, by rw [hi]; exact f2⟩
    have hdW := hd.below hF.bw h2w
    have C1 := first_any r hr64 x1 W hdW
    rw [← hi] at C1 HNX f1 f2
    have cR := bR.cell
    have cC : ∀ o, (W.alloc o).cell? ⟨Bc, 0, none⟩ = some (.int .u64 (c : Int)) := fun o => (bC.alloc o).cell
    have hsW := hF.size
    have hsB := hF.bw.size
    have HI := hide hi
    clear hi
    gi_wp2_with (first | (refine ⟨trivial, ?_⟩; gi_at_call 55; refine (CallsIn.inRound l (callsIn_wide.2 C1)).mono ?_; clear C1; rintro e w' ⟨rfl, hw'⟩; replace hw' := hw'.symm; subst hw') | (refine ⟨trivial, ?_⟩; gi_at_call 56; refine (CallsIn.inRound l (callsIn_wide.2 (members_any c _))).mono ?_; rintro e w' ⟨rfl, rfl⟩))
    obtain ⟨W1, hW1⟩ : ∃ W1, (W.alloc (Obj.cells #[Value.int IntKind.i64 (i : Int)] 3)).alloc (Obj.cells #[Value.int IntKind.u64 (c : Int)] 69) = W1 := ⟨_, rfl⟩
    have hs1 : W1.heap.size = W.heap.size + 2 := by rw [← hW1]; simp
    have hF1 : MnF w W1 (.slice (some ⟨g, off, none⟩) m cap) T := by rw [← hW1]; exact (hF.alloc _).alloc _
    have bR1 : Boxed W1 Br 69 (.int .u64 (r : Int)) := by rw [← hW1]; exact (bR.alloc _).alloc _
    have bC1 : Boxed W1 Bc 69 (.int .u64 (c : Int)) := by rw [← hW1]; exact (bC.alloc _).alloc _
    have bI1 : Boxed W1 W.heap.size 3 (.int .i64 (i : Int)) := by rw [← hW1]; exact (Boxed.new W _ _).alloc _
    have bN1 : Boxed W1 (W.heap.size + 1) 69 (.int .u64 (c : Int)) := by
      have := Boxed.new (W.alloc (Obj.cells #[Value.int IntKind.i64 (i : Int)] 3)) 69 (.int .u64 (c : Int))
      rw [World.size_alloc] at this
      rw [← hW1]; exact this
    have hK1 : KpB w.heap.size (w.heap.size + 1 + 1 + 1) W W1 := by
      rw [← hW1]
      exact ⟨((Below.refl _ W).alloc hsB _).alloc (by simp; omega) _, (Below.heap_alloc _ _ _ (by simp; omega)).trans (Below.heap_alloc _ _ _ (by omega))⟩
    have hO1 : KeepsFrom W0.heap.size W W1 := by rw [← hW1]; exact ((KeepsOthers.alloc _ _).trans (KeepsOthers.alloc _ _)).from _
    have hr1 : W1.heap[l]? = some (.loop rr) := by
      have hlW := (Array.getElem?_eq_some_iff.1 hr).1
      rw [← hW1]
      exact (Below.heap_alloc _ _ _ (by simp; omega)).trans ((Below.heap_alloc _ _ _ hlW).trans hr)
    have hbr := bR.lt
    have hbc := bC.lt
    rw [hW1]
    clear hW1 cR cC
    have hd1 := hd.below hF1.bw h2w
    refine wpIn_rangeFunc_ownN (l₀ := l) (r₀ := rr) rfl hr1 (by omega) (gf := 79) (lb := #[.pointer (some ⟨W.heap.size + 1, 0, none⟩)]) rfl trivial (enters_of Tryd.func79 (by kernel_rfl) rfl)
      ((mem_stops _ (by omega) (W.heap.size + 1) w.heap.size c hc64 h2w W1 (by omega) (by omega) bN1.cell hd1).inRound l) belowK_t (belowK_b (by omega)) (Below.refl _ _) (fun _ => rfl)
      (fun pre' W' => (MnF w W' (.slice (some ⟨g, off, none⟩) m cap) (setT T r c (accT (atG G) T r c i pre')) ∧ (Boxed W' Br 69 (.int .u64 (r : Int)) ∧ Boxed W' Bc 69 (.int .u64 (c : Int)) ∧ Boxed W' W.heap.size 3 (.int .i64 (i : Int)))) ∧ (KpB w.heap.size (w.heap.size + 1 + 1 + 1) W W' ∧ KeepsFrom W0.heap.size W W'))
      (fun _ _ _ => False)
      (OwnFrom.and (OwnFrom.and (mnF_own (by omega) _) (OwnFrom.and (Own.from (boxed_own _ _ _) _) (OwnFrom.and (Own.from (boxed_own _ _ _) _) (Own.from (boxed_own _ _ _) _)))) (OwnFrom.and (kpB_own hsB (by omega) (by omega) (by omega)) (ownFrom_keepsFrom (by omega))))
      (fun _ _ _ _ _ hs _ _ => hs)
      ⟨⟨by simp only [accT, List.foldl_nil]; rw [setT_self]; exact hF1, bR1, bC1, bI1⟩, hK1, hO1⟩
      (fun y a'' _ => a'' = { tmps := #[.slice (some ⟨g, off, none⟩) m cap, .pointer (some ⟨w.heap.size, 0, none⟩), .pointer none, .pointer (some ⟨w.heap.size + 1 + 1, 0, none⟩), .pointer (some ⟨Br, 0, none⟩), .pointer (some ⟨Bc, 0, none⟩), .pointer (some ⟨W.heap.size, 0, none⟩), .int .i64 (y.1 : Int), .agg Z, .pointer (some ⟨w.heap.size + 1, 0, none⟩), .pointer (some ⟨w.heap.size + 1, 0, none⟩), .pointer (some ⟨w.heap.size + 1, 0, none⟩), .pointer (some ⟨w.heap.size + 1, 0, none⟩), .pointer (some ⟨w.heap.size + 1, 0, none⟩), .slice (some ⟨g, off, none⟩) m cap, .func (.func 58) #[] #[.pointer (some ⟨w.heap.size + 1 + 1 + 1, 0, none⟩)], .int .u64 (r : Int), .int .u64 (c : Int), .int .u64 (r : Int), .int .i64 (i : Int), .int .u64 (c : Int), .func (.func 79) #[] #[.pointer (some ⟨W.heap.size + 1, 0, none⟩)], .int .i64 (y.1 : Int), undef, undef, undef, undef, undef, undef, undef, undef, undef, undef, undef, undef, undef, undef, undef, undef, undef, undef, undef, undef, undef, undef, undef, undef, undef, undef], defers := [] })
      (fun _ _ _ _ _ _ hs _ _ => hs)
      ?assign2 ?body2 ?done2 ?stop2
    case assign2 =>
      rintro l2 pre' y W' K hi hK
      gi_wp2
      exact hK _ _ (KeepsFrom.refl _ _) (Below.refl _ _) hi rfl
    case body2 =>
      rintro l2 pre' y a'' W' _ _ ⟨⟨hF2, bR2, bC2, bI2⟩, hKP, hKF⟩ rfl _
      obtain ⟨j, hy⟩ := y
      simp only
      have hjN : j < N := MS.lt x4 ⟨j, hy⟩
      obtain ⟨hj6, hjb⟩ := hy
      obtain ⟨rg, roff, rci, hrg, hr1', hr2', hcr, hca⟩ := unhide HCS i j him hjN
      unfold maxLen at hr2'
      obtain ⟨aij, haij⟩ : ∃ a, a = atG G i j := ⟨_, rfl⟩
      rw [← haij] at hca
      have cm := (hF2.mn.cell hr64 hc64).1
      have cf0 := (hF2.mn.cell hr64 hc64).2
      have et : setT T r c (accT (atG G) T r c i pre') r c = accT (atG G) T r c i pre' := by unfold setT; rw [if_pos ⟨rfl, rfl⟩]
      rw [et] at cm
      have HCO := hide (fun (u : World) hu => cofactor_any (w.heap.size + 1) r c i j (setT T r c (accT (atG G) T r c i pre')) hr64 hc64 (by omega) hj6 u hu)
      rw [show cofT (setT T r c (accT (atG G) T r c i pre')) r c i j = cofT T r c i j from cofT_set T hr64 (by omega) f2 _ j] at HCO
      have HMN : Hid (isMn W' (w.heap.size + 1) (setT T r c (accT (atG G) T r c i pre'))) := hide hF2.mn
      have hsn := accT_snoc (atG G) T r c i pre' ⟨j, hj6, hjb⟩
      simp only at hsn
      rw [← haij] at hsn
      obtain ⟨av, hav⟩ : ∃ a, a = accT (atG G) T r c i pre' := ⟨_, rfl⟩
      obtain ⟨co, hco⟩ : ∃ a, a = cofT T r c i j := ⟨_, rfl⟩
      rw [← hav] at cm hsn
      rw [← hco] at HCO hsn
      have HFIN : Hid (∀ u : World, (∀ k, u.heap[k]? = W'.heap[k]?) → (u.os = W'.os ∧ u.tape = W'.tape ∧ u.output = W'.output ∧ u.heap.size = W'.heap.size) → KeepsFrom W1.heap.size W' (u.setCell ⟨w.heap.size + 1, r * 64 + c, none⟩ (.int .i64 (wrap64 (av + wrap64 (aij * co))))) ∧ Below w.heap.size W' (u.setCell ⟨w.heap.size + 1, r * 64 + c, none⟩ (.int .i64 (wrap64 (av + wrap64 (aij * co))))) ∧ ((MnF w (u.setCell ⟨w.heap.size + 1, r * 64 + c, none⟩ (.int .i64 (wrap64 (av + wrap64 (aij * co))))) (.slice (some ⟨g, off, none⟩) m cap) (setT T r c (accT (atG G) T r c i (pre' ++ [⟨j, hj6, hjb⟩]))) ∧ (Boxed (u.setCell ⟨w.heap.size + 1, r * 64 + c, none⟩ (.int .i64 (wrap64 (av + wrap64 (aij * co))))) Br 69 (.int .u64 (r : Int)) ∧ Boxed (u.setCell ⟨w.heap.size + 1, r * 64 + c, none⟩ (.int .i64 (wrap64 (av + wrap64 (aij * co))))) Bc 69 (.int .u64 (c : Int)) ∧ Boxed (u.setCell ⟨w.heap.size + 1, r * 64 + c, none⟩ (.int .i64 (wrap64 (av + wrap64 (aij * co))))) W.heap.size 3 (.int .i64 (i : Int)))) ∧ (KpB w.heap.size (w.heap.size + 1 + 1 + 1) W (u.setCell ⟨w.heap.size + 1, r * 64 + c, none⟩ (.int .i64 (wrap64 (av + wrap64 (aij * co))))) ∧ KeepsFrom W0.heap.size W (u.setCell ⟨w.heap.size + 1, r * 64 + c, none⟩ (.int .i64 (wrap64 (av + wrap64 (aij * co)))))))) := hide (fun u hu hu2 => by
        have hFu : MnF w u (.slice (some ⟨g, off, none⟩) m cap) (setT T r c (accT (atG G) T r c i pre')) := hF2.grown (ob := none) ⟨hu2.1, hu2.2.1, hu2.2.2.1, by omega, fun k _ _ => hu k⟩ (fun b e => by cases e)
        have hP := hFu.put hr64 hc64 (wrap64 (av + wrap64 (aij * co)))
        rw [setT_set, ← hsn] at hP
        rw [hsn] at hP
        have hne : ∀ k, k ≠ w.heap.size + 1 → (u.setCell ⟨w.heap.size + 1, r * 64 + c, none⟩ (.int .i64 (wrap64 (av + wrap64 (aij * co))))).heap[k]? = W'.heap[k]? := fun k hk => by
          have : w.heap.size + 1 ≠ k := fun e => hk e.symm
          rw [← hu k]
          simp [World.setCell, Array.getElem?_modify, this]
        have hsu : (u.setCell ⟨w.heap.size + 1, r * 64 + c, none⟩ (.int .i64 (wrap64 (av + wrap64 (aij * co))))).heap.size = W'.heap.size := by simp [World.setCell, hu2.2.2.2]
        have hBl : Below w.heap.size W' (u.setCell ⟨w.heap.size + 1, r * 64 + c, none⟩ (.int .i64 (wrap64 (av + wrap64 (aij * co))))) := ⟨hu2.1, hu2.2.1, hu2.2.2.1, by omega, fun k hk => hne k (by omega)⟩
        have hkf : ∀ B, w.heap.size + 2 ≤ B → KeepsFrom B W' (u.setCell ⟨w.heap.size + 1, r * 64 + c, none⟩ (.int .i64 (wrap64 (av + wrap64 (aij * co))))) := fun B hB => ⟨by omega, fun k o hk h1 _ => (hne k (by omega)).trans h1⟩
        refine ⟨hkf _ (by omega), hBl, ⟨by rw [hsn]; exact hP, (hne _ (by omega)).trans bR2, (hne _ (by omega)).trans bC2, (hne _ (by omega)).trans bI2⟩, ⟨hKP.1.trans hBl, (hne _ (by omega)).trans hKP.2⟩, hKF.trans (hkf _ (by omega))⟩)
      have hS0 : (W'.cell? ⟨w.heap.size + 1 + 1, 0, none⟩ = some (.pointer (some ⟨w.heap.size + 1, 0, none⟩)) ∧ W'.cell? ⟨Br, 0, none⟩ = some (.int .u64 (r : Int)) ∧ W'.cell? ⟨Bc, 0, none⟩ = some (.int .u64 (c : Int)) ∧ W'.cell? ⟨w.heap.size, 0, none⟩ = some (.slice (some ⟨g, off, none⟩) m cap) ∧ W'.cell? ⟨W.heap.size, 0, none⟩ = some (.int .i64 (i : Int)) ∧ W'.cell? ⟨g, off + i, none⟩ = some (.slice (some ⟨rg, roff, none⟩) N rci) ∧ W'.cell? ⟨rg, roff + j, none⟩ = some (.int .i64 aij)) :=
        ⟨hF2.bm.cell, bR2.cell, bC2.cell, hF2.ba.cell, bI2.cell, (hF2.bw.cell (p := ⟨g, off + i, none⟩) hg).trans hcr, (hF2.bw.cell (p := ⟨rg, roff + j, none⟩) hrg).trans hca⟩
      have HS1 : Hid (∀ u : World, (∀ k, k ≠ w.heap.size + 1 → u.heap[k]? = W'.heap[k]?) → (u.cell? ⟨w.heap.size + 1 + 1, 0, none⟩ = some (.pointer (some ⟨w.heap.size + 1, 0, none⟩)) ∧ u.cell? ⟨Br, 0, none⟩ = some (.int .u64 (r : Int)) ∧ u.cell? ⟨Bc, 0, none⟩ = some (.int .u64 (c : Int)) ∧ u.cell? ⟨w.heap.size, 0, none⟩ = some (.slice (some ⟨g, off, none⟩) m cap) ∧ u.cell? ⟨W.heap.size, 0, none⟩ = some (.int .i64 (i : Int)) ∧ u.cell? ⟨g, off + i, none⟩ = some (.slice (some ⟨rg, roff, none⟩) N rci) ∧ u.cell? ⟨rg, roff + j, none⟩ = some (.int .i64 aij))) := hide (fun u hu => by
        have key : ∀ b k, b ≠ w.heap.size + 1 → u.cell? ⟨b, k, none⟩ = W'.cell? ⟨b, k, none⟩ := fun b k hb => cell_block (hu b hb) k
        refine ⟨(key _ _ (by omega)).trans hS0.1, (key _ _ (by omega)).trans hS0.2.1, (key _ _ (by omega)).trans hS0.2.2.1, (key _ _ (by omega)).trans hS0.2.2.2.1, (key _ _ (by omega)).trans hS0.2.2.2.2.1, (key _ _ (by omega)).trans hS0.2.2.2.2.2.1, (key _ _ (by omega)).trans hS0.2.2.2.2.2.2⟩)
      have hr0 : (0 : Int) ≤ (r : Int) := by omega
      have hrI : (r : Int) < 64 := by omega
      have hcI0 : (0 : Int) ≤ (c : Int) := by omega
      have hcI : (c : Int) < 64 := by omega
      have hi0 : (0 : Int) ≤ (i : Int) := by omega
      have hiI : (i : Int) < (m : Int) := by omega
      have hj0 : (0 : Int) ≤ (j : Int) := by omega
      have hjI : (j : Int) < (N : Int) := by omega
      obtain ⟨Bi, hBi⟩ : ∃ B, B = W.heap.size := ⟨_, rfl⟩
      rw [← hBi] at HS1 HFIN ⊢
      have HBI := hide hBi
      clear hBi hS0 hF2 bR2 bC2 bI2 hKP hKF hcr hca hav hco hsn haij et HNX
      gi_wp2
      refine region_round (S := fun u => u.cell? ⟨w.heap.size + 1 + 1, 0, none⟩ = some (.pointer (some ⟨w.heap.size + 1, 0, none⟩)) ∧ u.cell? ⟨Br, 0, none⟩ = some (.int .u64 (r : Int)) ∧ u.cell? ⟨Bc, 0, none⟩ = some (.int .u64 (c : Int)) ∧ u.cell? ⟨w.heap.size, 0, none⟩ = some (.slice (some ⟨g, off, none⟩) m cap) ∧ u.cell? ⟨Bi, 0, none⟩ = some (.int .i64 (i : Int)) ∧ u.cell? ⟨g, off + i, none⟩ = some (.slice (some ⟨rg, roff, none⟩) N rci) ∧ u.cell? ⟨rg, roff + j, none⟩ = some (.int .i64 aij)) rfl (by kernel_rfl) (unhide HS1 _ (fun _ _ => rfl)) (fun hHeld => ?_)
      refine wpAnyH_take (i := 0) (oi := _) (v := ?_) rfl (by kernel_rfl) (by kernel_rfl) (by kernel_rfl) (fun _ _ _ h => h) (Or.inl ⟨by rfl, ?_⟩) (by assumption) ?_
      rotate_left 1
      · intro u hSu
        obtain ⟨s0, s1, s2, s3, s4, s5, s6⟩ := hSu
        go_simp
        first | done | with_reducible rfl | rfl
      simp only [Act.put, List.getElem_toArray, List.getElem_cons_zero, List.getElem_cons_succ, List.setIfInBounds_toArray, List.set_cons_zero, List.set_cons_succ]

      refine wpAnyH_take (i := 1) (oi := _) (v := ?_) rfl (by kernel_rfl) (by kernel_rfl) (by kernel_rfl) (fun _ _ _ h => h) (Or.inl ⟨by rfl, ?_⟩) (by assumption) ?_
      rotate_left 1
      · intro u hSu
        obtain ⟨s0, s1, s2, s3, s4, s5, s6⟩ := hSu
        go_simp
        first | done | with_reducible rfl | rfl
      simp only [Act.put, List.getElem_toArray, List.getElem_cons_zero, List.getElem_cons_succ, List.setIfInBounds_toArray, List.set_cons_zero, List.set_cons_succ]

      refine wpAnyH_take (i := 2) (oi := _) (v := ?_) rfl (by kernel_rfl) (by kernel_rfl) (by kernel_rfl) (fun _ _ _ h => h) (Or.inl ⟨by rfl, ?_⟩) (by assumption) ?_
      rotate_left 1
      · intro u hSu
        obtain ⟨s0, s1, s2, s3, s4, s5, s6⟩ := hSu
        go_simp
        first | done | with_reducible rfl | rfl
      simp only [Act.put, List.getElem_toArray, List.getElem_cons_zero, List.getElem_cons_succ, List.setIfInBounds_toArray, List.set_cons_zero, List.set_cons_succ]

      refine wpAnyH_take (i := 3) (oi := _) (v := ?_) rfl (by kernel_rfl) (by kernel_rfl) (by kernel_rfl) (fun _ _ _ h => h) (Or.inl ⟨by rfl, ?_⟩) (by assumption) ?_
      rotate_left 1
      · intro u hSu
        obtain ⟨s0, s1, s2, s3, s4, s5, s6⟩ := hSu
        go_simp
        first | done | with_reducible rfl | rfl
      simp only [Act.put, List.getElem_toArray, List.getElem_cons_zero, List.getElem_cons_succ, List.setIfInBounds_toArray, List.set_cons_zero, List.set_cons_succ]

      refine wpAnyH_take (i := 4) (oi := _) (v := ?_) rfl (by kernel_rfl) (by kernel_rfl) (by kernel_rfl) (fun _ _ _ h => h) (Or.inl ⟨by rfl, ?_⟩) (by assumption) ?_
      rotate_left 1
      · intro u hSu
        obtain ⟨s0, s1, s2, s3, s4, s5, s6⟩ := hSu
        go_simp
        first | done | with_reducible rfl | rfl
      simp only [Act.put, List.getElem_toArray, List.getElem_cons_zero, List.getElem_cons_succ, List.setIfInBounds_toArray, List.set_cons_zero, List.set_cons_succ]

      refine wpAnyH_take (i := 5) (oi := _) (v := ?_) rfl (by kernel_rfl) (by kernel_rfl) (by kernel_rfl) (fun _ _ _ h => h) (Or.inl ⟨by rfl, ?_⟩) (by assumption) ?_
      rotate_left 1
      · intro u hSu
        obtain ⟨s0, s1, s2, s3, s4, s5, s6⟩ := hSu
        go_simp
        first | done | with_reducible rfl | rfl
      simp only [Act.put, List.getElem_toArray, List.getElem_cons_zero, List.getElem_cons_succ, List.setIfInBounds_toArray, List.set_cons_zero, List.set_cons_succ]

      refine wpAnyH_take (i := 7) (oi := _) (v := ?_) rfl (by kernel_rfl) (by kernel_rfl) (by kernel_rfl) (fun _ _ _ h => h) (Or.inl ⟨by rfl, ?_⟩) (by assumption) ?_
      rotate_left 1
      · intro u hSu
        obtain ⟨s0, s1, s2, s3, s4, s5, s6⟩ := hSu
        go_simp
        first | done | with_reducible rfl | rfl
      simp only [Act.put, List.getElem_toArray, List.getElem_cons_zero, List.getElem_cons_succ, List.setIfInBounds_toArray, List.set_cons_zero, List.set_cons_succ]

      refine wpAnyH_take (i := 8) (oi := _) (v := ?_) rfl (by kernel_rfl) (by kernel_rfl) (by kernel_rfl) (fun _ _ _ h => h) (Or.inl ⟨by rfl, ?_⟩) (by assumption) ?_
      rotate_left 1
      · intro u hSu
        obtain ⟨s0, s1, s2, s3, s4, s5, s6⟩ := hSu
        go_simp
        first | done | with_reducible rfl | rfl
      simp only [Act.put, List.getElem_toArray, List.getElem_cons_zero, List.getElem_cons_succ, List.setIfInBounds_toArray, List.set_cons_zero, List.set_cons_succ]

      refine wpAnyH_take (i := 9) (oi := _) (v := ?_) rfl (by kernel_rfl) (by kernel_rfl) (by kernel_rfl) (fun _ _ _ h => h) (Or.inl ⟨by rfl, ?_⟩) (by assumption) ?_
      rotate_left 1
      · intro u hSu
        obtain ⟨s0, s1, s2, s3, s4, s5, s6⟩ := hSu
        go_simp
        first | done | with_reducible rfl | rfl
      simp only [Act.put, List.getElem_toArray, List.getElem_cons_zero, List.getElem_cons_succ, List.setIfInBounds_toArray, List.set_cons_zero, List.set_cons_succ]

      refine wpAnyH_take (i := 10) (oi := _) (v := ?_) rfl (by kernel_rfl) (by kernel_rfl) (by kernel_rfl) (fun _ _ _ h => h) (Or.inl ⟨by rfl, ?_⟩) (by assumption) ?_
      rotate_left 1
      · intro u hSu
        obtain ⟨s0, s1, s2, s3, s4, s5, s6⟩ := hSu
        go_simp
        first | done | with_reducible rfl | rfl
      simp only [Act.put, List.getElem_toArray, List.getElem_cons_zero, List.getElem_cons_succ, List.setIfInBounds_toArray, List.set_cons_zero, List.set_cons_succ]

      refine wpAnyH_take (i := 11) (oi := _) (v := ?_) rfl (by kernel_rfl) (by kernel_rfl) (by kernel_rfl) (fun _ _ _ h => h) (Or.inl ⟨by rfl, ?_⟩) (by assumption) ?_
      rotate_left 1
      · intro u hSu
        obtain ⟨s0, s1, s2, s3, s4, s5, s6⟩ := hSu
        go_simp
        first | done | with_reducible rfl | rfl
      simp only [Act.put, List.getElem_toArray, List.getElem_cons_zero, List.getElem_cons_succ, List.setIfInBounds_toArray, List.set_cons_zero, List.set_cons_succ]

      refine wpAnyH_take (i := 12) (oi := _) (v := ?_) rfl (by kernel_rfl) (by kernel_rfl) (by kernel_rfl) (fun _ _ _ h => h) (Or.inl ⟨by rfl, ?_⟩) (by assumption) ?_
      rotate_left 1
      · intro u hSu
        obtain ⟨s0, s1, s2, s3, s4, s5, s6⟩ := hSu
        go_simp
        first | done | with_reducible rfl | rfl
      simp only [Act.put, List.getElem_toArray, List.getElem_cons_zero, List.getElem_cons_succ, List.setIfInBounds_toArray, List.set_cons_zero, List.set_cons_succ]

      refine wpAnyH_take (i := 13) (oi := _) (v := ?_) rfl (by kernel_rfl) (by kernel_rfl) (by kernel_rfl) (fun _ _ _ h => h) (Or.inl ⟨by rfl, ?_⟩) (by assumption) ?_
      rotate_left 1
      · intro u hSu
        obtain ⟨s0, s1, s2, s3, s4, s5, s6⟩ := hSu
        go_simp
        first | done | with_reducible rfl | rfl
      simp only [Act.put, List.getElem_toArray, List.getElem_cons_zero, List.getElem_cons_succ, List.setIfInBounds_toArray, List.set_cons_zero, List.set_cons_succ]

      refine wpAnyH_take (i := 14) (oi := _) (v := ?_) rfl (by kernel_rfl) (by kernel_rfl) (by kernel_rfl) (fun _ _ _ h => h) (Or.inl ⟨by rfl, ?_⟩) (by assumption) ?_
      rotate_left 1
      · intro u hSu
        obtain ⟨s0, s1, s2, s3, s4, s5, s6⟩ := hSu
        go_simp
        first | done | with_reducible rfl | rfl
      simp only [Act.put, List.getElem_toArray, List.getElem_cons_zero, List.getElem_cons_succ, List.setIfInBounds_toArray, List.set_cons_zero, List.set_cons_succ]

      refine wpAnyH_take (i := 15) (oi := _) (v := ?_) rfl (by kernel_rfl) (by kernel_rfl) (by kernel_rfl) (fun _ _ _ h => h) (Or.inl ⟨by rfl, ?_⟩) (by assumption) ?_
      rotate_left 1
      · intro u hSu
        obtain ⟨s0, s1, s2, s3, s4, s5, s6⟩ := hSu
        go_simp
        first | done | with_reducible rfl | rfl
      simp only [Act.put, List.getElem_toArray, List.getElem_cons_zero, List.getElem_cons_succ, List.setIfInBounds_toArray, List.set_cons_zero, List.set_cons_succ]

      refine wpAnyH_take (i := 16) (oi := _) (v := ?_) rfl (by kernel_rfl) (by kernel_rfl) (by kernel_rfl) (fun _ _ _ h => h) (Or.inl ⟨by rfl, ?_⟩) (by assumption) ?_
      rotate_left 1
      · intro u hSu
        obtain ⟨s0, s1, s2, s3, s4, s5, s6⟩ := hSu
        go_simp
        first | done | with_reducible rfl | rfl
      simp only [Act.put, List.getElem_toArray, List.getElem_cons_zero, List.getElem_cons_succ, List.setIfInBounds_toArray, List.set_cons_zero, List.set_cons_succ]

      refine wpAnyH_take (i := 17) (oi := _) (v := ?_) rfl (by kernel_rfl) (by kernel_rfl) (by kernel_rfl) (fun _ _ _ h => h) (Or.inl ⟨by rfl, ?_⟩) (by assumption) ?_
      rotate_left 1
      · intro u hSu
        obtain ⟨s0, s1, s2, s3, s4, s5, s6⟩ := hSu
        go_simp
        first | done | with_reducible rfl | rfl
      simp only [Act.put, List.getElem_toArray, List.getElem_cons_zero, List.getElem_cons_succ, List.setIfInBounds_toArray, List.set_cons_zero, List.set_cons_succ]

      refine wpAnyH_take (i := 18) (oi := _) (v := ?_) rfl (by kernel_rfl) (by kernel_rfl) (by kernel_rfl) (fun _ _ _ h => h) (Or.inl ⟨by rfl, ?_⟩) (by assumption) ?_
      rotate_left 1
      · intro u hSu
        obtain ⟨s0, s1, s2, s3, s4, s5, s6⟩ := hSu
        go_simp
        first | done | with_reducible rfl | rfl
      simp only [Act.put, List.getElem_toArray, List.getElem_cons_zero, List.getElem_cons_succ, List.setIfInBounds_toArray, List.set_cons_zero, List.set_cons_succ]

      refine wpAnyH_take (i := 22) (oi := _) (v := ?_) rfl (by kernel_rfl) (by kernel_rfl) (by kernel_rfl) (fun _ _ _ h => h) (Or.inl ⟨by rfl, ?_⟩) (by assumption) ?_
      rotate_left 1
      · intro u hSu
        obtain ⟨s0, s1, s2, s3, s4, s5, s6⟩ := hSu
        go_simp
        first | done | with_reducible rfl | rfl
      simp only [Act.put, List.getElem_toArray, List.getElem_cons_zero, List.getElem_cons_succ, List.setIfInBounds_toArray, List.set_cons_zero, List.set_cons_succ]

      refine wpAnyH_take (i := 23) (oi := _) (v := ?_) rfl (by kernel_rfl) (by kernel_rfl) (by kernel_rfl) (fun _ _ _ h => h) (Or.inl ⟨by rfl, ?_⟩) (by assumption) ?_
      rotate_left 1
      · intro u hSu
        obtain ⟨s0, s1, s2, s3, s4, s5, s6⟩ := hSu
        go_simp
        first | done | with_reducible rfl | rfl
      simp only [Act.put, List.getElem_toArray, List.getElem_cons_zero, List.getElem_cons_succ, List.setIfInBounds_toArray, List.set_cons_zero, List.set_cons_succ]

      refine wpAnyH_ready (rs := [6, 19]) (by kernel_rfl) (by simp) ?_
      refine AllReadyH.cons (o := _) rfl (fun K hK => ?_) (AllReadyH.cons (o := _) rfl (fun K hK => ?_) AllReadyH.nil)
      · skip
        go_simp
        clear hHeld
        refine hK.out _ _ (unhide HS1 _ (fun _ _ => rfl)) (fun hHeld => ?_)
        clear hK K
        refine wpAnyH_ready (rs := [19]) (by kernel_rfl) (by simp) ?_
        refine AllReadyH.cons (o := _) rfl (fun K hK => ?_) AllReadyH.nil
        refine step_call (by rfl) 57 #[.tmp 37, .tmp 38, .tmp 39, .tmp 40, .tmp 41] #[63, 69, 69, 3, 3] rfl #[.pointer (some ⟨w.heap.size + 1, 0, none⟩), .int .u64 (r : Int), .int .u64 (c : Int), .int .i64 (i : Int), .int .i64 (j : Int)] (by simp [Act.eval]) entCo (unhide HCO _ ((unhide HMN).keep rfl)) ?_
        rintro e wx ⟨rfl, q, rfl⟩
        refine ⟨_, rfl, ?_⟩
        clear hHeld
        refine hK.out _ _ (unhide HS1 _ (fun _ _ => rfl)) (fun hHeld => ?_)
        clear hK K
        simp only [Act.put, List.getElem_toArray, List.getElem_cons_zero, List.getElem_cons_succ, List.setIfInBounds_toArray, List.set_cons_zero, List.set_cons_succ]
        refine wpAnyH_take (i := 20) (oi := _) (v := ?_) rfl (by kernel_rfl) (by kernel_rfl) (by kernel_rfl) (fun _ _ _ h => h) (Or.inl ⟨by rfl, ?_⟩) (by assumption) ?_
        rotate_left 1
        · intro u hSu
          obtain ⟨s0, s1, s2, s3, s4, s5, s6⟩ := hSu
          go_simp
          first | done | with_reducible rfl | rfl
        simp only [Act.put, List.getElem_toArray, List.getElem_cons_zero, List.getElem_cons_succ, List.setIfInBounds_toArray, List.set_cons_zero, List.set_cons_succ]
        refine wpAnyH_take (i := 21) (oi := _) (v := ?_) rfl (by kernel_rfl) (by kernel_rfl) (by kernel_rfl) (fun _ _ _ h => h) (Or.inl ⟨by rfl, ?_⟩) (by assumption) ?_
        rotate_left 1
        · intro u hSu
          obtain ⟨s0, s1, s2, s3, s4, s5, s6⟩ := hSu
          go_simp
          first | done | with_reducible rfl | rfl
        simp only [Act.put, List.getElem_toArray, List.getElem_cons_zero, List.getElem_cons_succ, List.setIfInBounds_toArray, List.set_cons_zero, List.set_cons_succ]
        refine wpAnyH_take (i := 24) (oi := _) (v := ?_) rfl (by kernel_rfl) (by kernel_rfl) (by kernel_rfl) (fun _ _ _ h => h) (Or.inl ⟨by rfl, ?_⟩) (by assumption) ?_
        rotate_left 1
        · intro u hSu
          obtain ⟨s0, s1, s2, s3, s4, s5, s6⟩ := hSu
          go_simp
          first | done | with_reducible rfl | rfl
        simp only [Act.put, List.getElem_toArray, List.getElem_cons_zero, List.getElem_cons_succ, List.setIfInBounds_toArray, List.set_cons_zero, List.set_cons_succ]
        refine wpAnyH_ready (rs := [25]) (by kernel_rfl) (by simp) ?_
        refine AllReadyH.cons (o := _) rfl (fun K hK => ?_) AllReadyH.nil
        go_simp
        refine hK.out _ _ (unhide HS1 _ (fun k hk => by rw [RowKit.Below.heap_setCell _ _ _ _ (by dsimp only; omega)]; rfl)) (fun _ => ?_)
        clear hK K hHeld
        refine wpAnyH_done (by kernel_rfl) ?_ _
        simp only [OnlyN]
        gi_wp2
        rw [wrapI64, wrapI64]
        exact unhide HFIN (W'.drewN (1 + q)) (fun _ => rfl) ⟨rfl, rfl, rfl, rfl⟩
      · skip
        refine step_call (by rfl) 57 #[.tmp 37, .tmp 38, .tmp 39, .tmp 40, .tmp 41] #[63, 69, 69, 3, 3] rfl #[.pointer (some ⟨w.heap.size + 1, 0, none⟩), .int .u64 (r : Int), .int .u64 (c : Int), .int .i64 (i : Int), .int .i64 (j : Int)] (by simp [Act.eval]) entCo (unhide HCO _ ((unhide HMN).keep rfl)) ?_
        rintro e wx ⟨rfl, q, rfl⟩
        refine ⟨_, rfl, ?_⟩
        clear hHeld
        refine hK.out _ _ (unhide HS1 _ (fun _ _ => rfl)) (fun hHeld => ?_)
        clear hK K
        simp only [Act.put, List.getElem_toArray, List.getElem_cons_zero, List.getElem_cons_succ, List.setIfInBounds_toArray, List.set_cons_zero, List.set_cons_succ]
        refine wpAnyH_take (i := 20) (oi := _) (v := ?_) rfl (by kernel_rfl) (by kernel_rfl) (by kernel_rfl) (fun _ _ _ h => h) (Or.inl ⟨by rfl, ?_⟩) (by assumption) ?_
        rotate_left 1
        · intro u hSu
          obtain ⟨s0, s1, s2, s3, s4, s5, s6⟩ := hSu
          go_simp
          first | done | with_reducible rfl | rfl
        simp only [Act.put, List.getElem_toArray, List.getElem_cons_zero, List.getElem_cons_succ, List.setIfInBounds_toArray, List.set_cons_zero, List.set_cons_succ]
        refine wpAnyH_ready (rs := [6]) (by kernel_rfl) (by simp) ?_
        refine AllReadyH.cons (o := _) rfl (fun K hK => ?_) AllReadyH.nil
        go_simp
        clear hHeld
        refine hK.out _ _ (unhide HS1 _ (fun _ _ => rfl)) (fun hHeld => ?_)
        clear hK K
        refine wpAnyH_take (i := 21) (oi := _) (v := ?_) rfl (by kernel_rfl) (by kernel_rfl) (by kernel_rfl) (fun _ _ _ h => h) (Or.inl ⟨by rfl, ?_⟩) (by assumption) ?_
        rotate_left 1
        · intro u hSu
          obtain ⟨s0, s1, s2, s3, s4, s5, s6⟩ := hSu
          go_simp
          first | done | with_reducible rfl | rfl
        simp only [Act.put, List.getElem_toArray, List.getElem_cons_zero, List.getElem_cons_succ, List.setIfInBounds_toArray, List.set_cons_zero, List.set_cons_succ]
        refine wpAnyH_take (i := 24) (oi := _) (v := ?_) rfl (by kernel_rfl) (by kernel_rfl) (by kernel_rfl) (fun _ _ _ h => h) (Or.inl ⟨by rfl, ?_⟩) (by assumption) ?_
        rotate_left 1
        · intro u hSu
          obtain ⟨s0, s1, s2, s3, s4, s5, s6⟩ := hSu
          go_simp
          first | done | with_reducible rfl | rfl
        simp only [Act.put, List.getElem_toArray, List.getElem_cons_zero, List.getElem_cons_succ, List.setIfInBounds_toArray, List.set_cons_zero, List.set_cons_succ]
        refine wpAnyH_ready (rs := [25]) (by kernel_rfl) (by simp) ?_
        refine AllReadyH.cons (o := _) rfl (fun K hK => ?_) AllReadyH.nil
        go_simp
        refine hK.out _ _ (unhide HS1 _ (fun k hk => by rw [RowKit.Below.heap_setCell _ _ _ _ (by dsimp only; omega)]; rfl)) (fun _ => ?_)
        clear hK K hHeld
        refine wpAnyH_done (by kernel_rfl) ?_ _
        simp only [OnlyN]
        gi_wp2
        rw [wrapI64, wrapI64]
        exact unhide HFIN (W'.drewN (1 + q)) (fun _ => rfl) ⟨rfl, rfl, rfl, rfl⟩
    case done2 =>
      rintro ys' W' rfl ⟨⟨hF2, bR2, bC2, bI2⟩, hKP, hKF⟩
      gi_wp2
      exact ⟨hKF, hKP, _, hF2, unhide HNX⟩
    case stop2 =>
      rintro c pre' W' _ h
      exact h.elim
  case done =>
    rintro D zs W hD rfl ⟨T, hF, hRT⟩ hK
    have cM := hF.bm.cell
    gi_wp2
    refine ⟨by simp, .inl ⟨_, _, rfl, run_takeDeferred hK, ?_⟩⟩
    refine ⟨_, results_tmp rfl _ _ _, w.heap.size + 1, T, rfl, hF.mn.keep ?_, hRT, by omega, hF.bw.trans (belowK_b (w := w) (Nat.le_refl _) W D _ _ (by omega) hK rfl rfl)⟩
    exact World.putObj_heap_other (by omega)
  case stop =>
    rintro D c pre W _ _ h _
    exact h.elim
end Go.Proofs.YthplbfjpmnpjmaaDoor
