/-
  package nim, walked: the closure of values; values.
-/
import Derived.Test.YtphnjedoghopcaaQ22
import Derived.Deep.RegionLawGrows
namespace Go.Proofs.Ytphnjedoghopcaa
open Go.RowKit
attribute [local go_sem ↓] Go.wp_at_zero Go.wp_at_succ

theorem step_call {P : Program} {ops : Array Oper} {o : Oper} {a : Act} {w : World} {K : Act → World → Prop} {Q : Exit → Act → World → Prop} {E : Prop}
    (hg : o.guard = none) (f : FuncId) (xs : Array Operand) (ts : Array TypeId) (hop : o.op = Op.call { callee := Callee.value (Operand.func f), args := xs, argTypes := ts }) (vs : Array Value) (hv : xs.map a.eval = vs)
    (he : ∀ args (u : World), (callFunc f args).run P u = .ok (.enter f args) u) {R : Ending → World → Prop} (hc : Calls P f vs w R) (hK : ∀ e w', R e w' → ∃ v, e = .returned v ∧ K (a.put o.dst v) w') :
    if Region.wanted o (yielded ops a.tmps) = true then Oper.wp P o a w K Q else E := by
  have hw : Region.wanted o (yielded ops a.tmps) = true := by simp [Region.wanted, hg]
  rw [if_pos hw]
  unfold Oper.wp
  have hr : (execOp a.eval o).run P w = .ok (.enter f vs) w := by
    rw [← he vs w, ← hv]
    simp [execOp, hop, resolve, invoke, Act.eval, Deferred.ofValue]
  rw [hr, Oper.upon_enter]
  refine hc.mono fun e w' h => ?_
  obtain ⟨v, rfl, hk⟩ := hK e w' h
  exact hk
theorem step_append_own {P : Program} {ops : Array Oper} {o : Oper} {a : Act} {w : World} {K : Act → World → Prop} {Q : Exit → Act → World → Prop} {E : Prop}
    (hg : o.guard = none) (s x : Operand) (t : TypeId) (hop : o.op = Op.call { callee := Callee.builtin Builtin.append, args := #[s, x], argTypes := #[t, t] })
    (base : Nat) (e : TypeId) (i : TypeInfo) (z : Value) (size bytes : Nat) (h1 : P.underlying t = some (.slice e)) (h2 : P.info? e = some i) (h3 : i.zero = some z) (h4 : i.size = size) (h5 : i.bytes = bytes) (h6 : z.cells.size = size) (h7 : 0 < size)
    (v : Value) (n : Nat) (xs : List Value) (hs : a.eval s = v) (hown : w.ownsRow base e size v n xs)
    (ad : Addr) (m c : Nat) (news : List Value) (hx : a.eval x = .slice (some ad) m c) (hn : news.length = m * size) (hc : ∀ j u, news[j]? = some u → w.cell? (ad.add j) = some u) (h1c : ∀ u ∈ news, u.oneCell' = true)
    (b1 : n + m ≤ maxLen) (b2 : (n + m) * bytes ≤ 140737488355328) (hbase : base ≤ w.heap.size)
    (hK : ∀ v' w', w'.ownsRow base e size v' (n + m) (xs ++ news) → w.grownBy w' v.ownBlock → K (a.put o.dst v') w') :
    if Region.wanted o (yielded ops a.tmps) = true then Oper.wp P o a w K Q else E := by
  have hw : Region.wanted o (yielded ops a.tmps) = true := by simp [Region.wanted, hg]
  rw [if_pos hw]
  obtain ⟨v', w', hrun, r1, r2, _⟩ := run_append_own (P := P) w base t o.type e i z size bytes h1 h2 h3 h4 h5 h6 h7 v n xs hown ad m c news hn hc h1c b1 b2 hbase
  unfold Oper.wp
  simp [execOp, hop, resolve, invoke, builtin, hs, hx, hrun, Result.andThen]
  exact hK v' w' r1 r2
theorem step_append_fits {P : Program} {ops : Array Oper} {o : Oper} {a : Act} {w : World} {K : Act → World → Prop} {Q : Exit → Act → World → Prop} {E : Prop}
    (hg : o.guard = none) (s x : Operand) (t : TypeId) (hop : o.op = Op.call { callee := Callee.builtin Builtin.append, args := #[s, x], argTypes := #[t, t] })
    (base : Nat) (e : TypeId) (i : TypeInfo) (size : Nat) (h1 : P.underlying t = some (.slice e)) (h2 : P.info? e = some i) (h4 : i.size = size)
    (g k cap : Nat) (xs : List Value) (hs : a.eval s = .slice (some ⟨g, 0, none⟩) k cap) (hown : w.ownsRow base e size (.slice (some ⟨g, 0, none⟩) k cap) k xs)
    (ad : Addr) (m c : Nat) (news : List Value) (hx : a.eval x = .slice (some ad) m c) (hn : news.length = m * size) (hc : ∀ j u, news[j]? = some u → w.cell? (ad.add j) = some u) (h1c : ∀ u ∈ news, u.oneCell' = true) (b1 : k + m ≤ cap)
    (hK : ∀ w', w'.ownsRow base e size (.slice (some ⟨g, 0, none⟩) (k + m) cap) (k + m) (xs ++ news) → w.grownBy w' (some g) → K (a.put o.dst (.slice (some ⟨g, 0, none⟩) (k + m) cap)) w') :
    if Region.wanted o (yielded ops a.tmps) = true then Oper.wp P o a w K Q else E := by
  have hw : Region.wanted o (yielded ops a.tmps) = true := by simp [Region.wanted, hg]
  rw [if_pos hw]
  obtain ⟨w', hrun, r1, r2⟩ := run_append_fits (P := P) w base t o.type e i size h1 h2 h4 g k cap xs hown ad m c news hn hc h1c b1
  unfold Oper.wp
  simp [execOp, hop, resolve, invoke, builtin, hs, hx, hrun, Result.andThen]
  exact hK w' r1 r2
/-- All below B as it was, but block g. -/
structure Btb (B g : Nat) (w w' : World) : Prop where
  os : w'.os = w.os
  tape : w'.tape = w.tape
  output : w'.output = w.output
  size : w.heap.size ≤ w'.heap.size
  block : ∀ k, k < B → k ≠ g → w'.heap[k]? = w.heap[k]?
theorem Btb.refl (B g : Nat) (w : World) : Btb B g w w := ⟨rfl, rfl, rfl, Nat.le_refl _, fun _ _ _ => rfl⟩
theorem Btb.trans {B g : Nat} {a b c : World} (h : Btb B g a b) (k : Btb B g b c) : Btb B g a c :=
  ⟨k.os.trans h.os, k.tape.trans h.tape, k.output.trans h.output, Nat.le_trans h.size k.size, fun j hj hn => (k.block j hj hn).trans (h.block j hj hn)⟩
theorem Btb.of {B g : Nat} {w w' : World} (h : Below B w w') : Btb B g w w' := ⟨h.os, h.tape, h.output, h.size, fun k hk _ => h.block k hk⟩
theorem Btb.alloc {B g : Nat} {w w' : World} (h : Btb B g w w') (hB : B ≤ w'.heap.size) (o : Obj) : Btb B g w (w'.alloc o) := h.trans (.of ((Below.refl _ _).alloc hB o))
theorem Btb.put {B g : Nat} {w w' : World} (h : Btb B g w w') (i : Nat) (v : Value) : Btb B g w (w'.setCell ⟨g, i, none⟩ v) :=
  ⟨h.os, h.tape, h.output, by rw [show (w'.setCell ⟨g, i, none⟩ v).heap.size = w'.heap.size by simp [World.setCell]]; exact h.size, fun k hk h1 => (Below.heap_setCell _ _ _ _ (by simp only; omega)).trans (h.block k hk h1)⟩
theorem Btb.below {B B' g : Nat} {w w' : World} (h : Btb B g w w') (hB : B' ≤ B) (hg : B' ≤ g) : Below B' w w' := ⟨h.os, h.tape, h.output, h.size, fun k hk => h.block k (by omega) (by omega)⟩
/-- A slice in a box. -/
def isSb (w : World) (b : Nat) (v : Value) (t : TypeId) : Prop := w.heap[b]? = some (.cells #[v] t (0, 0))
theorem isSb.cell {w : World} {b : Nat} {v : Value} {t : TypeId} (h : isSb w b v t) : w.cell? ⟨b, 0, none⟩ = some v ∧ w.frozen? ⟨b, 0, none⟩ = false := by
  unfold isSb at h; simp [World.cell?, World.frozen?, h]
theorem isSb.lt {w : World} {b : Nat} {v : Value} {t : TypeId} (h : isSb w b v t) : b < w.heap.size := (Array.getElem?_eq_some_iff.1 h).1
theorem isSb.put {w : World} {b : Nat} {v : Value} {t : TypeId} (h : isSb w b v t) (v' : Value) : isSb (w.setCell ⟨b, 0, none⟩ v') b v' t := by
  unfold isSb at h ⊢; simp [World.setCell, Array.getElem?_modify, h]
/-- What the closure of values leaves. -/
structure ClEnd (base b7 : Nat) (L : List Nat) (u : World) (e : Ending) (u' : World) : Prop where
  ret : e = .returned (.bool false)
  box : ∃ vb, isSb u' b7 vb 22 ∧ u'.ownsRow base 3 1 vb L.length (nvals L)
  fr : Btb base b7 u u'
theorem entOf : ∀ args (u : World), (callFunc 30 args).run Try.prog u = .ok (.enter 30 args) u := enters_of Try.func30 (by kernel_rfl) rfl

set_option maxHeartbeats 2000000 in
set_option maxRecDepth 100000 in
theorem close1_any (W : List Nat) (hW : ∀ i : Nat, W[i]! < 4096) (base b7 b5 B : Nat) (wo ao : Option Addr) (wc cap : Nat) (vb : Value) (L x : List Nat) (u : World)
    (h7 : isSb u b7 vb 22) (h5 : isSb u b5 (.slice wo W.length wc) 48) (hown : u.ownsRow base 3 1 vb L.length (nvals L)) (hbase : base ≤ u.heap.size) (h7b : b7 < base) (hWm : isIs u B wo wc (natI W)) (hx : isIs u u.heap.size ao cap (natI x)) (hlt : ∀ y ∈ x, y < W.length) (hL : L.length ≤ 3000) :
    Calls Try.prog 29 #[.slice ao x.length cap, .pointer (some ⟨b7, 0, none⟩), .pointer (some ⟨b5, 0, none⟩)] u fun e u' => ClEnd base b7 (L ++ [xorL W x]) u e u' := by
  obtain ⟨i0, hi, hz0, hz1, hz2⟩ := info_parts Try.infoI
  obtain ⟨c7, f7⟩ := h7.cell
  obtain ⟨c5, -⟩ := h5.cell
  have c7d : u.drew.cell? ⟨b7, 0, none⟩ = some vb := c7
  have f7d : u.drew.frozen? ⟨b7, 0, none⟩ = false := f7
  have c5d : u.drew.cell? ⟨b5, 0, none⟩ = some (.slice wo W.length wc) := c5
  have HOF := hide (of_any B u.heap.size wo ao wc cap W x u.drew hWm hx hlt hW)
  obtain ⟨X, hX⟩ : ∃ X, X = xorL W x := ⟨_, rfl⟩
  rw [← hX] at HOF ⊢
  obtain ⟨uo, uc, hvb⟩ := row_len hown
  subst hvb
  have HROW : Hid (∀ o, (u.drew.alloc o).ownsRow base 3 1 (.slice uo L.length uc) L.length (nvals L)) := hide (fun o => World.ownsRow.alloc hown o)
  have HB1 : Hid (L.length + 1 ≤ maxLen) := hide (by unfold maxLen; omega)
  have HB2 : Hid ((L.length + 1) * 8 ≤ 140737488355328) := hide (by omega)
  have HBS : Hid (∀ o, base ≤ (u.drew.alloc o).heap.size) := hide (fun o => by simp; omega)
  have HCE : Hid (∀ (j : Nat) (v : Value), [Value.int .i64 (X : Int)][j]? = some v → (u.drew.alloc (.cells #[.int .i64 (X : Int)] 3)).cell? ((⟨u.heap.size, 0, none⟩ : Addr).add j) = some v) := hide (fun j v hj => by
    match j, hj with
    | 0, hj =>
      simp at hj; subst hj
      rw [show (⟨u.heap.size, 0, none⟩ : Addr).add 0 = ⟨u.heap.size, 0, none⟩ by simp [Addr.add]]
      exact cell_of_row _ _ _ _ _ _ (heap_alloc_new u.drew _))
  have HON : Hid (∀ v ∈ [Value.int .i64 (X : Int)], v.oneCell' = true) := hide (fun v hv => by simp only [List.mem_singleton] at hv; subst hv; rfl)
  have HFIN : Hid (∀ o v' w9, w9.ownsRow base 3 1 v' (L.length + 1) (nvals L ++ [.int .i64 (X : Int)]) → (u.drew.alloc o).grownBy w9 (Value.slice uo L.length uc).ownBlock →
      w9.cell? ⟨b7, 0, none⟩ = some (.slice uo L.length uc) ∧ w9.frozen? ⟨b7, 0, none⟩ = false ∧ ClEnd base b7 (L ++ [X]) u (.returned (.bool false)) (w9.setCell ⟨b7, 0, none⟩ v')) := hide (fun o v' w9 hown9 hg9 => by
    have hge := own_ge hown
    have hfr : Btb base b7 u w9 := (Btb.of (((Below.refl base u).drew).alloc hbase o)).trans ⟨hg9.os, hg9.tape, hg9.output, hg9.size, fun k hk _ => hg9.block k (by simp; omega) (fun e => by have := hge k e.symm; omega)⟩
    have hb7 : isSb w9 b7 (.slice uo L.length uc) 22 := by
      refine (hg9.block b7 (by simp; have := h7.lt; omega) (fun e => by have := hge b7 e.symm; omega)).trans ?_
      refine (Below.heap_alloc _ _ _ h7.lt).trans ?_
      exact h7
    refine ⟨hb7.cell.1, hb7.cell.2, rfl, ⟨v', hb7.put v', ?_⟩, hfr.put 0 v'⟩
    have : (w9.setCell ⟨b7, 0, none⟩ v').ownsRow base 3 1 v' (L.length + 1) (nvals L ++ [.int .i64 (X : Int)]) := row_keep hown9 (fun k hk _ => Below.heap_setCell _ _ _ _ (by simp only; omega))
    rw [List.length_append, show nvals (L ++ [X]) = nvals L ++ [.int .i64 (X : Int)] by simp [nvals]]
    exact this)
  have hb7l := h7.lt
  have c7a : ∀ o, (u.alloc o).drew.cell? ⟨b7, 0, none⟩ = some (.slice uo L.length uc) := fun o => by
    show (u.alloc o).cell? ⟨b7, 0, none⟩ = _
    rw [World.cell?_of_block (w := u) (a := ⟨b7, 0, none⟩) (Below.heap_alloc _ _ _ hb7l)]; exact c7
  have HI0 := hide hi
  have HZ0 := hide hz0
  have HZ1 := hide hz1
  have HZ2 := hide hz2
  clear hX hi hz0 hz1 hz2 hown hWm hx hlt hW h7 h5 c7 f7 c5
  go_enter Try.func29, Try.ntmps29
  go_upto_region 1 with fail
  go_region_law (first
    | (refine step_call rfl 30 #[.tmp 6, .tmp 7] #[48, 22] rfl #[.slice wo W.length wc, .slice ao x.length cap] (by simp [Act.eval]) entOf (unhide HOF) ?_; rintro e1 w1 ⟨rfl, rfl⟩; refine ⟨_, rfl, ?_⟩)
    | (refine step_append_own rfl (.tmp 5) (.tmp 9) 22 rfl base 3 i0 _ 1 8 Try.underlying22 (unhide HI0) (unhide HZ0) (unhide HZ1) (unhide HZ2) rfl (by decide) (.slice uo L.length uc) L.length (nvals L) (by simp [Act.eval]) (unhide HROW _) ⟨u.heap.size, 0, none⟩ 1 1 [.int .i64 (X : Int)] (by simp [Act.eval]) rfl (unhide HCE) (unhide HON) (unhide HB1) (unhide HB2) (unhide HBS _) ?_; intro v' w9 hown9 hg9; obtain ⟨hE1, hE2, hE3⟩ := unhide HFIN _ v' w9 hown9 hg9; obtain ⟨qo, qc, hvq⟩ := row_len hown9; subst hvq; have HE3 := hide hE3; clear hE3 hown9 hg9))
  all_goals go_wp2
  all_goals go_ret
  all_goals exact unhide HE3
end Go.Proofs.Ytphnjedoghopcaa
