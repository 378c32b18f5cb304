/-
  package house, walked: copied.
  package house, walked: copied, the walk.
-/
import Derived.Test.YtihojhfpepbjhaaGreatDoorHoK
import Derived.Test.YtihojhfpepbjhaaGreatDoorJ25
import Derived.Test.YtihojhfpepbjhaaGreatDoorJ1
import Derived.Laws.OwnMore
import Derived.Deep.CutRange
namespace Go.Proofs.YtihojhfpepbjhaaGreatDoor
open Go.RowKit
attribute [local go_sem ↓] Go.wp_at_zero Go.wp_at_succ

theorem hm_set {α : Type} {f : α → List Value} {c : Nat} (hc : ∀ x, (f x).length = c) : ∀ (l : List α) (i j : Nat) (x x' : α) (v : Value), l[i]? = some x → j < c → f x' = (f x).set j v → (l.flatMap f).set (i * c + j) v = (l.set i x').flatMap f
  | [], _, _, _, _, _, h, _, _ => by simp at h
  | a :: l, 0, j, x, x', v, h, hj, hx => by
    simp only [List.getElem?_cons_zero, Option.some.injEq] at h
    subst h
    rw [List.set_cons_zero, List.flatMap_cons, List.flatMap_cons, Nat.zero_mul, Nat.zero_add, List.set_append_left _ _ (by rw [hc]; exact hj), hx]
  | a :: l, i + 1, j, x, x', v, h, hj, hx => by
    have ih := hm_set hc l i j x x' v (by simpa using h) hj hx
    have e : (i + 1) * c + j = c + (i * c + j) := by rw [Nat.add_mul]; omega
    rw [List.set_cons_succ, List.flatMap_cons, List.flatMap_cons, List.set_append_right _ _ (by rw [hc, e]; omega), ← ih, hc, e]
    congr 2
    omega
theorem isWys.of_block {w w' : World} {ao : Option Addr} {cap : Nat} {ws : List Wy} (h : isWys w ao cap ws) (hs : w.heap.size ≤ w'.heap.size) (hb : ws ≠ [] → ∀ a, ao = some a → w'.heap[a.block]? = w.heap[a.block]?) : isWys w' ao cap ws := by
  refine ⟨h.le, h.mx, h.nil, fun hl => ?_⟩
  obtain ⟨g, off, e, hg, hc⟩ := h.cells hl
  refine ⟨g, off, e, by omega, fun i z hz => ?_⟩
  obtain ⟨c0, c1, c2, c3⟩ := hc i z hz
  have hk : ∀ k, w'.cell? ⟨g, k, none⟩ = w.cell? ⟨g, k, none⟩ := fun k => by
    have := hb hl _ e
    simp only [World.cell?]
    rw [this]
  exact ⟨(hk _).trans c0, (hk _).trans c1, (hk _).trans c2, (hk _).trans c3⟩
theorem isWys.far {w : World} {ao : Option Addr} {cap : Nat} {ws : List Wy} (h : isWys w ao cap ws) (hl : ws ≠ []) {a : Addr} (ha : ao = some a) : a.block < w.heap.size := by
  obtain ⟨g, off, e, hg, -⟩ := h.cells hl
  rw [ha] at e
  injection e with e
  subst e
  exact hg
theorem own_gt {w : World} {base : Nat} {e : TypeId} {size : Nat} {v : Value} {n : Nat} {xs : List Value} (h : w.ownsRow base e size v n xs) {k : Nat} (hk : v.ownBlock = some k) : base ≤ k ∧ ∃ cur, w.heap[k]? = some (.cells cur e (0, 0)) := by
  rcases h.2 with ⟨rfl, -⟩ | ⟨g, cap, cur, rfl, hg, hb, -⟩
  · cases hk
  · simp [Value.ownBlock] at hk
    subst hk
    exact ⟨hg, cur, hb⟩
theorem own_same {w w' : World} {base : Nat} {e : TypeId} {size : Nat} {v : Value} {n : Nat} {xs : List Value} (h : w.ownsRow base e size v n xs) (hb : ∀ k, v.ownBlock = some k → w'.heap[k]? = w.heap[k]?) : w'.ownsRow base e size v n xs := by
  refine ⟨h.1, ?_⟩
  rcases h.2 with h1 | ⟨g, cap, cur, rfl, hg, hc, rest⟩
  · exact .inl h1
  · exact .inr ⟨g, cap, cur, rfl, hg, (hb g rfl).trans hc, rest⟩
/-- The copied rules, when the ways of i pieces are copied, too. -/
structure CP (base bx tb : Nat) (w0 wr : World) (o : Option Addr) (n cap : Nat) (u0 u1 u2 u3 u4 u5 v7 v8 v9 v10 v11 v12 : Value) (ps : List Pc) (i : Nat) (L : List Px) : Prop where
  row : wr.ownsRow base 71 3 (.slice o n cap) n (L.flatMap Px.cells)
  pcs : L.map Px.pc = ps
  wys : ∀ x ∈ L, isWys wr x.wo x.wc x.pc.ws ∧ x.pc.l < 256 ∧ x.pc.ws.length ≤ 1000
  far : ∀ x ∈ L, x.pc.ws ≠ [] → ∀ a, x.wo = some a → some a.block ≠ (Value.slice o n cap).ownBlock
  fresh : ∀ k x, k < i → L[k]? = some x → ∀ a, x.wo = some a → base ≤ a.block ∧ a.block ≠ tb
  box : isRu wr bx u0 u1 u2 u3 u4 u5 (.slice o n cap) v7 v8 v9 v10 v11 v12
  res : isRu wr tb (.int .i64 0) (.int .i64 0) (.string ⟨#[]⟩) (.int .i64 0) (.string ⟨#[]⟩) (.string ⟨#[]⟩) (.slice none 0 0) (.bool false) (.int .u8 0) (.int .i64 0) (.int .u8 0) (.bool false) (.int .i64 0)
  low : Below base w0 wr
theorem CP.below {base bx tb : Nat} {w0 wr w' : World} {o : Option Addr} {n cap : Nat} {u0 u1 u2 u3 u4 u5 v7 v8 v9 v10 v11 v12 : Value} {ps : List Pc} {i : Nat} {L : List Px} (h : CP base bx tb w0 wr o n cap u0 u1 u2 u3 u4 u5 v7 v8 v9 v10 v11 v12 ps i L) (hb : Below wr.heap.size wr w') (hw : base ≤ wr.heap.size) : CP base bx tb w0 w' o n cap u0 u1 u2 u3 u4 u5 v7 v8 v9 v10 v11 v12 ps i L :=
  ⟨own_same h.row (fun k hk => by
      obtain ⟨-, cur, hc⟩ := own_gt h.row hk
      exact hb.block k (Array.getElem?_eq_some_iff.1 hc).1), h.pcs, fun x hx => ⟨(h.wys x hx).1.below hb (Nat.le_refl _), (h.wys x hx).2⟩, h.far, h.fresh, isRu.below h.box hb (isRu.lt h.box), isRu.below h.res hb (isRu.lt h.res), h.low.trans (hb.mono hw)⟩
theorem isRu.ne_row {w : World} {b g : Nat} {u0 u1 u2 u3 u4 u5 u6 v7 v8 v9 v10 v11 v12 : Value} (h : isRu w b u0 u1 u2 u3 u4 u5 u6 v7 v8 v9 v10 v11 v12) {cur : Array Value} (hg : w.heap[g]? = some (.cells cur 71 (0, 0))) : b ≠ g := by
  intro e
  subst e
  unfold isRu at h
  rw [h] at hg
  simp at hg
theorem CP.step {base bx tb : Nat} {w0 wr w2 : World} {g n cap : Nat} {u0 u1 u2 u3 u4 u5 v7 v8 v9 v10 v11 v12 : Value} {ps : List Pc} {i : Nat} {L : List Px} {x : Px} (h : CP base bx tb w0 wr (some ⟨g, 0, none⟩) n cap u0 u1 u2 u3 u4 u5 v7 v8 v9 v10 v11 v12 ps i L) (hx : L[i]? = some x) (hw : base ≤ wr.heap.size) (hb : Below wr.heap.size wr w2) {wo : Option Addr} {wc : Nat} (hy : isWys w2 wo wc x.pc.ws) (hf : ∀ a, wo = some a → wr.heap.size ≤ a.block) :
    CP base bx tb w0 (w2.setCell ⟨g, i * 3 + 2, none⟩ (.slice wo x.pc.ws.length wc)) (some ⟨g, 0, none⟩) n cap u0 u1 u2 u3 u4 u5 v7 v8 v9 v10 v11 v12 ps (i + 1) (L.set i ⟨x.pc, wo, wc⟩) := by
  have h2 := h.below hb hw
  obtain ⟨hbg, cur, hc⟩ := own_gt h2.row (k := g) rfl
  have hgl : g < wr.heap.size := by
    obtain ⟨-, cur', hc'⟩ := own_gt h.row (k := g) rfl
    exact (Array.getElem?_eq_some_iff.1 hc').1
  have hst := World.ownsRow.stored h2.row (i * 3 + 2) (.slice wo x.pc.ws.length wc)
  rw [hm_set (c := 3) (fun _ => rfl) L i 2 x ⟨x.pc, wo, wc⟩ _ hx (by decide) rfl] at hst
  obtain ⟨hil, hix⟩ := List.getElem?_eq_some_iff.1 hx
  have hxm : x ∈ L := List.mem_of_getElem? hx
  have hkeep : ∀ k, k ≠ g → (w2.setCell ⟨g, i * 3 + 2, none⟩ (.slice wo x.pc.ws.length wc)).heap[k]? = w2.heap[k]? := fun k hk => Below.heap_setCell _ _ _ _ hk
  have hsz : w2.heap.size ≤ (w2.setCell ⟨g, i * 3 + 2, none⟩ (.slice wo x.pc.ws.length wc)).heap.size := by simp [World.setCell]
  have hmem : ∀ z ∈ L.set i ⟨x.pc, wo, wc⟩, z ∈ L ∨ z = ⟨x.pc, wo, wc⟩ := fun z hz => List.mem_or_eq_of_mem_set hz
  refine ⟨hst.1, ?_, ?_, ?_, ?_, ?_, ?_, ?_⟩
  · rw [← h.pcs, List.map_set]
    have e : (L.map Px.pc)[i]? = some x.pc := by rw [List.getElem?_map, hx]; rfl
    exact List.ext_getElem? fun k => by
      rw [List.getElem?_set]
      split
      · rename_i hik
        subst hik
        rw [if_pos (by rw [List.length_map]; exact hil), e]
      · rfl
  · intro z hz
    rcases hmem z hz with hz | rfl
    · obtain ⟨a1, a2⟩ := h2.wys z hz
      exact ⟨a1.of_block hsz (fun hne a ha => hkeep _ (fun e => h.far z hz hne a ha (by rw [e]; rfl))), a2⟩
    · exact ⟨hy.of_block hsz (fun hne a ha => hkeep _ (fun e => by have := hf a ha; omega)), (h.wys x hxm).2⟩
  · intro z hz hne a ha
    rcases hmem z hz with hz | rfl
    · exact h.far z hz hne a ha
    · have := hf a ha
      simp only [Value.ownBlock, ne_eq, Option.some.injEq]
      omega
  · intro k z hk hz a ha
    rw [List.getElem?_set] at hz
    split at hz
    · injection hz with hz
      subst hz
      have h1 := hf a ha
      have h3 := isRu.lt h.res
      exact ⟨by omega, by omega⟩
    · exact h.fresh k z (by omega) hz a ha
  · exact (hkeep bx (isRu.ne_row h2.box hc)).trans h2.box
  · exact (hkeep tb (isRu.ne_row h2.res hc)).trans h2.res
  · exact h2.low.setCell (p := ⟨g, i * 3 + 2, none⟩) hbg _
/-- What is copied lies in blocks from base on. -/
def PcsFrom (base : Nat) (w : World) (ao : Option Addr) (ps : List Pc) : Prop :=
  ∀ (i : Nat) (p : Pc), ps[i]? = some p → ∃ g wo wc, ao = some ⟨g, 0, none⟩ ∧ base ≤ g ∧ w.cell? ⟨g, i * 3 + 2, none⟩ = some (.slice wo p.ws.length wc) ∧ ∀ a, wo = some a → base ≤ a.block
theorem CP.fin {base bx tb : Nat} {w0 wr wf : World} {o : Option Addr} {n cap : Nat} {u0 u1 u2 u3 u4 u5 v7 v8 v9 v10 v11 v12 : Value} {ps : List Pc} {L : List Px} (h : CP base bx tb w0 wr o n cap u0 u1 u2 u3 u4 u5 v7 v8 v9 v10 v11 v12 ps n L) (hn : n = ps.length) (hs : wr.heap.size ≤ wf.heap.size) (hk : ∀ k, k ≠ tb → wf.heap[k]? = wr.heap[k]?) : isPcs wf o cap ps ∧ PcsFrom base wf o ps := by
  have hlen : L.length = n := by have := congrArg List.length h.pcs; rw [List.length_map] at this; omega
  rcases h.row.2 with ⟨h1, h0⟩ | ⟨g, cap', cur, h1, hg, hb, hnc, hcm, hcs, ht⟩
  · injection h1 with h2 h3 h4
    have hp0 : ps = [] := List.eq_nil_of_length_eq_zero (by omega)
    subst h2 h4 hp0
    exact ⟨⟨Nat.zero_le _, by unfold maxLen; omega, fun _ => rfl, fun hne => absurd rfl hne⟩, fun i p hi => by simp at hi⟩
  · injection h1 with h2 h3 h4
    subst h2 h4
    have hgt : g ≠ tb := fun e => isRu.ne_row h.res hb e.symm
    have hgw : ∀ k, wf.cell? ⟨g, k, none⟩ = wr.cell? ⟨g, k, none⟩ := fun k => by
      have := hk g hgt
      simp only [World.cell?]
      rw [this]
    have hcell : ∀ (i : Nat) (x : Px), L[i]? = some x → wf.cell? ⟨g, 0 + i * 3, none⟩ = some (.int .u8 (x.pc.l : Int)) ∧ wf.cell? ⟨g, 0 + i * 3 + 1, none⟩ = some (.int .i64 x.pc.v) ∧ wf.cell? ⟨g, 0 + i * 3 + 2, none⟩ = some (.slice x.wo x.pc.ws.length x.wc) := fun i x hx => by
      have hil := (List.getElem?_eq_some_iff.1 hx).1
      have hk : ∀ k, k < 3 → wf.cell? ⟨g, 0 + i * 3 + k, none⟩ = x.cells[k]? := fun k hk => by
        rw [hgw, Nat.zero_add, World.ownsRow.cellAt h.row (i * 3 + k) (by omega)]
        exact hm_at (c := 3) (fun _ => rfl) L i k x hx hk
      exact ⟨hk 0 (by decide), hk 1 (by decide), hk 2 (by decide)⟩
    have hget : ∀ (i : Nat) (p : Pc), ps[i]? = some p → ∃ x, L[i]? = some x ∧ x.pc = p := fun i p hp => by
      rw [← h.pcs, List.getElem?_map] at hp
      obtain ⟨x, hx, e⟩ := Option.map_eq_some_iff.1 hp
      exact ⟨x, hx, e⟩
    have hfr : ∀ (i : Nat) (x : Px), L[i]? = some x → ∀ a : Addr, x.wo = some a → base ≤ a.block ∧ a.block ≠ tb := fun i x hx a ha => h.fresh i x (by have := (List.getElem?_eq_some_iff.1 hx).1; omega) hx a ha
    refine ⟨⟨by omega, hcm, (fun e => by cases e), fun _ => ⟨g, 0, rfl, by have := (Array.getElem?_eq_some_iff.1 hb).1; omega, fun i p hp => ?_⟩⟩, fun i p hp => ?_⟩
    · obtain ⟨x, hx, rfl⟩ := hget i p hp
      obtain ⟨c0, c1, c2⟩ := hcell i x hx
      obtain ⟨a1, a2, -⟩ := h.wys x (List.mem_of_getElem? hx)
      exact ⟨a2, x.wo, x.wc, c0, c1, c2, a1.of_block hs (fun _ a ha => hk _ (hfr i x hx a ha).2)⟩
    · obtain ⟨x, hx, rfl⟩ := hget i p hp
      obtain ⟨c0, c1, c2⟩ := hcell i x hx
      rw [Nat.zero_add] at c2
      exact ⟨g, x.wo, x.wc, rfl, hg, c2, fun a ha => (hfr i x hx a ha).1⟩
end Go.Proofs.YtihojhfpepbjhaaGreatDoor

namespace Go.Proofs.YtihojhfpepbjhaaGreatDoor
open Go.RowKit
attribute [local go_sem ↓] Go.wp_at_zero Go.wp_at_succ

theorem data_tstrH (C : ByteArray) (W H k : Nat) : (tstr C W H k).data.toList = tcells C.data.toList W H k (twd W H k) (W * H) := by simp [tstr]
/-- The whole board, not turned. -/
theorem tstr_noneH (C : ByteArray) (W H : Nat) (hC : C.size = W * H) : tstr C W H 0 = C := by
  apply ByteArray.ext
  apply Array.toList_inj.1
  rw [data_tstrH]
  apply List.ext_getElem?
  intro i
  unfold tcells
  rw [List.getElem?_map]
  by_cases hi : i < W * H
  · rw [List.getElem?_range hi]
    have hw : twd W H 0 = W := rfl
    have hl : i < C.data.toList.length := by rw [len_data, hC]; exact hi
    show some (tcell C.data.toList W H 0 (twd W H 0) i) = _
    unfold tcell
    rw [hw]
    have e : (srcY H 0 (i % W : Nat) (i / W : Nat) * W + srcX W 0 (i % W : Nat) (i / W : Nat)).toNat = i := by
      have h1 : srcY H 0 (i % W : Nat) (i / W : Nat) = (i / W : Nat) := rfl
      have h2 : srcX W 0 (i % W : Nat) (i / W : Nat) = (i % W : Nat) := rfl
      rw [h1, h2, ← Int.natCast_mul, ← Int.natCast_add, Int.toNat_natCast, Nat.mul_comm]
      exact Nat.div_add_mod _ _
    rw [e, List.getD_eq_getElem?_getD, List.getElem?_eq_getElem hl]
    rfl
  · rw [List.getElem?_eq_none (by simpa using hi), List.getElem?_eq_none (by rw [len_data, hC]; omega)]
    rfl
theorem entCW : ∀ args (u : World), (callFunc 59 args).run Tryz.prog u = .ok (.enter 59 args) u := enters_of Tryz.func59 (by kernel_rfl) rfl
theorem isRu.frozen {w : World} {b : Nat} {v0 v1 v2 v3 v4 v5 v6 v7 v8 v9 v10 v11 v12 : Value} (h : isRu w b v0 v1 v2 v3 v4 v5 v6 v7 v8 v9 v10 v11 v12) (k : Nat) : w.frozen? ⟨b, k, none⟩ = false := frozen_of_row w b k _ _ h
theorem isRu.set6 {w : World} {b : Nat} {v0 v1 v2 v3 v4 v5 v6 v7 v8 v9 v10 v11 v12 : Value} (h : isRu w b v0 v1 v2 v3 v4 v5 v6 v7 v8 v9 v10 v11 v12) (x : Value) : isRu (w.setCell ⟨b, 6, none⟩ x) b v0 v1 v2 v3 v4 v5 x v7 v8 v9 v10 v11 v12 := by
  unfold isRu at h ⊢; simp [World.setCell, Array.getElem?_modify, h]
theorem isRu.setAllH {w : World} {b : Nat} {v0 v1 v2 v3 v4 v5 v6 v7 v8 v9 v10 v11 v12 : Value} (h : isRu w b v0 v1 v2 v3 v4 v5 v6 v7 v8 v9 v10 v11 v12) (x0 x1 x2 x3 x4 x5 x6 x7 x8 x9 x10 x11 x12 : Value) : isRu (((((((((((((w.setCell ⟨b, 0, none⟩ x0).setCell ⟨b, 1, none⟩ x1).setCell ⟨b, 2, none⟩ x2).setCell ⟨b, 3, none⟩ x3).setCell ⟨b, 4, none⟩ x4).setCell ⟨b, 5, none⟩ x5).setCell ⟨b, 6, none⟩ x6).setCell ⟨b, 7, none⟩ x7).setCell ⟨b, 8, none⟩ x8).setCell ⟨b, 9, none⟩ x9).setCell ⟨b, 10, none⟩ x10).setCell ⟨b, 11, none⟩ x11).setCell ⟨b, 12, none⟩ x12) b x0 x1 x2 x3 x4 x5 x6 x7 x8 x9 x10 x11 x12 := by
  unfold isRu at h ⊢; simp [World.setCell, Array.getElem?_modify, h]
theorem isRu.setP {w : World} {b : Nat} {v0 v1 v2 v3 v4 v5 v6 v7 v8 v9 v10 v11 v12 : Value} (h : isRu w b v0 v1 v2 v3 v4 v5 v6 v7 v8 v9 v10 v11 v12) (x0 x1 x2 x3 x4 x5 : Value) : isRu ((((((w.setCell ⟨b, 0, none⟩ x0).setCell ⟨b, 1, none⟩ x1).setCell ⟨b, 2, none⟩ x2).setCell ⟨b, 3, none⟩ x3).setCell ⟨b, 4, none⟩ x4).setCell ⟨b, 5, none⟩ x5) b x0 x1 x2 x3 x4 x5 v6 v7 v8 v9 v10 v11 v12 := by
  unfold isRu at h ⊢; simp [World.setCell, Array.getElem?_modify, h]
set_option maxHeartbeats 8000000 in
set_option maxRecDepth 100000 in
theorem hCopied_any {W H : Nat} {T : Int} {C A B : ByteArray} (ao : Option Addr) (cap : Nat) (ps : List Pc) (dr st : Bool) (lo li re pl : Int) (w : World) (p : IsPos W H C T A B) (h : isPcs w ao cap ps) (hl : ps.length ≤ 1000) (hws : ∀ q ∈ ps, q.ws.length ≤ 1000) :
    Calls Tryz.prog 28 #[.agg #[.int .i64 (W : Int), .int .i64 (H : Int), .string C, .int .i64 T, .string A, .string B, .slice ao ps.length cap, .bool dr, .int .u8 lo, .int .i64 li, .int .u8 re, .bool st, .int .i64 pl]] w fun e w' => ∃ ao' cap', e = .returned (.agg #[.int .i64 (W : Int), .int .i64 (H : Int), .string C, .int .i64 T, .string A, .string B, .slice ao' ps.length cap', .bool dr, .int .u8 lo, .int .i64 li, .int .u8 re, .bool st, .int .i64 pl]) ∧ isPcs w' ao' cap' ps ∧ PcsFrom w.heap.size w' ao' ps ∧ Below w.heap.size w w' := by
  obtain ⟨w1, hw1⟩ : ∃ w1, w1 = w.alloc (.cells #[.int .i64 (W : Int), .int .i64 (H : Int), .string C, .int .i64 T, .string A, .string B, .slice ao ps.length cap, .bool dr, .int .u8 lo, .int .i64 li, .int .u8 re, .bool st, .int .i64 pl] 27 (0, 0)) := ⟨_, rfl⟩
  obtain ⟨w2, hw2⟩ : ∃ w2, w2 = w1.alloc (.cells #[.int .i64 0, .int .i64 0, .string ⟨#[]⟩, .int .i64 0, .string ⟨#[]⟩, .string ⟨#[]⟩, .slice none 0 0, .bool false, .int .u8 0, .int .i64 0, .int .u8 0, .bool false, .int .i64 0] 27 (0, 0)) := ⟨_, rfl⟩
  have hb1 : Below w.heap.size w w1 := by rw [hw1]; exact (Below.refl _ _).alloc (Nat.le_refl _) _
  have hb2 : Below w1.heap.size w1 w2 := by rw [hw2]; exact (Below.refl _ _).alloc (Nat.le_refl _) _
  have s1 : w1.heap.size = w.heap.size + 1 := by rw [hw1]; simp
  have hr2 : isRu w2 w.heap.size (.int .i64 (W : Int)) (.int .i64 (H : Int)) (.string C) (.int .i64 T) (.string A) (.string B) (.slice ao ps.length cap) (.bool dr) (.int .u8 lo) (.int .i64 li) (.int .u8 re) (.bool st) (.int .i64 pl) := isRu.below (show isRu w1 w.heap.size (.int .i64 (W : Int)) (.int .i64 (H : Int)) (.string C) (.int .i64 T) (.string A) (.string B) (.slice ao ps.length cap) (.bool dr) (.int .u8 lo) (.int .i64 li) (.int .u8 re) (.bool st) (.int .i64 pl) by rw [hw1]; exact heap_alloc_new w _) hb2 (by omega)
  have ht2 : isRu w2 (w.heap.size + 1) (.int .i64 0) (.int .i64 0) (.string ⟨#[]⟩) (.int .i64 0) (.string ⟨#[]⟩) (.string ⟨#[]⟩) (.slice none 0 0) (.bool false) (.int .u8 0) (.int .i64 0) (.int .u8 0) (.bool false) (.int .i64 0) := by rw [hw2, ← s1]; exact heap_alloc_new w1 _
  have hb02 : Below w.heap.size w w2 := hb1.trans (hb2.mono (by omega))
  have htu := fun u => Turned_ok (k := 0) u (by decide) p
  have e0 : tstr C W H 0 = C := tstr_noneH C W H p.c
  have e1 : twd W H 0 = W := rfl
  have e2 : thd W H 0 = H := rfl
  simp only [e0, e1, e2] at htu
  obtain ⟨L, hLm, hLw, hLc⟩ := pcs_px h
  have hLn : L.length = ps.length := by rw [← hLm, List.length_map]
  have hLlt : ∀ x ∈ L, x.pc.ws ≠ [] → ∀ a, x.wo = some a → a.block < w.heap.size := fun x hx hne a ha => (hLw x hx).1.far hne ha
  have hL3 : ∀ x ∈ L, x.pc.ws.length ≤ 1000 := fun x hx => hws x.pc (by rw [← hLm]; exact List.mem_map_of_mem hx)
  obtain ⟨n, hn⟩ : ∃ n, n = ps.length := ⟨_, rfl⟩
  have hle := h.le
  have hnil := h.nil
  have HCL : Hid (∀ u, Below w.heap.size w u → Calls Tryz.prog 58 #[.slice ao n cap] u fun e w' => ∃ v, e = .returned v ∧ w'.ownsRow u.heap.size 71 3 v n (L.flatMap Px.cells) ∧ Below u.heap.size u w') := hide fun u hu => by
    have := clonePcs_any ao cap L u (by omega) hnil (fun a ha j x hj => by
      obtain ⟨c1, c2⟩ := hLc a ha j x hj
      have hs := hu.size
      refine ⟨by omega, (hu.cell (p := a.add j) (by rw [show (a.add j).block = a.block by unfold Addr.add; split <;> rfl]; exact c1)).trans c2⟩) (by omega)
    rw [hLn, ← hn] at this
    exact this
  rw [← hn] at hr2 hw1 hl ⊢
  have HTU := hide htu
  have HR2 := hide hr2
  have HT2 := hide ht2
  have HB02 := hide hb02
  have HW := hide (And.intro hw1 hw2)
  have HLW := hide hLw
  have HLM := hide hLm
  have HLT := hide hLlt
  have HL3 := hide hL3
  have HLN : Hid (L.length = n) := hide (by rw [hn]; exact hLn)
  have HN := hide hn
  obtain ⟨r0, r1, r2, r3, r4, r5, r6, r7, r8, r9, r10, r11, r12⟩ := hr2.cells
  have z0 := hr2.frozen 0
  have z1 := hr2.frozen 1
  have z2 := hr2.frozen 2
  have z3 := hr2.frozen 3
  have z4 := hr2.frozen 4
  have z5 := hr2.frozen 5
  clear h p hws htu e0 e1 e2 hLm hLw hLc hLn hLlt hL3 hn hle hnil hw1 hw2 hb1 hb2 s1 hr2 ht2 hb02
  go_enter Tryz.func28, Tryz.ntmps28
  go_upto_region 1 with fail
  rw [← (unhide HW).1, ← (unhide HW).2]
  clear HW
  go_wp2_with fail
  refine (unhide HTU w2).mono ?_
  rintro e w3 ⟨rfl, hb3⟩
  have hr3 := isRu.below (unhide HR2) hb3 (isRu.lt (unhide HR2))
  have ht3 := isRu.below (unhide HT2) hb3 (isRu.lt (unhide HT2))
  have hb03 := (unhide HB02).trans (hb3.mono (unhide HB02).size)
  clear r0 r1 r2 r3 r4 r5 r6 r7 r8 r9 r10 r11 r12 z0 z1 z2 z3 z4 z5 HR2 HT2 HB02 HTU hb3
  obtain ⟨w4, hw4⟩ : ∃ w4, w4 = (((((w3.setCell ⟨w.heap.size, 0, none⟩ (.int .i64 (W : Int))).setCell ⟨w.heap.size, 1, none⟩ (.int .i64 (H : Int))).setCell ⟨w.heap.size, 2, none⟩ (.string C)).setCell ⟨w.heap.size, 3, none⟩ (.int .i64 T)).setCell ⟨w.heap.size, 4, none⟩ (.string A)).setCell ⟨w.heap.size, 5, none⟩ (.string B) := ⟨_, rfl⟩
  have hr4 : isRu w4 w.heap.size (.int .i64 (W : Int)) (.int .i64 (H : Int)) (.string C) (.int .i64 T) (.string A) (.string B) (.slice ao n cap) (.bool dr) (.int .u8 lo) (.int .i64 li) (.int .u8 re) (.bool st) (.int .i64 pl) := by rw [hw4]; exact hr3.setP _ _ _ _ _ _
  have hb4 : Ex w.heap.size (w3.heap.size) w3 w4 := by rw [hw4]; exact ((((((Ex.refl _ _ _).set _ _).set _ _).set _ _).set _ _).set _ _).set _ _
  have ht4 : isRu w4 (w.heap.size + 1) (.int .i64 0) (.int .i64 0) (.string ⟨#[]⟩) (.int .i64 0) (.string ⟨#[]⟩) (.string ⟨#[]⟩) (.slice none 0 0) (.bool false) (.int .u8 0) (.int .i64 0) (.int .u8 0) (.bool false) (.int .i64 0) := (hb4.block _ (isRu.lt ht3) (by omega)).trans ht3
  have hb04 : Below w.heap.size w w4 := hb03.trans (hb4.fresh (Nat.le_refl _) hb03.size)
  obtain ⟨r0, r1, r2, r3, r4, r5, r6, r7, r8, r9, r10, r11, r12⟩ := hr3.cells
  have z0 := hr3.frozen 0
  have z1 := hr3.frozen 1
  have z2 := hr3.frozen 2
  have z3 := hr3.frozen 3
  have z4 := hr3.frozen 4
  have z5 := hr3.frozen 5
  have HR4 := hide hr4
  have HT4 := hide ht4
  have HB04 := hide hb04
  have HW4 := hide hw4
  clear hr3 ht3 hb03 hw4 hr4 hb4 ht4 hb04
  go_upto_region 2 with fail
  rw [← unhide HW4]
  clear r0 r1 r2 r3 r4 r5 r6 r7 r8 r9 r10 r11 r12 z0 z1 z2 z3 z4 z5 HW4
  obtain ⟨r0, r1, r2, r3, r4, r5, r6, r7, r8, r9, r10, r11, r12⟩ := (unhide HR4).cells
  go_wp2_with fail
  refine (unhide HCL w4 (unhide HB04)).mono ?_
  rintro e w5 ⟨v, rfl, hrow, hb5⟩
  clear r0 r1 r2 r3 r4 r5 r6 r7 r8 r9 r10 r11 r12
  have hr5 := isRu.below (unhide HR4) hb5 (isRu.lt (unhide HR4))
  have ht5 := isRu.below (unhide HT4) hb5 (isRu.lt (unhide HT4))
  have hb05 := (unhide HB04).trans (hb5.mono (unhide HB04).size)
  obtain ⟨o, cp, rfl⟩ : ∃ o cp, v = .slice o n cp := by
    rcases hrow.2 with ⟨h1, h2⟩ | ⟨g, cap, cur, h, -⟩
    · exact ⟨none, 0, by rw [h1, h2]⟩
    · exact ⟨_, _, h⟩
  have hnx : n ≤ 9223372036854775807 := by omega
  obtain ⟨w6, hw6⟩ : ∃ w6, w6 = w5.setCell ⟨w.heap.size, 6, none⟩ (.slice o n cp) := ⟨_, rfl⟩
  have hb6 : Ex w.heap.size w5.heap.size w5 w6 := by rw [hw6]; exact (Ex.refl _ _ _).set _ _
  have hcp : CP w.heap.size w.heap.size (w.heap.size + 1) w w6 o n cp (.int .i64 (W : Int)) (.int .i64 (H : Int)) (.string C) (.int .i64 T) (.string A) (.string B) (.bool dr) (.int .u8 lo) (.int .i64 li) (.int .u8 re) (.bool st) (.int .i64 pl) ps 0 L := by
    have hown : ∀ k, (Value.slice o n cp).ownBlock = some k → w4.heap.size ≤ k ∧ ∃ cur, w5.heap[k]? = some (.cells cur 71 (0, 0)) := fun k hk => own_gt hrow hk
    have h4s := (unhide HB04).size
    have hk0 := isRu.lt (unhide HR4)
    refine ⟨?_, unhide HLM, fun x hx => ?_, fun x hx hne a ha e => ?_, fun k x hk => absurd hk (by omega), ?_, ?_, ?_⟩
    · have hr1 : w5.ownsRow w.heap.size 71 3 (.slice o n cp) n (L.flatMap Px.cells) := World.ownsRow.mono hrow h4s
      refine own_same hr1 fun k hk => ?_
      obtain ⟨a1, cur, a2⟩ := hown k hk
      exact hb6.block k (Array.getElem?_eq_some_iff.1 a2).1 (by omega)
    · obtain ⟨a1, a2⟩ := unhide HLW x hx
      refine ⟨a1.of_block (Nat.le_trans hb05.size hb6.size) fun hne a ha => ?_, a2, unhide HL3 x hx⟩
      have hlt := unhide HLT x hx hne a ha
      have h5s := hb05.size
      exact (hb6.block _ (by omega) (by omega)).trans (hb05.block _ hlt)
    · have hlt := unhide HLT x hx hne a ha
      obtain ⟨a1, -⟩ := hown a.block e.symm
      omega
    · rw [hw6]; exact hr5.set6 _
    · exact (hb6.block _ (isRu.lt ht5) (by omega)).trans ht5
    · exact hb05.trans (hb6.fresh (Nat.le_refl _) hb05.size)
  have HCP := hide hcp
  have HW6 := hide hw6
  have HS6 : Hid (w.heap.size ≤ w6.heap.size) := hide (Nat.le_trans hb05.size hb6.size)
  have z6 := hr5.frozen 6
  obtain ⟨-, -, -, -, -, -, r6, -, -, -, -, -, -⟩ := hr5.cells
  clear hr5 ht5 hb05 hb5 hrow hw6 hb6 hcp HR4 HT4 HB04 HCL
  go_upto_region 3 with fail
  rw [← unhide HW6]
  clear r6 z6 HW6
  obtain ⟨-, -, -, -, -, -, r6, -, -, -, -, -, -⟩ := (unhide HCP).box.cells
  go_wp2_with fail
  go_loopw [18] (fun iv wr => ∃ (i : Nat) (L : List Px), iv = .int .i64 (i : Int) ∧ i ≤ n ∧ L.length = n ∧ w.heap.size ≤ wr.heap.size ∧ Hid (CP w.heap.size w.heap.size (w.heap.size + 1) w wr o n cp (.int .i64 (W : Int)) (.int .i64 (H : Int)) (.string C) (.int .i64 T) (.string A) (.string B) (.bool dr) (.int .u8 lo) (.int .i64 li) (.int .u8 re) (.bool st) (.int .i64 pl) ps i L)) (fun iv _ => n - (intOf iv).toNat)
  case atStart => exact ⟨0, L, rfl, Nat.zero_le _, unhide HLN, unhide HS6, HCP⟩
  case round =>
    clear r6 HCP HS6 HLW HLM HLT HL3 HLN L
    obtain ⟨i, L, rfl, hi, hLn, hsr, HCP⟩ := hrel
    by_cases hlt : i < n
    · have hlti : (i : Int) < (n : Int) := by omega
      have hi0 : (0 : Int) ≤ (i : Int) := by omega
      obtain ⟨x, hx⟩ : ∃ x, L[i]? = some x := ⟨L[i], List.getElem?_eq_getElem (by omega)⟩
      obtain ⟨g, rfl⟩ : ∃ g, o = some ⟨g, 0, none⟩ := by
        rcases (unhide HCP).row.2 with ⟨h1, h0⟩ | ⟨g, cap', cur, h1, -⟩
        · omega
        · injection h1 with h1
          exact ⟨g, h1⟩
      have hcle : n ≤ cp := by
        rcases (unhide HCP).row.2 with ⟨h1, h0⟩ | ⟨g', cap', cur, h1, -, -, hnc, -⟩
        · omega
        · injection h1 with h1 h2 h3
          omega
      have HX := hide hx
      have hcell : ∀ u, CP w.heap.size w.heap.size (w.heap.size + 1) w u (some ⟨g, 0, none⟩) n cp (.int .i64 (W : Int)) (.int .i64 (H : Int)) (.string C) (.int .i64 T) (.string A) (.string B) (.bool dr) (.int .u8 lo) (.int .i64 li) (.int .u8 re) (.bool st) (.int .i64 pl) ps i L → (fun u => u.cell? ⟨w.heap.size, 6, none⟩ = some (.slice (some ⟨g, 0, none⟩) n cp) ∧ u.cell? ⟨g, i * 3 + 2, none⟩ = some (.slice x.wo x.pc.ws.length x.wc)) u := fun u hu => by
        refine ⟨hu.box.cells.2.2.2.2.2.2.1, ?_⟩
        rw [World.ownsRow.cellAt hu.row (i * 3 + 2) (by omega)]
        exact hm_at (c := 3) (fun _ => rfl) L i 2 x hx (by decide)
      have HS := hide hcell
      have HXW := hide ((unhide HCP).wys x (List.mem_of_getElem? hx))
      clear hx hcell
      go_upto_region 6 with fail
      refine wp_region_v [12] (fun u => u.cell? ⟨w.heap.size, 6, none⟩ = some (.slice (some ⟨g, 0, none⟩) n cp) ∧ u.cell? ⟨g, i * 3 + 2, none⟩ = some (.slice x.wo x.pc.ws.length x.wc)) (by kernel_rfl) ?_
      have HCD : Hid (CP w.heap.size w.heap.size (w.heap.size + 1) w wr.drew (some ⟨g, 0, none⟩) n cp (.int .i64 (W : Int)) (.int .i64 (H : Int)) (.string C) (.int .i64 T) (.string A) (.string B) (.bool dr) (.int .u8 lo) (.int .i64 li) (.int .u8 re) (.bool st) (.int .i64 pl) ps i L) := hide ((unhide HCP).below (Below.refl _ _).drew hsr)
      have hHeld := unhide HS _ (unhide HCD)
      have hxw : isWys wr.drew x.wo x.wc x.pc.ws := (unhide HXW).1.below (Below.refl _ _).drew (Nat.le_refl _)
      have hsd : w.heap.size ≤ wr.drew.heap.size := hsr
      generalize wr.drew = wd at HCD hHeld hxw hsd ⊢
      have HXD := hide hxw
      have hx3 := (unhide HXW).2.2
      clear hxw HXW HCP
      refine wpAnyV_tk (i := 0) (oi := _) (v := ?_) rfl (by kernel_rfl) (by kernel_rfl) (by kernel_rfl) (by kernel_rfl) (fun _ _ _ h => h) (Or.inl ⟨by rfl, ?_⟩) (by assumption) ?_
      rotate_left 1
      · (intro u hSu; (try dsimp only at hSu); go_simp; first | done | with_reducible rfl | rfl)
      simp only [Act.put, List.getElem_toArray, List.getElem_cons_zero, List.setIfInBounds_toArray, List.set_cons_zero, List.set_cons_succ]
      refine wpAnyV_tk (i := 1) (oi := _) (v := ?_) rfl (by kernel_rfl) (by kernel_rfl) (by kernel_rfl) (by kernel_rfl) (fun _ _ _ h => h) (Or.inl ⟨by rfl, ?_⟩) (by assumption) ?_
      rotate_left 1
      · (intro u hSu; (try dsimp only at hSu); go_simp; first | done | with_reducible rfl | rfl)
      simp only [Act.put, List.getElem_toArray, List.getElem_cons_zero, List.getElem_cons_succ, List.setIfInBounds_toArray, List.set_cons_zero, List.set_cons_succ]
      refine wpAnyV_tk (i := 2) (oi := _) (v := ?_) rfl (by kernel_rfl) (by kernel_rfl) (by kernel_rfl) (by kernel_rfl) (fun _ _ _ h => h) (Or.inl ⟨by rfl, ?_⟩) (by assumption) ?_
      rotate_left 1
      · (intro u hSu; (try dsimp only at hSu); go_simp; first | done | with_reducible rfl | rfl)
      simp only [Act.put, List.getElem_toArray, List.getElem_cons_zero, List.getElem_cons_succ, List.setIfInBounds_toArray, List.set_cons_zero, List.set_cons_succ]
      refine wpAnyV_tk (i := 3) (oi := _) (v := ?_) rfl (by kernel_rfl) (by kernel_rfl) (by kernel_rfl) (by kernel_rfl) (fun _ _ _ h => h) (Or.inl ⟨by rfl, ?_⟩) (by assumption) ?_
      rotate_left 1
      · (intro u hSu; (try dsimp only at hSu); go_simp; first | done | with_reducible rfl | rfl)
      simp only [Act.put, List.getElem_toArray, List.getElem_cons_zero, List.getElem_cons_succ, List.setIfInBounds_toArray, List.set_cons_zero, List.set_cons_succ]
      refine wpAnyV_tk (i := 4) (oi := _) (v := ?_) rfl (by kernel_rfl) (by kernel_rfl) (by kernel_rfl) (by kernel_rfl) (fun _ _ _ h => h) (Or.inl ⟨by rfl, ?_⟩) (by assumption) ?_
      rotate_left 1
      · (intro u hSu; (try dsimp only at hSu); go_simp; first | done | with_reducible rfl | rfl)
      simp only [Act.put, List.getElem_toArray, List.getElem_cons_zero, List.getElem_cons_succ, List.setIfInBounds_toArray, List.set_cons_zero, List.set_cons_succ]
      refine wpAnyV_tk (i := 5) (oi := _) (v := ?_) rfl (by kernel_rfl) (by kernel_rfl) (by kernel_rfl) (by kernel_rfl) (fun _ _ _ h => h) (Or.inl ⟨by rfl, ?_⟩) (by assumption) ?_
      rotate_left 1
      · (intro u hSu; (try dsimp only at hSu); go_simp; first | done | with_reducible rfl | rfl)
      simp only [Act.put, List.getElem_toArray, List.getElem_cons_zero, List.getElem_cons_succ, List.setIfInBounds_toArray, List.set_cons_zero, List.set_cons_succ]
      refine wpAnyV_tk (i := 6) (oi := _) (v := ?_) rfl (by kernel_rfl) (by kernel_rfl) (by kernel_rfl) (by kernel_rfl) (fun _ _ _ h => h) (Or.inl ⟨by rfl, ?_⟩) (by assumption) ?_
      rotate_left 1
      · (intro u hSu; (try dsimp only at hSu); go_simp; first | done | with_reducible rfl | rfl)
      simp only [Act.put, List.getElem_toArray, List.getElem_cons_zero, List.getElem_cons_succ, List.setIfInBounds_toArray, List.set_cons_zero, List.set_cons_succ]
      refine wpAnyV_tk (i := 7) (oi := _) (v := ?_) rfl (by kernel_rfl) (by kernel_rfl) (by kernel_rfl) (by kernel_rfl) (fun _ _ _ h => h) (Or.inl ⟨by rfl, ?_⟩) (by assumption) ?_
      rotate_left 1
      · (intro u hSu; (try dsimp only at hSu); go_simp; first | done | with_reducible rfl | rfl)
      simp only [Act.put, List.getElem_toArray, List.getElem_cons_zero, List.getElem_cons_succ, List.setIfInBounds_toArray, List.set_cons_zero, List.set_cons_succ]
      refine wpAnyV_tk (i := 8) (oi := _) (v := ?_) rfl (by kernel_rfl) (by kernel_rfl) (by kernel_rfl) (by kernel_rfl) (fun _ _ _ h => h) (Or.inl ⟨by rfl, ?_⟩) (by assumption) ?_
      rotate_left 1
      · (intro u hSu; (try dsimp only at hSu); go_simp; first | done | with_reducible rfl | rfl)
      simp only [Act.put, List.getElem_toArray, List.getElem_cons_zero, List.getElem_cons_succ, List.setIfInBounds_toArray, List.set_cons_zero, List.set_cons_succ]
      refine wpAnyV_ready (rs := [9]) (by kernel_rfl) (by simp) ?_
      refine ReadyV.cons (o := _) rfl (fun K hK => ?_) ReadyV.nil
      clear hHeld
      refine step_callH (by rfl) 59 _ _ rfl #[.slice x.wo x.pc.ws.length x.wc] (by simp [Act.eval]) entCW (cloneWays_any x.wo x.wc x.pc.ws wd (unhide HXD) hx3) ?_
      rintro e y ⟨wo, wc, rfl, hy, hfr, hby⟩
      refine ⟨_, rfl, ?_⟩
      have HCY := hide ((unhide HCD).below hby hsd)
      have hHeld := unhide HS _ (unhide HCY)
      refine hK.out _ _ (fun _ => hHeld) ?_
      clear hK K
      try simp only [Act.put, List.getElem_toArray, List.getElem_cons_zero, List.getElem_cons_succ, List.setIfInBounds_toArray, List.set_cons_zero, List.set_cons_succ]
      refine wpAnyV_pure (i := 10) (oi := _) (v := ?_) rfl (by kernel_rfl) (by kernel_rfl) (by kernel_rfl) (by kernel_rfl) (fun _ _ _ h => h) (Or.inl ⟨by rfl, ?_⟩) (by first | exact fun _ => hHeld | (intro h; exact absurd h (by decide))) ?_
      rotate_left 1
      · (intro u _; go_simp; first | done | with_reducible rfl | rfl)
      simp only [Act.put, List.getElem_toArray, List.getElem_cons_zero, List.getElem_cons_succ, List.setIfInBounds_toArray, List.set_cons_zero, List.set_cons_succ]
      refine wpAnyV_pure (i := 11) (oi := _) (v := ?_) rfl (by kernel_rfl) (by kernel_rfl) (by kernel_rfl) (by kernel_rfl) (fun _ _ _ h => h) (Or.inl ⟨by rfl, ?_⟩) (by first | exact fun _ => hHeld | (intro h; exact absurd h (by decide))) ?_
      rotate_left 1
      · (intro u _; go_simp; first | done | with_reducible rfl | rfl)
      simp only [Act.put, List.getElem_toArray, List.getElem_cons_zero, List.getElem_cons_succ, List.setIfInBounds_toArray, List.set_cons_zero, List.set_cons_succ]
      clear hHeld
      have hfin := (unhide HCD).step (unhide HX) hsd hby hy hfr
      have hc2 := (unhide HS _ (unhide HCY)).2
      have hf2 := World.ownsRow.frozenAt (unhide HCY).row (i * 3 + 2)
      refine wpAnyV_ready (rs := [12]) (by kernel_rfl) (by simp) ?_
      refine ReadyV.cons (o := _) rfl (fun K hK => ?_) ReadyV.nil
      go_simp
      refine hK.out _ _ (fun h => absurd h (by decide)) ?_
      clear hK K hc2 hf2
      try simp only [Act.put, List.getElem_toArray, List.getElem_cons_zero, List.getElem_cons_succ, List.setIfInBounds_toArray, List.set_cons_zero, List.set_cons_succ]
      refine wpAnyV_done (by kernel_rfl) ?_ _
      have hse : w.heap.size ≤ (y.setCell ⟨g, i * 3 + 2, none⟩ (.slice wo x.pc.ws.length wc)).heap.size := by have := hby.size; simp [World.setCell]; omega
      generalize y.setCell ⟨g, i * 3 + 2, none⟩ (.slice wo x.pc.ws.length wc) = z at hfin hse ⊢
      have HFIN := hide hfin
      clear hfin HCY HCD hy hfr hby HS HXD
      go_wp2
      go_roundw
      case rel => exact ⟨i + 1, L.set i ⟨x.pc, wo, wc⟩, by go_num, by omega, by rw [List.length_set]; exact hLn, hse, HFIN⟩
      case measure => simp only [intOf]; omega
    · obtain rfl : i = n := by omega
      have hlti : ¬ (i : Int) < (i : Int) := by omega
      have hsz := (isRu.lt (unhide HCP).res)
      have hws : ∀ X : World, X = (((((((((((((wr.setCell ⟨w.heap.size + 1, 0, none⟩ (.int .i64 (W : Int))).setCell ⟨w.heap.size + 1, 1, none⟩ (.int .i64 (H : Int))).setCell ⟨w.heap.size + 1, 2, none⟩ (.string C)).setCell ⟨w.heap.size + 1, 3, none⟩ (.int .i64 T)).setCell ⟨w.heap.size + 1, 4, none⟩ (.string A)).setCell ⟨w.heap.size + 1, 5, none⟩ (.string B)).setCell ⟨w.heap.size + 1, 6, none⟩ (.slice o i cp)).setCell ⟨w.heap.size + 1, 7, none⟩ (.bool dr)).setCell ⟨w.heap.size + 1, 8, none⟩ (.int .u8 lo)).setCell ⟨w.heap.size + 1, 9, none⟩ (.int .i64 li)).setCell ⟨w.heap.size + 1, 10, none⟩ (.int .u8 re)).setCell ⟨w.heap.size + 1, 11, none⟩ (.bool st)).setCell ⟨w.heap.size + 1, 12, none⟩ (.int .i64 pl)) → (isPcs X o cp ps ∧ PcsFrom w.heap.size X o ps ∧ Below w.heap.size w X) ∧ isRu X (w.heap.size + 1) (.int .i64 (W : Int)) (.int .i64 (H : Int)) (.string C) (.int .i64 T) (.string A) (.string B) (.slice o i cp) (.bool dr) (.int .u8 lo) (.int .i64 li) (.int .u8 re) (.bool st) (.int .i64 pl) := fun X hX => by
        have he : Ex (w.heap.size + 1) wr.heap.size wr X := by rw [hX]; exact ((((((((((((((Ex.refl (w.heap.size + 1) wr.heap.size wr).set 0 (.int .i64 (W : Int))).set 1 (.int .i64 (H : Int))).set 2 (.string C)).set 3 (.int .i64 T)).set 4 (.string A)).set 5 (.string B)).set 6 (.slice o i cp)).set 7 (.bool dr)).set 8 (.int .u8 lo)).set 9 (.int .i64 li)).set 10 (.int .u8 re)).set 11 (.bool st)).set 12 (.int .i64 pl))
        have hsx : X.heap.size = wr.heap.size := by rw [hX]; simp [World.setCell]
        have hh : ∀ k, k ≠ w.heap.size + 1 → X.heap[k]? = wr.heap[k]? := fun k hk => by
          by_cases hkl : k < wr.heap.size
          · exact he.block k hkl hk
          · rw [Array.getElem?_eq_none (by omega), Array.getElem?_eq_none (by omega)]
        have hf := (unhide HCP).fin (wf := X) (unhide HN) he.size hh
        refine ⟨⟨hf.1, hf.2, (unhide HCP).low.trans (he.fresh (by omega) (by omega))⟩, ?_⟩
        rw [hX]
        exact ((unhide HCP).res).setAllH _ _ _ _ _ _ _ _ _ _ _ _ _
      obtain ⟨X, hX⟩ : ∃ X, X = (((((((((((((wr.setCell ⟨w.heap.size + 1, 0, none⟩ (.int .i64 (W : Int))).setCell ⟨w.heap.size + 1, 1, none⟩ (.int .i64 (H : Int))).setCell ⟨w.heap.size + 1, 2, none⟩ (.string C)).setCell ⟨w.heap.size + 1, 3, none⟩ (.int .i64 T)).setCell ⟨w.heap.size + 1, 4, none⟩ (.string A)).setCell ⟨w.heap.size + 1, 5, none⟩ (.string B)).setCell ⟨w.heap.size + 1, 6, none⟩ (.slice o i cp)).setCell ⟨w.heap.size + 1, 7, none⟩ (.bool dr)).setCell ⟨w.heap.size + 1, 8, none⟩ (.int .u8 lo)).setCell ⟨w.heap.size + 1, 9, none⟩ (.int .i64 li)).setCell ⟨w.heap.size + 1, 10, none⟩ (.int .u8 re)).setCell ⟨w.heap.size + 1, 11, none⟩ (.bool st)).setCell ⟨w.heap.size + 1, 12, none⟩ (.int .i64 pl)) := ⟨_, rfl⟩
      obtain ⟨hfin, hru⟩ := hws X hX
      have HFIN := hide hfin
      have HX := hide hX
      obtain ⟨r0, r1, r2, r3, r4, r5, r6, r7, r8, r9, r10, r11, r12⟩ := (unhide HCP).box.cells
      obtain ⟨t0, t1, t2, t3, t4, t5, t6, t7, t8, t9, t10, t11, t12⟩ := (unhide HCP).res.cells
      obtain ⟨x0, x1, x2, x3, x4, x5, x6, x7, x8, x9, x10, x11, x12⟩ := hru.cells
      have z0 := (unhide HCP).res.frozen 0
      have z1 := (unhide HCP).res.frozen 1
      have z2 := (unhide HCP).res.frozen 2
      have z3 := (unhide HCP).res.frozen 3
      have z4 := (unhide HCP).res.frozen 4
      have z5 := (unhide HCP).res.frozen 5
      have z6 := (unhide HCP).res.frozen 6
      have z7 := (unhide HCP).res.frozen 7
      have z8 := (unhide HCP).res.frozen 8
      have z9 := (unhide HCP).res.frozen 9
      have z10 := (unhide HCP).res.frozen 10
      have z11 := (unhide HCP).res.frozen 11
      have z12 := (unhide HCP).res.frozen 12
      clear hws hfin hru hX HCP
      go_wp2
      rw [← unhide HX]
      exact bodyPost_ret (v := .agg #[.int .i64 (W : Int), .int .i64 (H : Int), .string C, .int .i64 T, .string A, .string B, .slice o i cp, .bool dr, .int .u8 lo, .int .i64 li, .int .u8 re, .bool st, .int .i64 pl]) (by simp [results, Tryz.results28, go_sem, x0, x1, x2, x3, x4, x5, x6, x7, x8, x9, x10, x11, x12]) rfl ⟨o, cp, rfl, unhide HFIN⟩
end Go.Proofs.YtihojhfpepbjhaaGreatDoor
