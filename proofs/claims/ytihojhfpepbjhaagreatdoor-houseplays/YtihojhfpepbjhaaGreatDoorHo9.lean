/-
  package house, walked: copied.
-/
import Derived.Test.YtihojhfpepbjhaaGreatDoorHoK
import Derived.Test.YtihojhfpepbjhaaGreatDoorHoR
import Derived.Test.YtihojhfpepbjhaaGreatDoorJ1
import Derived.Laws.OwnMore
import Derived.Deep.CutRange
namespace Go.Proofs.YtihojhfpepbjhaaGreatDoor
open Go.RowKit
attribute [local go_sem ↓] Go.wp_at_zero Go.wp_at_succ

theorem hm_set {α : Type} {f : α → List Value} {c : Nat} (hc : ∀ x, (f x).length = c) : ∀ (l : List α) (i j : Nat) (x x' : α) (v : Value), l[i]? = some x → j < c → f x' = (f x).set j v → (l.flatMap f).set (i * c + j) v = (l.set i x').flatMap f
  | [], _, _, _, _, _, h, _, _ => by simp at h
  | a :: l, 0, j, x, x', v, h, hj, hx => by
    simp only [List.getElem?_cons_zero, Option.some.injEq] at h
    subst h
    rw [List.set_cons_zero, List.flatMap_cons, List.flatMap_cons, Nat.zero_mul, Nat.zero_add, List.set_append_left _ _ (by rw [hc]; exact hj), hx]
  | a :: l, i + 1, j, x, x', v, h, hj, hx => by
    have ih := hm_set hc l i j x x' v (by simpa using h) hj hx
    have e : (i + 1) * c + j = c + (i * c + j) := by rw [Nat.add_mul]; omega
    rw [List.set_cons_succ, List.flatMap_cons, List.flatMap_cons, List.set_append_right _ _ (by rw [hc, e]; omega), ← ih, hc, e]
    congr 2
    omega
theorem isWys.of_block {w w' : World} {ao : Option Addr} {cap : Nat} {ws : List Wy} (h : isWys w ao cap ws) (hs : w.heap.size ≤ w'.heap.size) (hb : ws ≠ [] → ∀ a, ao = some a → w'.heap[a.block]? = w.heap[a.block]?) : isWys w' ao cap ws := by
  refine ⟨h.le, h.mx, h.nil, fun hl => ?_⟩
  obtain ⟨g, off, e, hg, hc⟩ := h.cells hl
  refine ⟨g, off, e, by omega, fun i z hz => ?_⟩
  obtain ⟨c0, c1, c2, c3⟩ := hc i z hz
  have hk : ∀ k, w'.cell? ⟨g, k, none⟩ = w.cell? ⟨g, k, none⟩ := fun k => by
    have := hb hl _ e
    simp only [World.cell?]
    rw [this]
  exact ⟨(hk _).trans c0, (hk _).trans c1, (hk _).trans c2, (hk _).trans c3⟩
theorem isWys.far {w : World} {ao : Option Addr} {cap : Nat} {ws : List Wy} (h : isWys w ao cap ws) (hl : ws ≠ []) {a : Addr} (ha : ao = some a) : a.block < w.heap.size := by
  obtain ⟨g, off, e, hg, -⟩ := h.cells hl
  rw [ha] at e
  injection e with e
  subst e
  exact hg
theorem own_gt {w : World} {base : Nat} {e : TypeId} {size : Nat} {v : Value} {n : Nat} {xs : List Value} (h : w.ownsRow base e size v n xs) {k : Nat} (hk : v.ownBlock = some k) : base ≤ k ∧ ∃ cur, w.heap[k]? = some (.cells cur e (0, 0)) := by
  rcases h.2 with ⟨rfl, -⟩ | ⟨g, cap, cur, rfl, hg, hb, -⟩
  · cases hk
  · simp [Value.ownBlock] at hk
    subst hk
    exact ⟨hg, cur, hb⟩
theorem own_same {w w' : World} {base : Nat} {e : TypeId} {size : Nat} {v : Value} {n : Nat} {xs : List Value} (h : w.ownsRow base e size v n xs) (hb : ∀ k, v.ownBlock = some k → w'.heap[k]? = w.heap[k]?) : w'.ownsRow base e size v n xs := by
  refine ⟨h.1, ?_⟩
  rcases h.2 with h1 | ⟨g, cap, cur, rfl, hg, hc, rest⟩
  · exact .inl h1
  · exact .inr ⟨g, cap, cur, rfl, hg, (hb g rfl).trans hc, rest⟩
/-- The copied rules, when the ways of i pieces are copied, too. -/
structure CP (base bx tb : Nat) (w0 wr : World) (o : Option Addr) (n cap : Nat) (u0 u1 u2 u3 u4 u5 v7 v8 v9 v10 v11 v12 : Value) (ps : List Pc) (i : Nat) (L : List Px) : Prop where
  row : wr.ownsRow base 71 3 (.slice o n cap) n (L.flatMap Px.cells)
  pcs : L.map Px.pc = ps
  wys : ∀ x ∈ L, isWys wr x.wo x.wc x.pc.ws ∧ x.pc.l < 256 ∧ x.pc.ws.length ≤ 1000
  far : ∀ x ∈ L, x.pc.ws ≠ [] → ∀ a, x.wo = some a → some a.block ≠ (Value.slice o n cap).ownBlock
  fresh : ∀ k x, k < i → L[k]? = some x → ∀ a, x.wo = some a → base ≤ a.block ∧ a.block ≠ tb
  box : isRu wr bx u0 u1 u2 u3 u4 u5 (.slice o n cap) v7 v8 v9 v10 v11 v12
  res : isRu wr tb (.int .i64 0) (.int .i64 0) (.string ⟨#[]⟩) (.int .i64 0) (.string ⟨#[]⟩) (.string ⟨#[]⟩) (.slice none 0 0) (.bool false) (.int .u8 0) (.int .i64 0) (.int .u8 0) (.bool false) (.int .i64 0)
  low : Below base w0 wr
theorem CP.below {base bx tb : Nat} {w0 wr w' : World} {o : Option Addr} {n cap : Nat} {u0 u1 u2 u3 u4 u5 v7 v8 v9 v10 v11 v12 : Value} {ps : List Pc} {i : Nat} {L : List Px} (h : CP base bx tb w0 wr o n cap u0 u1 u2 u3 u4 u5 v7 v8 v9 v10 v11 v12 ps i L) (hb : Below wr.heap.size wr w') (hw : base ≤ wr.heap.size) : CP base bx tb w0 w' o n cap u0 u1 u2 u3 u4 u5 v7 v8 v9 v10 v11 v12 ps i L :=
  ⟨own_same h.row (fun k hk => by
      obtain ⟨-, cur, hc⟩ := own_gt h.row hk
      exact hb.block k (Array.getElem?_eq_some_iff.1 hc).1), h.pcs, fun x hx => ⟨(h.wys x hx).1.below hb (Nat.le_refl _), (h.wys x hx).2⟩, h.far, h.fresh, isRu.below h.box hb (isRu.lt h.box), isRu.below h.res hb (isRu.lt h.res), h.low.trans (hb.mono hw)⟩
theorem isRu.ne_row {w : World} {b g : Nat} {u0 u1 u2 u3 u4 u5 u6 v7 v8 v9 v10 v11 v12 : Value} (h : isRu w b u0 u1 u2 u3 u4 u5 u6 v7 v8 v9 v10 v11 v12) {cur : Array Value} (hg : w.heap[g]? = some (.cells cur 71 (0, 0))) : b ≠ g := by
  intro e
  subst e
  unfold isRu at h
  rw [h] at hg
  simp at hg
theorem CP.step {base bx tb : Nat} {w0 wr w2 : World} {g n cap : Nat} {u0 u1 u2 u3 u4 u5 v7 v8 v9 v10 v11 v12 : Value} {ps : List Pc} {i : Nat} {L : List Px} {x : Px} (h : CP base bx tb w0 wr (some ⟨g, 0, none⟩) n cap u0 u1 u2 u3 u4 u5 v7 v8 v9 v10 v11 v12 ps i L) (hx : L[i]? = some x) (hw : base ≤ wr.heap.size) (hb : Below wr.heap.size wr w2) {wo : Option Addr} {wc : Nat} (hy : isWys w2 wo wc x.pc.ws) (hf : ∀ a, wo = some a → wr.heap.size ≤ a.block) :
    CP base bx tb w0 (w2.setCell ⟨g, i * 3 + 2, none⟩ (.slice wo x.pc.ws.length wc)) (some ⟨g, 0, none⟩) n cap u0 u1 u2 u3 u4 u5 v7 v8 v9 v10 v11 v12 ps (i + 1) (L.set i ⟨x.pc, wo, wc⟩) := by
  have h2 := h.below hb hw
  obtain ⟨hbg, cur, hc⟩ := own_gt h2.row (k := g) rfl
  have hgl : g < wr.heap.size := by
    obtain ⟨-, cur', hc'⟩ := own_gt h.row (k := g) rfl
    exact (Array.getElem?_eq_some_iff.1 hc').1
  have hst := World.ownsRow.stored h2.row (i * 3 + 2) (.slice wo x.pc.ws.length wc)
  rw [hm_set (c := 3) (fun _ => rfl) L i 2 x ⟨x.pc, wo, wc⟩ _ hx (by decide) rfl] at hst
  obtain ⟨hil, hix⟩ := List.getElem?_eq_some_iff.1 hx
  have hxm : x ∈ L := List.mem_of_getElem? hx
  have hkeep : ∀ k, k ≠ g → (w2.setCell ⟨g, i * 3 + 2, none⟩ (.slice wo x.pc.ws.length wc)).heap[k]? = w2.heap[k]? := fun k hk => Below.heap_setCell _ _ _ _ hk
  have hsz : w2.heap.size ≤ (w2.setCell ⟨g, i * 3 + 2, none⟩ (.slice wo x.pc.ws.length wc)).heap.size := by simp [World.setCell]
  have hmem : ∀ z ∈ L.set i ⟨x.pc, wo, wc⟩, z ∈ L ∨ z = ⟨x.pc, wo, wc⟩ := fun z hz => List.mem_or_eq_of_mem_set hz
  refine ⟨hst.1, ?_, ?_, ?_, ?_, ?_, ?_, ?_⟩
  · rw [← h.pcs, List.map_set]
    have e : (L.map Px.pc)[i]? = some x.pc := by rw [List.getElem?_map, hx]; rfl
    exact List.ext_getElem? fun k => by
      rw [List.getElem?_set]
      split
      · rename_i hik
        subst hik
        rw [if_pos (by rw [List.length_map]; exact hil), e]
      · rfl
  · intro z hz
    rcases hmem z hz with hz | rfl
    · obtain ⟨a1, a2⟩ := h2.wys z hz
      exact ⟨a1.of_block hsz (fun hne a ha => hkeep _ (fun e => h.far z hz hne a ha (by rw [e]; rfl))), a2⟩
    · exact ⟨hy.of_block hsz (fun hne a ha => hkeep _ (fun e => by have := hf a ha; omega)), (h.wys x hxm).2⟩
  · intro z hz hne a ha
    rcases hmem z hz with hz | rfl
    · exact h.far z hz hne a ha
    · have := hf a ha
      simp only [Value.ownBlock, ne_eq, Option.some.injEq]
      omega
  · intro k z hk hz a ha
    rw [List.getElem?_set] at hz
    split at hz
    · injection hz with hz
      subst hz
      have h1 := hf a ha
      have h3 := isRu.lt h.res
      exact ⟨by omega, by omega⟩
    · exact h.fresh k z (by omega) hz a ha
  · exact (hkeep bx (isRu.ne_row h2.box hc)).trans h2.box
  · exact (hkeep tb (isRu.ne_row h2.res hc)).trans h2.res
  · exact h2.low.setCell (p := ⟨g, i * 3 + 2, none⟩) hbg _
/-- What is copied lies in blocks from base on. -/
def PcsFrom (base : Nat) (w : World) (ao : Option Addr) (ps : List Pc) : Prop :=
  ∀ (i : Nat) (p : Pc), ps[i]? = some p → ∃ g wo wc, ao = some ⟨g, 0, none⟩ ∧ base ≤ g ∧ w.cell? ⟨g, i * 3 + 2, none⟩ = some (.slice wo p.ws.length wc) ∧ ∀ a, wo = some a → base ≤ a.block
theorem CP.fin {base bx tb : Nat} {w0 wr wf : World} {o : Option Addr} {n cap : Nat} {u0 u1 u2 u3 u4 u5 v7 v8 v9 v10 v11 v12 : Value} {ps : List Pc} {L : List Px} (h : CP base bx tb w0 wr o n cap u0 u1 u2 u3 u4 u5 v7 v8 v9 v10 v11 v12 ps n L) (hn : n = ps.length) (hs : wr.heap.size ≤ wf.heap.size) (hk : ∀ k, k ≠ tb → wf.heap[k]? = wr.heap[k]?) : isPcs wf o cap ps ∧ PcsFrom base wf o ps := by
  have hlen : L.length = n := by have := congrArg List.length h.pcs; rw [List.length_map] at this; omega
  rcases h.row.2 with ⟨h1, h0⟩ | ⟨g, cap', cur, h1, hg, hb, hnc, hcm, hcs, ht⟩
  · injection h1 with h2 h3 h4
    have hp0 : ps = [] := List.eq_nil_of_length_eq_zero (by omega)
    subst h2 h4 hp0
    exact ⟨⟨Nat.zero_le _, by unfold maxLen; omega, fun _ => rfl, fun hne => absurd rfl hne⟩, fun i p hi => by simp at hi⟩
  · injection h1 with h2 h3 h4
    subst h2 h4
    have hgt : g ≠ tb := fun e => isRu.ne_row h.res hb e.symm
    have hgw : ∀ k, wf.cell? ⟨g, k, none⟩ = wr.cell? ⟨g, k, none⟩ := fun k => by
      have := hk g hgt
      simp only [World.cell?]
      rw [this]
    have hcell : ∀ (i : Nat) (x : Px), L[i]? = some x → wf.cell? ⟨g, 0 + i * 3, none⟩ = some (.int .u8 (x.pc.l : Int)) ∧ wf.cell? ⟨g, 0 + i * 3 + 1, none⟩ = some (.int .i64 x.pc.v) ∧ wf.cell? ⟨g, 0 + i * 3 + 2, none⟩ = some (.slice x.wo x.pc.ws.length x.wc) := fun i x hx => by
      have hil := (List.getElem?_eq_some_iff.1 hx).1
      have hk : ∀ k, k < 3 → wf.cell? ⟨g, 0 + i * 3 + k, none⟩ = x.cells[k]? := fun k hk => by
        rw [hgw, Nat.zero_add, World.ownsRow.cellAt h.row (i * 3 + k) (by omega)]
        exact hm_at (c := 3) (fun _ => rfl) L i k x hx hk
      exact ⟨hk 0 (by decide), hk 1 (by decide), hk 2 (by decide)⟩
    have hget : ∀ (i : Nat) (p : Pc), ps[i]? = some p → ∃ x, L[i]? = some x ∧ x.pc = p := fun i p hp => by
      rw [← h.pcs, List.getElem?_map] at hp
      obtain ⟨x, hx, e⟩ := Option.map_eq_some_iff.1 hp
      exact ⟨x, hx, e⟩
    have hfr : ∀ (i : Nat) (x : Px), L[i]? = some x → ∀ a : Addr, x.wo = some a → base ≤ a.block ∧ a.block ≠ tb := fun i x hx a ha => h.fresh i x (by have := (List.getElem?_eq_some_iff.1 hx).1; omega) hx a ha
    refine ⟨⟨by omega, hcm, (fun e => by cases e), fun _ => ⟨g, 0, rfl, by have := (Array.getElem?_eq_some_iff.1 hb).1; omega, fun i p hp => ?_⟩⟩, fun i p hp => ?_⟩
    · obtain ⟨x, hx, rfl⟩ := hget i p hp
      obtain ⟨c0, c1, c2⟩ := hcell i x hx
      obtain ⟨a1, a2, -⟩ := h.wys x (List.mem_of_getElem? hx)
      exact ⟨a2, x.wo, x.wc, c0, c1, c2, a1.of_block hs (fun _ a ha => hk _ (hfr i x hx a ha).2)⟩
    · obtain ⟨x, hx, rfl⟩ := hget i p hp
      obtain ⟨c0, c1, c2⟩ := hcell i x hx
      rw [Nat.zero_add] at c2
      exact ⟨g, x.wo, x.wc, rfl, hg, c2, fun a ha => (hfr i x hx a ha).1⟩
end Go.Proofs.YtihojhfpepbjhaaGreatDoor
