/-
  package proof, walked: cert: what it keeps in its own worlds; where there is no move.
-/
import Derived.Test.YtlogengkhlmcbaaGreatDoorJ24
namespace Go.Proofs.YtlogengkhlmcbaaGreatDoor
open Go.RowKit
attribute [local go_sem ↓] Go.wp_at_zero Go.wp_at_succ

/-- What cert hands back. -/
def CeP (sh : Nat → Ct → Bool) (least g d : Nat) (F : Po → Nat → Bool → Prop) (w : World) (e : Ending) (w' : World) : Prop := ∃ (x : Ct) (no : Option Addr) (nc : Nat), e = .returned (.agg #[.bool x.s, .int .i64 x.f, .int .i64 x.t, .int .u8 (x.c : Int), .slice no x.ks.length nc]) ∧ x.c < 256 ∧ isCo d w' w.heap.size w'.heap.size no nc x.ks ∧ (∀ n, least ≤ n → sh n x = true) ∧ knows w' g 262144 F ∧ w.grownBy w' (some g)
/-- What is known in a world of cert's own. -/
structure CF (w : World) (h g : Nat) (v0 v1 v2 v3 v4 v5 v6 v7 v8 v9 v10 v11 v12 : Value) (win : Int) (p : Po) (u : World) : Prop where
  pt : u.heap[w.heap.size]? = some (.cells #[.pointer (some ⟨h, 0, none⟩)] 43 (0, 0))
  pb : isPb u (w.heap.size + 1) p.W p.H p.T p.C p.A p.B
  cb : isCb u (w.heap.size + 1 + 1) false 0 0 0 (.slice none 0 0)
  hu : isHu u h g v0 v1 v2 v3 v4 v5 v6 v7 v8 v9 v10 v11 v12 win
  gr : w.grownBy u (some g)
  sz : w.heap.size + 1 + 1 + 1 ≤ u.heap.size
  hl : h < w.heap.size
  gl : g < w.heap.size
  ne : h ≠ g
section
variable {w : World} {h g : Nat} {v0 v1 v2 v3 v4 v5 v6 v7 v8 v9 v10 v11 v12 : Value} {win : Int} {p : Po} {u u' : World}
theorem CF.of (H : CF w h g v0 v1 v2 v3 v4 v5 v6 v7 v8 v9 v10 v11 v12 win p u) (hk : ∀ i, i < w.heap.size + 1 + 1 + 1 → i ≠ g → u'.heap[i]? = u.heap[i]?) (ho : u'.os = u.os) (ht : u'.tape = u.tape) (hp : u'.output = u.output) (hs : u.heap.size ≤ u'.heap.size) : CF w h g v0 v1 v2 v3 v4 v5 v6 v7 v8 v9 v10 v11 v12 win p u' := by
  obtain ⟨a1, a2, a3, a4, a5, a6, a7, a8, a9⟩ := H
  exact ⟨(hk _ (by omega) (by omega)).trans a1, (hk _ (by omega) (by omega)).trans a2, (hk _ (by omega) (by omega)).trans a3, (hk _ (by omega) a9).trans a4, ⟨ho.trans a5.os, ht.trans a5.tape, hp.trans a5.output, Nat.le_trans a5.size hs, fun i hi hne => (hk i (by omega) (by simpa using hne)).trans (a5.block i hi hne)⟩, by omega, a7, a8, a9⟩
theorem CF.step (H : CF w h g v0 v1 v2 v3 v4 v5 v6 v7 v8 v9 v10 v11 v12 win p u) (hg : u.grownBy u' (some g)) : CF w h g v0 v1 v2 v3 v4 v5 v6 v7 v8 v9 v10 v11 v12 win p u' := by
  have := H.sz
  exact H.of (fun i hi hne => hg.block i (by omega) (by simpa using hne)) hg.os hg.tape hg.output hg.size
theorem CF.cells (H : CF w h g v0 v1 v2 v3 v4 v5 v6 v7 v8 v9 v10 v11 v12 win p u) : u.cell? ⟨w.heap.size, 0, none⟩ = some (.pointer (some ⟨h, 0, none⟩)) ∧ u.cell? ⟨h, 0, none⟩ = some v0 ∧ u.cell? ⟨h, 1, none⟩ = some v1 ∧ u.cell? ⟨h, 2, none⟩ = some v2 ∧ u.cell? ⟨h, 3, none⟩ = some v3 ∧ u.cell? ⟨h, 4, none⟩ = some v4 ∧ u.cell? ⟨h, 5, none⟩ = some v5 ∧ u.cell? ⟨h, 6, none⟩ = some v6 ∧ u.cell? ⟨h, 7, none⟩ = some v7 ∧ u.cell? ⟨h, 8, none⟩ = some v8 ∧ u.cell? ⟨h, 9, none⟩ = some v9 ∧ u.cell? ⟨h, 10, none⟩ = some v10 ∧ u.cell? ⟨h, 11, none⟩ = some v11 ∧ u.cell? ⟨h, 12, none⟩ = some v12 ∧ u.cell? ⟨h, 13, none⟩ = some (.int .i64 win) ∧ u.cell? ⟨w.heap.size + 1, 0, none⟩ = some (.int .i64 p.W) ∧ u.cell? ⟨w.heap.size + 1, 1, none⟩ = some (.int .i64 p.H) ∧ u.cell? ⟨w.heap.size + 1, 2, none⟩ = some (.string p.C) ∧ u.cell? ⟨w.heap.size + 1, 3, none⟩ = some (.int .i64 p.T) ∧ u.cell? ⟨w.heap.size + 1, 4, none⟩ = some (.string p.A) ∧ u.cell? ⟨w.heap.size + 1, 5, none⟩ = some (.string p.B) := by
  obtain ⟨y0, y1, y2, y3, y4, y5, y6, y7, y8, y9, y10, y11, y12, y13, -, -⟩ := H.hu.all
  obtain ⟨z0, z1, z2, z3, z4, z5⟩ := H.pb.all
  have x0 : u.cell? ⟨w.heap.size, 0, none⟩ = some (.pointer (some ⟨h, 0, none⟩)) := by have := H.pt; simp [World.cell?, this]
  exact ⟨x0, y0, y1, y2, y3, y4, y5, y6, y7, y8, y9, y10, y11, y12, y13, z0, z1, z2, z3, z4, z5⟩
theorem CF.start {w3 : World} (hH : isHu w h g v0 v1 v2 v3 v4 v5 v6 v7 v8 v9 v10 v11 v12 win) (hgl : g < w.heap.size) (hne : h ≠ g) (h3 : w3 = ((w.alloc (.cells #[.pointer (some ⟨h, 0, none⟩)] 43 (0, 0))).alloc (.cells #[.int .i64 p.W, .int .i64 p.H, .string p.C, .int .i64 p.T, .string p.A, .string p.B] 24 (0, 0))).alloc (.cells #[.bool false, .int .i64 0, .int .i64 0, .int .u8 0, .slice none 0 0] 32 (0, 0))) : CF w h g v0 v1 v2 v3 v4 v5 v6 v7 v8 v9 v10 v11 v12 win p w3 := by
  obtain ⟨w1, hw1⟩ : ∃ w1, w1 = w.alloc (.cells #[.pointer (some ⟨h, 0, none⟩)] 43 (0, 0)) := ⟨_, rfl⟩
  obtain ⟨w2, hw2⟩ : ∃ w2, w2 = w1.alloc (.cells #[.int .i64 p.W, .int .i64 p.H, .string p.C, .int .i64 p.T, .string p.A, .string p.B] 24 (0, 0)) := ⟨_, rfl⟩
  rw [← hw1, ← hw2] at h3
  have s1 : w1.heap.size = w.heap.size + 1 := by rw [hw1]; simp
  have s2 : w2.heap.size = w.heap.size + 1 + 1 := by rw [hw2]; simp [s1]
  have s3 : w3.heap.size = w.heap.size + 1 + 1 + 1 := by rw [h3]; simp [s2]
  have b1 : Below w.heap.size w w1 := by rw [hw1]; exact (Below.refl _ _).alloc (Nat.le_refl _) _
  have b2 : Below w1.heap.size w1 w2 := by rw [hw2]; exact (Below.refl _ _).alloc (Nat.le_refl _) _
  have b3 : Below w2.heap.size w2 w3 := by rw [h3]; exact (Below.refl _ _).alloc (Nat.le_refl _) _
  have hHl := hH.lt
  refine ⟨?_, ?_, ?_, ?_, ?_, by omega, hHl, hgl, hne⟩
  · rw [b3.block _ (by omega), b2.block _ (by omega), hw1]; exact heap_alloc_new w _
  · exact (b3.block _ (by omega)).trans (by rw [hw2, ← s1]; exact heap_alloc_new w1 _)
  · rw [h3, ← s2]; exact heap_alloc_new w2 _
  · exact (b3.block _ (by omega)).trans ((b2.block _ (by omega)).trans ((b1.block _ hHl).trans hH))
  · exact growB ((b1.trans (b2.mono (by omega))).trans (b3.mono (by omega))) _
end
theorem isCb.frozen {w : World} {b : Nat} {s : Bool} {f t : Int} {c : Nat} {kv : Value} (h : isCb w b s f t c kv) (k : Nat) : w.frozen? ⟨b, k, none⟩ = false := frozen_of_row w b k _ _ h
/-- The box of the answer is stored to. -/
theorem set5 {w u : World} {b g N : Nat} {F : Po → Nat → Bool → Prop} {a0 a1 a2 a3 a4 : Value} (hg : w.grownBy u (some g)) (hK : knows u g N F) (hb : w.heap.size ≤ b) (hgl : g < w.heap.size) :
    knows (((((u.setCell ⟨b, 0, none⟩ a0).setCell ⟨b, 1, none⟩ a1).setCell ⟨b, 2, none⟩ a2).setCell ⟨b, 3, none⟩ a3).setCell ⟨b, 4, none⟩ a4) g N F ∧ w.grownBy (((((u.setCell ⟨b, 0, none⟩ a0).setCell ⟨b, 1, none⟩ a1).setCell ⟨b, 2, none⟩ a2).setCell ⟨b, 3, none⟩ a3).setCell ⟨b, 4, none⟩ a4) (some g) ∧ (((((u.setCell ⟨b, 0, none⟩ a0).setCell ⟨b, 1, none⟩ a1).setCell ⟨b, 2, none⟩ a2).setCell ⟨b, 3, none⟩ a3).setCell ⟨b, 4, none⟩ a4).heap.size = u.heap.size ∧ ∀ i, i ≠ b → (((((u.setCell ⟨b, 0, none⟩ a0).setCell ⟨b, 1, none⟩ a1).setCell ⟨b, 2, none⟩ a2).setCell ⟨b, 3, none⟩ a3).setCell ⟨b, 4, none⟩ a4).heap[i]? = u.heap[i]? := by
  have hne : g ≠ b := by omega
  refine ⟨((((hK.set hne).set hne).set hne).set hne).set hne, grow_set (grow_set (grow_set (grow_set (grow_set hg hb) hb) hb) hb) hb, by simp [World.setCell], fun i hi => ?_⟩
  exact (Below.heap_setCell _ _ _ _ hi).trans ((Below.heap_setCell _ _ _ _ hi).trans ((Below.heap_setCell _ _ _ _ hi).trans ((Below.heap_setCell _ _ _ _ hi).trans (Below.heap_setCell _ _ _ _ hi))))
theorem povs_at : ∀ (l : List Po) (i j : Nat) (p : Po), l[i]? = some p → j < 6 → (povs l)[i * 6 + j]? = [Value.int .i64 p.W, .int .i64 p.H, .string p.C, .int .i64 p.T, .string p.A, .string p.B][j]?
  | [], _, _, _, h, _ => by simp at h
  | a :: l, 0, j, v, h, hj => by
    simp only [List.getElem?_cons_zero, Option.some.injEq] at h
    subst h
    unfold povs
    rw [List.flatMap_cons, List.getElem?_append_left (by simp; omega)]
    congr 1
    omega
  | a :: l, i + 1, j, v, h, hj => by
    have ih := povs_at l i j v (by simpa using h) hj
    unfold povs at ih ⊢
    rw [List.flatMap_cons, List.getElem?_append_right (by simp; omega), ← ih]
    congr 1
    simp only [List.length_cons, List.length_nil]
    omega
/-- A row of positions. -/
theorem row_pos {w : World} {base n : Nat} {t : TypeId} {v : Value} {qs : List Po} (hr : w.ownsRow base t 6 v n (povs qs)) (hn : n ≠ 0) : ∃ g cap, v = .slice (some ⟨g, 0, none⟩) n cap ∧ base ≤ g ∧ g < w.heap.size ∧ n ≤ cap ∧ cap ≤ maxLen ∧ ∀ (j : Nat) (q : Po), qs[j]? = some q → j < n ∧ ∀ u : World, u.heap[g]? = w.heap[g]? → u.cell? ⟨g, j * 6, none⟩ = some (.int .i64 q.W) ∧ u.cell? ⟨g, j * 6 + 1, none⟩ = some (.int .i64 q.H) ∧ u.cell? ⟨g, j * 6 + 2, none⟩ = some (.string q.C) ∧ u.cell? ⟨g, j * 6 + 3, none⟩ = some (.int .i64 q.T) ∧ u.cell? ⟨g, j * 6 + 4, none⟩ = some (.string q.A) ∧ u.cell? ⟨g, j * 6 + 5, none⟩ = some (.string q.B) := by
  have hl : qs.length = n := by
    have h1 := hr.1
    rw [povs_len] at h1
    omega
  rcases hr.2 with ⟨_, h0⟩ | ⟨g, cap, cur, e, hb, hg, h1, h2, _⟩
  · omega
  · subst e
    refine ⟨g, cap, rfl, hb, (Array.getElem?_eq_some_iff.1 hg).1, h1, h2, fun j q hq => ?_⟩
    have hj : j < n := by
      have := (List.getElem?_eq_some_iff.1 hq).1
      omega
    refine ⟨hj, fun u hu => ?_⟩
    have key : ∀ k, k < 6 → u.cell? ⟨g, j * 6 + k, none⟩ = [Value.int .i64 q.W, .int .i64 q.H, .string q.C, .int .i64 q.T, .string q.A, .string q.B][k]? := fun k hk => by
      rw [World.cell?_of_block (a := ⟨g, j * 6 + k, none⟩) hu, hr.cellAt (j * 6 + k) (by omega)]
      exact povs_at qs j k q hq hk
    exact ⟨key 0 (by omega), key 1 (by omega), key 2 (by omega), key 3 (by omega), key 4 (by omega), key 5 (by omega)⟩
theorem mvals_len' : ∀ l : List Mv, (mvals l).length = l.length * 3
  | [] => rfl
  | p :: l => by
    have := mvals_len' l
    unfold mvals at this ⊢
    rw [List.flatMap_cons, List.length_append, this, List.length_cons]
    simp only [List.length_cons, List.length_nil]
    omega
theorem mvals_at' : ∀ (l : List Mv) (i j : Nat) (m : Mv), l[i]? = some m → j < 3 → (mvals l)[i * 3 + j]? = [Value.int .i64 m.f, .int .i64 (m.t : Int), .int .u8 (m.c : Int)][j]?
  | [], _, _, _, h, _ => by simp at h
  | a :: l, 0, j, v, h, hj => by
    simp only [List.getElem?_cons_zero, Option.some.injEq] at h
    subst h
    unfold mvals
    rw [List.flatMap_cons, List.getElem?_append_left (by simp; omega)]
    congr 1
    omega
  | a :: l, i + 1, j, v, h, hj => by
    have ih := mvals_at' l i j v (by simpa using h) hj
    unfold mvals at ih ⊢
    rw [List.flatMap_cons, List.getElem?_append_right (by simp; omega), ← ih]
    congr 1
    simp only [List.length_cons, List.length_nil]
    omega
/-- A row of moves. -/
theorem row_mvs {w : World} {base n : Nat} {t : TypeId} {v : Value} {L : List Mv} (hr : w.ownsRow base t 3 v n (mvals L)) (hn : n ≠ 0) : ∃ g cap, v = .slice (some ⟨g, 0, none⟩) n cap ∧ base ≤ g ∧ g < w.heap.size ∧ n ≤ cap ∧ cap ≤ maxLen ∧ ∀ (j : Nat) (m : Mv), L[j]? = some m → j < n ∧ ∀ u : World, u.heap[g]? = w.heap[g]? → u.cell? ⟨g, j * 3, none⟩ = some (.int .i64 m.f) ∧ u.cell? ⟨g, j * 3 + 1, none⟩ = some (.int .i64 (m.t : Int)) ∧ u.cell? ⟨g, j * 3 + 2, none⟩ = some (.int .u8 (m.c : Int)) := by
  have hl : L.length = n := by
    have h1 := hr.1
    rw [mvals_len'] at h1
    omega
  rcases hr.2 with ⟨_, h0⟩ | ⟨g, cap, cur, e, hb, hg, h1, h2, _⟩
  · omega
  · subst e
    refine ⟨g, cap, rfl, hb, (Array.getElem?_eq_some_iff.1 hg).1, h1, h2, fun j m hm => ?_⟩
    have hj : j < n := by
      have := (List.getElem?_eq_some_iff.1 hm).1
      omega
    refine ⟨hj, fun u hu => ?_⟩
    have key : ∀ k, k < 3 → u.cell? ⟨g, j * 3 + k, none⟩ = [Value.int .i64 m.f, .int .i64 (m.t : Int), .int .u8 (m.c : Int)][k]? := fun k hk => by
      rw [World.cell?_of_block (a := ⟨g, j * 3 + k, none⟩) hu, hr.cellAt (j * 3 + k) (by omega)]
      exact mvals_at' L j k m hm hk
    exact ⟨key 0 (by omega), key 1 (by omega), key 2 (by omega)⟩


set_option maxHeartbeats 4000000 in
set_option maxRecDepth 100000 in
theorem cert_none (v0 v1 v2 v3 v4 v5 v6 v7 v8 v9 v10 v11 v12 : Value) (win : Int) (h g d most least : Nat) (p : Po) (L : List Mv) (beh : Mv → Po) (F : Po → Nat → Bool → Prop) (sh : Nat → Ct → Bool) (w00 w : World) (hL0 : L = [])
    (hw : Below w00.heap.size w00 w) (hgb : w00.heap.size ≤ g) (hne : h ≠ g) (hH : isHu w h g v0 v1 v2 v3 v4 v5 v6 v7 v8 v9 v10 v11 v12 win) (hK : knows w g 262144 F)
    (hX : ∀ u, Below w00.heap.size w00 u → Calls Tryz.prog 28 #[.agg #[v0, v1, v2, v3, v4, v5, v6, v7, v8, v9, v10, v11, v12], .agg #[.int .i64 p.W, .int .i64 p.H, .string p.C, .int .i64 p.T, .string p.A, .string p.B]] u fun e w' => ∃ x y, e = .returned (.tuple #[x, y, .int .i64 0]) ∧ w'.ownsRow u.heap.size 29 3 x L.length (mvals L) ∧ w'.ownsRow u.heap.size 24 6 y L.length (povs (L.map beh)) ∧ Below u.heap.size u w')
    (hsh : ∀ n, least ≤ n → sh n (.mk false 0 0 0 []) = true) :
    Calls Tryz.prog 13 #[.pointer (some ⟨h, 0, none⟩), .agg #[.int .i64 p.W, .int .i64 p.H, .string p.C, .int .i64 p.T, .string p.A, .string p.B], .int .i64 (most : Int)] w (CeP sh least g d F w) := by
  subst hL0
  rw [List.length_nil] at hX
  have hgl := hK.lt
  obtain ⟨w1, hw1⟩ : ∃ w1, w1 = w.alloc (.cells #[.pointer (some ⟨h, 0, none⟩)] 43 (0, 0)) := ⟨_, rfl⟩
  obtain ⟨w2, hw2⟩ : ∃ w2, w2 = w1.alloc (.cells #[.int .i64 p.W, .int .i64 p.H, .string p.C, .int .i64 p.T, .string p.A, .string p.B] 24 (0, 0)) := ⟨_, rfl⟩
  obtain ⟨w3, hw3⟩ : ∃ w3, w3 = w2.alloc (.cells #[.bool false, .int .i64 0, .int .i64 0, .int .u8 0, .slice none 0 0] 32 (0, 0)) := ⟨_, rfl⟩
  have hcf : CF w h g v0 v1 v2 v3 v4 v5 v6 v7 v8 v9 v10 v11 v12 win p w3 := CF.start hH hgl hne (by rw [hw3, hw2, hw1])
  have hk3 : knows w3 g 262144 F := hK.of_block (by rw [hw3, Below.heap_alloc _ _ _ (by rw [hw2, hw1]; simp; omega), hw2, Below.heap_alloc _ _ _ (by rw [hw1]; simp; omega), hw1, Below.heap_alloc _ _ _ hgl])
  have HW1 := hide hw1
  have HW2 := hide hw2
  have HW3 := hide hw3
  have HS0 := hide (hcf.step (growD w3 _)).cells
  have HCF := hide hcf
  have HNX := hide (hX w3.drew (below_grown hw (hcf.step (growD w3 _)).gr hgb))
  have HK3 := hide hk3
  have HST : Hid (∀ u, Below w3.heap.size w3.drew u → CF w h g v0 v1 v2 v3 v4 v5 v6 v7 v8 v9 v10 v11 v12 win p u ∧ knows u g 262144 F) := hide (fun u hu => by
    have hgl3 : g < w3.heap.size := by have := hcf.sz; omega
    exact ⟨hcf.step (growT (growD w3 _) (growB hu _)), hk3.of_block (hu.block g hgl3)⟩)
  clear hw1 hw2 hw3 hcf hk3 hX hH hK
  have HSH := hide hsh
  clear hsh
  go_enter Tryz.func13, Tryz.ntmps13
  go_upto_region 1 with fail
  rw [← unhide HW1, ← unhide HW2, ← unhide HW3]
  clear HW1 HW2 HW3
  go_region_held3 (fun u => u.cell? ⟨w.heap.size, 0, none⟩ = some (.pointer (some ⟨h, 0, none⟩)) ∧ u.cell? ⟨h, 0, none⟩ = some v0 ∧ u.cell? ⟨h, 1, none⟩ = some v1 ∧ u.cell? ⟨h, 2, none⟩ = some v2 ∧ u.cell? ⟨h, 3, none⟩ = some v3 ∧ u.cell? ⟨h, 4, none⟩ = some v4 ∧ u.cell? ⟨h, 5, none⟩ = some v5 ∧ u.cell? ⟨h, 6, none⟩ = some v6 ∧ u.cell? ⟨h, 7, none⟩ = some v7 ∧ u.cell? ⟨h, 8, none⟩ = some v8 ∧ u.cell? ⟨h, 9, none⟩ = some v9 ∧ u.cell? ⟨h, 10, none⟩ = some v10 ∧ u.cell? ⟨h, 11, none⟩ = some v11 ∧ u.cell? ⟨h, 12, none⟩ = some v12 ∧ u.cell? ⟨h, 13, none⟩ = some (.int .i64 win) ∧ u.cell? ⟨w.heap.size + 1, 0, none⟩ = some (.int .i64 p.W) ∧ u.cell? ⟨w.heap.size + 1, 1, none⟩ = some (.int .i64 p.H) ∧ u.cell? ⟨w.heap.size + 1, 2, none⟩ = some (.string p.C) ∧ u.cell? ⟨w.heap.size + 1, 3, none⟩ = some (.int .i64 p.T) ∧ u.cell? ⟨w.heap.size + 1, 4, none⟩ = some (.string p.A) ∧ u.cell? ⟨w.heap.size + 1, 5, none⟩ = some (.string p.B))
    (first
      | with_reducible exact unhide HS0
      | with_reducible exact j4)
    (first | (go_at_call 28; (with_reducible refine (unhide HNX).mono ?_); rintro e w4 ⟨xv, yv, rfl, hxo, hyo, hb4⟩; obtain ⟨hc4, hk4⟩ := unhide HST w4 hb4; obtain ⟨ao, ac, rfl⟩ := row_len hxo; obtain ⟨bo, bc, rfl⟩ := row_len hyo; have j4 := hc4.cells; have HC4 := hide hc4; have HK4 := hide hk4; have HXO := hide hxo; have HYO := hide hyo; have HB4 := hide hb4; clear hc4 hk4 hxo hyo hb4))
  all_goals
    obtain ⟨c0, c1, c2, c3, c4⟩ := (unhide HC4).cb.all
    have z0 := (unhide HC4).cb.frozen 0
    have z1 := (unhide HC4).cb.frozen 1
    have z2 := (unhide HC4).cb.frozen 2
    have z3 := (unhide HC4).cb.frozen 3
    have z4 := (unhide HC4).cb.frozen 4
    clear j4
    go_wp2
    refine bodyPost_ret (v := .agg #[.bool false, .int .i64 0, .int .i64 0, .int .u8 0, .slice none 0 0]) (by simp [results, Tryz.results13, go_sem, c0, c1, c2, c3, c4]) rfl ?_
    obtain ⟨r1, r2, r3, r4⟩ := set5 (a0 := .bool false) (a1 := .int .i64 0) (a2 := .int .i64 0) (a3 := .int .u8 0) (a4 := .slice none 0 0) (unhide HC4).gr (unhide HK4) (b := w.heap.size + 1 + 1) (by omega) (unhide HC4).gl
    exact ⟨.mk false 0 0 0 [], none, 0, rfl, by show 0 < 256; omega, isCo.nil _ _ _ _, unhide HSH, r1, r2⟩
end Go.Proofs.YtlogengkhlmcbaaGreatDoor
