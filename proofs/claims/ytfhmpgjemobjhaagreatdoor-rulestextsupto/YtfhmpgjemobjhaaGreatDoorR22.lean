/-
  package rules, walked: Read.
-/
import Derived.Test.YtfhmpgjemobjhaaGreatDoorR21
import Derived.Test.YtfhmpgjemobjhaaGreatDoorJ14
namespace Go.Proofs.YtfhmpgjemobjhaaGreatDoor
open Go.RowKit
attribute [local go_sem ↓] Go.wp_at_zero Go.wp_at_succ

/-- Rules as a value. -/
def Rl.val (x : Rl) (v : Value) : Value := .agg #[.int .i64 (x.W : Int), .int .i64 (x.H : Int), .string ⟨x.C.toArray⟩, .int .i64 x.T, .string ⟨x.A.toArray⟩, .string ⟨x.B.toArray⟩, v, .bool x.dr, .int .u8 (x.lo.toNat : Int), .int .i64 (x.li : Int), .int .u8 (x.re.toNat : Int), .bool x.st, .int .i64 (x.pl : Int)]
def zeroRules : Value := .agg #[.int .i64 0, .int .i64 0, .string ⟨#[]⟩, .int .i64 0, .string ⟨#[]⟩, .string ⟨#[]⟩, .slice none 0 0, .bool false, .int .u8 0, .int .i64 0, .int .u8 0, .bool false, .int .i64 0]
/-- What Read leaves. -/
structure ReadEnd (s : ByteArray) (w : World) (e : Ending) (w' : World) : Prop where
  ex : (∃ x ao cap, readR s.data.toList = (some x, 0, 0) ∧ isPcs w' ao cap x.ps ∧ x.C.length ≤ 64 ∧ x.A.length ≤ 8 ∧ x.B.length ≤ 8 ∧ e = .returned (.tuple #[x.val (.slice ao x.ps.length cap), faultV 0 0])) ∨
    (∃ c n, c ≠ 0 ∧ readR s.data.toList = (none, c, n) ∧ e = .returned (.tuple #[zeroRules, faultV c n]))
  low : Below w.heap.size w w'
theorem linesF_end (n last : Nat) (x : Rl) (k : Nat) : linesF n last x [] k = (some (last, x), k) := by
  cases n with
  | zero => rfl
  | succ n => rw [linesF, if_pos rfl]
theorem linesF_cut (n last : Nat) (x : Rl) (s : List UInt8) (k : Nat) (hs : s ≠ []) (hc : (Lib.cut s [10]).2.2 = false) : linesF (n + 1) last x s k = (none, k) := by
  rw [linesF, if_neg hs, if_pos hc]
theorem linesF_no (n last : Nat) (x : Rl) (s : List UInt8) (k : Nat) (hs : s ≠ []) (hc : (Lib.cut s [10]).2.2 = true) (h : lineF last x (Lib.cut s [10]).1 = none) : linesF (n + 1) last x s k = (none, k) := by
  rw [linesF, if_neg hs, if_neg (by rw [hc]; simp), h]
theorem linesF_go (n last : Nat) (x y : Rl) (s : List UInt8) (k : Nat) (hs : s ≠ []) (hc : (Lib.cut s [10]).2.2 = true) (h : lineF last x (Lib.cut s [10]).1 = some y) : linesF (n + 1) last x s k = linesF n (lineOf (Lib.cut (Lib.cut s [10]).1 [32]).1) y (Lib.cut s [10]).2.1 (k + 1) := by
  rw [linesF, if_neg hs, if_neg (by rw [hc]; simp), h]
theorem readR_none (s : List UInt8) (k : Nat) (h : linesF s.length 0 Rl.none s 0 = (none, k)) : readR s = (none, 3, (k : Int)) := by
  unfold readR; rw [h]
theorem readR_last (s : List UInt8) (k last : Nat) (x : Rl) (h : linesF s.length 0 Rl.none s 0 = (some (last, x), k)) (hl : last ≠ 8) : readR s = (none, 3, (k : Int)) := by
  unfold readR; rw [h]; simp only [hl, if_false]
theorem readR_bad (s : List UInt8) (k : Nat) (x : Rl) (h : linesF s.length 0 Rl.none s 0 = (some (8, x), k)) (hl : x.ok = false) : readR s = (none, 1, -1) := by
  unfold readR; rw [h]; simp [hl]
theorem readR_good (s : List UInt8) (k : Nat) (x : Rl) (h : linesF s.length 0 Rl.none s 0 = (some (8, x), k)) (hl : x.ok = true) : readR s = (some x, 0, 0) := by
  unfold readR; rw [h]; simp [hl]
theorem isRu.put {w : World} {g : Nat} {v0 v1 v2 v3 v4 v5 v6 v7 v8 v9 v10 v11 v12 : Value} (h : isRu w g v0 v1 v2 v3 v4 v5 v6 v7 v8 v9 v10 v11 v12) (u0 u1 u2 u3 u4 u5 u6 u7 u8 u9 u10 u11 u12 : Value) :
    isRu (World.setCell (World.setCell (World.setCell (World.setCell (World.setCell (World.setCell (World.setCell (World.setCell (World.setCell (World.setCell (World.setCell (World.setCell (World.setCell w ⟨g, 0, none⟩ u0) ⟨g, 1, none⟩ u1) ⟨g, 2, none⟩ u2) ⟨g, 3, none⟩ u3) ⟨g, 4, none⟩ u4) ⟨g, 5, none⟩ u5) ⟨g, 6, none⟩ u6) ⟨g, 7, none⟩ u7) ⟨g, 8, none⟩ u8) ⟨g, 9, none⟩ u9) ⟨g, 10, none⟩ u10) ⟨g, 11, none⟩ u11) ⟨g, 12, none⟩ u12) g u0 u1 u2 u3 u4 u5 u6 u7 u8 u9 u10 u11 u12 := by
  unfold isRu at h ⊢
  simp [World.setCell, Array.getElem?_modify, h]
set_option maxHeartbeats 1000000 in
/-- Both boxes of the results, filled; below them, and beyond, all as it was. -/
theorem boxes_put {w0 w : World} {v0 v1 v2 v3 v4 v5 v6 v7 v8 v9 v10 v11 v12 x0 x1 : Value} (g : Nat) (h : isRu w g v0 v1 v2 v3 v4 v5 v6 v7 v8 v9 v10 v11 v12) (hf : isFx w (g + 1) x0 x1) (hb : Below g w0 w) (u0 u1 u2 u3 u4 u5 u6 u7 u8 u9 u10 u11 u12 y0 y1 : Value) :
    isRu (World.setCell (World.setCell (World.setCell (World.setCell (World.setCell (World.setCell (World.setCell (World.setCell (World.setCell (World.setCell (World.setCell (World.setCell (World.setCell (World.setCell (World.setCell w ⟨g, 0, none⟩ u0) ⟨g, 1, none⟩ u1) ⟨g, 2, none⟩ u2) ⟨g, 3, none⟩ u3) ⟨g, 4, none⟩ u4) ⟨g, 5, none⟩ u5) ⟨g, 6, none⟩ u6) ⟨g, 7, none⟩ u7) ⟨g, 8, none⟩ u8) ⟨g, 9, none⟩ u9) ⟨g, 10, none⟩ u10) ⟨g, 11, none⟩ u11) ⟨g, 12, none⟩ u12) ⟨g + 1, 0, none⟩ y0) ⟨g + 1, 1, none⟩ y1) g u0 u1 u2 u3 u4 u5 u6 u7 u8 u9 u10 u11 u12 ∧ isFx (World.setCell (World.setCell (World.setCell (World.setCell (World.setCell (World.setCell (World.setCell (World.setCell (World.setCell (World.setCell (World.setCell (World.setCell (World.setCell (World.setCell (World.setCell w ⟨g, 0, none⟩ u0) ⟨g, 1, none⟩ u1) ⟨g, 2, none⟩ u2) ⟨g, 3, none⟩ u3) ⟨g, 4, none⟩ u4) ⟨g, 5, none⟩ u5) ⟨g, 6, none⟩ u6) ⟨g, 7, none⟩ u7) ⟨g, 8, none⟩ u8) ⟨g, 9, none⟩ u9) ⟨g, 10, none⟩ u10) ⟨g, 11, none⟩ u11) ⟨g, 12, none⟩ u12) ⟨g + 1, 0, none⟩ y0) ⟨g + 1, 1, none⟩ y1) (g + 1) y0 y1 ∧ Below g w0 (World.setCell (World.setCell (World.setCell (World.setCell (World.setCell (World.setCell (World.setCell (World.setCell (World.setCell (World.setCell (World.setCell (World.setCell (World.setCell (World.setCell (World.setCell w ⟨g, 0, none⟩ u0) ⟨g, 1, none⟩ u1) ⟨g, 2, none⟩ u2) ⟨g, 3, none⟩ u3) ⟨g, 4, none⟩ u4) ⟨g, 5, none⟩ u5) ⟨g, 6, none⟩ u6) ⟨g, 7, none⟩ u7) ⟨g, 8, none⟩ u8) ⟨g, 9, none⟩ u9) ⟨g, 10, none⟩ u10) ⟨g, 11, none⟩ u11) ⟨g, 12, none⟩ u12) ⟨g + 1, 0, none⟩ y0) ⟨g + 1, 1, none⟩ y1) ∧ (∀ k, g + 2 ≤ k → (World.setCell (World.setCell (World.setCell (World.setCell (World.setCell (World.setCell (World.setCell (World.setCell (World.setCell (World.setCell (World.setCell (World.setCell (World.setCell (World.setCell (World.setCell w ⟨g, 0, none⟩ u0) ⟨g, 1, none⟩ u1) ⟨g, 2, none⟩ u2) ⟨g, 3, none⟩ u3) ⟨g, 4, none⟩ u4) ⟨g, 5, none⟩ u5) ⟨g, 6, none⟩ u6) ⟨g, 7, none⟩ u7) ⟨g, 8, none⟩ u8) ⟨g, 9, none⟩ u9) ⟨g, 10, none⟩ u10) ⟨g, 11, none⟩ u11) ⟨g, 12, none⟩ u12) ⟨g + 1, 0, none⟩ y0) ⟨g + 1, 1, none⟩ y1).heap[k]? = w.heap[k]?) := by
  have h1 := h.put u0 u1 u2 u3 u4 u5 u6 u7 u8 u9 u10 u11 u12
  have h2 : isFx (World.setCell (World.setCell (World.setCell (World.setCell (World.setCell (World.setCell (World.setCell (World.setCell (World.setCell (World.setCell (World.setCell (World.setCell (World.setCell w ⟨g, 0, none⟩ u0) ⟨g, 1, none⟩ u1) ⟨g, 2, none⟩ u2) ⟨g, 3, none⟩ u3) ⟨g, 4, none⟩ u4) ⟨g, 5, none⟩ u5) ⟨g, 6, none⟩ u6) ⟨g, 7, none⟩ u7) ⟨g, 8, none⟩ u8) ⟨g, 9, none⟩ u9) ⟨g, 10, none⟩ u10) ⟨g, 11, none⟩ u11) ⟨g, 12, none⟩ u12) (g + 1) x0 x1 := by
    unfold isFx at hf ⊢
    rw [Below.heap_setCell _ _ _ _ (by simp only; omega), Below.heap_setCell _ _ _ _ (by simp only; omega), Below.heap_setCell _ _ _ _ (by simp only; omega), Below.heap_setCell _ _ _ _ (by simp only; omega), Below.heap_setCell _ _ _ _ (by simp only; omega), Below.heap_setCell _ _ _ _ (by simp only; omega), Below.heap_setCell _ _ _ _ (by simp only; omega), Below.heap_setCell _ _ _ _ (by simp only; omega), Below.heap_setCell _ _ _ _ (by simp only; omega), Below.heap_setCell _ _ _ _ (by simp only; omega), Below.heap_setCell _ _ _ _ (by simp only; omega), Below.heap_setCell _ _ _ _ (by simp only; omega), Below.heap_setCell _ _ _ _ (by simp only; omega)]
    exact hf
  have h3 : Below g w0 (World.setCell (World.setCell (World.setCell (World.setCell (World.setCell (World.setCell (World.setCell (World.setCell (World.setCell (World.setCell (World.setCell (World.setCell (World.setCell w ⟨g, 0, none⟩ u0) ⟨g, 1, none⟩ u1) ⟨g, 2, none⟩ u2) ⟨g, 3, none⟩ u3) ⟨g, 4, none⟩ u4) ⟨g, 5, none⟩ u5) ⟨g, 6, none⟩ u6) ⟨g, 7, none⟩ u7) ⟨g, 8, none⟩ u8) ⟨g, 9, none⟩ u9) ⟨g, 10, none⟩ u10) ⟨g, 11, none⟩ u11) ⟨g, 12, none⟩ u12) := by
    exact (Below.setCell (p := ⟨g, 12, none⟩) (Below.setCell (p := ⟨g, 11, none⟩) (Below.setCell (p := ⟨g, 10, none⟩) (Below.setCell (p := ⟨g, 9, none⟩) (Below.setCell (p := ⟨g, 8, none⟩) (Below.setCell (p := ⟨g, 7, none⟩) (Below.setCell (p := ⟨g, 6, none⟩) (Below.setCell (p := ⟨g, 5, none⟩) (Below.setCell (p := ⟨g, 4, none⟩) (Below.setCell (p := ⟨g, 3, none⟩) (Below.setCell (p := ⟨g, 2, none⟩) (Below.setCell (p := ⟨g, 1, none⟩) (Below.setCell (p := ⟨g, 0, none⟩) hb (Nat.le_refl _) _) (Nat.le_refl _) _) (Nat.le_refl _) _) (Nat.le_refl _) _) (Nat.le_refl _) _) (Nat.le_refl _) _) (Nat.le_refl _) _) (Nat.le_refl _) _) (Nat.le_refl _) _) (Nat.le_refl _) _) (Nat.le_refl _) _) (Nat.le_refl _) _) (Nat.le_refl _) _)
  have h4 : ∀ k, g + 2 ≤ k → (World.setCell (World.setCell (World.setCell (World.setCell (World.setCell (World.setCell (World.setCell (World.setCell (World.setCell (World.setCell (World.setCell (World.setCell (World.setCell w ⟨g, 0, none⟩ u0) ⟨g, 1, none⟩ u1) ⟨g, 2, none⟩ u2) ⟨g, 3, none⟩ u3) ⟨g, 4, none⟩ u4) ⟨g, 5, none⟩ u5) ⟨g, 6, none⟩ u6) ⟨g, 7, none⟩ u7) ⟨g, 8, none⟩ u8) ⟨g, 9, none⟩ u9) ⟨g, 10, none⟩ u10) ⟨g, 11, none⟩ u11) ⟨g, 12, none⟩ u12).heap[k]? = w.heap[k]? := by
    intro k hk
    rw [Below.heap_setCell _ _ _ _ (by simp only; omega), Below.heap_setCell _ _ _ _ (by simp only; omega), Below.heap_setCell _ _ _ _ (by simp only; omega), Below.heap_setCell _ _ _ _ (by simp only; omega), Below.heap_setCell _ _ _ _ (by simp only; omega), Below.heap_setCell _ _ _ _ (by simp only; omega), Below.heap_setCell _ _ _ _ (by simp only; omega), Below.heap_setCell _ _ _ _ (by simp only; omega), Below.heap_setCell _ _ _ _ (by simp only; omega), Below.heap_setCell _ _ _ _ (by simp only; omega), Below.heap_setCell _ _ _ _ (by simp only; omega), Below.heap_setCell _ _ _ _ (by simp only; omega), Below.heap_setCell _ _ _ _ (by simp only; omega)]
  generalize (World.setCell (World.setCell (World.setCell (World.setCell (World.setCell (World.setCell (World.setCell (World.setCell (World.setCell (World.setCell (World.setCell (World.setCell (World.setCell w ⟨g, 0, none⟩ u0) ⟨g, 1, none⟩ u1) ⟨g, 2, none⟩ u2) ⟨g, 3, none⟩ u3) ⟨g, 4, none⟩ u4) ⟨g, 5, none⟩ u5) ⟨g, 6, none⟩ u6) ⟨g, 7, none⟩ u7) ⟨g, 8, none⟩ u8) ⟨g, 9, none⟩ u9) ⟨g, 10, none⟩ u10) ⟨g, 11, none⟩ u11) ⟨g, 12, none⟩ u12) = wc at *
  refine ⟨?_, ?_, ?_, ?_⟩
  · unfold isRu at h1 ⊢
    rw [Below.heap_setCell _ _ _ _ (by simp only; omega), Below.heap_setCell _ _ _ _ (by simp only; omega)]
    exact h1
  · unfold isFx at h2 ⊢
    simp [World.setCell, Array.getElem?_modify, h2]
  · exact (h3.setCell (p := ⟨g + 1, 0, none⟩) (by simp only; omega) _).setCell (p := ⟨g + 1, 1, none⟩) (by simp only; omega) _
  · intro k hk
    rw [Below.heap_setCell _ _ _ _ (by simp only; omega), Below.heap_setCell _ _ _ _ (by simp only; omega), h4 k hk]
def sizeV (v : Value) : Nat := match v with | .string s => s.size | _ => 0


set_option maxHeartbeats 2000000 in
set_option maxRecDepth 100000 in
theorem rRead_any (s : ByteArray) (m : Int) (w : World) (hs : s.size < 2000000) (hm : w.cell? ⟨0, 0, none⟩ = some (.int .i64 m)) (h0 : 0 < w.heap.size) :
    Calls Tryz.prog 5 #[.string s] w fun e w' => ReadEnd s w e w' := by
  obtain ⟨P, hP⟩ : ∃ P, P = linesF s.data.toList.length 0 Rl.none s.data.toList 0 := ⟨_, rfl⟩
  have HP := hide hP
  have HM := hide hm
  clear hP hm
  go_enter Tryz.func5, Tryz.ntmps5
  go_wp2
  have hru0 := isRu.fresh (w := w) (v0 := .int .i64 0) (v1 := .int .i64 0) (v2 := .string ⟨#[]⟩) (v3 := .int .i64 0) (v4 := .string ⟨#[]⟩) (v5 := .string ⟨#[]⟩) (v6 := .slice none 0 0) (v7 := .bool false) (v8 := .int .u8 0) (v9 := .int .i64 0) (v10 := .int .u8 0) (v11 := .bool false) (v12 := .int .i64 0) (Below.refl _ _)
  have hb0 : Below w.heap.size w (w.alloc (.cells #[.int .i64 0, .int .i64 0, .string ⟨#[]⟩, .int .i64 0, .string ⟨#[]⟩, .string ⟨#[]⟩, .slice none 0 0, .bool false, .int .u8 0, .int .i64 0, .int .u8 0, .bool false, .int .i64 0] 27 (0, 0))) := (Below.refl _ w).alloc (Nat.le_refl _) _
  have hz0 : (w.alloc (.cells #[.int .i64 0, .int .i64 0, .string ⟨#[]⟩, .int .i64 0, .string ⟨#[]⟩, .string ⟨#[]⟩, .slice none 0 0, .bool false, .int .u8 0, .int .i64 0, .int .u8 0, .bool false, .int .i64 0] 27 (0, 0))).heap.size = w.heap.size + 1 := by simp
  generalize w.alloc (.cells #[.int .i64 0, .int .i64 0, .string ⟨#[]⟩, .int .i64 0, .string ⟨#[]⟩, .string ⟨#[]⟩, .slice none 0 0, .bool false, .int .u8 0, .int .i64 0, .int .u8 0, .bool false, .int .i64 0] 27 (0, 0)) = w1 at *
  have hfx1 : isFx (w1.alloc (.cells #[.int .i64 0, .int .i64 0] 32 (0, 0))) (w.heap.size + 1) (.int .i64 0) (.int .i64 0) := by
    have := heap_alloc_new w1 (.cells #[.int .i64 0, .int .i64 0] 32 (0, 0))
    rw [hz0] at this
    exact this
  have hru1 := hru0.below (Below.alloc (Below.refl w1.heap.size w1) (Nat.le_refl _) (.cells #[.int .i64 0, .int .i64 0] 32 (0, 0))) (by omega)
  have hb1 := hb0.alloc (by omega) (.cells #[.int .i64 0, .int .i64 0] 32 (0, 0))
  have hz1 : (w1.alloc (.cells #[.int .i64 0, .int .i64 0] 32 (0, 0))).heap.size = w.heap.size + 1 + 1 := by simp [hz0]
  generalize w1.alloc (.cells #[.int .i64 0, .int .i64 0] 32 (0, 0)) = w2 at *
  have hba : Below w2.heap.size w2 (w2.alloc (.cells #[.int .i64 0, .int .i64 0, .string ⟨#[]⟩, .int .i64 0, .string ⟨#[]⟩, .string ⟨#[]⟩, .slice none 0 0, .bool false, .int .u8 0, .int .i64 0, .int .u8 0, .bool false, .int .i64 0, .int .i64 0] 54 (0, 0))) := (Below.refl _ w2).alloc (Nat.le_refl _) _
  have hrs : RS (w2.alloc (.cells #[.int .i64 0, .int .i64 0, .string ⟨#[]⟩, .int .i64 0, .string ⟨#[]⟩, .string ⟨#[]⟩, .slice none 0 0, .bool false, .int .u8 0, .int .i64 0, .int .u8 0, .bool false, .int .i64 0, .int .i64 0] 54 (0, 0))) (w.heap.size + 1 + 1) Rl.none 0 := by
    have := heap_alloc_new w2 (.cells #[.int .i64 0, .int .i64 0, .string ⟨#[]⟩, .int .i64 0, .string ⟨#[]⟩, .string ⟨#[]⟩, .slice none 0 0, .bool false, .int .u8 0, .int .i64 0, .int .u8 0, .bool false, .int .i64 0, .int .i64 0] 54 (0, 0))
    rw [hz1] at this
    exact ⟨⟨_, [], this, isPk.nil _ _⟩, by decide⟩
  have hru := hru1.below hba (by omega)
  have hfx : isFx (w2.alloc (.cells #[.int .i64 0, .int .i64 0, .string ⟨#[]⟩, .int .i64 0, .string ⟨#[]⟩, .string ⟨#[]⟩, .slice none 0 0, .bool false, .int .u8 0, .int .i64 0, .int .u8 0, .bool false, .int .i64 0, .int .i64 0] 54 (0, 0))) (w.heap.size + 1) (.int .i64 0) (.int .i64 0) := by
    unfold isFx at hfx1 ⊢; rw [hba.block _ (by omega)]; exact hfx1
  have hbl := hb1.trans (hba.mono (by omega))
  clear hru0 hb0 hz0 hfx1 hru1 hb1 hba hz1
  generalize w2.alloc (.cells #[.int .i64 0, .int .i64 0, .string ⟨#[]⟩, .int .i64 0, .string ⟨#[]⟩, .string ⟨#[]⟩, .slice none 0 0, .bool false, .int .u8 0, .int .i64 0, .int .u8 0, .bool false, .int .i64 0, .int .i64 0] 54 (0, 0)) = w3 at *
  go_loopw [0, 5] (fun sv lv wr => ∃ (t : ByteArray) (k n last : Nat) (x : Rl), sv = .string t ∧ lv = .int .i64 (k : Int) ∧ t.size ≤ n ∧ k + t.size ≤ s.size ∧ RS wr (w.heap.size + 1 + 1) x last ∧ isRu wr w.heap.size (.int .i64 0) (.int .i64 0) (.string ⟨#[]⟩) (.int .i64 0) (.string ⟨#[]⟩) (.string ⟨#[]⟩) (.slice none 0 0) (.bool false) (.int .u8 0) (.int .i64 0) (.int .u8 0) (.bool false) (.int .i64 0) ∧ isFx wr (w.heap.size + 1) (.int .i64 0) (.int .i64 0) ∧ Hid (P = linesF n last x t.data.toList k) ∧ Below w.heap.size w wr) (fun sv _ _ => sizeV sv)
  case atStart => exact ⟨s, 0, s.data.toList.length, 0, Rl.none, rfl, rfl, by rw [len_data]; omega, by omega, hrs, hru, hfx, HP, hbl⟩
  case round =>
    obtain ⟨t, k, n, last, x, rfl, rfl, hn, hk, hrs, hru, hfx, HL, hbl⟩ := hrel
    have hmr : wr.cell? ⟨0, 0, none⟩ = some (.int .i64 m) := by rw [hbl.cell (p := ⟨0, 0, none⟩) (by simp only; omega)]; exact unhide HM
    have hglt := hrs.lt
    cases hte : t.toList.isEmpty with
    | false =>
      have hne : t.data.toList ≠ [] := by
        intro h
        rw [Lib.toList_data, h] at hte
        cases hte
      have hpos : 0 < t.size := by
        rw [← len_data]
        exact List.length_pos_iff.2 hne
      obtain ⟨n', rfl⟩ : ∃ n', n = n' + 1 := ⟨n - 1, by omega⟩
      have HNE := hide hne
      clear hne
      go_wp2_with fail
      refine (Cut_any t ⟨#[10]⟩ m wr (by omega) hmr).mono ?_
      rintro e wr1 ⟨a, b, f, rfl, hc1, ha, hb, hl1, hz1⟩
      have HC : Hid (Lib.cut t.data.toList [10] = (a.data.toList, b.data.toList, f)) := hide hc1
      have hrs1 := hrs.below hl1
      have hru1 := hru.below hl1 (by omega)
      have hfx1 : isFx wr1 (w.heap.size + 1) (.int .i64 0) (.int .i64 0) := by
        unfold isFx at hfx ⊢; rw [hl1.block _ (by omega)]; exact hfx
      have hbl1 : Below w.heap.size w wr1 := hbl.trans (hl1.mono (by omega))
      have hm1 : wr1.cell? ⟨0, 0, none⟩ = some (.int .i64 m) := by rw [hl1.cell (p := ⟨0, 0, none⟩) (by simp only; omega)]; exact hmr
      clear hc1 hrs hru hfx hbl hl1 hz1 hmr
      cases f with
      | false =>
        have hRR : readR s.data.toList = (none, 3, (k : Int)) := by
          refine readR_none _ _ ?_
          rw [← unhide HP, unhide HL]
          exact linesF_cut _ _ _ _ _ (unhide HNE) (by rw [unhide HC])
        have HRR := hide hRR
        clear hRR HL HP HC
        obtain ⟨wz, hwz⟩ : ∃ wz, wz = wr1 := ⟨_, rfl⟩
        subst hwz
        have hruz := hru1
        have hfxz := hfx1
        have hblz := hbl1
        obtain ⟨d0, d1, d2, d3, d4, d5, d6, d7, d8, d9, d10, d11, d12⟩ := hruz.cells
        have z0 := frozen_of_row wz w.heap.size 0 _ _ hruz
        have z1 := frozen_of_row wz w.heap.size 1 _ _ hruz
        have z2 := frozen_of_row wz w.heap.size 2 _ _ hruz
        have z3 := frozen_of_row wz w.heap.size 3 _ _ hruz
        have z4 := frozen_of_row wz w.heap.size 4 _ _ hruz
        have z5 := frozen_of_row wz w.heap.size 5 _ _ hruz
        have z6 := frozen_of_row wz w.heap.size 6 _ _ hruz
        have z7 := frozen_of_row wz w.heap.size 7 _ _ hruz
        have z8 := frozen_of_row wz w.heap.size 8 _ _ hruz
        have z9 := frozen_of_row wz w.heap.size 9 _ _ hruz
        have z10 := frozen_of_row wz w.heap.size 10 _ _ hruz
        have z11 := frozen_of_row wz w.heap.size 11 _ _ hruz
        have z12 := frozen_of_row wz w.heap.size 12 _ _ hruz
        obtain ⟨⟨e0, e1⟩, k0, k1⟩ := hfxz.all
        go_wp2
        obtain ⟨q1, q2, q3, -⟩ := boxes_put w.heap.size hruz hfxz hblz (.int .i64 0) (.int .i64 0) (.string ⟨#[]⟩) (.int .i64 0) (.string ⟨#[]⟩) (.string ⟨#[]⟩) (.slice none 0 0) (.bool false) (.int .u8 0) (.int .i64 0) (.int .u8 0) (.bool false) (.int .i64 0) (.int .i64 3) (.int .i64 (k : Int))
        generalize (World.setCell (World.setCell (World.setCell (World.setCell (World.setCell (World.setCell (World.setCell (World.setCell (World.setCell (World.setCell (World.setCell (World.setCell (World.setCell (World.setCell (World.setCell wz ⟨w.heap.size, 0, none⟩ (.int .i64 0)) ⟨w.heap.size, 1, none⟩ (.int .i64 0)) ⟨w.heap.size, 2, none⟩ (.string ⟨#[]⟩)) ⟨w.heap.size, 3, none⟩ (.int .i64 0)) ⟨w.heap.size, 4, none⟩ (.string ⟨#[]⟩)) ⟨w.heap.size, 5, none⟩ (.string ⟨#[]⟩)) ⟨w.heap.size, 6, none⟩ (.slice none 0 0)) ⟨w.heap.size, 7, none⟩ (.bool false)) ⟨w.heap.size, 8, none⟩ (.int .u8 0)) ⟨w.heap.size, 9, none⟩ (.int .i64 0)) ⟨w.heap.size, 10, none⟩ (.int .u8 0)) ⟨w.heap.size, 11, none⟩ (.bool false)) ⟨w.heap.size, 12, none⟩ (.int .i64 0)) ⟨w.heap.size + 1, 0, none⟩ (.int .i64 3)) ⟨w.heap.size + 1, 1, none⟩ (.int .i64 (k : Int))) = wf at *
        obtain ⟨p0, p1, p2, p3, p4, p5, p6, p7, p8, p9, p10, p11, p12⟩ := q1.cells
        obtain ⟨⟨t0, t1⟩, -⟩ := q2.all
        refine bodyPost_ret (v := .tuple #[zeroRules, faultV 3 (k : Int)]) (by simp [results, Tryz.results5, go_sem, zeroRules, faultV, p0, p1, p2, p3, p4, p5, p6, p7, p8, p9, p10, p11, p12, t0, t1]) rfl ?_
        exact ⟨Or.inr ⟨3, (k : Int), by decide, unhide HRR, rfl⟩, q3⟩
      | true =>
        go_wp2_with fail
        refine (line_any (w.heap.size + 1 + 1) x last a m wr1 hrs1 (by omega) hm1 (by omega)).mono ?_
        rintro e wr2 ⟨⟨ok, rfl, h1, h2, hbg⟩⟩
        have hru2 := hru1.below hbg (by omega)
        have hfx2 : isFx wr2 (w.heap.size + 1) (.int .i64 0) (.int .i64 0) := by
          unfold isFx at hfx1 ⊢; rw [hbg.block _ (by omega)]; exact hfx1
        have hbl2 : Below w.heap.size w wr2 := hbl1.trans (hbg.mono (by omega))
        clear hrs1 hru1 hfx1 hbl1 hbg hm1
        have hcut := unhide HC
        cases hlf : lineF last x a.data.toList with
        | none =>
          obtain rfl := h2 hlf
          have hRR : readR s.data.toList = (none, 3, (k : Int)) := by
            refine readR_none _ _ ?_
            rw [← unhide HP, unhide HL]
            exact linesF_no _ _ _ _ _ (unhide HNE) (by rw [hcut]) (by rw [hcut]; exact hlf)
          have HRR := hide hRR
          clear hRR HL HP HC h1 h2 hcut hlf
          obtain ⟨wz, hwz⟩ : ∃ wz, wz = wr2 := ⟨_, rfl⟩
          subst hwz
          have hruz := hru2
          have hfxz := hfx2
          have hblz := hbl2
          obtain ⟨d0, d1, d2, d3, d4, d5, d6, d7, d8, d9, d10, d11, d12⟩ := hruz.cells
          have z0 := frozen_of_row wz w.heap.size 0 _ _ hruz
          have z1 := frozen_of_row wz w.heap.size 1 _ _ hruz
          have z2 := frozen_of_row wz w.heap.size 2 _ _ hruz
          have z3 := frozen_of_row wz w.heap.size 3 _ _ hruz
          have z4 := frozen_of_row wz w.heap.size 4 _ _ hruz
          have z5 := frozen_of_row wz w.heap.size 5 _ _ hruz
          have z6 := frozen_of_row wz w.heap.size 6 _ _ hruz
          have z7 := frozen_of_row wz w.heap.size 7 _ _ hruz
          have z8 := frozen_of_row wz w.heap.size 8 _ _ hruz
          have z9 := frozen_of_row wz w.heap.size 9 _ _ hruz
          have z10 := frozen_of_row wz w.heap.size 10 _ _ hruz
          have z11 := frozen_of_row wz w.heap.size 11 _ _ hruz
          have z12 := frozen_of_row wz w.heap.size 12 _ _ hruz
          obtain ⟨⟨e0, e1⟩, k0, k1⟩ := hfxz.all
          go_wp2
          obtain ⟨q1, q2, q3, -⟩ := boxes_put w.heap.size hruz hfxz hblz (.int .i64 0) (.int .i64 0) (.string ⟨#[]⟩) (.int .i64 0) (.string ⟨#[]⟩) (.string ⟨#[]⟩) (.slice none 0 0) (.bool false) (.int .u8 0) (.int .i64 0) (.int .u8 0) (.bool false) (.int .i64 0) (.int .i64 3) (.int .i64 (k : Int))
          generalize (World.setCell (World.setCell (World.setCell (World.setCell (World.setCell (World.setCell (World.setCell (World.setCell (World.setCell (World.setCell (World.setCell (World.setCell (World.setCell (World.setCell (World.setCell wz ⟨w.heap.size, 0, none⟩ (.int .i64 0)) ⟨w.heap.size, 1, none⟩ (.int .i64 0)) ⟨w.heap.size, 2, none⟩ (.string ⟨#[]⟩)) ⟨w.heap.size, 3, none⟩ (.int .i64 0)) ⟨w.heap.size, 4, none⟩ (.string ⟨#[]⟩)) ⟨w.heap.size, 5, none⟩ (.string ⟨#[]⟩)) ⟨w.heap.size, 6, none⟩ (.slice none 0 0)) ⟨w.heap.size, 7, none⟩ (.bool false)) ⟨w.heap.size, 8, none⟩ (.int .u8 0)) ⟨w.heap.size, 9, none⟩ (.int .i64 0)) ⟨w.heap.size, 10, none⟩ (.int .u8 0)) ⟨w.heap.size, 11, none⟩ (.bool false)) ⟨w.heap.size, 12, none⟩ (.int .i64 0)) ⟨w.heap.size + 1, 0, none⟩ (.int .i64 3)) ⟨w.heap.size + 1, 1, none⟩ (.int .i64 (k : Int))) = wf at *
          obtain ⟨p0, p1, p2, p3, p4, p5, p6, p7, p8, p9, p10, p11, p12⟩ := q1.cells
          obtain ⟨⟨t0, t1⟩, -⟩ := q2.all
          refine bodyPost_ret (v := .tuple #[zeroRules, faultV 3 (k : Int)]) (by simp [results, Tryz.results5, go_sem, zeroRules, faultV, p0, p1, p2, p3, p4, p5, p6, p7, p8, p9, p10, p11, p12, t0, t1]) rfl ?_
          exact ⟨Or.inr ⟨3, (k : Int), by decide, unhide HRR, rfl⟩, q3⟩
        | some y =>
          obtain ⟨rfl, hrs2⟩ := h1 y hlf
          have hP2 : P = linesF n' (lineOf (Lib.cut a.data.toList [32]).1) y b.data.toList (k + 1) := by
            rw [unhide HL, linesF_go _ _ _ y _ _ (unhide HNE) (by rw [hcut]) (by rw [hcut]; exact hlf), hcut]
          have hsh : b.size < t.size := by
            have := cut_shorter t.data.toList [10] (by simp) (by rw [hcut])
            rw [hcut] at this
            simp only [len_data] at this
            exact this
          have HP2 := hide hP2
          clear h1 h2 hlf hcut hP2 HL HC
          go_wp2
          go_roundw
          case rel => exact ⟨b, k + 1, n', _, y, rfl, by go_num, by omega, by omega, hrs2, hru2, hfx2, HP2, hbl2⟩
          case measure => simp [sizeV]; omega
    | true =>
      have hem : t.data.toList = [] := by
        rw [Lib.toList_data] at hte
        exact List.isEmpty_iff.1 hte
      have hPe : P = (some (last, x), k) := by rw [unhide HL, hem, linesF_end]
      have HPE := hide hPe
      clear hem hPe HL
      have c13 := hrs.c13
      by_cases h8 : last = 8
      · subst h8
        obtain ⟨⟨v, qs, hrr, hpk⟩, hsz⟩ := hrs
        obtain ⟨ao, cap, rfl, hpcs⟩ := hpk.pcs
        unfold isRs at hrr
        obtain ⟨CB, hCB⟩ : ∃ CB : ByteArray, CB = ⟨x.C.toArray⟩ := ⟨_, rfl⟩
        obtain ⟨AB, hAB⟩ : ∃ AB : ByteArray, AB = ⟨x.A.toArray⟩ := ⟨_, rfl⟩
        obtain ⟨BB, hBB⟩ : ∃ BB : ByteArray, BB = ⟨x.B.toArray⟩ := ⟨_, rfl⟩
        rw [← hCB, ← hAB, ← hBB] at hrr
        have hC : CB.size ≤ maxLen := by rw [← len_data, hCB]; show x.C.length ≤ _; unfold maxLen; omega
        have hA : AB.size ≤ maxLen := by rw [← len_data, hAB]; show x.A.length ≤ _; unfold maxLen; omega
        have hB : BB.size ≤ maxLen := by rw [← len_data, hBB]; show x.B.length ≤ _; unfold maxLen; omega
        have hck := rCheck_any (x.W : Int) (x.H : Int) x.T CB AB BB ao cap (capP x.ps) x.dr x.st x.lo.toNat x.re.toNat (x.li : Int) (x.pl : Int) wr hC hA hB x.lo.toNat_lt x.re.toNat_lt hpcs
        have hoe : rulesB (x.W : Int) (x.H : Int) CB.data.toList x.T AB.data.toList BB.data.toList (capP x.ps) x.lo.toNat (x.li : Int) x.re.toNat (x.pl : Int) = x.ok := by rw [hCB, hAB, hBB]; rfl
        rw [hoe] at hck
        have HCK := hide hck
        have HCB := hide hCB
        have HAB := hide hAB
        have HBB := hide hBB
        have HPK := hide hpk
        have HRR0 := hide hrr
        have HSZ := hide hsz
        clear hck hoe hCB hAB hBB hC hA hB hpcs hpk hsz
        obtain ⟨r0, r1, r2, r3, r4, r5, r6, r7, r8, r9, r10, r11, r12, -⟩ := isRr.cells hrr
        clear hrr
        go_wp2_with fail
        refine (unhide HCK).mono ?_
        rintro e wr1 ⟨rfl, hl1⟩
        clear r0 r1 r2 r3 r4 r5 r6 r7 r8 r9 r10 r11 r12 c13
        have hrr := isRr.below (unhide HRR0) hl1 hglt
        have hruz := hru.below hl1 (by omega)
        have hfxz : isFx wr1 (w.heap.size + 1) (.int .i64 0) (.int .i64 0) := by
          unfold isFx at hfx ⊢; rw [hl1.block _ (by omega)]; exact hfx
        have hblz : Below w.heap.size w wr1 := hbl.trans (hl1.mono (by omega))
        have hpk1 : isPk wr1 (w.heap.size + 1 + 1 + 1) (.slice ao (capP x.ps).length cap) qs (capP x.ps) := (unhide HPK).keep fun k _ hk => hl1.block k hk
        have HPK1 := hide hpk1
        clear hru hfx hbl hl1 HCK HRR0 HPK hpk1 hmr
        obtain ⟨wz, hwz⟩ : ∃ wz, wz = wr1 := ⟨_, rfl⟩
        subst hwz
        cases hok : x.ok with
        | false =>
          have hRR : readR s.data.toList = (none, 1, -1) := readR_bad _ _ _ (by rw [← unhide HP, unhide HPE]) hok
          have HRR := hide hRR
          clear hRR HP HPE hrr
          rw [show errI false = 1 from rfl]
          obtain ⟨d0, d1, d2, d3, d4, d5, d6, d7, d8, d9, d10, d11, d12⟩ := hruz.cells
          have z0 := frozen_of_row wz w.heap.size 0 _ _ hruz
          have z1 := frozen_of_row wz w.heap.size 1 _ _ hruz
          have z2 := frozen_of_row wz w.heap.size 2 _ _ hruz
          have z3 := frozen_of_row wz w.heap.size 3 _ _ hruz
          have z4 := frozen_of_row wz w.heap.size 4 _ _ hruz
          have z5 := frozen_of_row wz w.heap.size 5 _ _ hruz
          have z6 := frozen_of_row wz w.heap.size 6 _ _ hruz
          have z7 := frozen_of_row wz w.heap.size 7 _ _ hruz
          have z8 := frozen_of_row wz w.heap.size 8 _ _ hruz
          have z9 := frozen_of_row wz w.heap.size 9 _ _ hruz
          have z10 := frozen_of_row wz w.heap.size 10 _ _ hruz
          have z11 := frozen_of_row wz w.heap.size 11 _ _ hruz
          have z12 := frozen_of_row wz w.heap.size 12 _ _ hruz
          obtain ⟨⟨e0, e1⟩, k0, k1⟩ := hfxz.all
          go_wp2
          obtain ⟨q1, q2, q3, -⟩ := boxes_put w.heap.size hruz hfxz hblz (.int .i64 0) (.int .i64 0) (.string ⟨#[]⟩) (.int .i64 0) (.string ⟨#[]⟩) (.string ⟨#[]⟩) (.slice none 0 0) (.bool false) (.int .u8 0) (.int .i64 0) (.int .u8 0) (.bool false) (.int .i64 0) (.int .i64 1) (.int .i64 (-1))
          generalize (World.setCell (World.setCell (World.setCell (World.setCell (World.setCell (World.setCell (World.setCell (World.setCell (World.setCell (World.setCell (World.setCell (World.setCell (World.setCell (World.setCell (World.setCell wz ⟨w.heap.size, 0, none⟩ (.int .i64 0)) ⟨w.heap.size, 1, none⟩ (.int .i64 0)) ⟨w.heap.size, 2, none⟩ (.string ⟨#[]⟩)) ⟨w.heap.size, 3, none⟩ (.int .i64 0)) ⟨w.heap.size, 4, none⟩ (.string ⟨#[]⟩)) ⟨w.heap.size, 5, none⟩ (.string ⟨#[]⟩)) ⟨w.heap.size, 6, none⟩ (.slice none 0 0)) ⟨w.heap.size, 7, none⟩ (.bool false)) ⟨w.heap.size, 8, none⟩ (.int .u8 0)) ⟨w.heap.size, 9, none⟩ (.int .i64 0)) ⟨w.heap.size, 10, none⟩ (.int .u8 0)) ⟨w.heap.size, 11, none⟩ (.bool false)) ⟨w.heap.size, 12, none⟩ (.int .i64 0)) ⟨w.heap.size + 1, 0, none⟩ (.int .i64 1)) ⟨w.heap.size + 1, 1, none⟩ (.int .i64 (-1))) = wf at *
          obtain ⟨p0, p1, p2, p3, p4, p5, p6, p7, p8, p9, p10, p11, p12⟩ := q1.cells
          obtain ⟨⟨t0, t1⟩, -⟩ := q2.all
          refine bodyPost_ret (v := .tuple #[zeroRules, faultV 1 (-1)]) (by simp [results, Tryz.results5, go_sem, zeroRules, faultV, p0, p1, p2, p3, p4, p5, p6, p7, p8, p9, p10, p11, p12, t0, t1]) rfl ?_
          exact ⟨Or.inr ⟨1, -1, by decide, unhide HRR, rfl⟩, q3⟩
        | true =>
          have hRR : readR s.data.toList = (some x, 0, 0) := readR_good _ _ _ (by rw [← unhide HP, unhide HPE]) hok
          have hwh := (whole_of_ok x hok).1
          have HRR := hide hRR
          have HWH := hide hwh
          clear hRR HP HPE hwh
          obtain ⟨r0, r1, r2, r3, r4, r5, r6, r7, r8, r9, r10, r11, r12, -⟩ := isRr.cells hrr
          rw [show errI true = 0 from rfl]
          clear hrr
          obtain ⟨d0, d1, d2, d3, d4, d5, d6, d7, d8, d9, d10, d11, d12⟩ := hruz.cells
          have z0 := frozen_of_row wz w.heap.size 0 _ _ hruz
          have z1 := frozen_of_row wz w.heap.size 1 _ _ hruz
          have z2 := frozen_of_row wz w.heap.size 2 _ _ hruz
          have z3 := frozen_of_row wz w.heap.size 3 _ _ hruz
          have z4 := frozen_of_row wz w.heap.size 4 _ _ hruz
          have z5 := frozen_of_row wz w.heap.size 5 _ _ hruz
          have z6 := frozen_of_row wz w.heap.size 6 _ _ hruz
          have z7 := frozen_of_row wz w.heap.size 7 _ _ hruz
          have z8 := frozen_of_row wz w.heap.size 8 _ _ hruz
          have z9 := frozen_of_row wz w.heap.size 9 _ _ hruz
          have z10 := frozen_of_row wz w.heap.size 10 _ _ hruz
          have z11 := frozen_of_row wz w.heap.size 11 _ _ hruz
          have z12 := frozen_of_row wz w.heap.size 12 _ _ hruz
          obtain ⟨⟨e0, e1⟩, k0, k1⟩ := hfxz.all
          go_wp2
          obtain ⟨q1, q2, q3, q4⟩ := boxes_put w.heap.size hruz hfxz hblz (.int .i64 (x.W : Int)) (.int .i64 (x.H : Int)) (.string CB) (.int .i64 x.T) (.string AB) (.string BB) (.slice ao (capP x.ps).length cap) (.bool x.dr) (.int .u8 (x.lo.toNat : Int)) (.int .i64 (x.li : Int)) (.int .u8 (x.re.toNat : Int)) (.bool x.st) (.int .i64 (x.pl : Int)) (.int .i64 0) (.int .i64 0)
          have hpk2 := (unhide HPK1).keep fun k hk _ => q4 k (by omega)
          generalize (World.setCell (World.setCell (World.setCell (World.setCell (World.setCell (World.setCell (World.setCell (World.setCell (World.setCell (World.setCell (World.setCell (World.setCell (World.setCell (World.setCell (World.setCell wz ⟨w.heap.size, 0, none⟩ (.int .i64 (x.W : Int))) ⟨w.heap.size, 1, none⟩ (.int .i64 (x.H : Int))) ⟨w.heap.size, 2, none⟩ (.string CB)) ⟨w.heap.size, 3, none⟩ (.int .i64 x.T)) ⟨w.heap.size, 4, none⟩ (.string AB)) ⟨w.heap.size, 5, none⟩ (.string BB)) ⟨w.heap.size, 6, none⟩ (.slice ao (capP x.ps).length cap)) ⟨w.heap.size, 7, none⟩ (.bool x.dr)) ⟨w.heap.size, 8, none⟩ (.int .u8 (x.lo.toNat : Int))) ⟨w.heap.size, 9, none⟩ (.int .i64 (x.li : Int))) ⟨w.heap.size, 10, none⟩ (.int .u8 (x.re.toNat : Int))) ⟨w.heap.size, 11, none⟩ (.bool x.st)) ⟨w.heap.size, 12, none⟩ (.int .i64 (x.pl : Int))) ⟨w.heap.size + 1, 0, none⟩ (.int .i64 0)) ⟨w.heap.size + 1, 1, none⟩ (.int .i64 0)) = wf at *
          obtain ⟨p0, p1, p2, p3, p4, p5, p6, p7, p8, p9, p10, p11, p12⟩ := q1.cells
          obtain ⟨⟨t0, t1⟩, -⟩ := q2.all
          refine bodyPost_ret (v := .tuple #[x.val (.slice ao x.ps.length cap), faultV 0 0]) (by simp [results, Tryz.results5, go_sem, Rl.val, faultV, p0, p1, p2, p3, p4, p5, p6, p7, p8, p9, p10, p11, p12, t0, t1, ← unhide HCB, ← unhide HAB, ← unhide HBB, unhide HWH]) rfl ?_
          obtain ⟨ao', cap', he, hpc⟩ := hpk2.pcs
          cases he
          rw [unhide HWH] at hpc
          exact ⟨Or.inl ⟨x, ao, cap, unhide HRR, hpc, (unhide HSZ).1, (unhide HSZ).2.1, (unhide HSZ).2.2, rfl⟩, q3⟩
      · have h8i : ¬ (last : Int) = 8 := by omega
        have hRR : readR s.data.toList = (none, 3, (k : Int)) := readR_last _ _ _ _ (by rw [← unhide HP, unhide HPE]) h8
        have HRR := hide hRR
        clear hRR HP HPE
        obtain ⟨wz, hwz⟩ : ∃ wz, wz = wr := ⟨_, rfl⟩
        subst hwz
        have hruz := hru
        have hfxz := hfx
        have hblz := hbl
        obtain ⟨d0, d1, d2, d3, d4, d5, d6, d7, d8, d9, d10, d11, d12⟩ := hruz.cells
        have z0 := frozen_of_row wz w.heap.size 0 _ _ hruz
        have z1 := frozen_of_row wz w.heap.size 1 _ _ hruz
        have z2 := frozen_of_row wz w.heap.size 2 _ _ hruz
        have z3 := frozen_of_row wz w.heap.size 3 _ _ hruz
        have z4 := frozen_of_row wz w.heap.size 4 _ _ hruz
        have z5 := frozen_of_row wz w.heap.size 5 _ _ hruz
        have z6 := frozen_of_row wz w.heap.size 6 _ _ hruz
        have z7 := frozen_of_row wz w.heap.size 7 _ _ hruz
        have z8 := frozen_of_row wz w.heap.size 8 _ _ hruz
        have z9 := frozen_of_row wz w.heap.size 9 _ _ hruz
        have z10 := frozen_of_row wz w.heap.size 10 _ _ hruz
        have z11 := frozen_of_row wz w.heap.size 11 _ _ hruz
        have z12 := frozen_of_row wz w.heap.size 12 _ _ hruz
        obtain ⟨⟨e0, e1⟩, k0, k1⟩ := hfxz.all
        go_wp2
        obtain ⟨q1, q2, q3, -⟩ := boxes_put w.heap.size hruz hfxz hblz (.int .i64 0) (.int .i64 0) (.string ⟨#[]⟩) (.int .i64 0) (.string ⟨#[]⟩) (.string ⟨#[]⟩) (.slice none 0 0) (.bool false) (.int .u8 0) (.int .i64 0) (.int .u8 0) (.bool false) (.int .i64 0) (.int .i64 3) (.int .i64 (k : Int))
        generalize (World.setCell (World.setCell (World.setCell (World.setCell (World.setCell (World.setCell (World.setCell (World.setCell (World.setCell (World.setCell (World.setCell (World.setCell (World.setCell (World.setCell (World.setCell wz ⟨w.heap.size, 0, none⟩ (.int .i64 0)) ⟨w.heap.size, 1, none⟩ (.int .i64 0)) ⟨w.heap.size, 2, none⟩ (.string ⟨#[]⟩)) ⟨w.heap.size, 3, none⟩ (.int .i64 0)) ⟨w.heap.size, 4, none⟩ (.string ⟨#[]⟩)) ⟨w.heap.size, 5, none⟩ (.string ⟨#[]⟩)) ⟨w.heap.size, 6, none⟩ (.slice none 0 0)) ⟨w.heap.size, 7, none⟩ (.bool false)) ⟨w.heap.size, 8, none⟩ (.int .u8 0)) ⟨w.heap.size, 9, none⟩ (.int .i64 0)) ⟨w.heap.size, 10, none⟩ (.int .u8 0)) ⟨w.heap.size, 11, none⟩ (.bool false)) ⟨w.heap.size, 12, none⟩ (.int .i64 0)) ⟨w.heap.size + 1, 0, none⟩ (.int .i64 3)) ⟨w.heap.size + 1, 1, none⟩ (.int .i64 (k : Int))) = wf at *
        obtain ⟨p0, p1, p2, p3, p4, p5, p6, p7, p8, p9, p10, p11, p12⟩ := q1.cells
        obtain ⟨⟨t0, t1⟩, -⟩ := q2.all
        refine bodyPost_ret (v := .tuple #[zeroRules, faultV 3 (k : Int)]) (by simp [results, Tryz.results5, go_sem, zeroRules, faultV, p0, p1, p2, p3, p4, p5, p6, p7, p8, p9, p10, p11, p12, t0, t1]) rfl ?_
        exact ⟨Or.inr ⟨3, (k : Int), by decide, unhide HRR, rfl⟩, q3⟩
end Go.Proofs.YtfhmpgjemobjhaaGreatDoor
