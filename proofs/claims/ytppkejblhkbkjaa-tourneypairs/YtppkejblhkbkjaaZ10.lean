/-
  package tourney, walked: pairings and trees in memory; above.
-/
import Derived.Test.YtppkejblhkbkjaaZ6
import Derived.Test.YtppkejblhkbkjaaY1
namespace Go.Proofs.Ytppkejblhkbkjaa
open Go.RowKit Tu
attribute [local go_sem ↓] Go.wp_at_zero Go.wp_at_succ

/-- A player or nobody, as a number. -/
def pI : Option Nat → Int
  | none => -1
  | some x => (x : Int)
def tA : Tn → Int
  | .root => -1
  | .vert a => (a : Int)
  | .edge a _ => (a : Int)
def tB : Tn → Int
  | .root => -1
  | .vert _ => -1
  | .edge _ b => (b : Int)
/-- A pairing in block g. -/
structure isPr (W : World) (g n : Nat) (bar : Nat → Nat → Bool) (M : Nat → Option Nat) : Prop where
  lt : g < W.heap.size
  fz : ∀ o, W.frozen? ⟨g, o, none⟩ = false
  n_ : W.cell? ⟨g, 0, none⟩ = some (.int .i64 (n : Int))
  bar : ∀ i j, i < 60 → j < 60 → W.cell? ⟨g, 1 + i * 60 + j, none⟩ = some (.bool (bar i j))
  par : ∀ i, i < 60 → W.cell? ⟨g, 3601 + i, none⟩ = some (.int .i64 (pI (M i)))
/-- A tree in block t, over the pairing in block g. -/
structure isTe (W : World) (t g r : Nat) (S : Nat → Bool) (tn : Nat → Tn) (B : Nat → Nat) (qv : Value) : Prop where
  lt : t < W.heap.size
  fz : ∀ o, W.frozen? ⟨t, o, none⟩ = false
  p_ : W.cell? ⟨t, 0, none⟩ = some (.pointer (some ⟨g, 0, none⟩))
  r_ : W.cell? ⟨t, 1, none⟩ = some (.int .i64 (r : Int))
  sp : ∀ i, i < 60 → W.cell? ⟨t, 2 + i, none⟩ = some (.bool (S i))
  ta : ∀ i, i < 60 → W.cell? ⟨t, 62 + i * 2, none⟩ = some (.int .i64 (tA (tn i)))
  tb : ∀ i, i < 60 → W.cell? ⟨t, 63 + i * 2, none⟩ = some (.int .i64 (tB (tn i)))
  ba : ∀ i, i < 60 → W.cell? ⟨t, 182 + i, none⟩ = some (.int .i64 (B i : Int))
  q_ : W.cell? ⟨t, 242, none⟩ = some qv
theorem blk_cell {W W' : World} {b o : Nat} (h : W'.heap[b]? = W.heap[b]?) : W'.cell? ⟨b, o, none⟩ = W.cell? ⟨b, o, none⟩ := by unfold World.cell?; simp only; rw [h]
theorem blk_fz {W W' : World} {b o : Nat} (h : W'.heap[b]? = W.heap[b]?) : W'.frozen? ⟨b, o, none⟩ = W.frozen? ⟨b, o, none⟩ := by unfold World.frozen?; simp only; rw [h]
theorem isPr.keep {W W' : World} {g n : Nat} {bar : Nat → Nat → Bool} {M : Nat → Option Nat} (h : isPr W g n bar M) (hk : W'.heap[g]? = W.heap[g]?) : isPr W' g n bar M := by
  have hlt : g < W'.heap.size := by
    have := h.lt
    rw [Array.getElem?_eq_getElem this] at hk
    exact (Array.getElem?_eq_some_iff.1 hk).1
  exact ⟨hlt, fun o => (blk_fz hk).trans (h.fz o), (blk_cell hk).trans h.n_, fun i j hi hj => (blk_cell hk).trans (h.bar i j hi hj), fun i hi => (blk_cell hk).trans (h.par i hi)⟩
theorem isTe.keep {W W' : World} {t g r : Nat} {S : Nat → Bool} {tn : Nat → Tn} {B : Nat → Nat} {qv : Value} (h : isTe W t g r S tn B qv) (hk : W'.heap[t]? = W.heap[t]?) : isTe W' t g r S tn B qv := by
  have hlt : t < W'.heap.size := by
    have := h.lt
    rw [Array.getElem?_eq_getElem this] at hk
    exact (Array.getElem?_eq_some_iff.1 hk).1
  exact ⟨hlt, fun o => (blk_fz hk).trans (h.fz o), (blk_cell hk).trans h.p_, (blk_cell hk).trans h.r_, fun i hi => (blk_cell hk).trans (h.sp i hi), fun i hi => (blk_cell hk).trans (h.ta i hi), fun i hi => (blk_cell hk).trans (h.tb i hi), fun i hi => (blk_cell hk).trans (h.ba i hi), (blk_cell hk).trans h.q_⟩
theorem set_ne {W : World} {b i j : Nat} {v : Value} (h : i ≠ j) : (W.setCell ⟨b, i, none⟩ v).cell? ⟨b, j, none⟩ = W.cell? ⟨b, j, none⟩ := World.cell?_setCell_other _ _ _ _ (by intro e; cases e; exact h rfl)
theorem set_eq {W : World} {b i : Nat} {v u : Value} (h : W.cell? ⟨b, i, none⟩ = some u) : (W.setCell ⟨b, i, none⟩ v).cell? ⟨b, i, none⟩ = some v := World.cell?_setCell_same _ _ _ h
theorem isPr.put {W : World} {g n : Nat} {bar : Nat → Nat → Bool} {M : Nat → Option Nat} (h : isPr W g n bar M) {x y : Nat} (hx : x < 60) : isPr (W.setCell ⟨g, 3601 + x, none⟩ (.int .i64 (y : Int))) g n bar (upd M x y) := by
  refine ⟨by rw [World.size_setCell]; exact h.lt, fun o => ?_, by rw [set_ne (by omega)]; exact h.n_, fun i j hi hj => by rw [set_ne (by omega)]; exact h.bar i j hi hj, fun i hi => ?_⟩
  · rw [World.frozen?_setCell]; exact h.fz o
  · by_cases e : i = x
    · subst e
      rw [upd_same]
      exact set_eq (h.par i hi)
    · rw [set_ne (by omega), upd_other _ e]
      exact h.par i hi

set_option maxHeartbeats 1000000 in
/-- The next group's base on the way to the root. -/
theorem above_any (W : World) (t g r x : Nat) (S : Nat → Bool) (tn : Nat → Tn) (B : Nat → Nat) (qv : Value) (h : isTe W t g r S tn B qv) (hx : x < 60) (ha : x ≠ r → ∃ a, tn x = .vert a ∧ a < 60) :
    Calls Try.prog 57 #[.pointer (some ⟨t, 0, none⟩), .int .i64 (x : Int)] W fun e W' => e = .returned (.int .i64 (if x = r then -1 else match tn x with | .vert a => (B a : Int) | _ => 0)) ∧ Below W.heap.size W W' := by
  have c1 := h.r_
  have hxi : (x : Int) < 60 := by omega
  have hx0 : (0 : Int) ≤ (x : Int) := by omega
  by_cases hr : x = r
  · have hb : ((x : Int) == (r : Int)) = true := by simp [hr]
    rw [if_pos hr]
    have HB := hide (Below.refl W.heap.size W)
    clear h ha
    go_enter Try.func57, Try.ntmps57
    go_wp2
    go_ret
    exact ⟨rfl, unhide HB⟩
  · obtain ⟨a, e1, e2⟩ := ha hr
    have hb : ((x : Int) == (r : Int)) = false := by simp; omega
    rw [if_neg hr, e1]
    have c2 := h.ta x hx
    have c3 := h.ba a e2
    rw [e1] at c2
    have c2' : W.cell? ⟨t, 62 + x * 2, none⟩ = some (.int .i64 (a : Int)) := c2
    have hai : (a : Int) < 60 := by omega
    have ha0 : (0 : Int) ≤ (a : Int) := by omega
    have HB : Hid (∀ k, Below W.heap.size W (W.drewN k)) := hide (fun k => below_drewN (Below.refl _ _) k)
    clear h ha e1 c2
    go_enter Try.func57, Try.ntmps57
    go_wp2_with fail
    go_quiet (fail)
    go_wp2
    go_ret
    exact ⟨rfl, unhide HB _⟩
end Go.Proofs.Ytppkejblhkbkjaa
