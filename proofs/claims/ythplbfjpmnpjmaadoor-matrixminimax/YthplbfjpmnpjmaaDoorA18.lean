/-
  a solution in memory; package matrix, walked: turned.
-/
import Derived.Test.YthplbfjpmnpjmaaDoorA17
import Derived.BigQuiet
namespace Go.Proofs.YthplbfjpmnpjmaaDoor
open Go.RowKit Lp
attribute [local go_sem ↓] Go.wp_at_zero Go.wp_at_succ

/-- Its fourteen cells. -/
def soC (s : So) : List Value := [.int .i64 s.v, .int .i64 s.t, .int .i64 (s.x 0), .int .i64 (s.x 1), .int .i64 (s.x 2), .int .i64 (s.x 3), .int .i64 (s.x 4), .int .i64 (s.x 5), .int .i64 (s.y 0), .int .i64 (s.y 1), .int .i64 (s.y 2), .int .i64 (s.y 3), .int .i64 (s.y 4), .int .i64 (s.y 5)]
def soV (s : So) : Value := .agg (soC s).toArray
def isSo (W : World) (b : Nat) (s : So) : Prop := W.heap[b]? = some (.cells (soC s).toArray 48 (0, 0))
section
variable {W W' : World} {b : Nat} {s : So}
theorem isSo.lt (h : isSo W b s) : b < W.heap.size := (Array.getElem?_eq_some_iff.1 h).1
theorem isSo.keep (h : isSo W b s) (hk : W'.heap[b]? = W.heap[b]?) : isSo W' b s := hk.trans h
theorem isSo.cells (h : isSo W b s) : (W.cell? ⟨b, 0, none⟩ = some (.int .i64 s.v) ∧ W.cell? ⟨b, 1, none⟩ = some (.int .i64 s.t)) ∧ (∀ i, i < 6 → W.cell? ⟨b, 2 + i, none⟩ = some (.int .i64 (s.x i))) ∧ (∀ i, i < 6 → W.cell? ⟨b, 8 + i, none⟩ = some (.int .i64 (s.y i))) ∧ ∀ k, W.frozen? ⟨b, k, none⟩ = false := by
  unfold isSo at h
  refine ⟨⟨by simp [World.cell?, h, soC], by simp [World.cell?, h, soC]⟩, fun i hi => ?_, fun i hi => ?_, fun k => by simp [World.frozen?, h]⟩
  · obtain rfl | rfl | rfl | rfl | rfl | rfl : i = 0 ∨ i = 1 ∨ i = 2 ∨ i = 3 ∨ i = 4 ∨ i = 5 := by omega
    all_goals simp [World.cell?, h, soC]
  · obtain rfl | rfl | rfl | rfl | rfl | rfl : i = 0 ∨ i = 1 ∨ i = 2 ∨ i = 3 ∨ i = 4 ∨ i = 5 := by omega
    all_goals simp [World.cell?, h, soC]
/-- One place turned. -/
def upd (f : Nat → Int) (i : Nat) (v : Int) : Nat → Int := fun k => if k = i then v else f k
theorem isSo.putX (h : isSo W b s) {i : Nat} (hi : i < 6) (v : Int) : isSo (W.setCell ⟨b, 2 + i, none⟩ (.int .i64 v)) b ⟨s.v, s.t, upd s.x i v, s.y⟩ := by
  have := heap_setCell_same W b (2 + i) _ _ (.int .i64 v) h
  unfold isSo
  rw [this]
  obtain rfl | rfl | rfl | rfl | rfl | rfl : i = 0 ∨ i = 1 ∨ i = 2 ∨ i = 3 ∨ i = 4 ∨ i = 5 := by omega
  all_goals simp [soC, upd]
theorem isSo.putY (h : isSo W b s) {i : Nat} (hi : i < 6) (v : Int) : isSo (W.setCell ⟨b, 8 + i, none⟩ (.int .i64 v)) b ⟨s.v, s.t, s.x, upd s.y i v⟩ := by
  have := heap_setCell_same W b (8 + i) _ _ (.int .i64 v) h
  unfold isSo
  rw [this]
  obtain rfl | rfl | rfl | rfl | rfl | rfl : i = 0 ∨ i = 1 ∨ i = 2 ∨ i = 3 ∨ i = 4 ∨ i = 5 := by omega
  all_goals simp [soC, upd]
theorem isSo.putT (h : isSo W b s) (v : Int) : isSo (W.setCell ⟨b, 1, none⟩ (.int .i64 v)) b ⟨s.v, v, s.x, s.y⟩ := by
  have := heap_setCell_same W b 1 _ _ (.int .i64 v) h
  unfold isSo
  rw [this]
  simp [soC]
theorem isSo.putV (h : isSo W b s) (v : Int) : isSo (W.setCell ⟨b, 0, none⟩ (.int .i64 v)) b ⟨v, s.t, s.x, s.y⟩ := by
  have := heap_setCell_same W b 0 _ _ (.int .i64 v) h
  unfold isSo
  rw [this]
  simp [soC]
end
/-- All signs turned, as it is reckoned; the first k places of both rows. -/
def negK (s : So) (k : Nat) : So := ⟨wrap64 (-s.v), wrap64 (-s.t), fun i => if i < k then wrap64 (-s.x i) else s.x i, fun i => if i < k then wrap64 (-s.y i) else s.y i⟩
theorem negK_next (s : So) (k : Nat) : negK s (k + 1) = ⟨wrap64 (-s.v), wrap64 (-s.t), upd (negK s k).x k (wrap64 (-s.x k)), upd (negK s k).y k (wrap64 (-s.y k))⟩ := by
  refine So.ext' rfl rfl (fun i => ?_) (fun i => ?_)
  all_goals
    simp only [negK, upd]
    by_cases h : i = k
    · rw [if_pos (by omega), if_pos h, h]
    · by_cases h2 : i < k
      · rw [if_pos (by omega), if_neg h, if_pos h2]
      · rw [if_neg (by omega), if_neg h, if_neg h2]
theorem soC_congr {a b : So} (h1 : a.v = b.v) (h2 : a.t = b.t) (h3 : ∀ i, i < 6 → a.x i = b.x i) (h4 : ∀ i, i < 6 → a.y i = b.y i) : soC a = soC b := by
  unfold soC
  rw [h1, h2, h3 0 (by omega), h3 1 (by omega), h3 2 (by omega), h3 3 (by omega), h3 4 (by omega), h3 5 (by omega), h4 0 (by omega), h4 1 (by omega), h4 2 (by omega), h4 3 (by omega), h4 4 (by omega), h4 5 (by omega)]

/-- Fourteen stores. -/
theorem isSo.put14 {W : World} {b : Nat} {z : So} (h : isSo W b z) (s : So) : isSo ((((((((((((((W.setCell ⟨b, 0, none⟩ (.int .i64 (s.v))).setCell ⟨b, 1, none⟩ (.int .i64 (s.t))).setCell ⟨b, 2, none⟩ (.int .i64 (s.x 0))).setCell ⟨b, 3, none⟩ (.int .i64 (s.x 1))).setCell ⟨b, 4, none⟩ (.int .i64 (s.x 2))).setCell ⟨b, 5, none⟩ (.int .i64 (s.x 3))).setCell ⟨b, 6, none⟩ (.int .i64 (s.x 4))).setCell ⟨b, 7, none⟩ (.int .i64 (s.x 5))).setCell ⟨b, 8, none⟩ (.int .i64 (s.y 0))).setCell ⟨b, 9, none⟩ (.int .i64 (s.y 1))).setCell ⟨b, 10, none⟩ (.int .i64 (s.y 2))).setCell ⟨b, 11, none⟩ (.int .i64 (s.y 3))).setCell ⟨b, 12, none⟩ (.int .i64 (s.y 4))).setCell ⟨b, 13, none⟩ (.int .i64 (s.y 5))) b s := by
  have h0 := h.putV s.v
  have h1 := h0.putT s.t
  have h2 := h1.putX (i := 0) (by omega) (s.x 0)
  have h3 := h2.putX (i := 1) (by omega) (s.x 1)
  have h4 := h3.putX (i := 2) (by omega) (s.x 2)
  have h5 := h4.putX (i := 3) (by omega) (s.x 3)
  have h6 := h5.putX (i := 4) (by omega) (s.x 4)
  have h7 := h6.putX (i := 5) (by omega) (s.x 5)
  have h8 := h7.putY (i := 0) (by omega) (s.y 0)
  have h9 := h8.putY (i := 1) (by omega) (s.y 1)
  have h10 := h9.putY (i := 2) (by omega) (s.y 2)
  have h11 := h10.putY (i := 3) (by omega) (s.y 3)
  have h12 := h11.putY (i := 4) (by omega) (s.y 4)
  have h13 := h12.putY (i := 5) (by omega) (s.y 5)
  simp only [Nat.reduceAdd] at h2 h3 h4 h5 h6 h7 h8 h9 h10 h11 h12 h13
  refine h13.trans ?_
  refine congrArg (fun l : List Value => some (Obj.cells l.toArray 48 (0, 0))) (soC_congr rfl rfl (fun i hi => ?_) (fun i hi => ?_))
  · obtain rfl | rfl | rfl | rfl | rfl | rfl : i = 0 ∨ i = 1 ∨ i = 2 ∨ i = 3 ∨ i = 4 ∨ i = 5 := by omega
    all_goals simp [upd]
  · obtain rfl | rfl | rfl | rfl | rfl | rfl : i = 0 ∨ i = 1 ∨ i = 2 ∨ i = 3 ∨ i = 4 ∨ i = 5 := by omega
    all_goals simp [upd]
theorem below14 {w0 W : World} {B b : Nat} (h : Below B w0 W) (hb : B ≤ b) (s : So) : Below B w0 ((((((((((((((W.setCell ⟨b, 0, none⟩ (.int .i64 (s.v))).setCell ⟨b, 1, none⟩ (.int .i64 (s.t))).setCell ⟨b, 2, none⟩ (.int .i64 (s.x 0))).setCell ⟨b, 3, none⟩ (.int .i64 (s.x 1))).setCell ⟨b, 4, none⟩ (.int .i64 (s.x 2))).setCell ⟨b, 5, none⟩ (.int .i64 (s.x 3))).setCell ⟨b, 6, none⟩ (.int .i64 (s.x 4))).setCell ⟨b, 7, none⟩ (.int .i64 (s.x 5))).setCell ⟨b, 8, none⟩ (.int .i64 (s.y 0))).setCell ⟨b, 9, none⟩ (.int .i64 (s.y 1))).setCell ⟨b, 10, none⟩ (.int .i64 (s.y 2))).setCell ⟨b, 11, none⟩ (.int .i64 (s.y 3))).setCell ⟨b, 12, none⟩ (.int .i64 (s.y 4))).setCell ⟨b, 13, none⟩ (.int .i64 (s.y 5))) := by
  exact ((((((((((((((h.setCell (p := ⟨b, 0, none⟩) hb _).setCell (p := ⟨b, 1, none⟩) hb _).setCell (p := ⟨b, 2, none⟩) hb _).setCell (p := ⟨b, 3, none⟩) hb _).setCell (p := ⟨b, 4, none⟩) hb _).setCell (p := ⟨b, 5, none⟩) hb _).setCell (p := ⟨b, 6, none⟩) hb _).setCell (p := ⟨b, 7, none⟩) hb _).setCell (p := ⟨b, 8, none⟩) hb _).setCell (p := ⟨b, 9, none⟩) hb _).setCell (p := ⟨b, 10, none⟩) hb _).setCell (p := ⟨b, 11, none⟩) hb _).setCell (p := ⟨b, 12, none⟩) hb _).setCell (p := ⟨b, 13, none⟩) hb _)
theorem isSo.all {W : World} {b : Nat} {s : So} (h : isSo W b s) : W.cell? ⟨b, 0, none⟩ = some (.int .i64 (s.v)) ∧ W.cell? ⟨b, 1, none⟩ = some (.int .i64 (s.t)) ∧ W.cell? ⟨b, 2, none⟩ = some (.int .i64 (s.x 0)) ∧ W.cell? ⟨b, 3, none⟩ = some (.int .i64 (s.x 1)) ∧ W.cell? ⟨b, 4, none⟩ = some (.int .i64 (s.x 2)) ∧ W.cell? ⟨b, 5, none⟩ = some (.int .i64 (s.x 3)) ∧ W.cell? ⟨b, 6, none⟩ = some (.int .i64 (s.x 4)) ∧ W.cell? ⟨b, 7, none⟩ = some (.int .i64 (s.x 5)) ∧ W.cell? ⟨b, 8, none⟩ = some (.int .i64 (s.y 0)) ∧ W.cell? ⟨b, 9, none⟩ = some (.int .i64 (s.y 1)) ∧ W.cell? ⟨b, 10, none⟩ = some (.int .i64 (s.y 2)) ∧ W.cell? ⟨b, 11, none⟩ = some (.int .i64 (s.y 3)) ∧ W.cell? ⟨b, 12, none⟩ = some (.int .i64 (s.y 4)) ∧ W.cell? ⟨b, 13, none⟩ = some (.int .i64 (s.y 5)) := by
  unfold isSo at h
  simp [World.cell?, h, soC]
/-- While signs are turned. -/
structure TuF (w W : World) (s : So) (z : So) : Prop where
  bw : Below w.heap.size w W
  so : isSo W w.heap.size s
  re : isSo W (w.heap.size + 1) z
theorem TuF.put {w W : World} {s z : So} (h : TuF w W s z) {i : Nat} (hi : i < 6) (x y : Int) : TuF w ((W.setCell ⟨w.heap.size, 2 + i, none⟩ (.int .i64 x)).setCell ⟨w.heap.size, 8 + i, none⟩ (.int .i64 y)).drew ⟨s.v, s.t, upd s.x i x, upd s.y i y⟩ z := by
  have key : ∀ k, k ≠ w.heap.size → ((W.setCell ⟨w.heap.size, 2 + i, none⟩ (.int .i64 x)).setCell ⟨w.heap.size, 8 + i, none⟩ (.int .i64 y)).drew.heap[k]? = W.heap[k]? := fun k hk => by
    have : w.heap.size ≠ k := fun e => hk e.symm
    simp [World.drew, World.setCell, Array.getElem?_modify, this]
  exact ⟨⟨h.bw.os, h.bw.tape, h.bw.output, by simpa [World.drew, World.setCell] using h.bw.size, fun k hk => (key k (by omega)).trans (h.bw.block k hk)⟩, (((h.so.putX hi x).putY hi y)).keep rfl, h.re.keep (key _ (by omega))⟩
def so0 : So := ⟨0, 0, fun _ => 0, fun _ => 0⟩
theorem ret_val {a b : Value} (h : a = b) : Ending.returned a = .returned b := by rw [h]

set_option maxRecDepth 100000 in
set_option maxHeartbeats 4000000 in
theorem turned_any (s : So) (w : World) : Calls Tryd.prog 61 #[soV s] w fun e w' => e = .returned (soV (negK s 6)) ∧ Below w.heap.size w w' := by
  obtain ⟨W0, hW0⟩ : ∃ W0, W0 = (w.alloc (Obj.cells (soC (negK s 0)).toArray 48 (0, 0))).alloc (Obj.cells (soC so0).toArray 48 (0, 0)) := ⟨_, rfl⟩
  have hF0 : TuF w W0 (negK s 0) so0 := by
    rw [hW0]
    refine ⟨((Below.refl _ w).alloc (Nat.le_refl _) _).alloc (by simp) _, (Below.heap_alloc _ _ _ (by simp)).trans (heap_alloc_new w _), ?_⟩
    have := heap_alloc_new (w.alloc (Obj.cells (soC (negK s 0)).toArray 48 (0, 0))) (Obj.cells (soC so0).toArray 48 (0, 0))
    rw [World.size_alloc] at this
    exact this
  have HR : Hid (Ending.returned (soV (negK s 6)) = Ending.returned (soV (negK s 6))) := hide rfl
  obtain ⟨rv, hrv⟩ : ∃ rv, rv = soV (negK s 6) := ⟨_, rfl⟩
  rw [← hrv]
  have HRV := hide hrv
  have HF0 := hide hF0
  simp only [soC, negK, so0, Nat.not_lt_zero, if_false] at hW0
  have HW0 := hide hW0
  clear hW0 hF0 hrv HR
  unfold soV
  simp only [soC]
  go_enter Tryd.func61, Tryd.ntmps61
  go_wp2_with fail
  rw [← unhide HW0]
  clear HW0
  go_loopw [12] (fun iv wr => ∃ k : Nat, k ≤ 6 ∧ iv = .int .i64 (k : Int) ∧ Hid (TuF w wr (negK s k) so0)) (fun iv _ => 6 - (intOf iv).toNat)
  case atStart => exact ⟨0, by omega, rfl, HF0⟩
  case round =>
    obtain ⟨k, hk, rfl, HF⟩ := hrel
    rename World => wr
    clear HF0
    by_cases hlt : k < 6
    · have hlti : (k : Int) < 6 := by omega
      have hk0 : (0 : Int) ≤ (k : Int) := by omega
      obtain ⟨-, cx, cy, cf⟩ := (unhide HF).so.cells
      have c1 := cx k hlt
      have c2 := cy k hlt
      have f1 := cf (2 + k)
      have f2 := cf (8 + k)
      simp only [negK, Nat.lt_irrefl, if_false] at c1 c2
      obtain ⟨x, hx⟩ : ∃ x, x = s.x k := ⟨_, rfl⟩
      obtain ⟨y, hy⟩ : ∃ y, y = s.y k := ⟨_, rfl⟩
      rw [← hx] at c1
      rw [← hy] at c2
      have HN : Hid (TuF w ((wr.setCell ⟨w.heap.size, 2 + k, none⟩ (.int .i64 (wrap64 (-x)))).setCell ⟨w.heap.size, 8 + k, none⟩ (.int .i64 (wrap64 (-y)))).drew (negK s (k + 1)) so0) := hide (by
        have := (unhide HF).put hlt (wrap64 (-x)) (wrap64 (-y))
        rw [negK_next, ← hx, ← hy]
        exact this)
      have c2' : (wr.setCell ⟨w.heap.size, 2 + k, none⟩ (.int .i64 (wrap64 (-x)))).cell? ⟨w.heap.size, 8 + k, none⟩ = some (.int .i64 y) := by
        rw [World.cell?_setCell_other _ _ _ _ (by intro e; simp at e)]; exact c2
      clear cx cy cf hx hy HF
      go_wp2_with fail
      go_region
      go_wp2
      go_roundw
      case rel => exact ⟨k + 1, by omega, by go_num, HN⟩
      case measure => simp only [intOf]; omega
    · have hlti : ¬ (k : Int) < 6 := by omega
      obtain rfl : k = 6 := by omega
      obtain ⟨z, hz⟩ : ∃ z, z = negK s 6 := ⟨_, rfl⟩
      rw [← hz] at HF HRV
      obtain ⟨c0, c1, c2, c3, c4, c5, c6, c7, c8, c9, c10, c11, c12, c13⟩ := (unhide HF).so.all
      obtain ⟨r0, r1, r2, r3, r4, r5, r6, r7, r8, r9, r10, r11, r12, r13⟩ := (unhide HF).re.all
      obtain ⟨-, -, -, fr⟩ := (unhide HF).re.cells
      have fz0 := fr 0
      have fz1 := fr 1
      have fz2 := fr 2
      have fz3 := fr 3
      have fz4 := fr 4
      have fz5 := fr 5
      have fz6 := fr 6
      have fz7 := fr 7
      have fz8 := fr 8
      have fz9 := fr 9
      have fz10 := fr 10
      have fz11 := fr 11
      have fz12 := fr 12
      have fz13 := fr 13
      have HE := hide (below14 (unhide HF).bw (by omega : w.heap.size ≤ w.heap.size + 1) z)
      have HI := hide ((unhide HF).re.put14 z)
      obtain ⟨wz, hwz⟩ : ∃ wz, wz = ((((((((((((((wr.setCell ⟨w.heap.size + 1, 0, none⟩ (.int .i64 (z.v))).setCell ⟨w.heap.size + 1, 1, none⟩ (.int .i64 (z.t))).setCell ⟨w.heap.size + 1, 2, none⟩ (.int .i64 (z.x 0))).setCell ⟨w.heap.size + 1, 3, none⟩ (.int .i64 (z.x 1))).setCell ⟨w.heap.size + 1, 4, none⟩ (.int .i64 (z.x 2))).setCell ⟨w.heap.size + 1, 5, none⟩ (.int .i64 (z.x 3))).setCell ⟨w.heap.size + 1, 6, none⟩ (.int .i64 (z.x 4))).setCell ⟨w.heap.size + 1, 7, none⟩ (.int .i64 (z.x 5))).setCell ⟨w.heap.size + 1, 8, none⟩ (.int .i64 (z.y 0))).setCell ⟨w.heap.size + 1, 9, none⟩ (.int .i64 (z.y 1))).setCell ⟨w.heap.size + 1, 10, none⟩ (.int .i64 (z.y 2))).setCell ⟨w.heap.size + 1, 11, none⟩ (.int .i64 (z.y 3))).setCell ⟨w.heap.size + 1, 12, none⟩ (.int .i64 (z.y 4))).setCell ⟨w.heap.size + 1, 13, none⟩ (.int .i64 (z.y 5))) := ⟨_, rfl⟩
      rw [← hwz] at HE HI
      have HWZ := hide hwz
      clear hwz hz fr HF
      go_wp2_with fail
      rw [← unhide HWZ]
      clear HWZ c0 r0 c1 r1 c2 r2 c3 r3 c4 r4 c5 r5 c6 r6 c7 r7 c8 r8 c9 r9 c10 r10 c11 r11 c12 r12 c13 r13 fz0 fz1 fz2 fz3 fz4 fz5 fz6 fz7 fz8 fz9 fz10 fz11 fz12 fz13
      obtain ⟨c0, c1, c2, c3, c4, c5, c6, c7, c8, c9, c10, c11, c12, c13⟩ := (unhide HI).all
      go_wp2
      refine bodyPost_ret (v := soV z) (by simp [results, Tryd.results61, go_sem, soV, soC, c0, c1, c2, c3, c4, c5, c6, c7, c8, c9, c10, c11, c12, c13]) rfl ?_
      exact ⟨ret_val (unhide HRV).symm, unhide HE⟩
end Go.Proofs.YthplbfjpmnpjmaaDoor
