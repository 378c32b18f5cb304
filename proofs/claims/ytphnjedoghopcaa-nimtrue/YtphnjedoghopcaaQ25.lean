/-
  package nim, walked: leave.
-/
import Derived.Test.YtphnjedoghopcaaQ24
namespace Go.Proofs.Ytphnjedoghopcaa
open Go.RowKit
attribute [local go_sem ↓] Go.wp_at_zero Go.wp_at_succ

theorem isSb.fr {w w' : World} {b gf gv : Nat} {v : Value} {t : TypeId} (h : isSb w b v t) (hf : Fr2 gf gv w w') (h1 : b ≠ gf) (h2 : b ≠ gv) : isSb w' b v t := (hf.block b h.lt h1 h2).trans h
theorem isSb.put_other {w : World} {b g : Nat} {v : Value} {t : TypeId} (h : isSb w b v t) (hn : b ≠ g) (i : Nat) (v' : Value) : isSb (w.setCell ⟨g, i, none⟩ v') b v t := (Below.heap_setCell _ _ _ _ (by simp only; omega)).trans h
/-- What leave has found. -/
def lI (p : List Nat → Bool) (b8 b9 : Nat) (w0 : World) (P : List (List Nat)) (u : World) : Prop :=
  ∃ fv ok, isSb u b8 fv 22 ∧ isSb u b9 (.bool ok) 4 ∧ Fr2 b8 b9 w0 u ∧
    (((∀ y ∈ P, p y = false) ∧ ok = false ∧ fv = .slice none 0 0) ∨ ∃ P' x ao cap, P = P' ++ [x] ∧ p x = true ∧ ok = true ∧ fv = .slice ao x.length cap ∧ isIs u u.heap.size ao cap (natI x) ∧ ∀ k, (Value.slice ao x.length cap).ownBlock = some k → w0.heap.size ≤ k)
theorem lI.alloc {p : List Nat → Bool} {b8 b9 : Nat} {w0 : World} {P : List (List Nat)} {u : World} (h : lI p b8 b9 w0 P u) (o : Obj) : lI p b8 b9 w0 P (u.alloc o) := by
  obtain ⟨fv, ok, h1, h2, h3, h4⟩ := h
  refine ⟨fv, ok, (Below.heap_alloc _ _ _ h1.lt).trans h1, (Below.heap_alloc _ _ _ h2.lt).trans h2, h3.alloc o, ?_⟩
  rcases h4 with h4 | ⟨P', x, ao, cap, e, hp, ho, hf, hi, hw⟩
  · exact .inl h4
  · exact .inr ⟨P', x, ao, cap, e, hp, ho, hf, hi.up ((Below.refl _ _).alloc (Nat.le_refl _) o), hw⟩

set_option maxHeartbeats 2000000 in
set_option maxRecDepth 100000 in
theorem close2_any (W : List Nat) (hW : ∀ i : Nat, W[i]! < 4096) (q : Nat) (b6 b7 b8 b9 B : Nat) (w0 : World) (wo ao : Option Addr) (wc cap : Nat) (P : List (List Nat)) (x : List Nat) (u : World) (h89 : b8 ≠ b9) (h8 : b8 < w0.heap.size) (h9 : b9 < w0.heap.size)
    (h7 : isSb u b7 (.slice wo W.length wc) 48) (h6 : isSb u b6 (.int .i64 (q : Int)) 3) (hWm : isIs u B wo wc (natI W)) (hx : isIs u u.heap.size ao cap (natI x)) (hno : ao = none → cap = 0) (hlt : ∀ y ∈ x, y < W.length) (hxl : x.length ≤ 2)
    (hP : ∀ y ∈ P, decide (xorL W y = q) = false) (hI : lI (fun y => decide (xorL W y = q)) b8 b9 w0 P u) :
    Calls Try.prog 38 #[.slice ao x.length cap, .pointer (some ⟨b7, 0, none⟩), .pointer (some ⟨b6, 0, none⟩), .pointer (some ⟨b9, 0, none⟩), .pointer (some ⟨b8, 0, none⟩)] u
      fun e u' => e = .returned (.bool (decide (xorL W x = q))) ∧ lI (fun y => decide (xorL W y = q)) b8 b9 w0 (P ++ [x]) u' := by
  obtain ⟨fv, ok, g8, g9, gf, gst⟩ := hI
  have gst : ok = false ∧ fv = .slice none 0 0 := by
    rcases gst with h | ⟨P', y, _, _, e, hp, -⟩
    · exact h.2
    · have := hP y (by rw [e]; simp)
      simp only at hp
      rw [this] at hp; cases hp
  obtain ⟨rfl, rfl⟩ := gst
  obtain ⟨X, hX⟩ : ∃ X, X = xorL W x := ⟨_, rfl⟩
  have hOF := of_any B u.heap.size wo ao wc cap W x u.drew hWm hx hlt hW
  rw [← hX] at hOF ⊢
  obtain ⟨b, hb⟩ : ∃ b, decide (X = q) = b := ⟨_, rfl⟩
  have hbe : ((X : Int) == (q : Int)) = b := by
    rw [← hb]; exact Bool.eq_iff_iff.2 (by simp; omega)
  rw [hb]
  have c7 : u.drew.cell? ⟨b7, 0, none⟩ = some (.slice wo W.length wc) := h7.cell.1
  have c6 : u.drew.cell? ⟨b6, 0, none⟩ = some (.int .i64 (q : Int)) := h6.cell.1
  have c9 : u.drew.cell? ⟨b9, 0, none⟩ = some (.bool false) := g9.cell.1
  have f9 : u.drew.frozen? ⟨b9, 0, none⟩ = false := g9.cell.2
  obtain ⟨u1, hu1⟩ : ∃ u1, u1 = (u.setCell ⟨b9, 0, none⟩ (.bool b)).drew := ⟨_, rfl⟩
  have gd9 : isSb u.drew b9 (.bool false) 4 := g9
  have gd8 : isSb u.drew b8 (.slice none 0 0) 22 := g8
  have k9 : isSb u1 b9 (.bool b) 4 := by rw [hu1]; exact g9.put _
  have k8 : isSb u1 b8 (.slice none 0 0) 22 := by rw [hu1]; exact g8.put_other h89 0 _
  have hsz1 : u1.heap.size = u.heap.size := by rw [hu1]; simp [World.setCell]
  have kf : Fr2 b8 b9 w0 u1 := by rw [hu1]; exact (gf.put (.inr (.inl rfl)) _ _).trans ⟨rfl, rfl, rfl, Nat.le_refl _, fun _ _ _ _ => rfl⟩
  have hcell : ∀ (j : Nat) (y : Int), (natI x)[j]? = some y → ∀ g off, ao = some ⟨g, off, none⟩ → g ≠ b9 → True := fun _ _ _ _ _ _ _ => trivial
  have hx1 : isIs u1 u1.heap.size ao cap (natI x) := by
    obtain ⟨q1, q2, q3⟩ := hx
    refine ⟨q1, q2, fun hne => ?_⟩
    obtain ⟨g, off, e, hg, hc⟩ := q3 hne
    refine ⟨g, off, e, by rw [hsz1]; exact hg, fun k y hy => ?_⟩
    have hgb : g ≠ b9 := by
      rintro rfl
      have h0 := hc k y hy
      unfold isSb at g9
      rw [cell_of_row _ _ _ _ _ _ g9] at h0
      cases k with
      | zero =>
        cases off with
        | zero => simp at h0
        | succ o => simp at h0
      | succ k => simp at h0
    rw [hu1]
    exact (World.cell?_of_block (w := u) (a := ⟨g, off + k, none⟩) (Below.heap_setCell _ _ _ _ (by simp only; omega))).trans (hc k y hy)
  have HOF := hide hOF
  have HX := hide hX
  have HU1 := hide hu1
  have HK9 := hide k9
  have HK8 := hide k8
  have HKF := hide kf
  have HP := hide hP
  have HB := hide hb
  have d9 := k9.cell.1
  clear hOF hX hWm hx hcell g8 g9 gf gd8 gd9 k9 k8 kf hP h7 h6 hlt hW hb hu1
  cases b with
  | false =>
    have HFIN : Hid (lI (fun y => decide (xorL W y = q)) b8 b9 w0 (P ++ [x]) u1) := hide ⟨_, _, unhide HK8, unhide HK9, unhide HKF, .inl ⟨fun y hy => by
      rcases List.mem_append.1 hy with hy | hy
      · exact unhide HP y hy
      · simp only [List.mem_singleton] at hy
        subst hy
        simp only
        rw [← unhide HX]; exact unhide HB, rfl, rfl⟩⟩
    go_enter Try.func38, Try.ntmps38
    go_upto_region 1 with fail
    go_region_law (refine step_call rfl 30 #[.tmp 7, .tmp 8] #[48, 22] rfl #[.slice wo W.length wc, .slice ao x.length cap] (by simp [Act.eval]) entOf (unhide HOF) ?_; rintro e1 w1 ⟨rfl, rfl⟩; refine ⟨_, rfl, ?_⟩)
    all_goals rw [← unhide HU1]
    all_goals go_wp2
    all_goals go_ret
    all_goals exact ⟨rfl, unhide HFIN⟩
  | true =>
    have HCL := hide (Clone_any ao cap (natI x) u1 hx1 (by rw [natI_len]; omega) hno)
    rw [natI_len] at HCL
    have HPX : Hid (decide (xorL W x = q) = true) := hide (by rw [← unhide HX]; exact unhide HB)
    go_enter Try.func38, Try.ntmps38
    go_upto_region 1 with fail
    go_region_law (refine step_call rfl 30 #[.tmp 7, .tmp 8] #[48, 22] rfl #[.slice wo W.length wc, .slice ao x.length cap] (by simp [Act.eval]) entOf (unhide HOF) ?_; rintro e1 w1 ⟨rfl, rfl⟩; refine ⟨_, rfl, ?_⟩)
    all_goals rw [← unhide HU1]
    all_goals
      go_wp2_with fail
      refine (unhide HCL).mono ?_
      rintro e w3 ⟨hb3, fo, fc, rfl, hfi, hfw⟩
      rw [natI_len] at hfw ⊢
      have m8 : isSb w3 b8 (.slice none 0 0) 22 := (hb3.block _ (unhide HK8).lt).trans (unhide HK8)
      have m9 : isSb w3 b9 (.bool true) 4 := (hb3.block _ (unhide HK9).lt).trans (unhide HK9)
      obtain ⟨e8, f8⟩ := m8.cell
      have n9 : isSb (w3.setCell ⟨b8, 0, none⟩ (.slice fo x.length fc)) b9 (.bool true) 4 := m9.put_other (fun h => h89 h.symm) 0 _
      have e9 := n9.cell.1
      have HFIN : Hid (lI (fun y => decide (xorL W y = q)) b8 b9 w0 (P ++ [x]) (w3.setCell ⟨b8, 0, none⟩ (.slice fo x.length fc))) := hide (by
        refine ⟨_, _, m8.put _, n9, ((unhide HKF).trans (.of hb3)).put (.inl rfl) _ _, .inr ⟨P, x, fo, fc, rfl, unhide HPX, rfl, rfl, ?_, fun k hk => Nat.le_trans (unhide HKF).size (hfw k hk)⟩⟩
        obtain ⟨q1, q2, q3⟩ := hfi
        refine ⟨q1, q2, fun hne => ?_⟩
        obtain ⟨g, off, e, hg, hc⟩ := q3 hne
        refine ⟨g, off, e, by rw [show (w3.setCell ⟨b8, 0, none⟩ (.slice fo x.length fc)).heap.size = w3.heap.size by simp [World.setCell]]; exact hg, fun k y hy => ?_⟩
        have hgb : g ≠ b8 := by
          rintro rfl
          have h0 := hc k y hy
          unfold isSb at m8
          rw [cell_of_row _ _ _ _ _ _ m8] at h0
          cases k with
          | zero =>
            cases off with
            | zero => simp at h0
            | succ o => simp at h0
          | succ k => simp at h0
        rw [World.cell?_of_block (w := w3) (a := ⟨g, off + k, none⟩) (Below.heap_setCell _ _ _ _ (by simp only; omega))]
        exact hc k y hy)
      clear hb3 hfi hfw m8 m9 n9
      go_wp2
      go_ret
      exact ⟨rfl, unhide HFIN⟩
end Go.Proofs.Ytphnjedoghopcaa
