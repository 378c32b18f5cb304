/-
  package matrix, walked: solutionOf.
  Contracts of the library, at this program: one application each.
-/
import Derived.Test.YthplbfjpmnpjmaaDoorJ34
import Derived.Shelf.Strconv.Itoa4
import Derived.Test.YthplbfjpmnpjmaaDoorProg
namespace Go.Proofs.YthplbfjpmnpjmaaDoor
open Go.RowKit Go.Shelf Lp
attribute [local go_sem] Oper.semAt_some

theorem lev0_bnd {A : Nat → Nat → Int} (hA : ∀ i j, (A i j).natAbs ≤ 100) {r c : Nat} (hr : r < 64) (hc : c < 64) : (lev0 A r c).v.natAbs ≤ 46656000000000000 ∧ (lev0 A r c).t.natAbs ≤ 2799360000000000 ∧ (∀ i, ((lev0 A r c).x i).natAbs ≤ 466560000000000) ∧ (∀ i, ((lev0 A r c).y i).natAbs ≤ 466560000000000) ∧ (∀ i, 6 ≤ i → (lev0 A r c).x i = 0) ∧ ∀ i, 6 ≤ i → (lev0 A r c).y i = 0 := by
  have lr : (mem r).length ≤ 6 := sz_le r hr
  have lc : (mem c).length ≤ 6 := sz_le c hc
  have out : ∀ s, s < 64 → ∀ k, 6 ≤ k → s.testBit k = false := fun s hs k hk => Nat.testBit_lt_two_pow (Nat.lt_of_lt_of_le hs (Nat.pow_le_pow_right (n := 2) (by omega) hk))
  have hrow : ∀ i, i < 6 → r.testBit i = true → (lI (mem c) (cf A r c i)).natAbs ≤ 466560000000000 := fun i hi bi => by
    have h1 := lI_nab (L := mem c) (f := cf A r c i) (B := 77760000000000) (fun j hj => cf_bnd hA hr hc hi ((mem_lt c j).1 hj).1 bi)
    have h2 := Nat.mul_le_mul_left 77760000000000 lc
    omega
  have hcol : ∀ j, j < 6 → c.testBit j = true → (lI (mem r) (fun i => cf A r c i j)).natAbs ≤ 466560000000000 := fun j hj _ => by
    have h1 := lI_nab (L := mem r) (f := fun i => cf A r c i j) (B := 77760000000000) (fun i hi => cf_bnd hA hr hc ((mem_lt r i).1 hi).1 hj ((mem_lt r i).1 hi).2)
    have h2 := Nat.mul_le_mul_left 77760000000000 lr
    omega
  refine ⟨?_, ?_, fun i => ?_, fun j => ?_, fun i hi => ?_, fun j hj => ?_⟩
  · refine Nat.le_trans (mn_bnd hA (sz r) r hr rfl c hc) ?_
    exact Nat.pow_le_pow_right (n := 600) (by omega) (sz_le r hr)
  · have h1 := lI_nab (L := mem r) (f := fun i => lI (mem c) (cf A r c i)) (B := 466560000000000) (fun i hi => hrow i ((mem_lt r i).1 hi).1 ((mem_lt r i).1 hi).2)
    have h2 := Nat.mul_le_mul_left 466560000000000 lr
    simp only [lev0]
    omega
  · simp only [lev0]
    split
    · rename_i bi
      rcases Nat.lt_or_ge i 6 with h6 | h6
      · exact hrow i h6 bi
      · rw [out r hr i h6] at bi; cases bi
    · decide
  · simp only [lev0]
    split
    · rename_i bj
      rcases Nat.lt_or_ge j 6 with h6 | h6
      · exact hcol j h6 bj
      · rw [out c hc j h6] at bj; cases bj
    · decide
  · simp only [lev0]; rw [out r hr i hi]; rfl
  · simp only [lev0]; rw [out c hc j hj]; rfl
/-- What is known of a solution that a part makes. -/
structure SoK (z : So) : Prop where
  v : z.v.natAbs ≤ 46656000000000000
  t : z.t.natAbs ≤ 2799360000000000
  pos : 0 ≤ z.t
  b : HoB z
theorem lvR_lev {A : Nat → Nat → Int} (hA : ∀ i j, (A i j).natAbs ≤ 100) {r c : Nat} (hr : r < 64) (hc : c < 64) : lvR (lev0 A r c) = lev A r c ∧ SoK (lev A r c) := by
  obtain ⟨h1, h2, h3, h4, h5, h6⟩ := lev0_bnd hA hr hc
  by_cases ht : (lev0 A r c).t < 0
  · have e : lev A r c = (lev0 A r c).neg := by unfold lev; rw [if_pos ht]
    rw [e]
    refine ⟨?_, by simp only [So.neg]; omega, by simp only [So.neg]; omega, by simp only [So.neg]; omega, fun i => ?_⟩
    · unfold lvR
      rw [if_pos ht]
      refine So.ext' (wrap_id (by omega)) (wrap_id (by omega)) (fun i => ?_) (fun i => ?_)
      · simp only [negK, So.neg]
        split
        · exact wrap_id (by have := h3 i; omega)
        · rw [h5 i (by omega)]; rfl
      · simp only [negK, So.neg]
        split
        · exact wrap_id (by have := h4 i; omega)
        · rw [h6 i (by omega)]; rfl
    · have := h3 i
      have := h4 i
      simp only [So.neg]
      omega
  · have e : lev A r c = lev0 A r c := by unfold lev; rw [if_neg ht]
    rw [e]
    refine ⟨by unfold lvR; rw [if_neg ht], h1, h2, by omega, fun i => ?_⟩
    have := h3 i
    have := h4 i
    omega

theorem lI_zero (L : List Nat) : lI L (fun _ => 0) = 0 := by
  induction L with
  | nil => rfl
  | cons x L ih => rw [lI_cons, ih]; rfl
theorem lI_add (f g : Nat → Int) : ∀ (L : List Nat), lI L (fun x => f x + g x) = lI L f + lI L g
  | [] => rfl
  | x :: L => by rw [lI_cons, lI_cons, lI_cons, lI_add f g L]; omega
theorem lI_swap (f : Nat → Nat → Int) (M : List Nat) : ∀ (L : List Nat), lI L (fun i => lI M (f i)) = lI M (fun j => lI L (fun i => f i j))
  | [] => by rw [show (fun j => lI [] (fun i => f i j)) = fun _ => (0 : Int) from rfl, lI_zero]; rfl
  | x :: L => by
    rw [lI_cons, lI_swap f M L, ← lI_add]
    rfl
/-- Rows and columns each come to the total. -/
structure SoS (m N : Nat) (z : So) : Prop where
  x : lI (List.range m) z.x = z.t
  y : lI (List.range N) z.y = z.t
theorem lev_sums (A : Nat → Nat → Int) {m N r c : Nat} (hm : m ≤ 6) (hN : N ≤ 6) (hr : r < 2 ^ m) (hc : c < 2 ^ N) : SoS m N (lev A r c) := by
  have h0 : SoS m N (lev0 A r c) := by
    refine ⟨?_, ?_⟩
    · rw [lI_part hm hr _ (fun i hi => by simp [lev0, hi])]
      exact lI_congr fun i hi => by simp only [lev0, ((mem_lt r i).1 hi).2, if_true]
    · rw [lI_part hN hc _ (fun i hi => by simp [lev0, hi])]
      simp only [lev0]
      rw [lI_swap]
      exact lI_congr fun i hi => by simp only [((mem_lt c i).1 hi).2, if_true]
  unfold lev
  split
  · refine ⟨?_, ?_⟩
    · simp only [So.neg]; rw [lI_neg, h0.x]
    · simp only [So.neg]; rw [lI_neg, h0.y]
  · exact h0

/-- What stays while parts are looked at. -/
structure SlF (w W : World) (v : Value) (n3 b : Nat) (T : Nat → Nat → Int) : Prop where
  bw : Below w.heap.size w W
  ba : Boxed W w.heap.size 22 v
  re : isSo W (w.heap.size + 1) so0
  bm : Boxed W n3 63 (.pointer (some ⟨b, 0, none⟩))
  bs : Boxed W (n3 + 1) 22 v
  mn : isMn W b T
section
variable {w W W' : World} {v : Value} {n3 b : Nat} {T : Nat → Nat → Int}
theorem SlF.grown (h : SlF w W v n3 b T) (hn : w.heap.size + 2 ≤ n3) (hb : b < n3) {ob : Option Nat} (hg : W.grownBy W' ob) (ho : ∀ k, ob = some k → n3 + 2 ≤ k) : SlF w W' v n3 b T := by
  have hs := h.bs.lt
  have key : ∀ k, k ≤ n3 + 1 → W'.heap[k]? = W.heap[k]? := fun k hk => hg.block k (by omega) (fun e => by have := ho k e.symm; omega)
  exact ⟨⟨hg.os.trans h.bw.os, hg.tape.trans h.bw.tape, hg.output.trans h.bw.output, Nat.le_trans h.bw.size hg.size, fun k hk => (key k (by omega)).trans (h.bw.block k hk)⟩, (key _ (by omega)).trans h.ba, h.re.keep (key _ (by omega)), (key _ (by omega)).trans h.bm, (key _ (by omega)).trans h.bs, h.mn.keep (key _ (by omega))⟩
theorem SlF.below (h : SlF w W v n3 b T) (hn : w.heap.size + 2 ≤ n3) (hb : b < n3) (hw : Below W.heap.size W W') : SlF w W' v n3 b T := h.grown hn hb (ob := none) ⟨hw.os, hw.tape, hw.output, hw.size, fun k hk _ => hw.block k hk⟩ (fun k e => by cases e)
end
/-- What solutionOf leaves. -/
structure SoE (m N : Nat) (A : Nat → Nat → Int) (w : World) (e : Ending) (w' : World) : Prop where
  bw : Below w.heap.size w w'
  out : ∃ z, e = .returned (soV z) ∧ SoK z ∧ (hol m N A z ∧ SoS m N z)

set_option maxRecDepth 100000 in
set_option maxHeartbeats 8000000 in
theorem solutionOf_any (G : List (List Int)) (ao : Option Addr) (cap m N : Nat) (w : World) (hd : isDb w) (h : isMx w w.heap.size ao cap G) (hm : G.length = m) (hm1 : 1 ≤ m) (hm6 : m ≤ 6) (hN1 : 1 ≤ N) (hN6 : N ≤ 6) (hrow : ∀ r ∈ G, r.length = N) (hA : ∀ i j, (atG G i j).natAbs ≤ 100) :
    Calls Tryd.prog 17 #[.slice ao m cap] w (SoE m N (atG G) w) := by
  have h2w := hd.lt
  have hmk : ∀ u, Below w.heap.size w u → isMx u u.heap.size ao cap G := fun u hu => by
    have h1 := h.below hu (Nat.le_refl _)
    exact ⟨h1.le, h1.most, h1.nil, fun hl => by
      obtain ⟨g, off, e, hg, hc⟩ := h1.cells hl
      exact ⟨g, off, e, Nat.lt_of_lt_of_le hg hu.size, fun i r hr => by
        obtain ⟨ro, rc, a1, a2⟩ := hc i r hr
        exact ⟨ro, rc, a1, ⟨a2.le, a2.most, a2.nil, a2.fit, fun hl2 => by
          obtain ⟨g2, off2, e2, hg2, hc2⟩ := a2.cells hl2
          exact ⟨g2, off2, e2, Nat.lt_of_lt_of_le hg2 hu.size, hc2⟩⟩⟩⟩⟩
  have HMO : Hid (∀ u, Below w.heap.size w u → Calls Tryd.prog 31 #[.slice ao m cap] u fun e w' => ∃ b T, e = .returned (.pointer (some ⟨b, 0, none⟩)) ∧ isMn w' b T ∧ RT m N (atG G) (allP m N) T ∧ u.heap.size ≤ b ∧ Below u.heap.size u w') := hide (fun u hu => minorsOf_any G ao cap m N u (hd.below hu h2w) (hmk u hu) hm hm1 hm6 hN6 hrow hA)
  have HHO : Hid (∀ z u, HoB z → Below w.heap.size w u → Calls Tryd.prog 34 #[soV z, .slice ao m cap] u (HoE m N (atG G) z u)) := hide (fun z u hz hu => holds_any z hz G ao cap m N u (hmk u hu) hm hm1 hm6 hN1 hN6 hrow hA)
  have HFI := hide (fitsI m N hm1 hm6 hN1 hN6 (atG G))
  obtain ⟨g, off, rfl, hg, ⟨ro, rc, hc0⟩, -⟩ := mx_at h (fun e => by rw [e] at hm; simp at hm; omega) hrow
  obtain ⟨A, hAe⟩ : ∃ A, A = atG G := ⟨_, rfl⟩
  rw [← hAe] at HMO HHO HFI hA ⊢
  have HA := hide hA
  have hcap2 := h.most
  have hcap1 := h.le
  rw [hm] at hcap1
  unfold maxLen at hcap2
  clear h hmk hm hrow hAe hA
  obtain ⟨W1, hW1⟩ : ∃ W1, W1 = (w.alloc (Obj.cells #[Value.slice (some ⟨g, off, none⟩) m cap] 22)).alloc (Obj.cells (soC so0).toArray 48 (0, 0)) := ⟨_, rfl⟩
  have hs1 : W1.heap.size = w.heap.size + 2 := by rw [hW1]; simp
  have hb1 : Below w.heap.size w W1 := by rw [hW1]; exact ((Below.refl _ w).alloc (Nat.le_refl _) _).alloc (by simp) _
  have ba1 : Boxed W1 w.heap.size 22 (.slice (some ⟨g, off, none⟩) m cap) := by rw [hW1]; exact (Boxed.new w _ _).alloc _
  have re1 : isSo W1 (w.heap.size + 1) so0 := by
    have := heap_alloc_new (w.alloc (Obj.cells #[Value.slice (some ⟨g, off, none⟩) m cap] 22)) (Obj.cells (soC so0).toArray 48 (0, 0))
    rw [World.size_alloc] at this
    rw [hW1]; exact this
  have C1 := unhide HMO W1 hb1
  have ca1 := ba1.cell
  simp only [soC, so0] at hW1
  have HW1 := hide hW1
  clear hW1 HMO
  refine (callsIn_wide (n := 8)).1 ?_
  refine callsIn_of_wp_marks Tryd.func17 rfl trivial ?_ rfl
  simp only [Tryd.ntmps17, List.size_toArray, List.length_cons, List.length_nil, Nat.reduceAdd, Nat.reduceSub, Array.replicate_succ, Array.replicate_zero, List.push_toArray, List.append_toArray, List.nil_append, List.cons_append]
  gi_wp2_with fail
  refine ⟨trivial, ?_⟩
  rw [← unhide HW1]
  clear HW1
  refine (callsIn_wide.2 C1).mono ?_
  rintro e W2 ⟨b, T, rfl, hmn, hRT, hbs, hb2⟩
  obtain ⟨n3, hn3⟩ : ∃ n3, n3 = W2.heap.size := ⟨_, rfl⟩
  have hn3' : w.heap.size + 2 ≤ n3 := by have := hb2.size; omega
  have hbn3 : b < n3 := by rw [hn3]; exact hmn.lt
  have ca2 : ∀ o, (W2.alloc o).cell? ⟨w.heap.size, 0, none⟩ = some (.slice (some ⟨g, off, none⟩) m cap) := fun o => (cell_block (Below.heap_alloc _ _ _ (by omega)) _).trans ((hb2.cell (p := ⟨w.heap.size, 0, none⟩) (by dsimp only; omega)).trans ca1)
  clear C1
  gi_wp2_with (refine ⟨trivial, ?_⟩; gi_at_call 32; refine (callsIn_wide.2 (parts_any _ _ _ _)).mono ?_; rintro e w' ⟨rfl, rfl⟩)
  obtain ⟨W0, hW0⟩ : ∃ W0, (W2.alloc (Obj.cells #[Value.pointer (some ⟨b, 0, none⟩)] 63)).alloc (Obj.cells #[Value.slice (some ⟨g, off, none⟩) m cap] 22) = W0 := ⟨_, rfl⟩
  have hsz : W0.heap.size = n3 + 2 := by rw [← hW0, hn3]; simp
  have hF0 : SlF w W0 (.slice (some ⟨g, off, none⟩) m cap) n3 b T := by
    have key : ∀ k, k < n3 → W0.heap[k]? = W2.heap[k]? := fun k hk => by rw [← hW0]; exact (Below.heap_alloc _ _ _ (by simp; omega)).trans (Below.heap_alloc _ _ _ (by omega))
    have hbA : Below w.heap.size W2 W0 := by rw [← hW0]; exact ((Below.refl _ W2).alloc (by omega) _).alloc (by simp; omega) _
    have k2 : ∀ k, k < w.heap.size + 2 → W0.heap[k]? = W1.heap[k]? := fun k hk => (key k (by omega)).trans (hb2.block k (by omega))
    refine ⟨(hb1.trans (hb2.mono (by omega))).trans hbA, (k2 _ (by omega)).trans ba1, re1.keep (k2 _ (by omega)), ?_, ?_, hmn.keep (key _ hbn3)⟩
    · rw [← hW0, hn3]; exact (Boxed.new W2 _ _).alloc _
    · have := Boxed.new (W2.alloc (Obj.cells #[Value.pointer (some ⟨b, 0, none⟩)] 63)) 22 (.slice (some ⟨g, off, none⟩) m cap)
      rw [World.size_alloc] at this
      rw [← hW0, hn3]; exact this
  rw [hW0]
  rw [← hn3]
  clear hW0 ca2 hb2 hmn ba1 re1 hb1 ca1 hn3
  have hPa : isPa W0 w.heap.size (n3 + 1) g off cap m N ro rc := ⟨hg, hF0.bs.cell, (hF0.bw.cell (p := ⟨g, off, none⟩) hg).trans hc0⟩
  refine wpIn_rangeFunc_ownH rfl (by omega) (gf := 58) (lb := #[.pointer (some ⟨n3 + 1, 0, none⟩)]) rfl trivial (enters_of Tryd.func58 (by kernel_rfl) rfl)
    (prt_stops _ (by omega) (n3 + 1) w.heap.size g off cap m N ro rc hm1 hm6 hN6 W0 (by omega) (by omega) hPa) (fun h k => KpB.trans h k) (fun W l o o' => KpB.put (by omega) (by omega) W l o o') (Below.refl _ _) (fun _ => rfl)
    (fun pre W => SlF w W (.slice (some ⟨g, off, none⟩) m cap) n3 b T ∧ ∀ p ∈ pre, ¬ hol m N A (lev A p.1.1 p.1.2))
    (fun cd _ W => cd = .ret ∧ ∃ z, isSo W (w.heap.size + 1) z ∧ SoK z ∧ (hol m N A z ∧ SoS m N z) ∧ Below w.heap.size w W)
    (fun s X Y row hs hgw hr => ⟨hs.1.grown hn3' hbn3 hgw (fun k e => by have := (hr k e).1; omega), hs.2⟩)
    (fun cd s X Y row hs hgw hr => by
      obtain ⟨h1, z, h2, h3, h4, h5⟩ := hs
      refine ⟨h1, z, h2.keep (hgw.block _ h2.lt (fun e => by have := (hr _ e.symm).1; omega)), h3, h4, ?_⟩
      exact ownFrom_below (β := Unit) (n₀ := w.heap.size) (B := W0.heap.size) (Nat.le_refl _) (by omega) () X Y row h5 hgw hr)
    ⟨hF0, by simp⟩
    (fun x a' _ => a' = { tmps := #[.slice (some ⟨g, off, none⟩) m cap, .pointer (some ⟨w.heap.size, 0, none⟩), .pointer (some ⟨w.heap.size + 1, 0, none⟩), .pointer (some ⟨n3, 0, none⟩), .int .u64 (x.1.1 : Int), .int .u64 (x.1.2 : Int), undef, .slice (some ⟨g, off, none⟩) m cap, .pointer (some ⟨b, 0, none⟩), .slice (some ⟨g, off, none⟩) m cap, .func (.func 58) #[] #[.pointer (some ⟨n3 + 1, 0, none⟩)], .int .u64 (x.1.1 : Int), .int .u64 (x.1.2 : Int), undef, undef, undef, undef, undef, undef, undef, undef, undef], defers := [] })
    (fun _ _ _ _ _ _ hs _ _ => hs)
    ?assign ?body ?done ?stop
  case assign =>
    rintro l pre x W K hi hK
    gi_wp2
    exact hK _ _ (KeepsFrom.refl _ _) (KpB.refl _ _ _) hi rfl
  case body =>
    rintro l pre x a' W hl ⟨rr, hrr⟩ ⟨hF, hpre⟩ rfl hlt
    obtain ⟨⟨r, c⟩, hx⟩ := x
    simp only
    have x2 := hx.2.1
    have x4 := hx.2.2.2.1
    simp only at x2 x4
    have hr64 : r < 64 := Nat.lt_of_lt_of_le x2 (Nat.pow_le_pow_right (n := 2) (by omega) hm6)
    have hc64 : c < 64 := Nat.lt_of_lt_of_le x4 (Nat.pow_le_pow_right (n := 2) (by omega) hN6)
    have C1 := level_any b r c T W (hd.below hF.bw h2w) hF.mn hr64 hc64
    rw [(lev_fold (unhide HA) hRT hm6 hN6 hx).2, (lvR_lev (unhide HA) hr64 hc64).1] at C1
    have hK0 := (lvR_lev (unhide HA) hr64 hc64).2
    obtain ⟨z, hz⟩ : ∃ z, z = lev A r c := ⟨_, rfl⟩
    rw [← hz] at C1 hK0
    have HZ := hide hz
    have HSS : Hid (SoS m N z) := hide (by rw [hz]; exact lev_sums A hm6 hN6 x2 x4)
    have cm := hF.bm.cell
    have hsW := hF.bs.lt
    have hsB := hF.bw.size
    have HC1 := hide C1
    clear C1 hz
    gi_wp2_with fail
    refine ⟨trivial, ?_⟩
    refine (CallsIn.inRound l (callsIn_wide.2 (unhide HC1))).mono ?_
    rintro e V1 ⟨rfl, hv1⟩
    clear HC1 cm
    obtain ⟨V2, hV2⟩ : ∃ V2, V2 = V1.alloc (Obj.cells (soC z).toArray 48 (0, 0)) := ⟨_, rfl⟩
    have hbV : Below W.heap.size W V2 := by rw [hV2]; exact hv1.alloc hv1.size _
    have hFV := hF.below hn3' hbn3 hbV
    have hsV : V1.heap.size < V2.heap.size := by rw [hV2]; simp
    have hso6 : isSo V2 V1.heap.size z := by rw [hV2]; exact heap_alloc_new V1 _
    obtain ⟨c0, c1, c2, c3, c4, c5, c6, c7, c8, c9, c10, c11, c12, c13⟩ := hso6.all
    have ca : ∀ o, (V1.alloc o).cell? ⟨w.heap.size, 0, none⟩ = some (.slice (some ⟨g, off, none⟩) m cap) := fun o => (cell_block (Below.heap_alloc _ _ _ (by have := hv1.size; omega)) _).trans ((hv1.cell (p := ⟨w.heap.size, 0, none⟩) (by dsimp only; omega)).trans hF.ba.cell)
    have HHZ := hide (unhide HHO z V2 hK0.b hFV.bw)
    have hKV : KpB w.heap.size (n3 + 1) W V2 := ⟨hbV.mono hsB, hbV.block _ hsW⟩
    have hkf : ∀ B, KeepsFrom B W V2 := fun B => ⟨hbV.size, fun k o _ hk _ => (hbV.block k (Array.getElem?_eq_some_iff.1 hk).1).trans hk⟩
    simp only [soC] at hV2
    have HV2 := hide hV2
    clear hV2
    unfold soV
    simp only [soC]
    gi_wp2_with fail
    refine ⟨trivial, ?_⟩
    rw [← unhide HV2]
    clear HV2 ca c0 c1 c2 c3 c4 c5 c6 c7 c8 c9 c10 c11 c12 c13
    unfold soV at HHZ
    simp only [soC] at HHZ
    refine (CallsIn.inRound l (callsIn_wide.2 (unhide HHZ))).mono ?_
    clear HHZ
    rintro e V3 ⟨hv3, Bt, rfl, hBt⟩
    have hFV3 := hFV.below hn3' hbn3 hv3
    have hso3 : isSo V3 V1.heap.size z := hso6.keep (hv3.block _ (by omega))
    have hbW3 : Below W.heap.size W V3 := hbV.trans (hv3.mono hbV.size)
    have hkf3 : ∀ B, KeepsFrom B W V3 := fun B => ⟨hbW3.size, fun k o _ hk _ => (hbW3.block k (Array.getElem?_eq_some_iff.1 hk).1).trans hk⟩
    cases Bt
    · have HN : Hid (∀ p ∈ pre ++ [⟨(r, c), hx⟩], ¬ hol m N A (lev A p.1.1 p.1.2)) := hide (fun p hp => by
        rcases List.mem_append.1 hp with hp | hp
        · exact hpre p hp
        · rw [List.mem_singleton] at hp
          subst hp
          intro hh
          simp only at hh
          rw [← unhide HZ] at hh
          have := hBt.2 hh
          cases this)
      gi_wp2
      exact ⟨hkf3 _, ⟨hbW3.mono hsB, hbW3.block _ hsW⟩, hFV3, unhide HN⟩
    · have hh : hol m N A z := hBt.1 rfl
      obtain ⟨c0, c1, c2, c3, c4, c5, c6, c7, c8, c9, c10, c11, c12, c13⟩ := hso3.all
      obtain ⟨r0, r1, r2, r3, r4, r5, r6, r7, r8, r9, r10, r11, r12, r13⟩ := hFV3.re.all
      obtain ⟨-, -, -, fr⟩ := hFV3.re.cells
      have fz0 := fr 0
      have fz1 := fr 1
      have fz2 := fr 2
      have fz3 := fr 3
      have fz4 := fr 4
      have fz5 := fr 5
      have fz6 := fr 6
      have fz7 := fr 7
      have fz8 := fr 8
      have fz9 := fr 9
      have fz10 := fr 10
      have fz11 := fr 11
      have fz12 := fr 12
      have fz13 := fr 13
      simp only [so0] at r0 r1 r2 r3 r4 r5 r6 r7 r8 r9 r10 r11 r12 r13
      have HE := hide (below14 hFV3.bw (by omega : w.heap.size ≤ w.heap.size + 1) z)
      have HI := hide (hFV3.re.put14 z)
      have HK2 : Hid (KeepsFrom W0.heap.size W ((((((((((((((V3.setCell ⟨w.heap.size + 1, 0, none⟩ (.int .i64 (z.v))).setCell ⟨w.heap.size + 1, 1, none⟩ (.int .i64 (z.t))).setCell ⟨w.heap.size + 1, 2, none⟩ (.int .i64 (z.x 0))).setCell ⟨w.heap.size + 1, 3, none⟩ (.int .i64 (z.x 1))).setCell ⟨w.heap.size + 1, 4, none⟩ (.int .i64 (z.x 2))).setCell ⟨w.heap.size + 1, 5, none⟩ (.int .i64 (z.x 3))).setCell ⟨w.heap.size + 1, 6, none⟩ (.int .i64 (z.x 4))).setCell ⟨w.heap.size + 1, 7, none⟩ (.int .i64 (z.x 5))).setCell ⟨w.heap.size + 1, 8, none⟩ (.int .i64 (z.y 0))).setCell ⟨w.heap.size + 1, 9, none⟩ (.int .i64 (z.y 1))).setCell ⟨w.heap.size + 1, 10, none⟩ (.int .i64 (z.y 2))).setCell ⟨w.heap.size + 1, 11, none⟩ (.int .i64 (z.y 3))).setCell ⟨w.heap.size + 1, 12, none⟩ (.int .i64 (z.y 4))).setCell ⟨w.heap.size + 1, 13, none⟩ (.int .i64 (z.y 5)))) := hide ((hkf3 _).trans ⟨Nat.le_of_eq (by simp [World.setCell]), fun k o hk h1 _ => (oth14 V3 (w.heap.size + 1) z (by omega)).trans h1⟩)
      obtain ⟨wz, hwz⟩ : ∃ wz, wz = ((((((((((((((V3.setCell ⟨w.heap.size + 1, 0, none⟩ (.int .i64 (z.v))).setCell ⟨w.heap.size + 1, 1, none⟩ (.int .i64 (z.t))).setCell ⟨w.heap.size + 1, 2, none⟩ (.int .i64 (z.x 0))).setCell ⟨w.heap.size + 1, 3, none⟩ (.int .i64 (z.x 1))).setCell ⟨w.heap.size + 1, 4, none⟩ (.int .i64 (z.x 2))).setCell ⟨w.heap.size + 1, 5, none⟩ (.int .i64 (z.x 3))).setCell ⟨w.heap.size + 1, 6, none⟩ (.int .i64 (z.x 4))).setCell ⟨w.heap.size + 1, 7, none⟩ (.int .i64 (z.x 5))).setCell ⟨w.heap.size + 1, 8, none⟩ (.int .i64 (z.y 0))).setCell ⟨w.heap.size + 1, 9, none⟩ (.int .i64 (z.y 1))).setCell ⟨w.heap.size + 1, 10, none⟩ (.int .i64 (z.y 2))).setCell ⟨w.heap.size + 1, 11, none⟩ (.int .i64 (z.y 3))).setCell ⟨w.heap.size + 1, 12, none⟩ (.int .i64 (z.y 4))).setCell ⟨w.heap.size + 1, 13, none⟩ (.int .i64 (z.y 5))) := ⟨_, rfl⟩
      rw [← hwz] at HE HI HK2
      have HWZ := hide hwz
      clear hwz fr hFV3 hso3 hbW3 hkf3 hBt
      gi_wp2_with fail
      rw [← unhide HWZ]
      exact ⟨unhide HK2, rfl, z, unhide HI, hK0, ⟨hh, unhide HSS⟩, unhide HE⟩
  case done =>
    rintro D zs W hD rfl ⟨hF, hpre⟩ hK
    exfalso
    obtain ⟨r, c, h1, h2, h3, h4, h5, h6⟩ := unhide HFI
    exact hpre ⟨(r, c), h1, h2, h3, h4, h5⟩ (mem_allP _) h6
  case stop =>
    rintro D cd pre W hD _ ⟨rfl, z, hso, hkz, hh, hb⟩ hK
    gi_wp2
    refine ⟨by simp, .inl ⟨_, _, rfl, run_takeDeferred hK, ?_⟩⟩
    have hI2 : isSo (W.putObj D (.deferred none)) (w.heap.size + 1) z := hso.keep (World.putObj_heap_other (by omega))
    obtain ⟨c0, c1, c2, c3, c4, c5, c6, c7, c8, c9, c10, c11, c12, c13⟩ := hI2.all
    exact ⟨soV z, by simp [results, Tryd.f17, go_sem, soV, soC, c0, c1, c2, c3, c4, c5, c6, c7, c8, c9, c10, c11, c12, c13], ⟨hb.trans (belowK_b (w := w) (Nat.le_refl _) W D _ _ (by omega) hK rfl rfl), z, rfl, hkz, hh⟩⟩
end Go.Proofs.YthplbfjpmnpjmaaDoor

namespace Go.Proofs
open Go.Shelf Go.RowKit Go.Sort Go.Lib
def Tryd.laysM173_ren : Go.Shelf.Ren := ⟨fun | 173 => 36 | 246 => 63 | 283 => 83 | 284 => 84 | 285 => 85 | 286 => 86 | 129 => 98 | 317 => 97 | 318 => 99 | 319 => 100 | 320 => 78 | 337 => 93 | 338 => 94 | n => n, fun | 2 => 2 | 3 => 3 | 9 => 9 | 4 => 4 | 171 => 112 | 0 => 0 | 53 => 100 | 37 => 115 | 5 => 5 | 173 => 116 | 212 => 127 | 51 => 106 | 20 => 20 | 213 => 128 | 46 => 68 | 232 => 129 | 233 => 130 | n => n, fun | 17 => 0 | 18 => 1 | 19 => 2 | n => n⟩
theorem Tryd.laysM173 : Go.Proofs.LaysM.n173 Tryd.prog Tryd.laysM173_ren := {
  mixed := by kernel_rfl
  f129 := Tryd.func98.trans (congrArg some (by kernel_rfl))
  f173 := Tryd.func36.trans (congrArg some (by kernel_rfl))
  f246 := Tryd.func63.trans (congrArg some (by kernel_rfl))
  f283 := Tryd.func83.trans (congrArg some (by kernel_rfl))
  f284 := Tryd.func84.trans (congrArg some (by kernel_rfl))
  f285 := Tryd.func85.trans (congrArg some (by kernel_rfl))
  f286 := Tryd.func86.trans (congrArg some (by kernel_rfl))
  f317 := Tryd.func97.trans (congrArg some (by kernel_rfl))
  f318 := Tryd.func99.trans (congrArg some (by kernel_rfl))
  f319 := Tryd.func100.trans (congrArg some (by kernel_rfl))
  f320 := Tryd.func78.trans (congrArg some (by kernel_rfl))
  f337 := Tryd.func93.trans (congrArg some (by kernel_rfl))
  f338 := Tryd.func94.trans (congrArg some (by kernel_rfl))
  t0 := Tryd.underlying0
  a0 := Tryd.isAgg0
  z0 := Tryd.sizeOf0
  v0 := Tryd.zeroValue0
  t2 := Tryd.underlying2
  a2 := Tryd.isAgg2
  z2 := Tryd.sizeOf2
  v2 := Tryd.zeroValue2
  t3 := Tryd.underlying3
  a3 := Tryd.isAgg3
  z3 := Tryd.sizeOf3
  v3 := Tryd.zeroValue3
  t4 := Tryd.underlying4
  a4 := Tryd.isAgg4
  z4 := Tryd.sizeOf4
  v4 := Tryd.zeroValue4
  t5 := Tryd.underlying5
  a5 := Tryd.isAgg5
  z5 := Tryd.sizeOf5
  v5 := Tryd.zeroValue5
  t9 := Tryd.underlying9
  a9 := Tryd.isAgg9
  z9 := Tryd.sizeOf9
  v9 := Tryd.zeroValue9
  t20 := Tryd.underlying20
  a20 := Tryd.isAgg20
  z20 := Tryd.sizeOf20
  v20 := Tryd.zeroValue20
  t37 := Tryd.underlying115
  a37 := Tryd.isAgg115
  z37 := Tryd.sizeOf115
  v37 := Tryd.zeroValue115
  t46 := Tryd.underlying68
  a46 := Tryd.isAgg68
  z46 := Tryd.sizeOf68
  v46 := Tryd.zeroValue68
  t51 := Tryd.underlying106
  a51 := Tryd.isAgg106
  z51 := Tryd.sizeOf106
  v51 := Tryd.zeroValue106
  t53 := Tryd.underlying100
  a53 := Tryd.isAgg100
  z53 := Tryd.sizeOf100
  v53 := Tryd.zeroValue100
  t171 := Tryd.underlying112
  a171 := Tryd.isAgg112
  z171 := Tryd.sizeOf112
  v171 := Tryd.zeroValue112
  t173 := Tryd.underlying116
  a173 := Tryd.isAgg116
  z173 := Tryd.sizeOf116
  v173 := Tryd.zeroValue116
  t212 := Tryd.underlying127
  a212 := Tryd.isAgg127
  z212 := Tryd.sizeOf127
  v212 := Tryd.zeroValue127
  t213 := Tryd.underlying128
  a213 := Tryd.isAgg128
  z213 := Tryd.sizeOf128
  t232 := Tryd.underlying129
  a232 := Tryd.isAgg129
  z232 := Tryd.sizeOf129
  v232 := Tryd.zeroValue129
  t233 := Tryd.underlying130
  a233 := Tryd.isAgg130
  z233 := Tryd.sizeOf130
  v233 := Tryd.zeroValue130
  g17 := by kernel_rfl
  g18 := by kernel_rfl
  g19 := by kernel_rfl
  i0 := by kernel_rfl
  i2 := by kernel_rfl
  i3 := by kernel_rfl
  i4 := by kernel_rfl
  i5 := by kernel_rfl
  i9 := by kernel_rfl
  i20 := by kernel_rfl
  i37 := by kernel_rfl
  i46 := by kernel_rfl
  i51 := by kernel_rfl
  i53 := by kernel_rfl
  i171 := by kernel_rfl
  i173 := by kernel_rfl
  i212 := by kernel_rfl
  i232 := by kernel_rfl
  i233 := by kernel_rfl
  m17 := by kernel_rfl
  m18 := by kernel_rfl
  m19 := by kernel_rfl }
theorem Tryd.strconv_FormatInt_10 (n : Int) (h0 : -9223372036854775808 ≤ n) (h1 : n ≤ 9223372036854775807) (w : World) (htab : Lib.TabIs Tryd.prog w "internal/strconv.uint64pow10" .u64 Lib.pow10Tab) :
    Calls Tryd.prog 36 #[.int .i64 n, .int .i64 10] w fun e w' => e = .returned (.string ⟨(Lib.itoa n).toArray⟩) ∧ ∃ k os, w' = grow (w.drewN k) os := Any.strconv_FormatInt_10 Tryd.laysM173 n h0 h1 w htab
end Go.Proofs
