/-
  package matrix, walked: the determinants in memory; cofactor.
  a drawn region inside a round of a range over a function: as outside.
  the table of determinants while it is made (plain mathematics).
-/
import Derived.Test.YthplbfjpmnpjmaaDoorJ28
import Derived.Deep.QuietTactic
import Derived.OrdersIn
import Derived.Deep.RegionHeld3
namespace Go.Proofs.YthplbfjpmnpjmaaDoor
open Go.RowKit Lp
attribute [local go_sem ↓] Go.wp_at_zero Go.wp_at_succ

/-- A block of 64 times 64 whole numbers. -/
structure isMn (W : World) (b : Nat) (T : Nat → Nat → Int) : Prop where
  blk : ∃ arr : Array Value, W.heap[b]? = some (.cells arr 90 (0, 0)) ∧ arr.size = 4096 ∧ ∀ r c, r < 64 → c < 64 → arr[r * 64 + c]? = some (.int .i64 (T r c))
theorem isMn.cell {W : World} {b : Nat} {T : Nat → Nat → Int} (h : isMn W b T) {r c : Nat} (hr : r < 64) (hc : c < 64) : W.cell? ⟨b, r * 64 + c, none⟩ = some (.int .i64 (T r c)) ∧ W.frozen? ⟨b, r * 64 + c, none⟩ = false := by
  obtain ⟨arr, h1, h2, h3⟩ := h.blk
  have h4 := h3 r c hr hc
  exact ⟨by unfold World.cell?; rw [h1]; simpa using h4, by simp [World.frozen?, h1]⟩
theorem isMn.lt {W : World} {b : Nat} {T : Nat → Nat → Int} (h : isMn W b T) : b < W.heap.size := by
  obtain ⟨arr, h1, -⟩ := h.blk
  exact (Array.getElem?_eq_some_iff.1 h1).1
theorem isMn.keep {W W' : World} {b : Nat} {T : Nat → Nat → Int} (h : isMn W b T) (hk : W'.heap[b]? = W.heap[b]?) : isMn W' b T := by
  obtain ⟨arr, h1, h2⟩ := h.blk
  exact ⟨arr, hk.trans h1, h2⟩
/-- One place turned. -/
def setT (T : Nat → Nat → Int) (r c : Nat) (v : Int) : Nat → Nat → Int := fun i j => if i = r ∧ j = c then v else T i j
theorem isMn.put {W : World} {b : Nat} {T : Nat → Nat → Int} (h : isMn W b T) {r c : Nat} (hr : r < 64) (hc : c < 64) (v : Int) : isMn (W.setCell ⟨b, r * 64 + c, none⟩ (.int .i64 v)) b (setT T r c v) := by
  obtain ⟨arr, h1, h2, h3⟩ := h.blk
  refine ⟨arr.setIfInBounds (r * 64 + c) (.int .i64 v), heap_setCell_same W b (r * 64 + c) _ _ _ h1, by simp [h2], fun i j hi hj => ?_⟩
  rw [Array.getElem?_setIfInBounds]
  unfold setT
  by_cases e : i = r ∧ j = c
  · obtain ⟨rfl, rfl⟩ := e
    rw [if_pos rfl, if_pos (by omega), if_pos ⟨rfl, rfl⟩]
  · rw [if_neg e, if_neg (by omega)]
    exact h3 i j hi hj
/-- The cofactor, as it is reckoned. -/
def cofT (T : Nat → Nat → Int) (r c i j : Nat) : Int := if (pl r i + pl c j) % 2 = 1 then wrap64 (- T (wo r i) (wo c j)) else T (wo r i) (wo c j)
set_option maxRecDepth 100000 in
theorem pl_le : ∀ s, s < 64 → ∀ i, i < 6 → pl s i ≤ 6 := by decide +kernel

set_option maxHeartbeats 2000000 in
theorem cofactor_any (b r c i j : Nat) (T : Nat → Nat → Int) (hr : r < 64) (hc : c < 64) (hi : i < 6) (hj : j < 6) (W : World) (hM : isMn W b T) :
    Calls Tryd.prog 57 #[.pointer (some ⟨b, 0, none⟩), .int .u64 (r : Int), .int .u64 (c : Int), .int .i64 (i : Int), .int .i64 (j : Int)] W fun e w' => e = .returned (.int .i64 (cofT T r c i j)) ∧ ∃ q, w' = W.drewN q := by
  have hw1 := wo_lt r hr i hi
  have hw2 := wo_lt c hc j hj
  obtain ⟨c0, -⟩ := hM.cell hw1 hw2
  have HW1 := hide (fun u => without_any r i hr hi u)
  have HW2 := hide (fun u => without_any c j hc hj u)
  have HP1 := hide (fun u => place_any r i hr hi u)
  have HP2 := hide (fun u => place_any c j hc hj u)
  have hp1 := pl_le r hr i hi
  have hp2 := pl_le c hc j hj
  unfold cofT
  generalize T (wo r i) (wo c j) = x at *
  generalize wo r i = R at *
  generalize wo c j = C at *
  generalize pl r i = p at *
  generalize pl c j = q at *
  obtain ⟨s, hs⟩ : ∃ s, p + q = s := ⟨_, rfl⟩
  have hsi : (p : Int) + (q : Int) = (s : Int) := by omega
  have hR0 : (0 : Int) ≤ (R : Int) := by omega
  have hC0 : (0 : Int) ≤ (C : Int) := by omega
  have hRi : (R : Int) < 64 := by omega
  have hCi : (C : Int) < 64 := by omega
  rw [hs]
  clear hM
  by_cases ho : s % 2 = 1
  · have hom : (s : Int).tmod 2 = 1 := by rw [Int.tmod_eq_emod_of_nonneg (by omega)]; omega
    have hse : s ≤ 12 := by omega
    rw [if_pos ho]
    clear hs ho hp1 hp2
    go_enter Tryd.func57, Tryd.ntmps57
    go_wp2_with fail
    go_quiet (first | (go_at_call 80; first | (with_reducible exact Calls.quiet_of_same (unhide HW1 _)) | (with_reducible exact Calls.quiet_of_same (unhide HW2 _))))
    go_wp2_with (first | (go_at_call 81; first | ((with_reducible refine (unhide HP1 _).mono ?_); clear HP1; rintro e w' ⟨rfl, rfl⟩) | ((with_reducible refine (unhide HP2 _).mono ?_); clear HP2; rintro e w' ⟨rfl, rfl⟩)))
    go_ret
    exact ⟨rfl, _, rfl⟩
  · have hom : (s : Int).tmod 2 = 0 := by rw [Int.tmod_eq_emod_of_nonneg (by omega)]; omega
    have hse : s ≤ 12 := by omega
    rw [if_neg ho]
    clear hs ho hp1 hp2
    go_enter Tryd.func57, Tryd.ntmps57
    go_wp2_with fail
    go_quiet (first | (go_at_call 80; first | (with_reducible exact Calls.quiet_of_same (unhide HW1 _)) | (with_reducible exact Calls.quiet_of_same (unhide HW2 _))))
    go_wp2_with (first | (go_at_call 81; first | ((with_reducible refine (unhide HP1 _).mono ?_); clear HP1; rintro e w' ⟨rfl, rfl⟩) | ((with_reducible refine (unhide HP2 _).mono ?_); clear HP2; rintro e w' ⟨rfl, rfl⟩)))
    go_ret
    exact ⟨rfl, _, rfl⟩
end Go.Proofs.YthplbfjpmnpjmaaDoor

namespace Go.Proofs.YthplbfjpmnpjmaaDoor
open Go.RowKit Go.Shelf Lp

/-- Only the ending that goes on. -/
def OnlyN (Q : Exit → Act → World → Prop) : Exit → Act → World → Prop
  | .normal, a, w => Q .normal a w
  | _, _, _ => False
theorem onlyN_out {Q : Exit → Act → World → Prop} (h : LetsOut (OnlyN Q)) : False := by
  obtain ⟨a, w, h⟩ := h
  exact h
def noDefer (ops : Array Oper) : Bool := ops.all fun o => match o.op with | .defer _ => false | _ => true
theorem noDefer_at {ops : Array Oper} (h : noDefer ops = true) {i : Nat} {o : Oper} (hi : ops[i]? = some o) : ∀ c, o.op ≠ .defer c := by
  intro c e
  unfold noDefer at h
  rw [Array.all_eq_true] at h
  obtain ⟨hl, he⟩ := Array.getElem?_eq_some_iff.1 hi
  have := h i hl
  rw [he, e] at this
  cases this
theorem operIn_of {P : Program} {o : Oper} {a : Act} {w : World} {K : Act → World → Prop} {Q : Exit → Act → World → Prop} (l n : Nat) (hd : ∀ c, o.op ≠ .defer c) (h : o.wp P a w K (OnlyN Q)) : o.wpIn (Fence.wide.inRound l) n P a w K Q := by
  refine ⟨fun _ _ => trivial, ?_⟩
  rw [Oper.semAt_eq _ _ _ hd]
  unfold Oper.wp at h
  generalize (execOp a.eval o).run P w = r at *
  have hdep : (Fence.wide.inRound l).depth.isSome = true → 1 ≤ n := fun h => by cases h
  cases r with
  | ok x w' =>
    cases x <;> simp only [Oper.upon, Oper.uponIn] at h ⊢
    case enter f args =>
      refine ⟨hdep, CallsIn.inRound l (callsIn_wide.2 (Calls.mono h fun e w'' he => ?_))⟩
      cases e
      · exact he
      · exact False.elim he
      · exact (onlyN_out he).elim
    case row row args =>
      refine ⟨hdep, fun c cs _ => ?_⟩
      obtain ⟨v, w'', h1, h2⟩ := h c cs
      exact ⟨v, w'', h1, stepsIn_wide.2 h2⟩
    all_goals first | exact h | exact h.elim
  | halt x w' =>
    cases x <;> simp only [Oper.upon, Oper.uponIn] at h ⊢ <;> exact h.elim
theorem anyIn_of {P : Program} {md : Region.Mode} {ops : Array Oper} {Q : Exit → Act → World → Prop} (l n : Nat) (hd : noDefer ops = true) : ∀ (fuel : Nat) (listed : Array Bool) (a : Act) (w : World), wpAny P md ops (OnlyN Q) fuel listed a w → wpAnyIn (Fence.wide.inRound l) n P md ops Q fuel listed a w
  | 0, _, _, _, h => h
  | fuel + 1, _, _, _, h => ⟨h.1, fun i hi => by
    have hh := h.2 i hi
    unfold wpOp at hh
    unfold wpOpIn
    split
    · rename_i ho
      rw [ho] at hh
      exact anyIn_of l n hd fuel _ _ _ hh
    · rename_i o ho
      rw [ho] at hh
      simp only at hh
      split
      · rename_i hw
        rw [if_pos hw] at hh
        rcases hh with hh | hh
        · exact Oper.wpIn_mono (fun a' w' h' => anyIn_of l n hd fuel _ a' w' h') (operIn_of l n (noDefer_at hd ho) hh)
        · exact (onlyN_out hh.2).elim
      · rename_i hw
        rw [if_neg hw] at hh
        exact ⟨fun _ _ => trivial, anyIn_of l n hd fuel _ _ _ hh⟩⟩
/-- The beginning of such a region in a round: S is shown of the world behind the draw. -/
theorem region_round {P : Program} {id l n : Nat} {ops : Array Oper} {Q : Exit → Act → World → Prop} {S : World → Prop} {a : Act} {w : World} (hm : P.follows .mixedOrders = true) (hd : noDefer ops = true) (hS : S w.drew)
    (h : S w.drew → wpAnyH P .any ops (OnlyN Q) S ops.size (Array.replicate ops.size false) a w.drew) : (Code.region id ops true).wpIn (Fence.wide.inRound l) n P Q a w :=
  wpIn_region_any hm (anyIn_of l n hd _ _ _ _ (wpAny_of_held _ _ _ _ (h hS)))
end Go.Proofs.YthplbfjpmnpjmaaDoor

namespace Go.Proofs.YthplbfjpmnpjmaaDoor
open Go.RowKit Lp

theorem lI_nab {f : Nat → Int} {B : Nat} : ∀ {L : List Nat}, (∀ x ∈ L, (f x).natAbs ≤ B) → (lI L f).natAbs ≤ B * L.length
  | [], _ => by simp [lI]
  | x :: L, h => by
    have h1 := h x (by simp)
    have h2 := lI_nab (L := L) fun y hy => h y (by simp [hy])
    rw [lI_cons, List.length_cons, Nat.mul_add, Nat.mul_one]
    have := Int.natAbs_add_le (f x) (lI L f)
    omega
theorem cf_nab (A : Nat → Nat → Int) (r c i j : Nat) : (cf A r c i j).natAbs = (mnI A (mem (wo r i)) (mem (wo c j))).natAbs := by
  unfold cf
  split
  · rw [Int.natAbs_neg]
  · rfl
theorem mnI_nil (A : Nat → Nat → Int) : ∀ C : List Nat, (mnI A [] C).natAbs ≤ 1 ∧ (C = [] → mnI A [] C = 1)
  | [] => by
    have e : mnI A [] [] = 1 := by
      apply Rat.intCast_inj.1
      rw [mnI_cast]; rfl
    rw [e]
    exact ⟨by decide, fun _ => rfl⟩
  | c :: C => by
    have e : mnI A [] (c :: C) = 0 := by
      apply Rat.intCast_inj.1
      rw [mnI_cast]; rfl
    rw [e]
    exact ⟨by decide, fun h => by cases h⟩
theorem mem_zero : mem 0 = [] := by decide +kernel
set_option maxRecDepth 100000 in
theorem sz_le : ∀ s, s < 64 → sz s ≤ 6 := by decide +kernel
/-- Determinants are small. -/
theorem mn_bnd {A : Nat → Nat → Int} (hA : ∀ i j, (A i j).natAbs ≤ 100) : ∀ (k r : Nat), r < 64 → sz r = k → ∀ c, c < 64 → (mnI A (mem r) (mem c)).natAbs ≤ 600 ^ k
  | 0, r, hr, hk, c, _ => by
    rw [sz_zero r hr hk, mem_zero]
    exact (mnI_nil A _).1
  | k + 1, r, hr, hk, c, hc => by
    have h1 : 1 ≤ r := by
      rcases Nat.eq_zero_or_pos r with h | h
      · rw [h] at hk
        have : sz 0 = 0 := by decide +kernel
        omega
      · exact h
    obtain ⟨f1, f2, -⟩ := fs_mem r hr h1
    obtain ⟨-, -, -, -, w5⟩ := wo_mem r hr _ f1 f2
    rw [mn_sum A hr h1 hc]
    have hb : ∀ j ∈ mem c, (A (fs r) j * cf A r c (fs r) j).natAbs ≤ 100 * 600 ^ k := fun j hj => by
      obtain ⟨j6, -⟩ := (mem_lt c j).1 hj
      rw [Int.natAbs_mul, cf_nab]
      exact Nat.mul_le_mul (hA _ _) (mn_bnd hA k _ (wo_lt r hr _ f1) (by omega) _ (wo_lt c hc j j6))
    have h2 := lI_nab hb
    have h3 : (mem c).length ≤ 6 := sz_le c hc
    have h4 := Nat.mul_le_mul_left (100 * 600 ^ k) h3
    rw [Nat.pow_succ]
    omega
theorem cf_bnd {A : Nat → Nat → Int} (hA : ∀ i j, (A i j).natAbs ≤ 100) {r c i j : Nat} (hr : r < 64) (hc : c < 64) (hi : i < 6) (hj : j < 6) (bi : r.testBit i = true) : (cf A r c i j).natAbs ≤ 77760000000000 := by
  rw [cf_nab]
  obtain ⟨-, -, -, -, w5⟩ := wo_mem r hr _ hi bi
  have h6 := sz_le r hr
  refine Nat.le_trans (mn_bnd hA (sz (wo r i)) _ (wo_lt r hr i hi) rfl _ (wo_lt c hc j hj)) ?_
  exact Nat.pow_le_pow_right (n := 600) (by omega) (by omega : sz (wo r i) ≤ 5)
theorem wrap_id {x : Int} (h : x.natAbs < 9223372036854775808) : wrap64 x = x := by unfold wrap64; omega
/-- Sums that stay small. -/
theorem fold_id {c : Nat} (f : Nat → Int) (B : Nat) : ∀ (L : List (MS c)) (s : Int), (∀ j ∈ L, (f j.1).natAbs ≤ B) → s.natAbs + B * L.length < 4611686018427387904 → L.foldl (fun s j => wrap64 (s + wrap64 (f j.1))) s = s + lI (L.map (·.1)) f
  | [], s, _, _ => by simp [lI]
  | j :: L, s, h, hb => by
    have h1 := h j (by simp)
    rw [List.length_cons, Nat.mul_add, Nat.mul_one] at hb
    have hB : 0 ≤ B * L.length := Nat.zero_le _
    have h2 := Int.natAbs_add_le s (f j.1)
    have e1 : wrap64 (f j.1) = f j.1 := wrap_id (by omega)
    have e2 : wrap64 (s + f j.1) = s + f j.1 := wrap_id (by omega)
    rw [List.foldl_cons, e1, e2, fold_id f B L (s + f j.1) (fun k hk => h k (by simp [hk])) (by omega), List.map_cons, lI_cons]
    omega

/-- What stands in the table. -/
def tabT {m N : Nat} (A : Nat → Nat → Int) (pre : List (P6 m N)) (r c : Nat) : Int := if (r == 0 && c == 0) || pre.any (fun p => p.1 == (r, c)) then mnI A (mem r) (mem c) else 0
def RT (m N : Nat) (A : Nat → Nat → Int) (pre : List (P6 m N)) (T : Nat → Nat → Int) : Prop := (∃ r c, pre = came m N r c) → ∀ r c, r < 64 → c < 64 → T r c = tabT A pre r c
/-- While one determinant is reckoned. -/
def accT (A T : Nat → Nat → Int) (r c i : Nat) (pre : List (MS c)) : Int := pre.foldl (fun s j => wrap64 (s + wrap64 (A i j.1 * cofT T r c i j.1))) (T r c)
theorem accT_snoc (A T : Nat → Nat → Int) (r c i : Nat) (pre : List (MS c)) (x : MS c) : accT A T r c i (pre ++ [x]) = wrap64 (accT A T r c i pre + wrap64 (A i x.1 * cofT T r c i x.1)) := by simp [accT]
theorem RT.start (m N : Nat) (A : Nat → Nat → Int) : RT m N A [] (setT (fun _ _ => 0) 0 0 1) := by
  intro _ r c _ _
  unfold tabT setT
  simp only [List.any_nil, Bool.or_false, Bool.and_eq_true, beq_iff_eq]
  by_cases h : r = 0 ∧ c = 0
  · rw [if_pos h, if_pos h, h.1, h.2, mem_zero]
    exact ((mnI_nil A []).2 rfl).symm
  · rw [if_neg h, if_neg h]
/-- What came ahead of the last one. -/
theorem came_cut {m N : Nat} {pre : List (P6 m N)} {x : P6 m N} : ∀ (r c : Nat), came m N r c = pre ++ [x] → pre = came m N x.1.1 x.1.2
  | 0, 0, h => by
    have : came m N 0 0 = [] := rfl
    rw [this] at h
    simp at h
  | r + 1, 0, h => by
    rw [came_row] at h
    exact came_cut r (2 ^ N) h
  | r, c + 1, h => by
    by_cases ho : okP m N (r, c)
    · rw [came_yes m N r c ho] at h
      have := List.append_inj' h rfl
      rw [← this.1]
      have e : x = ⟨(r, c), ho⟩ := by simpa using this.2.symm
      rw [e]
    · rw [came_no m N r c ho] at h
      exact came_cut r c h
theorem RT.next {m N : Nat} {A T : Nat → Nat → Int} {pre : List (P6 m N)} (h : RT m N A pre T) (hA : ∀ i j, (A i j).natAbs ≤ 100) (hm : m ≤ 6) (hN : N ≤ 6) (x : P6 m N) : RT m N A (pre ++ [x]) (setT T x.1.1 x.1.2 (accT A T x.1.1 x.1.2 (fs x.1.1) (memS x.1.2))) := by
  rintro ⟨r1, c1, hp⟩ p q hp64 hq64
  have hpre := came_cut r1 c1 hp.symm
  have hT := h ⟨_, _, hpre⟩
  obtain ⟨⟨r, c⟩, hx⟩ := x
  simp only at hpre ⊢
  obtain ⟨x1, x2, x3, x4, x5⟩ := hx
  simp only at x1 x2 x3 x4 x5
  have hr : r < 64 := Nat.lt_of_lt_of_le x2 (Nat.pow_le_pow_right (n := 2) (by omega) hm)
  have hc : c < 64 := Nat.lt_of_lt_of_le x4 (Nat.pow_le_pow_right (n := 2) (by omega) hN)
  obtain ⟨f1, f2, -⟩ := fs_mem r hr x1
  unfold tabT setT
  rw [List.any_append]
  by_cases e : p = r ∧ q = c
  · obtain ⟨rfl, rfl⟩ := e
    rw [if_pos ⟨rfl, rfl⟩, if_pos (by simp)]
    rw [mn_sum A hr x1 hc]
    have hcof : ∀ j, j < 6 → q.testBit j = true → cofT T p q (fs p) j = cf A p q (fs p) j := fun j j6 bj => by
      obtain ⟨-, -, -, w4, w5⟩ := wo_mem p hr _ f1 f2
      obtain ⟨-, -, -, v4, v5⟩ := wo_mem q hc _ j6 bj
      have hval : T (wo p (fs p)) (wo q j) = mnI A (mem (wo p (fs p))) (mem (wo q j)) := by
        rw [hT _ _ (by omega) (by omega)]
        unfold tabT
        rw [if_pos]
        rw [Bool.or_eq_true]
        by_cases h0 : sz (wo p (fs p)) = 0
        · refine .inl ?_
          have e1 := sz_zero _ (wo_lt p hr _ f1) h0
          have e2 := sz_zero _ (wo_lt q hc _ j6) (by omega)
          rw [e1, e2]; rfl
        · refine .inr (List.any_eq_true.2 ?_)
          have z0 : sz 0 = 0 := by decide +kernel
          have n1 : 1 ≤ wo p (fs p) := by
            rcases Nat.eq_zero_or_pos (wo p (fs p)) with hz | hz
            · rw [hz] at h0; omega
            · exact hz
          have n2 : 1 ≤ wo q j := by
            rcases Nat.eq_zero_or_pos (wo q j) with hz | hz
            · rw [hz] at v5; omega
            · exact hz
          refine ⟨⟨(wo p (fs p), wo q j), n1, by simp only; omega, n2, by simp only; omega, by simp only; omega⟩, ?_, by simp⟩
          rw [hpre]
          exact mem_came.2 (.inl w4)
      unfold cofT cf
      rw [hval]
      split
      · refine wrap_id ?_
        rw [Int.natAbs_neg]
        have := cf_bnd hA (j := j) hr hc f1 j6 f2
        rw [cf_nab] at this
        omega
      · rfl
    have hT0 : T p q = 0 := by
      rw [hT _ _ hr hc]
      unfold tabT
      rw [if_neg]
      rw [Bool.or_eq_true, not_or]
      refine ⟨by simp; omega, fun hany => ?_⟩
      obtain ⟨y, hy, hye⟩ := List.any_eq_true.1 hany
      rw [hpre] at hy
      have := mem_came.1 hy
      rw [beq_iff_eq] at hye
      rw [hye] at this
      simp only at this
      omega
    unfold accT
    rw [hT0]
    have hlen : (memS q).length ≤ 6 := by rw [memS_len]; exact sz_le q hc
    have hbd : ∀ j ∈ memS q, (A (fs p) j.1 * cofT T p q (fs p) j.1).natAbs ≤ 7776000000000000 := fun j _ => by
      rw [hcof j.1 j.2.1 j.2.2, Int.natAbs_mul]
      have := Nat.mul_le_mul (hA (fs p) j.1) (cf_bnd hA (j := j.1) hr hc f1 j.2.1 f2)
      omega
    rw [fold_id (fun j => A (fs p) j * cofT T p q (fs p) j) 7776000000000000 (memS q) 0 hbd (by have := Nat.mul_le_mul_left 7776000000000000 hlen; simp only [Int.natAbs_zero]; omega), memS_is, Int.zero_add]
    refine lI_congr fun j hj => ?_
    obtain ⟨j6, bj⟩ := (mem_lt q j).1 hj
    rw [hcof j j6 bj]
  · rw [if_neg e, hT p q hp64 hq64]
    unfold tabT
    have : ([⟨(r, c), ⟨x1, x2, x3, x4, x5⟩⟩] : List (P6 m N)).any (fun y => y.1 == (p, q)) = false := by
      simp only [List.any_cons, List.any_nil, Bool.or_false, beq_eq_false_iff_ne, ne_eq, Prod.mk.injEq]
      intro hh
      exact e ⟨hh.1.symm, hh.2.symm⟩
    rw [this, Bool.or_false]
/-- The whole table. -/
theorem RT.whole {m N : Nat} {A T : Nat → Nat → Int} (h : RT m N A (allP m N) T) {r c : Nat} (hr : r < 64) (hc : c < 64) (hs : (r = 0 ∧ c = 0) ∨ okP m N (r, c)) : T r c = mnI A (mem r) (mem c) := by
  rw [h ⟨_, _, rfl⟩ r c hr hc]
  unfold tabT
  rw [if_pos]
  rw [Bool.or_eq_true]
  rcases hs with ⟨rfl, rfl⟩ | hs
  · exact .inl rfl
  · exact .inr (List.any_eq_true.2 ⟨⟨(r, c), hs⟩, mem_allP _, by simp⟩)
/-- A store does not turn what cofactors read. -/
theorem cofT_set (T : Nat → Nat → Int) {r c i : Nat} (hr : r < 64) (hi : i < 6) (bi : r.testBit i = true) (v : Int) (j : Nat) : cofT (setT T r c v) r c i j = cofT T r c i j := by
  obtain ⟨-, -, -, w4, -⟩ := wo_mem r hr i hi bi
  have e : setT T r c v (wo r i) (wo c j) = T (wo r i) (wo c j) := by unfold setT; rw [if_neg (by omega)]
  unfold cofT
  rw [e]
theorem setT_set (T : Nat → Nat → Int) (r c : Nat) (v u : Int) : setT (setT T r c v) r c u = setT T r c u := by
  funext i j
  unfold setT
  by_cases h : i = r ∧ j = c
  · rw [if_pos h, if_pos h]
  · rw [if_neg h, if_neg h, if_neg h]
theorem setT_self (T : Nat → Nat → Int) (r c : Nat) : setT T r c (T r c) = T := by
  funext i j
  unfold setT
  by_cases h : i = r ∧ j = c
  · rw [if_pos h, h.1, h.2]
  · rw [if_neg h]
end Go.Proofs.YthplbfjpmnpjmaaDoor
