/-
  A drawn region whose last operations write cells that it loads: the loads are taken first, for no store comes up ahead of them; what waits for a load may wait by others.
-/
import Derived.BigQuiet
import Derived.Deep.RegionHeld3
import Derived.Test.YtihojhfpepbjhaaGreatDoorProg
namespace Go.Proofs.YtihojhfpepbjhaaGreatDoor
open Go.RowKit

section
variable {P : Program} {ops : Array Oper} {Q : Exit → Act → World → Prop} {md : Region.Mode} {S : World → Prop}
/-- None of these has come up. -/
def clearV (ds : List Nat) (listed : Array Bool) : Bool := ds.all fun d => !(listed.getD d false)
/-- Each of D waits for number i, or for another of D. -/
def waitD (md : Region.Mode) (ops : Array Oper) (D : List Nat) (i : Nat) : Bool := D.all fun d => match ops[d]? with | some o => o.after.any (fun e => Region.binds md e && (e.on == i || D.contains e.on)) | none => false
/-- In any order; till one of ds comes up, S holds behind each operation. -/
def wpAnyV (P : Program) (md : Region.Mode) (ops : Array Oper) (Q : Exit → Act → World → Prop) (S : World → Prop) (ds : List Nat) : Nat → Array Bool → Act → World → Prop
  | 0, listed, a, w => Region.ready md ops listed = [] ∧ Q .normal a w
  | fuel + 1, listed, a, w =>
    (Region.ready md ops listed = [] → Q .normal a w) ∧
    ∀ i ∈ Region.ready md ops listed, wpOp P ops Q i (fun a' w' => (clearV ds (listed.setIfInBounds i true) = true → S w') ∧ wpAnyV P md ops Q S ds fuel (listed.setIfInBounds i true) a' w') a w
theorem wpAny_of_v {ds : List Nat} : ∀ (fuel : Nat) (listed : Array Bool) (a : Act) (w : World), wpAnyV P md ops Q S ds fuel listed a w → wpAny P md ops Q fuel listed a w
  | 0, _, _, _, h => h
  | fuel + 1, _, _, _, h => ⟨h.1, fun i hi => wpOp_mono (fun a' w' h' => wpAny_of_v fuel _ a' w' h'.2) (h.2 i hi)⟩
theorem clearV_set {ds : List Nat} {j : Nat} {listed : Array Bool} (hj : j ∉ ds) : clearV ds (listed.setIfInBounds j true) = clearV ds listed := by
  unfold clearV
  rw [Bool.eq_iff_iff, List.all_eq_true, List.all_eq_true]
  constructor
  · intro h d hd
    have := h d hd
    rwa [getD_set_ne false (fun e => hj (by rw [e]; exact hd))] at this
  · intro h d hd
    rw [getD_set_ne false (fun e => hj (by rw [e]; exact hd))]
    exact h d hd
theorem wpAnyV_first {ds D : List Nat} {i : Nat} {oi : Oper} {v : Value} (hi : ops[i]? = some oi) (hsel : ∀ (j : Nat) (o : Oper) cs b, ops[j]? = some o → o.op ≠ .select cs b)
    (hQ : ∀ c a w, Q (.panic c) (a.put oi.dst v) w → Q (.panic c) a w) (hw : waitD md ops D i = true) (hid : i ∉ D) (hsub : ∀ d ∈ ds, d ∈ D) :
    ∀ (fuel : Nat) (listed : Array Bool) (a : Act) (w : World),
      (∀ j oj, ops[j]? = some oj → j ≠ i → listed.getD j true = false → (∀ e ∈ oj.after, Region.binds md e = true → e.on ≠ i) → oi.apart ops oj = true) →
      i ∈ Region.ready md ops listed → YieldsIf P ops S oi v a → S w → clearV D listed = true →
      wpAnyV P md ops Q S ds fuel (listed.setIfInBounds i true) (a.put oi.dst v) w → wpAnyV P md ops Q S ds (fuel + 1) listed a w := by
  intro fuel
  have hids : i ∉ ds := fun h => hid (hsub i h)
  induction fuel with
  | zero =>
    intro listed a w _ hr hy hS _ H
    refine ⟨fun h => (by rw [h] at hr; cases hr), fun j hj => ?_⟩
    by_cases hji : j = i
    · subst hji; exact hy.wpOp hi hS ⟨fun _ => hS, H⟩
    · have := ready_mono hj hji
      rw [H.1] at this
      cases this
  | succ fuel ih =>
    intro listed a w hfree hr hy hS hc H
    refine ⟨fun h => (by rw [h] at hr; cases hr), fun j hj => ?_⟩
    by_cases hji : j = i
    · subst hji; exact hy.wpOp hi hS ⟨fun _ => hS, H⟩
    · have h1 := H.2 j (ready_mono hj hji)
      obtain ⟨hjun, oj, hoj, hall⟩ := mem_ready.1 hj
      have hnot : ∀ e ∈ oj.after, Region.binds md e = true → e.on ≠ i := fun e he hb heq => by
        have h1 := hall e he hb
        have h0 := (mem_ready.1 hr).1
        rw [heq] at h1
        rcases Nat.lt_or_ge i listed.size with h' | h'
        · simp [h'] at h0 h1; rw [h0] at h1; cases h1
        · simp [Array.getElem?_eq_none h'] at h1
      have hnD : ∀ e ∈ oj.after, Region.binds md e = true → e.on ∉ D := fun e he hb hd => by
        have h1 := hall e he hb
        have h0 := List.all_eq_true.1 hc e.on hd
        rw [h1] at h0
        cases h0
      have hjD : j ∉ D := fun hd => by
        have h1 := List.all_eq_true.1 hw j hd
        rw [hoj] at h1
        obtain ⟨e, he, h2⟩ := Array.any_eq_true'.1 h1
        rw [Bool.and_eq_true, Bool.or_eq_true, beq_iff_eq] at h2
        rcases h2.2 with h3 | h3
        · exact hnot e he h2.1 h3
        · exact hnD e he h2.1 (by simpa using h3)
      have hjd : j ∉ ds := fun h => hjD (hsub j h)
      have h2 := wpOp_putIf hoj (hfree j oj hoj hji hjun hnot) (fun cs b => hsel i oi cs b hi) (fun cs b => hsel j oj cs b hoj) hQ hy h1
      have hfree' : ∀ k ok, ops[k]? = some ok → k ≠ i → (listed.setIfInBounds j true).getD k true = false →
          (∀ e ∈ ok.after, Region.binds md e = true → e.on ≠ i) → oi.apart ops ok = true := fun k ok hk hki hun hno => by
        refine hfree k ok hk hki ?_ hno
        by_cases hjk : j = k
        · subst hjk; exact hjun
        · rw [getD_set_ne true hjk] at hun; exact hun
      have cds : clearV ds listed = true := List.all_eq_true.2 fun d hd => List.all_eq_true.1 hc d (hsub d hd)
      have c1 : clearV ds ((listed.setIfInBounds i true).setIfInBounds j true) = true := by rw [clearV_set hjd, clearV_set hids]; exact cds
      have c2 : clearV D (listed.setIfInBounds j true) = true := by rw [clearV_set hjD]; exact hc
      refine wpOp_mono (fun a' w' h3 => ⟨fun _ => h3.2.1 c1, ih (listed.setIfInBounds j true) a' w' hfree' (ready_mono hr (Ne.symm hji)) h3.1 (h3.2.1 c1) c2 ?_⟩) h2
      rw [Array.setIfInBounds_comm _ _ hji]
      exact h3.2.2
theorem wpAnyV_take (D : List Nat) {ds : List Nat} {i : Nat} {oi : Oper} {v : Value} {fuel : Nat} {listed : Array Bool} {a : Act} {w : World} (hi : ops[i]? = some oi)
    (hs : Region.noSelect ops = true) (hf : Region.free md ops listed i = true) (hr : (Region.ready md ops listed).contains i = true)
    (hwc : (waitD md ops D i && !(D.contains i) && clearV D listed && ds.all D.contains) = true)
    (hQ : ∀ c a w, Q (.panic c) (a.put oi.dst v) w → Q (.panic c) a w) (hy : YieldsIf P ops S oi v a) (hS : S w)
    (h : wpAnyV P md ops Q S ds fuel (listed.setIfInBounds i true) (a.put oi.dst v) w) : wpAnyV P md ops Q S ds (fuel + 1) listed a w := by
  rw [Bool.and_eq_true, Bool.and_eq_true, Bool.and_eq_true] at hwc
  refine wpAnyV_first (D := D) hi (Region.noSelect_spec hs) hQ hwc.1.1.1 (by simpa using hwc.1.1.2) (fun d hd => ?_) fuel listed a w (Region.free_spec hi hf) (by simpa using hr) hy hS hwc.1.2 h
  have := List.all_eq_true.1 hwc.2 d hd
  simpa using this
theorem wpAnyV_firstP {ds : List Nat} {i : Nat} {oi : Oper} {v : Value} (hi : ops[i]? = some oi) (hsel : ∀ (j : Nat) (o : Oper) cs b, ops[j]? = some o → o.op ≠ .select cs b)
    (hQ : ∀ c a w, Q (.panic c) (a.put oi.dst v) w → Q (.panic c) a w) (hid : i ∉ ds) :
    ∀ (fuel : Nat) (listed : Array Bool) (a : Act) (w : World),
      (∀ j oj, ops[j]? = some oj → j ≠ i → listed.getD j true = false → (∀ e ∈ oj.after, Region.binds md e = true → e.on ≠ i) → oi.apart ops oj = true) →
      i ∈ Region.ready md ops listed → YieldsIf P ops (fun _ => True) oi v a → (clearV ds listed = true → S w) →
      wpAnyV P md ops Q S ds fuel (listed.setIfInBounds i true) (a.put oi.dst v) w → wpAnyV P md ops Q S ds (fuel + 1) listed a w := by
  intro fuel
  induction fuel with
  | zero =>
    intro listed a w _ hr hy hS H
    refine ⟨fun h => (by rw [h] at hr; cases hr), fun j hj => ?_⟩
    by_cases hji : j = i
    · subst hji; exact hy.wpOp hi trivial ⟨fun h => hS (by rwa [clearV_set hid] at h), H⟩
    · have := ready_mono hj hji
      rw [H.1] at this
      cases this
  | succ fuel ih =>
    intro listed a w hfree hr hy hS H
    refine ⟨fun h => (by rw [h] at hr; cases hr), fun j hj => ?_⟩
    by_cases hji : j = i
    · subst hji; exact hy.wpOp hi trivial ⟨fun h => hS (by rwa [clearV_set hid] at h), H⟩
    · have h1 := H.2 j (ready_mono hj hji)
      obtain ⟨hjun, oj, hoj, hall⟩ := mem_ready.1 hj
      have hnot : ∀ e ∈ oj.after, Region.binds md e = true → e.on ≠ i := fun e he hb heq => by
        have h1 := hall e he hb
        have h0 := (mem_ready.1 hr).1
        rw [heq] at h1
        rcases Nat.lt_or_ge i listed.size with h' | h'
        · simp [h'] at h0 h1; rw [h0] at h1; cases h1
        · simp [Array.getElem?_eq_none h'] at h1
      have h2 := wpOp_putIf hoj (hfree j oj hoj hji hjun hnot) (fun cs b => hsel i oi cs b hi) (fun cs b => hsel j oj cs b hoj) hQ hy h1
      have hfree' : ∀ k ok, ops[k]? = some ok → k ≠ i → (listed.setIfInBounds j true).getD k true = false →
          (∀ e ∈ ok.after, Region.binds md e = true → e.on ≠ i) → oi.apart ops ok = true := fun k ok hk hki hun hno => by
        refine hfree k ok hk hki ?_ hno
        by_cases hjk : j = k
        · subst hjk; exact hjun
        · rw [getD_set_ne true hjk] at hun; exact hun
      have c1 : clearV ds ((listed.setIfInBounds i true).setIfInBounds j true) = clearV ds (listed.setIfInBounds j true) := by rw [Array.setIfInBounds_comm _ _ (Ne.symm hji), clearV_set hid]
      refine wpOp_mono (fun a' w' h3 => ⟨fun h => h3.2.1 (by rw [c1]; exact h), ih (listed.setIfInBounds j true) a' w' hfree' (ready_mono hr (Ne.symm hji)) h3.1 (fun h => h3.2.1 (by rw [c1]; exact h)) ?_⟩) h2
      rw [Array.setIfInBounds_comm _ _ hji]
      exact h3.2.2
theorem wpAnyV_pure {ds : List Nat} {i : Nat} {oi : Oper} {v : Value} {fuel : Nat} {listed : Array Bool} {a : Act} {w : World} (hi : ops[i]? = some oi)
    (hs : Region.noSelect ops = true) (hf : Region.free md ops listed i = true) (hr : (Region.ready md ops listed).contains i = true) (hid : ds.contains i = false)
    (hQ : ∀ c a w, Q (.panic c) (a.put oi.dst v) w → Q (.panic c) a w) (hy : YieldsIf P ops (fun _ => True) oi v a) (hS : clearV ds listed = true → S w)
    (h : wpAnyV P md ops Q S ds fuel (listed.setIfInBounds i true) (a.put oi.dst v) w) : wpAnyV P md ops Q S ds (fuel + 1) listed a w :=
  wpAnyV_firstP hi (Region.noSelect_spec hs) hQ (by simpa using hid) fuel listed a w (Region.free_spec hi hf) (by simpa using hr) hy hS h
/-- What waits for number i. -/
def descV (md : Region.Mode) (ops : Array Oper) (i : Nat) : List Nat := (List.range ops.size).foldl (fun D d => if (match ops[d]? with | some o => o.after.any (fun e => Region.binds md e && (e.on == i || D.contains e.on)) | none => false) then d :: D else D) []
theorem wpAnyV_tk {ds : List Nat} {i : Nat} {oi : Oper} {v : Value} {fuel : Nat} {listed : Array Bool} {a : Act} {w : World} (hi : ops[i]? = some oi)
    (hs : Region.noSelect ops = true) (hf : Region.free md ops listed i = true) (hr : (Region.ready md ops listed).contains i = true)
    (hwc : (waitD md ops (descV md ops i) i && !((descV md ops i).contains i) && clearV (descV md ops i) listed && ds.all (descV md ops i).contains) = true)
    (hQ : ∀ c a w, Q (.panic c) (a.put oi.dst v) w → Q (.panic c) a w) (hy : YieldsIf P ops S oi v a) (hS : S w)
    (h : wpAnyV P md ops Q S ds fuel (listed.setIfInBounds i true) (a.put oi.dst v) w) : wpAnyV P md ops Q S ds (fuel + 1) listed a w :=
  wpAnyV_take (descV md ops i) hi hs hf hr hwc hQ hy hS h
/-- Once one of ds has come up, S is asked no more. -/
theorem wpAnyV_swap {ds ds2 : List Nat} {S2 : World → Prop} : ∀ (fuel : Nat) (listed : Array Bool) (a : Act) (w : World), clearV ds listed = false → wpAnyV P md ops Q S2 ds2 fuel listed a w → wpAnyV P md ops Q S ds fuel listed a w
  | 0, _, _, _, _, h => h
  | fuel + 1, listed, a, w, hc, h => ⟨h.1, fun i hi => wpOp_mono (fun a' w' h' => by
      have hn : clearV ds (listed.setIfInBounds i true) = false := by
        cases e : clearV ds (listed.setIfInBounds i true) with
        | false => rfl
        | true =>
          have : clearV ds listed = true := List.all_eq_true.2 fun d hd => by
            have h1 := List.all_eq_true.1 e d hd
            by_cases hdi : i = d
            · subst hdi
              rcases Nat.lt_or_ge i listed.size with h' | h'
              · simp [h'] at h1
              · simp [Array.getD]
                intro h3; omega
            · rw [getD_set_ne false hdi] at h1
              exact h1
          rw [this] at hc
          cases hc
      exact ⟨(fun h3 => by rw [hn] at h3; cases h3), wpAnyV_swap fuel _ a' w' hn h'.2⟩) (h.2 i hi)⟩
/-- Whichever comes up. -/
def ReadyV (P : Program) (md : Region.Mode) (ops : Array Oper) (Q : Exit → Act → World → Prop) (S : World → Prop) (ds : List Nat) (fuel : Nat) (listed : Array Bool) (a : Act) (w : World) (rs : List Nat) : Prop :=
  ∀ i ∈ rs, wpOp P ops Q i (fun a' w' => (clearV ds (listed.setIfInBounds i true) = true → S w') ∧ wpAnyV P md ops Q S ds fuel (listed.setIfInBounds i true) a' w') a w
theorem ReadyV.nil {ds : List Nat} {fuel : Nat} {listed : Array Bool} {a : Act} {w : World} : ReadyV P md ops Q S ds fuel listed a w [] := fun _ h => by cases h
theorem ReadyV.cons {ds : List Nat} {fuel : Nat} {listed : Array Bool} {a : Act} {w : World} {i : Nat} {o : Oper} {rs : List Nat} (ho : ops[i]? = some o)
    (h : ∀ K' : Act → World → Prop, Shut (∀ a w, (clearV ds (listed.setIfInBounds i true) = true → S w) → wpAnyV P md ops Q S ds fuel (listed.setIfInBounds i true) a w → K' a w) → if Region.wanted o (yielded ops a.tmps) = true then Oper.wp P o a w K' Q else K' (a.put o.dst undef) w)
    (hs : ReadyV P md ops Q S ds fuel listed a w rs) : ReadyV P md ops Q S ds fuel listed a w (i :: rs) := fun j hj => by
  rcases List.mem_cons.1 hj with rfl | hj
  · have hh := h (fun a' w' => (clearV ds (listed.setIfInBounds j true) = true → S w') ∧ wpAnyV P md ops Q S ds fuel (listed.setIfInBounds j true) a' w') (fun a w h1 h2 => ⟨h1, h2⟩)
    unfold wpOp
    simp only [ho]
    split
    · rename_i hw
      rw [if_pos hw] at hh
      exact .inl hh
    · rename_i hw
      rw [if_neg hw] at hh
      exact hh
  · exact hs j hj
theorem wpAnyV_ready {ds rs : List Nat} {fuel : Nat} {listed : Array Bool} {a : Act} {w : World} (hr : Region.ready md ops listed = rs) (hne : rs ≠ [])
    (h : ReadyV P md ops Q S ds fuel listed a w rs) : wpAnyV P md ops Q S ds (fuel + 1) listed a w := ⟨fun h0 => absurd (hr ▸ h0) hne, hr ▸ h⟩
theorem wpAnyV_done {ds : List Nat} {listed : Array Bool} {a : Act} {w : World} (hr : Region.ready md ops listed = []) (h : Q .normal a w) : ∀ fuel, wpAnyV P md ops Q S ds fuel listed a w
  | 0 => ⟨hr, h⟩
  | _ + 1 => ⟨fun _ => h, by rw [hr]; simp⟩
theorem wp_region_v (ds : List Nat) (S : World → Prop) {id : Nat} {a : Act} {w : World} (hm : P.follows .mixedOrders = true)
    (h : wpAnyV P .any ops Q S ds ops.size (Array.replicate ops.size false) a w.drew) : (Code.region id ops true).wp P Q a w := wp_region_any hm (wpAny_of_v _ _ _ _ h)
end
theorem step_callH {P : Program} {ops : Array Oper} {o : Oper} {a : Act} {w : World} {K : Act → World → Prop} {Q : Exit → Act → World → Prop} {E : Prop}
    (hw : Region.wanted o (yielded ops a.tmps) = true) (f : FuncId) (xs : Array Operand) (ts : Array TypeId) (hop : o.op = Op.call { callee := Callee.value (Operand.func f), args := xs, argTypes := ts }) (vs : Array Value) (hv : xs.map a.eval = vs)
    (he : ∀ args (u : World), (callFunc f args).run P u = .ok (.enter f args) u) {R : Ending → World → Prop} (hc : Calls P f vs w R) (hK : ∀ e w', R e w' → ∃ v, e = .returned v ∧ K (a.put o.dst v) w') :
    if Region.wanted o (yielded ops a.tmps) = true then Oper.wp P o a w K Q else E := by
  rw [if_pos hw]
  unfold Oper.wp
  have hr : (execOp a.eval o).run P w = .ok (.enter f vs) w := by
    rw [← he vs w, ← hv]
    simp [execOp, hop, resolve, invoke, Act.eval, Deferred.ofValue]
  rw [hr, Oper.upon_enter]
  refine hc.mono fun e w' h => ?_
  obtain ⟨v, rfl, hk⟩ := hK e w' h
  exact hk
end Go.Proofs.YtihojhfpepbjhaaGreatDoor
