/-
  Lines of a house, in plain form: read and taken.
  A drawn region whose last operations write cells that it loads: the loads are taken first, for no store comes up ahead of them; what waits for a load may wait by others.
  A house in memory.
-/
import Derived.Test.YtihojhfpepbjhaaGreatDoorHo1
import Derived.Lib.AtoiAllCases
import Derived.Lib.IndexMore
import Derived.Lib.ItoaNum
import Derived.BigQuiet
import Derived.Deep.RegionHeld3
import Derived.Test.YtihojhfpepbjhaaGreatDoorProg
import Derived.Test.YtihojhfpepbjhaaGreatDoorJ22
namespace Go.Proofs.YtihojhfpepbjhaaGreatDoor
open Go.RowKit

/-- What a line says: the ply, the time, the move. -/
def msgOf (l : List UInt8) : Option (Int × Int × List UInt8) :=
  match Lib.atoiAll (Lib.cut l [32]).1 with
  | .ok p => match Lib.atoiAll (Lib.cut (Lib.cut l [32]).2.1 [32]).1 with
    | .ok a => some (p, a, (Lib.cut (Lib.cut l [32]).2.1 [32]).2.1)
    | _ => none
  | _ => none
open Classical in
noncomputable def Gm.line (G : Gm) (x : Ho) (l : ByteArray) : Option Ho :=
  match msgOf l.data.toList with
  | none => none
  | some (p, a, mv) =>
    if (G.step x ⟨x.p.T, p, ⟨mv.toArray⟩, a⟩).2 = 1 ∧ lineX p (G.step x ⟨x.p.T, p, ⟨mv.toArray⟩, a⟩).1.now ⟨mv.toArray⟩ = l ++ ⟨#[10]⟩ then some (G.step x ⟨x.p.T, p, ⟨mv.toArray⟩, a⟩).1 else none
/-- A text that is opened: as far as its lines are such. -/
noncomputable def Gm.open_ (G : Gm) : Nat → Ho → List UInt8 → Ho
  | 0, x, _ => x
  | f + 1, x, s =>
    if (Lib.cut s [10]).2.2 = true then
      match G.line x ⟨(Lib.cut s [10]).1.toArray⟩ with
      | none => x
      | some y => G.open_ f y (Lib.cut s [10]).2.1
    else x
theorem step_done {G : Gm} {x : Ho} {m : Ms} (h : (G.step x m).2 = 1) : G.ended x = 0 ∧ m.ply = x.ply ∧ m.seat = x.p.T ∧ 0 ≤ (x.go m.at_).left ∧ ∃ mv, G.find x.p m.mv = some mv ∧ (G.step x m).1 = { x.go m.at_ with p := G.beh x.p mv, ply := x.ply + 1, tx := x.tx ++ lineX x.ply (x.go m.at_).now m.mv } := by
  unfold Gm.step at h ⊢
  by_cases h1 : G.ended x = 0
  · rw [if_neg (by simp [h1])] at h ⊢
    by_cases h2 : (x.go m.at_).left < 0
    · rw [if_pos h2] at h
      cases h
    · rw [if_neg h2] at h ⊢
      by_cases h3 : m.ply = x.ply
      · rw [if_neg (by simp [h3])] at h ⊢
        by_cases h4 : m.seat = x.p.T
        · rw [if_neg (by simp [h4])] at h ⊢
          cases hf : G.find x.p m.mv with
          | none => rw [hf] at h; cases h
          | some mv => exact ⟨h1, h3, h4, by omega, mv, rfl, rfl⟩
        · rw [if_pos h4] at h
          cases h
      · rw [if_pos h3] at h
        cases h
  · rw [if_pos h1] at h
    cases h
theorem parse_app : ∀ (l : List UInt8) (acc v : Nat) (c : UInt8), Lib.parseUint10 acc l = .ok v → Lib.parseUint10 acc (l ++ [c]) = Lib.parseUint10 v [c]
  | [], acc, v, c, h => by
    simp only [Lib.parseUint10] at h
    injection h with h
    subst h
    rfl
  | d :: l, acc, v, c, h => by
    rw [List.cons_append]
    unfold Lib.parseUint10 at h ⊢
    split at h
    · rename_i h1
      rw [if_pos h1]
      split at h
      · cases h
      · rename_i h2
        rw [if_neg h2]
        split at h
        · cases h
        · rename_i h3
          rw [if_neg h3]
          exact parse_app l _ v c h
    · cases h
theorem parse_digit {v d : Nat} (hd : d < 10) (hv : v * 10 + d < 9223372036854775808) : Lib.parseUint10 v [UInt8.ofNat (48 + d)] = .ok (v * 10 + d) := by
  have e : (UInt8.ofNat (48 + d)).toNat = 48 + d := Nat.mod_eq_of_lt (by omega)
  unfold Lib.parseUint10
  rw [e, if_pos ⟨by omega, by omega⟩, if_neg (by omega), if_neg (by omega)]
  unfold Lib.parseUint10
  congr 1
  omega
theorem parse_dec : ∀ (u : Nat), u < 9223372036854775808 → Lib.parseUint10 0 (Lib.decDigits u) = .ok u := by
  intro u
  induction u using Nat.strongRecOn with
  | _ u ih =>
    intro hu
    rw [Lib.decDigits]
    split
    · rename_i h
      have := parse_digit (v := 0) (d := u) h (by omega)
      simpa using this
    · rename_i h
      rw [parse_app _ _ _ _ (ih (u / 10) (by omega) (by omega)), parse_digit (Nat.mod_lt _ (by decide)) (by omega)]
      congr 1
      omega
theorem dec_head (u : Nat) : ∃ c r, Lib.decDigits u = c :: r ∧ 48 ≤ c.toNat ∧ c.toNat ≤ 57 := by
  induction u using Nat.strongRecOn with
  | _ u ih =>
    rw [Lib.decDigits]
    split
    · rename_i h
      exact ⟨_, [], rfl, by rw [show (UInt8.ofNat (48 + u)).toNat = 48 + u from Nat.mod_eq_of_lt (by omega)]; omega, by rw [show (UInt8.ofNat (48 + u)).toNat = 48 + u from Nat.mod_eq_of_lt (by omega)]; omega⟩
    · obtain ⟨c, r, h1, h2⟩ := ih (u / 10) (by omega)
      exact ⟨c, _, by rw [h1]; rfl, h2⟩
theorem dec_digit : ∀ (u : Nat), ∀ c ∈ Lib.decDigits u, 48 ≤ c.toNat ∧ c.toNat ≤ 57 := by
  intro u
  induction u using Nat.strongRecOn with
  | _ u ih =>
    intro c hc
    rw [Lib.decDigits] at hc
    split at hc
    · rename_i h
      simp only [List.mem_singleton] at hc
      rw [hc, show (UInt8.ofNat (48 + u)).toNat = 48 + u from Nat.mod_eq_of_lt (by omega)]
      omega
    · rename_i h
      rcases List.mem_append.1 hc with hc | hc
      · exact ih (u / 10) (by omega) c hc
      · simp only [List.mem_singleton] at hc
        have := Nat.mod_lt u (show 10 > 0 by decide)
        rw [hc, show (UInt8.ofNat (48 + u % 10)).toNat = 48 + u % 10 from Nat.mod_eq_of_lt (by omega)]
        omega
theorem itoa_nat (n : Int) (h : 0 ≤ n) : Lib.itoa n = Lib.decDigits n.toNat := by
  unfold Lib.itoa
  rw [if_neg (by omega)]
/-- What Itoa writes Atoi reads. -/
theorem atoi_itoa (n : Int) (h : 0 ≤ n ∧ n < 9223372036854775808) : Lib.atoiAll (Lib.itoa n) = .ok n := by
  rw [itoa_nat n h.1]
  obtain ⟨c, r, e, h1, h2⟩ := dec_head n.toNat
  have hp := parse_dec n.toNat (by omega)
  rw [e] at hp ⊢
  unfold Lib.atoiAll
  dsimp only
  rw [if_neg (by omega)]
  have hm : Lib.parseMag (c :: r) = .ok n.toNat := by
    unfold Lib.parseMag
    rw [if_neg (by simp)]
    exact hp
  rw [hm]
  dsimp only
  rw [if_neg (by omega), if_neg (by omega), if_neg (by omega)]
  congr 1
  omega
end Go.Proofs.YtihojhfpepbjhaaGreatDoor

namespace Go.Proofs.YtihojhfpepbjhaaGreatDoor
open Go.RowKit

section
variable {P : Program} {ops : Array Oper} {Q : Exit → Act → World → Prop} {md : Region.Mode} {S : World → Prop}
/-- None of these has come up. -/
def clearV (ds : List Nat) (listed : Array Bool) : Bool := ds.all fun d => !(listed.getD d false)
/-- Each of D waits for number i, or for another of D. -/
def waitD (md : Region.Mode) (ops : Array Oper) (D : List Nat) (i : Nat) : Bool := D.all fun d => match ops[d]? with | some o => o.after.any (fun e => Region.binds md e && (e.on == i || D.contains e.on)) | none => false
/-- In any order; till one of ds comes up, S holds behind each operation. -/
def wpAnyV (P : Program) (md : Region.Mode) (ops : Array Oper) (Q : Exit → Act → World → Prop) (S : World → Prop) (ds : List Nat) : Nat → Array Bool → Act → World → Prop
  | 0, listed, a, w => Region.ready md ops listed = [] ∧ Q .normal a w
  | fuel + 1, listed, a, w =>
    (Region.ready md ops listed = [] → Q .normal a w) ∧
    ∀ i ∈ Region.ready md ops listed, wpOp P ops Q i (fun a' w' => (clearV ds (listed.setIfInBounds i true) = true → S w') ∧ wpAnyV P md ops Q S ds fuel (listed.setIfInBounds i true) a' w') a w
theorem wpAny_of_v {ds : List Nat} : ∀ (fuel : Nat) (listed : Array Bool) (a : Act) (w : World), wpAnyV P md ops Q S ds fuel listed a w → wpAny P md ops Q fuel listed a w
  | 0, _, _, _, h => h
  | fuel + 1, _, _, _, h => ⟨h.1, fun i hi => wpOp_mono (fun a' w' h' => wpAny_of_v fuel _ a' w' h'.2) (h.2 i hi)⟩
theorem clearV_set {ds : List Nat} {j : Nat} {listed : Array Bool} (hj : j ∉ ds) : clearV ds (listed.setIfInBounds j true) = clearV ds listed := by
  unfold clearV
  rw [Bool.eq_iff_iff, List.all_eq_true, List.all_eq_true]
  constructor
  · intro h d hd
    have := h d hd
    rwa [getD_set_ne false (fun e => hj (by rw [e]; exact hd))] at this
  · intro h d hd
    rw [getD_set_ne false (fun e => hj (by rw [e]; exact hd))]
    exact h d hd
theorem wpAnyV_first {ds D : List Nat} {i : Nat} {oi : Oper} {v : Value} (hi : ops[i]? = some oi) (hsel : ∀ (j : Nat) (o : Oper) cs b, ops[j]? = some o → o.op ≠ .select cs b)
    (hQ : ∀ c a w, Q (.panic c) (a.put oi.dst v) w → Q (.panic c) a w) (hw : waitD md ops D i = true) (hid : i ∉ D) (hsub : ∀ d ∈ ds, d ∈ D) :
    ∀ (fuel : Nat) (listed : Array Bool) (a : Act) (w : World),
      (∀ j oj, ops[j]? = some oj → j ≠ i → listed.getD j true = false → (∀ e ∈ oj.after, Region.binds md e = true → e.on ≠ i) → oi.apart ops oj = true) →
      i ∈ Region.ready md ops listed → YieldsIf P ops S oi v a → S w → clearV D listed = true →
      wpAnyV P md ops Q S ds fuel (listed.setIfInBounds i true) (a.put oi.dst v) w → wpAnyV P md ops Q S ds (fuel + 1) listed a w := by
  intro fuel
  have hids : i ∉ ds := fun h => hid (hsub i h)
  induction fuel with
  | zero =>
    intro listed a w _ hr hy hS _ H
    refine ⟨fun h => (by rw [h] at hr; cases hr), fun j hj => ?_⟩
    by_cases hji : j = i
    · subst hji; exact hy.wpOp hi hS ⟨fun _ => hS, H⟩
    · have := ready_mono hj hji
      rw [H.1] at this
      cases this
  | succ fuel ih =>
    intro listed a w hfree hr hy hS hc H
    refine ⟨fun h => (by rw [h] at hr; cases hr), fun j hj => ?_⟩
    by_cases hji : j = i
    · subst hji; exact hy.wpOp hi hS ⟨fun _ => hS, H⟩
    · have h1 := H.2 j (ready_mono hj hji)
      obtain ⟨hjun, oj, hoj, hall⟩ := mem_ready.1 hj
      have hnot : ∀ e ∈ oj.after, Region.binds md e = true → e.on ≠ i := fun e he hb heq => by
        have h1 := hall e he hb
        have h0 := (mem_ready.1 hr).1
        rw [heq] at h1
        rcases Nat.lt_or_ge i listed.size with h' | h'
        · simp [h'] at h0 h1; rw [h0] at h1; cases h1
        · simp [Array.getElem?_eq_none h'] at h1
      have hnD : ∀ e ∈ oj.after, Region.binds md e = true → e.on ∉ D := fun e he hb hd => by
        have h1 := hall e he hb
        have h0 := List.all_eq_true.1 hc e.on hd
        rw [h1] at h0
        cases h0
      have hjD : j ∉ D := fun hd => by
        have h1 := List.all_eq_true.1 hw j hd
        rw [hoj] at h1
        obtain ⟨e, he, h2⟩ := Array.any_eq_true'.1 h1
        rw [Bool.and_eq_true, Bool.or_eq_true, beq_iff_eq] at h2
        rcases h2.2 with h3 | h3
        · exact hnot e he h2.1 h3
        · exact hnD e he h2.1 (by simpa using h3)
      have hjd : j ∉ ds := fun h => hjD (hsub j h)
      have h2 := wpOp_putIf hoj (hfree j oj hoj hji hjun hnot) (fun cs b => hsel i oi cs b hi) (fun cs b => hsel j oj cs b hoj) hQ hy h1
      have hfree' : ∀ k ok, ops[k]? = some ok → k ≠ i → (listed.setIfInBounds j true).getD k true = false →
          (∀ e ∈ ok.after, Region.binds md e = true → e.on ≠ i) → oi.apart ops ok = true := fun k ok hk hki hun hno => by
        refine hfree k ok hk hki ?_ hno
        by_cases hjk : j = k
        · subst hjk; exact hjun
        · rw [getD_set_ne true hjk] at hun; exact hun
      have cds : clearV ds listed = true := List.all_eq_true.2 fun d hd => List.all_eq_true.1 hc d (hsub d hd)
      have c1 : clearV ds ((listed.setIfInBounds i true).setIfInBounds j true) = true := by rw [clearV_set hjd, clearV_set hids]; exact cds
      have c2 : clearV D (listed.setIfInBounds j true) = true := by rw [clearV_set hjD]; exact hc
      refine wpOp_mono (fun a' w' h3 => ⟨fun _ => h3.2.1 c1, ih (listed.setIfInBounds j true) a' w' hfree' (ready_mono hr (Ne.symm hji)) h3.1 (h3.2.1 c1) c2 ?_⟩) h2
      rw [Array.setIfInBounds_comm _ _ hji]
      exact h3.2.2
theorem wpAnyV_take (D : List Nat) {ds : List Nat} {i : Nat} {oi : Oper} {v : Value} {fuel : Nat} {listed : Array Bool} {a : Act} {w : World} (hi : ops[i]? = some oi)
    (hs : Region.noSelect ops = true) (hf : Region.free md ops listed i = true) (hr : (Region.ready md ops listed).contains i = true)
    (hwc : (waitD md ops D i && !(D.contains i) && clearV D listed && ds.all D.contains) = true)
    (hQ : ∀ c a w, Q (.panic c) (a.put oi.dst v) w → Q (.panic c) a w) (hy : YieldsIf P ops S oi v a) (hS : S w)
    (h : wpAnyV P md ops Q S ds fuel (listed.setIfInBounds i true) (a.put oi.dst v) w) : wpAnyV P md ops Q S ds (fuel + 1) listed a w := by
  rw [Bool.and_eq_true, Bool.and_eq_true, Bool.and_eq_true] at hwc
  refine wpAnyV_first (D := D) hi (Region.noSelect_spec hs) hQ hwc.1.1.1 (by simpa using hwc.1.1.2) (fun d hd => ?_) fuel listed a w (Region.free_spec hi hf) (by simpa using hr) hy hS hwc.1.2 h
  have := List.all_eq_true.1 hwc.2 d hd
  simpa using this
theorem wpAnyV_firstP {ds : List Nat} {i : Nat} {oi : Oper} {v : Value} (hi : ops[i]? = some oi) (hsel : ∀ (j : Nat) (o : Oper) cs b, ops[j]? = some o → o.op ≠ .select cs b)
    (hQ : ∀ c a w, Q (.panic c) (a.put oi.dst v) w → Q (.panic c) a w) (hid : i ∉ ds) :
    ∀ (fuel : Nat) (listed : Array Bool) (a : Act) (w : World),
      (∀ j oj, ops[j]? = some oj → j ≠ i → listed.getD j true = false → (∀ e ∈ oj.after, Region.binds md e = true → e.on ≠ i) → oi.apart ops oj = true) →
      i ∈ Region.ready md ops listed → YieldsIf P ops (fun _ => True) oi v a → (clearV ds listed = true → S w) →
      wpAnyV P md ops Q S ds fuel (listed.setIfInBounds i true) (a.put oi.dst v) w → wpAnyV P md ops Q S ds (fuel + 1) listed a w := by
  intro fuel
  induction fuel with
  | zero =>
    intro listed a w _ hr hy hS H
    refine ⟨fun h => (by rw [h] at hr; cases hr), fun j hj => ?_⟩
    by_cases hji : j = i
    · subst hji; exact hy.wpOp hi trivial ⟨fun h => hS (by rwa [clearV_set hid] at h), H⟩
    · have := ready_mono hj hji
      rw [H.1] at this
      cases this
  | succ fuel ih =>
    intro listed a w hfree hr hy hS H
    refine ⟨fun h => (by rw [h] at hr; cases hr), fun j hj => ?_⟩
    by_cases hji : j = i
    · subst hji; exact hy.wpOp hi trivial ⟨fun h => hS (by rwa [clearV_set hid] at h), H⟩
    · have h1 := H.2 j (ready_mono hj hji)
      obtain ⟨hjun, oj, hoj, hall⟩ := mem_ready.1 hj
      have hnot : ∀ e ∈ oj.after, Region.binds md e = true → e.on ≠ i := fun e he hb heq => by
        have h1 := hall e he hb
        have h0 := (mem_ready.1 hr).1
        rw [heq] at h1
        rcases Nat.lt_or_ge i listed.size with h' | h'
        · simp [h'] at h0 h1; rw [h0] at h1; cases h1
        · simp [Array.getElem?_eq_none h'] at h1
      have h2 := wpOp_putIf hoj (hfree j oj hoj hji hjun hnot) (fun cs b => hsel i oi cs b hi) (fun cs b => hsel j oj cs b hoj) hQ hy h1
      have hfree' : ∀ k ok, ops[k]? = some ok → k ≠ i → (listed.setIfInBounds j true).getD k true = false →
          (∀ e ∈ ok.after, Region.binds md e = true → e.on ≠ i) → oi.apart ops ok = true := fun k ok hk hki hun hno => by
        refine hfree k ok hk hki ?_ hno
        by_cases hjk : j = k
        · subst hjk; exact hjun
        · rw [getD_set_ne true hjk] at hun; exact hun
      have c1 : clearV ds ((listed.setIfInBounds i true).setIfInBounds j true) = clearV ds (listed.setIfInBounds j true) := by rw [Array.setIfInBounds_comm _ _ (Ne.symm hji), clearV_set hid]
      refine wpOp_mono (fun a' w' h3 => ⟨fun h => h3.2.1 (by rw [c1]; exact h), ih (listed.setIfInBounds j true) a' w' hfree' (ready_mono hr (Ne.symm hji)) h3.1 (fun h => h3.2.1 (by rw [c1]; exact h)) ?_⟩) h2
      rw [Array.setIfInBounds_comm _ _ hji]
      exact h3.2.2
theorem wpAnyV_pure {ds : List Nat} {i : Nat} {oi : Oper} {v : Value} {fuel : Nat} {listed : Array Bool} {a : Act} {w : World} (hi : ops[i]? = some oi)
    (hs : Region.noSelect ops = true) (hf : Region.free md ops listed i = true) (hr : (Region.ready md ops listed).contains i = true) (hid : ds.contains i = false)
    (hQ : ∀ c a w, Q (.panic c) (a.put oi.dst v) w → Q (.panic c) a w) (hy : YieldsIf P ops (fun _ => True) oi v a) (hS : clearV ds listed = true → S w)
    (h : wpAnyV P md ops Q S ds fuel (listed.setIfInBounds i true) (a.put oi.dst v) w) : wpAnyV P md ops Q S ds (fuel + 1) listed a w :=
  wpAnyV_firstP hi (Region.noSelect_spec hs) hQ (by simpa using hid) fuel listed a w (Region.free_spec hi hf) (by simpa using hr) hy hS h
/-- What waits for number i. -/
def descV (md : Region.Mode) (ops : Array Oper) (i : Nat) : List Nat := (List.range ops.size).foldl (fun D d => if (match ops[d]? with | some o => o.after.any (fun e => Region.binds md e && (e.on == i || D.contains e.on)) | none => false) then d :: D else D) []
theorem wpAnyV_tk {ds : List Nat} {i : Nat} {oi : Oper} {v : Value} {fuel : Nat} {listed : Array Bool} {a : Act} {w : World} (hi : ops[i]? = some oi)
    (hs : Region.noSelect ops = true) (hf : Region.free md ops listed i = true) (hr : (Region.ready md ops listed).contains i = true)
    (hwc : (waitD md ops (descV md ops i) i && !((descV md ops i).contains i) && clearV (descV md ops i) listed && ds.all (descV md ops i).contains) = true)
    (hQ : ∀ c a w, Q (.panic c) (a.put oi.dst v) w → Q (.panic c) a w) (hy : YieldsIf P ops S oi v a) (hS : S w)
    (h : wpAnyV P md ops Q S ds fuel (listed.setIfInBounds i true) (a.put oi.dst v) w) : wpAnyV P md ops Q S ds (fuel + 1) listed a w :=
  wpAnyV_take (descV md ops i) hi hs hf hr hwc hQ hy hS h
/-- Whichever comes up. -/
def ReadyV (P : Program) (md : Region.Mode) (ops : Array Oper) (Q : Exit → Act → World → Prop) (S : World → Prop) (ds : List Nat) (fuel : Nat) (listed : Array Bool) (a : Act) (w : World) (rs : List Nat) : Prop :=
  ∀ i ∈ rs, wpOp P ops Q i (fun a' w' => (clearV ds (listed.setIfInBounds i true) = true → S w') ∧ wpAnyV P md ops Q S ds fuel (listed.setIfInBounds i true) a' w') a w
theorem ReadyV.nil {ds : List Nat} {fuel : Nat} {listed : Array Bool} {a : Act} {w : World} : ReadyV P md ops Q S ds fuel listed a w [] := fun _ h => by cases h
theorem ReadyV.cons {ds : List Nat} {fuel : Nat} {listed : Array Bool} {a : Act} {w : World} {i : Nat} {o : Oper} {rs : List Nat} (ho : ops[i]? = some o)
    (h : ∀ K' : Act → World → Prop, Shut (∀ a w, (clearV ds (listed.setIfInBounds i true) = true → S w) → wpAnyV P md ops Q S ds fuel (listed.setIfInBounds i true) a w → K' a w) → if Region.wanted o (yielded ops a.tmps) = true then Oper.wp P o a w K' Q else K' (a.put o.dst undef) w)
    (hs : ReadyV P md ops Q S ds fuel listed a w rs) : ReadyV P md ops Q S ds fuel listed a w (i :: rs) := fun j hj => by
  rcases List.mem_cons.1 hj with rfl | hj
  · have hh := h (fun a' w' => (clearV ds (listed.setIfInBounds j true) = true → S w') ∧ wpAnyV P md ops Q S ds fuel (listed.setIfInBounds j true) a' w') (fun a w h1 h2 => ⟨h1, h2⟩)
    unfold wpOp
    simp only [ho]
    split
    · rename_i hw
      rw [if_pos hw] at hh
      exact .inl hh
    · rename_i hw
      rw [if_neg hw] at hh
      exact hh
  · exact hs j hj
theorem wpAnyV_ready {ds rs : List Nat} {fuel : Nat} {listed : Array Bool} {a : Act} {w : World} (hr : Region.ready md ops listed = rs) (hne : rs ≠ [])
    (h : ReadyV P md ops Q S ds fuel listed a w rs) : wpAnyV P md ops Q S ds (fuel + 1) listed a w := ⟨fun h0 => absurd (hr ▸ h0) hne, hr ▸ h⟩
theorem wpAnyV_done {ds : List Nat} {listed : Array Bool} {a : Act} {w : World} (hr : Region.ready md ops listed = []) (h : Q .normal a w) : ∀ fuel, wpAnyV P md ops Q S ds fuel listed a w
  | 0 => ⟨hr, h⟩
  | _ + 1 => ⟨fun _ => h, by rw [hr]; simp⟩
theorem wp_region_v (ds : List Nat) (S : World → Prop) {id : Nat} {a : Act} {w : World} (hm : P.follows .mixedOrders = true)
    (h : wpAnyV P .any ops Q S ds ops.size (Array.replicate ops.size false) a w.drew) : (Code.region id ops true).wp P Q a w := wp_region_any hm (wpAny_of_v _ _ _ _ h)
end
theorem step_callH {P : Program} {ops : Array Oper} {o : Oper} {a : Act} {w : World} {K : Act → World → Prop} {Q : Exit → Act → World → Prop} {E : Prop}
    (hw : Region.wanted o (yielded ops a.tmps) = true) (f : FuncId) (xs : Array Operand) (ts : Array TypeId) (hop : o.op = Op.call { callee := Callee.value (Operand.func f), args := xs, argTypes := ts }) (vs : Array Value) (hv : xs.map a.eval = vs)
    (he : ∀ args (u : World), (callFunc f args).run P u = .ok (.enter f args) u) {R : Ending → World → Prop} (hc : Calls P f vs w R) (hK : ∀ e w', R e w' → ∃ v, e = .returned v ∧ K (a.put o.dst v) w') :
    if Region.wanted o (yielded ops a.tmps) = true then Oper.wp P o a w K Q else E := by
  rw [if_pos hw]
  unfold Oper.wp
  have hr : (execOp a.eval o).run P w = .ok (.enter f vs) w := by
    rw [← he vs w, ← hv]
    simp [execOp, hop, resolve, invoke, Act.eval, Deferred.ofValue]
  rw [hr, Oper.upon_enter]
  refine hc.mono fun e w' h => ?_
  obtain ⟨v, rfl, hk⟩ := hK e w' h
  exact hk
end Go.Proofs.YtihojhfpepbjhaaGreatDoor

namespace Go.Proofs.YtihojhfpepbjhaaGreatDoor
open Go.RowKit

/-- Below S all but block b is as it was. -/
structure Ex (b S : Nat) (w w' : World) : Prop where
  os : w'.os = w.os
  tape : w'.tape = w.tape
  output : w'.output = w.output
  size : w.heap.size ≤ w'.heap.size
  block : ∀ k, k < S → k ≠ b → w'.heap[k]? = w.heap[k]?
theorem Ex.of {b S : Nat} {w w' : World} (h : Below S w w') : Ex b S w w' := ⟨h.os, h.tape, h.output, h.size, fun k hk _ => h.block k hk⟩
theorem Ex.refl (b S : Nat) (w : World) : Ex b S w w := Ex.of (Below.refl _ _)
theorem Ex.trans {b S : Nat} {u v w : World} (h : Ex b S u v) (k : Ex b S v w) : Ex b S u w :=
  ⟨k.os.trans h.os, k.tape.trans h.tape, k.output.trans h.output, Nat.le_trans h.size k.size, fun i hi hn => (k.block i hi hn).trans (h.block i hi hn)⟩
theorem Ex.mono {b S S' : Nat} {v w : World} (h : Ex b S v w) (hS : S' ≤ S) : Ex b S' v w := ⟨h.os, h.tape, h.output, h.size, fun i hi hn => h.block i (by omega) hn⟩
theorem Ex.set {b S : Nat} {v w : World} (h : Ex b S v w) (i : Nat) (u : Value) : Ex b S v (w.setCell ⟨b, i, none⟩ u) :=
  ⟨h.os, h.tape, h.output, by have := h.size; simpa [World.setCell] using this, fun k hk hn => (Below.heap_setCell _ _ _ _ hn).trans (h.block k hk hn)⟩
theorem Ex.drew {b S : Nat} {w w' : World} (h : Ex b S w w') : Ex b S w w'.drew := ⟨h.os, h.tape, h.output, h.size, h.block⟩
theorem Ex.drewN {b S n : Nat} {w w' : World} (h : Ex b S w w') : Ex b S w (w'.drewN n) := ⟨h.os, h.tape, h.output, h.size, h.block⟩
/-- A frame from below the block on. -/
theorem Ex.fresh {b S : Nat} {v w : World} (h : Ex b S v w) {B : Nat} (hB : B ≤ b) (hS : B ≤ S) : Below B v w := ⟨h.os, h.tape, h.output, h.size, fun k hk => h.block k (by omega) (by omega)⟩
theorem Ex.far {b S : Nat} {v w : World} (h : Ex b S v w) (c i : Nat) (u : Value) (hc : S ≤ c) : Ex b S v (w.setCell ⟨c, i, none⟩ u) :=
  ⟨h.os, h.tape, h.output, by have := h.size; simpa [World.setCell] using this, fun k hk hn => (Below.heap_setCell _ _ _ _ (by show k ≠ c; omega)).trans (h.block k hk hn)⟩
theorem Ex.more {b S : Nat} {u v w : World} (h : Ex b S u v) (k : Below v.heap.size v w) (hS : S ≤ v.heap.size) : Ex b S u w := h.trans (Ex.of (k.mono hS))

/-- A house in block b; its rules' cells are v0 to v12. -/
def isH (w : World) (b : Nat) (v0 v1 v2 v3 v4 v5 v6 v7 v8 v9 v10 v11 v12 : Value) (l0 l1 nw W H : Int) (C : ByteArray) (T : Int) (A B : ByteArray) (y o : Int) (t : ByteArray) : Prop :=
  w.heap[b]? = some (.cells #[.int .i64 l0, .int .i64 l1, .int .i64 nw, v0, v1, v2, v3, v4, v5, v6, v7, v8, v9, v10, v11, v12, .int .i64 W, .int .i64 H, .string C, .int .i64 T, .string A, .string B, .int .i64 y, .int .i64 o, .string t] 82 (0, 0))
theorem isH.cells {w : World} {b : Nat} {v0 v1 v2 v3 v4 v5 v6 v7 v8 v9 v10 v11 v12 : Value} {l0 l1 nw W H : Int} {C : ByteArray} {T : Int} {A B : ByteArray} {y o : Int} {t : ByteArray} (h : isH w b v0 v1 v2 v3 v4 v5 v6 v7 v8 v9 v10 v11 v12 l0 l1 nw W H C T A B y o t) :
    (w.cell? ⟨b, 0, none⟩ = some (.int .i64 l0) ∧ w.cell? ⟨b, 1, none⟩ = some (.int .i64 l1) ∧ w.cell? ⟨b, 2, none⟩ = some (.int .i64 nw)) ∧
    (w.cell? ⟨b, 3, none⟩ = some v0 ∧ w.cell? ⟨b, 4, none⟩ = some v1 ∧ w.cell? ⟨b, 5, none⟩ = some v2 ∧ w.cell? ⟨b, 6, none⟩ = some v3 ∧ w.cell? ⟨b, 7, none⟩ = some v4 ∧ w.cell? ⟨b, 8, none⟩ = some v5 ∧ w.cell? ⟨b, 9, none⟩ = some v6 ∧ w.cell? ⟨b, 10, none⟩ = some v7 ∧ w.cell? ⟨b, 11, none⟩ = some v8 ∧ w.cell? ⟨b, 12, none⟩ = some v9 ∧ w.cell? ⟨b, 13, none⟩ = some v10 ∧ w.cell? ⟨b, 14, none⟩ = some v11 ∧ w.cell? ⟨b, 15, none⟩ = some v12) ∧
    (w.cell? ⟨b, 16, none⟩ = some (.int .i64 W) ∧ w.cell? ⟨b, 17, none⟩ = some (.int .i64 H) ∧ w.cell? ⟨b, 18, none⟩ = some (.string C) ∧ w.cell? ⟨b, 19, none⟩ = some (.int .i64 T) ∧ w.cell? ⟨b, 20, none⟩ = some (.string A) ∧ w.cell? ⟨b, 21, none⟩ = some (.string B)) ∧
    w.cell? ⟨b, 22, none⟩ = some (.int .i64 y) ∧ w.cell? ⟨b, 23, none⟩ = some (.int .i64 o) ∧ w.cell? ⟨b, 24, none⟩ = some (.string t) := by
  unfold isH at h
  simp [World.cell?, h]
theorem isH.lt {w : World} {b : Nat} {v0 v1 v2 v3 v4 v5 v6 v7 v8 v9 v10 v11 v12 : Value} {l0 l1 nw W H : Int} {C : ByteArray} {T : Int} {A B : ByteArray} {y o : Int} {t : ByteArray} (h : isH w b v0 v1 v2 v3 v4 v5 v6 v7 v8 v9 v10 v11 v12 l0 l1 nw W H C T A B y o t) : b < w.heap.size := (Array.getElem?_eq_some_iff.1 h).1
theorem isH.frozen {w : World} {b : Nat} {v0 v1 v2 v3 v4 v5 v6 v7 v8 v9 v10 v11 v12 : Value} {l0 l1 nw W H : Int} {C : ByteArray} {T : Int} {A B : ByteArray} {y o : Int} {t : ByteArray} (h : isH w b v0 v1 v2 v3 v4 v5 v6 v7 v8 v9 v10 v11 v12 l0 l1 nw W H C T A B y o t) (k : Nat) : w.frozen? ⟨b, k, none⟩ = false := frozen_of_row w b k _ _ h
theorem isH.of_block {w w' : World} {b : Nat} {v0 v1 v2 v3 v4 v5 v6 v7 v8 v9 v10 v11 v12 : Value} {l0 l1 nw W H : Int} {C : ByteArray} {T : Int} {A B : ByteArray} {y o : Int} {t : ByteArray} (h : isH w b v0 v1 v2 v3 v4 v5 v6 v7 v8 v9 v10 v11 v12 l0 l1 nw W H C T A B y o t) (hb : w'.heap[b]? = w.heap[b]?) : isH w' b v0 v1 v2 v3 v4 v5 v6 v7 v8 v9 v10 v11 v12 l0 l1 nw W H C T A B y o t := hb.trans h
theorem isH.below {w w' : World} {b S : Nat} {v0 v1 v2 v3 v4 v5 v6 v7 v8 v9 v10 v11 v12 : Value} {l0 l1 nw W H : Int} {C : ByteArray} {T : Int} {A B : ByteArray} {y o : Int} {t : ByteArray} (h : isH w b v0 v1 v2 v3 v4 v5 v6 v7 v8 v9 v10 v11 v12 l0 l1 nw W H C T A B y o t) (hb : Below S w w') (hS : b < S) : isH w' b v0 v1 v2 v3 v4 v5 v6 v7 v8 v9 v10 v11 v12 l0 l1 nw W H C T A B y o t := h.of_block (hb.block b hS)
theorem isH.ex {w w' : World} {b c S : Nat} {v0 v1 v2 v3 v4 v5 v6 v7 v8 v9 v10 v11 v12 : Value} {l0 l1 nw W H : Int} {C : ByteArray} {T : Int} {A B : ByteArray} {y o : Int} {t : ByteArray} (h : isH w b v0 v1 v2 v3 v4 v5 v6 v7 v8 v9 v10 v11 v12 l0 l1 nw W H C T A B y o t) (hb : Ex c S w w') (hS : b < S) (hn : b ≠ c) : isH w' b v0 v1 v2 v3 v4 v5 v6 v7 v8 v9 v10 v11 v12 l0 l1 nw W H C T A B y o t := h.of_block (hb.block b hS hn)
theorem isH.set0
  {w : World} {b : Nat} {v0 v1 v2 v3 v4 v5 v6 v7 v8 v9 v10 v11 v12 : Value} {l0 l1 nw W H : Int} {C : ByteArray} {T : Int} {A B : ByteArray} {y o : Int} {t : ByteArray} (h : isH w b v0 v1 v2 v3 v4 v5 v6 v7 v8 v9 v10 v11 v12 l0 l1 nw W H C T A B y o t)
  (x : Int) : isH (w.setCell ⟨b, 0, none⟩ (.int .i64 x)) b v0 v1 v2 v3 v4 v5 v6 v7 v8 v9 v10 v11 v12 x l1 nw W H C T A B y o t := by
  unfold isH at h ⊢; simp [World.setCell, Array.getElem?_modify, h]
theorem isH.set1
  {w : World} {b : Nat} {v0 v1 v2 v3 v4 v5 v6 v7 v8 v9 v10 v11 v12 : Value} {l0 l1 nw W H : Int} {C : ByteArray} {T : Int} {A B : ByteArray} {y o : Int} {t : ByteArray} (h : isH w b v0 v1 v2 v3 v4 v5 v6 v7 v8 v9 v10 v11 v12 l0 l1 nw W H C T A B y o t)
  (x : Int) : isH (w.setCell ⟨b, 1, none⟩ (.int .i64 x)) b v0 v1 v2 v3 v4 v5 v6 v7 v8 v9 v10 v11 v12 l0 x nw W H C T A B y o t := by
  unfold isH at h ⊢; simp [World.setCell, Array.getElem?_modify, h]
theorem isH.set2
  {w : World} {b : Nat} {v0 v1 v2 v3 v4 v5 v6 v7 v8 v9 v10 v11 v12 : Value} {l0 l1 nw W H : Int} {C : ByteArray} {T : Int} {A B : ByteArray} {y o : Int} {t : ByteArray} (h : isH w b v0 v1 v2 v3 v4 v5 v6 v7 v8 v9 v10 v11 v12 l0 l1 nw W H C T A B y o t)
  (x : Int) : isH (w.setCell ⟨b, 2, none⟩ (.int .i64 x)) b v0 v1 v2 v3 v4 v5 v6 v7 v8 v9 v10 v11 v12 l0 l1 x W H C T A B y o t := by
  unfold isH at h ⊢; simp [World.setCell, Array.getElem?_modify, h]
theorem isH.setP
  {w : World} {b : Nat} {v0 v1 v2 v3 v4 v5 v6 v7 v8 v9 v10 v11 v12 : Value} {l0 l1 nw W H : Int} {C : ByteArray} {T : Int} {A B : ByteArray} {y o : Int} {t : ByteArray} (h : isH w b v0 v1 v2 v3 v4 v5 v6 v7 v8 v9 v10 v11 v12 l0 l1 nw W H C T A B y o t)
  (W' H' : Int) (C' : ByteArray) (T' : Int) (A' B' : ByteArray) : isH ((((((w.setCell ⟨b, 16, none⟩ (.int .i64 W')).setCell ⟨b, 17, none⟩ (.int .i64 H')).setCell ⟨b, 18, none⟩ (.string C')).setCell ⟨b, 19, none⟩ (.int .i64 T')).setCell ⟨b, 20, none⟩ (.string A')).setCell ⟨b, 21, none⟩ (.string B')) b v0 v1 v2 v3 v4 v5 v6 v7 v8 v9 v10 v11 v12 l0 l1 nw W' H' C' T' A' B' y o t := by
  unfold isH at h ⊢; simp [World.setCell, Array.getElem?_modify, h]
theorem isH.set22
  {w : World} {b : Nat} {v0 v1 v2 v3 v4 v5 v6 v7 v8 v9 v10 v11 v12 : Value} {l0 l1 nw W H : Int} {C : ByteArray} {T : Int} {A B : ByteArray} {y o : Int} {t : ByteArray} (h : isH w b v0 v1 v2 v3 v4 v5 v6 v7 v8 v9 v10 v11 v12 l0 l1 nw W H C T A B y o t)
  (x : Int) : isH (w.setCell ⟨b, 22, none⟩ (.int .i64 x)) b v0 v1 v2 v3 v4 v5 v6 v7 v8 v9 v10 v11 v12 l0 l1 nw W H C T A B x o t := by
  unfold isH at h ⊢; simp [World.setCell, Array.getElem?_modify, h]
theorem isH.set23
  {w : World} {b : Nat} {v0 v1 v2 v3 v4 v5 v6 v7 v8 v9 v10 v11 v12 : Value} {l0 l1 nw W H : Int} {C : ByteArray} {T : Int} {A B : ByteArray} {y o : Int} {t : ByteArray} (h : isH w b v0 v1 v2 v3 v4 v5 v6 v7 v8 v9 v10 v11 v12 l0 l1 nw W H C T A B y o t)
  (x : Int) : isH (w.setCell ⟨b, 23, none⟩ (.int .i64 x)) b v0 v1 v2 v3 v4 v5 v6 v7 v8 v9 v10 v11 v12 l0 l1 nw W H C T A B y x t := by
  unfold isH at h ⊢; simp [World.setCell, Array.getElem?_modify, h]
theorem isH.set24
  {w : World} {b : Nat} {v0 v1 v2 v3 v4 v5 v6 v7 v8 v9 v10 v11 v12 : Value} {l0 l1 nw W H : Int} {C : ByteArray} {T : Int} {A B : ByteArray} {y o : Int} {t : ByteArray} (h : isH w b v0 v1 v2 v3 v4 v5 v6 v7 v8 v9 v10 v11 v12 l0 l1 nw W H C T A B y o t)
  (x : ByteArray) : isH (w.setCell ⟨b, 24, none⟩ (.string x)) b v0 v1 v2 v3 v4 v5 v6 v7 v8 v9 v10 v11 v12 l0 l1 nw W H C T A B y o x := by
  unfold isH at h ⊢; simp [World.setCell, Array.getElem?_modify, h]
/-- The house x, its outcome o, in block b. -/
def isHo (w : World) (b : Nat) (v0 v1 v2 v3 v4 v5 v6 v7 v8 v9 v10 v11 v12 : Value) (x : Ho) (o : Int) : Prop :=
  isH w b v0 v1 v2 v3 v4 v5 v6 v7 v8 v9 v10 v11 v12 x.l0 x.l1 x.now x.p.W x.p.H x.p.C x.p.T x.p.A x.p.B x.ply o x.tx

/-- The document's house in block b. -/
def isR (w : World) (b : Nat) (v0 v1 v2 v3 v4 v5 v6 v7 v8 v9 v10 v11 v12 : Value) (W H : Int) (C : ByteArray) (T : Int) (A B : ByteArray) (y l0 l1 nw f : Int) (t : ByteArray) : Prop :=
  w.heap[b]? = some (.cells #[v0, v1, v2, v3, v4, v5, v6, v7, v8, v9, v10, v11, v12, .int .i64 W, .int .i64 H, .string C, .int .i64 T, .string A, .string B, .int .i64 y, .int .i64 l0, .int .i64 l1, .int .i64 nw, .int .i64 f, .string t] 38 (0, 0))
theorem isR.cells
  {w : World} {b : Nat} {v0 v1 v2 v3 v4 v5 v6 v7 v8 v9 v10 v11 v12 : Value} {W H : Int} {C : ByteArray} {T : Int} {A B : ByteArray} {y l0 l1 nw f : Int} {t : ByteArray} (h : isR w b v0 v1 v2 v3 v4 v5 v6 v7 v8 v9 v10 v11 v12 W H C T A B y l0 l1 nw f t)
  : (w.cell? ⟨b, 0, none⟩ = some v0 ∧ w.cell? ⟨b, 1, none⟩ = some v1 ∧ w.cell? ⟨b, 2, none⟩ = some v2 ∧ w.cell? ⟨b, 3, none⟩ = some v3 ∧ w.cell? ⟨b, 4, none⟩ = some v4 ∧ w.cell? ⟨b, 5, none⟩ = some v5 ∧ w.cell? ⟨b, 6, none⟩ = some v6 ∧ w.cell? ⟨b, 7, none⟩ = some v7 ∧ w.cell? ⟨b, 8, none⟩ = some v8 ∧ w.cell? ⟨b, 9, none⟩ = some v9 ∧ w.cell? ⟨b, 10, none⟩ = some v10 ∧ w.cell? ⟨b, 11, none⟩ = some v11 ∧ w.cell? ⟨b, 12, none⟩ = some v12) ∧
    (w.cell? ⟨b, 13, none⟩ = some (.int .i64 W) ∧ w.cell? ⟨b, 14, none⟩ = some (.int .i64 H) ∧ w.cell? ⟨b, 15, none⟩ = some (.string C) ∧ w.cell? ⟨b, 16, none⟩ = some (.int .i64 T) ∧ w.cell? ⟨b, 17, none⟩ = some (.string A) ∧ w.cell? ⟨b, 18, none⟩ = some (.string B)) ∧
    w.cell? ⟨b, 19, none⟩ = some (.int .i64 y) ∧ w.cell? ⟨b, 20, none⟩ = some (.int .i64 l0) ∧ w.cell? ⟨b, 21, none⟩ = some (.int .i64 l1) ∧ w.cell? ⟨b, 22, none⟩ = some (.int .i64 nw) ∧ w.cell? ⟨b, 23, none⟩ = some (.int .i64 f) ∧ w.cell? ⟨b, 24, none⟩ = some (.string t) := by
  unfold isR at h
  simp [World.cell?, h]
theorem isR.lt
  {w : World} {b : Nat} {v0 v1 v2 v3 v4 v5 v6 v7 v8 v9 v10 v11 v12 : Value} {W H : Int} {C : ByteArray} {T : Int} {A B : ByteArray} {y l0 l1 nw f : Int} {t : ByteArray} (h : isR w b v0 v1 v2 v3 v4 v5 v6 v7 v8 v9 v10 v11 v12 W H C T A B y l0 l1 nw f t)
  : b < w.heap.size := (Array.getElem?_eq_some_iff.1 h).1
theorem isR.frozen
  {w : World} {b : Nat} {v0 v1 v2 v3 v4 v5 v6 v7 v8 v9 v10 v11 v12 : Value} {W H : Int} {C : ByteArray} {T : Int} {A B : ByteArray} {y l0 l1 nw f : Int} {t : ByteArray} (h : isR w b v0 v1 v2 v3 v4 v5 v6 v7 v8 v9 v10 v11 v12 W H C T A B y l0 l1 nw f t)
  (k : Nat) : w.frozen? ⟨b, k, none⟩ = false := frozen_of_row w b k _ _ h
theorem isR.of_block
  {w : World} {b : Nat} {v0 v1 v2 v3 v4 v5 v6 v7 v8 v9 v10 v11 v12 : Value} {W H : Int} {C : ByteArray} {T : Int} {A B : ByteArray} {y l0 l1 nw f : Int} {t : ByteArray} (h : isR w b v0 v1 v2 v3 v4 v5 v6 v7 v8 v9 v10 v11 v12 W H C T A B y l0 l1 nw f t)
  {w' : World} (hb : w'.heap[b]? = w.heap[b]?) : isR w' b v0 v1 v2 v3 v4 v5 v6 v7 v8 v9 v10 v11 v12 W H C T A B y l0 l1 nw f t := hb.trans h
theorem isR.below
  {w : World} {b : Nat} {v0 v1 v2 v3 v4 v5 v6 v7 v8 v9 v10 v11 v12 : Value} {W H : Int} {C : ByteArray} {T : Int} {A B : ByteArray} {y l0 l1 nw f : Int} {t : ByteArray} (h : isR w b v0 v1 v2 v3 v4 v5 v6 v7 v8 v9 v10 v11 v12 W H C T A B y l0 l1 nw f t)
  {w' : World} {S : Nat} (hb : Below S w w') (hS : b < S) : isR w' b v0 v1 v2 v3 v4 v5 v6 v7 v8 v9 v10 v11 v12 W H C T A B y l0 l1 nw f t := h.of_block (hb.block b hS)
theorem isR.ex
  {w : World} {b : Nat} {v0 v1 v2 v3 v4 v5 v6 v7 v8 v9 v10 v11 v12 : Value} {W H : Int} {C : ByteArray} {T : Int} {A B : ByteArray} {y l0 l1 nw f : Int} {t : ByteArray} (h : isR w b v0 v1 v2 v3 v4 v5 v6 v7 v8 v9 v10 v11 v12 W H C T A B y l0 l1 nw f t)
  {w' : World} {c S : Nat} (hb : Ex c S w w') (hS : b < S) (hn : b ≠ c) : isR w' b v0 v1 v2 v3 v4 v5 v6 v7 v8 v9 v10 v11 v12 W H C T A B y l0 l1 nw f t := h.of_block (hb.block b hS hn)
theorem isR.setP
  {w : World} {b : Nat} {v0 v1 v2 v3 v4 v5 v6 v7 v8 v9 v10 v11 v12 : Value} {W H : Int} {C : ByteArray} {T : Int} {A B : ByteArray} {y l0 l1 nw f : Int} {t : ByteArray} (h : isR w b v0 v1 v2 v3 v4 v5 v6 v7 v8 v9 v10 v11 v12 W H C T A B y l0 l1 nw f t)
  (W' H' : Int) (C' : ByteArray) (T' : Int) (A' B' : ByteArray) : isR ((((((w.setCell ⟨b, 13, none⟩ (.int .i64 W')).setCell ⟨b, 14, none⟩ (.int .i64 H')).setCell ⟨b, 15, none⟩ (.string C')).setCell ⟨b, 16, none⟩ (.int .i64 T')).setCell ⟨b, 17, none⟩ (.string A')).setCell ⟨b, 18, none⟩ (.string B')) b v0 v1 v2 v3 v4 v5 v6 v7 v8 v9 v10 v11 v12 W' H' C' T' A' B' y l0 l1 nw f t := by
  unfold isR at h ⊢; simp [World.setCell, Array.getElem?_modify, h]
theorem isR.set22
  {w : World} {b : Nat} {v0 v1 v2 v3 v4 v5 v6 v7 v8 v9 v10 v11 v12 : Value} {W H : Int} {C : ByteArray} {T : Int} {A B : ByteArray} {y l0 l1 nw f : Int} {t : ByteArray} (h : isR w b v0 v1 v2 v3 v4 v5 v6 v7 v8 v9 v10 v11 v12 W H C T A B y l0 l1 nw f t)
  (x : Int) : isR (w.setCell ⟨b, 22, none⟩ (.int .i64 x)) b v0 v1 v2 v3 v4 v5 v6 v7 v8 v9 v10 v11 v12 W H C T A B y l0 l1 x f t := by
  unfold isR at h ⊢; simp [World.setCell, Array.getElem?_modify, h]
theorem isR.set23
  {w : World} {b : Nat} {v0 v1 v2 v3 v4 v5 v6 v7 v8 v9 v10 v11 v12 : Value} {W H : Int} {C : ByteArray} {T : Int} {A B : ByteArray} {y l0 l1 nw f : Int} {t : ByteArray} (h : isR w b v0 v1 v2 v3 v4 v5 v6 v7 v8 v9 v10 v11 v12 W H C T A B y l0 l1 nw f t)
  (x : Int) : isR (w.setCell ⟨b, 23, none⟩ (.int .i64 x)) b v0 v1 v2 v3 v4 v5 v6 v7 v8 v9 v10 v11 v12 W H C T A B y l0 l1 nw x t := by
  unfold isR at h ⊢; simp [World.setCell, Array.getElem?_modify, h]
theorem isR.set24
  {w : World} {b : Nat} {v0 v1 v2 v3 v4 v5 v6 v7 v8 v9 v10 v11 v12 : Value} {W H : Int} {C : ByteArray} {T : Int} {A B : ByteArray} {y l0 l1 nw f : Int} {t : ByteArray} (h : isR w b v0 v1 v2 v3 v4 v5 v6 v7 v8 v9 v10 v11 v12 W H C T A B y l0 l1 nw f t)
  (x : ByteArray) : isR (w.setCell ⟨b, 24, none⟩ (.string x)) b v0 v1 v2 v3 v4 v5 v6 v7 v8 v9 v10 v11 v12 W H C T A B y l0 l1 nw f x := by
  unfold isR at h ⊢; simp [World.setCell, Array.getElem?_modify, h]
/-- A message in a box. -/
def isG (w : World) (b : Nat) (m : Ms) : Prop := w.heap[b]? = some (.cells #[.int .i64 m.seat, .int .i64 m.ply, .string m.mv, .int .i64 m.at_] 43 (0, 0))
theorem isG.cells {w : World} {b : Nat} {m : Ms} (h : isG w b m) : w.cell? ⟨b, 0, none⟩ = some (.int .i64 m.seat) ∧ w.cell? ⟨b, 1, none⟩ = some (.int .i64 m.ply) ∧ w.cell? ⟨b, 2, none⟩ = some (.string m.mv) ∧ w.cell? ⟨b, 3, none⟩ = some (.int .i64 m.at_) := by
  unfold isG at h
  simp [World.cell?, h]
theorem isG.lt {w : World} {b : Nat} {m : Ms} (h : isG w b m) : b < w.heap.size := (Array.getElem?_eq_some_iff.1 h).1
theorem isG.below {w w' : World} {b S : Nat} {m : Ms} (h : isG w b m) (hb : Below S w w') (hS : b < S) : isG w' b m := (hb.block b hS).trans h
theorem isG.ex {w w' : World} {b c S : Nat} {m : Ms} (h : isG w b m) (hb : Ex c S w w') (hS : b < S) (hn : b ≠ c) : isG w' b m := (hb.block b hS hn).trans h
theorem isG.frozen {w : World} {b : Nat} {m : Ms} (h : isG w b m) (k : Nat) : w.frozen? ⟨b, k, none⟩ = false := frozen_of_row w b k _ _ h
theorem isG.new (w : World) (m : Ms) : isG (w.alloc (.cells #[.int .i64 m.seat, .int .i64 m.ply, .string m.mv, .int .i64 m.at_] 43 (0, 0))) w.heap.size m := heap_alloc_new w _
end Go.Proofs.YtihojhfpepbjhaaGreatDoor
