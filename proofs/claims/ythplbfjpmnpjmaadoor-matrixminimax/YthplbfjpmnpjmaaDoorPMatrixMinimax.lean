/-
  gamekeep.MatrixMinimax returns true for every list of lists of ints, nil ones too, and its argument reads afterwards as before; the library's three listed tables hold what the program's text lays (the tie is given).
-/
import Derived.Test.YthplbfjpmnpjmaaDoorX9
import Derived.Test.YthplbfjpmnpjmaaDoorP7
import Derived.Test.YthplbfjpmnpjmaaDoorTie
import Derived.Test.YthplbfjpmnpjmaaDoorCards
import Derived.SevenTiedAt
import Derived.Stop.Joined
import Derived.Shelf.Vars
import Derived.Handed
namespace Go.Proofs.YthplbfjpmnpjmaaDoor
open Go.ChangeShapes Go.WideShapes Go.ChangeAt Go.RowKit

theorem mxm_own : ownKnob Tryd.prog.godebug = none := by kernel_rfl
theorem mxm_laidOut : laidOutB Tryd.prog = true := by kernel_rfl
set_option maxRecDepth 100000 in
/-- What the call leaves, from whatever memory. -/
theorem mxm_contract {H : Type} (enc : TypeId × Value → H) (W : World) (base : Nat) (args : Array Value) (ds gs : List (DataW H)) (before : List MemPlace)
    (hval0 : ∀ (j : Nat) t v, Tryd.f4.params[j]? = some t → args[j]? = some v → Value.okWide Tryd.prog W .any base t v)
    (hW : DataW.Whole enc Tryd.prog Tryd.f4.params.toList Rows.matrixMinimaxSpec.vars false W args.toList ds gs before) (hdb : isDb W) (htb : isTab W) :
    Calls Tryd.prog 4 args W fun e W' => ∃ v, e = .returned v ∧ Rows.matrixMinimaxSpec.post enc Tryd.prog Tryd.f4 false true false false W args v W' := by
  have hval := hval0
  have hW' := hW
  obtain ⟨p, q, hA0, hV, rfl, hfz, hnd⟩ := hW
  have hA : DataW.TrodAll enc Tryd.prog W 0 (fun _ => true) true Tryd.f4.params.toList args.toList ds p := hA0
  rw [Tryd.params4] at hA hval
  obtain ⟨v0, vs0, d0, ds0, p0, q0, hargs, rfl, rfl, h0, r0⟩ := trodAll_cons hA
  obtain ⟨rfl, rfl, rfl⟩ := trodAll_nil r0
  obtain rfl : args = #[v0] := by cases args; simp_all
  obtain ⟨rfl, rfl⟩ := trodVars_none hV
  have k0 := h0
  have lt0 : ∀ x ∈ p0, x.block < W.heap.size := by obtain ⟨m, hm⟩ := k0; exact DataW.trod_lt m _ _ _ hm
  obtain ⟨a1, len1, cap1, rfl⟩ := okWide_slice Tryd.underlying22 (hval 0 22 v0 rfl rfl)
  obtain ⟨f1, hf1⟩ := h0
  obtain ⟨ao, ka, G, hva, hga⟩ := open_mx (v := .slice a1 len1 cap1) hf1
  rw [hva] at hW' k0 ⊢
  clear hA0 hval0
  have walk : Calls Tryd.prog 4 #[.slice ao G.length ka] W fun e W' => e = .returned (.bool true) ∧ Below W.heap.size W W' := by
    cases hb : mxB G with
    | false => exact mini_no ao ka G W hga hb
    | true => exact mini_yes ao ka G W hdb htb hga hb
  refine walk.mono fun e W' ⟨he, bel⟩ => ?_
  subst he
  exact ⟨_, rfl, _, _, _, [], _, [], hW', trodAll_mk1 (shut_bool Tryd.underlying4 _), (trodAll_cons_mk (Below.trod mxm_laidOut (by kernel_rfl) (of_decide_eq_true (by kernel_rfl)) k0 bel lt0) trodAll_mk0), rfl, bel.frame _, fun h => by cases h⟩

set_option maxRecDepth 100000 in
theorem mxm_lifted (os : Os) (started : os.Started) (H : Type) (enc : TypeId × Value → H) :
    ReturnsInHanded {} Tryd.checked os 4 .any (fun w args => (Rows.matrixMinimaxSpec.pre enc Tryd.prog Tryd.f4 Rows.matrixMinimaxRow.domain false w args ∧ laidMetH Tryd.prog Rows.matrixMinimaxRow.laid w) ∧ sizedMet enc Tryd.prog Tryd.f4 (OpenSpec.ofChange Rows.matrixMinimaxSpec) false w args)
      (Rows.matrixMinimaxSpec.post enc Tryd.prog Tryd.f4 false true false false) := by
  refine returnsInHanded_of_calls (C := Tryd.checked) mxm_own started (by kernel_rfl)
    (ChangeSpec.witness_shaped (enc := enc) (C := Tryd.checked) (os := os) (X := fun w _ => laidMetH Tryd.prog Rows.matrixMinimaxRow.laid w) false (World.laidAll Tryd.prog os Rows.matrixMinimaxRow.laid) #[.slice none 0 0] 8 (World.laidAll_os _ _ _)
      (World.shaped_of_ZipB (by kernel_rfl) (by kernel_rfl)) (by kernel_rfl) (by kernel_rfl) (by kernel_rfl)
      (by rw [MakeChecks.laidMetH_plain _ _ _ (by kernel_rfl)]; exact laidMet_laidAll _ (by kernel_rfl) (by kernel_rfl))) ?_
  intro w tape i _ hsh _ hok hpre _
  obtain ⟨_, _, _, fn', hfn', _, _, _, _, hval⟩ := hok
  have e : fn' = Tryd.f4 := Option.some.inj (hfn'.symm.trans Tryd.func4)
  subst e
  obtain ⟨⟨⟨ds, gs, before, hw, _⟩, hlaid⟩, _⟩ := hpre
  have hw' := DataW.Whole.of_heap (w' := w.forCall tape i) (by rfl) hw
  have hdb := mx_db hlaid
  have htb := mx_tab hlaid
  have hdb' : isDb (w.forCall tape i) := ⟨hdb.lt, hdb.c0, hdb.c1, hdb.c2, hdb.c3, hdb.c4, hdb.c5⟩
  have htb' : isTab (w.forCall tape i) := htb
  refine (mxm_contract enc (w.forCall tape i) w.heap.size i.args ds gs before hval hw' hdb' htb').mono fun e W' ⟨v, he, hp⟩ => ?_
  subst he
  exact ChangeSpec.post_blind hp

theorem mxm_over : Rows.MatrixMinimaxSaid :=
  OpenClaim.holds_of_wide 4 Tryd.f4 rfl rfl rfl rfl rfl rfl rfl ⟨rfl, rfl, rfl, rfl, rfl⟩ rfl rfl rfl rfl rfl (by kernel_rfl) Tryd.func4 (by kernel_rfl)
    (of_decide_eq_true (by kernel_rfl)) (by unfold Func.isWrapper; first | (rw [if_pos (by decide +kernel)]; kernel_rfl) | (rw [if_neg (by decide +kernel)]; exact ⟨rfl, rfl⟩))
    (fun os started H enc _ => mxm_lifted os started H enc)

theorem matrixMinimax_proved : Rows.MatrixMinimaxCardSaid :=
  Claim7.holds_tied_plain_at .later [] [.data, .data, .data] true Rows.matrixMinimaxCard.stood.harness false mxm_over (fun _ h => by cases h) (by kernel_rfl) (fun _ h => by cases h) matrixMinimax_row_tie rfl ⟨rfl, rfl⟩ (by kernel_rfl) rfl
    (fun f fn hf hfn => by
      obtain rfl : f = 4 := Option.some.inj ((show Tryd.prog.funcNamed Rows.matrixMinimaxRow.func = some 4 by kernel_rfl).symm.trans hf) |>.symm
      obtain rfl : fn = Tryd.f4 := (Option.some.inj (Tryd.func4.symm.trans hfn)).symm
      exact ⟨by kernel_rfl, fun j t ht => by
        rw [Tryd.params4] at ht
        have hm : t ∈ [22] := by simpa using Array.mem_of_getElem? ht
        have hall : ([22].all fun u => !Tryd.prog.wantsStandIn u) = true := by kernel_rfl
        exact (show Tryd.prog.wantsStandIn t = false by simpa using List.all_eq_true.1 hall t hm)⟩)
    (by kernel_rfl)
end Go.Proofs.YthplbfjpmnpjmaaDoor
