/-
  package moves, walked: possible.
-/
import Derived.Test.YtihojhfpepbjhaaGreatDoorJ8
import Derived.Deep.RegionLawGrows
namespace Go.Proofs.YtihojhfpepbjhaaGreatDoor
open Go.RowKit
attribute [local go_sem ↓] Go.wp_at_zero Go.wp_at_succ

theorem stepsG_lt {W H T : Nat} {C : ByteArray} {from_ : Nat} {z : Wy} (h64 : W * H ≤ 64) : ∀ (ds : List (Int × Int)) (G : Nat), G < 18446744073709551616 → stepsG W H T C from_ z G ds < 18446744073709551616
  | [], _, h => h
  | _ :: ds, _, h => stepsG_lt h64 ds _ (rayG_lt h64 h)
theorem goalsG_lt' {W H T : Nat} {C : ByteArray} {from_ : Nat} (h64 : W * H ≤ 64) : ∀ (ws : List Wy) (G : Nat), G < 18446744073709551616 → ws.foldl (wayG W H T C from_) G < 18446744073709551616
  | [], _, h => h
  | _ :: ws, _, h => goalsG_lt' h64 ws _ (stepsG_lt h64 _ _ h)
theorem goalsG_lt {W H T : Nat} {C : ByteArray} {from_ : Nat} (h64 : W * H ≤ 64) (ws : List Wy) : goalsG W H T C from_ ws < 18446744073709551616 := goalsG_lt' h64 ws 0 (by decide)
theorem waysP_ok {ps : List Pc} {l : Nat} (h : ∀ p ∈ ps, ∀ z ∈ p.ws, z.ok = true) : ∀ z ∈ waysP l ps, z.ok = true := by
  induction ps with
  | nil => intro z hz; cases hz
  | cons p t ih =>
    unfold waysP
    split
    · exact h p (by simp)
    · exact ih fun q hq => h q (by simp [hq])
/-- The moves of the piece on a cell to cells below one. -/
def goTo (S from_ c n : Nat) : List Mv := ((List.range n).filter fun to => S.testBit to).map fun to => ⟨from_, to, c⟩
theorem goTo_succ (S from_ c n : Nat) : goTo S from_ c (n + 1) = goTo S from_ c n ++ if S.testBit n then [⟨from_, n, c⟩] else [] := by
  unfold goTo; rw [List.range_succ, List.filter_append, List.map_append]
  cases h : S.testBit n <;> simp [h]
theorem goTo_len (S from_ c n : Nat) : (goTo S from_ c n).length ≤ n := by
  unfold goTo; rw [List.length_map]; have := List.length_filter_le (fun to => S.testBit to) (List.range n); simpa using this
/-- The moves of the piece on a cell. -/
def goesAt (W H T : Nat) (C : ByteArray) (ps : List Pc) (from_ : Nat) : List Mv :=
  if ownB T (cellN C from_) then goTo (goalsG W H T C from_ (waysP (upN (cellN C from_)) ps)) from_ (upN (cellN C from_)) C.size else []
def goesTo (W H T : Nat) (C : ByteArray) (ps : List Pc) (n : Nat) : List Mv := (List.range n).flatMap (goesAt W H T C ps)
theorem goesTo_succ (W H T : Nat) (C : ByteArray) (ps : List Pc) (n : Nat) : goesTo W H T C ps (n + 1) = goesTo W H T C ps n ++ goesAt W H T C ps n := by unfold goesTo; rw [List.range_succ, List.flatMap_append]; simp
theorem goesTo_len (W H T : Nat) (C : ByteArray) (ps : List Pc) (n : Nat) : (goesTo W H T C ps n).length ≤ n * C.size := by
  induction n with
  | zero => simp [goesTo]
  | succ n ih =>
    rw [goesTo_succ, List.length_append, Nat.succ_mul]
    have : (goesAt W H T C ps n).length ≤ C.size := by unfold goesAt; split; exact goTo_len _ _ _ _; simp
    omega
/-- All moves. -/
def possL (W H T : Nat) (C A B : ByteArray) (ps : List Pc) (dr : Bool) : List Mv :=
  (if dr then dropsTo C (cptN (handOf T A B).data.toList (handOf T A B).size) C.size else []) ++ goesTo W H T C ps C.size

theorem step_call {P : Program} {ops : Array Oper} {o : Oper} {a : Act} {w : World} {K : Act → World → Prop} {Q : Exit → Act → World → Prop} {E : Prop}
    (hg : o.guard = none) (f : FuncId) (xs : Array Operand) (ts : Array TypeId) (hop : o.op = Op.call { callee := Callee.value (Operand.func f), args := xs, argTypes := ts }) (vs : Array Value) (hv : xs.map a.eval = vs)
    (he : ∀ args (u : World), (callFunc f args).run P u = .ok (.enter f args) u) {R : Ending → World → Prop} (hc : Calls P f vs w R) (hK : ∀ e w', R e w' → ∃ v, e = .returned v ∧ K (a.put o.dst v) w') :
    if Region.wanted o (yielded ops a.tmps) = true then Oper.wp P o a w K Q else E := by
  have hw : Region.wanted o (yielded ops a.tmps) = true := by simp [Region.wanted, hg]
  rw [if_pos hw]
  unfold Oper.wp
  have hr : (execOp a.eval o).run P w = .ok (.enter f vs) w := by
    rw [← he vs w, ← hv]
    simp [execOp, hop, resolve, invoke, Act.eval, Deferred.ofValue]
  rw [hr, Oper.upon_enter]
  refine hc.mono fun e w' h => ?_
  obtain ⟨v, rfl, hk⟩ := hK e w' h
  exact hk
theorem entWO : ∀ args (u : World), (callFunc 130 args).run Tryz.prog u = .ok (.enter 130 args) u := enters_of Tryz.func130 (by kernel_rfl) rfl
theorem entGO : ∀ args (u : World), (callFunc 129 args).run Tryz.prog u = .ok (.enter 129 args) u := enters_of Tryz.func129 (by kernel_rfl) rfl

set_option maxHeartbeats 4000000 in
set_option maxRecDepth 100000 in
theorem possible_any (W H T : Nat) (C A B : ByteArray) (v0 v1 v2 v3 v4 v5 v8 v9 v10 v11 v12 : Value) (ao : Option Addr) (cap : Nat) (ps : List Pc) (dr : Bool) (w : World) (hps : isPcs w ao cap ps) (hok : ∀ p ∈ ps, ∀ z ∈ p.ws, z.ok = true) (hT : T ≤ 1) (hA : A.size ≤ 8) (hB : B.size ≤ 8) (hW : 1 ≤ W ∧ W ≤ 8) (hH : 1 ≤ H ∧ H ≤ 8) (hC : C.size = W * H) :
    Calls Tryz.prog 86 #[.agg #[v0, v1, v2, v3, v4, v5, .slice ao ps.length cap, .bool dr, v8, v9, v10, v11, v12], .agg #[.int .i64 (W : Int), .int .i64 (H : Int), .string C, .int .i64 (T : Int), .string A, .string B]] w fun e w' => ∃ v, e = .returned v ∧ w'.ownsRow w.heap.size 61 3 v (possL W H T C A B ps dr).length (mvals (possL W H T C A B ps dr)) ∧ Below w.heap.size w w' := by
  obtain ⟨i0, hi, hz0, hz1, hz2⟩ := info_parts infoMove
  have h64 : W * H ≤ 64 := Nat.mul_le_mul hW.2 hH.2
  obtain ⟨n, hn⟩ : ∃ n, n = ps.length := ⟨_, rfl⟩
  rw [← hn]
  have HN := hide hn
  have HPS := hide hps
  have HOK := hide hok
  obtain ⟨M, hM⟩ : ∃ M, M = C.size := ⟨_, rfl⟩
  have hM64 : M ≤ 64 := by omega
  have HC := hide hC
  have hMC : C.size = M := hM.symm
  clear hM hn hps hok hC
  obtain ⟨w1, hw1⟩ : ∃ w1, w1 = w.alloc (.cells #[v0, v1, v2, v3, v4, v5, .slice ao n cap, .bool dr, v8, v9, v10, v11, v12] 27 (0, 0)) := ⟨_, rfl⟩
  obtain ⟨w2, hw2⟩ : ∃ w2, w2 = w1.alloc (.cells #[.int .i64 (W : Int), .int .i64 (H : Int), .string C, .int .i64 (T : Int), .string A, .string B] 24 (0, 0)) := ⟨_, rfl⟩
  have hb1 : Below w.heap.size w w1 := by rw [hw1]; exact (Below.refl _ _).alloc (Nat.le_refl _) _
  have hb2 : Below w1.heap.size w1 w2 := by rw [hw2]; exact (Below.refl _ _).alloc (Nat.le_refl _) _
  have s1 : w1.heap.size = w.heap.size + 1 := by rw [hw1]; simp
  have s2 : w2.heap.size = w.heap.size + 2 := by rw [hw2]; simp [s1]
  have hru : isRu w2 w.heap.size v0 v1 v2 v3 v4 v5 (.slice ao n cap) (.bool dr) v8 v9 v10 v11 v12 := isRu.below (show isRu w1 w.heap.size v0 v1 v2 v3 v4 v5 (.slice ao n cap) (.bool dr) v8 v9 v10 v11 v12 by rw [hw1]; exact heap_alloc_new w _) hb2 (by omega)
  have hpb : isPb w2 (w.heap.size + 1) W H T C A B := by rw [hw2, ← s1]; exact heap_alloc_new w1 _
  have HBW := hide (hb1.trans (hb2.mono (by omega)))
  have HPB := hide hpb
  have HRU := hide hru
  have HDR := hide (appendDrops_any W H T C A B w2 hT hA hB (by omega))
  have HPO : Hid (possL W H T C A B ps dr = (if dr then dropsTo C (cptN (handOf T A B).data.toList (handOf T A B).size) C.size else []) ++ goesTo W H T C ps M) := hide (by unfold possL; rw [hMC])
  have hdl : (dropsTo C (cptN (handOf T A B).data.toList (handOf T A B).size) C.size).length ≤ 512 := by
    refine Nat.le_trans (dropsTo_len _ _ _) (show _ ≤ 64 * 8 from Nat.mul_le_mul (by omega) (Nat.le_trans (cptN_le _ _) ?_))
    unfold handOf; split <;> assumption
  obtain ⟨D, hD⟩ : ∃ D, D = dropsTo C (cptN (handOf T A B).data.toList (handOf T A B).size) C.size := ⟨_, rfl⟩
  rw [← hD] at HDR HPO hdl
  obtain ⟨-, -, p2, -⟩ := hpb.all
  clear hb1 hb2 hru hpb s1 hD
  cases dr with
  | false =>
    have hsz : w.heap.size + 2 ≤ w2.heap.size := by omega
    obtain ⟨L0, hL0⟩ : ∃ L0 : List Mv, L0 = [] := ⟨_, rfl⟩
    have hL0l : L0.length ≤ 512 := by rw [hL0]; simp
    have HOWN : Hid (w2.ownsRow (w.heap.size + 2) 61 3 (.slice none 0 0) L0.length (mvals L0)) := hide (by rw [hL0]; exact World.ownsRow_nil _ _ _ _)
    have HP2 : Hid (possL W H T C A B ps false = L0 ++ goesTo W H T C ps M) := hide (by rw [unhide HPO, hL0]; rfl)
    clear hL0 HPO s2 HDR
    go_enter Tryz.func86, Tryz.ntmps86
    go_wp2
    rw [← hw1, ← hw2]
    clear hw1 hw2
    go_loopw [5, 19] (fun lv iv wr => ∃ fr : Nat, iv = .int .i64 (fr : Int) ∧ fr ≤ M ∧ wr.ownsRow (w.heap.size + 2) 61 3 lv (L0 ++ goesTo W H T C ps fr).length (mvals (L0 ++ goesTo W H T C ps fr)) ∧ isPb wr (w.heap.size + 1) W H T C A B ∧ isRu wr w.heap.size v0 v1 v2 v3 v4 v5 (.slice ao n cap) (.bool false) v8 v9 v10 v11 v12 ∧ Below w.heap.size w wr ∧ w.heap.size + 2 ≤ wr.heap.size) (fun _ iv _ => M - (intOf iv).toNat)
    case atStart => exact ⟨0, rfl, Nat.zero_le _, by simpa [goesTo] using unhide HOWN, unhide HPB, unhide HRU, unhide HBW, hsz⟩
    case round =>
      obtain ⟨fr, rfl, hfr, hown, hpb, hru, hbw, hszr⟩ := hrel
      clear HOWN HPB HRU HBW hsz p2
      by_cases hlt : fr < M
      · have hlti : (fr : Int) < (M : Int) := by omega
        have hfc : fr < C.size := by omega
        obtain ⟨hcn, h256⟩ := cellN_at C fr hfc
        obtain ⟨N, hN⟩ : ∃ N, N = cellN C fr := ⟨_, rfl⟩
        rw [← hN] at hcn h256
        have HO := hide (fun u => IsOf_any T N u hT h256)
        obtain ⟨p0, p1, p2, p3, p4, p5⟩ := hpb.all
        obtain ⟨r0, r1, r2, r3, r4, r5, r6, r7, r8, r9, r10, r11, r12⟩ := hru.cells
        obtain ⟨b, hbb⟩ : ∃ b, ownB T N = b := ⟨_, rfl⟩
        rw [hbb] at HO
        have hsu := goesTo_succ W H T C ps fr
        have hat : goesAt W H T C ps fr = if b then goTo (goalsG W H T C fr (waysP (upN N) ps)) fr (upN N) M else [] := by unfold goesAt; rw [← hN, hbb, hMC]
        have hlen := goesTo_len W H T C ps fr
        have hmul : fr * C.size ≤ 64 * 64 := Nat.mul_le_mul (by omega) (by omega)
        have hgl : (goesTo W H T C ps fr).length ≤ 4096 := by omega
        have HPB := hide hpb
        have HRU := hide hru
        have HBW := hide hbw
        have HOWN := hide hown
        clear hpb hru hbw hown hN hbb hlen hmul
        cases b with
        | false =>
          rw [hat] at hsu
          simp only [Bool.false_eq_true, if_false, List.append_nil] at hsu
          have HSU := hide hsu
          clear hat hsu r0 r1 r2 r3 r4 r5 r6 r7 r8 r9 r10 r11 r12
          go_wp2_with fail
          refine (unhide HO _).mono ?_
          rintro e w1 ⟨rfl, rfl⟩
          go_wp2
          go_roundw
          case rel => exact ⟨fr + 1, by go_num, by omega, by rw [unhide HSU]; exact unhide HOWN, unhide HPB, unhide HRU, unhide HBW, hszr⟩
          case measure => simp only [intOf]; omega
        | true =>
          simp only [if_true] at hat
          rw [hat] at hsu
          obtain ⟨S, hS⟩ : ∃ S, S = goalsG W H T C fr (waysP (upN N) ps) := ⟨_, rfl⟩
          have hS64 : S < 18446744073709551616 := by rw [hS]; exact goalsG_lt h64 _
          obtain ⟨ws, hws⟩ : ∃ ws, ws = waysP (upN N) ps := ⟨_, rfl⟩
          have hwok : ∀ z ∈ ws, z.ok = true := by rw [hws]; exact waysP_ok (unhide HOK)
          have hcp := Capital_any N
          rw [(up_andNot N h256).1] at hcp
          have hup := (up_andNot N h256).2
          have HCP := hide hcp
          have hbd : Below w.heap.size w wr.drew := (unhide HBW).drew
          have hWO := waysOf_any v0 v1 v2 v3 v4 v5 (.bool false) v8 v9 v10 v11 v12 ao cap ps (upN N) wr.drew ((unhide HPS).below hbd (Nat.le_refl _))
          rw [← hws, ← unhide HN] at hWO
          have hGO : ∀ (u : World) (wo : Option Addr) (wc : Nat), isWys u wo wc ws → Calls Tryz.prog 129 #[.agg #[.int .i64 (W : Int), .int .i64 (H : Int), .string C, .int .i64 (T : Int), .string A, .string B], .int .i64 (fr : Int), .slice wo ws.length wc] u fun e w' => e = .returned (.int .u64 (S : Nat)) ∧ Below u.heap.size u w' := fun u wo wc h => by
            rw [hS, ← hws]
            exact goalsOf_any W H fr T C A B wo wc ws u h hwok hT hW hH (unhide HC) (by rw [← unhide HC]; exact hfc)
          have HWO := hide hWO
          have HGO := hide hGO
          have hkp : ∀ u, Below wr.drew.heap.size wr.drew u → isPb u (w.heap.size + 1) W H T C A B := fun u hu => isPb.below (w := wr.drew) (unhide HPB) hu (by show _ < wr.heap.size; omega)
          have HKP := hide hkp
          obtain ⟨L, hL⟩ : ∃ L, L = L0 ++ goesTo W H T C ps fr := ⟨_, rfl⟩
          have hLl : L.length ≤ 4608 := by rw [hL, List.length_append]; omega
          have hsu' : L0 ++ goesTo W H T C ps (fr + 1) = L ++ goTo S fr (upN N) M := by rw [hL, hsu, List.append_assoc, hS]
          have HSU := hide hsu'
          rw [← hL] at HOWN
          clear hat hsu hS hws hwok hcp hWO hGO hkp hL hsu' hbd
          go_wp2_with fail
          refine (unhide HO _).mono ?_
          rintro e w1 ⟨rfl, rfl⟩
          go_wp2_with fail
          refine (unhide HCP _).mono ?_
          rintro e w1 ⟨rfl, rfl⟩
          go_wp2_with fail
          go_region_law (first
            | (refine step_call rfl 130 #[.tmp 35, .tmp 36] #[27, 5] rfl #[.agg #[v0, v1, v2, v3, v4, v5, .slice ao n cap, .bool false, v8, v9, v10, v11, v12], .int .u8 (upN N : Nat)] (by simp [Act.eval]) entWO (unhide HWO) ?_; rintro e1 wx ⟨wo, wc, rfl, hwx, hbx⟩; refine ⟨_, rfl, ?_⟩; obtain ⟨q0, q1, q2, q3, q4, q5⟩ := (unhide HKP wx hbx).all)
            | (refine step_call rfl 129 #[.tmp 33, .tmp 34, .tmp 37] #[24, 3, 69] rfl #[.agg #[.int .i64 (W : Int), .int .i64 (H : Int), .string C, .int .i64 (T : Int), .string A, .string B], .int .i64 (fr : Int), .slice wo ws.length wc] (by simp [Act.eval]) entGO (unhide HGO _ wo wc hwx) ?_; rintro e2 wy ⟨rfl, hby⟩; refine ⟨_, rfl, ?_⟩))
          all_goals
            have hb2 : Below w1.heap.size w1 wy := (show Below w1.heap.size w1 wx from ⟨hbx.os, hbx.tape, hbx.output, hbx.size, hbx.block⟩).trans (hby.mono hbx.size)
            have HOWN2 := hide (own_below (unhide HOWN) hb2)
            have HB2 := hide (hb2.mono hszr)
            have hp2 := (unhide HPB).below hb2 (unhide HPB).lt
            clear p0 p1 p2 p3 p4 p5 r0 r1 r2 r3 r4 r5 r6 r7 r8 r9 r10 r11 r12 q0 q1 q2 q3 q4 q5 hwx hbx hby hb2 HOWN HWO HGO HKP HO HCP
            obtain ⟨-, -, p2, -⟩ := hp2.all
            clear hp2
            go_wp2
            go_loopw [5, 42] (fun lv jv wq => ∃ j : Nat, jv = .int .i64 (j : Int) ∧ j ≤ M ∧ wq.ownsRow (w.heap.size + 2) 61 3 lv (L ++ goTo S fr (upN N) j).length (mvals (L ++ goTo S fr (upN N) j)) ∧ Below (w.heap.size + 2) w1 wq) (fun _ jv _ => M - (intOf jv).toNat)
            case atStart => exact ⟨0, rfl, Nat.zero_le _, by simpa [goTo] using unhide HOWN2, unhide HB2⟩
            case round =>
              obtain ⟨j, rfl, hj, hown, hbq⟩ := hrel
              clear HOWN2 HB2 p2
              have hszq : w.heap.size + 2 ≤ wr.heap.size := Nat.le_trans hszr hbq.size
              by_cases hjl : j < M
              · have hjli : (j : Int) < (M : Int) := by omega
                have HSH := hide (fun u => setHave_any S j u hS64 (by omega))
                have hgs := goTo_succ S fr (upN N) j
                have hgl2 := goTo_len S fr (upN N) j
                obtain ⟨t, ht⟩ : ∃ t, S.testBit j = t := ⟨_, rfl⟩
                rw [ht] at HSH hgs
                have HBQ := hide hbq
                clear hbq ht
                cases t with
                | false =>
                  simp only [Bool.false_eq_true, if_false, List.append_nil] at hgs
                  have HGS := hide hgs
                  have HOWN3 := hide hown
                  clear hgs hown
                  go_wp2_with fail
                  refine (unhide HSH _).mono ?_
                  rintro e w3 ⟨rfl, rfl⟩
                  go_wp2
                  go_roundw
                  case rel => exact ⟨j + 1, by go_num, by omega, by rw [unhide HGS]; exact unhide HOWN3, unhide HBQ⟩
                  case measure => simp only [intOf]; omega
                | true =>
                  simp only [if_true] at hgs
                  have HGS := hide hgs
                  obtain ⟨Y, hY⟩ : ∃ Y, Y = L ++ goTo S fr (upN N) j := ⟨_, rfl⟩
                  have hYl : Y.length ≤ 5000 := by rw [hY, List.length_append]; omega
                  rw [← hY] at hown
                  have HY := hide hY
                  have HGE := hide (own_ge hown)
                  clear hgs hY
                  go_wp2_with fail
                  refine (unhide HSH _).mono ?_
                  rintro e w3 ⟨rfl, rfl⟩
                  go_wp2_with (at_builtin; refine wpList_append_own _ rfl _ _ 56 rfl (w.heap.size + 2) 61 i0 _ 3 24 Tryz.underlying56 hi hz0 hz1 hz2 rfl (by decide) _ _ _ rfl (hown.alloc _) ⟨w3.heap.size, 0, none⟩ 1 1 [.int .i64 (fr : Int), .int .i64 (j : Int), .int .u8 (upN N : Nat)] rfl rfl ?c1 ?c2 ?c3 ?c4 ?c5 ?_)
                  case c1 =>
                    intro j u hj
                    match j, hj with
                    | 0, hj => simp at hj; subst hj; simp [Addr.add]
                    | 1, hj => simp at hj; subst hj; simp [Addr.add]
                    | 2, hj => simp at hj; subst hj; simp [Addr.add]
                  case c2 =>
                    intro u hu
                    simp only [List.mem_cons, List.not_mem_nil, or_false] at hu
                    rcases hu with rfl | rfl | rfl <;> rfl
                  case c3 => unfold maxLen; omega
                  case c4 => omega
                  case c5 => simp; omega
                  intro v' w4 hown' hgrow _
                  have hb4 : Below (w.heap.size + 2) w3 w4 := ((Below.refl _ w3).alloc hszq _).grown hgrow (by simp; omega) (unhide HGE)
                  have hown4 : w4.ownsRow (w.heap.size + 2) 61 3 v' (L ++ goTo S fr (upN N) (j + 1)).length (mvals (L ++ goTo S fr (upN N) (j + 1))) := by
                    rw [unhide HGS, ← List.append_assoc, ← unhide HY, mvals_snoc, List.length_append]
                    exact hown'
                  have HOWN4 := hide hown4
                  have HBQ4 := hide ((unhide HBQ).trans hb4)
                  clear hown' hgrow hown hown4 hb4 HBQ
                  go_wp2
                  go_roundw
                  case rel => exact ⟨j + 1, by go_num, by omega, unhide HOWN4, unhide HBQ4⟩
                  case measure => simp only [intOf]; omega
              · have hjli : ¬ (j : Int) < (M : Int) := by omega
                rw [show j = M by omega, ← unhide HSU] at hown
                have HPB4 := hide ((unhide HPB).below hbq (by omega))
                have HRU4 := hide ((unhide HRU).below hbq (by omega))
                have HBW4 := hide ((unhide HBW).trans (hbq.mono (by omega)))
                have HOWN4 := hide hown
                clear hbq hown
                go_wp2
                go_roundw
                case rel => exact ⟨fr + 1, by go_num, by omega, unhide HOWN4, unhide HPB4, unhide HRU4, unhide HBW4, hszq⟩
                case measure => simp only [intOf]; omega
      · have hlti : ¬ (fr : Int) < (M : Int) := by omega
        rw [show fr = M by omega, ← unhide HP2] at hown
        have HOWN := hide hown
        have HBW := hide hbw
        clear hown hbw hpb hru
        go_wp2
        go_ret
        exact ⟨_, rfl, World.ownsRow.mono (unhide HOWN) (by omega), unhide HBW⟩
  | true =>
    have HP2 : Hid (possL W H T C A B ps true = D ++ goesTo W H T C ps M) := hide (by rw [unhide HPO]; rfl)
    rw [s2] at HDR
    clear HPO
    go_enter Tryz.func86, Tryz.ntmps86
    go_wp2_with fail
    rw [← hw1, ← hw2]
    clear hw1 hw2
    refine (unhide HDR).mono ?_
    rintro e u ⟨lv, rfl, hown, hbu⟩
    have hsz : w.heap.size + 2 ≤ u.heap.size := by have := hbu.size; omega
    have hPn := (unhide HPB).below hbu (by omega)
    have hRn := (unhide HRU).below hbu (by omega)
    have hBn := (unhide HBW).trans (hbu.mono (by omega))
    clear HPB HRU HBW p2 hbu HDR s2
    have HPB := hide hPn
    have HRU := hide hRn
    have HBW := hide hBn
    have HOWN := hide hown
    obtain ⟨-, -, p2, -⟩ := hPn.all
    clear hPn hRn hBn hown
    go_wp2
    go_loopw [5, 19] (fun lv iv wr => ∃ fr : Nat, iv = .int .i64 (fr : Int) ∧ fr ≤ M ∧ wr.ownsRow (w.heap.size + 2) 61 3 lv (D ++ goesTo W H T C ps fr).length (mvals (D ++ goesTo W H T C ps fr)) ∧ isPb wr (w.heap.size + 1) W H T C A B ∧ isRu wr w.heap.size v0 v1 v2 v3 v4 v5 (.slice ao n cap) (.bool true) v8 v9 v10 v11 v12 ∧ Below w.heap.size w wr ∧ w.heap.size + 2 ≤ wr.heap.size) (fun _ iv _ => M - (intOf iv).toNat)
    case atStart => exact ⟨0, rfl, Nat.zero_le _, by simpa [goesTo] using unhide HOWN, unhide HPB, unhide HRU, unhide HBW, hsz⟩
    case round =>
      obtain ⟨fr, rfl, hfr, hown, hpb, hru, hbw, hszr⟩ := hrel
      clear HOWN HPB HRU HBW hsz p2
      by_cases hlt : fr < M
      · have hlti : (fr : Int) < (M : Int) := by omega
        have hfc : fr < C.size := by omega
        obtain ⟨hcn, h256⟩ := cellN_at C fr hfc
        obtain ⟨N, hN⟩ : ∃ N, N = cellN C fr := ⟨_, rfl⟩
        rw [← hN] at hcn h256
        have HO := hide (fun u => IsOf_any T N u hT h256)
        obtain ⟨p0, p1, p2, p3, p4, p5⟩ := hpb.all
        obtain ⟨r0, r1, r2, r3, r4, r5, r6, r7, r8, r9, r10, r11, r12⟩ := hru.cells
        obtain ⟨b, hbb⟩ : ∃ b, ownB T N = b := ⟨_, rfl⟩
        rw [hbb] at HO
        have hsu := goesTo_succ W H T C ps fr
        have hat : goesAt W H T C ps fr = if b then goTo (goalsG W H T C fr (waysP (upN N) ps)) fr (upN N) M else [] := by unfold goesAt; rw [← hN, hbb, hMC]
        have hlen := goesTo_len W H T C ps fr
        have hmul : fr * C.size ≤ 64 * 64 := Nat.mul_le_mul (by omega) (by omega)
        have hgl : (goesTo W H T C ps fr).length ≤ 4096 := by omega
        have HPB := hide hpb
        have HRU := hide hru
        have HBW := hide hbw
        have HOWN := hide hown
        clear hpb hru hbw hown hN hbb hlen hmul
        cases b with
        | false =>
          rw [hat] at hsu
          simp only [Bool.false_eq_true, if_false, List.append_nil] at hsu
          have HSU := hide hsu
          clear hat hsu r0 r1 r2 r3 r4 r5 r6 r7 r8 r9 r10 r11 r12
          go_wp2_with fail
          refine (unhide HO _).mono ?_
          rintro e w1 ⟨rfl, rfl⟩
          go_wp2
          go_roundw
          case rel => exact ⟨fr + 1, by go_num, by omega, by rw [unhide HSU]; exact unhide HOWN, unhide HPB, unhide HRU, unhide HBW, hszr⟩
          case measure => simp only [intOf]; omega
        | true =>
          simp only [if_true] at hat
          rw [hat] at hsu
          obtain ⟨S, hS⟩ : ∃ S, S = goalsG W H T C fr (waysP (upN N) ps) := ⟨_, rfl⟩
          have hS64 : S < 18446744073709551616 := by rw [hS]; exact goalsG_lt h64 _
          obtain ⟨ws, hws⟩ : ∃ ws, ws = waysP (upN N) ps := ⟨_, rfl⟩
          have hwok : ∀ z ∈ ws, z.ok = true := by rw [hws]; exact waysP_ok (unhide HOK)
          have hcp := Capital_any N
          rw [(up_andNot N h256).1] at hcp
          have hup := (up_andNot N h256).2
          have HCP := hide hcp
          have hbd : Below w.heap.size w wr.drew := (unhide HBW).drew
          have hWO := waysOf_any v0 v1 v2 v3 v4 v5 (.bool true) v8 v9 v10 v11 v12 ao cap ps (upN N) wr.drew ((unhide HPS).below hbd (Nat.le_refl _))
          rw [← hws, ← unhide HN] at hWO
          have hGO : ∀ (u : World) (wo : Option Addr) (wc : Nat), isWys u wo wc ws → Calls Tryz.prog 129 #[.agg #[.int .i64 (W : Int), .int .i64 (H : Int), .string C, .int .i64 (T : Int), .string A, .string B], .int .i64 (fr : Int), .slice wo ws.length wc] u fun e w' => e = .returned (.int .u64 (S : Nat)) ∧ Below u.heap.size u w' := fun u wo wc h => by
            rw [hS, ← hws]
            exact goalsOf_any W H fr T C A B wo wc ws u h hwok hT hW hH (unhide HC) (by rw [← unhide HC]; exact hfc)
          have HWO := hide hWO
          have HGO := hide hGO
          have hkp : ∀ u, Below wr.drew.heap.size wr.drew u → isPb u (w.heap.size + 1) W H T C A B := fun u hu => isPb.below (w := wr.drew) (unhide HPB) hu (by show _ < wr.heap.size; omega)
          have HKP := hide hkp
          obtain ⟨L, hL⟩ : ∃ L, L = D ++ goesTo W H T C ps fr := ⟨_, rfl⟩
          have hLl : L.length ≤ 4608 := by rw [hL, List.length_append]; omega
          have hsu' : D ++ goesTo W H T C ps (fr + 1) = L ++ goTo S fr (upN N) M := by rw [hL, hsu, List.append_assoc, hS]
          have HSU := hide hsu'
          rw [← hL] at HOWN
          clear hat hsu hS hws hwok hcp hWO hGO hkp hL hsu' hbd
          go_wp2_with fail
          refine (unhide HO _).mono ?_
          rintro e w1 ⟨rfl, rfl⟩
          go_wp2_with fail
          refine (unhide HCP _).mono ?_
          rintro e w1 ⟨rfl, rfl⟩
          go_wp2_with fail
          go_region_law (first
            | (refine step_call rfl 130 #[.tmp 35, .tmp 36] #[27, 5] rfl #[.agg #[v0, v1, v2, v3, v4, v5, .slice ao n cap, .bool true, v8, v9, v10, v11, v12], .int .u8 (upN N : Nat)] (by simp [Act.eval]) entWO (unhide HWO) ?_; rintro e1 wx ⟨wo, wc, rfl, hwx, hbx⟩; refine ⟨_, rfl, ?_⟩; obtain ⟨q0, q1, q2, q3, q4, q5⟩ := (unhide HKP wx hbx).all)
            | (refine step_call rfl 129 #[.tmp 33, .tmp 34, .tmp 37] #[24, 3, 69] rfl #[.agg #[.int .i64 (W : Int), .int .i64 (H : Int), .string C, .int .i64 (T : Int), .string A, .string B], .int .i64 (fr : Int), .slice wo ws.length wc] (by simp [Act.eval]) entGO (unhide HGO _ wo wc hwx) ?_; rintro e2 wy ⟨rfl, hby⟩; refine ⟨_, rfl, ?_⟩))
          all_goals
            have hb2 : Below w1.heap.size w1 wy := (show Below w1.heap.size w1 wx from ⟨hbx.os, hbx.tape, hbx.output, hbx.size, hbx.block⟩).trans (hby.mono hbx.size)
            have HOWN2 := hide (own_below (unhide HOWN) hb2)
            have HB2 := hide (hb2.mono hszr)
            have hp2 := (unhide HPB).below hb2 (unhide HPB).lt
            clear p0 p1 p2 p3 p4 p5 r0 r1 r2 r3 r4 r5 r6 r7 r8 r9 r10 r11 r12 q0 q1 q2 q3 q4 q5 hwx hbx hby hb2 HOWN HWO HGO HKP HO HCP
            obtain ⟨-, -, p2, -⟩ := hp2.all
            clear hp2
            go_wp2
            go_loopw [5, 42] (fun lv jv wq => ∃ j : Nat, jv = .int .i64 (j : Int) ∧ j ≤ M ∧ wq.ownsRow (w.heap.size + 2) 61 3 lv (L ++ goTo S fr (upN N) j).length (mvals (L ++ goTo S fr (upN N) j)) ∧ Below (w.heap.size + 2) w1 wq) (fun _ jv _ => M - (intOf jv).toNat)
            case atStart => exact ⟨0, rfl, Nat.zero_le _, by simpa [goTo] using unhide HOWN2, unhide HB2⟩
            case round =>
              obtain ⟨j, rfl, hj, hown, hbq⟩ := hrel
              clear HOWN2 HB2 p2
              have hszq : w.heap.size + 2 ≤ wr.heap.size := Nat.le_trans hszr hbq.size
              by_cases hjl : j < M
              · have hjli : (j : Int) < (M : Int) := by omega
                have HSH := hide (fun u => setHave_any S j u hS64 (by omega))
                have hgs := goTo_succ S fr (upN N) j
                have hgl2 := goTo_len S fr (upN N) j
                obtain ⟨t, ht⟩ : ∃ t, S.testBit j = t := ⟨_, rfl⟩
                rw [ht] at HSH hgs
                have HBQ := hide hbq
                clear hbq ht
                cases t with
                | false =>
                  simp only [Bool.false_eq_true, if_false, List.append_nil] at hgs
                  have HGS := hide hgs
                  have HOWN3 := hide hown
                  clear hgs hown
                  go_wp2_with fail
                  refine (unhide HSH _).mono ?_
                  rintro e w3 ⟨rfl, rfl⟩
                  go_wp2
                  go_roundw
                  case rel => exact ⟨j + 1, by go_num, by omega, by rw [unhide HGS]; exact unhide HOWN3, unhide HBQ⟩
                  case measure => simp only [intOf]; omega
                | true =>
                  simp only [if_true] at hgs
                  have HGS := hide hgs
                  obtain ⟨Y, hY⟩ : ∃ Y, Y = L ++ goTo S fr (upN N) j := ⟨_, rfl⟩
                  have hYl : Y.length ≤ 5000 := by rw [hY, List.length_append]; omega
                  rw [← hY] at hown
                  have HY := hide hY
                  have HGE := hide (own_ge hown)
                  clear hgs hY
                  go_wp2_with fail
                  refine (unhide HSH _).mono ?_
                  rintro e w3 ⟨rfl, rfl⟩
                  go_wp2_with (at_builtin; refine wpList_append_own _ rfl _ _ 56 rfl (w.heap.size + 2) 61 i0 _ 3 24 Tryz.underlying56 hi hz0 hz1 hz2 rfl (by decide) _ _ _ rfl (hown.alloc _) ⟨w3.heap.size, 0, none⟩ 1 1 [.int .i64 (fr : Int), .int .i64 (j : Int), .int .u8 (upN N : Nat)] rfl rfl ?c1 ?c2 ?c3 ?c4 ?c5 ?_)
                  case c1 =>
                    intro j u hj
                    match j, hj with
                    | 0, hj => simp at hj; subst hj; simp [Addr.add]
                    | 1, hj => simp at hj; subst hj; simp [Addr.add]
                    | 2, hj => simp at hj; subst hj; simp [Addr.add]
                  case c2 =>
                    intro u hu
                    simp only [List.mem_cons, List.not_mem_nil, or_false] at hu
                    rcases hu with rfl | rfl | rfl <;> rfl
                  case c3 => unfold maxLen; omega
                  case c4 => omega
                  case c5 => simp; omega
                  intro v' w4 hown' hgrow _
                  have hb4 : Below (w.heap.size + 2) w3 w4 := ((Below.refl _ w3).alloc hszq _).grown hgrow (by simp; omega) (unhide HGE)
                  have hown4 : w4.ownsRow (w.heap.size + 2) 61 3 v' (L ++ goTo S fr (upN N) (j + 1)).length (mvals (L ++ goTo S fr (upN N) (j + 1))) := by
                    rw [unhide HGS, ← List.append_assoc, ← unhide HY, mvals_snoc, List.length_append]
                    exact hown'
                  have HOWN4 := hide hown4
                  have HBQ4 := hide ((unhide HBQ).trans hb4)
                  clear hown' hgrow hown hown4 hb4 HBQ
                  go_wp2
                  go_roundw
                  case rel => exact ⟨j + 1, by go_num, by omega, unhide HOWN4, unhide HBQ4⟩
                  case measure => simp only [intOf]; omega
              · have hjli : ¬ (j : Int) < (M : Int) := by omega
                rw [show j = M by omega, ← unhide HSU] at hown
                have HPB4 := hide ((unhide HPB).below hbq (by omega))
                have HRU4 := hide ((unhide HRU).below hbq (by omega))
                have HBW4 := hide ((unhide HBW).trans (hbq.mono (by omega)))
                have HOWN4 := hide hown
                clear hbq hown
                go_wp2
                go_roundw
                case rel => exact ⟨fr + 1, by go_num, by omega, unhide HOWN4, unhide HPB4, unhide HRU4, unhide HBW4, hszq⟩
                case measure => simp only [intOf]; omega
      · have hlti : ¬ (fr : Int) < (M : Int) := by omega
        rw [show fr = M by omega, ← unhide HP2] at hown
        have HOWN := hide hown
        have HBW := hide hbw
        clear hown hbw hpb hru
        go_wp2
        go_ret
        exact ⟨_, rfl, World.ownsRow.mono (unhide HOWN) (by omega), unhide HBW⟩
end Go.Proofs.YtihojhfpepbjhaaGreatDoor
