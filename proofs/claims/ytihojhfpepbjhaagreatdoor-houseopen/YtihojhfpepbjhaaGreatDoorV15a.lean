/-
  package moves, walked: canMove.
-/
import Derived.Test.YtihojhfpepbjhaaGreatDoorJ10
namespace Go.Proofs.YtihojhfpepbjhaaGreatDoor
open Go.RowKit
attribute [local go_sem ↓] Go.wp_at_zero Go.wp_at_succ

theorem entCap : ∀ args (u : World), (callFunc 100 args).run Tryz.prog u = .ok (.enter 100 args) u := enters_of Tryz.func100 (by kernel_rfl) rfl
theorem step_callG {P : Program} {ops : Array Oper} {o : Oper} {a : Act} {w : World} {K : Act → World → Prop} {Q : Exit → Act → World → Prop} {E : Prop}
    (hw : Region.wanted o (yielded ops a.tmps) = true) (f : FuncId) (xs : Array Operand) (ts : Array TypeId) (hop : o.op = Op.call { callee := Callee.value (Operand.func f), args := xs, argTypes := ts }) (vs : Array Value) (hv : xs.map a.eval = vs)
    (he : ∀ args (u : World), (callFunc f args).run P u = .ok (.enter f args) u) {R : Ending → World → Prop} (hc : Calls P f vs w R) (hK : ∀ e w', R e w' → ∃ v, e = .returned v ∧ K (a.put o.dst v) w') :
    if Region.wanted o (yielded ops a.tmps) = true then Oper.wp P o a w K Q else E := by
  rw [if_pos hw]
  unfold Oper.wp
  have hr : (execOp a.eval o).run P w = .ok (.enter f vs) w := by
    rw [← he vs w, ← hv]
    simp [execOp, hop, resolve, invoke, Act.eval, Deferred.ofValue]
  rw [hr, Oper.upon_enter]
  refine hc.mono fun e w' h => ?_
  obtain ⟨v, rfl, hk⟩ := hK e w' h
  exact hk
theorem entIs : ∀ args (u : World), (callFunc 128 args).run Tryz.prog u = .ok (.enter 128 args) u := enters_of Tryz.func128 (by kernel_rfl) rfl
theorem any_succ (f : Nat → Bool) (n : Nat) : (List.range (n + 1)).any f = ((List.range n).any f || f n) := by rw [List.range_succ, List.any_append]; simp
theorem any_more {f : Nat → Bool} {n m : Nat} (h : (List.range n).any f = true) (hm : n ≤ m) : (List.range m).any f = true := by
  obtain ⟨i, hi, hf⟩ := List.any_eq_true.1 h
  exact List.any_eq_true.2 ⟨i, List.mem_range.2 (by have := List.mem_range.1 hi; omega), hf⟩

set_option maxHeartbeats 4000000 in
set_option maxRecDepth 100000 in
theorem canMove_any (W H T : Nat) (C A B : ByteArray) (v0 v1 v2 v3 v4 v5 v8 v9 v10 v11 v12 : Value) (ao : Option Addr) (cap : Nat) (ps : List Pc) (dr : Bool) (w : World) (hps : isPcs w ao cap ps) (hok : ∀ p ∈ ps, ∀ z ∈ p.ws, z.ok = true) (hT : T ≤ 1) (hW : 1 ≤ W ∧ W ≤ 8) (hH : 1 ≤ H ∧ H ≤ 8) (hC : C.size = W * H) :
    Calls Tryz.prog 142 #[.agg #[v0, v1, v2, v3, v4, v5, .slice ao ps.length cap, .bool dr, v8, v9, v10, v11, v12], .agg #[.int .i64 (W : Int), .int .i64 (H : Int), .string C, .int .i64 (T : Int), .string A, .string B]] w fun e w' => e = .returned (.bool (canB W H T C A B ps dr)) ∧ Below w.heap.size w w' := by
  have h64 : W * H ≤ 64 := Nat.mul_le_mul hW.2 hH.2
  obtain ⟨n, hn⟩ : ∃ n, n = ps.length := ⟨_, rfl⟩
  rw [← hn]
  have HN := hide hn
  have HPS := hide hps
  have HOK := hide hok
  obtain ⟨M, hM⟩ : ∃ M, M = C.size := ⟨_, rfl⟩
  have hM64 : M ≤ 64 := by omega
  have HC := hide hC
  have hMC : C.size = M := hM.symm
  obtain ⟨R, hR⟩ : ∃ R, R = canB W H T C A B ps dr := ⟨_, rfl⟩
  rw [← hR]
  unfold canB at hR
  rw [hMC] at hR
  clear hM hn hps hok hC
  obtain ⟨w1, hw1⟩ : ∃ w1, w1 = w.alloc (.cells #[v0, v1, v2, v3, v4, v5, .slice ao n cap, .bool dr, v8, v9, v10, v11, v12] 27 (0, 0)) := ⟨_, rfl⟩
  obtain ⟨w2, hw2⟩ : ∃ w2, w2 = w1.alloc (.cells #[.int .i64 (W : Int), .int .i64 (H : Int), .string C, .int .i64 (T : Int), .string A, .string B] 24 (0, 0)) := ⟨_, rfl⟩
  have hb1 : Below w.heap.size w w1 := by rw [hw1]; exact (Below.refl _ _).alloc (Nat.le_refl _) _
  have hb2 : Below w1.heap.size w1 w2 := by rw [hw2]; exact (Below.refl _ _).alloc (Nat.le_refl _) _
  have s1 : w1.heap.size = w.heap.size + 1 := by rw [hw1]; simp
  have s2 : w2.heap.size = w.heap.size + 2 := by rw [hw2]; simp [s1]
  have hru : isRu w2 w.heap.size v0 v1 v2 v3 v4 v5 (.slice ao n cap) (.bool dr) v8 v9 v10 v11 v12 := isRu.below (show isRu w1 w.heap.size v0 v1 v2 v3 v4 v5 (.slice ao n cap) (.bool dr) v8 v9 v10 v11 v12 by rw [hw1]; exact heap_alloc_new w _) hb2 (by omega)
  have hpb : isPb w2 (w.heap.size + 1) W H T C A B := by rw [hw2, ← s1]; exact heap_alloc_new w1 _
  have HBW := hide (hb1.trans (hb2.mono (by omega)))
  have HPB := hide hpb
  have HRU := hide hru
  have hsz : w.heap.size + 2 ≤ w2.heap.size := by omega
  obtain ⟨p0, p1, p2, p3, p4, p5⟩ := hpb.all
  have hhc := hand_cell w2 (w.heap.size + 1) T _ _ _ C A B hpb hT
  obtain ⟨h, hh⟩ : ∃ h, h = handOf T A B := ⟨_, rfl⟩
  rw [← hh] at hhc
  obtain ⟨-, -, -, -, -, -, -, r7, -⟩ := hru.cells
  have HI := hide (fun u => Tryz.strings_IndexByte C (46 : Nat) u)
  obtain ⟨I, hI⟩ : ∃ I, I = Lib.indexByte C.data.toList (46 : Nat).toUInt8 := ⟨_, rfl⟩
  simp only [toB, ← hI] at HI
  unfold dropB hasN at hR
  rw [← hI, ← hh] at hR
  have hhc0 := hhc
  rw [hw2, hw1] at hhc0
  clear hb1 hb2 hru hpb s1 s2 hI hh hhc
  have HR := hide hR
  clear hR
  cases dr with
  | false =>
    go_enter Tryz.func142, Tryz.ntmps142
    go_wp2
    rw [← hw1, ← hw2]
    clear hw1 hw2 hhc0
    go_loopw [26] (fun iv wr => ∃ fr : Nat, iv = .int .i64 (fr : Int) ∧ fr ≤ M ∧ (List.range fr).any (goB W H T C ps) = false ∧ isPb wr (w.heap.size + 1) W H T C A B ∧ isRu wr w.heap.size v0 v1 v2 v3 v4 v5 (.slice ao n cap) (.bool false) v8 v9 v10 v11 v12 ∧ Below w.heap.size w wr ∧ w.heap.size + 2 ≤ wr.heap.size) (fun iv _ => M - (intOf iv).toNat)
    case atStart => exact ⟨0, rfl, Nat.zero_le _, rfl, unhide HPB, unhide HRU, unhide HBW, hsz⟩
    case round =>
      obtain ⟨fr, rfl, hfr, hno, hpb, hru, hbw, hszr⟩ := hrel
      clear HPB HRU HBW hsz
      by_cases hlt : fr < M
      · have hlti : (fr : Int) < (M : Int) := by omega
        have hfc : fr < C.size := by omega
        obtain ⟨hcn, h256⟩ := cellN_at C fr hfc
        obtain ⟨N, hN⟩ : ∃ N, N = cellN C fr := ⟨_, rfl⟩
        rw [← hN] at hcn h256
        have HO := hide (fun u => IsOf_any T N u hT h256)
        obtain ⟨p0, p1, p2, p3, p4, p5⟩ := hpb.all
        obtain ⟨r0, r1, r2, r3, r4, r5, r6, r7, r8, r9, r10, r11, r12⟩ := hru.cells
        obtain ⟨b, hbb⟩ : ∃ b, ownB T N = b := ⟨_, rfl⟩
        rw [hbb] at HO
        have hat : goB W H T C ps fr = (b && decide (goalsG W H T C fr (waysP (upN N) ps) ≠ 0)) := by unfold goB; rw [← hN, hbb]
        have hsu := any_succ (goB W H T C ps) fr
        rw [hno, Bool.false_or] at hsu
        have HPB := hide hpb
        have HRU := hide hru
        have HBW := hide hbw
        clear hpb hru hbw hN hbb hno
        cases b with
        | false =>
          rw [Bool.false_and] at hat
          rw [hat] at hsu
          have HSU := hide hsu
          clear hat hsu r0 r1 r2 r3 r4 r5 r6 r7 r8 r9 r10 r11 r12
          go_wp2_with fail
          go_quiet (first
            | (go_at_call 128; exact Calls.quiet_of_same (unhide HO _)))
          go_wp2
          go_roundw
          case rel => exact ⟨fr + 1, by go_num, by omega, unhide HSU, unhide HPB, unhide HRU, ⟨(unhide HBW).os, (unhide HBW).tape, (unhide HBW).output, (unhide HBW).size, (unhide HBW).block⟩, hszr⟩
          case measure => simp only [intOf]; omega
        | true =>
          rw [Bool.true_and] at hat
          rw [hat] at hsu
          obtain ⟨S, hS⟩ : ∃ S, S = goalsG W H T C fr (waysP (upN N) ps) := ⟨_, rfl⟩
          rw [← hS] at hat hsu
          obtain ⟨ws, hws⟩ : ∃ ws, ws = waysP (upN N) ps := ⟨_, rfl⟩
          have hwok : ∀ z ∈ ws, z.ok = true := by rw [hws]; exact waysP_ok (unhide HOK)
          have hcp := Capital_any N
          rw [(up_andNot N h256).1] at hcp
          have HCP := hide hcp
          have hWO : ∀ u : World, Below w.heap.size w u → Calls Tryz.prog 130 #[.agg #[v0, v1, v2, v3, v4, v5, .slice ao n cap, .bool false, v8, v9, v10, v11, v12], .int .u8 (upN N : Nat)] u fun e w' => ∃ wo wc, e = .returned (.slice wo ws.length wc) ∧ isWys w' wo wc ws ∧ Below u.heap.size u w' := fun u hu => by
            rw [hws, unhide HN]
            exact waysOf_any v0 v1 v2 v3 v4 v5 (.bool false) v8 v9 v10 v11 v12 ao cap ps (upN N) u ((unhide HPS).below hu (Nat.le_refl _))
          have hGO : ∀ (u : World) (wo : Option Addr) (wc : Nat), isWys u wo wc ws → Calls Tryz.prog 129 #[.agg #[.int .i64 (W : Int), .int .i64 (H : Int), .string C, .int .i64 (T : Int), .string A, .string B], .int .i64 (fr : Int), .slice wo ws.length wc] u fun e w' => e = .returned (.int .u64 (S : Nat)) ∧ Below u.heap.size u w' := fun u wo wc h => by
            rw [hS, ← hws]
            exact goalsOf_any W H fr T C A B wo wc ws u h hwok hT hW hH (unhide HC) (by rw [← unhide HC]; exact hfc)
          have HWO := hide (hWO wr.drew (unhide HBW).drew)
          have HGO := hide hGO
          have hkp : ∀ u, Below wr.drew.heap.size wr.drew u → isPb u (w.heap.size + 1) W H T C A B := fun u hu => isPb.below (w := wr.drew) (unhide HPB) hu (by show _ < wr.heap.size; omega)
          have HKP := hide hkp
          have hkw : ∀ u, Below wr.drew.heap.size wr.drew u → Below w.heap.size w u := fun u hu => (unhide HBW).drew.trans (hu.mono (unhide HBW).drew.size)
          have HKW := hide hkw
          have hkr : ∀ u, Below wr.drew.heap.size wr.drew u → isRu u w.heap.size v0 v1 v2 v3 v4 v5 (.slice ao n cap) (.bool false) v8 v9 v10 v11 v12 := fun u hu => isRu.below (w := wr.drew) (unhide HRU) hu (by show _ < wr.heap.size; omega)
          have HKR := hide hkr
          have HSU := hide hsu
          clear hat hsu hS hws hwok hcp hWO hGO hkp hkw hkr
          go_wp2_with fail
          go_region_law (first
            | (refine step_callG rfl 128 #[.tmp 34, .tmp 35] #[3, 5] rfl #[.int .i64 (T : Int), .int .u8 (N : Int)] (by first | (simp [Act.eval]; done) | simp [Act.eval, Act.put]) entIs (unhide HO _) ?_; rintro e0 wz ⟨rfl, rfl⟩; refine ⟨_, rfl, ?_⟩)
            | (refine step_callG rfl 100 #[.tmp 41] #[5] rfl #[.int .u8 (N : Int)] (by first | (simp [Act.eval]; done) | simp [Act.eval, Act.put]) entCap (unhide HCP _) ?_; rintro e0 wz ⟨rfl, rfl⟩; refine ⟨_, rfl, ?_⟩)
            | (refine step_callG rfl 130 #[.tmp 40, .tmp 42] #[27, 5] rfl #[.agg #[v0, v1, v2, v3, v4, v5, .slice ao n cap, .bool false, v8, v9, v10, v11, v12], .int .u8 (upN N : Nat)] (by first | (simp [Act.eval]; done) | simp [Act.eval, Act.put]) entWO (unhide HWO) ?_; rintro e1 wx ⟨wo, wc, rfl, hwx, hbx⟩; refine ⟨_, rfl, ?_⟩; obtain ⟨q0, q1, q2, q3, q4, q5⟩ := (unhide HKP wx hbx).all)
            | (refine step_callG rfl 129 #[.tmp 38, .tmp 39, .tmp 43] #[24, 3, 69] rfl #[.agg #[.int .i64 (W : Int), .int .i64 (H : Int), .string C, .int .i64 (T : Int), .string A, .string B], .int .i64 (fr : Int), .slice wo ws.length wc] (by first | (simp [Act.eval]; done) | simp [Act.eval, Act.put]) entGO (unhide HGO _ wo wc hwx) ?_; rintro e2 wy ⟨rfl, hby⟩; refine ⟨_, rfl, ?_⟩))
          all_goals
            have hb2 : Below w.heap.size w wy := (unhide HKW wx hbx).trans (hby.mono (unhide HKW wx hbx).size)
            have hp2 := (unhide HKP wx hbx).below hby (unhide HKP wx hbx).lt
            have hr2 := (unhide HKR wx hbx).below hby (unhide HKR wx hbx).lt
            have hs2 : w.heap.size + 2 ≤ wy.heap.size := by have := hbx.size; have := hby.size; have e : wr.drew.heap.size = wr.heap.size := rfl; omega
            have HB2 := hide hb2
            have HP2 := hide hp2
            have HR2 := hide hr2
            clear p0 p1 p2 p3 p4 p5 r0 r1 r2 r3 r4 r5 r6 r7 r8 r9 r10 r11 r12 q0 q1 q2 q3 q4 q5 hwx hbx hby hb2 hp2 hr2 HPB HRU HBW HWO HGO HKP HKW HKR HO HCP
            by_cases hS0 : S = 0
            · have hb : ((S : Int) != 0) = false := by simp [hS0]
              have hsu := unhide HSU
              rw [show decide (S ≠ 0) = false by simp [hS0]] at hsu
              have HSU2 := hide hsu
              clear hsu HSU hS0
              go_wp2
              go_roundw
              case rel => exact ⟨fr + 1, by go_num, by omega, unhide HSU2, unhide HP2, unhide HR2, unhide HB2, hs2⟩
              case measure => simp only [intOf]; omega
            · have hb : ((S : Int) != 0) = true := by simp [hS0]
              have hsu := unhide HSU
              rw [show decide (S ≠ 0) = true by simp [hS0]] at hsu
              have hRe : R = true := by rw [unhide HR, any_more hsu (by omega)]; simp
              have HRE := hide hRe
              clear hsu HSU hS0 hRe HR
              go_wp2
              go_ret
              exact ⟨by rw [unhide HRE]; rfl, unhide HB2⟩
      · have hlti : ¬ (fr : Int) < (M : Int) := by omega
        have hRe : R = false := by rw [unhide HR, show M = fr by omega, hno]; simp
        have HRE := hide hRe
        have HBW := hide hbw
        clear hbw hpb hru hRe HR
        go_wp2
        go_ret
        exact ⟨by rw [unhide HRE]; rfl, unhide HBW⟩
  | true =>
    by_cases h0 : h.size = 0
    · have hb : h.toList = [] := by rw [Lib.toList_data, ← List.length_eq_zero_iff]; simpa using h0
      have HH := hide h0
      clear h0
      go_enter Tryz.func142, Tryz.ntmps142
      go_wp2
      rw [← hw1, ← hw2]
      clear hw1 hw2 hhc0
      go_loopw [26] (fun iv wr => ∃ fr : Nat, iv = .int .i64 (fr : Int) ∧ fr ≤ M ∧ (List.range fr).any (goB W H T C ps) = false ∧ isPb wr (w.heap.size + 1) W H T C A B ∧ isRu wr w.heap.size v0 v1 v2 v3 v4 v5 (.slice ao n cap) (.bool true) v8 v9 v10 v11 v12 ∧ Below w.heap.size w wr ∧ w.heap.size + 2 ≤ wr.heap.size) (fun iv _ => M - (intOf iv).toNat)
      case atStart => exact ⟨0, rfl, Nat.zero_le _, rfl, unhide HPB, unhide HRU, unhide HBW, hsz⟩
      case round =>
        obtain ⟨fr, rfl, hfr, hno, hpb, hru, hbw, hszr⟩ := hrel
        clear HPB HRU HBW hsz
        by_cases hlt : fr < M
        · have hlti : (fr : Int) < (M : Int) := by omega
          have hfc : fr < C.size := by omega
          obtain ⟨hcn, h256⟩ := cellN_at C fr hfc
          obtain ⟨N, hN⟩ : ∃ N, N = cellN C fr := ⟨_, rfl⟩
          rw [← hN] at hcn h256
          have HO := hide (fun u => IsOf_any T N u hT h256)
          obtain ⟨p0, p1, p2, p3, p4, p5⟩ := hpb.all
          obtain ⟨r0, r1, r2, r3, r4, r5, r6, r7, r8, r9, r10, r11, r12⟩ := hru.cells
          obtain ⟨b, hbb⟩ : ∃ b, ownB T N = b := ⟨_, rfl⟩
          rw [hbb] at HO
          have hat : goB W H T C ps fr = (b && decide (goalsG W H T C fr (waysP (upN N) ps) ≠ 0)) := by unfold goB; rw [← hN, hbb]
          have hsu := any_succ (goB W H T C ps) fr
          rw [hno, Bool.false_or] at hsu
          have HPB := hide hpb
          have HRU := hide hru
          have HBW := hide hbw
          clear hpb hru hbw hN hbb hno
          cases b with
          | false =>
            rw [Bool.false_and] at hat
            rw [hat] at hsu
            have HSU := hide hsu
            clear hat hsu r0 r1 r2 r3 r4 r5 r6 r7 r8 r9 r10 r11 r12
            go_wp2_with fail
            go_quiet (first
              | (go_at_call 128; exact Calls.quiet_of_same (unhide HO _)))
            go_wp2
            go_roundw
            case rel => exact ⟨fr + 1, by go_num, by omega, unhide HSU, unhide HPB, unhide HRU, ⟨(unhide HBW).os, (unhide HBW).tape, (unhide HBW).output, (unhide HBW).size, (unhide HBW).block⟩, hszr⟩
            case measure => simp only [intOf]; omega
          | true =>
            rw [Bool.true_and] at hat
            rw [hat] at hsu
            obtain ⟨S, hS⟩ : ∃ S, S = goalsG W H T C fr (waysP (upN N) ps) := ⟨_, rfl⟩
            rw [← hS] at hat hsu
            obtain ⟨ws, hws⟩ : ∃ ws, ws = waysP (upN N) ps := ⟨_, rfl⟩
            have hwok : ∀ z ∈ ws, z.ok = true := by rw [hws]; exact waysP_ok (unhide HOK)
            have hcp := Capital_any N
            rw [(up_andNot N h256).1] at hcp
            have HCP := hide hcp
            have hWO : ∀ u : World, Below w.heap.size w u → Calls Tryz.prog 130 #[.agg #[v0, v1, v2, v3, v4, v5, .slice ao n cap, .bool true, v8, v9, v10, v11, v12], .int .u8 (upN N : Nat)] u fun e w' => ∃ wo wc, e = .returned (.slice wo ws.length wc) ∧ isWys w' wo wc ws ∧ Below u.heap.size u w' := fun u hu => by
              rw [hws, unhide HN]
              exact waysOf_any v0 v1 v2 v3 v4 v5 (.bool true) v8 v9 v10 v11 v12 ao cap ps (upN N) u ((unhide HPS).below hu (Nat.le_refl _))
            have hGO : ∀ (u : World) (wo : Option Addr) (wc : Nat), isWys u wo wc ws → Calls Tryz.prog 129 #[.agg #[.int .i64 (W : Int), .int .i64 (H : Int), .string C, .int .i64 (T : Int), .string A, .string B], .int .i64 (fr : Int), .slice wo ws.length wc] u fun e w' => e = .returned (.int .u64 (S : Nat)) ∧ Below u.heap.size u w' := fun u wo wc h => by
              rw [hS, ← hws]
              exact goalsOf_any W H fr T C A B wo wc ws u h hwok hT hW hH (unhide HC) (by rw [← unhide HC]; exact hfc)
            have HWO := hide (hWO wr.drew (unhide HBW).drew)
            have HGO := hide hGO
            have hkp : ∀ u, Below wr.drew.heap.size wr.drew u → isPb u (w.heap.size + 1) W H T C A B := fun u hu => isPb.below (w := wr.drew) (unhide HPB) hu (by show _ < wr.heap.size; omega)
            have HKP := hide hkp
            have hkw : ∀ u, Below wr.drew.heap.size wr.drew u → Below w.heap.size w u := fun u hu => (unhide HBW).drew.trans (hu.mono (unhide HBW).drew.size)
            have HKW := hide hkw
            have hkr : ∀ u, Below wr.drew.heap.size wr.drew u → isRu u w.heap.size v0 v1 v2 v3 v4 v5 (.slice ao n cap) (.bool true) v8 v9 v10 v11 v12 := fun u hu => isRu.below (w := wr.drew) (unhide HRU) hu (by show _ < wr.heap.size; omega)
            have HKR := hide hkr
            have HSU := hide hsu
            clear hat hsu hS hws hwok hcp hWO hGO hkp hkw hkr
            go_wp2_with fail
            go_region_law (first
              | (refine step_callG rfl 128 #[.tmp 34, .tmp 35] #[3, 5] rfl #[.int .i64 (T : Int), .int .u8 (N : Int)] (by first | (simp [Act.eval]; done) | simp [Act.eval, Act.put]) entIs (unhide HO _) ?_; rintro e0 wz ⟨rfl, rfl⟩; refine ⟨_, rfl, ?_⟩)
              | (refine step_callG rfl 100 #[.tmp 41] #[5] rfl #[.int .u8 (N : Int)] (by first | (simp [Act.eval]; done) | simp [Act.eval, Act.put]) entCap (unhide HCP _) ?_; rintro e0 wz ⟨rfl, rfl⟩; refine ⟨_, rfl, ?_⟩)
              | (refine step_callG rfl 130 #[.tmp 40, .tmp 42] #[27, 5] rfl #[.agg #[v0, v1, v2, v3, v4, v5, .slice ao n cap, .bool true, v8, v9, v10, v11, v12], .int .u8 (upN N : Nat)] (by first | (simp [Act.eval]; done) | simp [Act.eval, Act.put]) entWO (unhide HWO) ?_; rintro e1 wx ⟨wo, wc, rfl, hwx, hbx⟩; refine ⟨_, rfl, ?_⟩; obtain ⟨q0, q1, q2, q3, q4, q5⟩ := (unhide HKP wx hbx).all)
              | (refine step_callG rfl 129 #[.tmp 38, .tmp 39, .tmp 43] #[24, 3, 69] rfl #[.agg #[.int .i64 (W : Int), .int .i64 (H : Int), .string C, .int .i64 (T : Int), .string A, .string B], .int .i64 (fr : Int), .slice wo ws.length wc] (by first | (simp [Act.eval]; done) | simp [Act.eval, Act.put]) entGO (unhide HGO _ wo wc hwx) ?_; rintro e2 wy ⟨rfl, hby⟩; refine ⟨_, rfl, ?_⟩))
            all_goals
              have hb2 : Below w.heap.size w wy := (unhide HKW wx hbx).trans (hby.mono (unhide HKW wx hbx).size)
              have hp2 := (unhide HKP wx hbx).below hby (unhide HKP wx hbx).lt
              have hr2 := (unhide HKR wx hbx).below hby (unhide HKR wx hbx).lt
              have hs2 : w.heap.size + 2 ≤ wy.heap.size := by have := hbx.size; have := hby.size; have e : wr.drew.heap.size = wr.heap.size := rfl; omega
              have HB2 := hide hb2
              have HP2 := hide hp2
              have HR2 := hide hr2
              clear p0 p1 p2 p3 p4 p5 r0 r1 r2 r3 r4 r5 r6 r7 r8 r9 r10 r11 r12 q0 q1 q2 q3 q4 q5 hwx hbx hby hb2 hp2 hr2 HPB HRU HBW HWO HGO HKP HKW HKR HO HCP
              by_cases hS0 : S = 0
              · have hb : ((S : Int) != 0) = false := by simp [hS0]
                have hsu := unhide HSU
                rw [show decide (S ≠ 0) = false by simp [hS0]] at hsu
                have HSU2 := hide hsu
                clear hsu HSU hS0
                go_wp2
                go_roundw
                case rel => exact ⟨fr + 1, by go_num, by omega, unhide HSU2, unhide HP2, unhide HR2, unhide HB2, hs2⟩
                case measure => simp only [intOf]; omega
              · have hb : ((S : Int) != 0) = true := by simp [hS0]
                have hsu := unhide HSU
                rw [show decide (S ≠ 0) = true by simp [hS0]] at hsu
                have hRe : R = true := by rw [unhide HR, any_more hsu (by omega)]; simp
                have HRE := hide hRe
                clear hsu HSU hS0 hRe HR
                go_wp2
                go_ret
                exact ⟨by rw [unhide HRE]; rfl, unhide HB2⟩
        · have hlti : ¬ (fr : Int) < (M : Int) := by omega
          have hRe : R = false := by rw [unhide HR, show M = fr by omega, hno]; simp [unhide HH]
          have HRE := hide hRe
          have HBW := hide hbw
          clear hbw hpb hru hRe HR
          go_wp2
          go_ret
          exact ⟨by rw [unhide HRE]; rfl, unhide HBW⟩
    · have hb : ¬ h.toList = [] := by rw [Lib.toList_data, ← List.length_eq_zero_iff]; simpa using h0
      have hb' : h.toList.isEmpty = false := by simpa using hb
      have HH := hide h0
      clear h0
      by_cases hI0 : 0 ≤ I
      · have hRe : R = true := by rw [unhide HR]; simp [unhide HH, hI0]
        have HRE := hide hRe
        clear hRe HR
        go_enter Tryz.func142, Tryz.ntmps142
        go_wp2_with fail
        refine (unhide HI _).mono ?_
        rintro e u ⟨rfl, rfl⟩
        go_wp2
        go_ret
        exact ⟨by rw [unhide HRE]; rfl, by rw [← hw1, ← hw2]; exact unhide HBW⟩
      · have HI0 := hide hI0
        go_enter Tryz.func142, Tryz.ntmps142
        go_wp2_with fail
        refine (unhide HI _).mono ?_
        rintro e u ⟨rfl, rfl⟩
        rw [← hw1, ← hw2]
        clear hw1 hw2 hhc0
        go_wp2
        go_loopw [26] (fun iv wr => ∃ fr : Nat, iv = .int .i64 (fr : Int) ∧ fr ≤ M ∧ (List.range fr).any (goB W H T C ps) = false ∧ isPb wr (w.heap.size + 1) W H T C A B ∧ isRu wr w.heap.size v0 v1 v2 v3 v4 v5 (.slice ao n cap) (.bool true) v8 v9 v10 v11 v12 ∧ Below w.heap.size w wr ∧ w.heap.size + 2 ≤ wr.heap.size) (fun iv _ => M - (intOf iv).toNat)
        case atStart => exact ⟨0, rfl, Nat.zero_le _, rfl, unhide HPB, unhide HRU, unhide HBW, hsz⟩
        case round =>
          obtain ⟨fr, rfl, hfr, hno, hpb, hru, hbw, hszr⟩ := hrel
          clear HPB HRU HBW hsz
          by_cases hlt : fr < M
          · have hlti : (fr : Int) < (M : Int) := by omega
            have hfc : fr < C.size := by omega
            obtain ⟨hcn, h256⟩ := cellN_at C fr hfc
            obtain ⟨N, hN⟩ : ∃ N, N = cellN C fr := ⟨_, rfl⟩
            rw [← hN] at hcn h256
            have HO := hide (fun u => IsOf_any T N u hT h256)
            obtain ⟨p0, p1, p2, p3, p4, p5⟩ := hpb.all
            obtain ⟨r0, r1, r2, r3, r4, r5, r6, r7, r8, r9, r10, r11, r12⟩ := hru.cells
            obtain ⟨b, hbb⟩ : ∃ b, ownB T N = b := ⟨_, rfl⟩
            rw [hbb] at HO
            have hat : goB W H T C ps fr = (b && decide (goalsG W H T C fr (waysP (upN N) ps) ≠ 0)) := by unfold goB; rw [← hN, hbb]
            have hsu := any_succ (goB W H T C ps) fr
            rw [hno, Bool.false_or] at hsu
            have HPB := hide hpb
            have HRU := hide hru
            have HBW := hide hbw
            clear hpb hru hbw hN hbb hno
            cases b with
            | false =>
              rw [Bool.false_and] at hat
              rw [hat] at hsu
              have HSU := hide hsu
              clear hat hsu r0 r1 r2 r3 r4 r5 r6 r7 r8 r9 r10 r11 r12
              go_wp2_with fail
              go_quiet (first
                | (go_at_call 128; exact Calls.quiet_of_same (unhide HO _)))
              go_wp2
              go_roundw
              case rel => exact ⟨fr + 1, by go_num, by omega, unhide HSU, unhide HPB, unhide HRU, ⟨(unhide HBW).os, (unhide HBW).tape, (unhide HBW).output, (unhide HBW).size, (unhide HBW).block⟩, hszr⟩
              case measure => simp only [intOf]; omega
            | true =>
              rw [Bool.true_and] at hat
              rw [hat] at hsu
              obtain ⟨S, hS⟩ : ∃ S, S = goalsG W H T C fr (waysP (upN N) ps) := ⟨_, rfl⟩
              rw [← hS] at hat hsu
              obtain ⟨ws, hws⟩ : ∃ ws, ws = waysP (upN N) ps := ⟨_, rfl⟩
              have hwok : ∀ z ∈ ws, z.ok = true := by rw [hws]; exact waysP_ok (unhide HOK)
              have hcp := Capital_any N
              rw [(up_andNot N h256).1] at hcp
              have HCP := hide hcp
              have hWO : ∀ u : World, Below w.heap.size w u → Calls Tryz.prog 130 #[.agg #[v0, v1, v2, v3, v4, v5, .slice ao n cap, .bool true, v8, v9, v10, v11, v12], .int .u8 (upN N : Nat)] u fun e w' => ∃ wo wc, e = .returned (.slice wo ws.length wc) ∧ isWys w' wo wc ws ∧ Below u.heap.size u w' := fun u hu => by
                rw [hws, unhide HN]
                exact waysOf_any v0 v1 v2 v3 v4 v5 (.bool true) v8 v9 v10 v11 v12 ao cap ps (upN N) u ((unhide HPS).below hu (Nat.le_refl _))
              have hGO : ∀ (u : World) (wo : Option Addr) (wc : Nat), isWys u wo wc ws → Calls Tryz.prog 129 #[.agg #[.int .i64 (W : Int), .int .i64 (H : Int), .string C, .int .i64 (T : Int), .string A, .string B], .int .i64 (fr : Int), .slice wo ws.length wc] u fun e w' => e = .returned (.int .u64 (S : Nat)) ∧ Below u.heap.size u w' := fun u wo wc h => by
                rw [hS, ← hws]
                exact goalsOf_any W H fr T C A B wo wc ws u h hwok hT hW hH (unhide HC) (by rw [← unhide HC]; exact hfc)
              have HWO := hide (hWO wr.drew (unhide HBW).drew)
              have HGO := hide hGO
              have hkp : ∀ u, Below wr.drew.heap.size wr.drew u → isPb u (w.heap.size + 1) W H T C A B := fun u hu => isPb.below (w := wr.drew) (unhide HPB) hu (by show _ < wr.heap.size; omega)
              have HKP := hide hkp
              have hkw : ∀ u, Below wr.drew.heap.size wr.drew u → Below w.heap.size w u := fun u hu => (unhide HBW).drew.trans (hu.mono (unhide HBW).drew.size)
              have HKW := hide hkw
              have hkr : ∀ u, Below wr.drew.heap.size wr.drew u → isRu u w.heap.size v0 v1 v2 v3 v4 v5 (.slice ao n cap) (.bool true) v8 v9 v10 v11 v12 := fun u hu => isRu.below (w := wr.drew) (unhide HRU) hu (by show _ < wr.heap.size; omega)
              have HKR := hide hkr
              have HSU := hide hsu
              clear hat hsu hS hws hwok hcp hWO hGO hkp hkw hkr
              go_wp2_with fail
              go_region_law (first
                | (refine step_callG rfl 128 #[.tmp 34, .tmp 35] #[3, 5] rfl #[.int .i64 (T : Int), .int .u8 (N : Int)] (by first | (simp [Act.eval]; done) | simp [Act.eval, Act.put]) entIs (unhide HO _) ?_; rintro e0 wz ⟨rfl, rfl⟩; refine ⟨_, rfl, ?_⟩)
                | (refine step_callG rfl 100 #[.tmp 41] #[5] rfl #[.int .u8 (N : Int)] (by first | (simp [Act.eval]; done) | simp [Act.eval, Act.put]) entCap (unhide HCP _) ?_; rintro e0 wz ⟨rfl, rfl⟩; refine ⟨_, rfl, ?_⟩)
                | (refine step_callG rfl 130 #[.tmp 40, .tmp 42] #[27, 5] rfl #[.agg #[v0, v1, v2, v3, v4, v5, .slice ao n cap, .bool true, v8, v9, v10, v11, v12], .int .u8 (upN N : Nat)] (by first | (simp [Act.eval]; done) | simp [Act.eval, Act.put]) entWO (unhide HWO) ?_; rintro e1 wx ⟨wo, wc, rfl, hwx, hbx⟩; refine ⟨_, rfl, ?_⟩; obtain ⟨q0, q1, q2, q3, q4, q5⟩ := (unhide HKP wx hbx).all)
                | (refine step_callG rfl 129 #[.tmp 38, .tmp 39, .tmp 43] #[24, 3, 69] rfl #[.agg #[.int .i64 (W : Int), .int .i64 (H : Int), .string C, .int .i64 (T : Int), .string A, .string B], .int .i64 (fr : Int), .slice wo ws.length wc] (by first | (simp [Act.eval]; done) | simp [Act.eval, Act.put]) entGO (unhide HGO _ wo wc hwx) ?_; rintro e2 wy ⟨rfl, hby⟩; refine ⟨_, rfl, ?_⟩))
              all_goals
                have hb2 : Below w.heap.size w wy := (unhide HKW wx hbx).trans (hby.mono (unhide HKW wx hbx).size)
                have hp2 := (unhide HKP wx hbx).below hby (unhide HKP wx hbx).lt
                have hr2 := (unhide HKR wx hbx).below hby (unhide HKR wx hbx).lt
                have hs2 : w.heap.size + 2 ≤ wy.heap.size := by have := hbx.size; have := hby.size; have e : wr.drew.heap.size = wr.heap.size := rfl; omega
                have HB2 := hide hb2
                have HP2 := hide hp2
                have HR2 := hide hr2
                clear p0 p1 p2 p3 p4 p5 r0 r1 r2 r3 r4 r5 r6 r7 r8 r9 r10 r11 r12 q0 q1 q2 q3 q4 q5 hwx hbx hby hb2 hp2 hr2 HPB HRU HBW HWO HGO HKP HKW HKR HO HCP
                by_cases hS0 : S = 0
                · have hb : ((S : Int) != 0) = false := by simp [hS0]
                  have hsu := unhide HSU
                  rw [show decide (S ≠ 0) = false by simp [hS0]] at hsu
                  have HSU2 := hide hsu
                  clear hsu HSU hS0
                  go_wp2
                  go_roundw
                  case rel => exact ⟨fr + 1, by go_num, by omega, unhide HSU2, unhide HP2, unhide HR2, unhide HB2, hs2⟩
                  case measure => simp only [intOf]; omega
                · have hb : ((S : Int) != 0) = true := by simp [hS0]
                  have hsu := unhide HSU
                  rw [show decide (S ≠ 0) = true by simp [hS0]] at hsu
                  have hRe : R = true := by rw [unhide HR, any_more hsu (by omega)]; simp
                  have HRE := hide hRe
                  clear hsu HSU hS0 hRe HR
                  go_wp2
                  go_ret
                  exact ⟨by rw [unhide HRE]; rfl, unhide HB2⟩
          · have hlti : ¬ (fr : Int) < (M : Int) := by omega
            have hRe : R = false := by rw [unhide HR, show M = fr by omega, hno]; simp [unhide HI0]
            have HRE := hide hRe
            have HBW := hide hbw
            clear hbw hpb hru hRe HR
            go_wp2
            go_ret
            exact ⟨by rw [unhide HRE]; rfl, unhide HBW⟩
end Go.Proofs.YtihojhfpepbjhaaGreatDoor
