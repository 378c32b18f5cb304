/-
  package matrix, walked: the members of a set (range over a function).
-/
import Derived.RangeFuncNested
import Derived.RangeFuncBound
import Derived.RangeFuncCalls
import Derived.RangeFuncLeaves
import Derived.RangeFuncBox
import Derived.Shelf.Abstract
import Derived.Shelf.RegionOpen
import Derived.OwnWalkIn
import Derived.TacticsInMore
import Derived.LoopNIn
import Derived.LoopIn
import Derived.Test.YthplbfjpmnpjmaaDoorA10
import Derived.Test.YthplbfjpmnpjmaaDoorM70
namespace Go.Proofs.YthplbfjpmnpjmaaDoor
open Go.RowKit Go.Shelf Lp
attribute [local go_sem] Oper.semAt_some

set_option maxRecDepth 100000 in
set_option maxHeartbeats 2000000 in
theorem mem1_in (n : Nat) (hn : 1 ≤ n) (l Bs n₀ s : Nat) (hs : s < 64) (hn0 : 2 < n₀) (J Jx : List (MS s) → World → Prop)
    (hY : ∀ pre x W, J pre W → pre.length < sz s → YieldAt Fence.wide (n - 1) Tryd.prog l #[.int .i64 (x.1 : Int)] W fun e W' =>
      (e = .returned (.bool true) ∧ J (pre ++ [x]) W' ∧ Below n₀ W W') ∨ (e = .returned (.bool false) ∧ Jx (pre ++ [x]) W'))
    (W : World) (hBs : W.cell? ⟨Bs, 0, none⟩ = some (.int .u64 (s : Int))) (hd : isDb W) (h0 : J [] W) :
    CallsIn Fence.wide n Tryd.prog 79 #[.func (.yield l) #[] #[], .pointer (some ⟨Bs, 0, none⟩)] W fun e W' => (∃ v, e = .returned v) ∧
      ((∃ ys, ys = memS s ∧ J ys W') ∨ (∃ pre, (∃ k, k ≤ sz s ∧ pre = (memS s).take k) ∧ Jx pre W')) := by
  refine callsIn_of_wp Tryd.func79 rfl trivial ?_ rfl
  simp only [Tryd.ntmps79, List.size_toArray, List.length_cons, List.length_nil, Nat.reduceAdd, Nat.reduceSub, Array.replicate_succ, Array.replicate_zero, List.push_toArray, List.append_toArray, List.nil_append, List.cons_append]
  gi_wp2
  gi_loopw [3] (fun i wr => ∃ k : Nat, k ≤ sz s ∧ i = .int .u64 ((rst s k : Nat) : Int) ∧ J ((memS s).take k) wr ∧ isDb wr)
    (fun i _ => (intOf i).toNat)
  case atStart => exact ⟨0, Nat.zero_le _, rfl, by rw [List.take_zero]; exact h0, hd⟩
  case round =>
    obtain ⟨k, hk, rfl, hJs, hdb⟩ := hrel
    obtain ⟨r1, r2, r3⟩ := rst_ok s hs k hk
    by_cases hlt : k < sz s
    · obtain ⟨q1, q2, q3⟩ := r2 hlt
      obtain ⟨x, hxk, hfe⟩ := memS_at hs hlt
      obtain ⟨fn, tmps, assign, body, hy, hR⟩ := hY _ x wr hJs (by rw [List.length_take, memS_len]; omega)
      rw [hfe] at hy
      have C1 := first_any (rst s k) r1 q1 wr hdb
      have HC2 := hide (fun u hu => first_any (rst s k) r1 q1 u hu)
      have HC3 := hide (fun u => without_any (rst s k) (fs (rst s k)) r1 q3 u)
      have HST : Hid ((memS s).take k ++ [x] = (memS s).take (k + 1)) := hide (by rw [List.take_add_one, hxk]; rfl)
      have HRS : Hid (wo (rst s k) (fs (rst s k)) = rst s (k + 1)) := hide rfl
      have HLT : Hid (wo (rst s k) (fs (rst s k)) < rst s k) := hide (by
        obtain ⟨f1, f2, -⟩ := fs_mem (rst s k) r1 q1
        exact (wo_mem (rst s k) r1 _ f1 f2).2.2.2.1)
      generalize hR0 : rst s k = R at *
      generalize fs R = f at *
      generalize hO : wo R f = O at *
      have hne : ¬ (R : Int) = 0 := by omega
      clear r2 r3 q2 hfe hR0 hO hxk
      gi_wp2_with (refine ⟨trivial, ?_⟩; gi_at_call 55; refine (callsIn_wide.2 C1).mono ?_; clear C1; rintro e w' ⟨rfl, rfl⟩)
      refine hR.mono ?_
      rintro e W3 (⟨rfl, hJ3, hk3⟩ | ⟨rfl, hJx3⟩)
      · have hd3 := hdb.below hk3 hn0
        have C2 := unhide HC2 W3 hd3
        have C3 := unhide HC3 W3
        gi_wp2_with (first | (refine ⟨trivial, ?_⟩; gi_at_call 55; refine (callsIn_wide.2 C2).mono ?_; clear C2; rintro e w' ⟨rfl, rfl⟩) | (refine ⟨trivial, ?_⟩; gi_at_call 80; refine (callsIn_wide.2 C3).mono ?_; clear C3; rintro e w' ⟨rfl, rfl⟩))
        go_roundw
        case rel => exact ⟨k + 1, by omega, by rw [← unhide HRS], by rw [← unhide HST]; exact hJ3, hd3⟩
        case measure => simp only [intOf]; have := unhide HLT; omega
      · gi_wp2
        refine bodyPost_ret (results_none rfl _ _ _) rfl ?_
        exact ⟨⟨_, rfl⟩, .inr ⟨_, ⟨k + 1, by omega, (unhide HST)⟩, hJx3⟩⟩
    · have hke : k = sz s := by omega
      rw [r3 hke]
      rw [hke, ← memS_len, List.take_length] at hJs
      clear r1 r2 r3
      gi_wp2
      go_end0
      exact ⟨⟨_, rfl⟩, .inl ⟨_, rfl, hJs⟩⟩
theorem members_any (s : Nat) (w : World) :
    Calls Tryd.prog 56 #[.int .u64 (s : Int)] w fun e w' => e = .returned (.func (.func 79) #[] #[.pointer (some ⟨w.heap.size, 0, none⟩)]) ∧ w' = w.alloc (.cells #[.int .u64 (s : Int)] 69 (0, 0)) := by
  go_enter Tryd.func56, Tryd.ntmps56
  go_wp2
  go_ret
  exact ⟨rfl, rfl⟩
theorem mem_stops (n : Nat) (hn : 1 ≤ n) (Bs n₀ s : Nat) (hs : s < 64) (hn0 : 2 < n₀) (w : World) (hB : Bs < w.heap.size) (hn1 : n₀ ≤ w.heap.size) (hBs : w.cell? ⟨Bs, 0, none⟩ = some (.int .u64 (s : Int))) (hd : isDb w) :
    SeqStopsK Fence.wide n Tryd.prog 79 #[.pointer (some ⟨Bs, 0, none⟩)] (fun x : MS s => #[Value.int .i64 (x.1 : Int)]) (Below n₀) (fun ys => ys = memS s) (fun pre => ∃ k, k ≤ sz s ∧ pre = (memS s).take k) (sz s) w :=
  fun l J Jx W hW _ _ hY h0 => mem1_in n hn l Bs n₀ s hs hn0 J Jx hY W ((hW.cell (p := ⟨Bs, 0, none⟩) hB).trans hBs) (hd.below hW (by omega)) h0
end Go.Proofs.YthplbfjpmnpjmaaDoor
