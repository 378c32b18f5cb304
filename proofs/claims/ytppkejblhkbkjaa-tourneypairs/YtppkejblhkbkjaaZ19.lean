/-
  package tourney, walked: pairs.
-/
import Derived.Test.YtppkejblhkbkjaaZ18
namespace Go.Proofs.Ytppkejblhkbkjaa
open Go.RowKit Tu
attribute [local go_sem ↓] Go.wp_at_zero Go.wp_at_succ

theorem infoTwo : (Try.prog.info? 45).map (fun i => (i.zero, i.size, i.bytes)) = some (some (.agg #[.int .i64 0, .int .i64 0]), 2, 16) := by kernel_rfl
theorem infoTwo_parts : ∃ i0, Try.prog.info? 45 = some i0 ∧ i0.zero = some (.agg #[.int .i64 0, .int .i64 0]) ∧ i0.size = 2 ∧ i0.bytes = 16 := by
  have := infoTwo
  cases hh : Try.prog.info? 45 with
  | none => rw [hh] at this; simp at this
  | some i => rw [hh] at this; simp at this; exact ⟨i, rfl, this.1, this.2.1, this.2.2⟩
theorem made_two (c : Nat) (hc : c ≤ 1000) :
    ∃ M : Array Value, M.size = c * 2 ∧ ∀ W, (Instr.makeSlice 40 (.int .i64 0) (.int .i64 (c : Int))).run Try.prog W = .ok (.slice (some ⟨W.heap.size, 0, none⟩) 0 c) (W.alloc (.cells M 45 (0, 0))) := by
  obtain ⟨i0, hi, hz0, hz1, hz2⟩ := infoTwo_parts
  refine ⟨madeCells (Value.agg #[.int .i64 0, .int .i64 0]).cells (c * 2), size_madeCells _ _, fun W => ?_⟩
  have hm : (i0.bytes : Int) * (c : Int) ≤ 281474976710656 := by rw [hz2]; omega
  have h := run_make (P := Try.prog) W 40 45 i0 _ Try.underlying40 hi hz0 .i64 .i64 0 (c : Int) (by omega) (by omega) hm (by omega)
  rw [h, hz1]
  simp
/-- The pairs as far as i, by their first ones. -/
def prK (M : Nat → Option Nat) (i : Nat) : List (Nat × Nat) := (List.range i).filterMap fun x => match M x with
  | some y => if x < y then some (x, y) else none
  | none => none
def pvals (L : List (Nat × Nat)) : List Value := L.flatMap fun p => [Value.int .i64 (p.1 : Int), Value.int .i64 (p.2 : Int)]
theorem prK_t {M : Nat → Option Nat} {i y : Nat} (h : M i = some y) (hy : i < y) : prK M (i + 1) = prK M i ++ [(i, y)] := by
  unfold prK
  rw [List.range_succ, List.filterMap_append]
  simp [h, hy]
theorem prK_f {M : Nat → Option Nat} {i : Nat} (h : ∀ y, M i = some y → ¬ i < y) : prK M (i + 1) = prK M i := by
  unfold prK
  rw [List.range_succ, List.filterMap_append]
  cases hm : M i with
  | none => simp [hm]
  | some y => simp [hm, h y hm]
theorem prK_le (M : Nat → Option Nat) (i : Nat) : (prK M i).length ≤ i := by
  have := List.length_filterMap_le (fun x => match M x with
    | some y => if x < y then some (x, y) else none
    | none => none) (List.range i)
  rwa [List.length_range] at this

/-- What pairs leaves. -/
def PaE (L : List (Nat × Nat)) (W : World) (e : Ending) (W' : World) : Prop :=
  Below W.heap.size W W' ∧ ∃ v, e = .returned v ∧ W'.ownsRow W.heap.size 45 2 v L.length (pvals L)

set_option maxHeartbeats 4000000 in
set_option maxRecDepth 100000 in
theorem pairs_any (W : World) (g n : Nat) (bar : Nat → Nat → Bool) (M : Nat → Option Nat) (hn : n ≤ 60) (hP : isPr W g n bar M) :
    Calls Try.prog 31 #[.pointer (some ⟨g, 0, none⟩)] W (PaE (prK M n) W) := by
  have d0 := hP.n_
  have hgl := hP.lt
  obtain ⟨q, hq⟩ : ∃ q, q = n / 2 := ⟨_, rfl⟩
  have hqd : (n : Int).tdiv 2 = (q : Int) := by rw [Int.tdiv_eq_ediv_of_nonneg (by omega)]; omega
  have hq60 : q ≤ 60 := by omega
  have hqi : (q : Int) ≤ 60 := by omega
  have hq0 : (0 : Int) ≤ (q : Int) := by omega
  have hni : (n : Int) ≤ 60 := by omega
  have hn0 : (0 : Int) ≤ (n : Int) := by omega
  obtain ⟨MM, hMs, hmk⟩ := made_two q (by omega)
  obtain ⟨W1, hW1⟩ : ∃ W1, W1 = W.alloc (.cells MM 45 (0, 0)) := ⟨_, rfl⟩
  have hb1 : Below W.heap.size W W1 := by rw [hW1]; exact (Below.refl _ _).alloc (Nat.le_refl _) _
  have hblk : W1.heap[W.heap.size]? = some (.cells MM 45 (0, 0)) := by rw [hW1]; exact heap_alloc_new _ _
  have HBI : Hid (W1.ownsRow W.heap.size 45 2 (.slice (some ⟨W.heap.size, 0, none⟩) 0 q) 0 (pvals []) ∧ Below W.heap.size W W1) := hide ⟨⟨rfl, .inr ⟨_, q, MM, rfl, Nat.le_refl _, hblk, Nat.zero_le _, by unfold maxLen; omega, hMs, by simp [pvals]⟩⟩, hb1⟩
  obtain ⟨i0, hinfo, hz0, hz1, hz2⟩ := infoTwo_parts
  have HIN := hide hinfo
  have HZ0 := hide hz0
  have HZ1 := hide hz1
  have HZ2 := hide hz2
  have HP := hide hP
  have HW1 := hide hW1
  have hp1 := hP.keep (hb1.block g hgl)
  have d1 := hp1.n_
  clear hq hb1 hblk hinfo hz0 hz1 hz2 hP hW1 hMs hp1
  go_enter Try.func31, Try.ntmps31
  go_upto_region 2 with fail
  rw [← unhide HW1]
  clear HW1 hmk d0
  go_wp2
  go_loopw [3, 15] (fun lv iv wr => ∃ (i : Nat) (ao : Option Addr) (cap : Nat), i ≤ n ∧ iv = .int .i64 (i : Int) ∧ lv = .slice ao (prK M i).length cap ∧ Hid (wr.ownsRow W.heap.size 45 2 (.slice ao (prK M i).length cap) (prK M i).length (pvals (prK M i)) ∧ Below W.heap.size W wr)) (fun _ iv _ => n - (intOf iv).toNat)
  case atStart => exact ⟨0, _, _, by omega, rfl, rfl, HBI⟩
  case round =>
    obtain ⟨i, ao, cap, hi, rfl, rfl, HI⟩ := hrel
    rename World => wr
    clear HBI d1
    by_cases hil : i < n
    · have hii : (i : Int) < (n : Int) := by omega
      have hi0 : (0 : Int) ≤ (i : Int) := by omega
      have hi60 : (i : Int) < 60 := by omega
      have hp := (unhide HP).keep ((unhide HI).2.block g hgl)
      have e0 := hp.par i (by omega)
      have hlen := prK_le M i
      have hbs := (unhide HI).2.size
      by_cases hm : ∃ y, M i = some y ∧ i < y
      · obtain ⟨y, hm1, hm2⟩ := hm
        rw [hm1] at e0
        have e0' : wr.cell? ⟨g, 3601 + i, none⟩ = some (.int .i64 (y : Int)) := e0
        have hiy : (i : Int) < (y : Int) := by omega
        have HN : Hid (prK M (i + 1) = prK M i ++ [(i, y)]) := hide (prK_t hm1 hm2)
        obtain ⟨L, hLe⟩ : ∃ L, (prK M i).length = L := ⟨_, rfl⟩
        have HLE := hide hLe
        rw [hLe] at hlen
        have HRW : Hid (wr.ownsRow W.heap.size 45 2 (.slice ao L cap) L (pvals (prK M i))) := hide (by rw [← hLe]; exact (unhide HI).1)
        rw [hLe]
        clear hLe hm1 hm2 hp e0
        go_wp2_with (at_builtin; refine wpList_append_own_at _ rfl _ _ 40 rfl W.heap.size 45 i0 _ 2 16 Try.underlying40 (unhide HIN) (unhide HZ0) (unhide HZ1) (unhide HZ2) rfl (by decide) (.slice ao L cap) L (pvals (prK M i)) rfl ((unhide HRW).alloc _) ⟨wr.heap.size, 0, none⟩ 1 1 [.int .i64 (i : Int), .int .i64 (y : Int)] rfl rfl ?c1 ?c2 ?c3 ?c4 ?c5 ?_)
        case c1 =>
          intro j u hj
          match j, hj with
          | 0, hj => simp at hj; subst hj; simp [Addr.add]
          | 1, hj => simp at hj; subst hj; simp [Addr.add]
        case c2 => simp [Value.oneCell']
        case c3 => unfold maxLen; omega
        case c4 => omega
        case c5 => simp; omega
        intro q' W5 hrow5 hg5 _ _
        obtain ⟨ao', cap', rfl⟩ : ∃ o c, q' = .slice o (L + 1) c := by
          rcases hrow5.2 with ⟨-, h2⟩ | ⟨k, c, cur, h1, -⟩
          · omega
          · exact ⟨_, _, h1⟩
        have HI5 : Hid (W5.ownsRow W.heap.size 45 2 (.slice ao' (prK M (i + 1)).length cap') (prK M (i + 1)).length (pvals (prK M (i + 1))) ∧ Below W.heap.size W W5) := hide (by
          have hl : (prK M (i + 1)).length = L + 1 := by rw [unhide HN, List.length_append, unhide HLE]; rfl
          have hq : pvals (prK M (i + 1)) = pvals (prK M i) ++ [.int .i64 (i : Int), .int .i64 (y : Int)] := by rw [unhide HN]; simp [pvals]
          rw [hl, hq]
          refine ⟨hrow5, ?_⟩
          have ha : Below W.heap.size W (wr.alloc (Obj.cells #[Value.int .i64 (i : Int), Value.int .i64 (y : Int)] 45 (0, 0))) := (unhide HI).2.alloc hbs _
          exact ha.trans ⟨hg5.os, hg5.tape, hg5.output, hg5.size, fun k hk => hg5.block k (by have := ha.size; omega) (fun e => by have := ((unhide HRW)).lt k e.symm; omega)⟩)
        have HL5 : Hid ((prK M (i + 1)).length = L + 1) := hide (by rw [unhide HN, List.length_append, unhide HLE]; rfl)
        clear hrow5 hg5 HRW
        go_wp2
        go_roundw
        case rel => exact ⟨i + 1, ao', cap', by omega, by go_num, by rw [unhide HL5], HI5⟩
        case measure => simp only [intOf]; omega
      · have hnz : ¬ (i : Int) < pI (M i) := by
          cases hmi : M i with
          | none => simp only [pI]; omega
          | some y =>
            have : ¬ i < y := fun e => hm ⟨y, hmi, e⟩
            simp only [pI]
            omega
        have HN : Hid (prK M (i + 1) = prK M i) := hide (prK_f (fun y e e' => hm ⟨y, e, e'⟩))
        generalize pI (M i) = z at e0 hnz
        clear hm hp
        go_wp2
        go_roundw
        case rel => exact ⟨i + 1, ao, cap, by omega, by go_num, by rw [unhide HN], by rw [unhide HN]; exact HI⟩
        case measure => simp only [intOf]; omega
    · have hii : ¬ (i : Int) < (n : Int) := by omega
      obtain rfl : i = n := by omega
      have HE : Hid (PaE (prK M i) W (.returned (.slice ao (prK M i).length cap)) wr) := hide ⟨(unhide HI).2, _, rfl, (unhide HI).1⟩
      generalize (prK M i).length = L at HE ⊢
      clear HI
      go_wp2
      go_ret
      exact unhide HE
end Go.Proofs.Ytppkejblhkbkjaa
