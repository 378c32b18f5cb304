/-
  the members of a set one by one, the parts of a matrix one by one (plain mathematics).
  package matrix, walked: the members of a set (range over a function).
  package matrix, walked: the parts of a matrix (range over a function).
-/
import Derived.Test.YthplbfjpmnpjmaaDoorM69
import Derived.RangeFuncNested
import Derived.RangeFuncBound
import Derived.RangeFuncCalls
import Derived.RangeFuncLeaves
import Derived.RangeFuncBox
import Derived.Shelf.Abstract
import Derived.Shelf.RegionOpen
import Derived.OwnWalkIn
import Derived.TacticsInMore
import Derived.LoopNIn
import Derived.LoopIn
import Derived.Test.YthplbfjpmnpjmaaDoorA10
namespace Go.Proofs.YthplbfjpmnpjmaaDoor.Lp
/-- What is left when k have come. -/
def rst (s : Nat) : Nat → Nat
  | 0 => s
  | k + 1 => wo (rst s k) (fs (rst s k))
set_option maxRecDepth 100000 in
theorem rst_ok : ∀ s, s < 64 → ∀ k, k ≤ sz s → rst s k < 64 ∧ (k < sz s → 1 ≤ rst s k ∧ fs (rst s k) = (mem s).getD k 0 ∧ fs (rst s k) < 6) ∧ (k = sz s → rst s k = 0) := by decide +kernel
abbrev MS (s : Nat) := { i : Nat // i < 6 ∧ s.testBit i = true }
def toM (s i : Nat) : Option (MS s) := if h : i < 6 ∧ s.testBit i = true then some ⟨i, h⟩ else none
def memS (s : Nat) : List (MS s) := (List.range 6).filterMap (toM s)
theorem filterMap_val (s : Nat) : ∀ (L : List Nat), (∀ i ∈ L, i < 6) → (L.filterMap (toM s)).map (·.1) = L.filter fun i => s.testBit i
  | [], _ => rfl
  | i :: L, h => by
    have ih := filterMap_val s L fun k hk => h k (by simp [hk])
    have hi := h i (by simp)
    by_cases hb : s.testBit i = true
    · have e : toM s i = some ⟨i, hi, hb⟩ := by unfold toM; rw [dif_pos ⟨hi, hb⟩]
      rw [List.filterMap_cons, e, List.map_cons, ih, List.filter_cons, if_pos hb]
    · have e : toM s i = none := by unfold toM; rw [dif_neg (fun h => hb h.2)]
      rw [List.filterMap_cons, e, List.filter_cons, if_neg hb]
      exact ih
theorem memS_is (s : Nat) : (memS s).map (·.1) = mem s := filterMap_val s _ fun _ hi => List.mem_range.1 hi
theorem memS_len (s : Nat) : (memS s).length = sz s := by unfold sz; rw [← memS_is, List.length_map]
theorem memS_at {s k : Nat} (hs : s < 64) (hk : k < sz s) : ∃ x : MS s, (memS s)[k]? = some x ∧ x.1 = fs (rst s k) := by
  obtain ⟨-, h, -⟩ := rst_ok s hs k (Nat.le_of_lt hk)
  obtain ⟨-, h2, -⟩ := h hk
  have hk2 : k < (memS s).length := by rw [memS_len]; exact hk
  refine ⟨(memS s)[k], List.getElem?_eq_getElem hk2, ?_⟩
  have hk3 : k < (mem s).length := hk
  have e : ((memS s).map (·.1))[k]? = (mem s)[k]? := by rw [memS_is]
  rw [List.getElem?_map, List.getElem?_eq_getElem hk2, List.getElem?_eq_getElem hk3] at e
  rw [h2, List.getD_eq_getElem?_getD, List.getElem?_eq_getElem hk3]
  exact Option.some.inj e
theorem MS.lt {s N : Nat} (hs : s < 2 ^ N) (x : MS s) : x.1 < N := by
  rcases Nat.lt_or_ge x.1 N with h | h
  · exact h
  · have h1 : s < 2 ^ x.1 := Nat.lt_of_lt_of_le hs (Nat.pow_le_pow_right (by omega) h)
    have := Nat.testBit_lt_two_pow h1
    rw [x.2.2] at this
    cases this
/-- A part of a matrix: its rows, its columns. -/
def okP (m n : Nat) (p : Nat × Nat) : Prop := 1 ≤ p.1 ∧ p.1 < 2 ^ m ∧ 1 ≤ p.2 ∧ p.2 < 2 ^ n ∧ sz p.1 = sz p.2
instance (m n : Nat) (p : Nat × Nat) : Decidable (okP m n p) := by unfold okP; infer_instance
abbrev P6 (m n : Nat) := { p : Nat × Nat // okP m n p }
def toP (m n : Nat) (p : Nat × Nat) : Option (P6 m n) := if h : okP m n p then some ⟨p, h⟩ else none
/-- All places ahead of (r, c). -/
def plc (n r c : Nat) : List (Nat × Nat) := (List.range r).flatMap (fun i => (List.range (2 ^ n)).map fun j => (i, j)) ++ (List.range c).map fun j => (r, j)
def came (m n r c : Nat) : List (P6 m n) := (plc n r c).filterMap (toP m n)
theorem came_yes (m n r c : Nat) (h : okP m n (r, c)) : came m n r (c + 1) = came m n r c ++ [⟨(r, c), h⟩] := by
  unfold came plc
  rw [List.range_succ, List.map_append, ← List.append_assoc, List.filterMap_append (l := _ ++ _)]
  congr 1
  simp [toP, h]
theorem came_no (m n r c : Nat) (h : ¬ okP m n (r, c)) : came m n r (c + 1) = came m n r c := by
  unfold came plc
  rw [List.range_succ, List.map_append, ← List.append_assoc, List.filterMap_append (l := _ ++ _)]
  simp [toP, h]
theorem came_row (m n r : Nat) : came m n (r + 1) 0 = came m n r (2 ^ n) := by
  unfold came plc
  rw [List.range_succ, List.flatMap_append]
  simp
theorem came_one (m n r : Nat) : came m n r 1 = came m n r 0 := came_no m n r 0 (fun h => by have := h.2.2.1; simp at this)
theorem came_start (m n : Nat) : came m n 1 0 = [] := by
  rw [came_row]
  have : ∀ c, came m n 0 c = [] := fun c => by
    induction c with
    | zero => rfl
    | succ c ih => rw [came_no m n 0 c (fun h => by have := h.1; simp at this), ih]
  exact this _
theorem mem_plc (n r c : Nat) (p : Nat × Nat) : p ∈ plc n r c ↔ (p.1 < r ∧ p.2 < 2 ^ n) ∨ (p.1 = r ∧ p.2 < c) := by
  unfold plc
  simp only [List.mem_append, List.mem_flatMap, List.mem_range, List.mem_map]
  constructor
  · rintro (⟨i, hi, j, hj, rfl⟩ | ⟨j, hj, rfl⟩)
    · exact .inl ⟨hi, hj⟩
    · exact .inr ⟨rfl, hj⟩
  · rintro (⟨h1, h2⟩ | ⟨h1, h2⟩)
    · exact .inl ⟨p.1, h1, p.2, h2, rfl⟩
    · exact .inr ⟨p.2, h2, by rw [← h1]⟩
theorem mem_came {m n r c : Nat} {p : P6 m n} : p ∈ came m n r c ↔ (p.1.1 < r ∨ (p.1.1 = r ∧ p.1.2 < c)) := by
  unfold came
  rw [List.mem_filterMap]
  have hp := p.2
  constructor
  · rintro ⟨q, hq, e⟩
    unfold toP at e
    by_cases h : okP m n q
    · rw [dif_pos h] at e
      cases e
      rcases (mem_plc n r c q).1 hq with h1 | h1
      · exact .inl h1.1
      · exact .inr h1
    · rw [dif_neg h] at e; cases e
  · intro h
    refine ⟨p.1, (mem_plc n r c p.1).2 ?_, ?_⟩
    · rcases h with h | h
      · exact .inl ⟨h, hp.2.2.2.1⟩
      · exact .inr h
    · unfold toP; rw [dif_pos hp]
/-- All of them. -/
def allP (m n : Nat) : List (P6 m n) := came m n (2 ^ m) 0
theorem mem_allP {m n : Nat} (p : P6 m n) : p ∈ allP m n := mem_came.2 (.inl p.2.2.1)
theorem sum_const (k : Nat) : ∀ r, ((List.range r).map fun _ => k).sum = r * k
  | 0 => by simp
  | r + 1 => by rw [List.range_succ, List.map_append, List.sum_append, sum_const k r, Nat.add_mul]; simp
theorem came_len (m n r c : Nat) : (came m n r c).length ≤ r * 2 ^ n + c := by
  unfold came
  refine Nat.le_trans (List.length_filterMap_le ..) ?_
  unfold plc
  rw [List.length_append, List.length_map, List.length_range, List.length_flatMap]
  simp only [List.length_map, List.length_range]
  rw [sum_const]
  exact Nat.le_refl _
end Go.Proofs.YthplbfjpmnpjmaaDoor.Lp

namespace Go.Proofs.YthplbfjpmnpjmaaDoor
open Go.RowKit Go.Shelf Lp
attribute [local go_sem] Oper.semAt_some

set_option maxRecDepth 100000 in
set_option maxHeartbeats 2000000 in
theorem mem1_in (n : Nat) (hn : 1 ≤ n) (l Bs n₀ s : Nat) (hs : s < 64) (hn0 : 2 < n₀) (J Jx : List (MS s) → World → Prop)
    (hY : ∀ pre x W, J pre W → pre.length < sz s → YieldAt Fence.wide (n - 1) Tryd.prog l #[.int .i64 (x.1 : Int)] W fun e W' =>
      (e = .returned (.bool true) ∧ J (pre ++ [x]) W' ∧ Below n₀ W W') ∨ (e = .returned (.bool false) ∧ Jx (pre ++ [x]) W'))
    (W : World) (hBs : W.cell? ⟨Bs, 0, none⟩ = some (.int .u64 (s : Int))) (hd : isDb W) (h0 : J [] W) :
    CallsIn Fence.wide n Tryd.prog 79 #[.func (.yield l) #[] #[], .pointer (some ⟨Bs, 0, none⟩)] W fun e W' => (∃ v, e = .returned v) ∧
      ((∃ ys, ys = memS s ∧ J ys W') ∨ (∃ pre, (∃ k, k ≤ sz s ∧ pre = (memS s).take k) ∧ Jx pre W')) := by
  refine callsIn_of_wp Tryd.func79 rfl trivial ?_ rfl
  simp only [Tryd.ntmps79, List.size_toArray, List.length_cons, List.length_nil, Nat.reduceAdd, Nat.reduceSub, Array.replicate_succ, Array.replicate_zero, List.push_toArray, List.append_toArray, List.nil_append, List.cons_append]
  gi_wp2
  gi_loopw [3] (fun i wr => ∃ k : Nat, k ≤ sz s ∧ i = .int .u64 ((rst s k : Nat) : Int) ∧ J ((memS s).take k) wr ∧ isDb wr)
    (fun i _ => (intOf i).toNat)
  case atStart => exact ⟨0, Nat.zero_le _, rfl, by rw [List.take_zero]; exact h0, hd⟩
  case round =>
    obtain ⟨k, hk, rfl, hJs, hdb⟩ := hrel
    obtain ⟨r1, r2, r3⟩ := rst_ok s hs k hk
    by_cases hlt : k < sz s
    · obtain ⟨q1, q2, q3⟩ := r2 hlt
      obtain ⟨x, hxk, hfe⟩ := memS_at hs hlt
      obtain ⟨fn, tmps, assign, body, hy, hR⟩ := hY _ x wr hJs (by rw [List.length_take, memS_len]; omega)
      rw [hfe] at hy
      have C1 := first_any (rst s k) r1 q1 wr hdb
      have HC2 := hide (fun u hu => first_any (rst s k) r1 q1 u hu)
      have HC3 := hide (fun u => without_any (rst s k) (fs (rst s k)) r1 q3 u)
      have HST : Hid ((memS s).take k ++ [x] = (memS s).take (k + 1)) := hide (by rw [List.take_add_one, hxk]; rfl)
      have HRS : Hid (wo (rst s k) (fs (rst s k)) = rst s (k + 1)) := hide rfl
      have HLT : Hid (wo (rst s k) (fs (rst s k)) < rst s k) := hide (by
        obtain ⟨f1, f2, -⟩ := fs_mem (rst s k) r1 q1
        exact (wo_mem (rst s k) r1 _ f1 f2).2.2.2.1)
      generalize hR0 : rst s k = R at *
      generalize fs R = f at *
      generalize hO : wo R f = O at *
      have hne : ¬ (R : Int) = 0 := by omega
      clear r2 r3 q2 hfe hR0 hO hxk
      gi_wp2_with (refine ⟨trivial, ?_⟩; gi_at_call 55; refine (callsIn_wide.2 C1).mono ?_; clear C1; rintro e w' ⟨rfl, rfl⟩)
      refine hR.mono ?_
      rintro e W3 (⟨rfl, hJ3, hk3⟩ | ⟨rfl, hJx3⟩)
      · have hd3 := hdb.below hk3 hn0
        have C2 := unhide HC2 W3 hd3
        have C3 := unhide HC3 W3
        gi_wp2_with (first | (refine ⟨trivial, ?_⟩; gi_at_call 55; refine (callsIn_wide.2 C2).mono ?_; clear C2; rintro e w' ⟨rfl, rfl⟩) | (refine ⟨trivial, ?_⟩; gi_at_call 80; refine (callsIn_wide.2 C3).mono ?_; clear C3; rintro e w' ⟨rfl, rfl⟩))
        go_roundw
        case rel => exact ⟨k + 1, by omega, by rw [← unhide HRS], by rw [← unhide HST]; exact hJ3, hd3⟩
        case measure => simp only [intOf]; have := unhide HLT; omega
      · gi_wp2
        refine bodyPost_ret (results_none rfl _ _ _) rfl ?_
        exact ⟨⟨_, rfl⟩, .inr ⟨_, ⟨k + 1, by omega, (unhide HST)⟩, hJx3⟩⟩
    · have hke : k = sz s := by omega
      rw [r3 hke]
      rw [hke, ← memS_len, List.take_length] at hJs
      clear r1 r2 r3
      gi_wp2
      go_end0
      exact ⟨⟨_, rfl⟩, .inl ⟨_, rfl, hJs⟩⟩
theorem members_any (s : Nat) (w : World) :
    Calls Tryd.prog 56 #[.int .u64 (s : Int)] w fun e w' => e = .returned (.func (.func 79) #[] #[.pointer (some ⟨w.heap.size, 0, none⟩)]) ∧ w' = w.alloc (.cells #[.int .u64 (s : Int)] 69 (0, 0)) := by
  go_enter Tryd.func56, Tryd.ntmps56
  go_wp2
  go_ret
  exact ⟨rfl, rfl⟩
theorem mem_stops (n : Nat) (hn : 1 ≤ n) (Bs n₀ s : Nat) (hs : s < 64) (hn0 : 2 < n₀) (w : World) (hB : Bs < w.heap.size) (hn1 : n₀ ≤ w.heap.size) (hBs : w.cell? ⟨Bs, 0, none⟩ = some (.int .u64 (s : Int))) (hd : isDb w) :
    SeqStopsK Fence.wide n Tryd.prog 79 #[.pointer (some ⟨Bs, 0, none⟩)] (fun x : MS s => #[Value.int .i64 (x.1 : Int)]) (Below n₀) (fun ys => ys = memS s) (fun pre => ∃ k, k ≤ sz s ∧ pre = (memS s).take k) (sz s) w :=
  fun l J Jx W hW _ _ hY h0 => mem1_in n hn l Bs n₀ s hs hn0 J Jx hY W ((hW.cell (p := ⟨Bs, 0, none⟩) hB).trans hBs) (hd.below hW (by omega)) h0
end Go.Proofs.YthplbfjpmnpjmaaDoor

namespace Go.Proofs.YthplbfjpmnpjmaaDoor
open Go.RowKit Go.Shelf Lp
attribute [local go_sem] Oper.semAt_some

/-- What lay below n₀ and one block besides stay. -/
def KpB (n₀ Bs : Nat) (A B : World) : Prop := Below n₀ A B ∧ B.heap[Bs]? = A.heap[Bs]?
theorem KpB.trans {n₀ Bs : Nat} {A B C : World} (h : KpB n₀ Bs A B) (k : KpB n₀ Bs B C) : KpB n₀ Bs A C := ⟨h.1.trans k.1, k.2.trans h.2⟩
theorem KpB.put {n₀ Bs : Nat} {w : World} (hn : n₀ ≤ w.heap.size) (hB : Bs < w.heap.size) (W : World) (l : Nat) (o o' : Obj) (hl : w.heap.size ≤ l) (h1 : W.heap[l]? = some o) (h2 : o.isCells = false) (h3 : o.isWalk = false) : KpB n₀ Bs W (W.putObj l o') := by
  refine ⟨belowK_b hn W l o o' hl h1 h2 h3, ?_⟩
  have hne : l ≠ Bs := by omega
  simp [World.putObj, hne]
theorem KpB.refl (n₀ Bs : Nat) (A : World) : KpB n₀ Bs A A := ⟨Below.refl _ _, rfl⟩
theorem cell_block {A B : World} {b : Nat} (h : B.heap[b]? = A.heap[b]?) (k : Nat) : B.cell? ⟨b, k, none⟩ = A.cell? ⟨b, k, none⟩ := by unfold World.cell?; simp only; rw [h]

/-- What parts reads. -/
structure isPa (W : World) (n₀ Bs g off cap m N : Nat) (ro : Option Addr) (rc : Nat) : Prop where
  lt : g < n₀
  box : W.cell? ⟨Bs, 0, none⟩ = some (.slice (some ⟨g, off, none⟩) m cap)
  row : W.cell? ⟨g, off, none⟩ = some (.slice ro N rc)
theorem isPa.keep {A B : World} {n₀ Bs g off cap m N : Nat} {ro : Option Addr} {rc : Nat} (h : isPa A n₀ Bs g off cap m N ro rc) (hk : KpB n₀ Bs A B) : isPa B n₀ Bs g off cap m N ro rc :=
  ⟨h.lt, (cell_block hk.2 0).trans h.box, (hk.1.cell (p := ⟨g, off, none⟩) h.lt).trans h.row⟩

set_option maxRecDepth 100000 in
set_option maxHeartbeats 4000000 in
theorem prt1_in (n : Nat) (hn : 1 ≤ n) (l Bs n₀ g off cap m N : Nat) (ro : Option Addr) (rc : Nat) (hm1 : 1 ≤ m) (hm6 : m ≤ 6) (hN6 : N ≤ 6) (J Jx : List (P6 m N) → World → Prop)
    (hY : ∀ pre x W, J pre W → pre.length < 4096 → YieldAt Fence.wide (n - 1) Tryd.prog l #[.int .u64 (x.1.1 : Int), .int .u64 (x.1.2 : Int)] W fun e W' =>
      (e = .returned (.bool true) ∧ J (pre ++ [x]) W' ∧ KpB n₀ Bs W W') ∨ (e = .returned (.bool false) ∧ Jx (pre ++ [x]) W'))
    (W : World) (hP : isPa W n₀ Bs g off cap m N ro rc) (h0 : J [] W) :
    CallsIn Fence.wide n Tryd.prog 58 #[.func (.yield l) #[] #[], .pointer (some ⟨Bs, 0, none⟩)] W fun e W' => (∃ v, e = .returned v) ∧
      ((∃ ys, ys = allP m N ∧ J ys W') ∨ (∃ pre, (∃ r c, pre = came m N r c) ∧ Jx pre W')) := by
  obtain ⟨MM, hMM⟩ : ∃ M, M = 2 ^ m := ⟨_, rfl⟩
  obtain ⟨NN, hNN⟩ : ∃ M, M = 2 ^ N := ⟨_, rfl⟩
  have hM64 : MM ≤ 64 := by rw [hMM]; exact Nat.pow_le_pow_right (n := 2) (by omega) hm6
  have hN64 : NN ≤ 64 := by rw [hNN]; exact Nat.pow_le_pow_right (n := 2) (by omega) hN6
  have hMp : 1 ≤ MM := by rw [hMM]; exact Nat.one_le_two_pow
  have hNp : 1 ≤ NN := by rw [hNN]; exact Nat.one_le_two_pow
  have HF1 := hide (fun u => firsts_any m hm6 u)
  have HF2 := hide (fun u => firsts_any N hN6 u)
  rw [← hMM] at HF1
  rw [← hNN] at HF2
  have HMM := hide hMM
  have HNN := hide hNN
  have HY := hide hY
  have hm0 : (0 : Int) < (m : Int) := by omega
  clear hMM hNN hY
  refine callsIn_of_wp Tryd.func58 rfl trivial ?_ rfl
  simp only [Tryd.ntmps58, List.size_toArray, List.length_cons, List.length_nil, Nat.reduceAdd, Nat.reduceSub, Array.replicate_succ, Array.replicate_zero, List.push_toArray, List.append_toArray, List.nil_append, List.cons_append]
  gi_wp2
  gi_loopw [3] (fun i wr => ∃ r : Nat, 1 ≤ r ∧ r ≤ MM ∧ i = .int .u64 (r : Int) ∧ Hid (J (came m N r 0) wr) ∧ Hid (isPa wr n₀ Bs g off cap m N ro rc))
    (fun i _ => MM - (intOf i).toNat)
  case atStart => exact ⟨1, Nat.le_refl _, hMp, rfl, hide (by rw [came_start]; exact h0), hide hP⟩
  case round =>
    obtain ⟨r, hr1, hrM, rfl, HJ, HP⟩ := hrel
    rename World => wr
    clear h0 hP
    have cbx := (unhide HP).box
    have C1 := unhide HF1 wr
    obtain ⟨M1, hM1⟩ : ∃ M1, M1 = MM - 1 := ⟨_, rfl⟩
    rw [← hM1] at C1
    by_cases hlt : r < MM
    · have hle : (r : Int) ≤ (M1 : Int) := by omega
      have HM1 := hide hM1
      clear hM1
      gi_wp2_with (refine ⟨trivial, ?_⟩; gi_at_call 59; refine (callsIn_wide.2 C1).mono ?_; clear C1; rintro e w' ⟨rfl, rfl⟩)
      clear cbx
      gi_loopw [4] (fun i wq => ∃ c : Nat, 1 ≤ c ∧ c ≤ NN ∧ i = .int .u64 (c : Int) ∧ Hid (J (came m N r c) wq) ∧ Hid (isPa wq n₀ Bs g off cap m N ro rc))
        (fun i _ => NN - (intOf i).toNat)
      case atStart => exact ⟨1, Nat.le_refl _, hNp, rfl, hide (by rw [came_one]; exact unhide HJ), HP⟩
      case round =>
        obtain ⟨c, hc1, hcN, rfl, HJ2, HP2⟩ := hrel
        rename World => wq
        clear HJ HP
        have cbx := (unhide HP2).box
        have crw := (unhide HP2).row
        have C2 := unhide HF2 wq
        obtain ⟨N1, hN1'⟩ : ∃ N1, N1 = NN - 1 := ⟨_, rfl⟩
        rw [← hN1'] at C2
        by_cases hltc : c < NN
        · have hlec : (c : Int) ≤ (N1 : Int) := by omega
          have hr64 : r < 64 := by omega
          have hc64 : c < 64 := by omega
          have S1 := size_any r hr64 wq
          have S2 := size_any c hc64 wq
          obtain ⟨sr, hsr⟩ : ∃ z, z = sz r := ⟨_, rfl⟩
          obtain ⟨sc, hsc⟩ : ∃ z, z = sz c := ⟨_, rfl⟩
          rw [← hsr] at S1
          rw [← hsc] at S2
          by_cases he : sr = sc
          · have hok : okP m N (r, c) := ⟨hr1, by rw [← unhide HMM]; exact hlt, hc1, by rw [← unhide HNN]; exact hltc, by rw [← hsr, ← hsc]; exact he⟩
            have hlen : (came m N r c).length < 4096 := by
              have h1 := came_len m N r c
              rw [← unhide HNN] at h1
              have h2 : r * NN ≤ 63 * NN := Nat.mul_le_mul_right _ (by omega)
              omega
            obtain ⟨fn, tmps, assign, body, hy, hR⟩ := unhide HY _ ⟨(r, c), hok⟩ wq (unhide HJ2) hlen
            have HCY : Hid (came m N r c ++ [⟨(r, c), hok⟩] = came m N r (c + 1)) := hide (came_yes m N r c hok).symm
            dsimp only at hy
            have heb : ((sr : Int) == (sc : Int)) = true := by simp [he]
            have HN1 := hide hN1'
            clear hN1' hsr hsc he hlen HJ2
            gi_wp2_with (first | (refine ⟨trivial, ?_⟩; gi_at_call 59; refine (callsIn_wide.2 C2).mono ?_; clear C2; rintro e w' ⟨rfl, rfl⟩) | (refine ⟨trivial, ?_⟩; gi_at_call 60; first | (refine (callsIn_wide.2 S1).mono ?_; clear S1; rintro e w' ⟨rfl, rfl⟩) | (refine (callsIn_wide.2 S2).mono ?_; clear S2; rintro e w' ⟨rfl, rfl⟩)))
            refine hR.mono ?_
            rintro e W3 (⟨rfl, hJ3, hk3⟩ | ⟨rfl, hJx3⟩)
            · have HP3 := hide ((unhide HP2).keep hk3)
              clear cbx crw
              gi_wp2
              go_roundw
              case rel => exact ⟨c + 1, by omega, by omega, by go_num, hide (by rw [← unhide HCY]; exact hJ3), HP3⟩
              case measure => simp only [intOf]; omega
            · gi_wp2
              refine bodyPost_ret (results_none rfl _ _ _) rfl ?_
              exact ⟨⟨_, rfl⟩, .inr ⟨_, ⟨r, c + 1, unhide HCY⟩, hJx3⟩⟩
          · have hno : ¬ okP m N (r, c) := fun h => he (by rw [hsr, hsc]; exact h.2.2.2.2)
            have HCN : Hid (came m N r (c + 1) = came m N r c) := hide (came_no m N r c hno)
            have heb : ((sr : Int) == (sc : Int)) = false := by simp; omega
            have HN1 := hide hN1'
            clear hN1' hsr hsc he hno
            gi_wp2_with (first | (refine ⟨trivial, ?_⟩; gi_at_call 59; refine (callsIn_wide.2 C2).mono ?_; clear C2; rintro e w' ⟨rfl, rfl⟩) | (refine ⟨trivial, ?_⟩; gi_at_call 60; first | (refine (callsIn_wide.2 S1).mono ?_; clear S1; rintro e w' ⟨rfl, rfl⟩) | (refine (callsIn_wide.2 S2).mono ?_; clear S2; rintro e w' ⟨rfl, rfl⟩)))
            refine ⟨fun _ h => (by cases h), ?_⟩
            gi_wp2
            go_roundw
            case rel => exact ⟨c + 1, by omega, by omega, by go_num, hide (by rw [unhide HCN]; exact unhide HJ2), HP2⟩
            case measure => simp only [intOf]; omega
        · have hlec : ¬ (c : Int) ≤ (N1 : Int) := by omega
          have HJ3 : Hid (J (came m N (r + 1) 0) wq) := hide (by
            have e : c = 2 ^ N := by rw [← unhide HNN]; omega
            rw [came_row, ← e]; exact unhide HJ2)
          clear HJ2 hN1'
          gi_wp2_with (refine ⟨trivial, ?_⟩; gi_at_call 59; refine (callsIn_wide.2 C2).mono ?_; clear C2; rintro e w' ⟨rfl, rfl⟩)
          go_roundw
          case rel => exact ⟨r + 1, by omega, by omega, by go_num, HJ3, HP2⟩
          case measure => simp only [intOf]; omega
    · have hle : ¬ (r : Int) ≤ (M1 : Int) := by omega
      have HJ3 : Hid (J (allP m N) wr) := hide (by
        have e : r = 2 ^ m := by rw [← unhide HMM]; omega
        unfold allP; rw [← e]; exact unhide HJ)
      clear HJ hM1
      gi_wp2_with (refine ⟨trivial, ?_⟩; gi_at_call 59; refine (callsIn_wide.2 C1).mono ?_; clear C1; rintro e w' ⟨rfl, rfl⟩)
      go_end0
      exact ⟨⟨_, rfl⟩, .inl ⟨_, rfl, unhide HJ3⟩⟩
theorem parts_any (ao : Option Addr) (m cap : Nat) (w : World) :
    Calls Tryd.prog 32 #[.slice ao m cap] w fun e w' => e = .returned (.func (.func 58) #[] #[.pointer (some ⟨w.heap.size, 0, none⟩)]) ∧ w' = w.alloc (.cells #[.slice ao m cap] 22 (0, 0)) := by
  go_enter Tryd.func32, Tryd.ntmps32
  go_wp2
  go_ret
  exact ⟨rfl, rfl⟩
theorem prt_stops (n : Nat) (hn : 1 ≤ n) (Bs n₀ g off cap m N : Nat) (ro : Option Addr) (rc : Nat) (hm1 : 1 ≤ m) (hm6 : m ≤ 6) (hN6 : N ≤ 6) (w : World) (hB : Bs < w.heap.size) (hn1 : n₀ ≤ w.heap.size) (hP : isPa w n₀ Bs g off cap m N ro rc) :
    SeqStopsK Fence.wide n Tryd.prog 58 #[.pointer (some ⟨Bs, 0, none⟩)] (fun x : P6 m N => #[Value.int .u64 (x.1.1 : Int), Value.int .u64 (x.1.2 : Int)]) (KpB n₀ Bs) (fun ys => ys = allP m N) (fun pre => ∃ r c, pre = came m N r c) 4096 w :=
  fun l J Jx W hW _ _ hY h0 => prt1_in n hn l Bs n₀ g off cap m N ro rc hm1 hm6 hN6 J Jx hY W (hP.keep ⟨hW.mono hn1, hW.block Bs hB⟩) h0
end Go.Proofs.YthplbfjpmnpjmaaDoor
