/-
  slices.Sort of at most twelve bytes, walked.
  slices.Sort of at most twelve bytes, walked: pdqsortOrdered, Sort.
-/
import Derived.Test.YtihojhfpepbjhaaGreatDoorJ3
import Derived.Test.YtihojhfpepbjhaaGreatDoorW6
import Derived.BigQuiet
namespace Go.Proofs.YtihojhfpepbjhaaGreatDoor
open Go.RowKit
attribute [local go_sem ↓] Go.wp_at_zero Go.wp_at_succ

/-- A row of bytes that can be written. -/
def RowB (w : World) (g : Nat) (l : List UInt8) : Prop := ∃ (cur : Array Value) (fz : Nat × Nat), w.heap[g]? = some (.cells cur 5 fz) ∧ (fz = (0, 0) ∨ cur.size ≤ fz.1) ∧ cur.toList.take l.length = bvals l
theorem RowB.cell {w : World} {g : Nat} {l : List UInt8} (h : RowB w g l) (j : Nat) (hj : j < l.length) : w.cell? ⟨g, j, none⟩ = some (.int .u8 (l[j].toNat : Int)) := by
  obtain ⟨cur, m, h1, h2, h3⟩ := h
  rw [cell_of_row w g j cur _ _ h1]
  have : (cur.toList.take l.length)[j]? = (bvals l)[j]? := by rw [h3]
  rw [List.getElem?_take, if_pos hj] at this
  simpa [bvals, hj] using this
theorem RowB.frozen {w : World} {g : Nat} {l : List UInt8} (h : RowB w g l) (j : Nat) (hj : j < l.length) : w.frozen? ⟨g, j, none⟩ = false := by
  obtain ⟨cur, fz, h1, h2, h3⟩ := h
  have := RowM.le h3
  simp [World.frozen?, h1]
  rcases h2 with rfl | h2
  · simp
  · omega
theorem RowB.set {w : World} {g : Nat} {l : List UInt8} (h : RowB w g l) (j : Nat) (c : UInt8) : RowB (w.setCell ⟨g, j, none⟩ (.int .u8 (c.toNat : Int))) g (l.set j c) := by
  obtain ⟨cur, fz, h1, h2, h3⟩ := h
  refine ⟨cur.setIfInBounds j (.int .u8 (c.toNat : Int)), fz, ?_, by simpa using h2, ?_⟩
  · rw [setCell_eq_setRow w g j cur _ _ _ h1]
    exact setRow_heap w g cur _ _ _ h1
  · rw [Array.toList_setIfInBounds, List.length_set, List.take_set, h3]
    simp [bvals, List.map_set]
theorem RowB.conv {w : World} {g cap n : Nat} {l : List UInt8} (h : RowB w g l) (hn : Hid (l.length = n)) :
    (convert 127 9 (.slice (some ⟨g, 0, none⟩) n cap)).run Tryz.prog w = .ok (.string ⟨l.toArray⟩) w := by
  have hn' := unhide hn
  subst hn'
  refine run_convert_bytes_back w 127 9 5 ⟨g, 0, none⟩ cap l Tryz.underlying127 Tryz.underlying5 Tryz.underlying9 fun j hj => ?_
  have e : (⟨g, 0, none⟩ : Addr).add j = ⟨g, 0 + j, none⟩ := by unfold Addr.add; split <;> simp_all
  rw [Nat.zero_add] at e
  rw [e, h.cell j hj]
theorem RowB.drew {w : World} {g : Nat} {l : List UInt8} (q : Nat) (h : RowB w g l) : RowB (w.drewN q) g l := h
theorem RowB.lt {w : World} {g : Nat} {l : List UInt8} (h : RowB w g l) : g < w.heap.size := by
  obtain ⟨cur, m, h1, -⟩ := h
  exact (Array.getElem?_eq_some_iff.1 h1).1
theorem Bt.drew' {g : Nat} {w w' : World} (q : Nat) (h : Bt g w w') : Bt g w (w'.drewN q) := ⟨h.os, h.tape, h.output, h.size, h.block⟩

/-- Two bytes change places. -/
def swapB (l : List UInt8) (j : Nat) : List UInt8 := (l.set j l[j - 1]!).set (j - 1) l[j]!
/-- A byte goes down to its place. -/
def sinkB : Nat → List UInt8 → List UInt8
  | 0, l => l
  | j + 1, l => if l[j + 1]! < l[j]! then sinkB j (swapB l (j + 1)) else l
def isortB (l : List UInt8) (n : Nat) : List UInt8 := (List.range' 1 (n - 1)).foldl (fun l i => sinkB i l) l
theorem swapB_len (l : List UInt8) (j : Nat) : (swapB l j).length = l.length := by simp [swapB]
theorem sinkB_len : ∀ (j : Nat) (l : List UInt8), (sinkB j l).length = l.length
  | 0, _ => rfl
  | j + 1, l => by
    rw [sinkB]
    split
    · rw [sinkB_len j, swapB_len]
    · rfl

set_option maxHeartbeats 400000 in
theorem isNaN_any (x : Int) (w : World) :
    Calls Tryz.prog 221 #[.int .u8 x] w fun e w' => e = .returned (.bool false) ∧ w' = w := by
  go_enter Tryz.func221, Tryz.ntmps221
  go_wp2
  go_ret
  exact ⟨ret_bool (by simp), rfl⟩
set_option maxHeartbeats 1000000 in
theorem LessB_any (x y : Nat) (w : World) :
    Calls Tryz.prog 211 #[.int .u8 (x : Int), .int .u8 (y : Int)] w fun e w' => e = .returned (.bool (decide (x < y))) ∧ w' = w := by
  go_enter Tryz.func211, Tryz.ntmps211
  go_wp2_with fail
  refine (isNaN_any _ _).mono ?_
  rintro e w1 ⟨rfl, rfl⟩
  go_wp2
  go_ret
  exact ⟨ret_bool (by simp), rfl⟩

set_option maxHeartbeats 4000000 in
set_option maxRecDepth 100000 in
theorem insertB_any (g n cap : Nat) (d : List UInt8) (w : World) (hrow : RowB w g d) (hn : d.length = n) (h64 : n ≤ 64) :
    Calls Tryz.prog 205 #[.slice (some ⟨g, 0, none⟩) n cap, .int .i64 0, .int .i64 (n : Int)] w fun e w' => e = .returned (.tuple #[]) ∧ RowB w' g (isortB d n) ∧ Bt g w w' := by
  have HROW := hide hrow
  have HN := hide hn
  clear hrow hn
  go_enter Tryz.func205, Tryz.ntmps205
  go_wp2
  go_loopw [6] (fun iv wr => ∃ (i : Nat) (l : List UInt8), iv = .int .i64 (i : Int) ∧ 1 ≤ i ∧ (i ≤ n ∨ i = 1) ∧ RowB wr g l ∧ Bt g w wr ∧ Hid (l.length = n ∧ (List.range' 1 (i - 1)).foldl (fun l i => sinkB i l) d = l)) (fun iv _ => n - (intOf iv).toNat)
  case atStart => exact ⟨1, d, rfl, Nat.le_refl _, .inr rfl, unhide HROW, Bt.refl _ _, hide ⟨unhide HN, rfl⟩⟩
  case round =>
    obtain ⟨i, l, rfl, hi1, hin, hrow, hbt, HL⟩ := hrel
    clear HROW
    by_cases hlt : i < n
    · have hlti : (i : Int) < (n : Int) := by omega
      have HROW := hide hrow
      have HBT := hide hbt
      clear hrow hbt
      go_wp2
      go_loopw [7] (fun jv wr => ∃ (j : Nat) (l2 : List UInt8), jv = .int .i64 (j : Int) ∧ j ≤ i ∧ RowB wr g l2 ∧ Bt g w wr ∧ Hid (l2.length = n ∧ sinkB j l2 = sinkB i l)) (fun jv _ => (intOf jv).toNat)
      case atStart => exact ⟨i, l, rfl, Nat.le_refl _, unhide HROW, unhide HBT, hide ⟨(unhide HL).1, rfl⟩⟩
      case round =>
        obtain ⟨j, l2, rfl, hji, hrow, hbt, HL2⟩ := hrel
        clear HROW HBT
        obtain ⟨e1, e2⟩ := unhide HL2
        have HROW := hide hrow
        have HBT := hide hbt
        by_cases hj0 : j = 0
        · subst hj0
          have HSI : Hid ((List.range' 1 (i + 1 - 1)).foldl (fun l i => sinkB i l) d = l2) := by
            refine hide ?_
            rw [show i + 1 - 1 = (i - 1) + 1 by omega, List.range'_concat, List.foldl_append, (unhide HL).2]
            simp only [List.foldl_cons, List.foldl_nil]
            rw [show 1 + 1 * (i - 1) = i by omega, ← e2]
            rfl
          have HE1 := hide e1
          clear hrow hbt e1 e2
          go_wp2_with fail
          go_quiet (fail)
          have HROW2 := hide ((unhide HROW).drew nq)
          have HBT2 := hide ((unhide HBT).drew' nq)
          clear HROW HBT
          go_wp2
          go_roundw
          case rel => exact ⟨i + 1, l2, by go_num, by omega, .inl (by omega), unhide HROW2, unhide HBT2, hide ⟨unhide HE1, unhide HSI⟩⟩
          case measure => simp only [intOf]; omega
        · have hjp : (0 : Int) < (j : Int) := by omega
          obtain ⟨k, rfl⟩ : ∃ k, j = k + 1 := ⟨j - 1, by omega⟩
          have hkl : k + 1 < l2.length := by omega
          have c1 := hrow.cell (k + 1) hkl
          have c0 := hrow.cell k (by omega)
          have f1 := hrow.frozen (k + 1) hkl
          have f0 := hrow.frozen k (by omega)
          obtain ⟨x, hx⟩ : ∃ x, x = l2[k + 1] := ⟨_, rfl⟩
          obtain ⟨y, hy⟩ : ∃ y, y = l2[k] := ⟨_, rfl⟩
          rw [← hx] at c1
          rw [← hy] at c0
          have hx' : l2[k + 1]! = x := by rw [hx]; exact getElem!_pos l2 _ hkl
          have hy' : l2[k]! = y := by rw [hy]; exact getElem!_pos l2 _ (by omega)
          rw [sinkB, hx', hy'] at e2
          have HLS := hide (fun u => LessB_any x.toNat y.toNat u)
          have hsub : ((k + 1 : Nat) : Int) - 1 = (k : Int) := by omega
          have hki : (k : Int) < (n : Int) := by omega
          have hk1i : ((k + 1 : Nat) : Int) < (n : Int) := by omega
          by_cases hls : x < y
          · have hd : decide (x.toNat < y.toNat) = true := decide_eq_true hls
            rw [if_pos hls] at e2
            have hr1 := ((hrow.set (k + 1) y).set k x)
            have hb1 := (hbt.put (k + 1) (.int .u8 (y.toNat : Int))).put k (.int .u8 (x.toNat : Int))
            have hsw : swapB l2 (k + 1) = (l2.set (k + 1) y).set k x := by unfold swapB; rw [hx', show k + 1 - 1 = k by omega, hy']
            rw [hsw] at e2
            have HE := hide (show ((l2.set (k + 1) y).set k x).length = n ∧ sinkB k ((l2.set (k + 1) y).set k x) = sinkB i l from ⟨by simp [e1], e2⟩)
            rw [hd] at HLS
            have HR1 := hide hr1
            have HB1 := hide hb1
            clear hrow hbt e1 e2 hx hy hx' hy' hls hd hr1 hb1 hsw HROW HBT
            go_wp2_with fail
            go_quiet ((go_at_call 211; exact Calls.quiet_of_same (unhide HLS _)))
            go_wp2
            go_region
            go_wp2
            go_roundw
            case rel => exact ⟨k, (l2.set (k + 1) y).set k x, by go_num, by omega, unhide HR1, ⟨(unhide HB1).os, (unhide HB1).tape, (unhide HB1).output, (unhide HB1).size, (unhide HB1).block⟩, unhide HE⟩
            case measure => simp only [intOf]; omega
          · have hd : decide (x.toNat < y.toNat) = false := decide_eq_false hls
            rw [if_neg hls] at e2
            have HSI : Hid ((List.range' 1 (i + 1 - 1)).foldl (fun l i => sinkB i l) d = l2) := by
              refine hide ?_
              rw [show i + 1 - 1 = (i - 1) + 1 by omega, List.range'_concat, List.foldl_append, (unhide HL).2]
              simp only [List.foldl_cons, List.foldl_nil]
              rw [show 1 + 1 * (i - 1) = i by omega, ← e2]
            have HE1 := hide e1
            rw [hd] at HLS
            clear hrow hbt e1 e2 hx hy hx' hy' hls hd f0 f1
            go_wp2_with fail
            go_quiet ((go_at_call 211; exact Calls.quiet_of_same (unhide HLS _)))
            have HROW2 := hide ((unhide HROW).drew nq)
            have HBT2 := hide ((unhide HBT).drew' nq)
            clear HROW HBT
            go_wp2
            go_roundw
            case rel => exact ⟨i + 1, l2, by go_num, by omega, .inl (by omega), unhide HROW2, unhide HBT2, hide ⟨unhide HE1, unhide HSI⟩⟩
            case measure => simp only [intOf]; omega
    · have hlti : ¬ (i : Int) < (n : Int) := by omega
      have HROW := hide hrow
      have HBT := hide hbt
      have HIS : Hid (isortB d n = l) := by
        refine hide ?_
        have e := (unhide HL).2
        unfold isortB
        rcases hin with h | h
        · rw [show n = i by omega]; exact e
        · rw [show n - 1 = i - 1 by omega]; exact e
      clear hrow hbt
      go_wp2
      go_end0
      exact ⟨rfl, by rw [unhide HIS]; exact unhide HROW, unhide HBT⟩
end Go.Proofs.YtihojhfpepbjhaaGreatDoor

namespace Go.Proofs.YtihojhfpepbjhaaGreatDoor
open Go.RowKit
attribute [local go_sem ↓] Go.wp_at_zero Go.wp_at_succ

set_option maxHeartbeats 4000000 in
set_option maxRecDepth 100000 in
theorem Len64_any (n : Nat) (w : World) (hn : n ≤ 12) :
    Calls Tryz.prog 195 #[.int .u64 (n : Int)] w fun e w' => (∃ r : Int, e = .returned (.int .i64 r)) ∧ w' = w := by
  have hn1 : (n : Int) ≤ 12 := by omega
  have h1 : ¬ (4294967296 : Int) ≤ (n : Int) := by omega
  have h2 : ¬ (65536 : Int) ≤ (n : Int) := by omega
  have h3 : ¬ (256 : Int) ≤ (n : Int) := by omega
  go_enter Tryz.func195, Tryz.ntmps195
  go_wp2
  go_ret
  exact ⟨⟨_, rfl⟩, rfl⟩
set_option maxHeartbeats 1000000 in
theorem Len_any (n : Nat) (w : World) (hn : n ≤ 12) :
    Calls Tryz.prog 201 #[.int .u64 (n : Int)] w fun e w' => (∃ r : Int, e = .returned (.int .i64 r)) ∧ w' = w := by
  have hn1 : (n : Int) ≤ 12 := by omega
  go_enter Tryz.func201, Tryz.ntmps201
  go_wp2_with fail
  refine (Len64_any n _ hn).mono ?_
  rintro e w1 ⟨⟨r, rfl⟩, rfl⟩
  go_wp2
  go_ret
  exact ⟨⟨_, rfl⟩, rfl⟩

set_option maxHeartbeats 4000000 in
set_option maxRecDepth 100000 in
theorem pdqB_any (g n cap : Nat) (d : List UInt8) (r : Int) (w : World) (hrow : RowB w g d) (hn : d.length = n) (h12 : n ≤ 12) :
    Calls Tryz.prog 200 #[.slice (some ⟨g, 0, none⟩) n cap, .int .i64 0, .int .i64 (n : Int), .int .i64 r] w fun e w' => e = .returned (.tuple #[]) ∧ RowB w' g (isortB d n) ∧ Bt g w w' := by
  have HI := hide (insertB_any g n cap d w hrow hn (by omega))
  clear hrow hn
  go_enter Tryz.func200, Tryz.ntmps200
  go_wp2
  go_loopw [1, 2] (fun av bv wr => av = .int .i64 0 ∧ bv = .int .i64 (n : Int) ∧ wr = w) (fun _ _ _ => 0)
  case atStart => exact ⟨rfl, rfl, rfl⟩
  case round =>
    obtain ⟨rfl, rfl, rfl⟩ := hrel
    have h12i : (n : Int) ≤ 12 := by omega
    go_wp2_with fail
    refine (unhide HI).mono ?_
    rintro e w1 ⟨rfl, hr, hb⟩
    have HR := hide hr
    have HB := hide hb
    clear hr hb
    go_wp2
    refine bodyPost_ret (results_none rfl _ _ _) rfl ?_
    exact ⟨rfl, unhide HR, unhide HB⟩

set_option maxHeartbeats 2000000 in
set_option maxRecDepth 100000 in
theorem SortB_any (g n cap : Nat) (d : List UInt8) (w : World) (hrow : RowB w g d) (hn : d.length = n) (h12 : n ≤ 12) :
    Calls Tryz.prog 193 #[.slice (some ⟨g, 0, none⟩) n cap] w fun e w' => e = .returned (.tuple #[]) ∧ RowB w' g (isortB d n) ∧ Bt g w w' := by
  have HI := hide (fun r => pdqB_any g n cap d r w hrow hn h12)
  have HL := hide (fun u => Len_any n u h12)
  have h12i : (n : Int) ≤ 12 := by omega
  clear hrow hn
  go_enter Tryz.func193, Tryz.ntmps193
  go_wp2_with fail
  refine (unhide HL _).mono ?_
  rintro e w1 ⟨⟨r, rfl⟩, rfl⟩
  go_wp2_with fail
  refine (unhide HI r).mono ?_
  rintro e w2 ⟨rfl, hr, hb⟩
  have HR := hide hr
  have HB := hide hb
  clear hr hb
  go_wp2
  go_end0
  exact ⟨rfl, unhide HR, unhide HB⟩
end Go.Proofs.YtihojhfpepbjhaaGreatDoor
