/-
  slices.Compact of bytes, walked.
  package moves, walked: appendDrops.
-/
import Derived.Test.YtihojhfpepbjhaaGreatDoorJ6
import Derived.Test.YtihojhfpepbjhaaGreatDoorW6
import Derived.Lib.SliceRun
import Derived.Deep.Onto
namespace Go.Proofs.YtihojhfpepbjhaaGreatDoor
open Go.RowKit
attribute [local go_sem ↓] Go.wp_at_zero Go.wp_at_succ

/-- Is a byte another one than that before it? -/
def newB (d : List UInt8) (i : Nat) : Bool := decide (i = 0) || decide (d[i]! ≠ d[i - 1]!)
/-- The bytes of the first m that are. -/
def cptN (d : List UInt8) (m : Nat) : List UInt8 := ((List.range m).filter (newB d)).map fun i => d[i]!
theorem cptN_yes {d : List UInt8} {m : Nat} (h : newB d m = true) : cptN d (m + 1) = cptN d m ++ [d[m]!] := by
  unfold cptN; rw [List.range_succ, List.filter_append, List.map_append]; simp [h]
theorem cptN_no {d : List UInt8} {m : Nat} (h : newB d m = false) : cptN d (m + 1) = cptN d m := by
  unfold cptN; rw [List.range_succ, List.filter_append, List.map_append]; simp [h]
theorem cptN_le (d : List UInt8) (m : Nat) : (cptN d m).length ≤ m := by
  unfold cptN; rw [List.length_map]; have := List.length_filter_le (newB d) (List.range m); simpa using this
theorem cptN_all {d : List UInt8} : ∀ (m : Nat), m ≤ d.length → (∀ j, j < m → newB d j = true) → cptN d m = d.take m
  | 0, _, _ => by simp [cptN]
  | m + 1, hm, h => by
    rw [cptN_yes (h m (Nat.lt_succ_self _)), cptN_all m (by omega) fun j hj => h j (by omega), List.take_succ_eq_append_getElem (by omega), getElem!_pos d m (by omega)]
theorem RowM.keep {w : World} {g : Nat} {l : List UInt8} (h : RowM w g l) (j : Nat) (v : Value) (hj : l.length ≤ j) : RowM (w.setCell ⟨g, j, none⟩ v) g l := by
  obtain ⟨cur, m, h1, h2, h3⟩ := h
  refine ⟨cur.setIfInBounds j v, m, ?_, by simpa using h2, ?_⟩
  · rw [setCell_eq_setRow w g j cur _ _ _ h1]
    exact setRow_heap w g cur _ _ _ h1
  · rw [Array.toList_setIfInBounds, List.take_set_of_le hj, h3]
theorem RowM.keeps {g : Nat} {l : List UInt8} : ∀ (vs : List Value) (j : Nat) (w : World), RowM w g l → l.length ≤ j → RowM (w.setCells g j vs) g l
  | [], _, _, h, _ => h
  | v :: vs, j, _, h, hj => RowM.keeps vs (j + 1) _ (h.keep j v hj) (by omega)
theorem Bt.puts {g : Nat} {w : World} : ∀ (vs : List Value) (j : Nat) (w' : World), Bt g w w' → Bt g w (w'.setCells g j vs)
  | [], _, _, h => h
  | v :: vs, j, _, h => Bt.puts vs (j + 1) _ (h.put j v)
theorem RowM.take {w : World} {g : Nat} {l : List UInt8} (h : RowM w g l) (m : Nat) : RowM w g (l.take m) := by
  obtain ⟨cur, k, h1, h2, h3⟩ := h
  refine ⟨cur, k, h1, h2, ?_⟩
  have e : bvals (l.take m) = (bvals l).take m := by unfold bvals; rw [List.map_take]
  rw [e, ← h3, List.take_take, List.length_take]
theorem RowM.drew {w : World} {g : Nat} {l : List UInt8} (q : Nat) (h : RowM w g l) : RowM (w.drewN q) g l := h
theorem Bt.drew {g : Nat} {w w' : World} (q : Nat) (h : Bt g w w') : Bt g w (w'.drewN q) := ⟨h.os, h.tape, h.output, h.size, h.block⟩

set_option maxHeartbeats 4000000 in
set_option maxRecDepth 100000 in
theorem Compact_any (g n cap : Nat) (d : List UInt8) (w : World) (hrow : RowM w g d) (hn : d.length = n) (h64 : n ≤ 64) (hcap : n ≤ cap) (_hmx : cap ≤ maxLen) :
    Calls Tryz.prog 160 #[.slice (some ⟨g, 0, none⟩) n cap] w fun e w' => e = .returned (.slice (some ⟨g, 0, none⟩) (cptN d n).length cap) ∧ RowM w' g (cptN d n) ∧ Bt g w w' := by
  have HROW := hide hrow
  have HN := hide hn
  have same : (∀ j, j < n → newB d j = true) → cptN d n = d := fun h => by rw [cptN_all n (by omega) h]; exact List.take_of_length_le (by omega)
  have HSM := hide same
  clear hrow hn same
  by_cases h2 : n < 2
  · have h2i : (n : Int) < 2 := by omega
    go_enter Tryz.func160, Tryz.ntmps160
    go_wp2
    go_ret
    have e := unhide HSM fun j hj => by
      unfold newB
      simp [show j = 0 by omega]
    exact ⟨by rw [e, unhide HN]; rfl, by rw [e]; exact unhide HROW, Bt.refl _ _⟩
  · have h2i : ¬ (n : Int) < 2 := by omega
    go_enter Tryz.func160, Tryz.ntmps160
    go_wp2
    go_loopw [3] (fun iv wr => ∃ k : Nat, 1 ≤ k ∧ k ≤ n ∧ iv = .int .i64 (k : Int) ∧ Hid (∀ j, j < k → newB d j = true) ∧ RowM wr g d ∧ Bt g w wr) (fun iv _ => n - (intOf iv).toNat)
    case atStart => exact ⟨1, Nat.le_refl _, by omega, rfl, hide fun j hj => by unfold newB; simp [show j = 0 by omega], unhide HROW, Bt.refl _ _⟩
    case round =>
      obtain ⟨k, hk1, hk, rfl, HAL, hrow, hbt⟩ := hrel
      clear HROW
      by_cases hlt : k < n
      · have hlti : (k : Int) < (n : Int) := by omega
        have c1 := hrow.cell k (by rw [unhide HN]; exact hlt)
        have c0 := hrow.cell (k - 1) (by rw [unhide HN]; omega)
        obtain ⟨x, hx⟩ : ∃ x : Nat, x = (d[k]'(by rw [unhide HN]; exact hlt)).toNat := ⟨_, rfl⟩
        obtain ⟨y, hy⟩ : ∃ y : Nat, y = (d[k - 1]'(by rw [unhide HN]; omega)).toNat := ⟨_, rfl⟩
        rw [← hx] at c1
        rw [← hy] at c0
        have hnew : newB d k = decide (x ≠ y) := by
          unfold newB
          rw [getElem!_pos d k (by rw [unhide HN]; exact hlt), getElem!_pos d (k - 1) (by rw [unhide HN]; omega), decide_eq_false (show ¬ k = 0 by omega), Bool.false_or, hx, hy]
          exact decide_eq_decide.2 (not_congr UInt8.toNat_inj.symm)
        have HNEW := hide hnew
        have HROW := hide hrow
        have HBT := hide hbt
        clear hrow hbt hx hy hnew
        have hkm : ((k - 1 : Nat) : Int) = (k : Int) - 1 := by omega
        by_cases hxy : x = y
        · have hb : ((x : Int) == (y : Int)) = true := by simp; omega
          have HOLD : Hid (newB d k = false) := hide (by rw [unhide HNEW, hxy]; simp)
          clear hxy
          go_wp2_with fail
          go_quiet (fail)
          have hrow1 := (unhide HROW).drew nq
          have hbt1 := (unhide HBT).drew nq
          have HROW1 := hide hrow1
          have HBT1 := hide hbt1
          clear HROW HBT hrow1 hbt1 c0 c1
          go_wp2
          go_loopw [3, 5] (fun kv jv wr => ∃ (kk k2 : Nat) (l : List UInt8), kv = .int .i64 (kk : Int) ∧ jv = .int .i64 (k2 : Int) ∧ 1 ≤ k2 ∧ k + k2 ≤ n ∧ 1 ≤ kk ∧ kk < k + k2 ∧ RowM wr g l ∧ Bt g w wr ∧ Hid (l.length = n ∧ (cptN d (k + k2)).length = kk ∧ l.take kk = cptN d (k + k2) ∧ ∀ j, k + k2 ≤ j + 1 → l[j]? = d[j]?)) (fun _ jv _ => n - k - (intOf jv).toNat)
          case atStart =>
            have e1 := cptN_all (d := d) k (by rw [unhide HN]; exact hk) (unhide HAL)
            have e2 := cptN_no (unhide HOLD)
            refine ⟨k, 1, d, rfl, rfl, Nat.le_refl _, by omega, hk1, by omega, unhide HROW1, unhide HBT1, hide ⟨unhide HN, ?_, ?_, fun _ _ => rfl⟩⟩
            · rw [e2, e1, List.length_take, unhide HN]; omega
            · rw [e2, e1]
          case round =>
            obtain ⟨kk, k2, l, rfl, rfl, h1, hle, hkk1, hkk, hrow, hbt, HL⟩ := hrel
            obtain ⟨l1, l2, l3, l4⟩ := unhide HL
            clear HROW1 HBT1
            by_cases hlt2 : k + k2 < n
            · have hlt2i : (k2 : Int) < (n : Int) - (k : Int) := by omega
              have hlt2n : k2 < n - k := by omega
              have c1 := hrow.cell (k + k2) (by omega)
              have c0 := hrow.cell (k + k2 - 1) (by omega)
              have ck := hrow.cell kk (by omega)
              have fk := hrow.frozen kk (by omega)
              obtain ⟨z, hz⟩ : ∃ z, z = l[kk]'(by omega) := ⟨_, rfl⟩
              rw [← hz] at ck
              have hdl : d.length = n := unhide HN
              obtain ⟨X, hX⟩ : ∃ X, X = d[k + k2]! := ⟨_, rfl⟩
              obtain ⟨Y, hY⟩ : ∃ Y, Y = d[k + k2 - 1]! := ⟨_, rfl⟩
              have ex : l[k + k2]'(by omega) = X := by
                have := l4 (k + k2) (by omega)
                rw [List.getElem?_eq_getElem (by omega), List.getElem?_eq_getElem (by omega)] at this
                rw [hX, getElem!_pos d _ (by omega)]; exact Option.some.inj this
              have ey : l[k + k2 - 1]'(by omega) = Y := by
                have := l4 (k + k2 - 1) (by omega)
                rw [List.getElem?_eq_getElem (by omega), List.getElem?_eq_getElem (by omega)] at this
                rw [hY, getElem!_pos d _ (by omega)]; exact Option.some.inj this
              rw [ex] at c1
              rw [ey] at c0
              have hnew : newB d (k + k2) = decide (X ≠ Y) := by
                unfold newB
                rw [decide_eq_false (show ¬ k + k2 = 0 by omega), Bool.false_or, hX, hY]
              rw [show k + k2 - 1 = k + (k2 - 1) by omega] at c0
              have HNEW2 := hide hnew
              have HX := hide hX
              have hkm2 : ((k2 - 1 : Nat) : Int) = (k2 : Int) - 1 := by omega
              have HROW := hide hrow
              have HBT := hide hbt
              clear hrow hbt hnew hX hY ex ey hz l1 l2 l3 l4 hdl
              by_cases hxy : X = Y
              · have hb2 : ((X.toNat : Int) != (Y.toNat : Int)) = false := by simp [hxy]
                have HO2 : Hid (newB d (k + k2) = false) := hide (by rw [unhide HNEW2, hxy]; simp)
                clear hxy
                go_wp2_with fail
                go_quiet (fail)
                have HROW2 := hide ((unhide HROW).drew nq)
                have HBT2 := hide ((unhide HBT).drew nq)
                clear HROW HBT
                go_wp2
                go_roundw
                case rel =>
                  obtain ⟨l1, l2, l3, l4⟩ := unhide HL
                  have e2 := cptN_no (unhide HO2)
                  rw [show k + k2 + 1 = k + (k2 + 1) by omega] at e2
                  exact ⟨kk, k2 + 1, l, rfl, by go_num, by omega, by omega, hkk1, by omega, unhide HROW2, unhide HBT2, hide ⟨l1, by rw [e2]; exact l2, by rw [e2]; exact l3, fun j hj => l4 j (by omega)⟩⟩
                case measure => simp only [intOf]; omega
              · have hb2 : ((X.toNat : Int) != (Y.toNat : Int)) = true := by
                  simp only [bne_iff_ne, ne_eq]; intro e; exact hxy (UInt8.toNat_inj.1 (by omega))
                have HO2 : Hid (newB d (k + k2) = true) := hide (by rw [unhide HNEW2]; simp [hxy])
                clear hxy
                go_wp2_with fail
                go_quiet (fail)
                have HROW2 := hide (((unhide HROW).drew nq).set kk X)
                have HBT2 := hide (((unhide HBT).drew nq).put kk (.int .u8 (X.toNat : Int)))
                clear HROW HBT
                go_wp2
                go_roundw
                case rel =>
                  obtain ⟨l1, l2, l3, l4⟩ := unhide HL
                  have e2 := cptN_yes (unhide HO2)
                  rw [show k + k2 + 1 = k + (k2 + 1) by omega, ← unhide HX] at e2
                  refine ⟨kk + 1, k2 + 1, l.set kk X, by go_num, by go_num, by omega, by omega, by omega, by omega, unhide HROW2, unhide HBT2, hide ⟨by rw [List.length_set]; exact l1, by rw [e2, List.length_append, l2]; rfl, ?_, fun j hj => by rw [List.getElem?_set_ne (by omega)]; exact l4 j (by omega)⟩⟩
                  rw [e2, List.take_succ_eq_append_getElem (by rw [List.length_set]; omega), List.take_set_of_le (Nat.le_refl _), l3, List.getElem_set_self]
                case measure => simp only [intOf]; omega
            · have hlt2i : ¬ (k2 : Int) < (n : Int) - (k : Int) := by omega
              have hend : k + k2 = n := by omega
              have hkn : kk < n := by omega
              have hcl : ∀ ty, (Builtin.clear_ #[127] ty #[.slice (some ⟨g, 0 + kk, none⟩) (n - kk) (cap - kk)]).run Tryz.prog wr = .ok (.tuple #[]) (wr.setCells g (0 + kk) (List.replicate (n - kk) (.int .u8 0))) :=
                fun ty => Lib.run_clear_slice wr _ _ ty _ Tryz.underlying127 (fun _ => rfl) rfl rfl g (0 + kk) _ _ (by omega) (fun j hj => by rw [show 0 + kk + j = kk + j by omega, hrow.cell (kk + j) (by omega)]; rfl) (fun j hj => by rw [show 0 + kk + j = kk + j by omega]; exact hrow.frozen (kk + j) (by omega))
              simp only [Nat.zero_add] at hcl
              have hR : RowM (wr.setCells g kk (List.replicate (n - kk) (.int .u8 0))) g (cptN d n) := by
                rw [← hend, ← l3]
                exact RowM.keeps _ _ _ (hrow.take kk) (by rw [List.length_take]; omega)
              have HR := hide hR
              have HB := hide (hbt.puts (List.replicate (n - kk) (.int .u8 0)) kk)
              have HKL : Hid ((cptN d n).length = kk) := hide (by rw [← hend]; exact l2)
              have hk2i : (kk : Int) ≤ (n : Int) := by omega
              have hkc : (kk : Int) ≤ (cap : Int) := by omega
              clear hrow hbt hR l1 l2 l3 l4
              go_wp2
              go_ret
              exact ⟨by rw [unhide HKL]; rfl, unhide HR, unhide HB⟩
        · have hb : ((x : Int) == (y : Int)) = false := by simp; omega
          have HON : Hid (∀ j, j < k + 1 → newB d j = true) := hide (fun j hj => by
            rcases Nat.lt_succ_iff_lt_or_eq.1 hj with h | rfl
            · exact unhide HAL j h
            · rw [unhide HNEW]; exact decide_eq_true hxy)
          clear hxy
          go_wp2_with fail
          go_quiet (fail)
          have HROW1 := hide ((unhide HROW).drew nq)
          have HBT1 := hide ((unhide HBT).drew nq)
          clear HROW HBT
          go_wp2
          go_roundw
          case rel => exact ⟨k + 1, by omega, by omega, by go_num, HON, unhide HROW1, unhide HBT1⟩
          case measure => simp only [intOf]; omega
      · have hlti : ¬ (k : Int) < (n : Int) := by omega
        have HROW := hide hrow
        have HBT := hide hbt
        clear hrow hbt
        go_wp2
        go_ret
        have e := unhide HSM fun j hj => unhide HAL j (by omega)
        exact ⟨by rw [e, unhide HN]; rfl, by rw [e]; exact unhide HROW, unhide HBT⟩
end Go.Proofs.YtihojhfpepbjhaaGreatDoor

namespace Go.Proofs.YtihojhfpepbjhaaGreatDoor
open Go.RowKit
attribute [local go_sem ↓] Go.wp_at_zero Go.wp_at_succ

/-- A move: whence (-1: out of the hand), where to, which piece. -/
structure Mv where
  f : Int
  t : Nat
  c : Nat
deriving DecidableEq
def mvals (L : List Mv) : List Value := L.flatMap fun m => [.int .i64 m.f, .int .i64 (m.t : Int), .int .u8 (m.c : Int)]
theorem mvals_snoc (L : List Mv) (m : Mv) : mvals (L ++ [m]) = mvals L ++ [.int .i64 m.f, .int .i64 (m.t : Int), .int .u8 (m.c : Int)] := by simp [mvals]
theorem infoMove : (Tryz.prog.info? 61).map (fun i => (i.zero, i.size, i.bytes)) = some (some (.agg #[.int .i64 0, .int .i64 0, .int .u8 0]), 3, 24) := by kernel_rfl
def mkD (to : Nat) (c : UInt8) : Mv := ⟨-1, to, c.toNat⟩
/-- What a hand's letters can do at a cell; at all cells below one. -/
def dropAt (C : ByteArray) (h : List UInt8) (to : Nat) : List Mv := if cellN C to = 46 then h.map (mkD to) else []
def dropsTo (C : ByteArray) (h : List UInt8) (n : Nat) : List Mv := (List.range n).flatMap (dropAt C h)
theorem dropsTo_succ (C : ByteArray) (h : List UInt8) (n : Nat) : dropsTo C h (n + 1) = dropsTo C h n ++ dropAt C h n := by unfold dropsTo; rw [List.range_succ, List.flatMap_append]; simp
theorem dropsTo_len (C : ByteArray) (h : List UInt8) (n : Nat) : (dropsTo C h n).length ≤ n * h.length := by
  induction n with
  | zero => simp [dropsTo]
  | succ n ih =>
    rw [dropsTo_succ, List.length_append, Nat.succ_mul]
    have : (dropAt C h n).length ≤ h.length := by unfold dropAt; split <;> simp
    omega
theorem RowM.below {w w' : World} {g B : Nat} {l : List UInt8} (h : RowM w g l) (hb : Below B w w') (hg : g < B) : RowM w' g l := by
  obtain ⟨cur, m, h1, h2, h3⟩ := h
  exact ⟨cur, m, by rw [hb.block g hg]; exact h1, h2, h3⟩
theorem RowM.lt {w : World} {g : Nat} {l : List UInt8} (h : RowM w g l) : g < w.heap.size := by
  obtain ⟨cur, m, h1, -⟩ := h
  exact (Array.getElem?_eq_some_iff.1 h1).1
/-- The hand of the player whose turn it is. -/
def handOf (T : Nat) (A B : ByteArray) : ByteArray := if T = 0 then A else B
theorem hand_cell (w : World) (b T : Nat) (W H T' : Int) (C A B : ByteArray) (h : isPb w b W H T' C A B) (hT : T ≤ 1) : w.cell? ⟨b, 4 + T, none⟩ = some (.string (handOf T A B)) := by
  obtain ⟨-, -, -, -, p4, p5⟩ := h.all
  rcases (by omega : T = 0 ∨ T = 1) with rfl | rfl
  · exact p4
  · exact p5

set_option maxHeartbeats 4000000 in
set_option maxRecDepth 100000 in
theorem appendDrops_any (W H T : Nat) (C A B : ByteArray) (w : World) (hT : T ≤ 1) (hA : A.size ≤ 8) (hB : B.size ≤ 8) (hC : C.size ≤ 64) :
    Calls Tryz.prog 127 #[.slice none 0 0, .agg #[.int .i64 (W : Int), .int .i64 (H : Int), .string C, .int .i64 (T : Int), .string A, .string B]] w fun e w' => ∃ v, e = .returned v ∧ w'.ownsRow w.heap.size 61 3 v (dropsTo C (cptN (handOf T A B).data.toList (handOf T A B).size) C.size).length (mvals (dropsTo C (cptN (handOf T A B).data.toList (handOf T A B).size) C.size)) ∧ Below w.heap.size w w' := by
  obtain ⟨i0, hi, hz0, hz1, hz2⟩ := info_parts infoMove
  obtain ⟨h, hh⟩ : ∃ h, h = handOf T A B := ⟨_, rfl⟩
  rw [← hh]
  have hh8 : h.size ≤ 8 := by rw [hh]; unfold handOf; split <;> assumption
  obtain ⟨wa, hwa⟩ : ∃ wa, wa = w.alloc (.cells #[.int .i64 (W : Int), .int .i64 (H : Int), .string C, .int .i64 (T : Int), .string A, .string B] 24 (0, 0)) := ⟨_, rfl⟩
  have hba : Below w.heap.size w wa := by rw [hwa]; exact (Below.refl _ _).alloc (Nat.le_refl _) _
  have hpb : isPb wa w.heap.size W H T C A B := by rw [hwa]; exact heap_alloc_new w _
  have hsa : wa.heap.size = w.heap.size + 1 := by rw [hwa]; simp
  have hhc := hand_cell wa w.heap.size T _ _ _ C A B hpb hT
  rw [← hh] at hhc
  have hcv := run_bytes_of_string (P := Tryz.prog) wa 9 127 5 h Tryz.underlying9 Tryz.underlying127 Tryz.underlying5
  obtain ⟨cap, hcap⟩ : ∃ cap, cap = grownCap wa h.size 0 5 := ⟨_, rfl⟩
  rw [← hcap] at hcv
  obtain ⟨w1, hw1⟩ : ∃ w1, w1 = wa.drew.alloc (.cells (bytesRow h cap) 5 ((bytesRow h cap).size, (bytesRow h cap).size + 1)) := ⟨_, rfl⟩
  rw [← hw1, hsa] at hcv
  have hrow1 : RowM w1 (w.heap.size + 1) h.data.toList := by
    have := rowM_new wa.drew h cap
    rw [← hw1, show wa.drew.heap.size = w.heap.size + 1 from hsa] at this
    simpa [flipTo] using this
  have hb1 : Below wa.heap.size wa w1 := by rw [hw1]; exact (Below.refl _ _).drew.alloc (Nat.le_refl _) _
  have hs1 : w1.heap.size = w.heap.size + 2 := by rw [hw1]; show (wa.drew.alloc _).heap.size = _; simp; exact hsa
  have hp1 : isPb w1 w.heap.size W H T C A B := hpb.below hb1 (by omega)
  have hcm : h.size ≤ cap ∧ cap ≤ maxLen := by rw [hcap]; exact ⟨grownCap_ge _ _ _ _, grownCap_le_maxLen _ _ _ _ (by unfold maxLen; omega)⟩
  have HCP := hide (Compact_any (w.heap.size + 1) h.size cap h.data.toList w1 hrow1 (len_data h) (by omega) hcm.1 hcm.2)
  obtain ⟨lt, hlt⟩ : ∃ lt, lt = cptN h.data.toList h.size := ⟨_, rfl⟩
  have hl8 : lt.length ≤ 8 := by rw [hlt]; exact Nat.le_trans (cptN_le _ _) hh8
  rw [← hlt] at HCP ⊢
  have HBW : Hid (Below w.heap.size w w1) := hide (hba.trans (hb1.mono (by omega)))
  have HP1 := hide hp1
  have HS1 := hide hs1
  rw [hwa] at hcv hhc
  clear hh hrow1 hb1 hs1 hp1 hw1 hwa hba hpb hsa hcap hlt
  go_enter Tryz.func127, Tryz.ntmps127
  go_wp2_with fail
  refine (unhide HCP).mono ?_
  rintro e w2 ⟨rfl, hrow2, hbt2⟩
  have hs2 : w.heap.size + 2 ≤ w2.heap.size := by have := hbt2.size; rw [unhide HS1] at this; exact this
  have hp2 : isPb w2 w.heap.size W H T C A B := (unhide HP1).bt hbt2 (by omega)
  have hb2 : Below w.heap.size w w2 := (unhide HBW).trans (hbt2.below (by omega) (by rw [unhide HS1]; omega))
  obtain ⟨-, -, p2, -⟩ := hp2.all
  have HP2 := hide hp2
  have HB2 := hide hb2
  have HROW2 := hide hrow2
  clear HCP HP1 HS1 HBW hcv hhc hrow2 hbt2 hp2 hb2
  go_wp2
  go_loopw [0, 21] (fun lv iv wr => ∃ to : Nat, iv = .int .i64 (to : Int) ∧ to ≤ C.size ∧ wr.ownsRow (w.heap.size + 2) 61 3 lv (dropsTo C lt to).length (mvals (dropsTo C lt to)) ∧ isPb wr w.heap.size W H T C A B ∧ RowM wr (w.heap.size + 1) lt ∧ Below w.heap.size w wr ∧ w.heap.size + 2 ≤ wr.heap.size) (fun _ iv _ => C.size - (intOf iv).toNat)
  case atStart => exact ⟨0, rfl, Nat.zero_le _, World.ownsRow_nil _ _ _ _, unhide HP2, unhide HROW2, unhide HB2, hs2⟩
  case round =>
    obtain ⟨to, rfl, hto, hown, hpb, hrow, hbw, hsz⟩ := hrel
    clear HP2 HB2 HROW2 p2
    by_cases hlt : to < C.size
    · have hlti : (to : Int) < (C.size : Int) := by omega
      obtain ⟨hcn, h256⟩ := cellN_at C to hlt
      obtain ⟨N, hN⟩ : ∃ N, N = cellN C to := ⟨_, rfl⟩
      rw [← hN] at hcn h256
      obtain ⟨-, -, p2, -⟩ := hpb.all
      have HPB := hide hpb
      have HROW := hide hrow
      have HBW := hide hbw
      have HOWN := hide hown
      have hlen := dropsTo_len C lt to
      have hmul : to * lt.length ≤ 63 * 8 := Nat.mul_le_mul (by omega) hl8
      have hdl : (dropsTo C lt to).length ≤ 504 := by omega
      have hsu := dropsTo_succ C lt to
      clear hpb hrow hbw hown hlen hmul
      by_cases h46 : N = 46
      · have hb : ((N : Int) != 46) = false := by simp; omega
        have hat : dropAt C lt to = lt.map (mkD to) := by unfold dropAt; rw [← hN, if_pos h46]
        rw [hat] at hsu
        have HSU := hide hsu
        clear hN hat hsu h46
        have hl8i : (lt.length : Int) ≤ 8 := by omega
        go_wp2
        go_loopw [0, 31] (fun lv jv wr => ∃ j : Nat, jv = .int .i64 (j : Int) ∧ j ≤ lt.length ∧ wr.ownsRow (w.heap.size + 2) 61 3 lv (dropsTo C lt to ++ (lt.take j).map (mkD to)).length (mvals (dropsTo C lt to ++ (lt.take j).map (mkD to))) ∧ isPb wr w.heap.size W H T C A B ∧ RowM wr (w.heap.size + 1) lt ∧ Below w.heap.size w wr ∧ w.heap.size + 2 ≤ wr.heap.size) (fun _ jv _ => lt.length - (intOf jv).toNat)
        case atStart => exact ⟨0, rfl, Nat.zero_le _, by simpa using unhide HOWN, unhide HPB, unhide HROW, unhide HBW, hsz⟩
        case round =>
          obtain ⟨j, rfl, hj, hown, hpb, hrow, hbw, hszj⟩ := hrel
          clear HPB HROW HBW HOWN p2
          by_cases hjl : j < lt.length
          · have hjli : (j : Int) < (lt.length : Int) := by omega
            have cj := hrow.cell j hjl
            obtain ⟨c, hc⟩ : ∃ c, c = lt[j] := ⟨_, rfl⟩
            rw [← hc] at cj
            have htk : (lt.take (j + 1)).map (mkD to) = (lt.take j).map (mkD to) ++ [⟨-1, to, c.toNat⟩] := by rw [List.take_succ_eq_append_getElem hjl, List.map_append, hc]; rfl
            have HTK := hide htk
            obtain ⟨L, hL⟩ : ∃ L : List Mv, L = dropsTo C lt to ++ (lt.take j).map (mkD to) := ⟨_, rfl⟩
            have hLl : L.length ≤ 512 := by rw [hL, List.length_append, List.length_map, List.length_take]; omega
            rw [← hL] at hown
            have HL := hide hL
            have HPB := hide hpb
            have HROW := hide hrow
            have HBW := hide hbw
            have hge := own_ge hown
            have HGE := hide hge
            clear hpb hrow hbw hc htk hL hge
            go_wp2_with (at_builtin; refine wpList_append_own _ rfl _ _ 56 rfl (w.heap.size + 2) 61 i0 _ 3 24 Tryz.underlying56 hi hz0 hz1 hz2 rfl (by decide) _ _ _ rfl (hown.alloc _) ⟨wr.heap.size, 0, none⟩ 1 1 [.int .i64 (-1), .int .i64 (to : Int), .int .u8 (c.toNat : Int)] rfl rfl ?c1 ?c2 ?c3 ?c4 ?c5 ?_)
            case c1 =>
              intro j u hj
              match j, hj with
              | 0, hj => simp at hj; subst hj; simp [Addr.add]
              | 1, hj => simp at hj; subst hj; simp [Addr.add]
              | 2, hj => simp at hj; subst hj; simp [Addr.add]
            case c2 =>
              intro u hu
              simp only [List.mem_cons, List.not_mem_nil, or_false] at hu
              rcases hu with rfl | rfl | rfl <;> rfl
            case c3 => unfold maxLen; omega
            case c4 => omega
            case c5 => simp; omega
            intro v' w3 hown' hgrow _
            have hb3 : Below (w.heap.size + 2) wr w3 := ((Below.refl _ wr).alloc hszj _).grown hgrow (by simp; omega) (unhide HGE)
            have hown3 : w3.ownsRow (w.heap.size + 2) 61 3 v' (dropsTo C lt to ++ (lt.take (j + 1)).map (mkD to)).length (mvals (dropsTo C lt to ++ (lt.take (j + 1)).map (mkD to))) := by
              rw [unhide HTK, ← List.append_assoc, ← unhide HL, mvals_snoc, List.length_append]
              exact hown'
            have HOWN3 := hide hown3
            have HPB3 := hide ((unhide HPB).below hb3 (by omega))
            have HROW3 := hide ((unhide HROW).below hb3 (by omega))
            have HBW3 := hide ((unhide HBW).trans (hb3.mono (by omega)))
            have hsz3 : w.heap.size + 2 ≤ w3.heap.size := Nat.le_trans hszj hb3.size
            clear hown' hgrow hown hown3 hb3 HPB HROW HBW cj
            go_wp2
            go_roundw
            case rel => exact ⟨j + 1, by go_num, by omega, unhide HOWN3, unhide HPB3, unhide HROW3, unhide HBW3, hsz3⟩
            case measure => simp only [intOf]; omega
          · have hjli : ¬ (j : Int) < (lt.length : Int) := by omega
            rw [List.take_of_length_le (show lt.length ≤ j by omega), ← unhide HSU] at hown
            have HPB := hide hpb
            have HROW := hide hrow
            have HBW := hide hbw
            have HOWN := hide hown
            clear hpb hrow hbw hown
            go_wp2
            go_roundw
            case rel => exact ⟨to + 1, by go_num, by omega, unhide HOWN, unhide HPB, unhide HROW, unhide HBW, hszj⟩
            case measure => simp only [intOf]; omega
      · have hb : ((N : Int) != 46) = true := by simp; omega
        have hat : dropAt C lt to = [] := by unfold dropAt; rw [← hN, if_neg h46]
        rw [hat, List.append_nil] at hsu
        have HSU := hide hsu
        clear hN hat hsu h46
        go_wp2
        go_roundw
        case rel => exact ⟨to + 1, by go_num, by omega, by rw [unhide HSU]; exact unhide HOWN, unhide HPB, unhide HROW, unhide HBW, hsz⟩
        case measure => simp only [intOf]; omega
    · have hlti : ¬ (to : Int) < (C.size : Int) := by omega
      have HBW := hide hbw
      rw [show to = C.size by omega] at hown
      have HOWN := hide hown
      clear hpb hrow hbw hown
      go_wp2
      go_ret
      exact ⟨_, rfl, World.ownsRow.mono (unhide HOWN) (by omega), unhide HBW⟩
end Go.Proofs.YtihojhfpepbjhaaGreatDoor
