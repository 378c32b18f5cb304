/-
  slices.Compact of bytes, walked.
-/
import Derived.Test.YtbglppcbgfkhmabGreatDoorJ10
import Derived.Lib.SliceRun
namespace Go.Proofs.YtbglppcbgfkhmabGreatDoor
open Go.RowKit
attribute [local go_sem ↓] Go.wp_at_zero Go.wp_at_succ

/-- Is a byte another one than that before it? -/
def newB (d : List UInt8) (i : Nat) : Bool := decide (i = 0) || decide (d[i]! ≠ d[i - 1]!)
/-- The bytes of the first m that are. -/
def cptN (d : List UInt8) (m : Nat) : List UInt8 := ((List.range m).filter (newB d)).map fun i => d[i]!
theorem cptN_yes {d : List UInt8} {m : Nat} (h : newB d m = true) : cptN d (m + 1) = cptN d m ++ [d[m]!] := by
  unfold cptN; rw [List.range_succ, List.filter_append, List.map_append]; simp [h]
theorem cptN_no {d : List UInt8} {m : Nat} (h : newB d m = false) : cptN d (m + 1) = cptN d m := by
  unfold cptN; rw [List.range_succ, List.filter_append, List.map_append]; simp [h]
theorem cptN_le (d : List UInt8) (m : Nat) : (cptN d m).length ≤ m := by
  unfold cptN; rw [List.length_map]; have := List.length_filter_le (newB d) (List.range m); simpa using this
theorem cptN_all {d : List UInt8} : ∀ (m : Nat), m ≤ d.length → (∀ j, j < m → newB d j = true) → cptN d m = d.take m
  | 0, _, _ => by simp [cptN]
  | m + 1, hm, h => by
    rw [cptN_yes (h m (Nat.lt_succ_self _)), cptN_all m (by omega) fun j hj => h j (by omega), List.take_succ_eq_append_getElem (by omega), getElem!_pos d m (by omega)]
theorem RowM.keep {w : World} {g : Nat} {l : List UInt8} (h : RowM w g l) (j : Nat) (v : Value) (hj : l.length ≤ j) : RowM (w.setCell ⟨g, j, none⟩ v) g l := by
  obtain ⟨cur, m, h1, h2, h3⟩ := h
  refine ⟨cur.setIfInBounds j v, m, ?_, by simpa using h2, ?_⟩
  · rw [setCell_eq_setRow w g j cur _ _ _ h1]
    exact setRow_heap w g cur _ _ _ h1
  · rw [Array.toList_setIfInBounds, List.take_set_of_le hj, h3]
theorem RowM.keeps {g : Nat} {l : List UInt8} : ∀ (vs : List Value) (j : Nat) (w : World), RowM w g l → l.length ≤ j → RowM (w.setCells g j vs) g l
  | [], _, _, h, _ => h
  | v :: vs, j, _, h, hj => RowM.keeps vs (j + 1) _ (h.keep j v hj) (by omega)
theorem Bt.puts {g : Nat} {w : World} : ∀ (vs : List Value) (j : Nat) (w' : World), Bt g w w' → Bt g w (w'.setCells g j vs)
  | [], _, _, h => h
  | v :: vs, j, _, h => Bt.puts vs (j + 1) _ (h.put j v)
theorem RowM.take {w : World} {g : Nat} {l : List UInt8} (h : RowM w g l) (m : Nat) : RowM w g (l.take m) := by
  obtain ⟨cur, k, h1, h2, h3⟩ := h
  refine ⟨cur, k, h1, h2, ?_⟩
  have e : bvals (l.take m) = (bvals l).take m := by unfold bvals; rw [List.map_take]
  rw [e, ← h3, List.take_take, List.length_take]
theorem RowM.drew {w : World} {g : Nat} {l : List UInt8} (q : Nat) (h : RowM w g l) : RowM (w.drewN q) g l := h
theorem Bt.drew {g : Nat} {w w' : World} (q : Nat) (h : Bt g w w') : Bt g w (w'.drewN q) := ⟨h.os, h.tape, h.output, h.size, h.block⟩

set_option maxHeartbeats 4000000 in
set_option maxRecDepth 100000 in
theorem Compact_any (g n cap : Nat) (d : List UInt8) (w : World) (hrow : RowM w g d) (hn : d.length = n) (h64 : n ≤ 64) (hcap : n ≤ cap) (_hmx : cap ≤ maxLen) :
    Calls Tryz.prog 103 #[.slice (some ⟨g, 0, none⟩) n cap] w fun e w' => e = .returned (.slice (some ⟨g, 0, none⟩) (cptN d n).length cap) ∧ RowM w' g (cptN d n) ∧ Bt g w w' := by
  have HROW := hide hrow
  have HN := hide hn
  have same : (∀ j, j < n → newB d j = true) → cptN d n = d := fun h => by rw [cptN_all n (by omega) h]; exact List.take_of_length_le (by omega)
  have HSM := hide same
  clear hrow hn same
  by_cases h2 : n < 2
  · have h2i : (n : Int) < 2 := by omega
    go_enter Tryz.func103, Tryz.ntmps103
    go_wp2
    go_ret
    have e := unhide HSM fun j hj => by
      unfold newB
      simp [show j = 0 by omega]
    exact ⟨by rw [e, unhide HN]; rfl, by rw [e]; exact unhide HROW, Bt.refl _ _⟩
  · have h2i : ¬ (n : Int) < 2 := by omega
    go_enter Tryz.func103, Tryz.ntmps103
    go_wp2
    go_loopw [3] (fun iv wr => ∃ k : Nat, 1 ≤ k ∧ k ≤ n ∧ iv = .int .i64 (k : Int) ∧ Hid (∀ j, j < k → newB d j = true) ∧ RowM wr g d ∧ Bt g w wr) (fun iv _ => n - (intOf iv).toNat)
    case atStart => exact ⟨1, Nat.le_refl _, by omega, rfl, hide fun j hj => by unfold newB; simp [show j = 0 by omega], unhide HROW, Bt.refl _ _⟩
    case round =>
      obtain ⟨k, hk1, hk, rfl, HAL, hrow, hbt⟩ := hrel
      clear HROW
      by_cases hlt : k < n
      · have hlti : (k : Int) < (n : Int) := by omega
        have c1 := hrow.cell k (by rw [unhide HN]; exact hlt)
        have c0 := hrow.cell (k - 1) (by rw [unhide HN]; omega)
        obtain ⟨x, hx⟩ : ∃ x : Nat, x = (d[k]'(by rw [unhide HN]; exact hlt)).toNat := ⟨_, rfl⟩
        obtain ⟨y, hy⟩ : ∃ y : Nat, y = (d[k - 1]'(by rw [unhide HN]; omega)).toNat := ⟨_, rfl⟩
        rw [← hx] at c1
        rw [← hy] at c0
        have hnew : newB d k = decide (x ≠ y) := by
          unfold newB
          rw [getElem!_pos d k (by rw [unhide HN]; exact hlt), getElem!_pos d (k - 1) (by rw [unhide HN]; omega), decide_eq_false (show ¬ k = 0 by omega), Bool.false_or, hx, hy]
          exact decide_eq_decide.2 (not_congr UInt8.toNat_inj.symm)
        have HNEW := hide hnew
        have HROW := hide hrow
        have HBT := hide hbt
        clear hrow hbt hx hy hnew
        have hkm : ((k - 1 : Nat) : Int) = (k : Int) - 1 := by omega
        by_cases hxy : x = y
        · have hb : ((x : Int) == (y : Int)) = true := by simp; omega
          have HOLD : Hid (newB d k = false) := hide (by rw [unhide HNEW, hxy]; simp)
          clear hxy
          go_wp2_with fail
          go_quiet (fail)
          have hrow1 := (unhide HROW).drew nq
          have hbt1 := (unhide HBT).drew nq
          have HROW1 := hide hrow1
          have HBT1 := hide hbt1
          clear HROW HBT hrow1 hbt1 c0 c1
          go_wp2
          go_loopw [3, 5] (fun kv jv wr => ∃ (kk k2 : Nat) (l : List UInt8), kv = .int .i64 (kk : Int) ∧ jv = .int .i64 (k2 : Int) ∧ 1 ≤ k2 ∧ k + k2 ≤ n ∧ 1 ≤ kk ∧ kk < k + k2 ∧ RowM wr g l ∧ Bt g w wr ∧ Hid (l.length = n ∧ (cptN d (k + k2)).length = kk ∧ l.take kk = cptN d (k + k2) ∧ ∀ j, k + k2 ≤ j + 1 → l[j]? = d[j]?)) (fun _ jv _ => n - k - (intOf jv).toNat)
          case atStart =>
            have e1 := cptN_all (d := d) k (by rw [unhide HN]; exact hk) (unhide HAL)
            have e2 := cptN_no (unhide HOLD)
            refine ⟨k, 1, d, rfl, rfl, Nat.le_refl _, by omega, hk1, by omega, unhide HROW1, unhide HBT1, hide ⟨unhide HN, ?_, ?_, fun _ _ => rfl⟩⟩
            · rw [e2, e1, List.length_take, unhide HN]; omega
            · rw [e2, e1]
          case round =>
            obtain ⟨kk, k2, l, rfl, rfl, h1, hle, hkk1, hkk, hrow, hbt, HL⟩ := hrel
            obtain ⟨l1, l2, l3, l4⟩ := unhide HL
            clear HROW1 HBT1
            by_cases hlt2 : k + k2 < n
            · have hlt2i : (k2 : Int) < (n : Int) - (k : Int) := by omega
              have hlt2n : k2 < n - k := by omega
              have c1 := hrow.cell (k + k2) (by omega)
              have c0 := hrow.cell (k + k2 - 1) (by omega)
              have ck := hrow.cell kk (by omega)
              have fk := hrow.frozen kk (by omega)
              obtain ⟨z, hz⟩ : ∃ z, z = l[kk]'(by omega) := ⟨_, rfl⟩
              rw [← hz] at ck
              have hdl : d.length = n := unhide HN
              obtain ⟨X, hX⟩ : ∃ X, X = d[k + k2]! := ⟨_, rfl⟩
              obtain ⟨Y, hY⟩ : ∃ Y, Y = d[k + k2 - 1]! := ⟨_, rfl⟩
              have ex : l[k + k2]'(by omega) = X := by
                have := l4 (k + k2) (by omega)
                rw [List.getElem?_eq_getElem (by omega), List.getElem?_eq_getElem (by omega)] at this
                rw [hX, getElem!_pos d _ (by omega)]; exact Option.some.inj this
              have ey : l[k + k2 - 1]'(by omega) = Y := by
                have := l4 (k + k2 - 1) (by omega)
                rw [List.getElem?_eq_getElem (by omega), List.getElem?_eq_getElem (by omega)] at this
                rw [hY, getElem!_pos d _ (by omega)]; exact Option.some.inj this
              rw [ex] at c1
              rw [ey] at c0
              have hnew : newB d (k + k2) = decide (X ≠ Y) := by
                unfold newB
                rw [decide_eq_false (show ¬ k + k2 = 0 by omega), Bool.false_or, hX, hY]
              rw [show k + k2 - 1 = k + (k2 - 1) by omega] at c0
              have HNEW2 := hide hnew
              have HX := hide hX
              have hkm2 : ((k2 - 1 : Nat) : Int) = (k2 : Int) - 1 := by omega
              have HROW := hide hrow
              have HBT := hide hbt
              clear hrow hbt hnew hX hY ex ey hz l1 l2 l3 l4 hdl
              by_cases hxy : X = Y
              · have hb2 : ((X.toNat : Int) != (Y.toNat : Int)) = false := by simp [hxy]
                have HO2 : Hid (newB d (k + k2) = false) := hide (by rw [unhide HNEW2, hxy]; simp)
                clear hxy
                go_wp2_with fail
                go_quiet (fail)
                have HROW2 := hide ((unhide HROW).drew nq)
                have HBT2 := hide ((unhide HBT).drew nq)
                clear HROW HBT
                go_wp2
                go_roundw
                case rel =>
                  obtain ⟨l1, l2, l3, l4⟩ := unhide HL
                  have e2 := cptN_no (unhide HO2)
                  rw [show k + k2 + 1 = k + (k2 + 1) by omega] at e2
                  exact ⟨kk, k2 + 1, l, rfl, by go_num, by omega, by omega, hkk1, by omega, unhide HROW2, unhide HBT2, hide ⟨l1, by rw [e2]; exact l2, by rw [e2]; exact l3, fun j hj => l4 j (by omega)⟩⟩
                case measure => simp only [intOf]; omega
              · have hb2 : ((X.toNat : Int) != (Y.toNat : Int)) = true := by
                  simp only [bne_iff_ne, ne_eq]; intro e; exact hxy (UInt8.toNat_inj.1 (by omega))
                have HO2 : Hid (newB d (k + k2) = true) := hide (by rw [unhide HNEW2]; simp [hxy])
                clear hxy
                go_wp2_with fail
                go_quiet (fail)
                have HROW2 := hide (((unhide HROW).drew nq).set kk X)
                have HBT2 := hide (((unhide HBT).drew nq).put kk (.int .u8 (X.toNat : Int)))
                clear HROW HBT
                go_wp2
                go_roundw
                case rel =>
                  obtain ⟨l1, l2, l3, l4⟩ := unhide HL
                  have e2 := cptN_yes (unhide HO2)
                  rw [show k + k2 + 1 = k + (k2 + 1) by omega, ← unhide HX] at e2
                  refine ⟨kk + 1, k2 + 1, l.set kk X, by go_num, by go_num, by omega, by omega, by omega, by omega, unhide HROW2, unhide HBT2, hide ⟨by rw [List.length_set]; exact l1, by rw [e2, List.length_append, l2]; rfl, ?_, fun j hj => by rw [List.getElem?_set_ne (by omega)]; exact l4 j (by omega)⟩⟩
                  rw [e2, List.take_succ_eq_append_getElem (by rw [List.length_set]; omega), List.take_set_of_le (Nat.le_refl _), l3, List.getElem_set_self]
                case measure => simp only [intOf]; omega
            · have hlt2i : ¬ (k2 : Int) < (n : Int) - (k : Int) := by omega
              have hend : k + k2 = n := by omega
              have hkn : kk < n := by omega
              have hcl : ∀ ty, (Builtin.clear_ #[69] ty #[.slice (some ⟨g, 0 + kk, none⟩) (n - kk) (cap - kk)]).run Tryz.prog wr = .ok (.tuple #[]) (wr.setCells g (0 + kk) (List.replicate (n - kk) (.int .u8 0))) :=
                fun ty => Lib.run_clear_slice wr _ _ ty _ Tryz.underlying69 (fun _ => rfl) rfl rfl g (0 + kk) _ _ (by omega) (fun j hj => by rw [show 0 + kk + j = kk + j by omega, hrow.cell (kk + j) (by omega)]; rfl) (fun j hj => by rw [show 0 + kk + j = kk + j by omega]; exact hrow.frozen (kk + j) (by omega))
              simp only [Nat.zero_add] at hcl
              have hR : RowM (wr.setCells g kk (List.replicate (n - kk) (.int .u8 0))) g (cptN d n) := by
                rw [← hend, ← l3]
                exact RowM.keeps _ _ _ (hrow.take kk) (by rw [List.length_take]; omega)
              have HR := hide hR
              have HB := hide (hbt.puts (List.replicate (n - kk) (.int .u8 0)) kk)
              have HKL : Hid ((cptN d n).length = kk) := hide (by rw [← hend]; exact l2)
              have hk2i : (kk : Int) ≤ (n : Int) := by omega
              have hkc : (kk : Int) ≤ (cap : Int) := by omega
              clear hrow hbt hR l1 l2 l3 l4
              go_wp2
              go_ret
              exact ⟨by rw [unhide HKL]; rfl, unhide HR, unhide HB⟩
        · have hb : ((x : Int) == (y : Int)) = false := by simp; omega
          have HON : Hid (∀ j, j < k + 1 → newB d j = true) := hide (fun j hj => by
            rcases Nat.lt_succ_iff_lt_or_eq.1 hj with h | rfl
            · exact unhide HAL j h
            · rw [unhide HNEW]; exact decide_eq_true hxy)
          clear hxy
          go_wp2_with fail
          go_quiet (fail)
          have HROW1 := hide ((unhide HROW).drew nq)
          have HBT1 := hide ((unhide HBT).drew nq)
          clear HROW HBT
          go_wp2
          go_roundw
          case rel => exact ⟨k + 1, by omega, by omega, by go_num, HON, unhide HROW1, unhide HBT1⟩
          case measure => simp only [intOf]; omega
      · have hlti : ¬ (k : Int) < (n : Int) := by omega
        have HROW := hide hrow
        have HBT := hide hbt
        clear hrow hbt
        go_wp2
        go_ret
        have e := unhide HSM fun j hj => unhide HAL j (by omega)
        exact ⟨by rw [e, unhide HN]; rfl, by rw [e]; exact unhide HROW, unhide HBT⟩
end Go.Proofs.YtbglppcbgfkhmabGreatDoor
