/-
  package matrix, walked: the parts of a matrix (range over a function).
-/
import Derived.Test.YthplbfjpmnpjmaaDoorA11
namespace Go.Proofs.YthplbfjpmnpjmaaDoor
open Go.RowKit Go.Shelf Lp
attribute [local go_sem] Oper.semAt_some

/-- What lay below n₀ and one block besides stay. -/
def KpB (n₀ Bs : Nat) (A B : World) : Prop := Below n₀ A B ∧ B.heap[Bs]? = A.heap[Bs]?
theorem KpB.trans {n₀ Bs : Nat} {A B C : World} (h : KpB n₀ Bs A B) (k : KpB n₀ Bs B C) : KpB n₀ Bs A C := ⟨h.1.trans k.1, k.2.trans h.2⟩
theorem KpB.put {n₀ Bs : Nat} {w : World} (hn : n₀ ≤ w.heap.size) (hB : Bs < w.heap.size) (W : World) (l : Nat) (o o' : Obj) (hl : w.heap.size ≤ l) (h1 : W.heap[l]? = some o) (h2 : o.isCells = false) (h3 : o.isWalk = false) : KpB n₀ Bs W (W.putObj l o') := by
  refine ⟨belowK_b hn W l o o' hl h1 h2 h3, ?_⟩
  have hne : l ≠ Bs := by omega
  simp [World.putObj, hne]
theorem KpB.refl (n₀ Bs : Nat) (A : World) : KpB n₀ Bs A A := ⟨Below.refl _ _, rfl⟩
theorem cell_block {A B : World} {b : Nat} (h : B.heap[b]? = A.heap[b]?) (k : Nat) : B.cell? ⟨b, k, none⟩ = A.cell? ⟨b, k, none⟩ := by unfold World.cell?; simp only; rw [h]

/-- What parts reads. -/
structure isPa (W : World) (n₀ Bs g off cap m N : Nat) (ro : Option Addr) (rc : Nat) : Prop where
  lt : g < n₀
  box : W.cell? ⟨Bs, 0, none⟩ = some (.slice (some ⟨g, off, none⟩) m cap)
  row : W.cell? ⟨g, off, none⟩ = some (.slice ro N rc)
theorem isPa.keep {A B : World} {n₀ Bs g off cap m N : Nat} {ro : Option Addr} {rc : Nat} (h : isPa A n₀ Bs g off cap m N ro rc) (hk : KpB n₀ Bs A B) : isPa B n₀ Bs g off cap m N ro rc :=
  ⟨h.lt, (cell_block hk.2 0).trans h.box, (hk.1.cell (p := ⟨g, off, none⟩) h.lt).trans h.row⟩

set_option maxRecDepth 100000 in
set_option maxHeartbeats 4000000 in
theorem prt1_in (n : Nat) (hn : 1 ≤ n) (l Bs n₀ g off cap m N : Nat) (ro : Option Addr) (rc : Nat) (hm1 : 1 ≤ m) (hm6 : m ≤ 6) (hN6 : N ≤ 6) (J Jx : List (P6 m N) → World → Prop)
    (hY : ∀ pre x W, J pre W → pre.length < 4096 → YieldAt Fence.wide (n - 1) Tryd.prog l #[.int .u64 (x.1.1 : Int), .int .u64 (x.1.2 : Int)] W fun e W' =>
      (e = .returned (.bool true) ∧ J (pre ++ [x]) W' ∧ KpB n₀ Bs W W') ∨ (e = .returned (.bool false) ∧ Jx (pre ++ [x]) W'))
    (W : World) (hP : isPa W n₀ Bs g off cap m N ro rc) (h0 : J [] W) :
    CallsIn Fence.wide n Tryd.prog 58 #[.func (.yield l) #[] #[], .pointer (some ⟨Bs, 0, none⟩)] W fun e W' => (∃ v, e = .returned v) ∧
      ((∃ ys, ys = allP m N ∧ J ys W') ∨ (∃ pre, (∃ r c, pre = came m N r c) ∧ Jx pre W')) := by
  obtain ⟨MM, hMM⟩ : ∃ M, M = 2 ^ m := ⟨_, rfl⟩
  obtain ⟨NN, hNN⟩ : ∃ M, M = 2 ^ N := ⟨_, rfl⟩
  have hM64 : MM ≤ 64 := by rw [hMM]; exact Nat.pow_le_pow_right (n := 2) (by omega) hm6
  have hN64 : NN ≤ 64 := by rw [hNN]; exact Nat.pow_le_pow_right (n := 2) (by omega) hN6
  have hMp : 1 ≤ MM := by rw [hMM]; exact Nat.one_le_two_pow
  have hNp : 1 ≤ NN := by rw [hNN]; exact Nat.one_le_two_pow
  have HF1 := hide (fun u => firsts_any m hm6 u)
  have HF2 := hide (fun u => firsts_any N hN6 u)
  rw [← hMM] at HF1
  rw [← hNN] at HF2
  have HMM := hide hMM
  have HNN := hide hNN
  have HY := hide hY
  have hm0 : (0 : Int) < (m : Int) := by omega
  clear hMM hNN hY
  refine callsIn_of_wp Tryd.func58 rfl trivial ?_ rfl
  simp only [Tryd.ntmps58, List.size_toArray, List.length_cons, List.length_nil, Nat.reduceAdd, Nat.reduceSub, Array.replicate_succ, Array.replicate_zero, List.push_toArray, List.append_toArray, List.nil_append, List.cons_append]
  gi_wp2
  gi_loopw [3] (fun i wr => ∃ r : Nat, 1 ≤ r ∧ r ≤ MM ∧ i = .int .u64 (r : Int) ∧ Hid (J (came m N r 0) wr) ∧ Hid (isPa wr n₀ Bs g off cap m N ro rc))
    (fun i _ => MM - (intOf i).toNat)
  case atStart => exact ⟨1, Nat.le_refl _, hMp, rfl, hide (by rw [came_start]; exact h0), hide hP⟩
  case round =>
    obtain ⟨r, hr1, hrM, rfl, HJ, HP⟩ := hrel
    rename World => wr
    clear h0 hP
    have cbx := (unhide HP).box
    have C1 := unhide HF1 wr
    obtain ⟨M1, hM1⟩ : ∃ M1, M1 = MM - 1 := ⟨_, rfl⟩
    rw [← hM1] at C1
    by_cases hlt : r < MM
    · have hle : (r : Int) ≤ (M1 : Int) := by omega
      have HM1 := hide hM1
      clear hM1
      gi_wp2_with (refine ⟨trivial, ?_⟩; gi_at_call 59; refine (callsIn_wide.2 C1).mono ?_; clear C1; rintro e w' ⟨rfl, rfl⟩)
      clear cbx
      gi_loopw [4] (fun i wq => ∃ c : Nat, 1 ≤ c ∧ c ≤ NN ∧ i = .int .u64 (c : Int) ∧ Hid (J (came m N r c) wq) ∧ Hid (isPa wq n₀ Bs g off cap m N ro rc))
        (fun i _ => NN - (intOf i).toNat)
      case atStart => exact ⟨1, Nat.le_refl _, hNp, rfl, hide (by rw [came_one]; exact unhide HJ), HP⟩
      case round =>
        obtain ⟨c, hc1, hcN, rfl, HJ2, HP2⟩ := hrel
        rename World => wq
        clear HJ HP
        have cbx := (unhide HP2).box
        have crw := (unhide HP2).row
        have C2 := unhide HF2 wq
        obtain ⟨N1, hN1'⟩ : ∃ N1, N1 = NN - 1 := ⟨_, rfl⟩
        rw [← hN1'] at C2
        by_cases hltc : c < NN
        · have hlec : (c : Int) ≤ (N1 : Int) := by omega
          have hr64 : r < 64 := by omega
          have hc64 : c < 64 := by omega
          have S1 := size_any r hr64 wq
          have S2 := size_any c hc64 wq
          obtain ⟨sr, hsr⟩ : ∃ z, z = sz r := ⟨_, rfl⟩
          obtain ⟨sc, hsc⟩ : ∃ z, z = sz c := ⟨_, rfl⟩
          rw [← hsr] at S1
          rw [← hsc] at S2
          by_cases he : sr = sc
          · have hok : okP m N (r, c) := ⟨hr1, by rw [← unhide HMM]; exact hlt, hc1, by rw [← unhide HNN]; exact hltc, by rw [← hsr, ← hsc]; exact he⟩
            have hlen : (came m N r c).length < 4096 := by
              have h1 := came_len m N r c
              rw [← unhide HNN] at h1
              have h2 : r * NN ≤ 63 * NN := Nat.mul_le_mul_right _ (by omega)
              omega
            obtain ⟨fn, tmps, assign, body, hy, hR⟩ := unhide HY _ ⟨(r, c), hok⟩ wq (unhide HJ2) hlen
            have HCY : Hid (came m N r c ++ [⟨(r, c), hok⟩] = came m N r (c + 1)) := hide (came_yes m N r c hok).symm
            dsimp only at hy
            have heb : ((sr : Int) == (sc : Int)) = true := by simp [he]
            have HN1 := hide hN1'
            clear hN1' hsr hsc he hlen HJ2
            gi_wp2_with (first | (refine ⟨trivial, ?_⟩; gi_at_call 59; refine (callsIn_wide.2 C2).mono ?_; clear C2; rintro e w' ⟨rfl, rfl⟩) | (refine ⟨trivial, ?_⟩; gi_at_call 60; first | (refine (callsIn_wide.2 S1).mono ?_; clear S1; rintro e w' ⟨rfl, rfl⟩) | (refine (callsIn_wide.2 S2).mono ?_; clear S2; rintro e w' ⟨rfl, rfl⟩)))
            refine hR.mono ?_
            rintro e W3 (⟨rfl, hJ3, hk3⟩ | ⟨rfl, hJx3⟩)
            · have HP3 := hide ((unhide HP2).keep hk3)
              clear cbx crw
              gi_wp2
              go_roundw
              case rel => exact ⟨c + 1, by omega, by omega, by go_num, hide (by rw [← unhide HCY]; exact hJ3), HP3⟩
              case measure => simp only [intOf]; omega
            · gi_wp2
              refine bodyPost_ret (results_none rfl _ _ _) rfl ?_
              exact ⟨⟨_, rfl⟩, .inr ⟨_, ⟨r, c + 1, unhide HCY⟩, hJx3⟩⟩
          · have hno : ¬ okP m N (r, c) := fun h => he (by rw [hsr, hsc]; exact h.2.2.2.2)
            have HCN : Hid (came m N r (c + 1) = came m N r c) := hide (came_no m N r c hno)
            have heb : ((sr : Int) == (sc : Int)) = false := by simp; omega
            have HN1 := hide hN1'
            clear hN1' hsr hsc he hno
            gi_wp2_with (first | (refine ⟨trivial, ?_⟩; gi_at_call 59; refine (callsIn_wide.2 C2).mono ?_; clear C2; rintro e w' ⟨rfl, rfl⟩) | (refine ⟨trivial, ?_⟩; gi_at_call 60; first | (refine (callsIn_wide.2 S1).mono ?_; clear S1; rintro e w' ⟨rfl, rfl⟩) | (refine (callsIn_wide.2 S2).mono ?_; clear S2; rintro e w' ⟨rfl, rfl⟩)))
            refine ⟨fun _ h => (by cases h), ?_⟩
            gi_wp2
            go_roundw
            case rel => exact ⟨c + 1, by omega, by omega, by go_num, hide (by rw [unhide HCN]; exact unhide HJ2), HP2⟩
            case measure => simp only [intOf]; omega
        · have hlec : ¬ (c : Int) ≤ (N1 : Int) := by omega
          have HJ3 : Hid (J (came m N (r + 1) 0) wq) := hide (by
            have e : c = 2 ^ N := by rw [← unhide HNN]; omega
            rw [came_row, ← e]; exact unhide HJ2)
          clear HJ2 hN1'
          gi_wp2_with (refine ⟨trivial, ?_⟩; gi_at_call 59; refine (callsIn_wide.2 C2).mono ?_; clear C2; rintro e w' ⟨rfl, rfl⟩)
          go_roundw
          case rel => exact ⟨r + 1, by omega, by omega, by go_num, HJ3, HP2⟩
          case measure => simp only [intOf]; omega
    · have hle : ¬ (r : Int) ≤ (M1 : Int) := by omega
      have HJ3 : Hid (J (allP m N) wr) := hide (by
        have e : r = 2 ^ m := by rw [← unhide HMM]; omega
        unfold allP; rw [← e]; exact unhide HJ)
      clear HJ hM1
      gi_wp2_with (refine ⟨trivial, ?_⟩; gi_at_call 59; refine (callsIn_wide.2 C1).mono ?_; clear C1; rintro e w' ⟨rfl, rfl⟩)
      go_end0
      exact ⟨⟨_, rfl⟩, .inl ⟨_, rfl, unhide HJ3⟩⟩
theorem parts_any (ao : Option Addr) (m cap : Nat) (w : World) :
    Calls Tryd.prog 32 #[.slice ao m cap] w fun e w' => e = .returned (.func (.func 58) #[] #[.pointer (some ⟨w.heap.size, 0, none⟩)]) ∧ w' = w.alloc (.cells #[.slice ao m cap] 22 (0, 0)) := by
  go_enter Tryd.func32, Tryd.ntmps32
  go_wp2
  go_ret
  exact ⟨rfl, rfl⟩
theorem prt_stops (n : Nat) (hn : 1 ≤ n) (Bs n₀ g off cap m N : Nat) (ro : Option Addr) (rc : Nat) (hm1 : 1 ≤ m) (hm6 : m ≤ 6) (hN6 : N ≤ 6) (w : World) (hB : Bs < w.heap.size) (hn1 : n₀ ≤ w.heap.size) (hP : isPa w n₀ Bs g off cap m N ro rc) :
    SeqStopsK Fence.wide n Tryd.prog 58 #[.pointer (some ⟨Bs, 0, none⟩)] (fun x : P6 m N => #[Value.int .u64 (x.1.1 : Int), Value.int .u64 (x.1.2 : Int)]) (KpB n₀ Bs) (fun ys => ys = allP m N) (fun pre => ∃ r c, pre = came m N r c) 4096 w :=
  fun l J Jx W hW _ _ hY h0 => prt1_in n hn l Bs n₀ g off cap m N ro rc hm1 hm6 hN6 J Jx hY W (hP.keep ⟨hW.mono hn1, hW.block Bs hB⟩) h0
end Go.Proofs.YthplbfjpmnpjmaaDoor
