/-
  package moves, walked: hasPiece, hasReached, hasLine.
  package rules, walked: Check.
-/
import Derived.Test.YtihojhfpepbjhaaGreatDoorJ4
import Derived.Test.YtihojhfpepbjhaaGreatDoorJ2
namespace Go.Proofs.YtihojhfpepbjhaaGreatDoor
open Go.RowKit
attribute [local go_sem ↓] Go.wp_at_zero Go.wp_at_succ

/-- Does a byte stand in a text? -/
def hasN (l : List UInt8) (n : Nat) : Bool := decide (0 ≤ Lib.indexByte l n.toUInt8)
theorem toB (n : Nat) : ((n : Int)).toNat.toUInt8 = n.toUInt8 := rfl

set_option maxHeartbeats 1000000 in
theorem hasPiece_any (W H T : Int) (P c : Nat) (C A B : ByteArray) (w : World) (hP : P ≤ 1) (hc : c < 256) :
    Calls Tryz.prog 123 #[.agg #[.int .i64 W, .int .i64 H, .string C, .int .i64 T, .string A, .string B], .int .i64 (P : Int), .int .u8 (c : Int)] w fun e w' => e = .returned (.bool (hasN C.data.toList (letN P c))) ∧ Below w.heap.size w w' := by
  have HL := hide (fun u => LetterOf_any P c u hP hc)
  have HI := hide (fun u => Tryz.strings_IndexByte C (letN P c : Nat) u)
  obtain ⟨R, hR⟩ : ∃ R, R = hasN C.data.toList (letN P c) := ⟨_, rfl⟩
  rw [← hR]
  unfold hasN at hR
  obtain ⟨I, hI⟩ : ∃ I, I = Lib.indexByte C.data.toList (letN P c).toUInt8 := ⟨_, rfl⟩
  simp only [toB, ← hI] at HI
  rw [← hI] at hR
  have HR := hide hR
  clear hR hI
  obtain ⟨L, hL⟩ : ∃ L, L = letN P c := ⟨_, rfl⟩
  rw [← hL] at HL HI
  clear hL
  obtain ⟨wa, hwa⟩ : ∃ wa, wa = w.alloc (.cells #[.int .i64 W, .int .i64 H, .string C, .int .i64 T, .string A, .string B] 24 (0, 0)) := ⟨_, rfl⟩
  have hba : Below w.heap.size w wa := by rw [hwa]; exact (Below.refl _ _).alloc (Nat.le_refl _) _
  have hpb : isPb wa w.heap.size W H T C A B := by rw [hwa]; exact heap_alloc_new w _
  obtain ⟨-, -, p2, -⟩ := hpb.all
  have HBA := hide hba
  clear hba hpb
  go_enter Tryz.func123, Tryz.ntmps123
  go_wp2_with fail
  rw [← hwa]
  clear hwa
  go_quiet (first
    | (go_at_call 158; exact Calls.quiet_of_same (unhide HL _))
    | (go_at_call 43; exact Calls.quiet_of_same (unhide HI _)))
  go_wp2
  go_ret
  exact ⟨ret_bool (unhide HR).symm, ⟨(unhide HBA).os, (unhide HBA).tape, (unhide HBA).output, (unhide HBA).size, (unhide HBA).block⟩⟩

set_option maxHeartbeats 2000000 in
set_option maxRecDepth 100000 in
theorem hasReached_any (W H : Nat) (T : Int) (P c : Nat) (C A B : ByteArray) (w : World) (hP : P ≤ 1) (hc : c < 256) (hW : 1 ≤ W ∧ W ≤ 8) (hH : 1 ≤ H ∧ H ≤ 8) (hC : C.size = W * H) :
    Calls Tryz.prog 126 #[.agg #[.int .i64 (W : Int), .int .i64 (H : Int), .string C, .int .i64 T, .string A, .string B], .int .i64 (P : Int), .int .u8 (c : Int)] w fun e w' => e = .returned (.bool (hasN (if P = 1 then C.data.toList.take W else C.data.toList.drop (C.size - W)) (letN P c))) ∧ Below w.heap.size w w' := by
  have HL := hide (fun u => LetterOf_any P c u hP hc)
  have h64 : W * H ≤ 64 := Nat.mul_le_mul hW.2 hH.2
  have hWC : W ≤ C.size := by rw [hC]; exact Nat.le_mul_of_pos_right _ (by omega)
  have hsz : C.size ≤ 64 := by omega
  obtain ⟨L, hL⟩ : ∃ L, L = letN P c := ⟨_, rfl⟩
  rw [← hL] at HL ⊢
  obtain ⟨S, hS⟩ : ∃ S : ByteArray, S = if P = 1 then C.extract 0 W else C.extract (C.size - W) C.size := ⟨_, rfl⟩
  have hSd : S.data.toList = if P = 1 then C.data.toList.take W else C.data.toList.drop (C.size - W) := by
    rw [hS]
    split
    · rw [Lib.extract_data]; simp
    · rw [Lib.extract_data, List.take_of_length_le (by rw [List.length_drop, len_data]; omega)]
  rw [← hSd]
  have HI := hide (fun u => Tryz.strings_IndexByte S (L : Nat) u)
  obtain ⟨R, hR⟩ : ∃ R, R = hasN S.data.toList L := ⟨_, rfl⟩
  rw [← hR]
  unfold hasN at hR
  obtain ⟨I, hI⟩ : ∃ I, I = Lib.indexByte S.data.toList L.toUInt8 := ⟨_, rfl⟩
  simp only [toB, ← hI] at HI
  rw [← hI] at hR
  have HR := hide hR
  obtain ⟨wa, hwa⟩ : ∃ wa, wa = w.alloc (.cells #[.int .i64 (W : Int), .int .i64 (H : Int), .string C, .int .i64 T, .string A, .string B] 24 (0, 0)) := ⟨_, rfl⟩
  have hba : Below w.heap.size w wa := by rw [hwa]; exact (Below.refl _ _).alloc (Nat.le_refl _) _
  have hpb : isPb wa w.heap.size W H T C A B := by rw [hwa]; exact heap_alloc_new w _
  obtain ⟨p0, -, p2, -⟩ := hpb.all
  have HBA := hide hba
  obtain ⟨D, hD⟩ : ∃ D, D = C.size - W := ⟨_, rfl⟩
  have hDi : (C.size : Int) - (W : Int) = (D : Int) := by omega
  have hDl : D ≤ C.size := by omega
  have hDi2 : (D : Int) ≤ (C.size : Int) := by omega
  have hWi : (W : Int) ≤ (C.size : Int) := by omega
  rw [← hD] at hS
  clear hR hI hL hSd hba hpb hC hD
  rcases (by omega : P = 0 ∨ P = 1) with rfl | rfl
  · rw [if_neg (by omega)] at hS
    go_enter Tryz.func126, Tryz.ntmps126
    subst hS
    go_wp2_with fail
    refine (unhide HL _).mono ?_
    rintro e w2 ⟨rfl, rfl⟩
    rw [← hwa]
    clear hwa
    go_wp2_with fail
    refine (unhide HI _).mono ?_
    rintro e w3 ⟨rfl, rfl⟩
    go_wp2
    go_ret
    exact ⟨ret_bool (unhide HR).symm, unhide HBA⟩
  · rw [if_pos rfl] at hS
    go_enter Tryz.func126, Tryz.ntmps126
    subst hS
    go_wp2_with fail
    refine (unhide HL _).mono ?_
    rintro e w2 ⟨rfl, rfl⟩
    rw [← hwa]
    clear hwa
    go_wp2_with fail
    refine (unhide HI _).mono ?_
    rintro e w3 ⟨rfl, rfl⟩
    go_wp2
    go_ret
    exact ⟨ret_bool (unhide HR).symm, unhide HBA⟩
/-- Four directions. -/
def dirs4 : List (Int × Int) := [(1, 0), (0, 1), (1, 1), (-1, 1)]
/-- So many of a player's pieces side by side. -/
def lineFromB (W H P : Nat) (C : ByteArray) (n : Int) (from_ : Nat) : Bool := ownB P (cellN C from_) && dirs4.any fun d => decide (n ≤ (lineN W H P C from_ d.1 d.2 : Nat))
def hasLineB (W H P : Nat) (C : ByteArray) (n : Int) : Bool := (List.range (W * H)).any (lineFromB W H P C n)

set_option maxHeartbeats 2000000 in
set_option maxRecDepth 100000 in
theorem hasLine_any (W H P : Nat) (T n : Int) (C A B : ByteArray) (w : World) (hP : P ≤ 1) (hW : 1 ≤ W ∧ W ≤ 8) (hH : 1 ≤ H ∧ H ≤ 8) (hC : C.size = W * H) :
    Calls Tryz.prog 125 #[.agg #[.int .i64 (W : Int), .int .i64 (H : Int), .string C, .int .i64 T, .string A, .string B], .int .i64 (P : Int), .int .i64 n] w fun e w' => e = .returned (.bool (hasLineB W H P C n)) ∧ Below w.heap.size w w' := by
  have h64 : W * H ≤ 64 := Nat.mul_le_mul hW.2 hH.2
  obtain ⟨M, hM⟩ : ∃ M, M = C.size := ⟨_, rfl⟩
  have hM64 : M ≤ 64 := by omega
  have HMW : Hid (M = W * H) := hide (hM.trans hC)
  have HC := hide hC
  have hMC : C.size = M := hM.symm
  clear hM hC
  obtain ⟨R, hR⟩ : ∃ R, R = hasLineB W H P C n := ⟨_, rfl⟩
  rw [← hR]
  have HR := hide hR
  obtain ⟨wa, hwa⟩ : ∃ wa, wa = w.alloc (.cells #[.int .i64 (W : Int), .int .i64 (H : Int), .string C, .int .i64 T, .string A, .string B] 24 (0, 0)) := ⟨_, rfl⟩
  have hba : Below w.heap.size w wa := by rw [hwa]; exact (Below.refl _ _).alloc (Nat.le_refl _) _
  have hpb : isPb wa w.heap.size W H T C A B := by rw [hwa]; exact heap_alloc_new w _
  have HBA := hide hba
  have HPB := hide hpb
  clear hR hba hpb
  go_enter Tryz.func125, Tryz.ntmps125
  go_wp2
  rw [← hwa]
  clear hwa
  go_loopw [13] (fun iv wr => ∃ i : Nat, iv = .int .i64 (i : Int) ∧ i ≤ M ∧ Hid ((List.range i).any (lineFromB W H P C n) = false) ∧ isPb wr w.heap.size W H T C A B ∧ Below w.heap.size w wr) (fun iv _ => M - (intOf iv).toNat)
  case atStart => exact ⟨0, rfl, Nat.zero_le _, hide rfl, unhide HPB, unhide HBA⟩
  case round =>
    obtain ⟨i, rfl, him, HNO, hpb, hb⟩ := hrel
    clear HPB HBA
    by_cases hlt : i < M
    · have hlti : (i : Int) < (M : Int) := by omega
      have hic : i < C.size := by omega
      obtain ⟨hcn, h256⟩ := cellN_at C i hic
      obtain ⟨N, hN⟩ : ∃ N, N = cellN C i := ⟨_, rfl⟩
      rw [← hN] at hcn h256
      have HO := hide (fun u => IsOf_any P N u hP h256)
      obtain ⟨b, hbb⟩ : ∃ b, ownB P N = b := ⟨_, rfl⟩
      rw [hbb] at HO
      obtain ⟨-, -, p2, -⟩ := hpb.all
      have HPB := hide hpb
      have HBW := hide hb
      have hsr := hb.size
      have hlf : lineFromB W H P C n i = (b && dirs4.any fun d => decide (n ≤ (lineN W H P C i d.1 d.2 : Nat))) := by unfold lineFromB; rw [← hN, hbb]
      have HLF := hide hlf
      clear hpb hb hbb hN hlf
      cases b with
      | false =>
        have HNO2 : Hid ((List.range (i + 1)).any (lineFromB W H P C n) = false) := hide (by rw [List.range_succ, List.any_append, unhide HNO]; simp [unhide HLF])
        go_wp2_with fail
        refine (unhide HO _).mono ?_
        rintro e w2 ⟨rfl, rfl⟩
        go_wp2
        go_roundw
        case rel => exact ⟨i + 1, by go_num, by omega, HNO2, unhide HPB, unhide HBW⟩
        case measure => simp only [intOf]; omega
      | true =>
        go_wp2_with fail
        refine (unhide HO _).mono ?_
        rintro e w2 ⟨rfl, rfl⟩
        go_wp2
        go_loopw [28] (fun jv wr => ∃ j : Nat, jv = .int .i64 (j : Int) ∧ j ≤ 4 ∧ Hid (((dirs4.take j).any fun d => decide (n ≤ (lineN W H P C i d.1 d.2 : Nat))) = false) ∧ isPb wr w.heap.size W H T C A B ∧ Below w.heap.size w wr) (fun jv _ => 4 - (intOf jv).toNat)
        case atStart => exact ⟨0, rfl, by omega, hide rfl, unhide HPB, unhide HBW⟩
        case round =>
          obtain ⟨j, rfl, hj4, HNJ, hpb, hb⟩ := hrel
          clear HPB HBW p2
          by_cases hjlt : j < 4
          · have hji : (j : Int) < 4 := by omega
            obtain ⟨dx, dy, hdj⟩ : ∃ dx dy, dirs4[j]? = some (dx, dy) := by
              rcases (by omega : j = 0 ∨ j = 1 ∨ j = 2 ∨ j = 3) with rfl | rfl | rfl | rfl <;> exact ⟨_, _, rfl⟩
            have hix : ∀ u, (Instr.index 207 (.agg #[.int .i64 1, .int .i64 0, .int .i64 0, .int .i64 1, .int .i64 1, .int .i64 1, .int .i64 (-1), .int .i64 1]) (.int .i64 (j : Int))).run Tryz.prog u = .ok (.agg #[.int .i64 dx, .int .i64 dy]) u := by
              intro u
              rcases (by omega : j = 0 ∨ j = 1 ∨ j = 2 ∨ j = 3) with rfl | rfl | rfl | rfl <;> (simp [dirs4] at hdj; obtain ⟨rfl, rfl⟩ := hdj; kernel_rfl)
            have hdb : -8 ≤ dx ∧ dx ≤ 8 ∧ -8 ≤ dy ∧ dy ≤ 8 ∧ ¬ (dx = 0 ∧ dy = 0) := by
              rcases (by omega : j = 0 ∨ j = 1 ∨ j = 2 ∨ j = 3) with rfl | rfl | rfl | rfl <;> (simp [dirs4] at hdj; obtain ⟨rfl, rfl⟩ := hdj; decide)
            have htk : (dirs4.take (j + 1)) = dirs4.take j ++ [(dx, dy)] := by rw [List.take_add_one, hdj]; rfl
            obtain ⟨X, hX⟩ : ∃ X, X = lineN W H P C i dx dy := ⟨_, rfl⟩
            have HLN := hide (fun u => lineFrom_any W H i P T C A B dx dy u hP hW hH (unhide HC) (by rw [← unhide HMW]; exact hlt) hdb)
            rw [← hX] at HLN
            obtain ⟨q0, q1, q2, q3, q4, q5⟩ := hpb.all
            have r0 : ∀ o, (wr.alloc o).cell? ⟨w.heap.size, 0, none⟩ = some (.int .i64 (W : Int)) := fun o => (((Below.refl wr.heap.size wr).alloc (Nat.le_refl _) o).cell (p := ⟨w.heap.size, 0, none⟩) hpb.lt).trans q0
            have r1 : ∀ o, (wr.alloc o).cell? ⟨w.heap.size, 1, none⟩ = some (.int .i64 (H : Int)) := fun o => (((Below.refl wr.heap.size wr).alloc (Nat.le_refl _) o).cell (p := ⟨w.heap.size, 1, none⟩) hpb.lt).trans q1
            have r2 : ∀ o, (wr.alloc o).cell? ⟨w.heap.size, 2, none⟩ = some (.string C) := fun o => (((Below.refl wr.heap.size wr).alloc (Nat.le_refl _) o).cell (p := ⟨w.heap.size, 2, none⟩) hpb.lt).trans q2
            have r3 : ∀ o, (wr.alloc o).cell? ⟨w.heap.size, 3, none⟩ = some (.int .i64 T) := fun o => (((Below.refl wr.heap.size wr).alloc (Nat.le_refl _) o).cell (p := ⟨w.heap.size, 3, none⟩) hpb.lt).trans q3
            have r4 : ∀ o, (wr.alloc o).cell? ⟨w.heap.size, 4, none⟩ = some (.string A) := fun o => (((Below.refl wr.heap.size wr).alloc (Nat.le_refl _) o).cell (p := ⟨w.heap.size, 4, none⟩) hpb.lt).trans q4
            have r5 : ∀ o, (wr.alloc o).cell? ⟨w.heap.size, 5, none⟩ = some (.string B) := fun o => (((Below.refl wr.heap.size wr).alloc (Nat.le_refl _) o).cell (p := ⟨w.heap.size, 5, none⟩) hpb.lt).trans q5
            have hal : ∀ o, Below wr.heap.size wr (wr.alloc o) := fun o => (Below.refl _ _).alloc (Nat.le_refl _) _
            have HAL := hide hal
            have HPB := hide hpb
            have HBW := hide hb
            have hlt2 := hpb.lt
            have HX := hide hX
            have HTK := hide htk
            clear hdj hdb htk hX hpb hb hal q0 q1 q2 q3 q4 q5
            go_wp2_with fail
            refine (unhide HLN _).mono ?_
            rintro e w4 ⟨rfl, hb4⟩
            have hpb4 : isPb w4 w.heap.size W H T C A B := ((unhide HPB).below (unhide HAL _) hlt2).below hb4 (by simp; omega)
            have hb4w : Below w.heap.size w w4 := ((unhide HBW).trans ((unhide HAL _).mono (unhide HBW).size)).trans (hb4.mono (by have := (unhide HBW).size; simp; omega))
            have HB4 := hide hb4w
            have HPB4 := hide hpb4
            clear hb4 hpb4 hb4w r0 r1 r2 r3 r4 r5
            by_cases hge : n ≤ (X : Int)
            · have hRt : R = true := by
                rw [unhide HR]
                unfold hasLineB
                rw [List.any_eq_true]
                refine ⟨i, by rw [List.mem_range, ← unhide HMW]; exact hlt, ?_⟩
                rw [unhide HLF, Bool.true_and, List.any_eq_true]
                refine ⟨(dx, dy), ?_, ?_⟩
                · have : (dx, dy) ∈ dirs4.take (j + 1) := by rw [unhide HTK]; simp
                  exact List.mem_of_mem_take this
                · simp only [← unhide HX]; exact decide_eq_true hge
              have HRT := hide hRt
              clear hRt
              go_wp2
              go_ret
              exact ⟨by rw [unhide HRT]; rfl, unhide HB4⟩
            · have HNJ2 : Hid (((dirs4.take (j + 1)).any fun d => decide (n ≤ (lineN W H P C i d.1 d.2 : Nat))) = false) := by
                refine hide ?_
                rw [unhide HTK, List.any_append, unhide HNJ]
                simp only [List.any_cons, List.any_nil, Bool.or_false, Bool.false_or, ← unhide HX]
                exact decide_eq_false hge
              go_wp2
              go_roundw
              case rel => exact ⟨j + 1, by go_num, by omega, HNJ2, unhide HPB4, unhide HB4⟩
              case measure => simp only [intOf]; omega
          · have hji : ¬ (j : Int) < 4 := by omega
            have HNO2 : Hid ((List.range (i + 1)).any (lineFromB W H P C n) = false) := by
              refine hide ?_
              have h4 := unhide HNJ
              rw [show j = 4 by omega] at h4
              rw [List.range_succ, List.any_append, unhide HNO]
              simp only [List.any_cons, List.any_nil, Bool.or_false, Bool.false_or]
              rw [unhide HLF, Bool.true_and]
              exact h4
            have HPB := hide hpb
            have HBW := hide hb
            clear hpb hb
            go_wp2
            go_roundw
            case rel => exact ⟨i + 1, by go_num, by omega, HNO2, unhide HPB, unhide HBW⟩
            case measure => simp only [intOf]; omega
    · have hlti : ¬ (i : Int) < (M : Int) := by omega
      have hRf : R = false := by rw [unhide HR]; unfold hasLineB; rw [← unhide HMW, show M = i by omega]; exact unhide HNO
      have HRF := hide hRf
      have HBW := hide hb
      clear hRf hpb hb
      go_wp2
      go_ret
      exact ⟨by rw [unhide HRF]; rfl, unhide HBW⟩
end Go.Proofs.YtihojhfpepbjhaaGreatDoor

namespace Go.Proofs.YtihojhfpepbjhaaGreatDoor
open Go.RowKit
attribute [local go_sem ↓] Go.wp_at_zero Go.wp_at_succ

/-- In block g lie rules. -/
def isRu (w : World) (g : Nat) (v0 v1 v2 v3 v4 v5 v6 v7 v8 v9 v10 v11 v12 : Value) : Prop := w.heap[g]? = some (.cells #[v0, v1, v2, v3, v4, v5, v6, v7, v8, v9, v10, v11, v12] 27 (0, 0))
theorem isRu.cells {w : World} {g : Nat} {v0 v1 v2 v3 v4 v5 v6 v7 v8 v9 v10 v11 v12 : Value} (h : isRu w g v0 v1 v2 v3 v4 v5 v6 v7 v8 v9 v10 v11 v12) :
    w.cell? ⟨g, 0, none⟩ = some v0 ∧ w.cell? ⟨g, 1, none⟩ = some v1 ∧ w.cell? ⟨g, 2, none⟩ = some v2 ∧ w.cell? ⟨g, 3, none⟩ = some v3 ∧ w.cell? ⟨g, 4, none⟩ = some v4 ∧ w.cell? ⟨g, 5, none⟩ = some v5 ∧ w.cell? ⟨g, 6, none⟩ = some v6 ∧ w.cell? ⟨g, 7, none⟩ = some v7 ∧ w.cell? ⟨g, 8, none⟩ = some v8 ∧ w.cell? ⟨g, 9, none⟩ = some v9 ∧ w.cell? ⟨g, 10, none⟩ = some v10 ∧ w.cell? ⟨g, 11, none⟩ = some v11 ∧ w.cell? ⟨g, 12, none⟩ = some v12 := by
  refine ⟨?_, ?_, ?_, ?_, ?_, ?_, ?_, ?_, ?_, ?_, ?_, ?_, ?_⟩ <;> exact cell_of_row _ _ _ _ _ _ h
theorem isRu.lt {w : World} {g : Nat} {v0 v1 v2 v3 v4 v5 v6 v7 v8 v9 v10 v11 v12 : Value} (h : isRu w g v0 v1 v2 v3 v4 v5 v6 v7 v8 v9 v10 v11 v12) : g < w.heap.size := by
  rcases Nat.lt_or_ge g w.heap.size with hlt | hge
  · exact hlt
  · unfold isRu at h; rw [Array.getElem?_eq_none hge] at h; cases h
theorem isRu.below {w w1 : World} {g : Nat} {v0 v1 v2 v3 v4 v5 v6 v7 v8 v9 v10 v11 v12 : Value} (h : isRu w g v0 v1 v2 v3 v4 v5 v6 v7 v8 v9 v10 v11 v12) {B : Nat} (hb : Below B w w1) (hB : g < B) : isRu w1 g v0 v1 v2 v3 v4 v5 v6 v7 v8 v9 v10 v11 v12 := by
  unfold isRu; rw [hb.block g hB]; exact h
theorem isRu.fresh {w w1 : World} {v0 v1 v2 v3 v4 v5 v6 v7 v8 v9 v10 v11 v12 : Value} (hb : Below (w.alloc (.cells #[v0, v1, v2, v3, v4, v5, v6, v7, v8, v9, v10, v11, v12] 27)).heap.size (w.alloc (.cells #[v0, v1, v2, v3, v4, v5, v6, v7, v8, v9, v10, v11, v12] 27)) w1) : isRu w1 w.heap.size v0 v1 v2 v3 v4 v5 v6 v7 v8 v9 v10 v11 v12 :=
  isRu.below (show isRu (w.alloc (.cells #[v0, v1, v2, v3, v4, v5, v6, v7, v8, v9, v10, v11, v12] 27)) w.heap.size v0 v1 v2 v3 v4 v5 v6 v7 v8 v9 v10 v11 v12 from heap_alloc_new w _) hb (by simp)
theorem bel_on {B : Nat} {w0 w w1 : World} {o : Obj} (h : Below B w0 w) (hB : B ≤ w.heap.size) (hb : Below (w.alloc o).heap.size (w.alloc o) w1) : Below B w0 w1 :=
  (h.alloc hB o).trans (hb.mono (by simp; omega))

/-- P6: are they rules? -/
def rulesB (W H : Int) (C : List UInt8) (T : Int) (A B : List UInt8) (ps : List Pc) (lo : Nat) (li : Int) (re : Nat) (pl : Int) : Bool :=
  psB ps && posB W H C T A B && allL (lettersS ps) C A B && hasZ (lettersS ps) lo && hasZ (lettersS ps) re && (decide (li = 0) || inB li 2 8) && inB pl 1 1000

theorem bitsP26 : ∀ (ps : List Pc) (S : Nat), S < 67108864 → okP S ps = true → bitsP S ps < 67108864
  | [], S, h, _ => h
  | p :: t, S, h, ho => by
    rw [okP, Bool.and_eq_true, Bool.and_eq_true] at ho
    have hc : capB (p.l : Int) = true := by
      have := ho.1.1
      simp only [pcB, Bool.and_eq_true] at this
      exact this.1.1.1
    simp only [capB, Bool.and_eq_true, decide_eq_true_eq] at hc
    exact bitsP26 t _ (or26 S (p.l - 65) h (by omega)) ho.2
theorem lettersS26 (ps : List Pc) : lettersS ps < 67108864 := by
  unfold lettersS
  split
  · rename_i h
    exact bitsP26 ps 0 (by omega) (by simp only [psB, Bool.and_eq_true] at h; exact h.2)
  · omega

set_option maxHeartbeats 2000000 in
set_option maxRecDepth 100000 in
theorem rCheck_any (W H T : Int) (C A B : ByteArray) (ao : Option Addr) (cap : Nat) (ps : List Pc) (dr st : Bool) (lo re : Nat) (li pl : Int) (w : World) (hC : C.size ≤ maxLen) (hA : A.size ≤ maxLen) (hB : B.size ≤ maxLen) (hlo : lo < 256) (hre : re < 256) (h : isPcs w ao cap ps) :
    Calls Tryz.prog 25 #[.agg #[.int .i64 W, .int .i64 H, .string C, .int .i64 T, .string A, .string B, .slice ao ps.length cap, .bool dr, .int .u8 (lo : Int), .int .i64 li, .int .u8 (re : Int), .bool st, .int .i64 pl]] w fun e w' => e = .returned (.int .i64 (errI (rulesB W H C.data.toList T A.data.toList B.data.toList ps lo li re pl))) ∧ Below w.heap.size w w' := by
  obtain ⟨r, hr⟩ : ∃ r, r = rulesB W H C.data.toList T A.data.toList B.data.toList ps lo li re pl := ⟨_, rfl⟩
  rw [← hr]
  have hba : Below w.heap.size w (w.alloc (.cells #[.int .i64 W, .int .i64 H, .string C, .int .i64 T, .string A, .string B, .slice ao ps.length cap, .bool dr, .int .u8 (lo : Int), .int .i64 li, .int .u8 (re : Int), .bool st, .int .i64 pl] 27 (0, 0))) := (Below.refl _ w).alloc (Nat.le_refl _) _
  have HLET := hide (lettersOf_any ao cap ps _ (h.below hba (Nat.le_refl _)))
  have hS26 := lettersS26 ps
  obtain ⟨S, hS⟩ : ∃ S, S = lettersS ps := ⟨_, rfl⟩
  rw [← hS] at HLET hS26
  unfold rulesB at hr
  rw [← hS] at hr
  have HR := hide hr
  clear hr hS h hba
  go_enter Tryz.func25, Tryz.ntmps25
  go_wp2_with fail
  refine (unhide HLET).mono ?_
  rintro e w1 ⟨rfl, hb1⟩
  have bp1 := isRu.fresh hb1
  have hw1 : Below w.heap.size w w1 := bel_on (Below.refl _ _) (Nat.le_refl _) hb1
  clear hb1 HLET
  obtain ⟨d0, d1, d2, d3, d4, d5, d6, d7, d8, d9, d10, d11, d12⟩ := bp1.cells
  cases hps : psB ps with
  | false =>
    have hf : r = false := by rw [unhide HR, hps]; rfl
    subst hf
    go_wp2
    go_ret
    exact ⟨rfl, hw1⟩
  | true =>
  have hR1 := unhide HR
  rw [hps, Bool.true_and] at hR1
  have HR1 := hide hR1
  clear hR1 HR
  go_wp2_with fail
  refine (Check_any _ _ _ _ _ _ _ hC hA hB).mono ?_
  rintro e w2 ⟨rfl, hb2⟩
  have bp2 := bp1.below hb2 bp1.lt
  have hw2 := hw1.trans (hb2.mono hw1.size)
  clear hb2 bp1 hw1 d0 d1 d2 d3 d4 d5 d6 d7 d8 d9 d10 d11 d12
  obtain ⟨d0, d1, d2, d3, d4, d5, d6, d7, d8, d9, d10, d11, d12⟩ := bp2.cells
  cases hpos : posB W H C.data.toList T A.data.toList B.data.toList with
  | false =>
    have hf : r = false := by rw [unhide HR1, hpos]; rfl
    subst hf
    rw [show errI false = 1 from rfl]
    go_wp2
    go_ret
    exact ⟨rfl, hw2⟩
  | true =>
  have hR2 := unhide HR1
  rw [hpos, Bool.true_and] at hR2
  have HR2 := hide hR2
  rw [show errI true = 0 from rfl]
  clear hR2 HR1 hpos
  go_wp2_with fail
  refine (haveAllOf_any S _ _ _ _ _ _ _ hS26 hC hA hB).mono ?_
  rintro e w3 ⟨rfl, hb3⟩
  have bp3 := bp2.below hb3 bp2.lt
  have hw3 := hw2.trans (hb3.mono hw2.size)
  clear hb3 bp2 hw2 d0 d1 d2 d3 d4 d5 d6 d7 d8 d9 d10 d11 d12
  obtain ⟨d0, d1, d2, d3, d4, d5, d6, d7, d8, d9, d10, d11, d12⟩ := bp3.cells
  cases hal : allL S C.data.toList A.data.toList B.data.toList with
  | false =>
    have hf : r = false := by rw [unhide HR2, hal]; rfl
    subst hf
    go_wp2
    go_ret
    exact ⟨rfl, hw3⟩
  | true =>
  have hR3 := unhide HR2
  rw [hal, Bool.true_and] at hR3
  have HR3 := hide hR3
  clear hR3 HR2 hal
  go_wp2_with fail
  refine (haveIfAny_any S lo _ (by omega) hlo).mono ?_
  rintro e w4 ⟨rfl, rfl⟩
  cases hzl : hasZ S (lo : Int) with
  | false =>
    have hf : r = false := by rw [unhide HR3, hzl]; rfl
    subst hf
    go_wp2
    go_ret
    exact ⟨rfl, hw3⟩
  | true =>
  have hR4 := unhide HR3
  rw [hzl, Bool.true_and] at hR4
  have HR4 := hide hR4
  clear hR4 HR3 hzl
  go_wp2_with fail
  refine (haveIfAny_any S re _ (by omega) hre).mono ?_
  rintro e w5 ⟨rfl, rfl⟩
  cases hzr : hasZ S (re : Int) with
  | false =>
    have hf : r = false := by rw [unhide HR4, hzr]; rfl
    subst hf
    go_wp2
    go_ret
    exact ⟨rfl, hw3⟩
  | true =>
  have hR5 := unhide HR4
  rw [hzr, Bool.true_and] at hR5
  have HR5 := hide hR5
  clear hR5 HR4 hzr
  by_cases hl0 : li = 0
  · subst hl0
    have hR6 : r = inB pl 1 1000 := by rw [unhide HR5]; simp
    have HR6 := hide hR6
    clear hR6 HR5
    go_wp2_with fail
    refine (isWithin_any _ _ _ _).mono ?_
    rintro e w6 ⟨rfl, rfl⟩
    rw [← unhide HR6]
    cases r with
    | false =>
      go_wp2
      go_ret
      exact ⟨rfl, hw3⟩
    | true =>
      go_wp2
      go_ret
      exact ⟨rfl, hw3⟩
  · have hlb : (li != 0) = true := by simp [hl0]
    cases hil : inB li 2 8 with
    | false =>
      have hf : r = false := by rw [unhide HR5, hil]; simp [hl0]
      subst hf
      have HIL := hide hil
      clear hil
      go_wp2_with fail
      refine (isWithin_any _ _ _ _).mono ?_
      rintro e w6 ⟨rfl, rfl⟩
      rw [unhide HIL]
      go_wp2
      go_ret
      exact ⟨rfl, hw3⟩
    | true =>
      have hR6 : r = inB pl 1 1000 := by rw [unhide HR5, hil]; simp
      have HR6 := hide hR6
      have HIL := hide hil
      clear hR6 HR5 hil
      go_wp2_with fail
      refine (isWithin_any _ _ _ _).mono ?_
      rintro e w6 ⟨rfl, rfl⟩
      rw [unhide HIL]
      go_wp2_with fail
      refine (isWithin_any _ _ _ _).mono ?_
      rintro e w7 ⟨rfl, rfl⟩
      rw [← unhide HR6]
      cases r with
      | false =>
        go_wp2
        go_ret
        exact ⟨rfl, hw3⟩
      | true =>
        go_wp2
        go_ret
        exact ⟨rfl, hw3⟩
end Go.Proofs.YtihojhfpepbjhaaGreatDoor
