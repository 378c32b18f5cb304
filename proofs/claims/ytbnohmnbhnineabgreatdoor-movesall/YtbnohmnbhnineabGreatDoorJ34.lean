/-
  The reference's In.
  The law's Same, of the same moves.
-/
import Derived.Test.YtbnohmnbhnineabGreatDoorJ18
namespace Go.Proofs.YtbnohmnbhnineabGreatDoor
open Go.RowKit
attribute [local go_sem ↓] Go.wp_at_zero Go.wp_at_succ

set_option maxHeartbeats 4000000 in
set_option maxRecDepth 100000 in
theorem rIn_any (v : Value) (L : List Mv) (f t : Int) (c : Nat) (w : World) (h : isMvs w v L) :
    Calls Tryz.prog 14 #[v, .agg #[.int .i64 f, .int .i64 t, .int .u8 (c : Int)]] w fun e w' => e = .returned (.bool (inM f t c L)) ∧ Below w.heap.size w w' := by
  obtain ⟨ao, cap, rfl, hle, hmx, hcs⟩ := h
  obtain ⟨n, hn⟩ : ∃ n, n = L.length := ⟨_, rfl⟩
  rw [← hn] at hle ⊢
  unfold maxLen at hmx
  have hnx : n ≤ 9223372036854775807 := by omega
  have HN := hide hn
  have HCS := hide hcs
  clear hn hcs
  obtain ⟨R, hR⟩ : ∃ R, R = inM f t c L := ⟨_, rfl⟩
  rw [← hR]
  have HR := hide hR
  clear hR
  obtain ⟨wa, hwa⟩ : ∃ wa, wa = w.alloc (.cells #[.int .i64 f, .int .i64 t, .int .u8 (c : Int)] 29 (0, 0)) := ⟨_, rfl⟩
  have hba : Below w.heap.size w wa := by rw [hwa]; exact (Below.refl _ _).alloc (Nat.le_refl _) _
  have hbx : wa.heap[w.heap.size]? = some (.cells #[.int .i64 f, .int .i64 t, .int .u8 (c : Int)] 29 (0, 0)) := by rw [hwa]; exact heap_alloc_new w _
  have HBA := hide hba
  have HBX := hide hbx
  clear hba hbx
  go_enter Tryz.func14, Tryz.ntmps14
  go_wp2
  rw [← hwa]
  clear hwa
  go_loopw [5] (fun iv wr => ∃ k : Nat, iv = .int .i64 (k : Int) ∧ k ≤ n ∧ Hid (inM f t c (L.drop k) = R) ∧ wr.heap[w.heap.size]? = some (.cells #[.int .i64 f, .int .i64 t, .int .u8 (c : Int)] 29 (0, 0)) ∧ Below w.heap.size w wr) (fun iv _ => n - (intOf iv).toNat)
  case atStart => exact ⟨0, rfl, Nat.zero_le _, hide (unhide HR).symm, unhide HBX, unhide HBA⟩
  case round =>
    obtain ⟨k, rfl, hk, HK, hbx, hbw⟩ := hrel
    clear HBX HBA
    by_cases hlt : k < n
    · have hlti : (k : Int) < (n : Int) := by omega
      have hk0 : (0 : Int) ≤ (k : Int) := by omega
      have hkl : k < L.length := by rw [← unhide HN]; exact hlt
      obtain ⟨g, off, eg, hg, c0, c1, c2⟩ := unhide HCS k L[k] (List.getElem?_eq_getElem hkl)
      subst eg
      obtain ⟨m, hm⟩ : ∃ m, m = L[k] := ⟨_, rfl⟩
      rw [← hm] at c0 c1 c2
      have d0 := (hbw.cell (p := ⟨g, off + k * 3, none⟩) hg).trans c0
      have d1 := (hbw.cell (p := ⟨g, off + k * 3 + 1, none⟩) hg).trans c1
      have d2 := (hbw.cell (p := ⟨g, off + k * 3 + 2, none⟩) hg).trans c2
      have x0 : wr.cell? ⟨w.heap.size, 0, none⟩ = some (.int .i64 f) := cell_of_row _ _ _ _ _ _ hbx
      have x1 : wr.cell? ⟨w.heap.size, 1, none⟩ = some (.int .i64 t) := cell_of_row _ _ _ _ _ _ hbx
      have x2 : wr.cell? ⟨w.heap.size, 2, none⟩ = some (.int .u8 (c : Int)) := cell_of_row _ _ _ _ _ _ hbx
      have hst := unhide HK
      rw [List.drop_eq_getElem_cons hkl, ← hm] at hst
      unfold inM at hst
      rw [List.any_cons] at hst
      have he : ∀ u, (Op.equalIn 10000 29 (.agg #[.int .i64 m.f, .int .i64 (m.t : Int), .int .u8 (m.c : Int)]) (.agg #[.int .i64 f, .int .i64 t, .int .u8 (c : Int)])).run Tryz.prog u = .ok (eqM f t c m) u := fun u => by
        rw [eqMove]
        congr 1
        unfold eqM
        rw [Bool.eq_iff_iff]
        simp
        omega
      have HBX := hide hbx
      have HBW := hide hbw
      clear hm c0 c1 c2 hbx hbw
      generalize eqM f t c m = b at hst he
      cases b with
      | true =>
        rw [Bool.true_or] at hst
        have HST := hide hst
        clear hst
        go_wp2_with fail
        go_quiet (fail)
        go_wp2
        go_ret
        exact ⟨by rw [← unhide HST]; rfl, ⟨(unhide HBW).os, (unhide HBW).tape, (unhide HBW).output, (unhide HBW).size, (unhide HBW).block⟩⟩
      | false =>
        rw [Bool.false_or] at hst
        have HST := hide hst
        clear hst
        go_wp2_with fail
        go_quiet (fail)
        go_wp2
        go_roundw
        case rel => exact ⟨k + 1, by go_num, by omega, HST, unhide HBX, ⟨(unhide HBW).os, (unhide HBW).tape, (unhide HBW).output, (unhide HBW).size, (unhide HBW).block⟩⟩
        case measure => simp only [intOf]; omega
    · have hlti : ¬ (k : Int) < (n : Int) := by omega
      have hst := unhide HK
      rw [List.drop_eq_nil_of_le (by rw [← unhide HN]; omega)] at hst
      have HST := hide hst
      have HBW := hide hbw
      clear hst hbx hbw
      go_wp2
      go_ret
      exact ⟨by rw [← unhide HST]; rfl, unhide HBW⟩
end Go.Proofs.YtbnohmnbhnineabGreatDoor

namespace Go.Proofs.YtbnohmnbhnineabGreatDoor
open Go.RowKit
attribute [local go_sem ↓] Go.wp_at_zero Go.wp_at_succ

set_option maxHeartbeats 4000000 in
set_option maxRecDepth 100000 in
theorem SameM_same (va vb : Value) (L : List Mv) (w : World) (ha : isMvs w va L) (hb : isMvs w vb L) :
    Calls Tryz.prog 13 #[va, vb] w fun e w' => e = .returned (.bool true) ∧ Below w.heap.size w w' := by
  obtain ⟨ao, cap, rfl, hle, hmx, hcs⟩ := ha
  obtain ⟨bo, cap', rfl, hle', hmx', hcs'⟩ := hb
  obtain ⟨n, hn⟩ : ∃ n, n = L.length := ⟨_, rfl⟩
  rw [← hn] at hle hle' ⊢
  unfold maxLen at hmx hmx'
  have hnx : n ≤ 9223372036854775807 := by omega
  have HN := hide hn
  have HCS := hide hcs
  have HCS' := hide hcs'
  clear hn hcs hcs'
  go_enter Tryz.func13, Tryz.ntmps13
  go_wp2
  go_loopw [13] (fun iv wr => ∃ k : Nat, iv = .int .i64 (k : Int) ∧ k ≤ n ∧ Below w.heap.size w wr) (fun iv _ => n - (intOf iv).toNat)
  case atStart => exact ⟨0, rfl, Nat.zero_le _, Below.refl _ _⟩
  case round =>
    obtain ⟨k, rfl, hk, hbw⟩ := hrel
    by_cases hlt : k < n
    · have hlti : (k : Int) < (n : Int) := by omega
      have hk0 : (0 : Int) ≤ (k : Int) := by omega
      have hkl : k < L.length := by rw [← unhide HN]; exact hlt
      obtain ⟨g, off, eg, hg, c0, c1, c2⟩ := unhide HCS k L[k] (List.getElem?_eq_getElem hkl)
      obtain ⟨g', off', eg', hg', c0', c1', c2'⟩ := unhide HCS' k L[k] (List.getElem?_eq_getElem hkl)
      subst eg
      subst eg'
      obtain ⟨m, hm⟩ : ∃ m, m = L[k] := ⟨_, rfl⟩
      rw [← hm] at c0 c1 c2 c0' c1' c2'
      have d0 := (hbw.cell (p := ⟨g, off + k * 3, none⟩) hg).trans c0
      have d1 := (hbw.cell (p := ⟨g, off + k * 3 + 1, none⟩) hg).trans c1
      have d2 := (hbw.cell (p := ⟨g, off + k * 3 + 2, none⟩) hg).trans c2
      have d0' := (hbw.cell (p := ⟨g', off' + k * 3, none⟩) hg').trans c0'
      have d1' := (hbw.cell (p := ⟨g', off' + k * 3 + 1, none⟩) hg').trans c1'
      have d2' := (hbw.cell (p := ⟨g', off' + k * 3 + 2, none⟩) hg').trans c2'
      have he : ∀ u, (Op.equalIn 10000 29 (.agg #[.int .i64 m.f, .int .i64 (m.t : Int), .int .u8 (m.c : Int)]) (.agg #[.int .i64 m.f, .int .i64 (m.t : Int), .int .u8 (m.c : Int)])).run Tryz.prog u = .ok true u := fun u => by rw [eqMove]; simp
      have HBW := hide hbw
      clear hm c0 c1 c2 c0' c1' c2' hbw
      go_wp2_with fail
      go_quiet (fail)
      go_wp2
      go_roundw
      case rel => exact ⟨k + 1, by go_num, by omega, ⟨(unhide HBW).os, (unhide HBW).tape, (unhide HBW).output, (unhide HBW).size, (unhide HBW).block⟩⟩
      case measure => simp only [intOf]; omega
    · have hlti : ¬ (k : Int) < (n : Int) := by omega
      have HBW := hide hbw
      clear hbw
      go_wp2
      go_ret
      exact ⟨rfl, unhide HBW⟩
end Go.Proofs.YtbnohmnbhnineabGreatDoor
