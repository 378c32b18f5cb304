/-
  slices.Index, slices.Contains of moves, walked.
  package moves, walked: check.
  slices.Sort of at most twelve bytes, walked.
  slices.Sort of at most twelve bytes, walked: pdqsortOrdered, Sort.
-/
import Derived.Test.YtbijadnekoeofaaGreatDoorJ14
import Derived.Test.YtbijadnekoeofaaGreatDoorJ4
import Derived.BigQuiet
import Derived.Test.YtbijadnekoeofaaGreatDoorJ5
import Derived.Test.YtbijadnekoeofaaGreatDoorJ9
namespace Go.Proofs.YtbijadnekoeofaaGreatDoor
open Go.RowKit
attribute [local go_sem ↓] Go.wp_at_zero Go.wp_at_succ

theorem mvals_at : ∀ (L : List Mv) (i : Nat) (m : Mv), L[i]? = some m → (mvals L)[i * 3]? = some (.int .i64 m.f) ∧ (mvals L)[i * 3 + 1]? = some (.int .i64 (m.t : Int)) ∧ (mvals L)[i * 3 + 2]? = some (.int .u8 (m.c : Int))
  | [], i, x, h => by simp at h
  | y :: L, 0, x, h => by simp at h; subst h; simp [mvals]
  | y :: L, i + 1, x, h => by
    have := mvals_at L i x (by simpa using h)
    rw [show mvals (y :: L) = [.int .i64 y.f, .int .i64 (y.t : Int), .int .u8 (y.c : Int)] ++ mvals L from rfl]
    rw [show (i + 1) * 3 = 3 + i * 3 by omega, show 3 + i * 3 + 1 = 3 + (i * 3 + 1) by omega, show 3 + i * 3 + 2 = 3 + (i * 3 + 2) by omega]
    rw [List.getElem?_append_right (by simp), List.getElem?_append_right (by simp), List.getElem?_append_right (by simp)]
    simpa using this
/-- A slice of moves in memory. -/
def isMvs (w : World) (v : Value) (L : List Mv) : Prop := ∃ ao cap, v = .slice ao L.length cap ∧ L.length ≤ cap ∧ cap ≤ maxLen ∧ ∀ i m, L[i]? = some m → ∃ g off, ao = some ⟨g, off, none⟩ ∧ g < w.heap.size ∧ w.cell? ⟨g, off + i * 3, none⟩ = some (.int .i64 m.f) ∧ w.cell? ⟨g, off + i * 3 + 1, none⟩ = some (.int .i64 (m.t : Int)) ∧ w.cell? ⟨g, off + i * 3 + 2, none⟩ = some (.int .u8 (m.c : Int))
theorem isMvs.of {w : World} {base : Nat} {v : Value} {L : List Mv} (h : w.ownsRow base 45 3 v L.length (mvals L)) : isMvs w v L := by
  have h0 := h
  rcases h.2 with ⟨h1, h2⟩ | ⟨g, cap, cur, h1, hb, hg, hn, hc, -⟩
  · exact ⟨none, 0, by rw [h1, h2], by omega, by unfold maxLen; omega, fun i m hi => by
      have := (List.getElem?_eq_some_iff.1 hi).1
      omega⟩
  · refine ⟨some ⟨g, 0, none⟩, cap, h1, hn, hc, fun i m hi => ⟨g, 0, rfl, (Array.getElem?_eq_some_iff.1 hg).1, ?_⟩⟩
    have hlt := (List.getElem?_eq_some_iff.1 hi).1
    obtain ⟨a0, a1, a2⟩ := mvals_at L i m hi
    rw [h1] at h0
    rw [Nat.zero_add]
    exact ⟨by rw [h0.cellAt _ (by omega)]; exact a0, by rw [h0.cellAt _ (by omega)]; exact a1, by rw [h0.cellAt _ (by omega)]; exact a2⟩
theorem isMvs.below {w w' : World} {v : Value} {L : List Mv} (h : isMvs w v L) (hb : Below w.heap.size w w') : isMvs w' v L := by
  obtain ⟨ao, cap, h1, h2, h3, h4⟩ := h
  refine ⟨ao, cap, h1, h2, h3, fun i m hi => ?_⟩
  obtain ⟨g, off, e, hg, c0, c1, c2⟩ := h4 i m hi
  have := hb.size
  exact ⟨g, off, e, by omega, (hb.cell (by dsimp only; omega)).trans c0, (hb.cell (by dsimp only; omega)).trans c1, (hb.cell (by dsimp only; omega)).trans c2⟩
/-- Is it that move? -/
def eqM (f t : Int) (c : Nat) (m : Mv) : Bool := decide (f = m.f) && decide (t = (m.t : Int)) && decide (c = m.c)
/-- Where it is first. -/
def idxM (f t : Int) (c : Nat) : Nat → List Mv → Int
  | _, [] => -1
  | k, m :: L => if eqM f t c m then (k : Int) else idxM f t c (k + 1) L

theorem eqMove (w : World) (f t f' t' c c' : Int) :
    (Op.equalIn 10000 45 (.agg #[.int .i64 f, .int .i64 t, .int .u8 c]) (.agg #[.int .i64 f', .int .i64 t', .int .u8 c'])).run Tryz.prog w = .ok (f == f' && t == t' && c == c') w := by
  rw [run_equalIn_agg w 9999 45 _ _ (by kernel_rfl) (by kernel_rfl)]
  unfold Program.fieldsOf
  rw [Tryz.underlying45]
  simp [go_sem]
  by_cases h1 : f = f' <;> by_cases h2 : t = t' <;> by_cases h3 : c = c' <;> simp [h1, h2, h3]

set_option maxHeartbeats 4000000 in
set_option maxRecDepth 100000 in
theorem IndexM_any (v : Value) (L : List Mv) (f t : Int) (c : Nat) (w : World) (h : isMvs w v L) :
    Calls Tryz.prog 98 #[v, .agg #[.int .i64 f, .int .i64 t, .int .u8 (c : Int)]] w fun e w' => e = .returned (.int .i64 (idxM f t c 0 L)) ∧ Below w.heap.size w w' := by
  obtain ⟨ao, cap, rfl, hle, hmx, hcs⟩ := h
  obtain ⟨n, hn⟩ : ∃ n, n = L.length := ⟨_, rfl⟩
  rw [← hn] at hle ⊢
  unfold maxLen at hmx
  have hnx : n ≤ 9223372036854775807 := by omega
  have HN := hide hn
  have HCS := hide hcs
  clear hn hcs
  obtain ⟨R, hR⟩ : ∃ R, R = idxM f t c 0 L := ⟨_, rfl⟩
  rw [← hR]
  have HR := hide hR
  clear hR
  obtain ⟨wa, hwa⟩ : ∃ wa, wa = w.alloc (.cells #[.int .i64 f, .int .i64 t, .int .u8 (c : Int)] 45 (0, 0)) := ⟨_, rfl⟩
  have hba : Below w.heap.size w wa := by rw [hwa]; exact (Below.refl _ _).alloc (Nat.le_refl _) _
  have hbx : wa.heap[w.heap.size]? = some (.cells #[.int .i64 f, .int .i64 t, .int .u8 (c : Int)] 45 (0, 0)) := by rw [hwa]; exact heap_alloc_new w _
  have HBA := hide hba
  have HBX := hide hbx
  clear hba hbx
  go_enter Tryz.func98, Tryz.ntmps98
  go_wp2
  rw [← hwa]
  clear hwa
  go_loopw [8] (fun iv wr => ∃ k : Nat, iv = .int .i64 (k : Int) ∧ k ≤ n ∧ Hid (idxM f t c k (L.drop k) = R) ∧ wr.heap[w.heap.size]? = some (.cells #[.int .i64 f, .int .i64 t, .int .u8 (c : Int)] 45 (0, 0)) ∧ Below w.heap.size w wr) (fun iv _ => n - (intOf iv).toNat)
  case atStart => exact ⟨0, rfl, Nat.zero_le _, hide (unhide HR).symm, unhide HBX, unhide HBA⟩
  case round =>
    obtain ⟨k, rfl, hk, HK, hbx, hbw⟩ := hrel
    clear HBX HBA
    by_cases hlt : k < n
    · have hlti : (k : Int) < (n : Int) := by omega
      have hk0 : (0 : Int) ≤ (k : Int) := by omega
      have hkl : k < L.length := by rw [← unhide HN]; exact hlt
      obtain ⟨g, off, eg, hg, c0, c1, c2⟩ := unhide HCS k L[k] (List.getElem?_eq_getElem hkl)
      subst eg
      obtain ⟨m, hm⟩ : ∃ m, m = L[k] := ⟨_, rfl⟩
      rw [← hm] at c0 c1 c2
      have d0 := (hbw.cell (p := ⟨g, off + k * 3, none⟩) hg).trans c0
      have d1 := (hbw.cell (p := ⟨g, off + k * 3 + 1, none⟩) hg).trans c1
      have d2 := (hbw.cell (p := ⟨g, off + k * 3 + 2, none⟩) hg).trans c2
      have x0 : wr.cell? ⟨w.heap.size, 0, none⟩ = some (.int .i64 f) := cell_of_row _ _ _ _ _ _ hbx
      have x1 : wr.cell? ⟨w.heap.size, 1, none⟩ = some (.int .i64 t) := cell_of_row _ _ _ _ _ _ hbx
      have x2 : wr.cell? ⟨w.heap.size, 2, none⟩ = some (.int .u8 (c : Int)) := cell_of_row _ _ _ _ _ _ hbx
      have hst := unhide HK
      rw [List.drop_eq_getElem_cons hkl, ← hm, idxM] at hst
      have he : ∀ u, (Op.equalIn 10000 45 (.agg #[.int .i64 f, .int .i64 t, .int .u8 (c : Int)]) (.agg #[.int .i64 m.f, .int .i64 (m.t : Int), .int .u8 (m.c : Int)])).run Tryz.prog u = .ok (eqM f t c m) u := fun u => by
        rw [eqMove]
        congr 1
        unfold eqM
        rw [Bool.eq_iff_iff]
        simp
        omega
      have HBX := hide hbx
      have HBW := hide hbw
      clear hm c0 c1 c2 hbx hbw
      generalize eqM f t c m = b at hst he
      cases b with
      | true =>
        simp only [if_true] at hst
        have HST := hide hst
        clear hst
        go_wp2_with fail
        go_quiet (fail)
        go_wp2
        go_ret
        exact ⟨by rw [← unhide HST]; rfl, ⟨(unhide HBW).os, (unhide HBW).tape, (unhide HBW).output, (unhide HBW).size, (unhide HBW).block⟩⟩
      | false =>
        simp only [Bool.false_eq_true, if_false] at hst
        have HST := hide hst
        clear hst
        go_wp2_with fail
        go_quiet (fail)
        go_wp2
        go_roundw
        case rel => exact ⟨k + 1, by go_num, by omega, HST, unhide HBX, ⟨(unhide HBW).os, (unhide HBW).tape, (unhide HBW).output, (unhide HBW).size, (unhide HBW).block⟩⟩
        case measure => simp only [intOf]; omega
    · have hlti : ¬ (k : Int) < (n : Int) := by omega
      have hst := unhide HK
      rw [List.drop_eq_nil_of_le (by rw [← unhide HN]; omega), idxM] at hst
      have HST := hide hst
      have HBW := hide hbw
      clear hst hbx hbw
      go_wp2
      go_ret
      exact ⟨by rw [← unhide HST]; rfl, unhide HBW⟩
/-- Is it one of them? -/
def inM (f t : Int) (c : Nat) (L : List Mv) : Bool := L.any (eqM f t c)
theorem idxM_any (f t : Int) (c : Nat) : ∀ (L : List Mv) (k : Nat), decide (0 ≤ idxM f t c k L) = inM f t c L
  | [], k => by simp [idxM, inM]
  | m :: L, k => by
    rw [idxM]
    unfold inM
    rw [List.any_cons]
    cases h : eqM f t c m with
    | true => simp
    | false =>
      simp only [Bool.false_eq_true, if_false, Bool.false_or]
      exact idxM_any f t c L (k + 1)

set_option maxHeartbeats 1000000 in
theorem ContainsM_any (v : Value) (L : List Mv) (f t : Int) (c : Nat) (w : World) (h : isMvs w v L) :
    Calls Tryz.prog 57 #[v, .agg #[.int .i64 f, .int .i64 t, .int .u8 (c : Int)]] w fun e w' => e = .returned (.bool (inM f t c L)) ∧ Below w.heap.size w w' := by
  rw [← idxM_any f t c L 0]
  obtain ⟨wa, hwa⟩ : ∃ wa, wa = w.alloc (.cells #[.int .i64 f, .int .i64 t, .int .u8 (c : Int)] 45 (0, 0)) := ⟨_, rfl⟩
  have hba : Below w.heap.size w wa := by rw [hwa]; exact (Below.refl _ _).alloc (Nat.le_refl _) _
  have HI := hide (IndexM_any v L f t c wa (h.below hba))
  have HBA := hide hba
  clear h hba
  generalize idxM f t c 0 L = R at *
  go_enter Tryz.func57, Tryz.ntmps57
  go_wp2_with fail
  rw [← hwa]
  clear hwa
  refine (unhide HI).mono ?_
  rintro e w1 ⟨rfl, hb1⟩
  have HB1 := hide ((unhide HBA).trans (hb1.mono (unhide HBA).size))
  clear hb1
  go_wp2
  go_ret
  exact ⟨ret_bool rfl, unhide HB1⟩
end Go.Proofs.YtbijadnekoeofaaGreatDoor

namespace Go.Proofs.YtbijadnekoeofaaGreatDoor
open Go.RowKit
attribute [local go_sem ↓] Go.wp_at_zero Go.wp_at_succ

/-- A move in a box. -/
def isMb (w : World) (b : Nat) (f t c : Int) : Prop := w.heap[b]? = some (.cells #[.int .i64 f, .int .i64 t, .int .u8 c] 45 (0, 0))
theorem isMb.all {w : World} {b : Nat} {f t c : Int} (h : isMb w b f t c) : w.cell? ⟨b, 0, none⟩ = some (.int .i64 f) ∧ w.cell? ⟨b, 1, none⟩ = some (.int .i64 t) ∧ w.cell? ⟨b, 2, none⟩ = some (.int .u8 c) := by
  unfold isMb at h; simp [World.cell?, h]
theorem isMb.lt {w : World} {b : Nat} {f t c : Int} (h : isMb w b f t c) : b < w.heap.size := (Array.getElem?_eq_some_iff.1 h).1
theorem isMb.below {w w' : World} {b B0 : Nat} {f t c : Int} (h : isMb w b f t c) (hh : Below B0 w w') (hb : b < B0) : isMb w' b f t c := by
  unfold isMb at h ⊢; rw [hh.block b hb]; exact h

theorem entLi : ∀ args (u : World), (callFunc 24 args).run Tryz.prog u = .ok (.enter 24 args) u := enters_of Tryz.func24 (by kernel_rfl) rfl
theorem entCt : ∀ args (u : World), (callFunc 57 args).run Tryz.prog u = .ok (.enter 57 args) u := enters_of Tryz.func57 (by kernel_rfl) rfl
set_option maxHeartbeats 4000000 in
set_option maxRecDepth 100000 in
theorem check_ok (W0 H0 T0 : Int) (C0 A0 B0 : ByteArray) (ao : Option Addr) (cap : Nat) (ps : List Pc) (dr st : Bool) (lo re : Nat) (li pl : Int) (W H T : Int) (C A B : ByteArray) (f t : Int) (c : Nat) (w : World) (hC0 : C0.size ≤ maxLen) (hA0 : A0.size ≤ maxLen) (hB0 : B0.size ≤ maxLen) (hlo : lo < 256) (hre : re < 256) (h : isPcs w ao cap ps) (hC : C.size ≤ maxLen) (hA : A.size ≤ maxLen) (hB : B.size ≤ maxLen)
    (hat : atB W0 H0 C0.data.toList T0 A0.data.toList B0.data.toList ps lo li re pl W H C.data.toList T A.data.toList B.data.toList = true) (W' H' T' : Nat) (hf : AtF ps W H T C A B W' H' T') :
    Calls Tryz.prog 25 #[.agg #[.int .i64 W0, .int .i64 H0, .string C0, .int .i64 T0, .string A0, .string B0, .slice ao ps.length cap, .bool dr, .int .u8 (lo : Int), .int .i64 li, .int .u8 (re : Int), .bool st, .int .i64 pl], .agg #[.int .i64 W, .int .i64 H, .string C, .int .i64 T, .string A, .string B], .agg #[.int .i64 f, .int .i64 t, .int .u8 (c : Int)]] w fun e w' => e = .returned (.int .i64 (if inM f t c (movesL W' H' T' C A B ps dr lo li re) then 0 else 5)) ∧ Below w.heap.size w w' := by
  obtain ⟨n, hn⟩ : ∃ n, n = ps.length := ⟨_, rfl⟩
  obtain ⟨w1, hw1⟩ : ∃ w1, w1 = w.alloc (.cells #[.int .i64 W0, .int .i64 H0, .string C0, .int .i64 T0, .string A0, .string B0, .slice ao n cap, .bool dr, .int .u8 (lo : Int), .int .i64 li, .int .u8 (re : Int), .bool st, .int .i64 pl] 27 (0, 0)) := ⟨_, rfl⟩
  obtain ⟨w2, hw2⟩ : ∃ w2, w2 = w1.alloc (.cells #[.int .i64 W, .int .i64 H, .string C, .int .i64 T, .string A, .string B] 24 (0, 0)) := ⟨_, rfl⟩
  obtain ⟨w3, hw3⟩ : ∃ w3, w3 = w2.alloc (.cells #[.int .i64 f, .int .i64 t, .int .u8 (c : Int)] 45 (0, 0)) := ⟨_, rfl⟩
  have hb1 : Below w.heap.size w w1 := by rw [hw1]; exact (Below.refl _ _).alloc (Nat.le_refl _) _
  have hb2 : Below w1.heap.size w1 w2 := by rw [hw2]; exact (Below.refl _ _).alloc (Nat.le_refl _) _
  have hb3 : Below w2.heap.size w2 w3 := by rw [hw3]; exact (Below.refl _ _).alloc (Nat.le_refl _) _
  have s1 : w1.heap.size = w.heap.size + 1 := by rw [hw1]; simp
  have s2 : w2.heap.size = w.heap.size + 1 + 1 := by rw [hw2]; simp [s1]
  have hru : isRu w3 w.heap.size (.int .i64 W0) (.int .i64 H0) (.string C0) (.int .i64 T0) (.string A0) (.string B0) (.slice ao n cap) (.bool dr) (.int .u8 (lo : Int)) (.int .i64 li) (.int .u8 (re : Int)) (.bool st) (.int .i64 pl) := isRu.below (isRu.below (show isRu w1 w.heap.size (.int .i64 W0) (.int .i64 H0) (.string C0) (.int .i64 T0) (.string A0) (.string B0) (.slice ao n cap) (.bool dr) (.int .u8 (lo : Int)) (.int .i64 li) (.int .u8 (re : Int)) (.bool st) (.int .i64 pl) by rw [hw1]; exact heap_alloc_new w _) hb2 (by omega)) hb3 (by omega)
  have hpb : isPb w3 (w.heap.size + 1) W H T C A B := isPb.below (show isPb w2 (w.heap.size + 1) W H T C A B by rw [hw2, ← s1]; exact heap_alloc_new w1 _) hb3 (by omega)
  have hmb : isMb w3 (w.heap.size + 1 + 1) f t c := by rw [hw3, ← s2]; exact heap_alloc_new w2 _
  have hbw := (hb1.trans (hb2.mono (show w.heap.size ≤ w1.heap.size by omega))).trans (hb3.mono (show w.heap.size ≤ w2.heap.size by omega))
  have HBW := hide hbw
  have HPB := hide hpb
  have HRU := hide hru
  have HMB := hide hmb
  have HW1 := hide hw1
  have HW2 := hide hw2
  have HW3 := hide hw3
  have HK := hide (rCheckPosition_any W0 H0 T0 C0 A0 B0 ao cap ps dr st lo re li pl W H T C A B w3 hC0 hA0 hB0 hlo hre (h.below hbw (Nat.le_refl _)) hC hA hB)
  rw [hat] at HK
  rw [show errI true = 0 from rfl] at HK
  have HL := hide (fun u (hb : Below w.heap.size w u) => list_any W' H' T' C A B (.int .i64 W0) (.int .i64 H0) (.string C0) (.int .i64 T0) (.string A0) (.string B0) (.bool st) (.int .i64 pl) ao cap ps dr lo re li u (h.below hb (Nat.le_refl _)) hf.ok hlo hre hf.t1 hf.a hf.b hf.w1 hf.h1 hf.c)
  rw [← hf.w, ← hf.h, ← hf.t, ← hn] at HL
  rw [← hn] at HK ⊢
  clear hat hw1 hw2 hw3 hb1 hb2 hb3 s1 s2 hru hpb hmb hbw hn h hf
  generalize movesL W' H' T' C A B ps dr lo li re = L at *
  have HCT := hide (fun v u (h : isMvs u v L) => ContainsM_any v L f t c u h)
  obtain ⟨b, hb⟩ : ∃ b, b = inM f t c L := ⟨_, rfl⟩
  rw [← hb] at HCT ⊢
  clear hb
  go_enter Tryz.func25, Tryz.ntmps25
  go_wp2_with fail
  rw [← unhide HW1, ← unhide HW2, ← unhide HW3]
  refine (unhide HK).mono ?_
  rintro e u ⟨rfl, hb1⟩
  have hPn := (unhide HPB).below hb1 (unhide HPB).lt
  have hRn := (unhide HRU).below hb1 (unhide HRU).lt
  have hMn := (unhide HMB).below hb1 (unhide HMB).lt
  have hBn := (unhide HBW).trans (hb1.mono (unhide HBW).size)
  clear HPB HRU HMB HBW HW1 HW2 HW3 hb1 HK
  have HPB := hide hPn
  have HRU := hide hRn
  have HMB := hide hMn
  have HBW := hide hBn
  obtain ⟨p0, p1, p2, p3, p4, p5⟩ := hPn.all
  obtain ⟨r0, r1, r2, r3, r4, r5, r6, r7, r8, r9, r10, r11, r12⟩ := hRn.cells
  obtain ⟨m0, m1, m2⟩ := hMn.all
  clear hPn hRn hMn hBn
  have hBd : Below w.heap.size w u.drew := (unhide HBW).drew
  have HLd := hide (unhide HL u.drew hBd)
  have HKM : Hid (∀ x, Below u.drew.heap.size u.drew x → isMb x (w.heap.size + 1 + 1) f t c) := hide fun x hx => isMb.below (w := u.drew) (unhide HMB) hx (by show _ < u.heap.size; exact (unhide HMB).lt)
  have HFB : Hid (∀ x y, Below u.drew.heap.size u.drew x → Below x.heap.size x y → Below w.heap.size w y) := hide fun x y hx hy => (hBd.trans (hx.mono hBd.size)).trans (hy.mono (Nat.le_trans hBd.size hx.size))
  clear HL hBd
  cases b with
  | true =>
    go_wp2_with fail
    go_region_law (first
      | (refine step_call rfl 24 #[.tmp 14, .tmp 15] #[27, 24] rfl #[.agg #[.int .i64 W0, .int .i64 H0, .string C0, .int .i64 T0, .string A0, .string B0, .slice ao n cap, .bool dr, .int .u8 (lo : Int), .int .i64 li, .int .u8 (re : Int), .bool st, .int .i64 pl], .agg #[.int .i64 W, .int .i64 H, .string C, .int .i64 T, .string A, .string B]] (by simp [Act.eval]) entLi (unhide HLd) ?_; rintro e1 wx ⟨v, rfl, hown, hbx⟩; refine ⟨_, rfl, ?_⟩; have HMV := hide (isMvs.of hown); clear hown; obtain ⟨q0, q1, q2⟩ := (unhide HKM wx hbx).all)
      | (refine step_call rfl 57 #[.tmp 16, .tmp 17] #[39, 45] rfl #[v, .agg #[.int .i64 f, .int .i64 t, .int .u8 (c : Int)]] (by simp [Act.eval]) entCt (unhide HCT v _ (unhide HMV)) ?_; rintro e2 wy ⟨rfl, hby⟩; refine ⟨_, rfl, ?_⟩; have HFY := hide (unhide HFB wx wy hbx hby); clear hby))
    all_goals
      clear hbx q0 q1 q2 p0 p1 p2 p3 p4 p5 r0 r1 r2 r3 r4 r5 r6 r7 r8 r9 r10 r11 r12 m0 m1 m2
      go_wp2
      go_ret
      exact ⟨rfl, unhide HFY⟩
  | false =>
    go_wp2_with fail
    go_region_law (first
      | (refine step_call rfl 24 #[.tmp 14, .tmp 15] #[27, 24] rfl #[.agg #[.int .i64 W0, .int .i64 H0, .string C0, .int .i64 T0, .string A0, .string B0, .slice ao n cap, .bool dr, .int .u8 (lo : Int), .int .i64 li, .int .u8 (re : Int), .bool st, .int .i64 pl], .agg #[.int .i64 W, .int .i64 H, .string C, .int .i64 T, .string A, .string B]] (by simp [Act.eval]) entLi (unhide HLd) ?_; rintro e1 wx ⟨v, rfl, hown, hbx⟩; refine ⟨_, rfl, ?_⟩; have HMV := hide (isMvs.of hown); clear hown; obtain ⟨q0, q1, q2⟩ := (unhide HKM wx hbx).all)
      | (refine step_call rfl 57 #[.tmp 16, .tmp 17] #[39, 45] rfl #[v, .agg #[.int .i64 f, .int .i64 t, .int .u8 (c : Int)]] (by simp [Act.eval]) entCt (unhide HCT v _ (unhide HMV)) ?_; rintro e2 wy ⟨rfl, hby⟩; refine ⟨_, rfl, ?_⟩; have HFY := hide (unhide HFB wx wy hbx hby); clear hby))
    all_goals
      clear hbx q0 q1 q2 p0 p1 p2 p3 p4 p5 r0 r1 r2 r3 r4 r5 r6 r7 r8 r9 r10 r11 r12 m0 m1 m2
      go_wp2
      go_ret
      exact ⟨rfl, unhide HFY⟩
end Go.Proofs.YtbijadnekoeofaaGreatDoor

namespace Go.Proofs.YtbijadnekoeofaaGreatDoor
open Go.RowKit
attribute [local go_sem ↓] Go.wp_at_zero Go.wp_at_succ

/-- A row of bytes that can be written. -/
def RowB (w : World) (g : Nat) (l : List UInt8) : Prop := ∃ (cur : Array Value) (fz : Nat × Nat), w.heap[g]? = some (.cells cur 5 fz) ∧ (fz = (0, 0) ∨ cur.size ≤ fz.1) ∧ cur.toList.take l.length = bvals l
theorem RowB.cell {w : World} {g : Nat} {l : List UInt8} (h : RowB w g l) (j : Nat) (hj : j < l.length) : w.cell? ⟨g, j, none⟩ = some (.int .u8 (l[j].toNat : Int)) := by
  obtain ⟨cur, m, h1, h2, h3⟩ := h
  rw [cell_of_row w g j cur _ _ h1]
  have : (cur.toList.take l.length)[j]? = (bvals l)[j]? := by rw [h3]
  rw [List.getElem?_take, if_pos hj] at this
  simpa [bvals, hj] using this
theorem RowB.frozen {w : World} {g : Nat} {l : List UInt8} (h : RowB w g l) (j : Nat) (hj : j < l.length) : w.frozen? ⟨g, j, none⟩ = false := by
  obtain ⟨cur, fz, h1, h2, h3⟩ := h
  have := RowM.le h3
  simp [World.frozen?, h1]
  rcases h2 with rfl | h2
  · simp
  · omega
theorem RowB.set {w : World} {g : Nat} {l : List UInt8} (h : RowB w g l) (j : Nat) (c : UInt8) : RowB (w.setCell ⟨g, j, none⟩ (.int .u8 (c.toNat : Int))) g (l.set j c) := by
  obtain ⟨cur, fz, h1, h2, h3⟩ := h
  refine ⟨cur.setIfInBounds j (.int .u8 (c.toNat : Int)), fz, ?_, by simpa using h2, ?_⟩
  · rw [setCell_eq_setRow w g j cur _ _ _ h1]
    exact setRow_heap w g cur _ _ _ h1
  · rw [Array.toList_setIfInBounds, List.length_set, List.take_set, h3]
    simp [bvals, List.map_set]
theorem RowB.conv {w : World} {g cap n : Nat} {l : List UInt8} (h : RowB w g l) (hn : Hid (l.length = n)) :
    (convert 98 9 (.slice (some ⟨g, 0, none⟩) n cap)).run Tryz.prog w = .ok (.string ⟨l.toArray⟩) w := by
  have hn' := unhide hn
  subst hn'
  refine run_convert_bytes_back w 98 9 5 ⟨g, 0, none⟩ cap l Tryz.underlying98 Tryz.underlying5 Tryz.underlying9 fun j hj => ?_
  have e : (⟨g, 0, none⟩ : Addr).add j = ⟨g, 0 + j, none⟩ := by unfold Addr.add; split <;> simp_all
  rw [Nat.zero_add] at e
  rw [e, h.cell j hj]
theorem RowB.drew {w : World} {g : Nat} {l : List UInt8} (q : Nat) (h : RowB w g l) : RowB (w.drewN q) g l := h
theorem RowB.lt {w : World} {g : Nat} {l : List UInt8} (h : RowB w g l) : g < w.heap.size := by
  obtain ⟨cur, m, h1, -⟩ := h
  exact (Array.getElem?_eq_some_iff.1 h1).1
theorem Bt.drew' {g : Nat} {w w' : World} (q : Nat) (h : Bt g w w') : Bt g w (w'.drewN q) := ⟨h.os, h.tape, h.output, h.size, h.block⟩

/-- Two bytes change places. -/
def swapB (l : List UInt8) (j : Nat) : List UInt8 := (l.set j l[j - 1]!).set (j - 1) l[j]!
/-- A byte goes down to its place. -/
def sinkB : Nat → List UInt8 → List UInt8
  | 0, l => l
  | j + 1, l => if l[j + 1]! < l[j]! then sinkB j (swapB l (j + 1)) else l
def isortB (l : List UInt8) (n : Nat) : List UInt8 := (List.range' 1 (n - 1)).foldl (fun l i => sinkB i l) l
theorem swapB_len (l : List UInt8) (j : Nat) : (swapB l j).length = l.length := by simp [swapB]
theorem sinkB_len : ∀ (j : Nat) (l : List UInt8), (sinkB j l).length = l.length
  | 0, _ => rfl
  | j + 1, l => by
    rw [sinkB]
    split
    · rw [sinkB_len j, swapB_len]
    · rfl

set_option maxHeartbeats 400000 in
theorem isNaN_any (x : Int) (w : World) :
    Calls Tryz.prog 157 #[.int .u8 x] w fun e w' => e = .returned (.bool false) ∧ w' = w := by
  go_enter Tryz.func157, Tryz.ntmps157
  go_wp2
  go_ret
  exact ⟨ret_bool (by simp), rfl⟩
set_option maxHeartbeats 1000000 in
theorem LessB_any (x y : Nat) (w : World) :
    Calls Tryz.prog 148 #[.int .u8 (x : Int), .int .u8 (y : Int)] w fun e w' => e = .returned (.bool (decide (x < y))) ∧ w' = w := by
  go_enter Tryz.func148, Tryz.ntmps148
  go_wp2_with fail
  refine (isNaN_any _ _).mono ?_
  rintro e w1 ⟨rfl, rfl⟩
  go_wp2
  go_ret
  exact ⟨ret_bool (by simp), rfl⟩

set_option maxHeartbeats 4000000 in
set_option maxRecDepth 100000 in
theorem insertB_any (g n cap : Nat) (d : List UInt8) (w : World) (hrow : RowB w g d) (hn : d.length = n) (h64 : n ≤ 64) :
    Calls Tryz.prog 142 #[.slice (some ⟨g, 0, none⟩) n cap, .int .i64 0, .int .i64 (n : Int)] w fun e w' => e = .returned (.tuple #[]) ∧ RowB w' g (isortB d n) ∧ Bt g w w' := by
  have HROW := hide hrow
  have HN := hide hn
  clear hrow hn
  go_enter Tryz.func142, Tryz.ntmps142
  go_wp2
  go_loopw [6] (fun iv wr => ∃ (i : Nat) (l : List UInt8), iv = .int .i64 (i : Int) ∧ 1 ≤ i ∧ (i ≤ n ∨ i = 1) ∧ RowB wr g l ∧ Bt g w wr ∧ Hid (l.length = n ∧ (List.range' 1 (i - 1)).foldl (fun l i => sinkB i l) d = l)) (fun iv _ => n - (intOf iv).toNat)
  case atStart => exact ⟨1, d, rfl, Nat.le_refl _, .inr rfl, unhide HROW, Bt.refl _ _, hide ⟨unhide HN, rfl⟩⟩
  case round =>
    obtain ⟨i, l, rfl, hi1, hin, hrow, hbt, HL⟩ := hrel
    clear HROW
    by_cases hlt : i < n
    · have hlti : (i : Int) < (n : Int) := by omega
      have HROW := hide hrow
      have HBT := hide hbt
      clear hrow hbt
      go_wp2
      go_loopw [7] (fun jv wr => ∃ (j : Nat) (l2 : List UInt8), jv = .int .i64 (j : Int) ∧ j ≤ i ∧ RowB wr g l2 ∧ Bt g w wr ∧ Hid (l2.length = n ∧ sinkB j l2 = sinkB i l)) (fun jv _ => (intOf jv).toNat)
      case atStart => exact ⟨i, l, rfl, Nat.le_refl _, unhide HROW, unhide HBT, hide ⟨(unhide HL).1, rfl⟩⟩
      case round =>
        obtain ⟨j, l2, rfl, hji, hrow, hbt, HL2⟩ := hrel
        clear HROW HBT
        obtain ⟨e1, e2⟩ := unhide HL2
        have HROW := hide hrow
        have HBT := hide hbt
        by_cases hj0 : j = 0
        · subst hj0
          have HSI : Hid ((List.range' 1 (i + 1 - 1)).foldl (fun l i => sinkB i l) d = l2) := by
            refine hide ?_
            rw [show i + 1 - 1 = (i - 1) + 1 by omega, List.range'_concat, List.foldl_append, (unhide HL).2]
            simp only [List.foldl_cons, List.foldl_nil]
            rw [show 1 + 1 * (i - 1) = i by omega, ← e2]
            rfl
          have HE1 := hide e1
          clear hrow hbt e1 e2
          go_wp2_with fail
          go_quiet (fail)
          have HROW2 := hide ((unhide HROW).drew nq)
          have HBT2 := hide ((unhide HBT).drew' nq)
          clear HROW HBT
          go_wp2
          go_roundw
          case rel => exact ⟨i + 1, l2, by go_num, by omega, .inl (by omega), unhide HROW2, unhide HBT2, hide ⟨unhide HE1, unhide HSI⟩⟩
          case measure => simp only [intOf]; omega
        · have hjp : (0 : Int) < (j : Int) := by omega
          obtain ⟨k, rfl⟩ : ∃ k, j = k + 1 := ⟨j - 1, by omega⟩
          have hkl : k + 1 < l2.length := by omega
          have c1 := hrow.cell (k + 1) hkl
          have c0 := hrow.cell k (by omega)
          have f1 := hrow.frozen (k + 1) hkl
          have f0 := hrow.frozen k (by omega)
          obtain ⟨x, hx⟩ : ∃ x, x = l2[k + 1] := ⟨_, rfl⟩
          obtain ⟨y, hy⟩ : ∃ y, y = l2[k] := ⟨_, rfl⟩
          rw [← hx] at c1
          rw [← hy] at c0
          have hx' : l2[k + 1]! = x := by rw [hx]; exact getElem!_pos l2 _ hkl
          have hy' : l2[k]! = y := by rw [hy]; exact getElem!_pos l2 _ (by omega)
          rw [sinkB, hx', hy'] at e2
          have HLS := hide (fun u => LessB_any x.toNat y.toNat u)
          have hsub : ((k + 1 : Nat) : Int) - 1 = (k : Int) := by omega
          have hki : (k : Int) < (n : Int) := by omega
          have hk1i : ((k + 1 : Nat) : Int) < (n : Int) := by omega
          by_cases hls : x < y
          · have hd : decide (x.toNat < y.toNat) = true := decide_eq_true hls
            rw [if_pos hls] at e2
            have hr1 := ((hrow.set (k + 1) y).set k x)
            have hb1 := (hbt.put (k + 1) (.int .u8 (y.toNat : Int))).put k (.int .u8 (x.toNat : Int))
            have hsw : swapB l2 (k + 1) = (l2.set (k + 1) y).set k x := by unfold swapB; rw [hx', show k + 1 - 1 = k by omega, hy']
            rw [hsw] at e2
            have HE := hide (show ((l2.set (k + 1) y).set k x).length = n ∧ sinkB k ((l2.set (k + 1) y).set k x) = sinkB i l from ⟨by simp [e1], e2⟩)
            rw [hd] at HLS
            have HR1 := hide hr1
            have HB1 := hide hb1
            clear hrow hbt e1 e2 hx hy hx' hy' hls hd hr1 hb1 hsw HROW HBT
            go_wp2_with fail
            go_quiet ((go_at_call 148; exact Calls.quiet_of_same (unhide HLS _)))
            go_wp2
            go_region
            go_wp2
            go_roundw
            case rel => exact ⟨k, (l2.set (k + 1) y).set k x, by go_num, by omega, unhide HR1, ⟨(unhide HB1).os, (unhide HB1).tape, (unhide HB1).output, (unhide HB1).size, (unhide HB1).block⟩, unhide HE⟩
            case measure => simp only [intOf]; omega
          · have hd : decide (x.toNat < y.toNat) = false := decide_eq_false hls
            rw [if_neg hls] at e2
            have HSI : Hid ((List.range' 1 (i + 1 - 1)).foldl (fun l i => sinkB i l) d = l2) := by
              refine hide ?_
              rw [show i + 1 - 1 = (i - 1) + 1 by omega, List.range'_concat, List.foldl_append, (unhide HL).2]
              simp only [List.foldl_cons, List.foldl_nil]
              rw [show 1 + 1 * (i - 1) = i by omega, ← e2]
            have HE1 := hide e1
            rw [hd] at HLS
            clear hrow hbt e1 e2 hx hy hx' hy' hls hd f0 f1
            go_wp2_with fail
            go_quiet ((go_at_call 148; exact Calls.quiet_of_same (unhide HLS _)))
            have HROW2 := hide ((unhide HROW).drew nq)
            have HBT2 := hide ((unhide HBT).drew' nq)
            clear HROW HBT
            go_wp2
            go_roundw
            case rel => exact ⟨i + 1, l2, by go_num, by omega, .inl (by omega), unhide HROW2, unhide HBT2, hide ⟨unhide HE1, unhide HSI⟩⟩
            case measure => simp only [intOf]; omega
    · have hlti : ¬ (i : Int) < (n : Int) := by omega
      have HROW := hide hrow
      have HBT := hide hbt
      have HIS : Hid (isortB d n = l) := by
        refine hide ?_
        have e := (unhide HL).2
        unfold isortB
        rcases hin with h | h
        · rw [show n = i by omega]; exact e
        · rw [show n - 1 = i - 1 by omega]; exact e
      clear hrow hbt
      go_wp2
      go_end0
      exact ⟨rfl, by rw [unhide HIS]; exact unhide HROW, unhide HBT⟩
end Go.Proofs.YtbijadnekoeofaaGreatDoor

namespace Go.Proofs.YtbijadnekoeofaaGreatDoor
open Go.RowKit
attribute [local go_sem ↓] Go.wp_at_zero Go.wp_at_succ

set_option maxHeartbeats 4000000 in
set_option maxRecDepth 100000 in
theorem Len64_any (n : Nat) (w : World) (hn : n ≤ 12) :
    Calls Tryz.prog 82 #[.int .u64 (n : Int)] w fun e w' => (∃ r : Int, e = .returned (.int .i64 r)) ∧ w' = w := by
  have hn1 : (n : Int) ≤ 12 := by omega
  have h1 : ¬ (4294967296 : Int) ≤ (n : Int) := by omega
  have h2 : ¬ (65536 : Int) ≤ (n : Int) := by omega
  have h3 : ¬ (256 : Int) ≤ (n : Int) := by omega
  go_enter Tryz.func82, Tryz.ntmps82
  go_wp2
  go_ret
  exact ⟨⟨_, rfl⟩, rfl⟩
set_option maxHeartbeats 1000000 in
theorem Len_any (n : Nat) (w : World) (hn : n ≤ 12) :
    Calls Tryz.prog 39 #[.int .u64 (n : Int)] w fun e w' => (∃ r : Int, e = .returned (.int .i64 r)) ∧ w' = w := by
  have hn1 : (n : Int) ≤ 12 := by omega
  go_enter Tryz.func39, Tryz.ntmps39
  go_wp2_with fail
  refine (Len64_any n _ hn).mono ?_
  rintro e w1 ⟨⟨r, rfl⟩, rfl⟩
  go_wp2
  go_ret
  exact ⟨⟨_, rfl⟩, rfl⟩

set_option maxHeartbeats 4000000 in
set_option maxRecDepth 100000 in
theorem pdqB_any (g n cap : Nat) (d : List UInt8) (r : Int) (w : World) (hrow : RowB w g d) (hn : d.length = n) (h12 : n ≤ 12) :
    Calls Tryz.prog 130 #[.slice (some ⟨g, 0, none⟩) n cap, .int .i64 0, .int .i64 (n : Int), .int .i64 r] w fun e w' => e = .returned (.tuple #[]) ∧ RowB w' g (isortB d n) ∧ Bt g w w' := by
  have HI := hide (insertB_any g n cap d w hrow hn (by omega))
  clear hrow hn
  go_enter Tryz.func130, Tryz.ntmps130
  go_wp2
  go_loopw [1, 2] (fun av bv wr => av = .int .i64 0 ∧ bv = .int .i64 (n : Int) ∧ wr = w) (fun _ _ _ => 0)
  case atStart => exact ⟨rfl, rfl, rfl⟩
  case round =>
    obtain ⟨rfl, rfl, rfl⟩ := hrel
    have h12i : (n : Int) ≤ 12 := by omega
    go_wp2_with fail
    refine (unhide HI).mono ?_
    rintro e w1 ⟨rfl, hr, hb⟩
    have HR := hide hr
    have HB := hide hb
    clear hr hb
    go_wp2
    refine bodyPost_ret (results_none rfl _ _ _) rfl ?_
    exact ⟨rfl, unhide HR, unhide HB⟩

set_option maxHeartbeats 2000000 in
set_option maxRecDepth 100000 in
theorem SortB_any (g n cap : Nat) (d : List UInt8) (w : World) (hrow : RowB w g d) (hn : d.length = n) (h12 : n ≤ 12) :
    Calls Tryz.prog 100 #[.slice (some ⟨g, 0, none⟩) n cap] w fun e w' => e = .returned (.tuple #[]) ∧ RowB w' g (isortB d n) ∧ Bt g w w' := by
  have HI := hide (fun r => pdqB_any g n cap d r w hrow hn h12)
  have HL := hide (fun u => Len_any n u h12)
  have h12i : (n : Int) ≤ 12 := by omega
  clear hrow hn
  go_enter Tryz.func100, Tryz.ntmps100
  go_wp2_with fail
  refine (unhide HL _).mono ?_
  rintro e w1 ⟨⟨r, rfl⟩, rfl⟩
  go_wp2_with fail
  refine (unhide HI r).mono ?_
  rintro e w2 ⟨rfl, hr, hb⟩
  have HR := hide hr
  have HB := hide hb
  clear hr hb
  go_wp2
  go_end0
  exact ⟨rfl, unhide HR, unhide HB⟩
end Go.Proofs.YtbijadnekoeofaaGreatDoor
