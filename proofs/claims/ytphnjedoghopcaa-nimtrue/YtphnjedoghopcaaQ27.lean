/-
  package nim, walked: win, Grundy, Win.
-/
import Derived.Test.YtphnjedoghopcaaQ26
namespace Go.Proofs.Ytphnjedoghopcaa
open Go.RowKit
attribute [local go_sem ↓] Go.wp_at_zero Go.wp_at_succ

/-- A move in a box. -/
def isHb (w : World) (b : Nat) (i : Int) (v : Value) : Prop := w.heap[b]? = some (.cells #[.int .i64 i, v] 27 (0, 0))
theorem isHb.all {w : World} {b : Nat} {i : Int} {v : Value} (h : isHb w b i v) : w.cell? ⟨b, 0, none⟩ = some (.int .i64 i) ∧ w.cell? ⟨b, 1, none⟩ = some v ∧ w.frozen? ⟨b, 0, none⟩ = false ∧ w.frozen? ⟨b, 1, none⟩ = false := by
  unfold isHb at h; simp [World.cell?, World.frozen?, h]
theorem isHb.lt {w : World} {b : Nat} {i : Int} {v : Value} (h : isHb w b i v) : b < w.heap.size := (Array.getElem?_eq_some_iff.1 h).1
/-- What win leaves. -/
structure WinEnd (o : Option (Nat × List Nat)) (w : World) (e : Ending) (w' : World) : Prop where
  low : Below w.heap.size w w'
  none_ : o = none → e = .returned (.tuple #[.agg #[.int .i64 0, .slice none 0 0], .bool false])
  some_ : ∀ i x, o = some (i, x) → ∃ ao cap, e = .returned (.tuple #[.agg #[.int .i64 (i : Int), .slice ao x.length cap], .bool true]) ∧ isIs w' w'.heap.size ao cap (natI x) ∧ ∀ k, (Value.slice ao x.length cap).ownBlock = some k → w.heap.size ≤ k

set_option maxHeartbeats 4000000 in
set_option maxRecDepth 100000 in
theorem win_any (d : ByteArray) (hs : List Nat) (ho : Option Addr) (hc : Nat) (w : World) (hd6 : d.size ≤ 6) (hdig : d.data.toList.all digB = true) (h400 : ∀ n ∈ hs, n ≤ 400) (hH : isIs w w.heap.size ho hc (natI hs)) :
    Calls Try.prog 22 #[.string d, .slice ho hs.length hc] w fun e w' => WinEnd (winO (digs d) hs) w e w' := by
  have hl := hH.1
  have hm := hH.2.1
  rw [natI_len] at hl
  unfold maxLen at hm
  have hD6 : (digs d).length ≤ 6 := by rw [digs_len]; exact hd6
  obtain ⟨wa, hwa⟩ : ∃ wa, wa = w.alloc (.cells #[.int .i64 0, .slice none 0 0] 27 (0, 0)) := ⟨_, rfl⟩
  have hba : Below w.heap.size w wa := by rw [hwa]; exact (Below.refl _ _).alloc (Nat.le_refl _) _
  have hxa : isHb wa w.heap.size 0 (.slice none 0 0) := by rw [hwa]; exact heap_alloc_new w _
  obtain ⟨o, hoo⟩ : ∃ o, o = winO (digs d) hs := ⟨_, rfl⟩
  rw [← hoo]
  by_cases hne : hs.length = 0
  · have hnei : ((hs.length : Int) == 0) = true := by simp [hne]
    have hs0 : hs = [] := List.eq_nil_of_length_eq_zero hne
    have ho0 : o = none := by rw [hoo, hs0]; rfl
    have HE : Hid (WinEnd o w (.returned (.tuple #[.agg #[.int .i64 0, .slice none 0 0], .bool false])) wa) := hide ⟨hba, fun _ => rfl, fun i x h => by rw [ho0] at h; cases h⟩
    have HWA := hide hwa
    clear hwa hba hxa hoo ho0 hs0 hne hH h400
    go_enter Try.func22, Try.ntmps22
    go_wp2
    rw [← unhide HWA]
    refine bodyPost_ret (v := .tuple #[.agg #[.int .i64 0, .slice none 0 0], .bool false]) ?_ rfl (unhide HE)
    rw [unhide HWA]
    simp [results, Try.results22, go_sem]
  · have hnei : ((hs.length : Int) == 0) = false := beq_eq_false_iff_ne.2 (by omega)
    obtain ⟨M, hM⟩ : ∃ M, M = maxL hs := ⟨_, rfl⟩
    have hM4 : M ≤ 400 := by rw [hM]; exact maxL_le hs 0 400 (by omega) h400
    have hMge : ∀ n ∈ hs, n ≤ M := fun n hn => by rw [hM]; exact maxL_ge hs 0 n hn
    have hMx := Max_any _ ho hc hs wa (hH.keep (w' := wa) (fun k hk => hba.block k hk) (Nat.le_refl _)) (by omega)
    rw [← hM] at hMx
    have HMX := hide hMx
    have HHV := hide (hvals_any d M wa hd6 hdig hM4)
    have HH := hide hH
    have HBA := hide hba
    have HXA := hide hxa
    have HWA := hide hwa
    have HOO := hide hoo
    have HGE := hide hMge
    have HDG := hide hdig
    have H4 := hide h400
    clear hH hba hxa hwa hoo hMx hMge hM hdig h400
    go_enter Try.func22, Try.ntmps22
    go_wp2_with fail
    rw [← unhide HWA]
    refine (unhide HMX).mono ?_
    rintro e w1 ⟨rfl, rfl⟩
    clear HWA
    go_wp2_with fail
    refine (unhide HHV).mono ?_
    rintro e w2 ⟨hb2, g, rfl, hW⟩
    obtain ⟨W, hWW⟩ : ∃ W, W = grL (digs d) (M + 1) := ⟨_, rfl⟩
    have hWl : W.length = M + 1 := by rw [hWW]; exact grL_len _ _
    have hWa : ∀ n, n ≤ M → W[n]! = gr (digs d) n := fun n hn => by rw [hWW]; exact grL_at _ (by omega)
    have hWv : ∀ i : Nat, W[i]! < 4096 := fun i => by
      by_cases hik : i ≤ M
      · rw [hWa i hik]; exact gr_lt hD6 (by omega)
      · rw [getElem!_neg W i (by omega)]; show 0 < 4096; omega
    have hbw2 := (unhide HBA).trans (hb2.mono (unhide HBA).size)
    have hH2 : isIs w2 w2.heap.size ho hc (natI hs) := (unhide HH).up hbw2
    have hOF := of_any w2.heap.size w2.heap.size (some ⟨g, 0, none⟩) ho (M + 1) hc W hs w2 (by rw [hWW]; exact hW) hH2 (fun y hy => by have := unhide HGE y hy; omega) hWv
    rw [hWl] at hOF
    obtain ⟨S, hS⟩ : ∃ S, S = grs (digs d) hs := ⟨_, rfl⟩
    have hxS : xorL W hs = S := by rw [hS, hWW]; exact xorL_grL hs 0 (fun y hy => by have := unhide HGE y hy; omega)
    rw [hxS] at hOF
    have hSb : S < 4096 := by rw [hS]; exact grs_lt hD6 hs 0 (by omega) (fun y hy => unhide H4 y hy)
    have hx2 : isHb w2 w.heap.size 0 (.slice none 0 0) := (hb2.block _ (unhide HXA).lt).trans (unhide HXA)
    have HOF := hide hOF
    have HW := hide hW
    have HBW2 := hide hbw2
    have HX2 := hide hx2
    have HWa := hide hWa
    have HWW := hide hWW
    have HS := hide hS
    have HWv := hide hWv
    clear hb2 hW hbw2 hH2 hOF hxS hx2 hWa hWW hS hWv HMX HHV HBA HXA
    go_wp2_with fail
    refine (unhide HOF).mono ?_
    rintro e w3 ⟨rfl, rfl⟩
    go_wp2
    go_loopw [25] (fun iv wr => ∃ k : Nat, k ≤ hs.length ∧ iv = .int .i64 (k : Int) ∧ Hid (o = winF (digs d) S k (hs.drop k)) ∧ isHb wr w.heap.size 0 (.slice none 0 0) ∧ Below w3.heap.size w3 wr) (fun iv _ => hs.length - (intOf iv).toNat)
    case atStart => exact ⟨0, Nat.zero_le _, rfl, hide (by rw [unhide HOO, List.drop_zero, unhide HS]; rfl), unhide HX2, Below.refl _ _⟩
    case round =>
      obtain ⟨k, hk, rfl, HO, hxb, hbr⟩ := hrel
      clear HX2
      rename World => wr
      have hbw := (unhide HBW2).trans (hbr.mono (unhide HBW2).size)
      by_cases hlt : k < hs.length
      · have hlti : (k : Int) < (hs.length : Int) := by omega
        have hk0 : (0 : Int) ≤ (k : Int) := by omega
        obtain ⟨g1, o1, e1, hg1, c1⟩ := ((unhide HH).up hbw).nat hlt
        subst e1
        have hst := unhide HO
        rw [List.drop_eq_getElem_cons hlt] at hst
        have hmem := List.getElem_mem hlt
        rw [getElem!_pos hs k hlt] at c1
        have hn4 := unhide H4 _ hmem
        have hnM := unhide HGE _ hmem
        generalize hs[k] = n at *
        have hWr : isIs wr wr.heap.size (some ⟨g, 0, none⟩) (M + 1) (natI W) := by rw [unhide HWW]; exact (unhide HW).up hbr
        obtain ⟨g2, o2, e2, hg2, c2⟩ := hWr.nat (k := n) (by omega)
        cases e2
        have hni : (n : Int) < ((M + 1 : Nat) : Int) := by omega
        have hnM1 : n < M + 1 := by omega
        have hn0 : (0 : Int) ≤ (n : Int) := by omega
        have hv := unhide HWv n
        rw [unhide HWa n hnM] at c2 hv
        rw [winF] at hst
        generalize gr (digs d) n = v at *
        have hxx := xor_i64 S v (by omega) (by omega)
        generalize S ^^^ v = q at *
        have hLV := leave_any d n q (M + 1) (some ⟨g, 0, none⟩) (M + 1) wr hd6 (unhide HDG) hn4 (by omega) (by omega) (by rw [unhide HWW] at hWr; exact hWr)
        rw [Nat.zero_add] at c2
        have HLV := hide hLV
        have HXB := hide hxb
        have HBR := hide hbr
        have HST := hide hst
        clear hLV hxb hbr hst hWr hmem hbw
        go_wp2_with fail
        refine (unhide HLV).mono ?_
        rintro e w5 hle
        have hb5 := hle.low
        have hx5 : isHb w5 w.heap.size 0 (.slice none 0 0) := (hb5.block _ (unhide HXB).lt).trans (unhide HXB)
        have hbr5 := (unhide HBR).trans (hb5.mono (unhide HBR).size)
        cases hlo : leaveO (digs d) n q with
        | none =>
          have he := hle.none_ hlo
          subst he
          have HO2 : Hid (o = winF (digs d) S (k + 1) (hs.drop (k + 1))) := hide (by rw [unhide HST, hlo])
          have HX5 := hide hx5
          have HBR5 := hide hbr5
          clear hle hb5 hx5 hbr5 hlo
          go_wp2
          go_roundw
          case rel => exact ⟨k + 1, by omega, by go_num, HO2, unhide HX5, unhide HBR5⟩
          case measure => simp only [intOf]; omega
        | some x =>
          obtain ⟨fo, fc, he, hfi, hfw⟩ := hle.some_ x hlo
          subst he
          obtain ⟨y0, y1, z0, z1⟩ := hx5.all
          have ho2 : o = some (k, x) := by rw [unhide HST, hlo]
          have hbw5 := (unhide HBW2).trans (hbr5.mono (unhide HBW2).size)
          obtain ⟨w6, hw6⟩ : ∃ w6, w6 = (w5.setCell ⟨w.heap.size, 0, none⟩ (.int .i64 (k : Int))).setCell ⟨w.heap.size, 1, none⟩ (.slice fo x.length fc) := ⟨_, rfl⟩
          have hx6 : isHb w6 w.heap.size (k : Int) (.slice fo x.length fc) := by
            rw [hw6]; unfold isHb at hx5 ⊢; simp [World.setCell, Array.getElem?_modify, hx5]
          have hs6 : w6.heap.size = w5.heap.size := by rw [hw6]; simp [World.setCell]
          have hoth : ∀ j, j ≠ w.heap.size → w6.heap[j]? = w5.heap[j]? := fun j hj => by
            rw [hw6]
            exact (Below.heap_setCell _ _ _ _ (by simp only; omega)).trans (Below.heap_setCell _ _ _ _ (by simp only; omega))
          have hlow6 : Below w.heap.size w w6 := by
            rw [hw6]
            exact (hbw5.setCell (p := ⟨w.heap.size, 0, none⟩) (Nat.le_refl _) _).setCell (p := ⟨w.heap.size, 1, none⟩) (Nat.le_refl _) _
          have hI6 : isIs w6 w6.heap.size fo fc (natI x) := by
            obtain ⟨q1, q2, q3⟩ := hfi
            refine ⟨q1, q2, fun hne => ?_⟩
            obtain ⟨g', off, e, hg, hc⟩ := q3 hne
            refine ⟨g', off, e, by rw [hs6]; exact hg, fun j y hy => ?_⟩
            have hgb : g' ≠ w.heap.size := by
              intro hgw
              have h1 := hfw g' (by rw [e]; rfl)
              have h2 := (unhide HXB).lt
              omega
            exact (World.cell?_of_block (a := ⟨g', off + j, none⟩) (hoth g' hgb)).trans (hc j y hy)
          have HE : Hid (WinEnd o w (.returned (.tuple #[.agg #[.int .i64 (k : Int), .slice fo x.length fc], .bool true])) w6) := hide ⟨hlow6, (fun h => by rw [ho2] at h; cases h), fun i z h => by
            rw [ho2] at h
            simp only [Option.some.injEq, Prod.mk.injEq] at h
            obtain ⟨rfl, rfl⟩ := h
            exact ⟨fo, fc, rfl, hI6, fun k hk => Nat.le_trans (Nat.le_of_lt (unhide HXB).lt) (hfw k hk)⟩⟩
          obtain ⟨t0, t1, -, -⟩ := hx6.all
          have HW6 := hide hw6
          clear hle hb5 hx5 hbr5 hlo hfi hfw ho2 hbw5 hx6 hs6 hoth hlow6 hI6 hw6
          go_wp2
          rw [← unhide HW6]
          exact bodyPost_ret (v := .tuple #[.agg #[.int .i64 (k : Int), .slice fo x.length fc], .bool true]) (by simp [results, Try.results22, go_sem, t0, t1]) rfl (unhide HE)
      · have hlti : ¬ (k : Int) < (hs.length : Int) := by omega
        have ho0 : o = none := by rw [unhide HO, List.drop_eq_nil_of_le (by omega)]; rfl
        obtain ⟨y0, y1, z0, z1⟩ := hxb.all
        obtain ⟨w6, hw6⟩ : ∃ w6, w6 = (wr.setCell ⟨w.heap.size, 0, none⟩ (.int .i64 0)).setCell ⟨w.heap.size, 1, none⟩ (.slice none 0 0) := ⟨_, rfl⟩
        have hlow6 : Below w.heap.size w w6 := by
          rw [hw6]
          exact (hbw.setCell (p := ⟨w.heap.size, 0, none⟩) (Nat.le_refl _) _).setCell (p := ⟨w.heap.size, 1, none⟩) (Nat.le_refl _) _
        have HE : Hid (WinEnd o w (.returned (.tuple #[.agg #[.int .i64 0, .slice none 0 0], .bool false])) w6) := hide ⟨hlow6, fun _ => rfl, fun i x h => by rw [ho0] at h; cases h⟩
        have hx6 : isHb w6 w.heap.size 0 (.slice none 0 0) := by
          rw [hw6]; unfold isHb at hxb ⊢; simp [World.setCell, Array.getElem?_modify, hxb]
        obtain ⟨t0, t1, -, -⟩ := hx6.all
        have HW6 := hide hw6
        clear hlow6 hw6 ho0 hxb hbr hbw hx6
        go_wp2
        rw [← unhide HW6]
        exact bodyPost_ret (v := .tuple #[.agg #[.int .i64 0, .slice none 0 0], .bool false]) (by simp [results, Try.results22, go_sem, t0, t1]) rfl (unhide HE)
/-- What Grundy leaves. -/
structure GrEnd (s : ByteArray) (n : Int) (w : World) (e : Ending) (w' : World) : Prop where
  low : Below w.heap.size w w'
  code : codeB s = false → e = .returned (.tuple #[.slice none 0 0, .int .i64 3])
  range : codeB s = true → heapB n = false → e = .returned (.tuple #[.slice none 0 0, .int .i64 4])
  out : codeB s = true → heapB n = true → ∃ g, e = .returned (.tuple #[.slice (some ⟨g, 0, none⟩) (n.toNat + 1) (n.toNat + 1), .int .i64 0]) ∧ isIs w' w'.heap.size (some ⟨g, 0, none⟩) (n.toNat + 1) (natI (grL (digs (dig s)) (n.toNat + 1)))
theorem code_dig {s : ByteArray} (h : codeB s = true) : (dig s).size ≤ 6 ∧ (dig s).data.toList.all digB = true := by
  unfold codeB at h
  rw [Bool.and_eq_true, Bool.and_eq_true, Bool.and_eq_true, decide_eq_true_eq, decide_eq_true_eq] at h
  obtain ⟨h1, h2, h3, h4⟩ := h
  have := dig_size (s := s) (by omega)
  exact ⟨by omega, h4⟩
set_option maxHeartbeats 2000000 in
set_option maxRecDepth 100000 in
theorem Grundy_any (s : ByteArray) (n : Int) (w : World) (hs : s.size ≤ maxLen) :
    Calls Try.prog 7 #[.string s, .int .i64 n] w fun e w' => GrEnd s n w e w' := by
  have HT := hide (takingOf_any s w hs)
  have HIS := hide (isHeap_any n w)
  cases hc : codeB s with
  | false =>
    rw [hc] at HT
    have HE : Hid (GrEnd s n w (.returned (.tuple #[.slice none 0 0, .int .i64 3])) w) := hide ⟨Below.refl _ _, fun _ => rfl, (fun h => by rw [hc] at h; cases h), (fun h => by rw [hc] at h; cases h)⟩
    simp only [Bool.false_eq_true, if_false] at HT
    clear hc hs
    go_enter Try.func7, Try.ntmps7
    go_wp2_with fail
    refine (unhide HT).mono ?_
    rintro e w1 ⟨rfl, rfl⟩
    go_wp2
    go_ret2
    exact unhide HE
  | true =>
    rw [hc] at HT
    simp only [if_true] at HT
    obtain ⟨h6, hdg⟩ := code_dig hc
    cases hh : heapB n with
    | false =>
      rw [hh] at HIS
      have HE : Hid (GrEnd s n w (.returned (.tuple #[.slice none 0 0, .int .i64 4])) w) := hide ⟨Below.refl _ _, (fun h => by rw [hc] at h; cases h), fun _ _ => rfl, (fun _ h => by rw [hh] at h; cases h)⟩
      generalize dig s = d at *
      clear hc hs hh h6 hdg
      go_enter Try.func7, Try.ntmps7
      go_wp2_with fail
      refine (unhide HT).mono ?_
      rintro e w1 ⟨rfl, rfl⟩
      go_wp2_with fail
      refine (unhide HIS).mono ?_
      rintro e w2 ⟨rfl, rfl⟩
      go_wp2
      go_ret2
      exact unhide HE
    | true =>
      rw [hh] at HIS
      unfold heapB at hh
      rw [Bool.and_eq_true, decide_eq_true_eq, decide_eq_true_eq] at hh
      obtain ⟨N, rfl⟩ := Int.eq_ofNat_of_zero_le hh.1
      have HV := hide (hvals_any (dig s) N w h6 hdg (by omega))
      have HEE : Hid (∀ w' g, Below w.heap.size w w' → isIs w' w'.heap.size (some ⟨g, 0, none⟩) (N + 1) (natI (grL (digs (dig s)) (N + 1))) → GrEnd s (N : Int) w (.returned (.tuple #[.slice (some ⟨g, 0, none⟩) (N + 1) (N + 1), .int .i64 0])) w') := hide (fun w' g hb hI => ⟨hb, (fun h => by rw [hc] at h; cases h), (fun _ h => by unfold heapB at h; rw [decide_eq_true hh.1, decide_eq_true hh.2] at h; cases h), fun _ _ => ⟨g, rfl, hI⟩⟩)
      generalize dig s = d at *
      clear hc hs hh h6 hdg
      go_enter Try.func7, Try.ntmps7
      go_wp2_with fail
      refine (unhide HT).mono ?_
      rintro e w1 ⟨rfl, rfl⟩
      go_wp2_with fail
      refine (unhide HIS).mono ?_
      rintro e w2 ⟨rfl, rfl⟩
      go_wp2_with fail
      refine (unhide HV).mono ?_
      rintro e w3 ⟨hb, g, rfl, hI⟩
      have HE := hide (unhide HEE w3 g hb hI)
      clear hb hI
      go_wp2
      go_ret2
      exact unhide HE
/-- What Win leaves. -/
structure WiEnd (s : ByteArray) (r : List Int) (w : World) (e : Ending) (w' : World) : Prop where
  low : Below w.heap.size w w'
  code : codeB s = false → e = .returned (.tuple #[.bool false, .agg #[.int .i64 0, .slice none 0 0], .int .i64 3])
  range : codeB s = true → ¬ (r.length ≤ 20 ∧ r.all heapB = true) → e = .returned (.tuple #[.bool false, .agg #[.int .i64 0, .slice none 0 0], .int .i64 4])
  lost : ∀ hs, codeB s = true → r = natI hs → (hs.length ≤ 20 ∧ ∀ n ∈ hs, n ≤ 400) → winO (digs (dig s)) hs = none → e = .returned (.tuple #[.bool false, .agg #[.int .i64 0, .slice none 0 0], .int .i64 0])
  won : ∀ hs i x, codeB s = true → r = natI hs → (hs.length ≤ 20 ∧ ∀ n ∈ hs, n ≤ 400) → winO (digs (dig s)) hs = some (i, x) → ∃ ao cap, e = .returned (.tuple #[.bool true, .agg #[.int .i64 (i : Int), .slice ao x.length cap], .int .i64 0]) ∧ isIs w' w'.heap.size ao cap (natI x)
theorem heaps_nat {r : List Int} (h : r.all heapB = true) : r = natI (r.map Int.toNat) ∧ ∀ n ∈ r.map Int.toNat, n ≤ 400 := by
  have hh : ∀ x ∈ r, 0 ≤ x ∧ x ≤ 400 := fun x hx => by
    have := List.all_eq_true.1 h x hx
    unfold heapB at this
    rw [Bool.and_eq_true, decide_eq_true_eq, decide_eq_true_eq] at this
    exact this
  constructor
  · unfold natI
    rw [List.map_map]
    conv => lhs; rw [← List.map_id r]
    refine List.map_congr_left fun x hx => ?_
    simp only [id, Function.comp]
    have := hh x hx; omega
  · intro n hn
    obtain ⟨x, hx, rfl⟩ := List.mem_map.1 hn
    have := hh x hx; omega
theorem natI_inj {a b : List Nat} (h : natI a = natI b) : a = b := by
  have := congrArg (List.map Int.toNat) h
  unfold natI at this
  have e : (Int.toNat ∘ fun n : Nat => (n : Int)) = id := funext fun n => Int.toNat_natCast n
  rw [List.map_map, List.map_map, e, List.map_id, List.map_id] at this
  exact this
theorem natI_heaps {hs : List Nat} (h : ∀ n ∈ hs, n ≤ 400) : (natI hs).all heapB = true := by
  rw [List.all_eq_true]
  intro x hx
  unfold natI at hx
  obtain ⟨n, hn, rfl⟩ := List.mem_map.1 hx
  have := h n hn
  unfold heapB
  rw [decide_eq_true (by omega), decide_eq_true (by omega)]
  rfl
end Go.Proofs.Ytphnjedoghopcaa
