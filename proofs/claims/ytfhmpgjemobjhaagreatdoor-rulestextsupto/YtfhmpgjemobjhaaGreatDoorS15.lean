/-
  The document's answer on rules (package gameref), walked: RulesOf.
-/
import Derived.Test.YtfhmpgjemobjhaaGreatDoorJ36
import Derived.Test.YtfhmpgjemobjhaaGreatDoorS5
namespace Go.Proofs.YtfhmpgjemobjhaaGreatDoor
open Go.RowKit
attribute [local go_sem ↓] Go.wp_at_zero Go.wp_at_succ

theorem lineB_kind (x y : Rl) (s : List UInt8) (h : lineB x s = some y) : 1 ≤ lineOf (Lib.cut s [32]).1 := by
  rcases Nat.eq_zero_or_pos (lineOf (Lib.cut s [32]).1) with h0 | h0
  · unfold lineB at h
    rw [h0] at h
    simp at h
  · exact h0
theorem lineB_ps (x y : Rl) (s : List UInt8) (h : lineB x s = some y) : y.ps.length ≤ x.ps.length + 1 := by
  unfold lineB at h
  split at h
  · split at h
    · split at h
      · cases h; simp
      · cases h
    · cases h
  split at h
  · cases hp : pieceF (Lib.cut s [32]).2.1 with
    | none => rw [hp] at h; cases h
    | some p => rw [hp] at h; simp at h; rw [← h]; simp
  split at h
  · split at h
    · cases h
    · cases h; simp
  split at h
  · cases hp : letterOf (Lib.cut s [32]).2.1 with
    | none => rw [hp] at h; cases h
    | some p => rw [hp] at h; simp at h; rw [← h]; simp
  split at h
  · cases hp : numOf (Lib.cut s [32]).2.1 with
    | none => rw [hp] at h; cases h
    | some p =>
      rw [hp] at h
      simp only [Option.bind_some] at h
      split at h
      · cases h; simp
      · cases h
  split at h
  · cases hp : letterOf (Lib.cut s [32]).2.1 with
    | none => rw [hp] at h; cases h
    | some p => rw [hp] at h; simp at h; rw [← h]; simp
  split at h
  · split at h
    · cases h
    · cases h; simp
  split at h
  · cases hp : numOf (Lib.cut s [32]).2.1 with
    | none => rw [hp] at h; cases h
    | some p => rw [hp] at h; simp at h; rw [← h]; simp
  · cases h
theorem ok_whole (x : Rl) : x.ok = x.whole := by
  cases h : x.whole with
  | true => exact ok_of_whole x h
  | false =>
    cases h2 : x.ok with
    | false => rfl
    | true => rw [(whole_of_ok x h2).2] at h; cases h

set_option maxHeartbeats 4000000 in
set_option maxRecDepth 100000 in
theorem gRulesOf_any (s : ByteArray) (m : Int) (w : World) (hs : s.size < 2000000) (hm : w.cell? ⟨0, 0, none⟩ = some (.int .i64 m)) (h0 : 0 < w.heap.size) (ht : isTab w) :
    Calls Tryz.prog 6 #[.string s] w fun e w' => ReadEnd s w e w' := by
  obtain ⟨P, hP⟩ : ∃ P, P = linesF s.data.toList.length 0 Rl.none s.data.toList 0 := ⟨_, rfl⟩
  have HP := hide hP
  have HM := hide hm
  have HT := hide ht
  clear hP hm ht
  go_enter Tryz.func6, Tryz.ntmps6
  go_wp2
  have hru0 := isRu.fresh (w := w) (v0 := .int .i64 0) (v1 := .int .i64 0) (v2 := .string ⟨#[]⟩) (v3 := .int .i64 0) (v4 := .string ⟨#[]⟩) (v5 := .string ⟨#[]⟩) (v6 := .slice none 0 0) (v7 := .bool false) (v8 := .int .u8 0) (v9 := .int .i64 0) (v10 := .int .u8 0) (v11 := .bool false) (v12 := .int .i64 0) (Below.refl _ _)
  have hb0 : Below w.heap.size w (w.alloc (.cells #[.int .i64 0, .int .i64 0, .string ⟨#[]⟩, .int .i64 0, .string ⟨#[]⟩, .string ⟨#[]⟩, .slice none 0 0, .bool false, .int .u8 0, .int .i64 0, .int .u8 0, .bool false, .int .i64 0] 27 (0, 0))) := (Below.refl _ w).alloc (Nat.le_refl _) _
  have hz0 : (w.alloc (.cells #[.int .i64 0, .int .i64 0, .string ⟨#[]⟩, .int .i64 0, .string ⟨#[]⟩, .string ⟨#[]⟩, .slice none 0 0, .bool false, .int .u8 0, .int .i64 0, .int .u8 0, .bool false, .int .i64 0] 27 (0, 0))).heap.size = w.heap.size + 1 := by simp
  generalize w.alloc (.cells #[.int .i64 0, .int .i64 0, .string ⟨#[]⟩, .int .i64 0, .string ⟨#[]⟩, .string ⟨#[]⟩, .slice none 0 0, .bool false, .int .u8 0, .int .i64 0, .int .u8 0, .bool false, .int .i64 0] 27 (0, 0)) = w1 at *
  have hfx1 : isFx (w1.alloc (.cells #[.int .i64 0, .int .i64 0] 32 (0, 0))) (w.heap.size + 1) (.int .i64 0) (.int .i64 0) := by
    have := heap_alloc_new w1 (.cells #[.int .i64 0, .int .i64 0] 32 (0, 0))
    rw [hz0] at this
    exact this
  have hru1 := hru0.below (Below.alloc (Below.refl w1.heap.size w1) (Nat.le_refl _) (.cells #[.int .i64 0, .int .i64 0] 32 (0, 0))) (by omega)
  have hb1 := hb0.alloc (by omega) (.cells #[.int .i64 0, .int .i64 0] 32 (0, 0))
  have hz1 : (w1.alloc (.cells #[.int .i64 0, .int .i64 0] 32 (0, 0))).heap.size = w.heap.size + 1 + 1 := by simp [hz0]
  generalize w1.alloc (.cells #[.int .i64 0, .int .i64 0] 32 (0, 0)) = w2 at *
  have hba : Below w2.heap.size w2 (w2.alloc (.cells #[.int .i64 0, .int .i64 0, .string ⟨#[]⟩, .int .i64 0, .string ⟨#[]⟩, .string ⟨#[]⟩, .slice none 0 0, .bool false, .int .u8 0, .int .i64 0, .int .u8 0, .bool false, .int .i64 0] 27 (0, 0))) := (Below.refl _ w2).alloc (Nat.le_refl _) _
  have hrs : GS (w2.alloc (.cells #[.int .i64 0, .int .i64 0, .string ⟨#[]⟩, .int .i64 0, .string ⟨#[]⟩, .string ⟨#[]⟩, .slice none 0 0, .bool false, .int .u8 0, .int .i64 0, .int .u8 0, .bool false, .int .i64 0] 27 (0, 0))) (w.heap.size + 1 + 1) Rl.none := by
    have := heap_alloc_new w2 (.cells #[.int .i64 0, .int .i64 0, .string ⟨#[]⟩, .int .i64 0, .string ⟨#[]⟩, .string ⟨#[]⟩, .slice none 0 0, .bool false, .int .u8 0, .int .i64 0, .int .u8 0, .bool false, .int .i64 0] 27 (0, 0))
    rw [hz1] at this
    exact ⟨⟨_, [], this, isPk.nil _ _⟩, by decide⟩
  have hru := hru1.below hba (by omega)
  have hfx : isFx (w2.alloc (.cells #[.int .i64 0, .int .i64 0, .string ⟨#[]⟩, .int .i64 0, .string ⟨#[]⟩, .string ⟨#[]⟩, .slice none 0 0, .bool false, .int .u8 0, .int .i64 0, .int .u8 0, .bool false, .int .i64 0] 27 (0, 0))) (w.heap.size + 1) (.int .i64 0) (.int .i64 0) := by
    unfold isFx at hfx1 ⊢; rw [hba.block _ (by omega)]; exact hfx1
  have hbl := hb1.trans (hba.mono (by omega))
  clear hru0 hb0 hz0 hfx1 hru1 hb1 hba hz1
  generalize w2.alloc (.cells #[.int .i64 0, .int .i64 0, .string ⟨#[]⟩, .int .i64 0, .string ⟨#[]⟩, .string ⟨#[]⟩, .slice none 0 0, .bool false, .int .u8 0, .int .i64 0, .int .u8 0, .bool false, .int .i64 0] 27 (0, 0)) = w3 at *
  go_loopw [0, 5, 6] (fun sv lv nv wr => ∃ (t : ByteArray) (k n last : Nat) (x : Rl), sv = .string t ∧ lv = .int .i64 ((last : Int) - 1) ∧ nv = .int .i64 (k : Int) ∧ t.size ≤ n ∧ k + t.size ≤ s.size ∧ x.ps.length ≤ k ∧ last ≤ 8 ∧ GS wr (w.heap.size + 1 + 1) x ∧ isRu wr w.heap.size (.int .i64 0) (.int .i64 0) (.string ⟨#[]⟩) (.int .i64 0) (.string ⟨#[]⟩) (.string ⟨#[]⟩) (.slice none 0 0) (.bool false) (.int .u8 0) (.int .i64 0) (.int .u8 0) (.bool false) (.int .i64 0) ∧ isFx wr (w.heap.size + 1) (.int .i64 0) (.int .i64 0) ∧ Hid (P = linesF n last x t.data.toList k) ∧ Below w.heap.size w wr) (fun sv _ _ _ => sizeV sv)
  case atStart => exact ⟨s, 0, s.data.toList.length, 0, Rl.none, rfl, rfl, rfl, by rw [len_data]; omega, by omega, by simp [Rl.none], by omega, hrs, hru, hfx, HP, hbl⟩
  case round =>
    obtain ⟨t, k, n, last, x, rfl, rfl, rfl, hn, hk, hps, hl8, hrs, hru, hfx, HL, hbl⟩ := hrel
    have hglt := hrs.lt
    cases hte : t.toList.isEmpty with
    | false =>
      have hne : t.data.toList ≠ [] := by
        intro h
        rw [Lib.toList_data, h] at hte
        cases hte
      have hpos : 0 < t.size := by
        rw [← len_data]
        exact List.length_pos_iff.2 hne
      obtain ⟨n', rfl⟩ : ∃ n', n = n' + 1 := ⟨n - 1, by omega⟩
      have HNE := hide hne
      obtain ⟨K, hK⟩ : ∃ K, K = Lib.index t.data.toList [10] := ⟨_, rfl⟩
      have hIX := Tryz.strings_IndexByte t 10 wr
      rw [show (10 : Int).toNat.toUInt8 = (10 : UInt8) from rfl, ← Lib.index_one, ← hK] at hIX
      have HIX := hide hIX
      have HK := hide hK
      clear hne hIX hK
      go_wp2_with fail
      refine (unhide HIX).mono ?_
      rintro e wr1 ⟨rfl, rfl⟩
      by_cases hK0 : 0 ≤ K
      · obtain ⟨j, rfl⟩ := Int.eq_ofNat_of_zero_le hK0
        have hu : Lib.cut t.data.toList [10] = (t.data.toList.take j, t.data.toList.drop (j + 1), true) := by
          unfold Lib.cut
          rw [← unhide HK, if_pos hK0]
          rfl
        have hlen : t.size = j + 1 + (t.data.toList.drop (j + 1)).length := by
          have hbk := cut_back t.data.toList [10] (by rw [hu])
          rw [hu] at hbk
          simp only at hbk
          have := congrArg List.length hbk
          rw [List.length_append, List.length_append, List.length_take, List.length_cons, List.length_nil, len_data] at this
          omega
        rw [List.length_drop, len_data] at hlen
        obtain ⟨a, hA⟩ : ∃ a, t.extract 0 j = a := ⟨_, rfl⟩
        obtain ⟨b, hB⟩ : ∃ b, t.extract (j + 1) t.size = b := ⟨_, rfl⟩
        have had : a.data.toList = t.data.toList.take j := by
          rw [← hA, ByteArray.data_extract, Array.toList_extract, List.extract_eq_take_drop]
          simp
        have hbd : b.data.toList = t.data.toList.drop (j + 1) := by
          rw [← hB, ByteArray.data_extract, Array.toList_extract, List.extract_eq_take_drop, List.take_of_length_le]
          rw [List.length_drop, len_data]
          omega
        have has : a.size ≤ t.size := by rw [← hA, ByteArray.size_extract]; omega
        have hbs : b.size < t.size := by rw [← hB, ByteArray.size_extract]; omega
        have hcut : Lib.cut t.data.toList [10] = (a.data.toList, b.data.toList, true) := by rw [hu, had, hbd]
        have HCUT := hide hcut
        have hj1 : j + 1 ≤ t.size := by omega
        have hj1i : (j : Int) + 1 ≤ (t.size : Int) := by omega
        have hji : (j : Int) ≤ (t.size : Int) := by omega
        have hm1 : wr1.cell? ⟨0, 0, none⟩ = some (.int .i64 m) := by rw [hbl.cell (p := ⟨0, 0, none⟩) (by simp only; omega)]; exact unhide HM
        have HLN := hide (gLine_any (w.heap.size + 1 + 1) x a m wr1 hrs (by omega) hm1 ((unhide HT).below hbl) (by omega))
        clear hu hlen had hbd hcut hm1 hK0 hrs
        go_wp2_with fail
        refine (unhide HLN).mono ?_
        rintro e wr2 ⟨hex, hbg⟩
        have hru2 := hru.below hbg (by omega)
        have hfx2 : isFx wr2 (w.heap.size + 1) (.int .i64 0) (.int .i64 0) := by
          unfold isFx at hfx ⊢; rw [hbg.block _ (by omega)]; exact hfx
        have hbl2 : Below w.heap.size w wr2 := hbl.trans (hbg.mono (by omega))
        clear hru hfx hbl hbg hA
        have hrk : ∃ rk : Int, e = .returned (.int .i64 rk) ∧ -1 ≤ rk ∧ rk ≤ 7 ∧ ((∃ y, lineB x a.data.toList = some y ∧ rk = (lineOf (Lib.cut a.data.toList [32]).1 : Int) - 1 ∧ GS wr2 (w.heap.size + 1 + 1) y) ∨ (lineB x a.data.toList = none ∧ rk = -1)) := by
          rcases hex with ⟨y, h1, rfl, h2⟩ | ⟨h1, rfl⟩
          · have k1 := lineB_kind x y _ h1
            have k2 := lineOf_le (Lib.cut a.data.toList [32]).1
            exact ⟨_, rfl, by omega, by omega, Or.inl ⟨y, h1, rfl, h2⟩⟩
          · exact ⟨-1, rfl, by omega, by omega, Or.inr ⟨h1, rfl⟩⟩
        obtain ⟨rk, rfl, hrk0, hrk7, hcase⟩ := hrk
        obtain ⟨la, hla⟩ : ∃ la : Int, la = (last : Int) - 1 := ⟨_, rfl⟩
        rw [← hla]
        have hla0 : -1 ≤ la := by omega
        have hla7 : la ≤ 7 := by omega
        obtain ⟨OK, hOK⟩ : ∃ OK : Bool, OK = true ↔ ((rk = la + 1 ∧ rk ≤ 1) ∨ (rk = 1 ∧ la = 1) ∨ (rk > la ∧ rk > 1 ∧ la ≥ 1)) := ⟨decide _, decide_eq_true_iff⟩
        have HOK := hide hOK
        have HCASE := hide hcase
        have HLA := hide hla
        clear hOK hcase hex hla
        obtain ⟨B1, b1⟩ : ∃ B, (rk == la + 1) = B := ⟨_, rfl⟩
        obtain ⟨B2, b2⟩ : ∃ B, decide (rk ≤ 1) = B := ⟨_, rfl⟩
        obtain ⟨B3, b3⟩ : ∃ B, (rk == 1) = B := ⟨_, rfl⟩
        obtain ⟨B4, b4⟩ : ∃ B, (la == 1) = B := ⟨_, rfl⟩
        obtain ⟨B5, b5⟩ : ∃ B, decide (la < rk) = B := ⟨_, rfl⟩
        obtain ⟨B6, b6⟩ : ∃ B, decide (1 < rk) = B := ⟨_, rfl⟩
        obtain ⟨B7, b7⟩ : ∃ B, decide (1 ≤ la) = B := ⟨_, rfl⟩
        have HOKB : Hid (OK = (B1 && B2 || (B3 && B4) || (B5 && B6 && B7))) := by
          refine hide ?_
          rw [Bool.eq_iff_iff, unhide HOK, ← b1, ← b2, ← b3, ← b4, ← b5, ← b6, ← b7]
          simp only [Bool.or_eq_true, Bool.and_eq_true, beq_iff_eq, decide_eq_true_eq]
          omega
        go_upto_region 8 with fail
        go_cut [9] from 10 to 63 (fun v wc => v = .bool OK ∧ wc = wr2)
        case first =>
          cases B1 with
          | false =>
            cases B3 with
            | false =>
              cases B5 with
              | false =>
                go_wp2_with fail
                go_meet
                case rel => exact ⟨by rw [unhide HOKB]; simp, rfl⟩
              | true =>
                cases B6 with
                | false =>
                  go_wp2_with fail
                  go_meet
                  case rel => exact ⟨by rw [unhide HOKB]; simp, rfl⟩
                | true =>
                  cases B7 with
                  | false =>
                    go_wp2_with fail
                    go_meet
                    case rel => exact ⟨by rw [unhide HOKB]; simp, rfl⟩
                  | true =>
                    go_wp2_with fail
                    go_meet
                    case rel => exact ⟨by rw [unhide HOKB]; simp, rfl⟩
            | true =>
              cases B4 with
              | false =>
                cases B5 with
                | false =>
                  go_wp2_with fail
                  go_meet
                  case rel => exact ⟨by rw [unhide HOKB]; simp, rfl⟩
                | true =>
                  cases B6 with
                  | false =>
                    go_wp2_with fail
                    go_meet
                    case rel => exact ⟨by rw [unhide HOKB]; simp, rfl⟩
                  | true =>
                    cases B7 with
                    | false =>
                      go_wp2_with fail
                      go_meet
                      case rel => exact ⟨by rw [unhide HOKB]; simp, rfl⟩
                    | true =>
                      go_wp2_with fail
                      go_meet
                      case rel => exact ⟨by rw [unhide HOKB]; simp, rfl⟩
              | true =>
                go_wp2_with fail
                go_meet
                case rel => exact ⟨by rw [unhide HOKB]; simp, rfl⟩
          | true =>
            cases B2 with
            | false =>
              cases B3 with
              | false =>
                cases B5 with
                | false =>
                  go_wp2_with fail
                  go_meet
                  case rel => exact ⟨by rw [unhide HOKB]; simp, rfl⟩
                | true =>
                  cases B6 with
                  | false =>
                    go_wp2_with fail
                    go_meet
                    case rel => exact ⟨by rw [unhide HOKB]; simp, rfl⟩
                  | true =>
                    cases B7 with
                    | false =>
                      go_wp2_with fail
                      go_meet
                      case rel => exact ⟨by rw [unhide HOKB]; simp, rfl⟩
                    | true =>
                      go_wp2_with fail
                      go_meet
                      case rel => exact ⟨by rw [unhide HOKB]; simp, rfl⟩
              | true =>
                cases B4 with
                | false =>
                  cases B5 with
                  | false =>
                    go_wp2_with fail
                    go_meet
                    case rel => exact ⟨by rw [unhide HOKB]; simp, rfl⟩
                  | true =>
                    cases B6 with
                    | false =>
                      go_wp2_with fail
                      go_meet
                      case rel => exact ⟨by rw [unhide HOKB]; simp, rfl⟩
                    | true =>
                      cases B7 with
                      | false =>
                        go_wp2_with fail
                        go_meet
                        case rel => exact ⟨by rw [unhide HOKB]; simp, rfl⟩
                      | true =>
                        go_wp2_with fail
                        go_meet
                        case rel => exact ⟨by rw [unhide HOKB]; simp, rfl⟩
                | true =>
                  go_wp2_with fail
                  go_meet
                  case rel => exact ⟨by rw [unhide HOKB]; simp, rfl⟩
            | true =>
              go_wp2_with fail
              go_meet
              case rel => exact ⟨by rw [unhide HOKB]; simp, rfl⟩
        case rest =>
          obtain ⟨rfl, rfl⟩ := hcut
          clear b1 b2 b3 b4 b5 b6 b7 HOKB
          have hlf := lineF_lineB last x a.data.toList
          cases OK with
          | false =>
            have hno : lineF last x a.data.toList = none := by
              rw [hlf]
              rcases unhide HCASE with ⟨y, h1, h2, -⟩ | ⟨h1, -⟩
              · rw [if_pos]
                have k1 := lineB_kind x y _ h1
                cases hmb : mayB last (lineOf (Lib.cut a.data.toList [32]).1) with
                | false => rfl
                | true =>
                  have h3 := (may_rank last _ k1).1 hmb
                  have h4 := (unhide HOK).2 (by rw [h2, unhide HLA]; omega)
                  cases h4
              · rw [h1]
                split <;> rfl
            have hRR : readR s.data.toList = (none, 3, (k : Int)) := by
              refine readR_none _ _ ?_
              rw [← unhide HP, unhide HL]
              exact linesF_no _ _ _ _ _ (unhide HNE) (by rw [unhide HCUT]) (by rw [unhide HCUT]; exact hno)
            have HRR := hide hRR
            clear hRR HL HP hno hlf
            obtain ⟨wz, hwz⟩ : ∃ wz, wz = wc := ⟨_, rfl⟩
            subst hwz
            have hruz := hru2
            have hfxz := hfx2
            have hblz := hbl2
            obtain ⟨d0, d1, d2, d3, d4, d5, d6, d7, d8, d9, d10, d11, d12⟩ := hruz.cells
            have z0 := frozen_of_row wz w.heap.size 0 _ _ hruz
            have z1 := frozen_of_row wz w.heap.size 1 _ _ hruz
            have z2 := frozen_of_row wz w.heap.size 2 _ _ hruz
            have z3 := frozen_of_row wz w.heap.size 3 _ _ hruz
            have z4 := frozen_of_row wz w.heap.size 4 _ _ hruz
            have z5 := frozen_of_row wz w.heap.size 5 _ _ hruz
            have z6 := frozen_of_row wz w.heap.size 6 _ _ hruz
            have z7 := frozen_of_row wz w.heap.size 7 _ _ hruz
            have z8 := frozen_of_row wz w.heap.size 8 _ _ hruz
            have z9 := frozen_of_row wz w.heap.size 9 _ _ hruz
            have z10 := frozen_of_row wz w.heap.size 10 _ _ hruz
            have z11 := frozen_of_row wz w.heap.size 11 _ _ hruz
            have z12 := frozen_of_row wz w.heap.size 12 _ _ hruz
            obtain ⟨⟨e0, e1⟩, k0, k1⟩ := hfxz.all
            go_wp2
            obtain ⟨q1, q2, q3, -⟩ := boxes_put w.heap.size hruz hfxz hblz (.int .i64 0) (.int .i64 0) (.string ⟨#[]⟩) (.int .i64 0) (.string ⟨#[]⟩) (.string ⟨#[]⟩) (.slice none 0 0) (.bool false) (.int .u8 0) (.int .i64 0) (.int .u8 0) (.bool false) (.int .i64 0) (.int .i64 3) (.int .i64 (k : Int))
            generalize (World.setCell (World.setCell (World.setCell (World.setCell (World.setCell (World.setCell (World.setCell (World.setCell (World.setCell (World.setCell (World.setCell (World.setCell (World.setCell (World.setCell (World.setCell wz ⟨w.heap.size, 0, none⟩ (.int .i64 0)) ⟨w.heap.size, 1, none⟩ (.int .i64 0)) ⟨w.heap.size, 2, none⟩ (.string ⟨#[]⟩)) ⟨w.heap.size, 3, none⟩ (.int .i64 0)) ⟨w.heap.size, 4, none⟩ (.string ⟨#[]⟩)) ⟨w.heap.size, 5, none⟩ (.string ⟨#[]⟩)) ⟨w.heap.size, 6, none⟩ (.slice none 0 0)) ⟨w.heap.size, 7, none⟩ (.bool false)) ⟨w.heap.size, 8, none⟩ (.int .u8 0)) ⟨w.heap.size, 9, none⟩ (.int .i64 0)) ⟨w.heap.size, 10, none⟩ (.int .u8 0)) ⟨w.heap.size, 11, none⟩ (.bool false)) ⟨w.heap.size, 12, none⟩ (.int .i64 0)) ⟨w.heap.size + 1, 0, none⟩ (.int .i64 3)) ⟨w.heap.size + 1, 1, none⟩ (.int .i64 (k : Int))) = wf at *
            obtain ⟨p0, p1, p2, p3, p4, p5, p6, p7, p8, p9, p10, p11, p12⟩ := q1.cells
            obtain ⟨⟨t0, t1⟩, -⟩ := q2.all
            refine bodyPost_ret (v := .tuple #[zeroRules, faultV 3 (k : Int)]) (by simp [results, Tryz.results6, go_sem, zeroRules, faultV, p0, p1, p2, p3, p4, p5, p6, p7, p8, p9, p10, p11, p12, t0, t1]) rfl ?_
            exact ⟨Or.inr ⟨3, (k : Int), by decide, unhide HRR, rfl⟩, q3⟩
          | true =>
            have hfo := (unhide HOK).1 rfl
            have hyes : ∃ y, lineF last x a.data.toList = some y ∧ lineB x a.data.toList = some y ∧ rk = (lineOf (Lib.cut a.data.toList [32]).1 : Int) - 1 ∧ GS wc (w.heap.size + 1 + 1) y := by
              rcases unhide HCASE with ⟨y, h1, h2, h3⟩ | ⟨h1, h2⟩
              · refine ⟨y, ?_, h1, h2, h3⟩
                rw [hlf, if_neg, h1]
                have k1 := lineB_kind x y _ h1
                rw [(may_rank last _ k1).2 (by have := unhide HLA; rw [h2, this] at hfo; omega)]
                simp
              · exfalso; omega
            obtain ⟨y, hy1, hy2, hy3, hgs⟩ := hyes
            have hP2 : P = linesF n' (lineOf (Lib.cut a.data.toList [32]).1) y b.data.toList (k + 1) := by
              rw [unhide HL, linesF_go _ _ _ y _ _ (unhide HNE) (by rw [unhide HCUT]) (by rw [unhide HCUT]; exact hy1), unhide HCUT]
            have hyp := lineB_ps x y _ hy2
            have hk8 := lineOf_le (Lib.cut a.data.toList [32]).1
            have HP2 := hide hP2
            have HRK := hide hy3
            clear hP2 HL hlf hfo hy1 hy2 hy3
            go_wp2
            go_roundw
            case rel => exact ⟨b, k + 1, n', _, y, rfl, by rw [unhide HRK], by go_num, by omega, by omega, by omega, hk8, hgs, hru2, hfx2, HP2, hbl2⟩
            case measure => simp [sizeV]; omega
      · have hRR : readR s.data.toList = (none, 3, (k : Int)) := by
          refine readR_none _ _ ?_
          rw [← unhide HP, unhide HL]
          refine linesF_cut _ _ _ _ _ (unhide HNE) ?_
          unfold Lib.cut
          rw [← unhide HK, if_neg hK0]
        have HRR := hide hRR
        clear hRR HL HP
        obtain ⟨wz, hwz⟩ : ∃ wz, wz = wr1 := ⟨_, rfl⟩
        subst hwz
        have hruz := hru
        have hfxz := hfx
        have hblz := hbl
        obtain ⟨d0, d1, d2, d3, d4, d5, d6, d7, d8, d9, d10, d11, d12⟩ := hruz.cells
        have z0 := frozen_of_row wz w.heap.size 0 _ _ hruz
        have z1 := frozen_of_row wz w.heap.size 1 _ _ hruz
        have z2 := frozen_of_row wz w.heap.size 2 _ _ hruz
        have z3 := frozen_of_row wz w.heap.size 3 _ _ hruz
        have z4 := frozen_of_row wz w.heap.size 4 _ _ hruz
        have z5 := frozen_of_row wz w.heap.size 5 _ _ hruz
        have z6 := frozen_of_row wz w.heap.size 6 _ _ hruz
        have z7 := frozen_of_row wz w.heap.size 7 _ _ hruz
        have z8 := frozen_of_row wz w.heap.size 8 _ _ hruz
        have z9 := frozen_of_row wz w.heap.size 9 _ _ hruz
        have z10 := frozen_of_row wz w.heap.size 10 _ _ hruz
        have z11 := frozen_of_row wz w.heap.size 11 _ _ hruz
        have z12 := frozen_of_row wz w.heap.size 12 _ _ hruz
        obtain ⟨⟨e0, e1⟩, k0, k1⟩ := hfxz.all
        go_wp2
        obtain ⟨q1, q2, q3, -⟩ := boxes_put w.heap.size hruz hfxz hblz (.int .i64 0) (.int .i64 0) (.string ⟨#[]⟩) (.int .i64 0) (.string ⟨#[]⟩) (.string ⟨#[]⟩) (.slice none 0 0) (.bool false) (.int .u8 0) (.int .i64 0) (.int .u8 0) (.bool false) (.int .i64 0) (.int .i64 3) (.int .i64 (k : Int))
        generalize (World.setCell (World.setCell (World.setCell (World.setCell (World.setCell (World.setCell (World.setCell (World.setCell (World.setCell (World.setCell (World.setCell (World.setCell (World.setCell (World.setCell (World.setCell wz ⟨w.heap.size, 0, none⟩ (.int .i64 0)) ⟨w.heap.size, 1, none⟩ (.int .i64 0)) ⟨w.heap.size, 2, none⟩ (.string ⟨#[]⟩)) ⟨w.heap.size, 3, none⟩ (.int .i64 0)) ⟨w.heap.size, 4, none⟩ (.string ⟨#[]⟩)) ⟨w.heap.size, 5, none⟩ (.string ⟨#[]⟩)) ⟨w.heap.size, 6, none⟩ (.slice none 0 0)) ⟨w.heap.size, 7, none⟩ (.bool false)) ⟨w.heap.size, 8, none⟩ (.int .u8 0)) ⟨w.heap.size, 9, none⟩ (.int .i64 0)) ⟨w.heap.size, 10, none⟩ (.int .u8 0)) ⟨w.heap.size, 11, none⟩ (.bool false)) ⟨w.heap.size, 12, none⟩ (.int .i64 0)) ⟨w.heap.size + 1, 0, none⟩ (.int .i64 3)) ⟨w.heap.size + 1, 1, none⟩ (.int .i64 (k : Int))) = wf at *
        obtain ⟨p0, p1, p2, p3, p4, p5, p6, p7, p8, p9, p10, p11, p12⟩ := q1.cells
        obtain ⟨⟨t0, t1⟩, -⟩ := q2.all
        refine bodyPost_ret (v := .tuple #[zeroRules, faultV 3 (k : Int)]) (by simp [results, Tryz.results6, go_sem, zeroRules, faultV, p0, p1, p2, p3, p4, p5, p6, p7, p8, p9, p10, p11, p12, t0, t1]) rfl ?_
        exact ⟨Or.inr ⟨3, (k : Int), by decide, unhide HRR, rfl⟩, q3⟩
    | true =>
      have hem : t.data.toList = [] := by
        rw [Lib.toList_data] at hte
        exact List.isEmpty_iff.1 hte
      have hPe : P = (some (last, x), k) := by rw [unhide HL, hem, linesF_end]
      have HPE := hide hPe
      clear hem hPe HL
      by_cases h8 : last = 8
      · subst h8
        have h7 : (((8 : Nat) : Int) - 1) = 7 := rfl
        rw [h7]
        clear h7
        obtain ⟨⟨v, qs, hrr, hpk⟩, hsz⟩ := hrs
        obtain ⟨ao, cap, rfl, hpcs⟩ := hpk.pcs
        unfold isGs at hrr
        obtain ⟨CB, hCB⟩ : ∃ CB : ByteArray, CB = ⟨x.C.toArray⟩ := ⟨_, rfl⟩
        obtain ⟨AB, hAB⟩ : ∃ AB : ByteArray, AB = ⟨x.A.toArray⟩ := ⟨_, rfl⟩
        obtain ⟨BB, hBB⟩ : ∃ BB : ByteArray, BB = ⟨x.B.toArray⟩ := ⟨_, rfl⟩
        rw [← hCB, ← hAB, ← hBB] at hrr
        have hA : AB.size ≤ maxLen := by rw [← len_data, hAB]; show x.A.length ≤ _; unfold maxLen; omega
        have hB : BB.size ≤ maxLen := by rw [← len_data, hBB]; show x.B.length ≤ _; unfold maxLen; omega
        have hck := gRules_any (x.W : Int) (x.H : Int) x.T CB AB BB ao cap x.ps x.dr x.st x.lo.toNat x.re.toNat (x.li : Int) (x.pl : Int) wr hA hB x.lo.toNat_lt x.re.toNat_lt hpcs
        have hoe : rulesB (x.W : Int) (x.H : Int) CB.data.toList x.T AB.data.toList BB.data.toList x.ps x.lo.toNat (x.li : Int) x.re.toNat (x.pl : Int) = x.ok := by rw [hCB, hAB, hBB, ok_whole]; rfl
        rw [hoe] at hck
        have HCK := hide hck
        have HCB := hide hCB
        have HAB := hide hAB
        have HBB := hide hBB
        have HPK := hide hpk
        have HRR0 := hide hrr
        have HSZ := hide hsz
        clear hck hoe hCB hAB hBB hA hB hpcs hpk hsz
        obtain ⟨r0, r1, r2, r3, r4, r5, r6, r7, r8, r9, r10, r11, r12⟩ := isRu.cells hrr
        clear hrr
        go_wp2_with fail
        refine (unhide HCK).mono ?_
        rintro e wr1 ⟨rfl, hl1⟩
        clear r0 r1 r2 r3 r4 r5 r6 r7 r8 r9 r10 r11 r12
        have hrr := isRu.below (unhide HRR0) hl1 hglt
        have hruz := hru.below hl1 (by omega)
        have hfxz : isFx wr1 (w.heap.size + 1) (.int .i64 0) (.int .i64 0) := by
          unfold isFx at hfx ⊢; rw [hl1.block _ (by omega)]; exact hfx
        have hblz : Below w.heap.size w wr1 := hbl.trans (hl1.mono (by omega))
        have hpk1 : isPk wr1 (w.heap.size + 1 + 1 + 1) (.slice ao x.ps.length cap) qs x.ps := (unhide HPK).keep fun k _ hk => hl1.block k hk
        have HPK1 := hide hpk1
        clear hru hfx hbl hl1 HCK HRR0 HPK hpk1
        obtain ⟨wz, hwz⟩ : ∃ wz, wz = wr1 := ⟨_, rfl⟩
        subst hwz
        cases hok : x.ok with
        | false =>
          have hRR : readR s.data.toList = (none, 1, -1) := readR_bad _ _ _ (by rw [← unhide HP, unhide HPE]) hok
          have HRR := hide hRR
          clear hRR HP HPE hrr
          obtain ⟨d0, d1, d2, d3, d4, d5, d6, d7, d8, d9, d10, d11, d12⟩ := hruz.cells
          have z0 := frozen_of_row wz w.heap.size 0 _ _ hruz
          have z1 := frozen_of_row wz w.heap.size 1 _ _ hruz
          have z2 := frozen_of_row wz w.heap.size 2 _ _ hruz
          have z3 := frozen_of_row wz w.heap.size 3 _ _ hruz
          have z4 := frozen_of_row wz w.heap.size 4 _ _ hruz
          have z5 := frozen_of_row wz w.heap.size 5 _ _ hruz
          have z6 := frozen_of_row wz w.heap.size 6 _ _ hruz
          have z7 := frozen_of_row wz w.heap.size 7 _ _ hruz
          have z8 := frozen_of_row wz w.heap.size 8 _ _ hruz
          have z9 := frozen_of_row wz w.heap.size 9 _ _ hruz
          have z10 := frozen_of_row wz w.heap.size 10 _ _ hruz
          have z11 := frozen_of_row wz w.heap.size 11 _ _ hruz
          have z12 := frozen_of_row wz w.heap.size 12 _ _ hruz
          obtain ⟨⟨e0, e1⟩, k0, k1⟩ := hfxz.all
          go_wp2
          obtain ⟨q1, q2, q3, -⟩ := boxes_put w.heap.size hruz hfxz hblz (.int .i64 0) (.int .i64 0) (.string ⟨#[]⟩) (.int .i64 0) (.string ⟨#[]⟩) (.string ⟨#[]⟩) (.slice none 0 0) (.bool false) (.int .u8 0) (.int .i64 0) (.int .u8 0) (.bool false) (.int .i64 0) (.int .i64 1) (.int .i64 (-1))
          generalize (World.setCell (World.setCell (World.setCell (World.setCell (World.setCell (World.setCell (World.setCell (World.setCell (World.setCell (World.setCell (World.setCell (World.setCell (World.setCell (World.setCell (World.setCell wz ⟨w.heap.size, 0, none⟩ (.int .i64 0)) ⟨w.heap.size, 1, none⟩ (.int .i64 0)) ⟨w.heap.size, 2, none⟩ (.string ⟨#[]⟩)) ⟨w.heap.size, 3, none⟩ (.int .i64 0)) ⟨w.heap.size, 4, none⟩ (.string ⟨#[]⟩)) ⟨w.heap.size, 5, none⟩ (.string ⟨#[]⟩)) ⟨w.heap.size, 6, none⟩ (.slice none 0 0)) ⟨w.heap.size, 7, none⟩ (.bool false)) ⟨w.heap.size, 8, none⟩ (.int .u8 0)) ⟨w.heap.size, 9, none⟩ (.int .i64 0)) ⟨w.heap.size, 10, none⟩ (.int .u8 0)) ⟨w.heap.size, 11, none⟩ (.bool false)) ⟨w.heap.size, 12, none⟩ (.int .i64 0)) ⟨w.heap.size + 1, 0, none⟩ (.int .i64 1)) ⟨w.heap.size + 1, 1, none⟩ (.int .i64 (-1))) = wf at *
          obtain ⟨p0, p1, p2, p3, p4, p5, p6, p7, p8, p9, p10, p11, p12⟩ := q1.cells
          obtain ⟨⟨t0, t1⟩, -⟩ := q2.all
          refine bodyPost_ret (v := .tuple #[zeroRules, faultV 1 (-1)]) (by simp [results, Tryz.results6, go_sem, zeroRules, faultV, p0, p1, p2, p3, p4, p5, p6, p7, p8, p9, p10, p11, p12, t0, t1]) rfl ?_
          exact ⟨Or.inr ⟨1, -1, by decide, unhide HRR, rfl⟩, q3⟩
        | true =>
          have hRR : readR s.data.toList = (some x, 0, 0) := readR_good _ _ _ (by rw [← unhide HP, unhide HPE]) hok
          have HRR := hide hRR
          clear hRR HP HPE
          obtain ⟨r0, r1, r2, r3, r4, r5, r6, r7, r8, r9, r10, r11, r12⟩ := isRu.cells hrr
          clear hrr
          obtain ⟨d0, d1, d2, d3, d4, d5, d6, d7, d8, d9, d10, d11, d12⟩ := hruz.cells
          have z0 := frozen_of_row wz w.heap.size 0 _ _ hruz
          have z1 := frozen_of_row wz w.heap.size 1 _ _ hruz
          have z2 := frozen_of_row wz w.heap.size 2 _ _ hruz
          have z3 := frozen_of_row wz w.heap.size 3 _ _ hruz
          have z4 := frozen_of_row wz w.heap.size 4 _ _ hruz
          have z5 := frozen_of_row wz w.heap.size 5 _ _ hruz
          have z6 := frozen_of_row wz w.heap.size 6 _ _ hruz
          have z7 := frozen_of_row wz w.heap.size 7 _ _ hruz
          have z8 := frozen_of_row wz w.heap.size 8 _ _ hruz
          have z9 := frozen_of_row wz w.heap.size 9 _ _ hruz
          have z10 := frozen_of_row wz w.heap.size 10 _ _ hruz
          have z11 := frozen_of_row wz w.heap.size 11 _ _ hruz
          have z12 := frozen_of_row wz w.heap.size 12 _ _ hruz
          obtain ⟨⟨e0, e1⟩, k0, k1⟩ := hfxz.all
          go_wp2
          obtain ⟨q1, q2, q3, q4⟩ := boxes_put w.heap.size hruz hfxz hblz (.int .i64 (x.W : Int)) (.int .i64 (x.H : Int)) (.string CB) (.int .i64 x.T) (.string AB) (.string BB) (.slice ao x.ps.length cap) (.bool x.dr) (.int .u8 (x.lo.toNat : Int)) (.int .i64 (x.li : Int)) (.int .u8 (x.re.toNat : Int)) (.bool x.st) (.int .i64 (x.pl : Int)) (.int .i64 0) (.int .i64 0)
          have hpk2 := (unhide HPK1).keep fun k hk _ => q4 k (by omega)
          generalize (World.setCell (World.setCell (World.setCell (World.setCell (World.setCell (World.setCell (World.setCell (World.setCell (World.setCell (World.setCell (World.setCell (World.setCell (World.setCell (World.setCell (World.setCell wz ⟨w.heap.size, 0, none⟩ (.int .i64 (x.W : Int))) ⟨w.heap.size, 1, none⟩ (.int .i64 (x.H : Int))) ⟨w.heap.size, 2, none⟩ (.string CB)) ⟨w.heap.size, 3, none⟩ (.int .i64 x.T)) ⟨w.heap.size, 4, none⟩ (.string AB)) ⟨w.heap.size, 5, none⟩ (.string BB)) ⟨w.heap.size, 6, none⟩ (.slice ao x.ps.length cap)) ⟨w.heap.size, 7, none⟩ (.bool x.dr)) ⟨w.heap.size, 8, none⟩ (.int .u8 (x.lo.toNat : Int))) ⟨w.heap.size, 9, none⟩ (.int .i64 (x.li : Int))) ⟨w.heap.size, 10, none⟩ (.int .u8 (x.re.toNat : Int))) ⟨w.heap.size, 11, none⟩ (.bool x.st)) ⟨w.heap.size, 12, none⟩ (.int .i64 (x.pl : Int))) ⟨w.heap.size + 1, 0, none⟩ (.int .i64 0)) ⟨w.heap.size + 1, 1, none⟩ (.int .i64 0)) = wf at *
          obtain ⟨p0, p1, p2, p3, p4, p5, p6, p7, p8, p9, p10, p11, p12⟩ := q1.cells
          obtain ⟨⟨t0, t1⟩, -⟩ := q2.all
          refine bodyPost_ret (v := .tuple #[x.val (.slice ao x.ps.length cap), faultV 0 0]) (by simp [results, Tryz.results6, go_sem, Rl.val, faultV, p0, p1, p2, p3, p4, p5, p6, p7, p8, p9, p10, p11, p12, t0, t1, ← unhide HCB, ← unhide HAB, ← unhide HBB]) rfl ?_
          obtain ⟨ao', cap', he, hpc⟩ := hpk2.pcs
          cases he
          exact ⟨Or.inl ⟨x, ao, cap, unhide HRR, hpc, (unhide HSZ).1, (unhide HSZ).2.1, (unhide HSZ).2.2, rfl⟩, q3⟩
      · have h8i : ¬ ((last : Int) - 1) = 7 := by omega
        have h8b : (((last : Int) - 1) != 7) = true := by simpa using h8i
        have hRR : readR s.data.toList = (none, 3, (k : Int)) := readR_last _ _ _ _ (by rw [← unhide HP, unhide HPE]) h8
        have HRR := hide hRR
        clear hRR HP HPE
        obtain ⟨lb, hlb⟩ : ∃ lb, lb = (last : Int) - 1 := ⟨_, rfl⟩
        rw [← hlb] at h8i h8b ⊢
        clear hlb
        obtain ⟨wz, hwz⟩ : ∃ wz, wz = wr := ⟨_, rfl⟩
        subst hwz
        have hruz := hru
        have hfxz := hfx
        have hblz := hbl
        obtain ⟨d0, d1, d2, d3, d4, d5, d6, d7, d8, d9, d10, d11, d12⟩ := hruz.cells
        have z0 := frozen_of_row wz w.heap.size 0 _ _ hruz
        have z1 := frozen_of_row wz w.heap.size 1 _ _ hruz
        have z2 := frozen_of_row wz w.heap.size 2 _ _ hruz
        have z3 := frozen_of_row wz w.heap.size 3 _ _ hruz
        have z4 := frozen_of_row wz w.heap.size 4 _ _ hruz
        have z5 := frozen_of_row wz w.heap.size 5 _ _ hruz
        have z6 := frozen_of_row wz w.heap.size 6 _ _ hruz
        have z7 := frozen_of_row wz w.heap.size 7 _ _ hruz
        have z8 := frozen_of_row wz w.heap.size 8 _ _ hruz
        have z9 := frozen_of_row wz w.heap.size 9 _ _ hruz
        have z10 := frozen_of_row wz w.heap.size 10 _ _ hruz
        have z11 := frozen_of_row wz w.heap.size 11 _ _ hruz
        have z12 := frozen_of_row wz w.heap.size 12 _ _ hruz
        obtain ⟨⟨e0, e1⟩, k0, k1⟩ := hfxz.all
        go_wp2
        obtain ⟨q1, q2, q3, -⟩ := boxes_put w.heap.size hruz hfxz hblz (.int .i64 0) (.int .i64 0) (.string ⟨#[]⟩) (.int .i64 0) (.string ⟨#[]⟩) (.string ⟨#[]⟩) (.slice none 0 0) (.bool false) (.int .u8 0) (.int .i64 0) (.int .u8 0) (.bool false) (.int .i64 0) (.int .i64 3) (.int .i64 (k : Int))
        generalize (World.setCell (World.setCell (World.setCell (World.setCell (World.setCell (World.setCell (World.setCell (World.setCell (World.setCell (World.setCell (World.setCell (World.setCell (World.setCell (World.setCell (World.setCell wz ⟨w.heap.size, 0, none⟩ (.int .i64 0)) ⟨w.heap.size, 1, none⟩ (.int .i64 0)) ⟨w.heap.size, 2, none⟩ (.string ⟨#[]⟩)) ⟨w.heap.size, 3, none⟩ (.int .i64 0)) ⟨w.heap.size, 4, none⟩ (.string ⟨#[]⟩)) ⟨w.heap.size, 5, none⟩ (.string ⟨#[]⟩)) ⟨w.heap.size, 6, none⟩ (.slice none 0 0)) ⟨w.heap.size, 7, none⟩ (.bool false)) ⟨w.heap.size, 8, none⟩ (.int .u8 0)) ⟨w.heap.size, 9, none⟩ (.int .i64 0)) ⟨w.heap.size, 10, none⟩ (.int .u8 0)) ⟨w.heap.size, 11, none⟩ (.bool false)) ⟨w.heap.size, 12, none⟩ (.int .i64 0)) ⟨w.heap.size + 1, 0, none⟩ (.int .i64 3)) ⟨w.heap.size + 1, 1, none⟩ (.int .i64 (k : Int))) = wf at *
        obtain ⟨p0, p1, p2, p3, p4, p5, p6, p7, p8, p9, p10, p11, p12⟩ := q1.cells
        obtain ⟨⟨t0, t1⟩, -⟩ := q2.all
        refine bodyPost_ret (v := .tuple #[zeroRules, faultV 3 (k : Int)]) (by simp [results, Tryz.results6, go_sem, zeroRules, faultV, p0, p1, p2, p3, p4, p5, p6, p7, p8, p9, p10, p11, p12, t0, t1]) rfl ?_
        exact ⟨Or.inr ⟨3, (k : Int), by decide, unhide HRR, rfl⟩, q3⟩
end Go.Proofs.YtfhmpgjemobjhaaGreatDoor
