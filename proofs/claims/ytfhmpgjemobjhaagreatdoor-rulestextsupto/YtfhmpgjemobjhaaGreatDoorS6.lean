/-
  The document's answer on rules (package gameref), walked: pieceText.
-/
import Derived.Test.YtfhmpgjemobjhaaGreatDoorJ17
import Derived.Test.YtfhmpgjemobjhaaGreatDoorJ9
import Derived.Deep.DeepCutAuto
namespace Go.Proofs.YtfhmpgjemobjhaaGreatDoor
open Go.RowKit
attribute [local go_sem ↓] Go.wp_at_zero Go.wp_at_succ

theorem wide_of_ok (z : Wy) (h : z.ok = true) : wideW z := by
  simp only [Wy.ok, inB, Bool.and_eq_true, Bool.or_eq_true, Bool.not_eq_true', Bool.and_eq_false_iff, decide_eq_true_eq, decide_eq_false_iff_not] at h
  unfold wideW
  omega
theorem conv1g (w : World) (g : Nat) (c : UInt8) (h : w.heap[g]? = some (.cells #[.int .u8 (c.toNat : Int)] 5 (0, 0))) :
    (convert 42 9 (.slice (some ⟨g, 0, none⟩) 1 1)).run Tryz.prog w = .ok (.string ⟨#[c]⟩) w := by
  refine run_convert_bytes_back w 42 9 5 ⟨g, 0, none⟩ 1 [c] Tryz.underlying42 Tryz.underlying5 Tryz.underlying9 fun j hj => ?_
  have e : (⟨g, 0, none⟩ : Addr).add j = ⟨g, 0 + j, none⟩ := by unfold Addr.add; split <;> simp_all
  rw [e, cell_of_row _ _ _ _ _ _ h]
  have hj0 : j = 0 := by simpa using hj
  subst hj0
  rfl
theorem join_snoc (sep z : List UInt8) : ∀ (l : List (List UInt8)) (x : List UInt8), Lib.join (x :: (l ++ [z])) sep = Lib.join (x :: l) sep ++ (sep ++ z)
  | [], x => by rw [List.nil_append, join_two, Lib.join_one, Lib.join_one]
  | y :: l, x => by
    rw [List.cons_append, join_two, join_two, join_snoc sep z l y]
    simp
/-- The ways behind a piece's worth. -/
def waysL (ws : List Wy) : List UInt8 := if ws = [] then [] else 58 :: 32 :: Lib.join (ws.map wayL) [44, 32]
theorem waysL_first (z : Wy) : waysL [z] = [58, 32] ++ wayL z := by simp [waysL, Lib.join_one]
theorem waysL_more (ws : List Wy) (z : Wy) (h : ws ≠ []) : waysL (ws ++ [z]) = waysL ws ++ ([44, 32] ++ wayL z) := by
  match ws, h with
  | y :: t, _ =>
    have := join_snoc [44, 32] (wayL z) (t.map wayL) (wayL y)
    simp only [waysL, List.cons_append, reduceCtorEq, if_false, List.map_cons, List.map_append, List.map_nil, this]
theorem pieceL_waysL (c : UInt8) (v : Int) (ws : List Wy) : pieceL c v ws = c :: 32 :: (Lib.decDigits v.toNat ++ waysL ws) := rfl

set_option maxHeartbeats 2000000 in
set_option maxRecDepth 100000 in
theorem gPieceText_any (c : UInt8) (v : Int) (ao : Option Addr) (cap : Nat) (ws : List Wy) (w : World) (h : isWys w ao cap ws) (hok : pcB (c.toNat : Nat) v ws = true) (ht : isTab w) :
    Calls Tryz.prog 31 #[.agg #[.int .u8 (c.toNat : Int), .int .i64 v, .slice ao ws.length cap]] w fun e w' => e = .returned (.string ⟨(wPiece ++ 32 :: pieceL c v ws).toArray⟩) ∧ Below w.heap.size w w' := by
  simp only [pcB, inB, Bool.and_eq_true, decide_eq_true_eq] at hok
  obtain ⟨⟨⟨_, hv0, hv1⟩, h8⟩, hall⟩ := hok
  obtain ⟨v, rfl⟩ := Int.eq_ofNat_of_zero_le hv0
  have hle := h.le
  have hmx := h.mx
  unfold maxLen at hmx
  obtain ⟨wa, hwa⟩ : ∃ wa, wa = w.alloc (.cells #[.int .u8 (c.toNat : Int), .int .i64 (v : Int), .slice ao ws.length cap] 48 (0, 0)) := ⟨_, rfl⟩
  have hba : Below w.heap.size w wa := by rw [hwa]; exact (Below.refl _ w).alloc (Nat.le_refl _) _
  have hbox : wa.heap[w.heap.size]? = some (.cells #[.int .u8 (c.toNat : Int), .int .i64 (v : Int), .slice ao ws.length cap] 48 (0, 0)) := by rw [hwa]; exact heap_alloc_new w _
  have hsa : wa.heap.size = w.heap.size + 1 := by rw [hwa]; simp
  have hta : isTab wa := ht.below hba
  have c0 : wa.cell? ⟨w.heap.size, 0, none⟩ = some (.int .u8 (c.toNat : Int)) := cell_of_row _ _ _ _ _ _ hbox
  have c1 : wa.cell? ⟨w.heap.size, 1, none⟩ = some (.int .i64 (v : Int)) := cell_of_row _ _ _ _ _ _ hbox
  have c2 : wa.cell? ⟨w.heap.size, 2, none⟩ = some (.slice ao ws.length cap) := cell_of_row _ _ _ _ _ _ hbox
  obtain ⟨X, hX⟩ : ∃ X : ByteArray, X = ⟨(Lib.decDigits v).toArray⟩ := ⟨_, rfl⟩
  have zX : X.size ≤ 4 := by rw [hX]; exact dec_size4 v (by omega)
  obtain ⟨L, hL⟩ : ∃ L : ByteArray, L = ⟨#[c]⟩ := ⟨_, rfl⟩
  have zL : L.size = 1 := by rw [hL]; rfl
  obtain ⟨S1, h1⟩ : ∃ S1, (⟨#[112, 105, 101, 99, 101, 32]⟩ : ByteArray) ++ L = S1 := ⟨_, rfl⟩
  obtain ⟨S2, h2⟩ : ∃ S2, S1 ++ ⟨#[32]⟩ = S2 := ⟨_, rfl⟩
  obtain ⟨S3, h3⟩ : ∃ S3, S2 ++ X = S3 := ⟨_, rfl⟩
  have hB1 : (⟨#[32]⟩ : ByteArray).size = 1 := rfl
  have hB6 : (⟨#[112, 105, 101, 99, 101, 32]⟩ : ByteArray).size = 6 := rfl
  have z1 : S1.size ≤ 7 := by rw [← h1, ByteArray.size_append]; omega
  have z2 : S2.size ≤ 8 := by rw [← h2, ByteArray.size_append]; omega
  have z3 : S3.size ≤ 12 := by rw [← h3, ByteArray.size_append]; omega
  have q1 : 6 + L.size ≤ 9223372036854775807 := by omega
  have q1' : ¬ 6 + L.size > 9223372036854775807 := by omega
  have q2 : S1.size + 1 ≤ 9223372036854775807 := by omega
  have q2' : ¬ S1.size + 1 > 9223372036854775807 := by omega
  have q3 : S2.size + X.size ≤ 9223372036854775807 := by omega
  have q3' : ¬ S2.size + X.size > 9223372036854775807 := by omega
  have hd : S3.data.toList = wPiece ++ 32 :: c :: 32 :: Lib.decDigits v := by
    rw [← h3, ← h2, ← h1, ba_app, ba_app, ba_app, hX, hL]; simp [wPiece]
  have HCV : Hid (∀ (u : World) (g : Nat), u.heap[g]? = some (.cells #[.int .u8 (c.toNat : Int)] 5 (0, 0)) → (convert 42 9 (.slice (some ⟨g, 0, none⟩) 1 1)).run Tryz.prog u = .ok (.string L) u) := by
    refine hide fun u g hg => ?_
    rw [hL]; exact conv1g u g c hg
  have HIT : Hid (∀ u, isTab u → Calls Tryz.prog 15 #[.int .i64 (v : Int)] u fun e u' => e = .returned (.string X) ∧ Below u.heap.size u u') := by
    rw [hX]; exact fun u ht => itoaN_any v u (by omega) ht
  have HD := hide hd
  have HWA := hide hwa
  have HBA := hide hba
  have HW := hide h
  have HALL := hide (List.all_eq_true.1 hall)
  have htd : isTab wa.drew := hta
  have htr : isTab (wa.alloc (.cells #[.int .u8 (c.toNat : Int)] 5)).drew := hta.below (((Below.refl _ _).alloc (Nat.le_refl _) _).drew)
  have cva := unhide HCV (wa.alloc (.cells #[.int .u8 (c.toNat : Int)] 5)) wa.heap.size (heap_alloc_new wa _)
  have cvd := unhide HCV (wa.alloc (.cells #[.int .u8 (c.toNat : Int)] 5)).drew wa.heap.size (heap_alloc_new wa _)
  have hlt : w.heap.size < wa.heap.size := by omega
  have hld : w.heap.size < wa.drew.heap.size := hlt
  have hsr : (wa.alloc (.cells #[.int .u8 (c.toNat : Int)] 5)).drew.heap.size = wa.heap.size + 1 := by simp
  have hlr : w.heap.size < (wa.alloc (.cells #[.int .u8 (c.toNat : Int)] 5)).drew.heap.size := by omega
  have hgr : wa.heap.size < (wa.alloc (.cells #[.int .u8 (c.toNat : Int)] 5)).drew.heap.size := by omega
  have c0d : wa.drew.cell? ⟨w.heap.size, 0, none⟩ = some (.int .u8 (c.toNat : Int)) := c0
  have c0r : (wa.alloc (.cells #[.int .u8 (c.toNat : Int)] 5)).drew.cell? ⟨w.heap.size, 0, none⟩ = some (.int .u8 (c.toNat : Int)) := (((Below.refl _ wa).alloc (Nat.le_refl _) _).drew.cell (p := ⟨w.heap.size, 0, none⟩) hlt).trans c0
  have HC2 := hide c2
  have HTW := hide ht
  have HLD := hide hld
  have HLR := hide hlr
  have HGR := hide hgr
  have HLE := hide (Below.trans (((Below.refl _ wa).alloc (Nat.le_refl _) (.cells #[.int .u8 (c.toNat : Int)] 5)).drew) (Below.refl _ _))
  clear hd hwa hbox hX hL ht h hall hv0 hsa hld hsr hlr hgr
  go_enter Tryz.func31, Tryz.ntmps31
  go_upto_region 1 with fail
  rw [← unhide HWA]
  go_cut [3] from 5 to 14 (fun s wc => s = .string S3 ∧ Below wa.heap.size wa wc)
  case first =>
    go_region_with (go_at_call 15; (with_reducible refine (unhide HIT _ (by first | exact htd | exact htr)).mono ?_); rintro e w1 ⟨rfl, hb⟩; have k0 : w1.cell? ⟨w.heap.size, 0, none⟩ = some (.int .u8 (c.toNat : Int)) := (by first | exact (hb.cell (p := ⟨w.heap.size, 0, none⟩) (unhide HLD)).trans c0d | exact (hb.cell (p := ⟨w.heap.size, 0, none⟩) (unhide HLR)).trans c0r); (try have cv1 := unhide HCV w1 wa.heap.size ((hb.block wa.heap.size (unhide HGR)).trans (heap_alloc_new wa _))); (have cv2 := unhide HCV (w1.alloc (.cells #[.int .u8 (c.toNat : Int)] 5)) w1.heap.size (heap_alloc_new w1 _)))
    all_goals go_wp2_with fail
    all_goals go_meet
    all_goals first
      | exact ⟨rfl, (unhide HLE).trans (hb.mono (Nat.le_of_lt (unhide HGR)))⟩
      | exact ⟨rfl, Below.alloc (Below.trans ((Below.refl wa.heap.size wa).drew) hb) hb.size _⟩
      | exact ⟨rfl, Below.trans ((Below.refl wa.heap.size wa).drew) hb⟩
  case rest =>
    obtain ⟨rfl, hbw⟩ := hcut
    clear htd htr cva cvd c0d c0r c0 c1 c2 h1 h2 h3 q1 q1' q2 q2' q3 q3' hta
    have HBW := hide hbw
    clear hbw
    go_wp2
    go_loopw [3, 4] (fun sv iv wr => ∃ (k : Nat) (Z : ByteArray), k ≤ ws.length ∧ sv = .string Z ∧ iv = .int .i64 (k : Int) ∧ Hid (Z.data.toList = S3.data.toList ++ waysL (ws.take k)) ∧ Z.size ≤ 12 + k * 17 ∧ Below wa.heap.size wa wr) (fun _ iv _ => ws.length - (intOf iv).toNat)
    case atStart => exact ⟨0, S3, Nat.zero_le _, rfl, rfl, by simp [Hid, waysL], by omega, unhide HBW⟩
    case round =>
      obtain ⟨k, Z, hk, rfl, rfl, HZ, hZs, hbr⟩ := hrel
      clear HBW
      have hszr := hbr.size
      have c2 : wr.cell? ⟨w.heap.size, 2, none⟩ = some (.slice ao ws.length cap) := (hbr.cell (p := ⟨w.heap.size, 2, none⟩) hlt).trans (unhide HC2)
      have hw : Below w.heap.size w wr := (unhide HBA).trans (hbr.mono (by omega))
      by_cases hkl : k < ws.length
      · have hki : (k : Int) < (ws.length : Int) := by omega
        have hk0 : (0 : Int) ≤ (k : Int) := by omega
        obtain ⟨z, hz⟩ : ∃ z, ws[k]? = some z := ⟨ws[k], List.getElem?_eq_getElem hkl⟩
        obtain ⟨g, off, eg, hg, hcell⟩ := (unhide HW).cells (by rintro rfl; simp at hkl)
        subst eg
        obtain ⟨e0, e1, e2, e3⟩ := hcell k z hz
        have f0 := (hw.cell (p := ⟨g, off + k * 4, none⟩) hg).trans e0
        have f1 := (hw.cell (p := ⟨g, off + k * 4 + 1, none⟩) hg).trans e1
        have f2 := (hw.cell (p := ⟨g, off + k * 4 + 2, none⟩) hg).trans e2
        have f3 := (hw.cell (p := ⟨g, off + k * 4 + 3, none⟩) hg).trans e3
        have hzok := unhide HALL z (List.mem_of_getElem? hz)
        have hwt := gWayText_any z wr (wide_of_ok z hzok) ((unhide HTW).below hw)
        obtain ⟨WT, hWT⟩ : ∃ WT : ByteArray, WT = ⟨(wayL z).toArray⟩ := ⟨_, rfl⟩
        rw [← hWT] at hwt
        have zWT : WT.size ≤ 15 := by rw [hWT, ← len_data]; exact wayL_len z hzok
        have htk := take_snocW ws k z hz
        have HWT := hide hwt
        by_cases hk1 : k = 0
        · have hkb : ((k : Int) == 0) = true := by simp; omega
          have hkn : (k == 0) = true := by simp; omega
          have hkd : decide ((k : Int) = 0) = true := by simp; omega
          have hfin : (Z ++ ⟨#[58, 32]⟩ ++ WT).data.toList = S3.data.toList ++ waysL (ws.take (k + 1)) := by
            rw [htk, ba_app, ba_app, unhide HZ, hWT, hk1]
            simp [waysL, Lib.join_one]
          have HFIN := hide hfin
          clear e0 e1 e2 e3 hcell hz hzok hwt hWT htk hfin hk1
          go_wp2_with fail
          refine (unhide HWT).mono ?_
          rintro e w2 ⟨rfl, hb2⟩
          have hb3 : Below wa.heap.size wa w2 := hbr.trans (hb2.mono hszr)
          clear hb2 f0 f1 f2 f3 c2
          go_wp2
          go_roundw
          case rel => exact ⟨k + 1, Z ++ ⟨#[58, 32]⟩ ++ WT, by omega, rfl, by go_num, HFIN, by rw [ByteArray.size_append, ByteArray.size_append]; show Z.size + 2 + WT.size ≤ _; omega, hb3⟩
          case measure => simp [intOf]; omega
        · have hkb : ((k : Int) == 0) = false := by simp; omega
          have hkn : (k == 0) = false := by simp; omega
          have hkd : ¬ (k : Int) = 0 := by omega
          have hfin : (Z ++ ⟨#[44, 32]⟩ ++ WT).data.toList = S3.data.toList ++ waysL (ws.take (k + 1)) := by
            rw [htk, ba_app, ba_app, unhide HZ, hWT, waysL_more _ _ (by intro h; have := congrArg List.length h; rw [List.length_take, List.length_nil] at this; omega)]
            simp
          have HFIN := hide hfin
          clear e0 e1 e2 e3 hcell hz hzok hwt hWT htk hfin hk1
          go_wp2_with fail
          refine (unhide HWT).mono ?_
          rintro e w2 ⟨rfl, hb2⟩
          have hb3 : Below wa.heap.size wa w2 := hbr.trans (hb2.mono hszr)
          clear hb2 f0 f1 f2 f3 c2
          go_wp2
          go_roundw
          case rel => exact ⟨k + 1, Z ++ ⟨#[44, 32]⟩ ++ WT, by omega, rfl, by go_num, HFIN, by rw [ByteArray.size_append, ByteArray.size_append]; show Z.size + 2 + WT.size ≤ _; omega, hb3⟩
          case measure => simp [intOf]; omega
      · obtain rfl : k = ws.length := by omega
        have hki : ¬ (ws.length : Int) < (ws.length : Int) := by omega
        have hfin : Z.data.toList = (⟨(wPiece ++ 32 :: pieceL c (v : Int) ws).toArray⟩ : ByteArray).data.toList := by
          rw [unhide HZ, unhide HD, List.take_of_length_le (Nat.le_refl _), pieceL_waysL]
          simp
        have HFIN := hide hfin
        clear hfin
        go_wp2
        go_ret
        exact ⟨(ret_str (unhide HFIN) : Ending.returned (.string Z) = _), hw⟩
end Go.Proofs.YtfhmpgjemobjhaaGreatDoor
