/-
  package rules, walked: texts of pieces.
-/
import Derived.Test.YtfhmpgjemobjhaaGreatDoorR7
import Derived.Deep.RegionHeld3
import Derived.Lib.Strings
namespace Go.Proofs.YtfhmpgjemobjhaaGreatDoor
open Go.RowKit
attribute [local go_sem ↓] Go.wp_at_zero Go.wp_at_succ

theorem conv1r (w : World) (c : UInt8) :
    (convert 42 9 (.slice (some ⟨w.heap.size, 0, none⟩) 1 1)).run Tryz.prog (w.alloc (.cells #[.int .u8 (c.toNat : Int)] 5)) = .ok (.string ⟨#[c]⟩) (w.alloc (.cells #[.int .u8 (c.toNat : Int)] 5)) := by
  refine run_convert_bytes_back (w.alloc (.cells #[.int .u8 (c.toNat : Int)] 5)) 42 9 5 ⟨w.heap.size, 0, none⟩ 1 [c] Tryz.underlying42 Tryz.underlying5 Tryz.underlying9 fun j hj => ?_
  have e : (⟨w.heap.size, 0, none⟩ : Addr).add j = ⟨w.heap.size, 0 + j, none⟩ := by unfold Addr.add; split <;> simp_all
  rw [e, cell_of_row _ _ _ _ _ _ (heap_alloc_new w _)]
  have hj0 : j = 0 := by simpa using hj
  subst hj0
  rfl
set_option maxHeartbeats 400000 in
theorem letterText_any (c : UInt8) (w : World) :
    Calls Tryz.prog 14 #[.int .u8 (c.toNat : Int)] w fun e w' => e = .returned (.string ⟨#[c]⟩) ∧ Below w.heap.size w w' := by
  have hcv := conv1r w c
  go_enter Tryz.func14, Tryz.ntmps14
  go_wp2
  go_ret
  exact ⟨rfl, (Below.refl _ w).alloc (Nat.le_refl _) _⟩

/-! ### Rows of strings of the call's own -/
def svals (l : List ByteArray) : List Value := l.map fun x => Value.string x
def ownS (w : World) (g : Nat) (l : List ByteArray) : Prop := w.heap[g]? = some (.cells (svals l).toArray 9 (0, 0))
theorem ownS.cell {w : World} {g : Nat} {l : List ByteArray} (h : ownS w g l) {k : Nat} {x : ByteArray} (hx : l[k]? = some x) : w.cell? ⟨g, k, none⟩ = some (.string x) := by
  rw [cell_of_row _ _ _ _ _ _ h]
  simp [svals, hx]
theorem ownS.frozen {w : World} {g : Nat} {l : List ByteArray} (h : ownS w g l) (k : Nat) : w.frozen? ⟨g, k, none⟩ = false := frozen_of_row w g k _ _ h
theorem ownS.set {w : World} {g : Nat} {l : List ByteArray} (h : ownS w g l) (k : Nat) (x : ByteArray) : ownS (w.setCell ⟨g, k, none⟩ (.string x)) g (l.set k x) := by
  unfold ownS
  rw [heap_setCell_same w g k _ _ (.string x) h]
  simp [svals, List.map_set]
theorem ownS.lt {w : World} {g : Nat} {l : List ByteArray} (h : ownS w g l) : g < w.heap.size := by
  rcases Nat.lt_or_ge g w.heap.size with hlt | hge
  · exact hlt
  · unfold ownS at h; rw [Array.getElem?_eq_none hge] at h; cases h
theorem ownS.below {w w' : World} {g B : Nat} {l : List ByteArray} (h : ownS w g l) (hb : Below B w w') (hB : g < B) : ownS w' g l := by
  unfold ownS; rw [hb.block g hB]; exact h
theorem ownS_of_row {w : World} {base g n : Nat} {l : List ByteArray} (h : w.ownsRow base 9 1 (.slice (some ⟨g, 0, none⟩) n n) n (svals l)) : ownS w g l := by
  obtain ⟨_, h⟩ := h
  rcases h with ⟨e, _⟩ | ⟨g', cap, cur, e, hb, hg, hn, hm, hc, ht⟩
  · cases e
  · cases e
    have : cur.toList = svals l := by
      rw [← ht, List.take_of_length_le (by rw [Array.length_toList, hc]; omega)]
    unfold ownS
    rw [hg, ← this]
theorem made_strs (n : Nat) : (madeCells (Value.string ⟨#[]⟩).cells (n * 1)).toList = svals (List.replicate n ⟨#[]⟩) := by
  have h : (Value.string ⟨#[]⟩).cells = #[Value.string ⟨#[]⟩] := rfl
  rw [h, toList_madeCells_one]
  simp [svals]
theorem Tryz.infoS : (Tryz.prog.info? 9).map (fun i => (i.zero, i.size, i.bytes)) = some (some (.string ⟨#[]⟩), 1, 16) := by kernel_rfl

/-- A piece's text. -/
def pieceL (l : UInt8) (v : Int) (ws : List Wy) : List UInt8 := l :: 32 :: (Lib.decDigits v.toNat ++ (if ws = [] then [] else 58 :: 32 :: Lib.join (ws.map wayL) [44, 32]))

theorem dec_len (n : Nat) (h : n < 10000) : (Lib.decDigits n).length ≤ 4 := by
  rw [Lib.decDigits_length]
  rw [Lib.nDigits]
  split
  · omega
  · rw [Lib.nDigits]
    split
    · omega
    · rw [Lib.nDigits]
      split
      · omega
      · rw [Lib.nDigits]
        split
        · omega
        · omega
theorem dec_size4 (n : Nat) (h : n < 10000) : (⟨(Lib.decDigits n).toArray⟩ : ByteArray).size ≤ 4 := by
  rw [← len_data]; exact dec_len n h

theorem join_two (x y : List UInt8) (l : List (List UInt8)) (sep : List UInt8) : Lib.join (x :: y :: l) sep = x ++ (sep ++ Lib.join (y :: l) sep) := by
  rw [Lib.join_cons, Lib.join_cons]
  simp [Lib.joinTail]
theorem join_len (sep : List UInt8) (b : Nat) : ∀ l : List (List UInt8), (∀ x ∈ l, x.length ≤ b) → (Lib.join l sep).length ≤ l.length * (b + sep.length)
  | [], _ => by simp [Lib.join_nil]
  | [x], h => by
    have := h x (by simp)
    rw [Lib.join_one]
    simp; omega
  | x :: y :: l, h => by
    have h1 := h x (by simp)
    have h2 := join_len sep b (y :: l) (fun z hz => h z (List.mem_cons_of_mem _ hz))
    rw [join_two, List.length_append, List.length_append, List.length_cons, Nat.add_mul, Nat.one_mul]
    omega
theorem wayL_len (z : Wy) (hz : z.ok = true) : (wayL z).length ≤ 15 := by
  simp only [Wy.ok, inB, Bool.and_eq_true, Bool.or_eq_true, decide_eq_true_eq] at hz
  obtain ⟨⟨⟨⟨⟨hx0, hx1⟩, hy0, hy1⟩, _⟩, _⟩, _⟩ := hz
  have k1 : (kindL z.k).length ≤ 5 := by
    unfold kindL
    split
    · decide
    · split <;> decide
  have k2 : (takeL z.t).length ≤ 6 := by
    unfold takeL
    split
    · decide
    · split <;> decide
  have k3 : (Lib.decDigits z.x.toNat).length = 1 := by rw [Lib.decDigits_one (by omega)]; rfl
  have k4 : (Lib.decDigits z.y.toNat).length = 1 := by rw [Lib.decDigits_one (by omega)]; rfl
  simp only [wayL, List.length_append, List.length_cons]
  omega

set_option maxHeartbeats 2000000 in
set_option maxRecDepth 100000 in
theorem pieceText_any (c : UInt8) (v : Int) (ao : Option Addr) (cap : Nat) (ws : List Wy) (w : World) (h : isWys w ao cap ws) (hok : pcB (c.toNat : Nat) v ws = true) (ht : isTab w) :
    Calls Tryz.prog 13 #[.agg #[.int .u8 (c.toNat : Int), .int .i64 v, .slice ao ws.length cap]] w fun e w' => e = .returned (.string ⟨(pieceL c v ws).toArray⟩) ∧ Below w.heap.size w w' := by
  obtain ⟨i0, hi, hz0, hz1, hz2⟩ := info_parts Tryz.infoS
  simp only [pcB, inB, Bool.and_eq_true, decide_eq_true_eq] at hok
  obtain ⟨⟨⟨_, hv0, hv1⟩, h8⟩, hall⟩ := hok
  obtain ⟨v, rfl⟩ := Int.eq_ofNat_of_zero_le hv0
  have hle := h.le
  have hmx := h.mx
  unfold maxLen at hmx
  obtain ⟨wa, hwa⟩ : ∃ wa, wa = w.alloc (.cells #[.int .u8 (c.toNat : Int), .int .i64 (v : Int), .slice ao ws.length cap] 48 (0, 0)) := ⟨_, rfl⟩
  have hba : Below w.heap.size w wa := by rw [hwa]; exact (Below.refl _ w).alloc (Nat.le_refl _) _
  have hbox : wa.heap[w.heap.size]? = some (.cells #[.int .u8 (c.toNat : Int), .int .i64 (v : Int), .slice ao ws.length cap] 48 (0, 0)) := by rw [hwa]; exact heap_alloc_new w _
  have hsa : wa.heap.size = w.heap.size + 1 := by rw [hwa]; simp
  have hta : isTab wa := ht.below hba
  have c0 : wa.cell? ⟨w.heap.size, 0, none⟩ = some (.int .u8 (c.toNat : Int)) := cell_of_row _ _ _ _ _ _ hbox
  have c1 : wa.cell? ⟨w.heap.size, 1, none⟩ = some (.int .i64 (v : Int)) := cell_of_row _ _ _ _ _ _ hbox
  have c2 : wa.cell? ⟨w.heap.size, 2, none⟩ = some (.slice ao ws.length cap) := cell_of_row _ _ _ _ _ _ hbox
  obtain ⟨X, hX⟩ : ∃ X : ByteArray, X = ⟨(Lib.decDigits v).toArray⟩ := ⟨_, rfl⟩
  have zX : X.size ≤ 4 := by rw [hX]; exact dec_size4 v (by omega)
  obtain ⟨L, hL⟩ : ∃ L : ByteArray, L = ⟨#[c]⟩ := ⟨_, rfl⟩
  have zL : L.size = 1 := by rw [hL]; rfl
  obtain ⟨S1, h1⟩ : ∃ S1, L ++ ⟨#[32]⟩ = S1 := ⟨_, rfl⟩
  obtain ⟨S2, h2⟩ : ∃ S2, S1 ++ X = S2 := ⟨_, rfl⟩
  have hB1 : (⟨#[32]⟩ : ByteArray).size = 1 := rfl
  have z1 : S1.size ≤ 2 := by rw [← h1, ByteArray.size_append]; omega
  have z2 : S2.size ≤ 6 := by rw [← h2, ByteArray.size_append]; omega
  have q2 : S1.size + X.size ≤ 9223372036854775807 := by omega
  have q3 : ¬ S1.size + X.size > 9223372036854775807 := by omega
  have hd : S2.data.toList = c :: 32 :: Lib.decDigits v := by
    rw [← h2, ← h1, ba_app, ba_app, hX, hL]; simp
  have HLT : Hid (∀ w, Calls Tryz.prog 14 #[.int .u8 (c.toNat : Int)] w fun e w' => e = .returned (.string L) ∧ Below w.heap.size w w') := by
    rw [hL]; exact fun w => letterText_any c w
  have HIT : Hid (∀ w, isTab w → Calls Tryz.prog 15 #[.int .i64 (v : Int)] w fun e w' => e = .returned (.string X) ∧ Below w.heap.size w w') := by
    rw [hX]; exact fun w ht => itoaN_any v w (by omega) ht
  have HD := hide hd
  have HWA := hide hwa
  have HBA := hide hba
  have HTA := hide hta
  have HW := hide h
  have hbd : Below w.heap.size w wa.drew := hba.drew
  have hsd : w.heap.size < wa.drew.heap.size := by dsimp only [World.drew]; omega
  have htd : isTab wa.drew := hta
  clear hd hwa hbox hX hL ht hta h hv0
  go_enter Tryz.func13, Tryz.ntmps13
  go_wp2
  rw [← unhide HWA]
  go_region_held3 (fun u => u.cell? ⟨w.heap.size, 0, none⟩ = some (.int .u8 (c.toNat : Int)) ∧ u.cell? ⟨w.heap.size, 1, none⟩ = some (.int .i64 (v : Int)) ∧ u.cell? ⟨w.heap.size, 2, none⟩ = some (.slice ao ws.length cap) ∧ Below w.heap.size w u ∧ w.heap.size < u.heap.size ∧ isTab u)
    (first
      | (go_keep; done)
      | ((try go_split_ands); (try dsimp only); (repeat' apply And.intro) <;> first
           | (go_keep; done)
           | exact hbd
           | exact hsd
           | exact htd
           | (rw [hb.cell (by first | (dsimp only; omega) | (dsimp only [World.drew]; omega))]; assumption)
           | exact Below.trans (by assumption) (hb.mono (by omega))
           | exact Nat.lt_of_lt_of_le (by assumption) hb.size
           | exact isTab.below (by assumption) hb))
    (first
      | (go_at_call 14; (with_reducible refine (unhide HLT _).mono ?_); rintro e w1 ⟨rfl, hb⟩; have ht1 := isTab.below htd hb)
      | (go_at_call 15; (refine (unhide HIT _ (by first | exact ht1 | exact htd)).mono ?_); rintro e w1 ⟨rfl, hb⟩))
  rename_i hH
  obtain ⟨d0, d1, d2, hbw, hsw, htw⟩ := hH
  clear hb ht1 c0 c1 c2 hbd hsd htd d0 d1 h1 h2 q2 q3
  by_cases hn0 : ws = []
  · subst hn0
    have hfin : S2.data.toList = (⟨(pieceL c (v : Int) []).toArray⟩ : ByteArray).data.toList := by
      rw [unhide HD]; simp [pieceL]
    have HFIN := hide hfin
    clear hfin
    go_wp2
    go_ret
    exact ⟨(ret_str (unhide HFIN) : Ending.returned (.string S2) = _), hbw⟩
  · have hpos := List.length_pos_iff.2 hn0
    obtain ⟨n, hn⟩ : ∃ n, n = ws.length := ⟨_, rfl⟩
    rw [← hn] at hpos hle h8 d2
    have hni : ¬ (n : Int) = 0 := by omega
    have hnb : ((n : Int) == 0) = false := by simp; omega
    have hnn : (n == 0) = false := by simp; omega
    obtain ⟨g, off, eg, hg, hcell⟩ := (unhide HW).cells hn0
    subst eg
    have HCELL := hide hcell
    have HN := hide hn
    have HALL := hide (List.all_eq_true.1 hall)
    have HBW := hide hbw
    have HTW := hide htw
    rw [← hn]
    clear hcell hn hall hbw htw hn0
    go_wp2_with (at_make; go_must (refine wpList_make_full _ rfl _ _ 80 rfl w1.heap.size 9 i0 (.string ⟨#[]⟩) 1 Tryz.underlying80 hi hz0 hz1 .i64 .i64 _ _ n rfl rfl (by go_num) (by go_num) (by rw [hz2]; omega) (by unfold maxLen; omega) (Nat.le_refl _) ?_; intro wm hown hgrow; have hbm : Below w1.heap.size w1 wm := (Below.refl _ _).grown hgrow (Nat.le_refl _) (by simp); have d2m := (hbm.cell (p := ⟨w.heap.size, 2, none⟩) hsw).trans d2))
    have hrow : ownS wm w1.heap.size (List.replicate n ⟨#[]⟩) := by
      rw [made_strs] at hown
      exact ownS_of_row hown
    have hbwm : Below w.heap.size w wm := (unhide HBW).trans (hbm.mono (by omega))
    have htm : isTab wm := (unhide HTW).below hbm
    have HROW := hide hrow
    have HBWM := hide hbwm
    clear hown hgrow hrow hbwm htm d2 HBW HTW
    have hgw1 : w.heap.size ≤ w1.heap.size := by omega
    go_loopw [27] (fun iv wr => ∃ (k : Nat) (Z : List ByteArray), k ≤ n ∧ iv = .int .i64 (k : Int) ∧ Z.length = n ∧ Hid (∀ j z, j < k → ws[j]? = some z → Z[j]? = some ⟨(wayL z).toArray⟩) ∧ ownS wr w1.heap.size Z ∧ Below w.heap.size w wr) (fun iv _ => n - (intOf iv).toNat)
    case atStart => exact ⟨0, List.replicate n ⟨#[]⟩, Nat.zero_le _, rfl, by simp, (fun j z hj => by omega), unhide HROW, unhide HBWM⟩
    case round =>
      obtain ⟨k, Z, hk, rfl, hZl, HZ, hZo, hbr⟩ := hrel
      clear HROW HBWM hbm d2m
      by_cases hkl : k < n
      · have hki : (k : Int) < (n : Int) := by omega
        have hk0 : (0 : Int) ≤ (k : Int) := by omega
        have hkw : k < ws.length := by rw [← unhide HN]; exact hkl
        obtain ⟨z, hz⟩ : ∃ z, ws[k]? = some z := ⟨ws[k], List.getElem?_eq_getElem hkw⟩
        obtain ⟨e0, e1, e2, e3⟩ := unhide HCELL k z hz
        have f0 := (hbr.cell (p := ⟨g, off + k * 4, none⟩) hg).trans e0
        have f1 := (hbr.cell (p := ⟨g, off + k * 4 + 1, none⟩) hg).trans e1
        have f2 := (hbr.cell (p := ⟨g, off + k * 4 + 2, none⟩) hg).trans e2
        have f3 := (hbr.cell (p := ⟨g, off + k * 4 + 3, none⟩) hg).trans e3
        have hzok := unhide HALL z (List.mem_of_getElem? hz)
        obtain ⟨y, hy⟩ : ∃ y, Z[k]? = some y := ⟨Z[k]'(by omega), List.getElem?_eq_getElem _⟩
        have HZK := hide hz
        have hlt := hZo.lt
        have HWT := hide (fun w => wayText_any z w hzok)
        have hba2 : Below wr.heap.size wr (wr.alloc (.cells #[.int .i64 z.k, .int .i64 z.x, .int .i64 z.y, .int .i64 z.t] 62 (0, 0))) := (Below.refl _ wr).alloc (Nat.le_refl _) _
        have HBA2 := hide hba2
        have HY := hide hy
        clear e0 e1 e2 e3 hz hzok hba2 hy
        go_wp2_with fail
        refine (unhide HWT _).mono ?_
        rintro e w2 ⟨rfl, hb2⟩
        have hb3 : Below wr.heap.size wr w2 := (unhide HBA2).trans (hb2.mono (unhide HBA2).size)
        have hZ2 := hZo.below hb3 hlt
        have cz := hZ2.cell (unhide HY)
        have zz := hZ2.frozen k
        have hnew : ∀ j u, j < k + 1 → ws[j]? = some u → (Z.set k ⟨(wayL z).toArray⟩)[j]? = some ⟨(wayL u).toArray⟩ := by
          intro j u hj hu
          rcases Nat.lt_or_ge j k with h | h
          · rw [List.getElem?_set_ne (by omega)]
            exact unhide HZ j u h hu
          · have : j = k := by omega
            subst this
            rw [List.getElem?_set_self (by omega)]
            rw [unhide HZK] at hu
            cases hu
            rfl
        have HNEW := hide hnew
        have HZ3 := hide (hZ2.set k ⟨(wayL z).toArray⟩)
        have HB4 := hide ((hbr.trans (hb3.mono hbr.size)).setCell (p := ⟨w1.heap.size, k, none⟩) hgw1 (.string ⟨(wayL z).toArray⟩))
        clear hnew hb2 hb3 hZ2
        go_wp2
        go_roundw
        case rel => exact ⟨k + 1, Z.set k ⟨(wayL z).toArray⟩, by omega, by go_num, by rw [List.length_set]; exact hZl, HNEW, unhide HZ3, unhide HB4⟩
        case measure => simp [intOf]; omega
      · obtain rfl : k = n := by omega
        have hki : ¬ (k : Int) < (k : Int) := by omega
        have hZe : Z.map (·.data.toList) = ws.map wayL := by
          apply List.ext_getElem?
          intro j
          rw [List.getElem?_map, List.getElem?_map]
          rcases Nat.lt_or_ge j k with h | h
          · have hj : j < ws.length := by rw [← unhide HN]; exact h
            rw [unhide HZ j ws[j] h (List.getElem?_eq_getElem hj), List.getElem?_eq_getElem hj]
            rfl
          · rw [List.getElem?_eq_none (by omega), List.getElem?_eq_none (by rw [← unhide HN]; exact h)]
            rfl
        have hjl : (Lib.join (Z.map (·.data.toList)) [44, 32]).length ≤ k * 17 := by
          rw [hZe]
          have := join_len [44, 32] 15 (ws.map wayL) (fun x hx => by
            obtain ⟨z, hz, rfl⟩ := List.mem_map.1 hx
            exact wayL_len z (unhide HALL z hz))
          rw [List.length_map, ← unhide HN] at this
          exact this
        have hjn := Tryz.strings_Join w1.heap.size 0 k Z ⟨#[44, 32]⟩ wr (fun j x hx => by rw [Nat.zero_add]; exact hZo.cell hx) hZo.lt (by omega) (by omega) (Nat.le_trans hjl (by omega))
        rw [hZl] at hjn
        obtain ⟨J, hJ⟩ : ∃ J : ByteArray, J = ⟨(Lib.join (Z.map (·.data.toList)) (⟨#[44, 32]⟩ : ByteArray).data.toList).toArray⟩ := ⟨_, rfl⟩
        rw [← hJ] at hjn
        have hJd : J.data.toList = Lib.join (ws.map wayL) [44, 32] := by rw [hJ, ← hZe]
        have zJ : J.size ≤ 200 := by
          rw [← len_data, hJd, ← hZe]
          omega
        obtain ⟨S3, h3⟩ : ∃ S3, S2 ++ ⟨#[58, 32]⟩ = S3 := ⟨_, rfl⟩
        have hB2 : (⟨#[58, 32]⟩ : ByteArray).size = 2 := rfl
        have z3 : S3.size ≤ 8 := by rw [← h3, ByteArray.size_append]; omega
        have q4 : S3.size + J.size ≤ 9223372036854775807 := by omega
        have q5 : ¬ S3.size + J.size > 9223372036854775807 := by omega
        have hwn : ws ≠ [] := by rintro rfl; have := unhide HN; simp at this; omega
        have hfin : (S3 ++ J).data.toList = (⟨(pieceL c (v : Int) ws).toArray⟩ : ByteArray).data.toList := by
          rw [ba_app, ← h3, ba_app, unhide HD, hJd]
          simp [pieceL, hwn]
        have HFIN := hide hfin
        have HJN := hide hjn
        clear hZe hjl hjn hJ hJd hwn hfin
        go_wp2_with fail
        refine (unhide HJN).mono ?_
        rintro e w3 ⟨rfl, hb3⟩
        have hbf : Below w.heap.size w w3 := hbr.trans (hb3.mono hbr.size)
        clear hb3
        go_wp2
        go_ret
        exact ⟨(ret_str (unhide HFIN) : Ending.returned (.string (S3 ++ J)) = _), hbf⟩
end Go.Proofs.YtfhmpgjemobjhaaGreatDoor
