/-
  board.fromBottom, walked: the rows from the bottom one up, one behind the other.
  strings.Split at one byte: the pieces.
  The document's answer on rules (package gameref), walked: wayText, wayOf.
-/
import Derived.Test.YtfhmpgjemobjhaaGreatDoorJ9
import Derived.Test.YtfhmpgjemobjhaaGreatDoorM8
import Derived.Test.YtfhmpgjemobjhaaGreatDoorShelf
import Derived.Lib.SplitLaws
import Derived.Lib.IndexBytes
import Derived.Test.YtfhmpgjemobjhaaGreatDoorJ16
import Derived.Deep.RegionHeld3
namespace Go.Proofs.YtfhmpgjemobjhaaGreatDoor
open Go.RowKit

def rvals (R : List (List UInt8)) : List Value := R.map fun r => Value.string ⟨r.toArray⟩

theorem flat_bound : ∀ (R : List (List UInt8)), (∀ r ∈ R, r.length ≤ 8) → R.flatten.length ≤ R.length * 8
  | [], _ => by simp
  | a :: R, h => by
    have h1 := h a (by simp)
    have h2 := flat_bound R (fun r hr => h r (by simp [hr]))
    simp only [List.flatten_cons, List.length_append, List.length_cons, Nat.add_mul, Nat.one_mul]; omega

set_option maxHeartbeats 1000000 in
theorem fromBottom_any (R : List (List UInt8)) (base g cap : Nat) (w : World) (hown : w.ownsRow base 9 1 (.slice (some ⟨g, 0, none⟩) R.length cap) R.length (rvals R)) (h0 : 0 < R.length) (h8 : R.length ≤ 8) (hr8 : ∀ r ∈ R, r.length ≤ 8) :
    Calls Tryz.prog 90 #[.slice (some ⟨g, 0, none⟩) R.length cap] w fun e w' => e = .returned (.string ⟨R.reverse.flatten.toArray⟩) ∧ Below w.heap.size w w' := by
  have hgl : g < w.heap.size := (hown.lt g rfl).2
  have hcell : ∀ (k : Nat) (r : List UInt8), R[k]? = some r → w.cell? ⟨g, k, none⟩ = some (.string ⟨r.toArray⟩) := by
    intro k r hr
    have hk : k < R.length := (List.getElem?_eq_some_iff.1 hr).1
    rw [World.ownsRow.cellAt hown k (by omega)]
    simp [rvals, hr]
  have HC := hide hcell
  have H8 := hide hr8
  clear hcell hr8
  obtain ⟨n, hn⟩ : ∃ n, n = R.length := ⟨_, rfl⟩
  rw [← hn] at h0 h8 ⊢
  have HN := hide hn
  clear hn hown
  go_enter Tryz.func90, Tryz.ntmps90
  go_wp2
  have hfr := Bld.fresh w
  go_loopw [4] (fun i wr => ∃ (k : Nat), k ≤ n ∧ i = .int .i64 ((k : Int) - 1) ∧ Bld w.heap.size (R.drop k).reverse.flatten wr ∧ Below w.heap.size w wr) (fun i _ => (intOf i + 1).toNat)
  case atStart => exact ⟨n, Nat.le_refl _, by go_num, by rw [unhide HN, List.drop_length]; exact hfr, (Below.refl _ _).alloc (Nat.le_refl _) _⟩
  case round =>
    obtain ⟨k, hk, rfl, hbl, hbr⟩ := hrel
    clear hfr
    cases k with
    | zero =>
      go_wp2_with fail
      refine (String_any _ _ _ hbl).mono ?_
      rintro e w2 ⟨rfl, hb2⟩
      go_wp2
      go_ret
      exact ⟨rfl, hbr.trans hb2⟩
    | succ j =>
      have hji : ((j + 1 : Nat) : Int) - 1 = (j : Int) := by omega
      rw [hji]
      clear hji
      have hjR : j < R.length := by rw [← unhide HN]; omega
      obtain ⟨r, hr⟩ : ∃ r, R[j]? = some r := ⟨R[j], List.getElem?_eq_getElem hjR⟩
      have hrl : r.length ≤ 8 := unhide H8 r (List.mem_of_getElem? hr)
      have c := (hbr.cell (p := ⟨g, j, none⟩) (by dsimp only; omega)).trans (unhide HC j r hr)
      have hpl : (R.drop (j + 1)).reverse.flatten.length < 1000000 := by
        have h1 := flat_bound (R.drop (j + 1)).reverse (fun x hx => unhide H8 x (List.mem_of_mem_drop (by simpa using hx)))
        have h2 : (R.drop (j + 1)).reverse.length ≤ 8 := by rw [List.length_reverse, List.length_drop, ← unhide HN]; omega
        have h3 := Nat.mul_le_mul_right 8 h2
        omega
      have hnext : (R.drop (j + 1)).reverse.flatten ++ r = (R.drop j).reverse.flatten := by
        have : R.drop j = r :: R.drop (j + 1) := by
          rw [List.drop_eq_getElem_cons hjR]
          rw [List.getElem?_eq_getElem hjR] at hr
          rw [Option.some.inj hr]
        rw [this]; simp
      have HNX := hide hnext
      clear hnext hr
      have hrs : (⟨r.toArray⟩ : ByteArray).size < 1000000 := by show r.toArray.size < _; simp; omega
      go_wp2_with fail
      refine (WriteString_any _ _ ⟨r.toArray⟩ _ hbl hpl hrs).mono ?_
      rintro e w2 ⟨rfl, hbl2, hb2⟩
      have hbr2 := hbr.trans hb2
      go_wp2
      go_roundw
      case rel => exact ⟨j, by omega, by go_num, by rw [← unhide HNX]; simpa using hbl2, hbr2⟩
      case measure => simp [intOf]
end Go.Proofs.YtfhmpgjemobjhaaGreatDoor

namespace Go.Proofs.YtfhmpgjemobjhaaGreatDoor
open Go.RowKit

theorem splitK_spl (c : UInt8) : ∀ (k : Nat) (l : List UInt8), l.count c = k → Lib.splitK [c] 0 k l = spl c l := by
  intro k
  induction k with
  | zero =>
    intro l h
    rw [spl_nomem c l (fun hm => by have := List.count_pos_iff.2 hm; omega)]
    rfl
  | succ k ih =>
    intro l h
    have hmem : c ∈ l := List.count_pos_iff.1 (by omega)
    have hge := Lib.indexByte_ge l c
    rcases Int.lt_or_le (Lib.indexByte l c) 0 with hneg | hpos
    · have h1 : Lib.indexByte l c = -1 := by omega
      obtain ⟨j, hj, he⟩ := List.getElem_of_mem hmem
      exact absurd (by rw [List.getElem?_eq_getElem hj, he]) (Lib.indexByte_none h1 j)
    · obtain ⟨i, hi⟩ := Int.eq_ofNat_of_zero_le hpos
      obtain ⟨h1, h2⟩ := Lib.indexByte_some hi
      obtain ⟨hlt, he⟩ := List.getElem?_eq_some_iff.1 h1
      have hl : l = l.take i ++ c :: l.drop (i + 1) := by
        conv => lhs; rw [← List.take_append_drop i l, List.drop_eq_getElem_cons hlt, he]
      have hno : c ∉ l.take i := by
        intro hm
        obtain ⟨j, hj, he2⟩ := List.getElem_of_mem hm
        have hji : j < i := by rw [List.length_take] at hj; omega
        refine h2 j hji ?_
        rw [← he2, List.getElem_take, List.getElem?_eq_getElem]
      have hcnt : (l.drop (i + 1)).count c = k := by
        rw [hl, List.count_append, List.count_cons_self, List.count_eq_zero.2 hno] at h
        omega
      have hix : Lib.index l [c] = (i : Int) := by rw [Lib.index_one, hi]
      rw [Lib.splitK, hix, if_neg (by simp), ]
      have e1 : ((i : Int)).toNat = i := by simp
      simp only [e1, Nat.add_zero, List.length_cons, List.length_nil, Nat.zero_add]
      rw [ih _ hcnt]
      conv => rhs; rw [hl]
      rw [spl_app, spl_nomem c _ hno]
      rfl

/-- A row of texts in block g. -/
def isRv (w : World) (g : Nat) (R : List (List UInt8)) : Prop := w.heap[g]? = some (.cells (rvals R).toArray 9 (0, 0))
theorem isRv.cell {w : World} {g : Nat} {R : List (List UInt8)} (h : isRv w g R) {k : Nat} {r : List UInt8} (hk : R[k]? = some r) : w.cell? ⟨g, k, none⟩ = some (.string ⟨r.toArray⟩) := by
  unfold isRv at h
  simp [World.cell?, h, rvals, hk]
theorem isRv.lt {w : World} {g : Nat} {R : List (List UInt8)} (h : isRv w g R) : g < w.heap.size := by
  rcases Nat.lt_or_ge g w.heap.size with h' | h'
  · exact h'
  · unfold isRv at h; simp [Array.getElem?_eq_none h'] at h
theorem isRv.below {w w' : World} {g B : Nat} {R : List (List UInt8)} (h : isRv w g R) (k : Below B w w') (hg : g < B) : isRv w' g R := by
  unfold isRv at h ⊢; rw [k.block g hg, h]
theorem isRv.drewN {w : World} {g : Nat} {R : List (List UInt8)} (h : isRv w g R) (n : Nat) : isRv (w.drewN n) g R := h

theorem Split_any (s : ByteArray) (c : UInt8) (m : Int) (w : World) (hs : s.size < 2000000) (hm : w.cell? ⟨0, 0, none⟩ = some (.int .i64 m)) :
    Calls Tryz.prog 46 #[.string s, .string ⟨#[c]⟩] w fun e w' => e = .returned (.slice (some ⟨w.heap.size, 0, none⟩) (spl c s.data.toList).length (spl c s.data.toList).length) ∧ Below w.heap.size w w' ∧ isRv w' w.heap.size (spl c s.data.toList) := by
  have hcnt : Lib.countB s ⟨#[c]⟩ = s.data.toList.count c := Lib.count_one c s.data.toList
  have hlen := Lib.splitB_all ⟨#[c]⟩ (Nat.le_refl 1) 0 _ s rfl
  have hdat := Lib.splitB_data ⟨#[c]⟩ 0 (Lib.countB s ⟨#[c]⟩) s
  have hsp : (Lib.splitB ⟨#[c]⟩ 0 (Lib.countB s ⟨#[c]⟩) s).map (·.data.toList) = spl c s.data.toList := by
    rw [hdat, hcnt]; exact splitK_spl c _ _ rfl
  have hn : Lib.countB s ⟨#[c]⟩ + 1 = (spl c s.data.toList).length := by rw [← hsp, List.length_map, hlen]
  have hv : (Lib.splitB ⟨#[c]⟩ 0 (Lib.countB s ⟨#[c]⟩) s).map Value.string = rvals (spl c s.data.toList) := by
    rw [← hsp, rvals, List.map_map]
    rfl
  refine (Tryz.strings_Split s ⟨#[c]⟩ m w (by omega) hm (Nat.le_refl 1)).mono ?_
  rintro e w' ⟨rfl, rfl⟩
  rw [hn, hv]
  exact ⟨rfl, (Below.refl _ _).alloc (Nat.le_refl _) _, heap_alloc_new w _⟩
end Go.Proofs.YtfhmpgjemobjhaaGreatDoor

namespace Go.Proofs.YtfhmpgjemobjhaaGreatDoor
open Go.RowKit
attribute [local go_sem ↓] Go.wp_at_zero Go.wp_at_succ

theorem kinds_at (k : Int) (hk : k = 1 ∨ k = 2 ∨ k = 3) (w : World) : (Instr.index 115 (.agg #[.string ⟨#[]⟩, .string ⟨#[108, 101, 97, 112]⟩, .string ⟨#[115, 108, 105, 100, 101]⟩, .string ⟨#[115, 116, 101, 112]⟩]) (.int .i64 k)).run Tryz.prog w = .ok (.string ⟨(kindL k).toArray⟩) w := by
  rcases hk with rfl | rfl | rfl <;> kernel_rfl
theorem takes_at (t : Int) (ht : t = 0 ∨ t = 1 ∨ t = 2) (w : World) : (Instr.index 116 (.agg #[.string ⟨#[]⟩, .string ⟨#[32, 116, 97, 107, 101]⟩, .string ⟨#[32, 113, 117, 105, 101, 116]⟩]) (.int .i64 t)).run Tryz.prog w = .ok (.string ⟨(takeL t).toArray⟩) w := by
  rcases ht with rfl | rfl | rfl <;> kernel_rfl

set_option maxHeartbeats 1000000 in
set_option maxRecDepth 100000 in
theorem gWayText_any (z : Wy) (w : World) (hz : wideW z) (ht : isTab w) :
    Calls Tryz.prog 61 #[z.v] w fun e w' => e = .returned (.string ⟨(wayL z).toArray⟩) ∧ Below w.heap.size w w' := by
  obtain ⟨k, x, y, t⟩ := z
  obtain ⟨hk, ⟨hx0, hx1⟩, ⟨hy0, hy1⟩, htt⟩ := hz
  simp only at hk hx0 hx1 hy0 hy1 htt
  obtain ⟨x, rfl⟩ := Int.eq_ofNat_of_zero_le hx0
  obtain ⟨y, rfl⟩ := Int.eq_ofNat_of_zero_le hy0
  unfold Wy.v
  dsimp only
  have hik := kinds_at k hk
  have hit := takes_at t htt
  obtain ⟨wa, hwa⟩ : ∃ wa, wa = w.alloc (.cells #[.int .i64 k, .int .i64 (x : Int), .int .i64 (y : Int), .int .i64 t] 62 (0, 0)) := ⟨_, rfl⟩
  have hba : Below w.heap.size w wa := by rw [hwa]; exact (Below.refl _ w).alloc (Nat.le_refl _) _
  have hbox : isWx wa w.heap.size (.int .i64 k) (.int .i64 (x : Int)) (.int .i64 (y : Int)) (.int .i64 t) := by rw [hwa]; exact heap_alloc_new w _
  obtain ⟨⟨c0, c1, c2, c3⟩, -⟩ := hbox.all
  have hta : isTab wa := ht.below hba
  have hlta : w.heap.size < wa.heap.size := by
    rcases Nat.lt_or_ge w.heap.size wa.heap.size with h | h
    · exact h
    · unfold isWx at hbox; rw [Array.getElem?_eq_none h] at hbox; cases hbox
  obtain ⟨K, hK⟩ : ∃ K : ByteArray, K = ⟨(kindL k).toArray⟩ := ⟨_, rfl⟩
  obtain ⟨X, hX⟩ : ∃ X : ByteArray, X = ⟨(Lib.decDigits x).toArray⟩ := ⟨_, rfl⟩
  obtain ⟨Y, hY⟩ : ∃ Y : ByteArray, Y = ⟨(Lib.decDigits y).toArray⟩ := ⟨_, rfl⟩
  obtain ⟨T, hT⟩ : ∃ T : ByteArray, T = ⟨(takeL t).toArray⟩ := ⟨_, rfl⟩
  rw [← hK] at hik
  rw [← hT] at hit
  have HX : Hid (∀ u, isTab u → Calls Tryz.prog 15 #[.int .i64 (x : Int)] u fun e u' => e = .returned (.string X) ∧ Below u.heap.size u u') := by
    refine hide fun u hu => ?_
    rw [hX]
    exact itoaN_any x u (by omega) hu
  have HY : Hid (∀ u, isTab u → Calls Tryz.prog 15 #[.int .i64 (y : Int)] u fun e u' => e = .returned (.string Y) ∧ Below u.heap.size u u') := by
    refine hide fun u hu => ?_
    rw [hY]
    exact itoaN_any y u (by omega) hu
  have zK : K.size ≤ 5 := by rw [hK]; exact kind_size k
  have zX : X.size ≤ 4 := by rw [hX, ← len_data]; exact dec_len x (by omega)
  have zY : Y.size ≤ 4 := by rw [hY, ← len_data]; exact dec_len y (by omega)
  have zT : T.size ≤ 6 := by
    rw [hT, ← len_data]
    rcases htt with rfl | rfl | rfl <;> decide
  obtain ⟨B, hB⟩ : ∃ B : ByteArray, B = ⟨#[32]⟩ := ⟨_, rfl⟩
  have zB : B.size = 1 := by rw [hB]; rfl
  obtain ⟨S1, h1⟩ : ∃ S1, K ++ B = S1 := ⟨_, rfl⟩
  obtain ⟨S2, h2⟩ : ∃ S2, S1 ++ X = S2 := ⟨_, rfl⟩
  obtain ⟨S3, h3⟩ : ∃ S3, S2 ++ B = S3 := ⟨_, rfl⟩
  obtain ⟨S4, h4⟩ : ∃ S4, S3 ++ Y = S4 := ⟨_, rfl⟩
  obtain ⟨S5, h5⟩ : ∃ S5, S4 ++ T = S5 := ⟨_, rfl⟩
  have z1 : S1.size ≤ 6 := by rw [← h1, ByteArray.size_append]; omega
  have z2 : S2.size ≤ 10 := by rw [← h2, ByteArray.size_append]; omega
  have z3 : S3.size ≤ 11 := by rw [← h3, ByteArray.size_append]; omega
  have z4 : S4.size ≤ 15 := by rw [← h4, ByteArray.size_append]; omega
  have q1 : K.size + B.size ≤ 9223372036854775807 := by omega
  have q2 : S1.size + X.size ≤ 9223372036854775807 := by omega
  have q3 : S2.size + B.size ≤ 9223372036854775807 := by omega
  have q4 : S3.size + Y.size ≤ 9223372036854775807 := by omega
  have q5 : S4.size + T.size ≤ 9223372036854775807 := by omega
  have p1 : K.size + 1 ≤ 9223372036854775807 := by omega
  have p3 : S2.size + 1 ≤ 9223372036854775807 := by omega
  have r1 : ¬ K.size + 1 > 9223372036854775807 := by omega
  have r2 : ¬ S1.size + X.size > 9223372036854775807 := by omega
  have r3 : ¬ S2.size + 1 > 9223372036854775807 := by omega
  have r4 : ¬ S3.size + Y.size > 9223372036854775807 := by omega
  have r5 : ¬ S4.size + T.size > 9223372036854775807 := by omega
  have hd : S5.data.toList = wayL ⟨k, (x : Nat), (y : Nat), t⟩ := by
    rw [← h5, ← h4, ← h3, ← h2, ← h1, ba_app, ba_app, ba_app, ba_app, ba_app, hK, hX, hY, hB, hT]
    simp [wayL]
  have HD := hide hd
  have HWA := hide hwa
  have hbd : Below w.heap.size w wa.drew := hba.drew
  have hsd : w.heap.size < wa.drew.heap.size := by dsimp only [World.drew]; omega
  have htd : isTab wa.drew := hta
  subst hB
  clear hd hwa hba hta hbox hK hX hY hT hx0 hx1 hy0 hy1 hk htt ht
  go_enter Tryz.func61, Tryz.ntmps61
  go_wp2
  rw [← unhide HWA]
  go_region_held3 (fun u => u.cell? ⟨w.heap.size, 0, none⟩ = some (.int .i64 k) ∧ u.cell? ⟨w.heap.size, 1, none⟩ = some (.int .i64 (x : Int)) ∧ u.cell? ⟨w.heap.size, 2, none⟩ = some (.int .i64 (y : Int)) ∧ u.cell? ⟨w.heap.size, 3, none⟩ = some (.int .i64 t) ∧ Below w.heap.size w u ∧ w.heap.size < u.heap.size ∧ isTab u)
    (first
      | (go_keep; done)
      | ((try go_split_ands); (try dsimp only); (repeat' apply And.intro) <;> first
           | (go_keep; done)
           | exact hbd
           | exact hsd
           | exact htd
           | (rw [hb.cell (by first | (dsimp only; omega) | (dsimp only [World.drew]; omega))]; assumption)
           | exact Below.trans (by assumption) (hb.mono (by omega))
           | exact Nat.lt_of_lt_of_le (by assumption) hb.size
           | exact isTab.below (by assumption) hb))
    (first
      | (go_at_call 15; (with_reducible refine (unhide HX _ (by first | exact ht1 | exact htd)).mono ?_); rintro e w1 ⟨rfl, hb⟩; have ht1 := isTab.below (by first | exact ht1 | exact htd) hb)
      | (go_at_call 15; (with_reducible refine (unhide HY _ (by first | exact ht1 | exact htd)).mono ?_); rintro e w1 ⟨rfl, hb⟩; have ht1 := isTab.below (by first | exact ht1 | exact htd) hb))
  all_goals rename_i hH
  all_goals obtain ⟨-, -, -, -, hbw, -, -⟩ := hH
  all_goals go_wp2
  all_goals go_ret
  all_goals exact ⟨(ret_str (unhide HD) : Ending.returned (.string S5) = .returned (.string ⟨(wayL ⟨k, (x : Nat), (y : Nat), t⟩).toArray⟩)), hbw⟩
end Go.Proofs.YtfhmpgjemobjhaaGreatDoor
