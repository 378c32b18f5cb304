/-
  package gameref, walked: Made.
-/
import Derived.Test.YtihojhfpepbjhaaGreatDoorV29
import Derived.Test.YtihojhfpepbjhaaGreatDoorJ18
import Derived.Test.YtihojhfpepbjhaaGreatDoorJ12
import Derived.BigQuiet
import Derived.Deep.Cut
import Derived.Deep.CutRange
import Derived.Deep.RegionLawGrows
namespace Go.Proofs.YtihojhfpepbjhaaGreatDoor
open Go.RowKit
attribute [local go_sem ↓] Go.wp_at_zero Go.wp_at_succ

/-- A list of bytes as a text. -/
def txB (l : List UInt8) : ByteArray := ⟨l.toArray⟩
theorem txB_data (s : ByteArray) : txB s.data.toList = s := by cases s; simp [txB]
theorem txB_app (a b : List UInt8) : txB a ++ txB b = txB (a ++ b) := by
  apply ByteArray.ext
  rw [ByteArray.data_append]
  simp [txB]
theorem txB_size (l : List UInt8) : (txB l).size = l.length := rfl
theorem ext_part (s : ByteArray) (a b : Nat) : s.extract a b = txB ((s.data.toList.drop a).take (b - a)) := by
  apply ByteArray.ext
  apply Array.toList_inj.1
  rw [Lib.extract_data]
  simp [txB]
theorem ext_tail (s : ByteArray) (a : Nat) : s.extract a s.size = txB (s.data.toList.drop a) := by
  rw [ext_part, List.take_of_length_le (by rw [List.length_drop, len_data]; omega)]
theorem ext_head (s : ByteArray) (b : Nat) : s.extract 0 b = txB (s.data.toList.take b) := by rw [ext_part]; simp
/-- What stays while Made goes on: its five boxes. -/
structure Fr (w0 : World) (v0 v1 v2 v3 v4 v5 v6 v7 v8 v9 v10 v11 v12 : Value) (W H T : Nat) (C A B : ByteArray) (f t : Int) (c : Nat) (w : World) : Prop where
  ru : isRu w w0.heap.size v0 v1 v2 v3 v4 v5 v6 v7 v8 v9 v10 v11 v12
  pb : isPb w (w0.heap.size + 1) W H T C A B
  mb : isMb w (w0.heap.size + 1 + 1) f t c
  zb : isPb w (w0.heap.size + 1 + 1 + 1) 0 0 0 ⟨#[]⟩ ⟨#[]⟩ ⟨#[]⟩
  qb : isPb w (w0.heap.size + 1 + 1 + 1 + 1) W H T C A B
  bw : Below w0.heap.size w0 w
theorem Fr.below {w0 : World} {v0 v1 v2 v3 v4 v5 v6 v7 v8 v9 v10 v11 v12 : Value} {W H T : Nat} {C A B : ByteArray} {f t : Int} {c : Nat} {w w' : World} (h : Fr w0 v0 v1 v2 v3 v4 v5 v6 v7 v8 v9 v10 v11 v12 W H T C A B f t c w) (hb : Below w.heap.size w w') : Fr w0 v0 v1 v2 v3 v4 v5 v6 v7 v8 v9 v10 v11 v12 W H T C A B f t c w' :=
  ⟨h.ru.below hb h.ru.lt, h.pb.below hb h.pb.lt, h.mb.below hb h.mb.lt, h.zb.below hb h.zb.lt, h.qb.below hb h.qb.lt, h.bw.trans (hb.mono h.bw.size)⟩
theorem below_ad (w : World) (o : Obj) : Below w.heap.size w (w.alloc o).drew := ((Below.refl _ w).alloc (Nat.le_refl _) o).drew
theorem below_drew (w : World) (q : Nat) : Below w.heap.size w (w.drewN q) := ⟨rfl, rfl, rfl, Nat.le_refl _, fun _ _ => rfl⟩
theorem place_le (h : List UInt8) (c : UInt8) : placeN h c ≤ h.length := (List.takeWhile_prefix _).length_le
theorem place_lt {c : UInt8} : ∀ {h : List UInt8} {k : Nat}, k < placeN h c → ∃ hl : k < h.length, h[k] < c
  | [], k, hk => by simp [placeN] at hk
  | a :: l, k, hk => by
    by_cases ha : a < c
    · have e : placeN (a :: l) c = placeN l c + 1 := by simp [placeN, ha]
      cases k with
      | zero => exact ⟨by simp, ha⟩
      | succ k =>
        obtain ⟨hl, hlt⟩ := place_lt (c := c) (h := l) (k := k) (by omega)
        exact ⟨by simp; omega, by simpa using hlt⟩
    · have e : placeN (a :: l) c = 0 := by simp [placeN, ha]
      omega
theorem place_ge {h : List UInt8} {c : UInt8} (hl : placeN h c < h.length) : ¬ h[placeN h c] < c := by
  induction h with
  | nil => simp at hl
  | cons a l ih =>
    by_cases ha : a < c
    · have e : placeN (a :: l) c = placeN l c + 1 := by simp [placeN, ha]
      have hl' : placeN l c < l.length := by rw [e] at hl; simpa using hl
      have := ih hl'
      simp only [e, List.getElem_cons_succ]
      exact this
    · have e : placeN (a :: l) c = 0 := by simp [placeN, ha]
      simp only [e, List.getElem_cons_zero]
      exact ha
theorem takeZ {Z : List UInt8} {i : Nat} {y : UInt8} (h : Z[i]? = some y) : txB (Z.take i) ++ (⟨#[y]⟩ : ByteArray) = txB (Z.take (i + 1)) := by
  have hl := (List.getElem?_eq_some_iff.1 h).1
  have he := (List.getElem?_eq_some_iff.1 h).2
  rw [List.take_succ_eq_append_getElem hl, ← txB_app, he]; rfl
theorem isPb.set2 {w : World} {b : Nat} {W H T : Int} {C A B : ByteArray} (h : isPb w b W H T C A B) (X : ByteArray) : isPb (w.setCell ⟨b, 2, none⟩ (.string X)) b W H T X A B := by
  unfold isPb at h ⊢; rw [setCell_eq_setRow w b 2 _ _ _ _ h]; exact setRow_heap w b _ _ _ _ h
theorem isPb.set3 {w : World} {b : Nat} {W H T : Int} {C A B : ByteArray} (h : isPb w b W H T C A B) (X : Int) : isPb (w.setCell ⟨b, 3, none⟩ (.int .i64 X)) b W H X C A B := by
  unfold isPb at h ⊢; rw [setCell_eq_setRow w b 3 _ _ _ _ h]; exact setRow_heap w b _ _ _ _ h
theorem up_facts : ∀ N : Nat, N < 256 → cellB (N : Int) = true → N ≠ 46 → (65 ≤ upN N ∧ upN N ≤ 90) ∧ (smallB (N : Int) = true → (N : Int) - 32 = (upN N : Nat)) ∧ (smallB (N : Int) = false → upN N = N) := by decide +kernel
theorem txB_get (l : List UInt8) (k : Nat) (hk : k < l.length) : ((txB l)[k]'(by rw [txB_size]; exact hk)).toNat = l[k].toNat := rfl
theorem ins_text (l : List UInt8) (c : UInt8) : (txB l).extract 0 (placeN l c) ++ (⟨#[c]⟩ : ByteArray) ++ (txB l).extract (placeN l c) (txB l).size = txB (insL l c) := by
  rw [ext_head, ext_tail]
  have : (⟨#[c]⟩ : ByteArray) = txB [c] := rfl
  rw [this, txB_app, txB_app]
  unfold insL
  simp [txB]
set_option maxHeartbeats 8000000 in
set_option maxRecDepth 100000 in
theorem rMade_any (W H T : Nat) (C A B : ByteArray) (v0 v1 v2 v3 v4 v5 v6 v8 v9 v10 v11 v12 : Value) (dr : Bool) (f : Int) (t : Nat) (c : UInt8) (w : World) (hT : T ≤ 1) (hA : A.size ≤ 8) (hB : B.size ≤ 8) (hs : C.size ≤ 64) (ht : t < C.size) (hcap : capB (c.toNat : Int) = true)
    (hor : Ord (handOf T A B).data.toList) (hcell : ∀ i, i < C.size → cellB (cellN C i : Nat) = true ∧ cellN C i < 256)
    (hf : (f = -1 ∧ cellN C t = 46 ∧ c ∈ (handOf T A B).data.toList) ∨ (∃ fr : Nat, f = fr ∧ fr < C.size ∧ fr ≠ t)) :
    Calls Tryz.prog 76 #[.agg #[v0, v1, v2, v3, v4, v5, v6, .bool dr, v8, v9, v10, v11, v12], .agg #[.int .i64 (W : Int), .int .i64 (H : Int), .string C, .int .i64 (T : Int), .string A, .string B], .agg #[.int .i64 f, .int .i64 (t : Int), .int .u8 (c.toNat : Int)]] w fun e w' => e = .returned (.agg #[.int .i64 (W : Int), .int .i64 (H : Int), .string (txB (behC C.data.toList f t (letN T c.toNat).toUInt8)), .int .i64 (1 - (T : Int)), .string (if T = 0 then txB (behH C.data.toList (handOf T A B).data.toList dr f t c) else A), .string (if T = 0 then B else txB (behH C.data.toList (handOf T A B).data.toList dr f t c))]) ∧ Below w.heap.size w w' := by
  obtain ⟨w1, hw1⟩ : ∃ w1, w1 = w.alloc (.cells #[v0, v1, v2, v3, v4, v5, v6, .bool dr, v8, v9, v10, v11, v12] 27 (0, 0)) := ⟨_, rfl⟩
  obtain ⟨w2, hw2⟩ : ∃ w2, w2 = w1.alloc (.cells #[.int .i64 (W : Int), .int .i64 (H : Int), .string C, .int .i64 (T : Int), .string A, .string B] 24 (0, 0)) := ⟨_, rfl⟩
  obtain ⟨w3, hw3⟩ : ∃ w3, w3 = w2.alloc (.cells #[.int .i64 f, .int .i64 (t : Int), .int .u8 (c.toNat : Int)] 61 (0, 0)) := ⟨_, rfl⟩
  obtain ⟨w4, hw4⟩ : ∃ w4, w4 = w3.alloc (.cells #[.int .i64 0, .int .i64 0, .string ⟨#[]⟩, .int .i64 0, .string ⟨#[]⟩, .string ⟨#[]⟩] 24 (0, 0)) := ⟨_, rfl⟩
  obtain ⟨w5, hw5⟩ : ∃ w5, w5 = w4.alloc (.cells #[.int .i64 (W : Int), .int .i64 (H : Int), .string C, .int .i64 (T : Int), .string A, .string B] 24 (0, 0)) := ⟨_, rfl⟩
  have hb1 : Below w.heap.size w w1 := by rw [hw1]; exact (Below.refl _ _).alloc (Nat.le_refl _) _
  have hb2 : Below w1.heap.size w1 w2 := by rw [hw2]; exact (Below.refl _ _).alloc (Nat.le_refl _) _
  have hb3 : Below w2.heap.size w2 w3 := by rw [hw3]; exact (Below.refl _ _).alloc (Nat.le_refl _) _
  have hb4 : Below w3.heap.size w3 w4 := by rw [hw4]; exact (Below.refl _ _).alloc (Nat.le_refl _) _
  have hb5 : Below w4.heap.size w4 w5 := by rw [hw5]; exact (Below.refl _ _).alloc (Nat.le_refl _) _
  have s1 : w1.heap.size = w.heap.size + 1 := by rw [hw1]; simp
  have s2 : w2.heap.size = w.heap.size + 1 + 1 := by rw [hw2]; simp [s1]
  have s3 : w3.heap.size = w.heap.size + 1 + 1 + 1 := by rw [hw3]; simp [s2]
  have s4 : w4.heap.size = w.heap.size + 1 + 1 + 1 + 1 := by rw [hw4]; simp [s3]
  have s5 : w5.heap.size = w.heap.size + 1 + 1 + 1 + 1 + 1 := by rw [hw5]; simp [s4]
  have hb25 : Below w1.heap.size w1 w5 := ((hb2.trans (hb3.mono (by omega))).trans (hb4.mono (by omega))).trans (hb5.mono (by omega))
  have hb35 : Below w2.heap.size w2 w5 := (hb3.trans (hb4.mono (by omega))).trans (hb5.mono (by omega))
  have hb45 : Below w3.heap.size w3 w5 := hb4.trans (hb5.mono (by omega))
  have hru : isRu w5 w.heap.size v0 v1 v2 v3 v4 v5 v6 (.bool dr) v8 v9 v10 v11 v12 := isRu.below (show isRu w1 w.heap.size v0 v1 v2 v3 v4 v5 v6 (.bool dr) v8 v9 v10 v11 v12 by rw [hw1]; exact heap_alloc_new w _) hb25 (by omega)
  have hpb : isPb w5 (w.heap.size + 1) W H T C A B := (show isPb w2 (w.heap.size + 1) W H T C A B by rw [hw2, ← s1]; exact heap_alloc_new w1 _).below hb35 (by omega)
  have hmb : isMb w5 (w.heap.size + 1 + 1) f t c.toNat := (show isMb w3 (w.heap.size + 1 + 1) f t c.toNat by rw [hw3, ← s2]; exact heap_alloc_new w2 _).below hb45 (by omega)
  have hzb : isPb w5 (w.heap.size + 1 + 1 + 1) 0 0 0 ⟨#[]⟩ ⟨#[]⟩ ⟨#[]⟩ := (show isPb w4 (w.heap.size + 1 + 1 + 1) 0 0 0 ⟨#[]⟩ ⟨#[]⟩ ⟨#[]⟩ by rw [hw4, ← s3]; exact heap_alloc_new w3 _).below hb5 (by omega)
  have hqb : isPb w5 (w.heap.size + 1 + 1 + 1 + 1) W H T C A B := by rw [hw5, ← s4]; exact heap_alloc_new w4 _
  have hbw : Below w.heap.size w w5 := hb1.trans (hb25.mono (by omega))
  obtain ⟨p0, p1, p2, p3, p4, p5⟩ := hpb.all
  obtain ⟨m0, m1, m2⟩ := hmb.all
  obtain ⟨-, -, -, -, -, -, -, r7, -, -, -, -, -⟩ := hru.cells
  have hhc := hand_cell w5 (w.heap.size + 1) T _ _ _ C A B hpb hT
  obtain ⟨h, hh⟩ : ∃ h, h = handOf T A B := ⟨_, rfl⟩
  rw [← hh] at hhc hor hf ⊢
  have hh8 : h.size ≤ 8 := by rw [hh]; unfold handOf; split <;> assumption
  have HF := hide (Fr.mk hru hpb hmb hzb hqb hbw)
  obtain ⟨x, hx⟩ : ∃ x, x = (letN T c.toNat).toUInt8 := ⟨_, rfl⟩
  rw [← hx]
  have HMK := hide (fun u => rMarkN T c.toNat u hT (UInt8.toNat_lt c) hcap)
  rw [← hx] at HMK
  have HCELL := hide hcell
  clear hpb hmb hru hzb hqb hbw hb1 hb2 hb3 hb4 hb5 hb25 hb35 hb45 s1 s2 s3 s4 s5 hh hx hcell hcap
  rcases hf with ⟨hf1, h46, hch⟩ | ⟨fr, hf1, hfr, hft⟩
  · have hfi : f < 0 := by omega
    have hfb : ∀ i : Nat, ((i : Int) == f) = false := fun i => by simp; omega
    obtain ⟨k, hk, hkl, hwo⟩ := without_at hch
    have HI := hide (fun u => Tryz.strings_IndexByte h (c.toNat : Nat) u)
    have hto : ((c.toNat : Int)).toNat.toUInt8 = c := by simp
    simp only [hto, hk] at HI
    have hki : (k : Int) < (h.size : Int) := by have : h.data.toList.length = h.size := len_data h; omega
    have hkn : k ≤ h.size := by omega
    obtain ⟨k1, hk1⟩ : ∃ k1, k1 = k + 1 := ⟨_, rfl⟩
    have hk1n : k1 ≤ h.size := by omega
    have hk1i : (k : Int) + 1 = (k1 : Int) := by omega
    have hk18 : (k1 : Int) ≤ 8 := by omega
    have hkw : IntKind.i64.wrap (k1 : Int) = (k1 : Int) := by unfold IntKind.wrap; simp [IntKind.signed, IntKind.bits]; omega
    have hk1s : (k1 : Int) ≤ (h.size : Int) := by omega
    have hlen : ¬ 9223372036854775807 < k + (h.size - k1) := by omega
    have HHD : Hid (h.extract 0 k ++ h.extract k1 h.size = txB (withoutL h.data.toList c)) := hide (by
      rw [hwo, ← txB_app, ext_head, ext_tail, hk1])
    have HZH : Hid (behH C.data.toList h.data.toList dr f t c = withoutL h.data.toList c) := hide (by
      rw [hf1]
      refine behH_drop ?_
      have := (cellN_list C t ht)
      rw [List.getElem!_eq_getElem?_getD, this.1]
      have h2 := this.2
      rw [h46] at h2
      exact (UInt8.toNat_inj.1 h2.symm))
    have HF1 := hide hf1
    clear hf1 hk hwo hch hk1
    obtain ⟨n, hn⟩ : ∃ n, n = C.size := ⟨_, rfl⟩
    have hnC : C.size = n := hn.symm
    obtain ⟨Z, hZ⟩ : ∃ Z, Z = behC C.data.toList f t x := ⟨_, rfl⟩
    have HZL : Hid (Z.length = n) := hide (by rw [hZ, behC_len, len_data, hn])
    have HZ : Hid (∀ i : Nat, i < n → Z[i]? = some (if (i : Int) = f then 46 else if i = t then x else C.data.toList[i]!)) := hide fun i hi => by
      have hl : i < C.data.toList.length := by rw [len_data]; omega
      rw [hZ, getElem!_pos C.data.toList i hl]
      exact behC_at (Or.inl (unhide HF1)) hl
    rw [← hZ, unhide HZH]
    obtain ⟨h1, hh1⟩ : ∃ h1, h1 = withoutL h.data.toList c := ⟨_, rfl⟩
    obtain ⟨h2, hh2⟩ : ∃ h2, h2 = withoutL h.data.toList c := ⟨_, rfl⟩
    have HINS : Hid (h2 = if cellN C t ≠ 46 ∧ dr = true ∧ h1.length < 8 then insL h1 (upN (cellN C t)).toUInt8 else h1) := hide (by rw [if_neg (fun q => q.1 h46), hh1, hh2])
    have HFT : Hid (∀ i : Nat, (i : Int) = f → i ≠ t) := hide fun i hi => by omega
    rw [← hh2]
    have HHE : Hid (h.extract 0 k ++ h.extract k1 h.size = txB h1) := hide (by rw [unhide HHD, hh1])
    have hl8 : h1.length ≤ 8 := by
      have := withoutL_len (A := h) (c := c) hh8
      rw [← hh1] at this
      exact this
    clear hn hZ hh1 hh2 HHD HZH h46 hfb
    go_enter Tryz.func76, Tryz.ntmps76
    go_wp2_with fail
    rw [← hw1, ← hw2, ← hw3, ← hw4, ← hw5]
    clear hw1 hw2 hw3 hw4 hw5 w1 w2 w3 w4
    go_quiet (fail)
    go_wp2_with fail
    refine (unhide HI _).mono ?_
    rintro e u ⟨rfl, rfl⟩
    go_wp2_with fail
    go_region_law (fail)
    have hfr1 := (unhide HF).below (below_drew _ (nq + 1))
    clear HF p0 p1 p2 p3 p4 p5 m0 m1 m2 r7 hhc
    have HF := hide hfr1
    clear hfr1
    obtain ⟨hru, hpb, hmb, hzb, hqb, hbw⟩ := unhide HF
    obtain ⟨p0, p1, p2, p3, p4, p5⟩ := hpb.all
    obtain ⟨m0, m1, m2⟩ := hmb.all
    obtain ⟨-, -, -, -, -, -, -, r7, -, -, -, -, -⟩ := hru.cells
    clear hru hpb hmb hzb hqb hbw
    go_wp2
    have hge := unhide HHE
    generalize h.extract 0 k ++ h.extract k1 h.size = g0 at hge ⊢
    have HGE := hide hge
    clear hge HHE
    go_loopw [8, 9, 11] (fun cv hv iv wr => ∃ i : Nat, iv = .int .i64 (i : Int) ∧ i ≤ n ∧ cv = .string (txB (Z.take i)) ∧ hv = .string (txB (if i ≤ t then h1 else h2)) ∧ Fr w v0 v1 v2 v3 v4 v5 v6 (.bool dr) v8 v9 v10 v11 v12 W H T C A B f t c.toNat wr) (fun _ _ iv _ => n - (intOf iv).toNat)
    case atStart => exact ⟨0, rfl, Nat.zero_le _, rfl, by rw [if_pos (Nat.zero_le _), unhide HGE], unhide HF⟩
    case round =>
      obtain ⟨i, rfl, hin, rfl, rfl, hfr0⟩ := hrel
      clear HF
      have HF := hide hfr0
      clear hfr0
      obtain ⟨hru, hpb, hmb, hzb, hqb, hbw⟩ := unhide HF
      obtain ⟨p0, p1, p2, p3, p4, p5⟩ := hpb.all
      obtain ⟨m0, m1, m2⟩ := hmb.all
      obtain ⟨-, -, -, -, -, -, -, r7, -, -, -, -, -⟩ := hru.cells
      clear hru hpb hmb hzb hqb hbw
      by_cases hil : i < n
      · have hili : (i : Int) < (n : Int) := by omega
        have hic : i < C.size := by omega
        have hzi := unhide HZ i hil
        obtain ⟨cells, hcl⟩ : ∃ cells, cells = txB (Z.take i) := ⟨_, rfl⟩
        rw [← hcl]
        have hcs : ¬ 9223372036854775807 < cells.size + 1 := by rw [hcl, txB_size, List.length_take]; omega
        have HCL := hide hcl
        clear hcl
        obtain ⟨hcn, h256⟩ := cellN_at C i hic
        obtain ⟨N, hN⟩ : ∃ N, N = cellN C i := ⟨_, rfl⟩
        rw [← hN] at hcn h256
        have HN := hide hN
        clear hN
        by_cases hif : (i : Int) = f
        · have hib : ((i : Int) == f) = true := by simp [hif]
          rw [if_pos hif] at hzi
          have htk := takeZ hzi
          rw [← unhide HCL] at htk
          have HTK := hide htk
          have hne : (if i + 1 ≤ t then h1 else h2) = (if i ≤ t then h1 else h2) := by
            have : i ≠ t := unhide HFT i hif
            by_cases q : i + 1 ≤ t
            · rw [if_pos q, if_pos (by omega)]
            · rw [if_neg q, if_neg (by omega)]
          have HNE := hide hne
          clear hif hzi htk hne
          go_wp2
          go_roundw
          case rel => exact ⟨i + 1, by go_num, by omega, by rw [← unhide HTK], by rw [unhide HNE], unhide HF⟩
          case measure => simp only [intOf]; omega
        · have hib : ((i : Int) == f) = false := by simp [hif]
          rw [if_neg hif] at hzi
          clear hif
          by_cases hit : i = t
          · have hitb : ((i : Int) == (t : Int)) = true := by simp [hit]
            rw [if_pos hit] at hzi
            have htk := takeZ hzi
            rw [← unhide HCL] at htk
            have HTK := hide htk
            have hh1 : (if i ≤ t then h1 else h2) = h1 := if_pos (by omega)
            have hh2 : (if i + 1 ≤ t then h1 else h2) = h2 := if_neg (by omega)
            rw [hh1]
            have HH2 := hide hh2
            have HIN := unhide HINS
            rw [← hit, ← unhide HN] at HIN
            have HIN2 := hide HIN
            clear hzi htk hh1 hh2 HIN hit
            go_wp2_with fail
            refine (unhide HMK _).mono ?_
            rintro e u ⟨rfl, hbu⟩
            have hfr0 := (unhide HF).below hbu
            clear HF hbu p0 p1 p2 p3 p4 p5 m0 m1 m2 r7
            have HF := hide hfr0
            clear hfr0
            obtain ⟨hru, hpb, hmb, hzb, hqb, hbw⟩ := unhide HF
            obtain ⟨p0, p1, p2, p3, p4, p5⟩ := hpb.all
            obtain ⟨m0, m1, m2⟩ := hmb.all
            obtain ⟨-, -, -, -, -, -, -, r7, -, -, -, -, -⟩ := hru.cells
            clear hru hpb hmb hzb hqb hbw
            go_wp2_with fail
            refine (Small_any _ _).mono ?_
            rintro e u2 ⟨rfl, rfl⟩
            have hcbn := (unhide HCELL i hic).1
            rw [← unhide HN] at hcbn
            obtain ⟨hb, hhb⟩ : ∃ hb, hb = txB h1 := ⟨_, rfl⟩
            rw [← hhb]
            obtain ⟨n1, hn1⟩ : ∃ n1, n1 = h1.length := ⟨_, rfl⟩
            have hbs : hb.size = n1 := by rw [hhb, hn1, txB_size]
            have hn18 : n1 ≤ 8 := by rw [hn1]; exact hl8
            have HHB := hide hhb
            have HN1 := hide hn1
            clear hhb hn1 hl8
            by_cases h46 : N = 46
            · have hsm : smallB (N : Int) = false := by rw [h46]; decide
              have hn46 : ((N : Int) != 46) = false := by simp; omega
              have hst : hb = txB (if i + 1 ≤ t then h1 else h2) := by rw [unhide HH2, unhide HIN2, if_neg (fun q => q.1 h46), unhide HHB]
              have HST := hide hst
              rw [hsm]
              clear h46 hsm hst hcbn
              go_wp2
              go_roundw
              case rel => exact ⟨i + 1, by go_num, by omega, by rw [← unhide HTK], by rw [← unhide HST], unhide HF⟩
              case measure => simp only [intOf]; omega
            · obtain ⟨K, hK⟩ : ∃ K, K = upN N := ⟨_, rfl⟩
              obtain ⟨hk1, hk2, hk3⟩ := up_facts N h256 hcbn h46
              rw [← hK] at hk1 hk2 hk3
              have hk46 : ((K : Int) != 46) = true := by simp; omega
              have hIN : h2 = if dr = true ∧ n1 < 8 then insL h1 K.toUInt8 else h1 := by
                rw [unhide HIN2, hK, unhide HN1]
                simp only [ne_eq, h46, not_false_eq_true, true_and]
              have HIN3 := hide hIN
              clear hIN hK h46 hcbn
              by_cases hsm : smallB (N : Int) = true
              · rw [hsm]
                have hsub : (N : Int) - 32 = (K : Int) := hk2 hsm
                clear hsm hk2 hk3
                cases dr with
                | false =>
                  have hst : hb = txB (if i + 1 ≤ t then h1 else h2) := by rw [unhide HH2, unhide HIN3, if_neg (by simp), unhide HHB]
                  have HST := hide hst
                  clear hst
                  go_wp2
                  go_roundw
                  case rel => exact ⟨i + 1, by go_num, by omega, by rw [← unhide HTK], by rw [← unhide HST], unhide HF⟩
                  case measure => simp only [intOf]; omega
                | true =>
                  by_cases hl : n1 < 8
                  · have hli : (n1 : Int) < 8 := by omega
                    obtain ⟨P, hP⟩ : ∃ P, P = placeN h1 K.toUInt8 := ⟨_, rfl⟩
                    have hPle : P ≤ n1 := by rw [hP, unhide HN1]; exact place_le _ _
                    have hst : hb.extract 0 P ++ (⟨#[K.toUInt8]⟩ : ByteArray) ++ hb.extract P n1 = txB (if i + 1 ≤ t then h1 else h2) := by
                      rw [unhide HH2, unhide HIN3, if_pos ⟨rfl, hl⟩, ← ins_text, ← unhide HHB, hbs, ← hP]
                    have hplt : ∀ k, k < P → ∃ hk : k < hb.size, k < n1 ∧ ((hb[k]'hk).toNat : Int) < (K : Int) := fun k hk => by
                      rw [hP] at hk
                      obtain ⟨h1l, h2l⟩ := place_lt hk
                      have hb' := unhide HHB
                      subst hb'
                      refine ⟨by rw [txB_size]; exact h1l, by rw [unhide HN1]; exact h1l, ?_⟩
                      rw [txB_get h1 k h1l]
                      have := UInt8.lt_iff_toNat_lt.1 h2l
                      rw [u8_back (show K < 256 by omega)] at this
                      omega
                    have hpge : P < n1 → ∃ hk : P < hb.size, ¬ ((hb[P]'hk).toNat : Int) < (K : Int) := fun hk => by
                      have hb' := unhide HHB
                      subst hb'
                      have h1l : P < h1.length := by rw [← unhide HN1]; exact hk
                      refine ⟨by rw [txB_size]; exact h1l, ?_⟩
                      rw [txB_get h1 P h1l]
                      subst hP
                      have := place_ge h1l
                      rw [UInt8.lt_iff_toNat_lt, u8_back (show K < 256 by omega)] at this
                      omega
                    have HST := hide hst
                    have HPLT := hide hplt
                    have HPGE := hide hpge
                    clear hst hplt hpge hP hl
                    go_wp2
                    go_loopw [13] (fun kv wr => ∃ k : Nat, kv = .int .i64 (k : Int) ∧ k ≤ P ∧ Fr w v0 v1 v2 v3 v4 v5 v6 (.bool true) v8 v9 v10 v11 v12 W H T C A B f t c.toNat wr) (fun kv _ => P - (intOf kv).toNat)
                    case atStart => exact ⟨0, rfl, Nat.zero_le _, unhide HF⟩
                    case round =>
                      obtain ⟨k, rfl, hkP, hfr0⟩ := hrel
                      clear HF p0 p1 p2 p3 p4 p5 m0 m1 m2 r7
                      have HF := hide hfr0
                      clear hfr0
                      by_cases hkl : k < P
                      · obtain ⟨hk1', hk2', hk3'⟩ := unhide HPLT k hkl
                        have hkni : (k : Int) < (n1 : Int) := by omega
                        go_wp2
                        go_roundw
                        case rel => exact ⟨k + 1, by go_num, by omega, unhide HF⟩
                        case measure => simp only [intOf]; omega
                      · obtain rfl : k = P := by omega
                        by_cases hPn : k < n1
                        · obtain ⟨hk1', hk2'⟩ := unhide HPGE hPn
                          have hkni : (k : Int) < (n1 : Int) := by omega
                          have hcv0 := conv1r wr.drew K.toUInt8
                          rw [u8_back (show K < 256 by omega)] at hcv0
                          have hcv : (convert 127 9 (.slice (some ⟨wr.heap.size, 0, none⟩) 1 1)).run Tryz.prog (wr.alloc (.cells #[.int .u8 (K : Int)] 5)).drew = .ok (.string ⟨#[K.toUInt8]⟩) (wr.alloc (.cells #[.int .u8 (K : Int)] 5)).drew := hcv0
                          clear hcv0
                          have hP1 : ¬ 9223372036854775807 < k + 1 := by omega
                          have hP2 : ¬ 9223372036854775807 < k + 1 + (n1 - k) := by omega
                          have hPni : (k : Int) ≤ (n1 : Int) := by omega
                          have hK8 : K < 256 := by omega
                          go_wp2_with fail
                          go_region_law (fail)
                          go_wp2
                          go_roundw
                          case rel => exact ⟨i + 1, by go_num, by omega, by rw [← unhide HTK], by rw [← unhide HST], (unhide HF).below (below_ad wr _)⟩
                          case measure => simp only [intOf]; omega
                        · have hkni : ¬ (k : Int) < (n1 : Int) := by omega
                          have hcv0 := conv1r wr.drew K.toUInt8
                          rw [u8_back (show K < 256 by omega)] at hcv0
                          have hcv : (convert 127 9 (.slice (some ⟨wr.heap.size, 0, none⟩) 1 1)).run Tryz.prog (wr.alloc (.cells #[.int .u8 (K : Int)] 5)).drew = .ok (.string ⟨#[K.toUInt8]⟩) (wr.alloc (.cells #[.int .u8 (K : Int)] 5)).drew := hcv0
                          clear hcv0
                          have hP1 : ¬ 9223372036854775807 < k + 1 := by omega
                          have hP2 : ¬ 9223372036854775807 < k + 1 + (n1 - k) := by omega
                          have hPni : (k : Int) ≤ (n1 : Int) := by omega
                          have hK8 : K < 256 := by omega
                          go_wp2_with fail
                          go_region_law (fail)
                          go_wp2
                          go_roundw
                          case rel => exact ⟨i + 1, by go_num, by omega, by rw [← unhide HTK], by rw [← unhide HST], (unhide HF).below (below_ad wr _)⟩
                          case measure => simp only [intOf]; omega
                  · have hli : ¬ (n1 : Int) < 8 := by omega
                    have hst : hb = txB (if i + 1 ≤ t then h1 else h2) := by rw [unhide HH2, unhide HIN3, if_neg (by simp; omega), unhide HHB]
                    have HST := hide hst
                    clear hst
                    go_wp2
                    go_roundw
                    case rel => exact ⟨i + 1, by go_num, by omega, by rw [← unhide HTK], by rw [← unhide HST], unhide HF⟩
                    case measure => simp only [intOf]; omega
              · have hsm' : smallB (N : Int) = false := by simpa using hsm
                rw [hsm']
                obtain rfl : K = N := hk3 hsm'
                clear hsm hsm' hk2 hk3
                cases dr with
                | false =>
                  have hst : hb = txB (if i + 1 ≤ t then h1 else h2) := by rw [unhide HH2, unhide HIN3, if_neg (by simp), unhide HHB]
                  have HST := hide hst
                  clear hst
                  go_wp2
                  go_roundw
                  case rel => exact ⟨i + 1, by go_num, by omega, by rw [← unhide HTK], by rw [← unhide HST], unhide HF⟩
                  case measure => simp only [intOf]; omega
                | true =>
                  by_cases hl : n1 < 8
                  · have hli : (n1 : Int) < 8 := by omega
                    obtain ⟨P, hP⟩ : ∃ P, P = placeN h1 K.toUInt8 := ⟨_, rfl⟩
                    have hPle : P ≤ n1 := by rw [hP, unhide HN1]; exact place_le _ _
                    have hst : hb.extract 0 P ++ (⟨#[K.toUInt8]⟩ : ByteArray) ++ hb.extract P n1 = txB (if i + 1 ≤ t then h1 else h2) := by
                      rw [unhide HH2, unhide HIN3, if_pos ⟨rfl, hl⟩, ← ins_text, ← unhide HHB, hbs, ← hP]
                    have hplt : ∀ k, k < P → ∃ hk : k < hb.size, k < n1 ∧ ((hb[k]'hk).toNat : Int) < (K : Int) := fun k hk => by
                      rw [hP] at hk
                      obtain ⟨h1l, h2l⟩ := place_lt hk
                      have hb' := unhide HHB
                      subst hb'
                      refine ⟨by rw [txB_size]; exact h1l, by rw [unhide HN1]; exact h1l, ?_⟩
                      rw [txB_get h1 k h1l]
                      have := UInt8.lt_iff_toNat_lt.1 h2l
                      rw [u8_back (show K < 256 by omega)] at this
                      omega
                    have hpge : P < n1 → ∃ hk : P < hb.size, ¬ ((hb[P]'hk).toNat : Int) < (K : Int) := fun hk => by
                      have hb' := unhide HHB
                      subst hb'
                      have h1l : P < h1.length := by rw [← unhide HN1]; exact hk
                      refine ⟨by rw [txB_size]; exact h1l, ?_⟩
                      rw [txB_get h1 P h1l]
                      subst hP
                      have := place_ge h1l
                      rw [UInt8.lt_iff_toNat_lt, u8_back (show K < 256 by omega)] at this
                      omega
                    have HST := hide hst
                    have HPLT := hide hplt
                    have HPGE := hide hpge
                    clear hst hplt hpge hP hl
                    go_wp2
                    go_loopw [13] (fun kv wr => ∃ k : Nat, kv = .int .i64 (k : Int) ∧ k ≤ P ∧ Fr w v0 v1 v2 v3 v4 v5 v6 (.bool true) v8 v9 v10 v11 v12 W H T C A B f t c.toNat wr) (fun kv _ => P - (intOf kv).toNat)
                    case atStart => exact ⟨0, rfl, Nat.zero_le _, unhide HF⟩
                    case round =>
                      obtain ⟨k, rfl, hkP, hfr0⟩ := hrel
                      clear HF p0 p1 p2 p3 p4 p5 m0 m1 m2 r7
                      have HF := hide hfr0
                      clear hfr0
                      by_cases hkl : k < P
                      · obtain ⟨hk1', hk2', hk3'⟩ := unhide HPLT k hkl
                        have hkni : (k : Int) < (n1 : Int) := by omega
                        go_wp2
                        go_roundw
                        case rel => exact ⟨k + 1, by go_num, by omega, unhide HF⟩
                        case measure => simp only [intOf]; omega
                      · obtain rfl : k = P := by omega
                        by_cases hPn : k < n1
                        · obtain ⟨hk1', hk2'⟩ := unhide HPGE hPn
                          have hkni : (k : Int) < (n1 : Int) := by omega
                          have hcv0 := conv1r wr.drew K.toUInt8
                          rw [u8_back (show K < 256 by omega)] at hcv0
                          have hcv : (convert 127 9 (.slice (some ⟨wr.heap.size, 0, none⟩) 1 1)).run Tryz.prog (wr.alloc (.cells #[.int .u8 (K : Int)] 5)).drew = .ok (.string ⟨#[K.toUInt8]⟩) (wr.alloc (.cells #[.int .u8 (K : Int)] 5)).drew := hcv0
                          clear hcv0
                          have hP1 : ¬ 9223372036854775807 < k + 1 := by omega
                          have hP2 : ¬ 9223372036854775807 < k + 1 + (n1 - k) := by omega
                          have hPni : (k : Int) ≤ (n1 : Int) := by omega
                          have hK8 : K < 256 := by omega
                          go_wp2_with fail
                          go_region_law (fail)
                          go_wp2
                          go_roundw
                          case rel => exact ⟨i + 1, by go_num, by omega, by rw [← unhide HTK], by rw [← unhide HST], (unhide HF).below (below_ad wr _)⟩
                          case measure => simp only [intOf]; omega
                        · have hkni : ¬ (k : Int) < (n1 : Int) := by omega
                          have hcv0 := conv1r wr.drew K.toUInt8
                          rw [u8_back (show K < 256 by omega)] at hcv0
                          have hcv : (convert 127 9 (.slice (some ⟨wr.heap.size, 0, none⟩) 1 1)).run Tryz.prog (wr.alloc (.cells #[.int .u8 (K : Int)] 5)).drew = .ok (.string ⟨#[K.toUInt8]⟩) (wr.alloc (.cells #[.int .u8 (K : Int)] 5)).drew := hcv0
                          clear hcv0
                          have hP1 : ¬ 9223372036854775807 < k + 1 := by omega
                          have hP2 : ¬ 9223372036854775807 < k + 1 + (n1 - k) := by omega
                          have hPni : (k : Int) ≤ (n1 : Int) := by omega
                          have hK8 : K < 256 := by omega
                          go_wp2_with fail
                          go_region_law (fail)
                          go_wp2
                          go_roundw
                          case rel => exact ⟨i + 1, by go_num, by omega, by rw [← unhide HTK], by rw [← unhide HST], (unhide HF).below (below_ad wr _)⟩
                          case measure => simp only [intOf]; omega
                  · have hli : ¬ (n1 : Int) < 8 := by omega
                    have hst : hb = txB (if i + 1 ≤ t then h1 else h2) := by rw [unhide HH2, unhide HIN3, if_neg (by simp; omega), unhide HHB]
                    have HST := hide hst
                    clear hst
                    go_wp2
                    go_roundw
                    case rel => exact ⟨i + 1, by go_num, by omega, by rw [← unhide HTK], by rw [← unhide HST], unhide HF⟩
                    case measure => simp only [intOf]; omega
          · have hitb : ((i : Int) == (t : Int)) = false := by simp; omega
            rw [if_neg hit] at hzi
            have htk := takeZ hzi
            rw [← unhide HCL] at htk
            have hex : C.extract i (i + 1) = ⟨#[C.data.toList[i]!]⟩ := by
              rw [ext_part]
              have hl : i < C.data.toList.length := by rw [len_data]; exact hic
              rw [List.drop_eq_getElem_cons hl, show i + 1 - i = 1 by omega, getElem!_pos C.data.toList i hl]
              rfl
            have hne : (if i + 1 ≤ t then h1 else h2) = (if i ≤ t then h1 else h2) := by
              by_cases q : i + 1 ≤ t
              · rw [if_pos q, if_pos (by omega)]
              · rw [if_neg q, if_neg (by omega)]
            have HNE := hide hne
            have HTK := hide htk
            have HEX := hide hex
            have hi1 : (i : Int) + 1 ≤ (C.size : Int) := by omega
            have hs64 : (C.size : Int) ≤ 64 := by omega
            clear hit hzi htk hne hex
            go_wp2
            go_roundw
            case rel => exact ⟨i + 1, by go_num, by omega, by rw [← unhide HTK, unhide HEX], by rw [unhide HNE], unhide HF⟩
            case measure => simp only [intOf]; omega
      · have hili : ¬ (i : Int) < (n : Int) := by omega
        have hZe : txB (Z.take i) = txB Z := by rw [List.take_of_length_le (by rw [unhide HZL]; omega)]
        have hHe : txB (if i ≤ t then h1 else h2) = txB h2 := by rw [if_neg (by omega)]
        rw [hZe, hHe]
        clear hZe hHe p0 p1 p2 p3 p4 p5 m0 m1 m2 r7
        have hF := unhide HF
        obtain ⟨p0, p1, p2, p3, p4, p5⟩ := hF.pb.all
        obtain ⟨q0, q1, q2, q3, q4, q5⟩ := hF.qb.all
        have qf2 := hF.qb.frozen 2
        have qf3 := hF.qb.frozen 3
        have hw1T : IntKind.i64.wrap (1 - (T : Int)) = 1 - (T : Int) := by unfold IntKind.wrap; simp [IntKind.signed, IntKind.bits]; omega
        clear hF
        go_wp2_with fail
        apply cutBy
        case k =>
          intro key
          go_region_law (fail)
          all_goals exact unhide key
        obtain ⟨v, hv⟩ : ∃ v, v = ((wr.setCell ⟨w.heap.size + 1 + 1 + 1 + 1, 2, none⟩ (.string (txB Z))).setCell ⟨w.heap.size + 1 + 1 + 1 + 1, 3, none⟩ (.int .i64 (1 - (T : Int)))).drew := ⟨_, rfl⟩
        rw [← hv]
        have hbv : Below (w.heap.size + 1 + 1 + 1 + 1) wr v := by
          rw [hv]
          exact (((Below.refl _ wr).setCell (p := ⟨w.heap.size + 1 + 1 + 1 + 1, 2, none⟩) (Nat.le_refl _) _).setCell (p := ⟨w.heap.size + 1 + 1 + 1 + 1, 3, none⟩) (Nat.le_refl _) _).drew
        have hqv : isPb v (w.heap.size + 1 + 1 + 1 + 1) W H (1 - (T : Int)) (txB Z) A B := by
          rw [hv]
          exact ((unhide HF).qb.set2 (txB Z)).set3 (1 - (T : Int))
        have hpv := (unhide HF).pb.below hbv (by omega)
        have hzv := (unhide HF).zb.below hbv (by omega)
        have hbwv := (unhide HF).bw.trans (hbv.mono (by omega))
        obtain ⟨-, -, -, pv3, -, -⟩ := hpv.all
        obtain ⟨y0, y1, y2, y3, y4, y5⟩ := hqv.all
        have yf4 := hqv.frozen 4
        have yf5 := hqv.frozen 5
        have HQV := hide hqv
        have HZV := hide hzv
        have HBV := hide hbwv
        clear hv hbv hqv hpv hzv hbwv p0 p1 p2 p3 p4 p5 q0 q1 q2 q3 q4 q5 qf2 qf3 hw1T HF
        rcases (by omega : T = 0 ∨ T = 1) with rfl | rfl
        · have hb2 : Below (w.heap.size + 1 + 1 + 1 + 1) v (v.setCell ⟨w.heap.size + 1 + 1 + 1 + 1, 4, none⟩ (.string (txB h2))) := (Below.refl _ v).setCell (p := ⟨w.heap.size + 1 + 1 + 1 + 1, 4, none⟩) (Nat.le_refl _) _
          have hq2 : isPb (v.setCell ⟨w.heap.size + 1 + 1 + 1 + 1, 4, none⟩ (.string (txB h2))) (w.heap.size + 1 + 1 + 1 + 1) W H (1 - 0) (txB Z) (txB h2) B := (unhide HQV).set4 (txB h2)
          have hz2 := (unhide HZV).below hb2 (by omega)
          have HB2 := hide ((unhide HBV).trans (hb2.mono (by have := (unhide HZV).lt; omega)))
          obtain ⟨y0', y1', y2', y3', y4', y5'⟩ := hq2.all
          obtain ⟨e0, e1, e2, e3, e4, e5⟩ := hz2.all
          have z0 := hz2.frozen 0
          have z1 := hz2.frozen 1
          have z2 := hz2.frozen 2
          have z3 := hz2.frozen 3
          have z4 := hz2.frozen 4
          have z5 := hz2.frozen 5
          clear hb2 hq2 hz2
          go_wp2
          exact bodyPost_ret (v := .agg #[.int .i64 (W : Int), .int .i64 (H : Int), .string (txB Z), .int .i64 1, .string (txB h2), .string B]) (by simp [results, Tryz.results76, go_sem, e0, e1, e2, e3, e4, e5]) rfl ⟨rfl, below_set6 (by omega) (unhide HB2)⟩
        · have hb2 : Below (w.heap.size + 1 + 1 + 1 + 1) v (v.setCell ⟨w.heap.size + 1 + 1 + 1 + 1, 5, none⟩ (.string (txB h2))) := (Below.refl _ v).setCell (p := ⟨w.heap.size + 1 + 1 + 1 + 1, 5, none⟩) (Nat.le_refl _) _
          have hq2 : isPb (v.setCell ⟨w.heap.size + 1 + 1 + 1 + 1, 5, none⟩ (.string (txB h2))) (w.heap.size + 1 + 1 + 1 + 1) W H (1 - 1) (txB Z) A (txB h2) := (unhide HQV).set5 (txB h2)
          have hz2 := (unhide HZV).below hb2 (by omega)
          have HB2 := hide ((unhide HBV).trans (hb2.mono (by have := (unhide HZV).lt; omega)))
          obtain ⟨y0', y1', y2', y3', y4', y5'⟩ := hq2.all
          obtain ⟨e0, e1, e2, e3, e4, e5⟩ := hz2.all
          have z0 := hz2.frozen 0
          have z1 := hz2.frozen 1
          have z2 := hz2.frozen 2
          have z3 := hz2.frozen 3
          have z4 := hz2.frozen 4
          have z5 := hz2.frozen 5
          clear hb2 hq2 hz2
          go_wp2
          exact bodyPost_ret (v := .agg #[.int .i64 (W : Int), .int .i64 (H : Int), .string (txB Z), .int .i64 0, .string A, .string (txB h2)]) (by simp [results, Tryz.results76, go_sem, e0, e1, e2, e3, e4, e5]) rfl ⟨rfl, below_set6 (by omega) (unhide HB2)⟩
  · have hf0 : ¬ f < 0 := by omega
    have hhe : h.size = h.data.toList.length := (len_data h).symm
    obtain ⟨h1, hh1⟩ : ∃ h1, h1 = h.data.toList := ⟨_, rfl⟩
    have hl8 : h1.length ≤ 8 := by rw [hh1, len_data]; exact hh8
    obtain ⟨n, hn⟩ : ∃ n, n = C.size := ⟨_, rfl⟩
    have hnC : C.size = n := hn.symm
    obtain ⟨Z, hZ⟩ : ∃ Z, Z = behC C.data.toList f t x := ⟨_, rfl⟩
    have HZL : Hid (Z.length = n) := hide (by rw [hZ, behC_len, len_data, hn])
    have HZ : Hid (∀ i : Nat, i < n → Z[i]? = some (if (i : Int) = f then 46 else if i = t then x else C.data.toList[i]!)) := hide fun i hi => by
      have hl : i < C.data.toList.length := by rw [len_data]; omega
      rw [hZ, getElem!_pos C.data.toList i hl]
      exact behC_at (Or.inr ⟨by omega, by omega⟩) hl
    obtain ⟨h2, hh2⟩ : ∃ h2, h2 = behH C.data.toList h.data.toList dr f t c := ⟨_, rfl⟩
    have HINS : Hid (h2 = if cellN C t ≠ 46 ∧ dr = true ∧ h1.length < 8 then insL h1 (upN (cellN C t)).toUInt8 else h1) := hide (by
      have hl : t < C.data.toList.length := by rw [len_data]; exact ht
      rw [hh2, hf1, hh1, behH_go hl hft hor (by rw [len_data]; exact hh8)]
      obtain ⟨q1, q2⟩ := cellN_list C t ht
      rw [List.getElem?_eq_getElem hl] at q1
      have q3 := Option.some.inj q1
      rw [q3, q2]
      have q4 : (C.get! t ≠ 46) ↔ ((C.get! t).toNat ≠ 46) := by rw [ne_eq, ne_eq, ← UInt8.toNat_inj]; rfl
      simp only [q4])
    have HFT : Hid (∀ i : Nat, (i : Int) = f → i ≠ t) := hide fun i hi => by omega
    rw [← hZ, ← hh2]
    have HHE : Hid (h = txB h1) := hide (by rw [hh1, txB_data])
    clear hn hZ hh1 hh2 hf1 hfr hft hhe hor
    go_enter Tryz.func76, Tryz.ntmps76
    go_wp2_with fail
    rw [← hw1, ← hw2, ← hw3, ← hw4, ← hw5]
    clear hw1 hw2 hw3 hw4 hw5 w1 w2 w3 w4
    go_quiet (fail)
    go_wp2_with fail
    have hfr1 := (unhide HF).below (below_drew _ nq)
    clear HF p0 p1 p2 p3 p4 p5 m0 m1 m2 r7 hhc
    have HF := hide hfr1
    clear hfr1
    obtain ⟨hru, hpb, hmb, hzb, hqb, hbw⟩ := unhide HF
    obtain ⟨p0, p1, p2, p3, p4, p5⟩ := hpb.all
    obtain ⟨m0, m1, m2⟩ := hmb.all
    obtain ⟨-, -, -, -, -, -, -, r7, -, -, -, -, -⟩ := hru.cells
    clear hru hpb hmb hzb hqb hbw
    go_loopw [8, 9, 11] (fun cv hv iv wr => ∃ i : Nat, iv = .int .i64 (i : Int) ∧ i ≤ n ∧ cv = .string (txB (Z.take i)) ∧ hv = .string (txB (if i ≤ t then h1 else h2)) ∧ Fr w v0 v1 v2 v3 v4 v5 v6 (.bool dr) v8 v9 v10 v11 v12 W H T C A B f t c.toNat wr) (fun _ _ iv _ => n - (intOf iv).toNat)
    case atStart => exact ⟨0, rfl, Nat.zero_le _, rfl, by rw [if_pos (Nat.zero_le _), ← unhide HHE], unhide HF⟩
    case round =>
      obtain ⟨i, rfl, hin, rfl, rfl, hfr0⟩ := hrel
      clear HF
      have HF := hide hfr0
      clear hfr0
      obtain ⟨hru, hpb, hmb, hzb, hqb, hbw⟩ := unhide HF
      obtain ⟨p0, p1, p2, p3, p4, p5⟩ := hpb.all
      obtain ⟨m0, m1, m2⟩ := hmb.all
      obtain ⟨-, -, -, -, -, -, -, r7, -, -, -, -, -⟩ := hru.cells
      clear hru hpb hmb hzb hqb hbw
      by_cases hil : i < n
      · have hili : (i : Int) < (n : Int) := by omega
        have hic : i < C.size := by omega
        have hzi := unhide HZ i hil
        obtain ⟨cells, hcl⟩ : ∃ cells, cells = txB (Z.take i) := ⟨_, rfl⟩
        rw [← hcl]
        have hcs : ¬ 9223372036854775807 < cells.size + 1 := by rw [hcl, txB_size, List.length_take]; omega
        have HCL := hide hcl
        clear hcl
        obtain ⟨hcn, h256⟩ := cellN_at C i hic
        obtain ⟨N, hN⟩ : ∃ N, N = cellN C i := ⟨_, rfl⟩
        rw [← hN] at hcn h256
        have HN := hide hN
        clear hN
        by_cases hif : (i : Int) = f
        · have hib : ((i : Int) == f) = true := by simp [hif]
          rw [if_pos hif] at hzi
          have htk := takeZ hzi
          rw [← unhide HCL] at htk
          have HTK := hide htk
          have hne : (if i + 1 ≤ t then h1 else h2) = (if i ≤ t then h1 else h2) := by
            have : i ≠ t := unhide HFT i hif
            by_cases q : i + 1 ≤ t
            · rw [if_pos q, if_pos (by omega)]
            · rw [if_neg q, if_neg (by omega)]
          have HNE := hide hne
          clear hif hzi htk hne
          go_wp2
          go_roundw
          case rel => exact ⟨i + 1, by go_num, by omega, by rw [← unhide HTK], by rw [unhide HNE], unhide HF⟩
          case measure => simp only [intOf]; omega
        · have hib : ((i : Int) == f) = false := by simp [hif]
          rw [if_neg hif] at hzi
          clear hif
          by_cases hit : i = t
          · have hitb : ((i : Int) == (t : Int)) = true := by simp [hit]
            rw [if_pos hit] at hzi
            have htk := takeZ hzi
            rw [← unhide HCL] at htk
            have HTK := hide htk
            have hh1 : (if i ≤ t then h1 else h2) = h1 := if_pos (by omega)
            have hh2 : (if i + 1 ≤ t then h1 else h2) = h2 := if_neg (by omega)
            rw [hh1]
            have HH2 := hide hh2
            have HIN := unhide HINS
            rw [← hit, ← unhide HN] at HIN
            have HIN2 := hide HIN
            clear hzi htk hh1 hh2 HIN hit
            go_wp2_with fail
            refine (unhide HMK _).mono ?_
            rintro e u ⟨rfl, hbu⟩
            have hfr0 := (unhide HF).below hbu
            clear HF hbu p0 p1 p2 p3 p4 p5 m0 m1 m2 r7
            have HF := hide hfr0
            clear hfr0
            obtain ⟨hru, hpb, hmb, hzb, hqb, hbw⟩ := unhide HF
            obtain ⟨p0, p1, p2, p3, p4, p5⟩ := hpb.all
            obtain ⟨m0, m1, m2⟩ := hmb.all
            obtain ⟨-, -, -, -, -, -, -, r7, -, -, -, -, -⟩ := hru.cells
            clear hru hpb hmb hzb hqb hbw
            go_wp2_with fail
            refine (Small_any _ _).mono ?_
            rintro e u2 ⟨rfl, rfl⟩
            have hcbn := (unhide HCELL i hic).1
            rw [← unhide HN] at hcbn
            obtain ⟨hb, hhb⟩ : ∃ hb, hb = txB h1 := ⟨_, rfl⟩
            rw [← hhb]
            obtain ⟨n1, hn1⟩ : ∃ n1, n1 = h1.length := ⟨_, rfl⟩
            have hbs : hb.size = n1 := by rw [hhb, hn1, txB_size]
            have hn18 : n1 ≤ 8 := by rw [hn1]; exact hl8
            have HHB := hide hhb
            have HN1 := hide hn1
            clear hhb hn1 hl8
            by_cases h46 : N = 46
            · have hsm : smallB (N : Int) = false := by rw [h46]; decide
              have hn46 : ((N : Int) != 46) = false := by simp; omega
              have hst : hb = txB (if i + 1 ≤ t then h1 else h2) := by rw [unhide HH2, unhide HIN2, if_neg (fun q => q.1 h46), unhide HHB]
              have HST := hide hst
              rw [hsm]
              clear h46 hsm hst hcbn
              go_wp2
              go_roundw
              case rel => exact ⟨i + 1, by go_num, by omega, by rw [← unhide HTK], by rw [← unhide HST], unhide HF⟩
              case measure => simp only [intOf]; omega
            · obtain ⟨K, hK⟩ : ∃ K, K = upN N := ⟨_, rfl⟩
              obtain ⟨hk1, hk2, hk3⟩ := up_facts N h256 hcbn h46
              rw [← hK] at hk1 hk2 hk3
              have hk46 : ((K : Int) != 46) = true := by simp; omega
              have hIN : h2 = if dr = true ∧ n1 < 8 then insL h1 K.toUInt8 else h1 := by
                rw [unhide HIN2, hK, unhide HN1]
                simp only [ne_eq, h46, not_false_eq_true, true_and]
              have HIN3 := hide hIN
              clear hIN hK h46 hcbn
              by_cases hsm : smallB (N : Int) = true
              · rw [hsm]
                have hsub : (N : Int) - 32 = (K : Int) := hk2 hsm
                clear hsm hk2 hk3
                cases dr with
                | false =>
                  have hst : hb = txB (if i + 1 ≤ t then h1 else h2) := by rw [unhide HH2, unhide HIN3, if_neg (by simp), unhide HHB]
                  have HST := hide hst
                  clear hst
                  go_wp2
                  go_roundw
                  case rel => exact ⟨i + 1, by go_num, by omega, by rw [← unhide HTK], by rw [← unhide HST], unhide HF⟩
                  case measure => simp only [intOf]; omega
                | true =>
                  by_cases hl : n1 < 8
                  · have hli : (n1 : Int) < 8 := by omega
                    obtain ⟨P, hP⟩ : ∃ P, P = placeN h1 K.toUInt8 := ⟨_, rfl⟩
                    have hPle : P ≤ n1 := by rw [hP, unhide HN1]; exact place_le _ _
                    have hst : hb.extract 0 P ++ (⟨#[K.toUInt8]⟩ : ByteArray) ++ hb.extract P n1 = txB (if i + 1 ≤ t then h1 else h2) := by
                      rw [unhide HH2, unhide HIN3, if_pos ⟨rfl, hl⟩, ← ins_text, ← unhide HHB, hbs, ← hP]
                    have hplt : ∀ k, k < P → ∃ hk : k < hb.size, k < n1 ∧ ((hb[k]'hk).toNat : Int) < (K : Int) := fun k hk => by
                      rw [hP] at hk
                      obtain ⟨h1l, h2l⟩ := place_lt hk
                      have hb' := unhide HHB
                      subst hb'
                      refine ⟨by rw [txB_size]; exact h1l, by rw [unhide HN1]; exact h1l, ?_⟩
                      rw [txB_get h1 k h1l]
                      have := UInt8.lt_iff_toNat_lt.1 h2l
                      rw [u8_back (show K < 256 by omega)] at this
                      omega
                    have hpge : P < n1 → ∃ hk : P < hb.size, ¬ ((hb[P]'hk).toNat : Int) < (K : Int) := fun hk => by
                      have hb' := unhide HHB
                      subst hb'
                      have h1l : P < h1.length := by rw [← unhide HN1]; exact hk
                      refine ⟨by rw [txB_size]; exact h1l, ?_⟩
                      rw [txB_get h1 P h1l]
                      subst hP
                      have := place_ge h1l
                      rw [UInt8.lt_iff_toNat_lt, u8_back (show K < 256 by omega)] at this
                      omega
                    have HST := hide hst
                    have HPLT := hide hplt
                    have HPGE := hide hpge
                    clear hst hplt hpge hP hl
                    go_wp2
                    go_loopw [13] (fun kv wr => ∃ k : Nat, kv = .int .i64 (k : Int) ∧ k ≤ P ∧ Fr w v0 v1 v2 v3 v4 v5 v6 (.bool true) v8 v9 v10 v11 v12 W H T C A B f t c.toNat wr) (fun kv _ => P - (intOf kv).toNat)
                    case atStart => exact ⟨0, rfl, Nat.zero_le _, unhide HF⟩
                    case round =>
                      obtain ⟨k, rfl, hkP, hfr0⟩ := hrel
                      clear HF p0 p1 p2 p3 p4 p5 m0 m1 m2 r7
                      have HF := hide hfr0
                      clear hfr0
                      by_cases hkl : k < P
                      · obtain ⟨hk1', hk2', hk3'⟩ := unhide HPLT k hkl
                        have hkni : (k : Int) < (n1 : Int) := by omega
                        go_wp2
                        go_roundw
                        case rel => exact ⟨k + 1, by go_num, by omega, unhide HF⟩
                        case measure => simp only [intOf]; omega
                      · obtain rfl : k = P := by omega
                        by_cases hPn : k < n1
                        · obtain ⟨hk1', hk2'⟩ := unhide HPGE hPn
                          have hkni : (k : Int) < (n1 : Int) := by omega
                          have hcv0 := conv1r wr.drew K.toUInt8
                          rw [u8_back (show K < 256 by omega)] at hcv0
                          have hcv : (convert 127 9 (.slice (some ⟨wr.heap.size, 0, none⟩) 1 1)).run Tryz.prog (wr.alloc (.cells #[.int .u8 (K : Int)] 5)).drew = .ok (.string ⟨#[K.toUInt8]⟩) (wr.alloc (.cells #[.int .u8 (K : Int)] 5)).drew := hcv0
                          clear hcv0
                          have hP1 : ¬ 9223372036854775807 < k + 1 := by omega
                          have hP2 : ¬ 9223372036854775807 < k + 1 + (n1 - k) := by omega
                          have hPni : (k : Int) ≤ (n1 : Int) := by omega
                          have hK8 : K < 256 := by omega
                          go_wp2_with fail
                          go_region_law (fail)
                          go_wp2
                          go_roundw
                          case rel => exact ⟨i + 1, by go_num, by omega, by rw [← unhide HTK], by rw [← unhide HST], (unhide HF).below (below_ad wr _)⟩
                          case measure => simp only [intOf]; omega
                        · have hkni : ¬ (k : Int) < (n1 : Int) := by omega
                          have hcv0 := conv1r wr.drew K.toUInt8
                          rw [u8_back (show K < 256 by omega)] at hcv0
                          have hcv : (convert 127 9 (.slice (some ⟨wr.heap.size, 0, none⟩) 1 1)).run Tryz.prog (wr.alloc (.cells #[.int .u8 (K : Int)] 5)).drew = .ok (.string ⟨#[K.toUInt8]⟩) (wr.alloc (.cells #[.int .u8 (K : Int)] 5)).drew := hcv0
                          clear hcv0
                          have hP1 : ¬ 9223372036854775807 < k + 1 := by omega
                          have hP2 : ¬ 9223372036854775807 < k + 1 + (n1 - k) := by omega
                          have hPni : (k : Int) ≤ (n1 : Int) := by omega
                          have hK8 : K < 256 := by omega
                          go_wp2_with fail
                          go_region_law (fail)
                          go_wp2
                          go_roundw
                          case rel => exact ⟨i + 1, by go_num, by omega, by rw [← unhide HTK], by rw [← unhide HST], (unhide HF).below (below_ad wr _)⟩
                          case measure => simp only [intOf]; omega
                  · have hli : ¬ (n1 : Int) < 8 := by omega
                    have hst : hb = txB (if i + 1 ≤ t then h1 else h2) := by rw [unhide HH2, unhide HIN3, if_neg (by simp; omega), unhide HHB]
                    have HST := hide hst
                    clear hst
                    go_wp2
                    go_roundw
                    case rel => exact ⟨i + 1, by go_num, by omega, by rw [← unhide HTK], by rw [← unhide HST], unhide HF⟩
                    case measure => simp only [intOf]; omega
              · have hsm' : smallB (N : Int) = false := by simpa using hsm
                rw [hsm']
                obtain rfl : K = N := hk3 hsm'
                clear hsm hsm' hk2 hk3
                cases dr with
                | false =>
                  have hst : hb = txB (if i + 1 ≤ t then h1 else h2) := by rw [unhide HH2, unhide HIN3, if_neg (by simp), unhide HHB]
                  have HST := hide hst
                  clear hst
                  go_wp2
                  go_roundw
                  case rel => exact ⟨i + 1, by go_num, by omega, by rw [← unhide HTK], by rw [← unhide HST], unhide HF⟩
                  case measure => simp only [intOf]; omega
                | true =>
                  by_cases hl : n1 < 8
                  · have hli : (n1 : Int) < 8 := by omega
                    obtain ⟨P, hP⟩ : ∃ P, P = placeN h1 K.toUInt8 := ⟨_, rfl⟩
                    have hPle : P ≤ n1 := by rw [hP, unhide HN1]; exact place_le _ _
                    have hst : hb.extract 0 P ++ (⟨#[K.toUInt8]⟩ : ByteArray) ++ hb.extract P n1 = txB (if i + 1 ≤ t then h1 else h2) := by
                      rw [unhide HH2, unhide HIN3, if_pos ⟨rfl, hl⟩, ← ins_text, ← unhide HHB, hbs, ← hP]
                    have hplt : ∀ k, k < P → ∃ hk : k < hb.size, k < n1 ∧ ((hb[k]'hk).toNat : Int) < (K : Int) := fun k hk => by
                      rw [hP] at hk
                      obtain ⟨h1l, h2l⟩ := place_lt hk
                      have hb' := unhide HHB
                      subst hb'
                      refine ⟨by rw [txB_size]; exact h1l, by rw [unhide HN1]; exact h1l, ?_⟩
                      rw [txB_get h1 k h1l]
                      have := UInt8.lt_iff_toNat_lt.1 h2l
                      rw [u8_back (show K < 256 by omega)] at this
                      omega
                    have hpge : P < n1 → ∃ hk : P < hb.size, ¬ ((hb[P]'hk).toNat : Int) < (K : Int) := fun hk => by
                      have hb' := unhide HHB
                      subst hb'
                      have h1l : P < h1.length := by rw [← unhide HN1]; exact hk
                      refine ⟨by rw [txB_size]; exact h1l, ?_⟩
                      rw [txB_get h1 P h1l]
                      subst hP
                      have := place_ge h1l
                      rw [UInt8.lt_iff_toNat_lt, u8_back (show K < 256 by omega)] at this
                      omega
                    have HST := hide hst
                    have HPLT := hide hplt
                    have HPGE := hide hpge
                    clear hst hplt hpge hP hl
                    go_wp2
                    go_loopw [13] (fun kv wr => ∃ k : Nat, kv = .int .i64 (k : Int) ∧ k ≤ P ∧ Fr w v0 v1 v2 v3 v4 v5 v6 (.bool true) v8 v9 v10 v11 v12 W H T C A B f t c.toNat wr) (fun kv _ => P - (intOf kv).toNat)
                    case atStart => exact ⟨0, rfl, Nat.zero_le _, unhide HF⟩
                    case round =>
                      obtain ⟨k, rfl, hkP, hfr0⟩ := hrel
                      clear HF p0 p1 p2 p3 p4 p5 m0 m1 m2 r7
                      have HF := hide hfr0
                      clear hfr0
                      by_cases hkl : k < P
                      · obtain ⟨hk1', hk2', hk3'⟩ := unhide HPLT k hkl
                        have hkni : (k : Int) < (n1 : Int) := by omega
                        go_wp2
                        go_roundw
                        case rel => exact ⟨k + 1, by go_num, by omega, unhide HF⟩
                        case measure => simp only [intOf]; omega
                      · obtain rfl : k = P := by omega
                        by_cases hPn : k < n1
                        · obtain ⟨hk1', hk2'⟩ := unhide HPGE hPn
                          have hkni : (k : Int) < (n1 : Int) := by omega
                          have hcv0 := conv1r wr.drew K.toUInt8
                          rw [u8_back (show K < 256 by omega)] at hcv0
                          have hcv : (convert 127 9 (.slice (some ⟨wr.heap.size, 0, none⟩) 1 1)).run Tryz.prog (wr.alloc (.cells #[.int .u8 (K : Int)] 5)).drew = .ok (.string ⟨#[K.toUInt8]⟩) (wr.alloc (.cells #[.int .u8 (K : Int)] 5)).drew := hcv0
                          clear hcv0
                          have hP1 : ¬ 9223372036854775807 < k + 1 := by omega
                          have hP2 : ¬ 9223372036854775807 < k + 1 + (n1 - k) := by omega
                          have hPni : (k : Int) ≤ (n1 : Int) := by omega
                          have hK8 : K < 256 := by omega
                          go_wp2_with fail
                          go_region_law (fail)
                          go_wp2
                          go_roundw
                          case rel => exact ⟨i + 1, by go_num, by omega, by rw [← unhide HTK], by rw [← unhide HST], (unhide HF).below (below_ad wr _)⟩
                          case measure => simp only [intOf]; omega
                        · have hkni : ¬ (k : Int) < (n1 : Int) := by omega
                          have hcv0 := conv1r wr.drew K.toUInt8
                          rw [u8_back (show K < 256 by omega)] at hcv0
                          have hcv : (convert 127 9 (.slice (some ⟨wr.heap.size, 0, none⟩) 1 1)).run Tryz.prog (wr.alloc (.cells #[.int .u8 (K : Int)] 5)).drew = .ok (.string ⟨#[K.toUInt8]⟩) (wr.alloc (.cells #[.int .u8 (K : Int)] 5)).drew := hcv0
                          clear hcv0
                          have hP1 : ¬ 9223372036854775807 < k + 1 := by omega
                          have hP2 : ¬ 9223372036854775807 < k + 1 + (n1 - k) := by omega
                          have hPni : (k : Int) ≤ (n1 : Int) := by omega
                          have hK8 : K < 256 := by omega
                          go_wp2_with fail
                          go_region_law (fail)
                          go_wp2
                          go_roundw
                          case rel => exact ⟨i + 1, by go_num, by omega, by rw [← unhide HTK], by rw [← unhide HST], (unhide HF).below (below_ad wr _)⟩
                          case measure => simp only [intOf]; omega
                  · have hli : ¬ (n1 : Int) < 8 := by omega
                    have hst : hb = txB (if i + 1 ≤ t then h1 else h2) := by rw [unhide HH2, unhide HIN3, if_neg (by simp; omega), unhide HHB]
                    have HST := hide hst
                    clear hst
                    go_wp2
                    go_roundw
                    case rel => exact ⟨i + 1, by go_num, by omega, by rw [← unhide HTK], by rw [← unhide HST], unhide HF⟩
                    case measure => simp only [intOf]; omega
          · have hitb : ((i : Int) == (t : Int)) = false := by simp; omega
            rw [if_neg hit] at hzi
            have htk := takeZ hzi
            rw [← unhide HCL] at htk
            have hex : C.extract i (i + 1) = ⟨#[C.data.toList[i]!]⟩ := by
              rw [ext_part]
              have hl : i < C.data.toList.length := by rw [len_data]; exact hic
              rw [List.drop_eq_getElem_cons hl, show i + 1 - i = 1 by omega, getElem!_pos C.data.toList i hl]
              rfl
            have hne : (if i + 1 ≤ t then h1 else h2) = (if i ≤ t then h1 else h2) := by
              by_cases q : i + 1 ≤ t
              · rw [if_pos q, if_pos (by omega)]
              · rw [if_neg q, if_neg (by omega)]
            have HNE := hide hne
            have HTK := hide htk
            have HEX := hide hex
            have hi1 : (i : Int) + 1 ≤ (C.size : Int) := by omega
            have hs64 : (C.size : Int) ≤ 64 := by omega
            clear hit hzi htk hne hex
            go_wp2
            go_roundw
            case rel => exact ⟨i + 1, by go_num, by omega, by rw [← unhide HTK, unhide HEX], by rw [unhide HNE], unhide HF⟩
            case measure => simp only [intOf]; omega
      · have hili : ¬ (i : Int) < (n : Int) := by omega
        have hZe : txB (Z.take i) = txB Z := by rw [List.take_of_length_le (by rw [unhide HZL]; omega)]
        have hHe : txB (if i ≤ t then h1 else h2) = txB h2 := by rw [if_neg (by omega)]
        rw [hZe, hHe]
        clear hZe hHe p0 p1 p2 p3 p4 p5 m0 m1 m2 r7
        have hF := unhide HF
        obtain ⟨p0, p1, p2, p3, p4, p5⟩ := hF.pb.all
        obtain ⟨q0, q1, q2, q3, q4, q5⟩ := hF.qb.all
        have qf2 := hF.qb.frozen 2
        have qf3 := hF.qb.frozen 3
        have hw1T : IntKind.i64.wrap (1 - (T : Int)) = 1 - (T : Int) := by unfold IntKind.wrap; simp [IntKind.signed, IntKind.bits]; omega
        clear hF
        go_wp2_with fail
        apply cutBy
        case k =>
          intro key
          go_region_law (fail)
          all_goals exact unhide key
        obtain ⟨v, hv⟩ : ∃ v, v = ((wr.setCell ⟨w.heap.size + 1 + 1 + 1 + 1, 2, none⟩ (.string (txB Z))).setCell ⟨w.heap.size + 1 + 1 + 1 + 1, 3, none⟩ (.int .i64 (1 - (T : Int)))).drew := ⟨_, rfl⟩
        rw [← hv]
        have hbv : Below (w.heap.size + 1 + 1 + 1 + 1) wr v := by
          rw [hv]
          exact (((Below.refl _ wr).setCell (p := ⟨w.heap.size + 1 + 1 + 1 + 1, 2, none⟩) (Nat.le_refl _) _).setCell (p := ⟨w.heap.size + 1 + 1 + 1 + 1, 3, none⟩) (Nat.le_refl _) _).drew
        have hqv : isPb v (w.heap.size + 1 + 1 + 1 + 1) W H (1 - (T : Int)) (txB Z) A B := by
          rw [hv]
          exact ((unhide HF).qb.set2 (txB Z)).set3 (1 - (T : Int))
        have hpv := (unhide HF).pb.below hbv (by omega)
        have hzv := (unhide HF).zb.below hbv (by omega)
        have hbwv := (unhide HF).bw.trans (hbv.mono (by omega))
        obtain ⟨-, -, -, pv3, -, -⟩ := hpv.all
        obtain ⟨y0, y1, y2, y3, y4, y5⟩ := hqv.all
        have yf4 := hqv.frozen 4
        have yf5 := hqv.frozen 5
        have HQV := hide hqv
        have HZV := hide hzv
        have HBV := hide hbwv
        clear hv hbv hqv hpv hzv hbwv p0 p1 p2 p3 p4 p5 q0 q1 q2 q3 q4 q5 qf2 qf3 hw1T HF
        rcases (by omega : T = 0 ∨ T = 1) with rfl | rfl
        · have hb2 : Below (w.heap.size + 1 + 1 + 1 + 1) v (v.setCell ⟨w.heap.size + 1 + 1 + 1 + 1, 4, none⟩ (.string (txB h2))) := (Below.refl _ v).setCell (p := ⟨w.heap.size + 1 + 1 + 1 + 1, 4, none⟩) (Nat.le_refl _) _
          have hq2 : isPb (v.setCell ⟨w.heap.size + 1 + 1 + 1 + 1, 4, none⟩ (.string (txB h2))) (w.heap.size + 1 + 1 + 1 + 1) W H (1 - 0) (txB Z) (txB h2) B := (unhide HQV).set4 (txB h2)
          have hz2 := (unhide HZV).below hb2 (by omega)
          have HB2 := hide ((unhide HBV).trans (hb2.mono (by have := (unhide HZV).lt; omega)))
          obtain ⟨y0', y1', y2', y3', y4', y5'⟩ := hq2.all
          obtain ⟨e0, e1, e2, e3, e4, e5⟩ := hz2.all
          have z0 := hz2.frozen 0
          have z1 := hz2.frozen 1
          have z2 := hz2.frozen 2
          have z3 := hz2.frozen 3
          have z4 := hz2.frozen 4
          have z5 := hz2.frozen 5
          clear hb2 hq2 hz2
          go_wp2
          exact bodyPost_ret (v := .agg #[.int .i64 (W : Int), .int .i64 (H : Int), .string (txB Z), .int .i64 1, .string (txB h2), .string B]) (by simp [results, Tryz.results76, go_sem, e0, e1, e2, e3, e4, e5]) rfl ⟨rfl, below_set6 (by omega) (unhide HB2)⟩
        · have hb2 : Below (w.heap.size + 1 + 1 + 1 + 1) v (v.setCell ⟨w.heap.size + 1 + 1 + 1 + 1, 5, none⟩ (.string (txB h2))) := (Below.refl _ v).setCell (p := ⟨w.heap.size + 1 + 1 + 1 + 1, 5, none⟩) (Nat.le_refl _) _
          have hq2 : isPb (v.setCell ⟨w.heap.size + 1 + 1 + 1 + 1, 5, none⟩ (.string (txB h2))) (w.heap.size + 1 + 1 + 1 + 1) W H (1 - 1) (txB Z) A (txB h2) := (unhide HQV).set5 (txB h2)
          have hz2 := (unhide HZV).below hb2 (by omega)
          have HB2 := hide ((unhide HBV).trans (hb2.mono (by have := (unhide HZV).lt; omega)))
          obtain ⟨y0', y1', y2', y3', y4', y5'⟩ := hq2.all
          obtain ⟨e0, e1, e2, e3, e4, e5⟩ := hz2.all
          have z0 := hz2.frozen 0
          have z1 := hz2.frozen 1
          have z2 := hz2.frozen 2
          have z3 := hz2.frozen 3
          have z4 := hz2.frozen 4
          have z5 := hz2.frozen 5
          clear hb2 hq2 hz2
          go_wp2
          exact bodyPost_ret (v := .agg #[.int .i64 (W : Int), .int .i64 (H : Int), .string (txB Z), .int .i64 0, .string A, .string (txB h2)]) (by simp [results, Tryz.results76, go_sem, e0, e1, e2, e3, e4, e5]) rfl ⟨rfl, below_set6 (by omega) (unhide HB2)⟩
end Go.Proofs.YtihojhfpepbjhaaGreatDoor
