/-
  package record, walked: Read.
-/
import Derived.Test.YtdibjdpnleepmacDoorN18
namespace Go.Proofs.YtdibjdpnleepmacDoor
open Go.RowKit
attribute [local go_sem ↓] Go.wp_at_zero Go.wp_at_succ

/-- What Read answers: the notes, or the fault's code and place. -/
def readL (l : List UInt8) : Except (Int × Int) (List Nt) := match whole (.start l) with
  | .error a => .error (3, a)
  | .ok (E, d) => if (E.length : Int) > 1000 ∨ d > 50 then .error (2, -1) else .ok (notesN E (-1))
theorem start_inv (l : List UInt8) : Inv (.start l) := ⟨[], ⟨rfl, fun i e he => by simp [Ps.start] at he⟩, .inl ⟨rfl, rfl, rfl⟩, fun p hp => by simp [Ps.start] at hp⟩
structure ReadEnd (l : List UInt8) (w : World) (e : Ending) (w' : World) : Prop where
  ex : (∃ c a, readL l = .error (c, a) ∧ c ≠ 0 ∧ e = .returned (.tuple #[.slice none 0 0, .agg #[.int .i64 c, .int .i64 a]])) ∨
    (∃ L ao cap d, readL l = .ok L ∧ e = .returned (.tuple #[.slice ao L.length cap, .agg #[.int .i64 0, .int .i64 0]]) ∧ isNts d w' w'.heap.size ao cap L)
  low : Below w.heap.size w w'

set_option maxHeartbeats 2000000 in
set_option maxRecDepth 100000 in
theorem recRead_any (s : ByteArray) (w : World) (h2 : 2 ≤ w.heap.size) (hT : Lib.Utf8Tabs 0 1 w) (hs : s.size ≤ 1200000) :
    Calls Tryd.prog 4 #[.string s] w fun e w' => ReadEnd s.data.toList w e w' := by
  obtain ⟨w0, hw0⟩ : ∃ w0, w0 = w.alloc (.cells #[.int .i64 0, .int .i64 0] 25 (0, 0)) := ⟨_, rfl⟩
  have hb0 : Below w.heap.size w w0 := by rw [hw0]; exact (Below.refl _ _).alloc (Nat.le_refl _) _
  have hs0 : w0.heap.size = w.heap.size + 1 := by rw [hw0]; simp
  have hf0 : isFb w0 w.heap.size 0 0 := by rw [hw0]; exact heap_alloc_new w _
  obtain ⟨wa, hwa⟩ : ∃ wa, wa = w0.alloc (.cells #[.string s, .int .i64 0, .slice none 0 0, .int .i64 0, .int .i64 0, .int .i64 (-1), .int .i64 0, .int .i64 0, .bool false, .slice none 0 0] 39 (0, 0)) := ⟨_, rfl⟩
  have hba0 : Below w0.heap.size w0 wa := by rw [hwa]; exact (Below.refl _ _).alloc (Nat.le_refl _) _
  have hba : Below w.heap.size w wa := hb0.trans (hba0.mono (by omega))
  have hsa : wa.heap.size = w.heap.size + 2 := by rw [hwa]; simp [hs0]
  have hre : isRe wa (w.heap.size + 1) ((Ps.start s.data.toList).re (.slice none 0 0) (.slice none 0 0)) := by
    rw [hwa, ← hs0]
    have := heap_alloc_new w0 (.cells #[.string s, .int .i64 0, .slice none 0 0, .int .i64 0, .int .i64 0, .int .i64 (-1), .int .i64 0, .int .i64 0, .bool false, .slice none 0 0] 39 (0, 0))
    unfold isRe Ps.re Ps.start
    simp only [ofL_of]
    exact this
  have hfa : isFb wa w.heap.size 0 0 := hf0.bb (g := w.heap.size + 1) (B := w0.heap.size) (Bb.of hba0) (by omega) (by omega)
  have HWH := hide (whole_any (w.heap.size + 1) s.data.toList wa hre (by omega) (Utf8Tabs_below hT hba) (by rw [← Lib.size_eq]; omega))
  have HBA := hide hba
  have HFA := hide hfa
  obtain ⟨l, hl⟩ : ∃ l, l = s.data.toList := ⟨_, rfl⟩
  rw [← hl] at HWH ⊢
  clear hba hre hl hT hb0 hba0 hf0 hfa
  go_enter Tryd.func4, Tryd.ntmps4
  go_wp2_with fail
  rw [← hw0, ← hwa]
  clear hw0 hwa
  refine (unhide HWH).mono ?_
  rintro e w2 ⟨hex, hlow⟩
  have hfb := (unhide HFA).bb hlow (by omega) (by omega)
  have hbw : Below w.heap.size w w2 := (unhide HBA).trans ⟨hlow.os, hlow.tape, hlow.output, hlow.size, fun k hk => hlow.block k (by omega) (by omega)⟩
  have hs2 : w.heap.size + 2 ≤ w2.heap.size := by have := hlow.size; omega
  have HLW := hide hlow
  have HFB := hide hfb
  obtain ⟨f0, f1, z0, z1⟩ := hfb.all
  clear hlow hfb
  rcases hex with ⟨a, hw, rfl⟩ | ⟨s1, hw, rfl, hrp, hbd⟩
  · have hrd : readL l = .error (3, a) := by unfold readL; rw [hw]
    have HRD := hide hrd
    clear hrd hw
    obtain ⟨w3, hw3⟩ : ∃ w3, w3 = w2.alloc (.cells #[.int .i64 3, .int .i64 a] 25 (0, 0)) := ⟨_, rfl⟩
    have hb3 : Below w2.heap.size w2 w3 := by rw [hw3]; exact (Below.refl _ _).alloc (Nat.le_refl _) _
    have hf3 : isFb w3 w2.heap.size 3 a := by rw [hw3]; exact heap_alloc_new w2 _
    have hr3 : isFb w3 w.heap.size 0 0 := (unhide HFB).bb (g := w2.heap.size + 1) (B := w2.heap.size) (Bb.of hb3) (by omega) (by omega)
    have HB3 : Hid (Below w.heap.size w w3) := hide (hbw.trans (hb3.mono (by omega)))
    have HR3 := hide hr3
    obtain ⟨p0, p1, -, -⟩ := hf3.all
    obtain ⟨q0, q1, y0, y1⟩ := hr3.all
    have hne : ¬ w2.heap.size = w.heap.size := by omega
    go_wp2_with fail
    rw [← hw3]
    clear hw3 hb3 hf3 hr3 f0 f1 z0 z1 hbw
    go_region
    go_wp2
    obtain ⟨d0, d1, -, -⟩ := ((unhide HR3).set 3 a).all
    refine bodyPost_ret (v := .tuple #[.slice none 0 0, .agg #[.int .i64 3, .int .i64 a]]) (by simp [results, Tryd.results4, go_sem, d0, d1]) rfl ⟨Or.inl ⟨3, a, unhide HRD, by decide, rfl⟩, ?_⟩
    exact (((unhide HB3).setCell (p := ⟨w.heap.size, 0, none⟩) (Nat.le_refl _) _).setCell (p := ⟨w.heap.size, 1, none⟩) (Nat.le_refl _) _).drew
  · obtain ⟨v, v2, hrs⟩ := hrp
    obtain ⟨w3, hw3⟩ : ∃ w3, w3 = w2.alloc (.cells #[.int .i64 0, .int .i64 0] 25 (0, 0)) := ⟨_, rfl⟩
    have hb3 : Below w2.heap.size w2 w3 := by rw [hw3]; exact (Below.refl _ _).alloc (Nat.le_refl _) _
    have hf3 : isFb w3 w2.heap.size 0 0 := by rw [hw3]; exact heap_alloc_new w2 _
    have hr3 : isFb w3 w.heap.size 0 0 := (unhide HFB).bb (g := w2.heap.size + 1) (B := w2.heap.size) (Bb.of hb3) (by omega) (by omega)
    have hre3 := hrs.re.bu hb3
    have hk3 := row_keep (w' := w3) hrs.kept (fun k _ hk => hb3.block k hk)
    have hs3 : w2.heap.size ≤ w3.heap.size := hb3.size
    have HB3 : Hid (Below w.heap.size w w3) := hide (hbw.trans (hb3.mono (by omega)))
    have HR3 := hide hr3
    obtain ⟨p0, p1, -, -⟩ := hf3.all
    obtain ⟨q0, q1, y0, y1⟩ := hr3.all
    obtain ⟨-, -, -, c3, c4, -⟩ := hre3.cells
    have HCK := hide (sizeCheck_any (w.heap.size + 1) 3 (s1.E.length : Int) s1.d w3 c3 c4)
    have HRE3 := hide hre3
    have HK3 := hide hk3
    obtain ⟨K, hK⟩ : ∃ K : Int, K = if (s1.E.length : Int) > 1000 ∨ s1.d > 50 then 2 else 0 := ⟨_, rfl⟩
    rw [← hK] at HCK
    go_wp2_with fail
    rw [← hw3]
    clear hw3 hb3 hf3 hr3 f0 f1 z0 z1 hbw hrs hre3 hk3
    refine (unhide HCK).mono ?_
    rintro e w4 ⟨rfl, rfl⟩
    by_cases hbig : (s1.E.length : Int) > 1000 ∨ s1.d > 50
    · have hrd : readL l = .error (2, -1) := by unfold readL; rw [hw]; simp only; rw [if_pos hbig]
      rw [if_pos hbig] at hK
      subst hK
      have HRD := hide hrd
      clear hrd hw hbig
      go_wp2
      obtain ⟨d0, d1, -, -⟩ := ((unhide HR3).set 2 (-1)).all
      refine bodyPost_ret (v := .tuple #[.slice none 0 0, .agg #[.int .i64 2, .int .i64 (-1)]]) (by simp [results, Tryd.results4, go_sem, d0, d1]) rfl ⟨Or.inl ⟨2, -1, unhide HRD, by decide, rfl⟩, ?_⟩
      exact ((unhide HB3).setCell (p := ⟨w.heap.size, 0, none⟩) (Nat.le_refl _) _).setCell (p := ⟨w.heap.size, 1, none⟩) (Nat.le_refl _) _
    · have hrd : readL l = .ok (notesN s1.E (-1)) := by unfold readL; rw [hw]; simp only; rw [if_neg hbig]
      rw [if_neg hbig] at hK
      subst hK
      have HRD := hide hrd
      have hle : s1.E.length ≤ 1000 := by omega
      have htk : s1.E.take 1000 = s1.E := List.take_of_length_le hle
      obtain ⟨vv, hE⟩ := whole_inv _ _ _ _ (start_inv l) hw
      have hsz : ∀ e ∈ s1.E, e.mv.size < 2000000 ∧ e.cm.size < 2000000 := by
        intro e he
        obtain ⟨i, hi⟩ := List.getElem?_of_mem he
        have := (hE.all i e hi).1.size
        omega
      have hNO := notesOf_any (w.heap.size + 1) (wa.heap.size + 1) (s1.re v v2) s1.E hle hsz s1.E.length (-1) w4 (by omega) (by omega) (unhide HRE3) (by have := unhide HK3; rw [htk] at this; exact this) (by omega)
      rw [notes_fuel s1.E (s1.E.length + 1) s1.E.length (-1) (by omega) (by omega) (by omega)] at hNO
      rw [show notesF s1.E s1.E.length (-1) = notesN s1.E (-1) from rfl] at hNO
      have HNO := hide hNO
      clear hrd hw hNO hsz hE hbig
      go_wp2_with fail
      refine (unhide HNO).mono ?_
      rintro e w5 ⟨ao, cap, rfl, hN, hb5⟩
      have hr5 : isFb w5 w.heap.size 0 0 := (unhide HR3).bb (g := w4.heap.size + 1) (B := w4.heap.size) (Bb.of hb5) (by omega) (by omega)
      have HB5 : Hid (Below w.heap.size w w5) := hide ((unhide HB3).trans (hb5.mono (by omega)))
      have HR5 := hide hr5
      obtain ⟨t0, t1, x0, x1⟩ := hr5.all
      have HN := hide hN
      have hs5 : w4.heap.size ≤ w5.heap.size := hb5.size
      clear hN hr5 hb5 p0 p1 q0 q1 y0 y1 c3 c4
      go_wp2
      obtain ⟨d0, d1, -, -⟩ := ((unhide HR5).set 0 0).all
      refine bodyPost_ret (v := .tuple #[.slice ao (notesN s1.E (-1)).length cap, .agg #[.int .i64 0, .int .i64 0]]) (by simp [results, Tryd.results4, go_sem, d0, d1]) rfl ⟨Or.inr ⟨notesN s1.E (-1), ao, cap, s1.E.length + 1, unhide HRD, rfl, ?_⟩, ?_⟩
      · refine isNtP.nts (S := fun k => w4.heap.size ≤ k ∧ k < w5.heap.size) (fun k hk => by rw [size_put, size_put]; exact hk.2) _ _ _ _ (isNtP.keep (fun k hk => ⟨hk, ?_⟩) _ _ _ _ (unhide HN))
        rw [Below.heap_setCell _ _ _ _ (by simp only; omega), Below.heap_setCell _ _ _ _ (by simp only; omega)]
      · exact ((unhide HB5).setCell (p := ⟨w.heap.size, 0, none⟩) (Nat.le_refl _) _).setCell (p := ⟨w.heap.size, 1, none⟩) (Nat.le_refl _) _
end Go.Proofs.YtdibjdpnleepmacDoor
