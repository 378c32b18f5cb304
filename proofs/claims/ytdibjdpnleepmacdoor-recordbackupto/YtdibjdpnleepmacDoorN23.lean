/-
  RecordBack, walked.
-/
import Derived.Test.YtdibjdpnleepmacDoorN22
namespace Go.Proofs.YtdibjdpnleepmacDoor
open Go.RowKit
attribute [local go_sem ↓] Go.wp_at_zero Go.wp_at_succ

theorem below_drewN {w0 w : World} {B : Nat} (h : Below B w0 w) (n : Nat) : Below B w0 (w.drewN n) := ⟨h.os, h.tape, h.output, h.size, h.block⟩
theorem same_put {w : World} {b : Nat} (h : isFb w b 0 0) : Below w.heap.size w ((w.setCell ⟨b, 0, none⟩ (.int .i64 0)).setCell ⟨b, 1, none⟩ (.int .i64 0)) := by
  refine ⟨rfl, rfl, rfl, by rw [size_put, size_put]; exact Nat.le_refl _, fun k _ => ?_⟩
  by_cases hk : k = b
  · subst hk
    have := h.set 0 0
    unfold isFb at this h
    rw [this, h]
  · rw [Below.heap_setCell _ _ _ _ (by simp only; omega), Below.heap_setCell _ _ _ _ (by simp only; omega)]
/-! ### the plain facts -/
theorem read_write {F : Fo} (hO : OkF F) (hc : cnt F ≤ 1000) (hh : hg F ≤ 50) : readL (textL F) = .ok (toL F) := by
  obtain ⟨d, e, hd⟩ := read_there F hO
  unfold readL
  rw [e]
  simp only
  rw [(flat_len F).1, if_neg (by omega), flat_notes]
theorem read_right {l : List UInt8} {L : List Nt} (h : readL l = .ok L) : OkF (foL L) ∧ cnt (foL L) ≤ 1000 ∧ hg (foL L) ≤ 50 := by
  unfold readL at h
  cases hw : whole (.start l) with
  | error a => rw [hw] at h; cases h
  | ok p =>
    obtain ⟨E, d⟩ := p
    rw [hw] at h
    simp only at h
    by_cases hb : (E.length : Int) > 1000 ∨ d > 50
    · rw [if_pos hb] at h; cases h
    · rw [if_neg hb] at h
      simp only [Except.ok.injEq] at h
      subst h
      obtain ⟨q1, q2, q3⟩ := read_ok l E d hw
      exact ⟨q1, by omega, by omega⟩
theorem tx_one (fits : Int → Bool) (b : UInt8) (h : b.toNat < 128) (hf : fits (b.toNat : Int) = true) : Tx fits [b] 1 := by
  have hd := Lib.decodeL_ascii b [] h
  refine .cons [b] 0 (by simp) ?_ ?_ ?_
  · unfold okD; rw [hd]; simp only; omega
  · rw [hd]; exact hf
  · rw [on_byte b [] h]; exact .nil
def closedF : Fo := .cons ⟨#[97]⟩ ⟨#[98]⟩ (.cons ⟨#[100]⟩ ⟨#[]⟩ .nil .nil) (.cons ⟨#[99]⟩ ⟨#[]⟩ .nil .nil)
theorem closedText : textL closedF = (⟨#[97, 32, 123, 98, 125, 32, 40, 99, 41, 32, 100]⟩ : ByteArray).data.toList := by
  unfold closedF
  rw [textL_cons, othersL_cons, othersL_nil]
  simp [nxT, Fo.isN, cmT, textL_cons, othersL_nil]
theorem closed_read : ∃ L, readL (⟨#[97, 32, 123, 98, 125, 32, 40, 99, 41, 32, 100]⟩ : ByteArray).data.toList = .ok L ∧ L.length = 2 := by
  refine ⟨toL closedF, ?_, rfl⟩
  rw [← closedText]
  have e0 : okN ⟨#[97]⟩ ⟨#[98]⟩ := ⟨⟨1, tx_one mvR 97 (by decide) (by decide), by omega, by omega⟩, ⟨1, tx_one cmR 98 (by decide) (by decide), by omega⟩⟩
  have e1 : okN ⟨#[100]⟩ ⟨#[]⟩ := ⟨⟨1, tx_one mvR 100 (by decide) (by decide), by omega, by omega⟩, ⟨0, .nil, by omega⟩⟩
  have e2 : okN ⟨#[99]⟩ ⟨#[]⟩ := ⟨⟨1, tx_one mvR 99 (by decide) (by decide), by omega, by omega⟩, ⟨0, .nil, by omega⟩⟩
  exact read_write (F := closedF) ⟨e0, ⟨e1, trivial, trivial⟩, e2, trivial, trivial⟩ (by decide) (by decide)
theorem chk_right {d : Nat} {w : World} {B : Nat} {ao : Option Addr} {cap : Nat} {l : List UInt8} {L : List Nt} (hN : isNts d w B ao cap L) (h : readL l = .ok L) : chkI d L = 0 := by
  obtain ⟨q1, q2, q3⟩ := read_right h
  have := chk_there d (foL L) (isNts.hg d ao cap L hN) q1 q2 q3
  rw [toL_foL] at this
  exact this
theorem read_back {d : Nat} {w : World} {B : Nat} {ao : Option Addr} {cap : Nat} {l : List Nt} (hN : isNts d w B ao cap l) (h : chkI d l = 0) : readL (textL (foL l)) = .ok l ∧ (textL (foL l)).length ≤ 1000000 := by
  obtain ⟨q1, q2, q3⟩ := chk_ok hN h
  refine ⟨?_, text_short q1 q2⟩
  rw [read_write q1 q2 q3, toL_foL]

set_option maxHeartbeats 4000000 in
set_option maxRecDepth 100000 in
theorem recordBack_any (d : Nat) (ao : Option Addr) (cap : Nat) (l : List Nt) (s : ByteArray) (w : World) (hN : isNts d w w.heap.size ao cap l) (hT : Lib.Utf8Tabs 0 1 w) (h2 : 2 ≤ w.heap.size) (hs : s.size ≤ 1200000) :
    Calls Tryd.prog 3 #[.slice ao l.length cap, .string s] w fun e w' => e = .returned (.bool true) ∧ Below w.heap.size w w' := by
  have HRD := hide (fun (x : ByteArray) (hx : x.size ≤ 1200000) (u : World) (hu : Below w.heap.size w u) => recRead_any x u (Nat.le_trans h2 hu.size) (Utf8Tabs_below hT hu) hx)
  have HWR := hide (fun (u : World) (hu : Below w.heap.size w u) => recWrite_any d ao cap l u (isNts.up hu.size (isNts.below hu (Nat.le_refl _) _ _ _ _ hN)) (Utf8Tabs_below hT hu))
  have HN := hide hN
  have HT := hide hT
  clear hN hT
  go_enter Tryd.func3, Tryd.ntmps3
  go_wp2_with fail
  refine (unhide HRD _ (by decide) w (Below.refl _ _)).mono ?_
  rintro e w1 ⟨hex, hb1⟩
  obtain ⟨L0, hr0, hl0⟩ := closed_read
  rcases hex with ⟨c, a, hr, -, -⟩ | ⟨L1, a1, k1, d1, hr, rfl, hN1⟩
  · rw [hr0] at hr; cases hr
  have hl1 : L1.length = 2 := by rw [hr0] at hr; cases hr; exact hl0
  rw [hl1]
  have HB1 := hide hb1
  clear hr hN1 hl1 hb1 hr0 hl0
  obtain ⟨w2, hw2⟩ : ∃ w2, w2 = w1.alloc (.cells #[.int .i64 0, .int .i64 0] 25 (0, 0)) := ⟨_, rfl⟩
  have hb12 : Below w1.heap.size w1 w2 := by rw [hw2]; exact (Below.refl _ _).alloc (Nat.le_refl _) _
  have hb2w : Below w.heap.size w w2 := (unhide HB1).trans (hb12.mono (unhide HB1).size)
  have HWL := hide (unhide HWR w2 hb2w)
  have HB2 := hide hb2w
  clear hb12 hb2w
  go_wp2_with fail
  rw [← hw2]
  clear hw2
  refine (unhide HWL).mono ?_
  rintro e w3 ⟨hex3, hb3⟩
  have hb3w : Below w.heap.size w w3 := (unhide HB2).trans (hb3.mono (unhide HB2).size)
  have HB3 := hide hb3w
  clear hb3 hb3w
  rcases hex3 with ⟨hbad, rfl⟩ | ⟨hgood, rfl⟩
  · obtain ⟨C, hC⟩ : ∃ C, C = chkI d l := ⟨_, rfl⟩
    rw [← hC] at hbad ⊢
    have hCb : (C == 0) = false := by simpa using hbad
    have HBW := HB3
    clear hC hbad
    go_wp2_with fail
    refine (unhide HRD s hs _ (unhide HBW)).mono ?_
    rintro e w5 ⟨hex, hb5⟩
    have hb5w : Below w.heap.size w w5 := (unhide HBW).trans (hb5.mono (unhide HBW).size)
    have hs5 : w.heap.size ≤ w5.heap.size := hb5w.size
    clear hb5
    rcases hex with ⟨c, a, hr, hc0, rfl⟩ | ⟨L2, a2, k2, d2, hr, rfl, hN2⟩
    · have hcb : (c != 0) = true := by simp [hc0]
      have HB5 := hide hb5w
      clear hr hc0 hb5w
      go_wp2
      go_ret
      exact ⟨rfl, (unhide HB5).alloc hs5 _⟩
    · have hch := chk_right hN2 hr
      obtain ⟨hrb, hts⟩ := read_back hN2 hch
      obtain ⟨T, hTT⟩ : ∃ T, T = textL (foL L2) := ⟨_, rfl⟩
      obtain ⟨w6, hw6⟩ : ∃ w6, w6 = w5.alloc (.cells #[.int .i64 0, .int .i64 0] 25 (0, 0)) := ⟨_, rfl⟩
      have hb56 : Below w5.heap.size w5 w6 := by rw [hw6]; exact (Below.refl _ _).alloc (Nat.le_refl _) _
      have hs56 : w6.heap.size = w5.heap.size + 1 := by rw [hw6]; simp
      have hf6 : isFb w6 w5.heap.size 0 0 := by rw [hw6]; exact heap_alloc_new w5 _
      have hb6w : Below w.heap.size w w6 := hb5w.trans (hb56.mono hs5)
      have hN6 : isNts d2 w6 w6.heap.size a2 k2 L2 := isNts.up hb56.size (isNts.below hb56 (Nat.le_refl _) _ _ _ _ hN2)
      have HWX := hide (recWrite_any d2 a2 k2 L2 w6 hN6 (Utf8Tabs_below (unhide HT) hb6w))
      have HN6 := hide hN6
      have HB6 := hide hb6w
      have HF6 := hide hf6
      have HCH := hide hch
      have HRB := hide hrb
      have HTT := hide hTT
      rw [← hTT] at hts
      have hs6 : w.heap.size ≤ w6.heap.size := hb6w.size
      obtain ⟨n2, hn2⟩ : ∃ n2, n2 = L2.length := ⟨_, rfl⟩
      rw [← hn2] at HWX ⊢
      have HN2 := hide hn2
      clear hr hb5w hb56 hb6w hN2 hN6 hch hrb hTT hf6 hn2
      go_wp2_with fail
      rw [← hw6]
      clear hw6
      refine (unhide HWX).mono ?_
      rintro e w7 ⟨hex7, hb7⟩
      rcases hex7 with ⟨hbad, -⟩ | ⟨-, rfl⟩
      · exact absurd (unhide HCH) hbad
      rw [← unhide HTT]
      have hb7w : Below w.heap.size w w7 := (unhide HB6).trans (hb7.mono hs6)
      have hf7 : isFb w7 w5.heap.size 0 0 := (unhide HF6).bb (g := w6.heap.size) (B := w6.heap.size) (Bb.of hb7) (by omega) (by omega)
      have hN7 : isNts d2 w7 w7.heap.size a2 k2 L2 := isNts.up hb7.size (isNts.below hb7 (Nat.le_refl _) _ _ _ _ (unhide HN6))
      have HRT := hide (unhide HRD (ofL T) (by rw [size_ofL]; omega) w7 hb7w)
      have HN7 := hide hN7
      have HF7 := hide hf7
      have HB7 := hide hb7w
      have hs7 : w6.heap.size ≤ w7.heap.size := hb7.size
      clear hb7 hb7w hf7 hN7
      go_wp2_with fail
      refine (unhide HRT).mono ?_
      rintro e w8 ⟨hex8, hb8⟩
      rw [ofL_list] at hex8
      rcases hex8 with ⟨c, a, hr, -, -⟩ | ⟨L3, a3, k3, d3, hr, rfl, hN8⟩
      · have := unhide HRB
        rw [← unhide HTT, hr] at this
        cases this
      have hL3 : L3 = L2 := by
        have := unhide HRB
        rw [← unhide HTT, hr] at this
        cases this; rfl
      subst hL3
      rw [← unhide HN2]
      have hb8w : Below w.heap.size w w8 := (unhide HB7).trans (hb8.mono (by omega))
      have hf8 : isFb w8 w5.heap.size 0 0 := (unhide HF7).bb (g := w7.heap.size) (B := w7.heap.size) (Bb.of hb8) (by omega) (by omega)
      have hNx : isNts d2 w8 w8.heap.size a2 k2 L3 := isNts.up hb8.size (isNts.below hb8 (Nat.le_refl _) _ _ _ _ (unhide HN7))
      obtain ⟨f0, f1, z0, z1⟩ := hf8.all
      have HB8 := hide hb8w
      have HNX := hide hNx
      have HN8 := hide hN8
      have HF8 := hide hf8
      have hs8 : w7.heap.size ≤ w8.heap.size := hb8.size
      clear hr hb8 hb8w hf8 hNx hN8
      obtain ⟨w9, hw9⟩ : ∃ w9, w9 = (w8.setCell ⟨w5.heap.size, 0, none⟩ (.int .i64 0)).setCell ⟨w5.heap.size, 1, none⟩ (.int .i64 0) := ⟨_, rfl⟩
      have hb89 : Below w8.heap.size w8 w9 := by rw [hw9]; exact same_put (unhide HF8)
      have h9s : w9.heap.size = w8.heap.size := by rw [hw9, size_put, size_put]
      have HSM := hide (sameNotes_any d2 d3 a2 a3 k2 k3 L3 w9 (by rw [h9s]; exact isNts.below hb89 (Nat.le_refl _) _ _ _ _ (unhide HNX)) (by rw [h9s]; exact isNts.below hb89 (Nat.le_refl _) _ _ _ _ (unhide HN8)))
      rw [← unhide HN2] at HSM
      have HB9 : Hid (Below w.heap.size w w9) := hide ((unhide HB8).trans (hb89.mono (unhide HB8).size))
      clear hb89 h9s
      go_wp2_with fail
      rw [← hw9]
      clear hw9 f0 f1 z0 z1
      refine (unhide HSM).mono ?_
      rintro e w10 ⟨rfl, q, rfl⟩
      go_wp2
      go_ret
      exact ⟨rfl, below_drewN (unhide HB9) q⟩
  · obtain ⟨hrb, hts⟩ := read_back (unhide HN) hgood
    obtain ⟨T, hTT⟩ : ∃ T, T = textL (foL l) := ⟨_, rfl⟩
    rw [← hTT] at hrb hts ⊢
    have HRL := hide (unhide HRD (ofL T) (by rw [size_ofL]; omega) w3 (unhide HB3))
    have HRB0 := hide hrb
    clear hrb hTT hgood
    go_wp2_with fail
    refine (unhide HRL).mono ?_
    rintro e w4 ⟨hex4, hb4⟩
    rw [ofL_list] at hex4
    rcases hex4 with ⟨c, a, hr, -, -⟩ | ⟨L4, a4, k4, d4, hr, rfl, hN4⟩
    · rw [unhide HRB0] at hr; cases hr
    have hL4 : L4 = l := by rw [unhide HRB0] at hr; cases hr; rfl
    subst hL4
    have hb4w : Below w.heap.size w w4 := (unhide HB3).trans (hb4.mono (unhide HB3).size)
    obtain ⟨w4b, hw4b⟩ : ∃ w4b, w4b = w4.alloc (.cells #[.int .i64 0, .int .i64 0] 25 (0, 0)) := ⟨_, rfl⟩
    have hb44 : Below w4.heap.size w4 w4b := by rw [hw4b]; exact (Below.refl _ _).alloc (Nat.le_refl _) _
    have hb4b : Below w.heap.size w w4b := hb4w.trans (hb44.mono hb4w.size)
    have HSM0 := hide (sameNotes_any d4 d a4 ao k4 cap L4 w4b (isNts.up hb44.size (isNts.below hb44 (Nat.le_refl _) _ _ _ _ hN4)) (isNts.up hb4b.size (isNts.below hb4b (Nat.le_refl _) _ _ _ _ (unhide HN))))
    have HB4 := hide hb4b
    obtain ⟨n4, hn4⟩ : ∃ n4, n4 = L4.length := ⟨_, rfl⟩
    rw [← hn4] at HSM0 ⊢
    clear hr hN4 hb4 hb4w hb44 hb4b hn4
    go_wp2_with fail
    rw [← hw4b]
    clear hw4b
    refine (unhide HSM0).mono ?_
    rintro e w4c ⟨rfl, q0, hw4c⟩
    have HBW : Hid (Below w.heap.size w w4c) := hide (by rw [hw4c]; exact below_drewN (unhide HB4) q0)
    clear hw4c
    go_wp2_with fail
    refine (unhide HRD s hs _ (unhide HBW)).mono ?_
    rintro e w5 ⟨hex, hb5⟩
    have hb5w : Below w.heap.size w w5 := (unhide HBW).trans (hb5.mono (unhide HBW).size)
    have hs5 : w.heap.size ≤ w5.heap.size := hb5w.size
    clear hb5
    rcases hex with ⟨c, a, hr, hc0, rfl⟩ | ⟨L2, a2, k2, d2, hr, rfl, hN2⟩
    · have hcb : (c != 0) = true := by simp [hc0]
      have HB5 := hide hb5w
      clear hr hc0 hb5w
      go_wp2
      go_ret
      exact ⟨rfl, (unhide HB5).alloc hs5 _⟩
    · have hch := chk_right hN2 hr
      obtain ⟨hrb, hts⟩ := read_back hN2 hch
      obtain ⟨T, hTT⟩ : ∃ T, T = textL (foL L2) := ⟨_, rfl⟩
      obtain ⟨w6, hw6⟩ : ∃ w6, w6 = w5.alloc (.cells #[.int .i64 0, .int .i64 0] 25 (0, 0)) := ⟨_, rfl⟩
      have hb56 : Below w5.heap.size w5 w6 := by rw [hw6]; exact (Below.refl _ _).alloc (Nat.le_refl _) _
      have hs56 : w6.heap.size = w5.heap.size + 1 := by rw [hw6]; simp
      have hf6 : isFb w6 w5.heap.size 0 0 := by rw [hw6]; exact heap_alloc_new w5 _
      have hb6w : Below w.heap.size w w6 := hb5w.trans (hb56.mono hs5)
      have hN6 : isNts d2 w6 w6.heap.size a2 k2 L2 := isNts.up hb56.size (isNts.below hb56 (Nat.le_refl _) _ _ _ _ hN2)
      have HWX := hide (recWrite_any d2 a2 k2 L2 w6 hN6 (Utf8Tabs_below (unhide HT) hb6w))
      have HN6 := hide hN6
      have HB6 := hide hb6w
      have HF6 := hide hf6
      have HCH := hide hch
      have HRB := hide hrb
      have HTT := hide hTT
      rw [← hTT] at hts
      have hs6 : w.heap.size ≤ w6.heap.size := hb6w.size
      obtain ⟨n2, hn2⟩ : ∃ n2, n2 = L2.length := ⟨_, rfl⟩
      rw [← hn2] at HWX ⊢
      have HN2 := hide hn2
      clear hr hb5w hb56 hb6w hN2 hN6 hch hrb hTT hf6 hn2
      go_wp2_with fail
      rw [← hw6]
      clear hw6
      refine (unhide HWX).mono ?_
      rintro e w7 ⟨hex7, hb7⟩
      rcases hex7 with ⟨hbad, -⟩ | ⟨-, rfl⟩
      · exact absurd (unhide HCH) hbad
      rw [← unhide HTT]
      have hb7w : Below w.heap.size w w7 := (unhide HB6).trans (hb7.mono hs6)
      have hf7 : isFb w7 w5.heap.size 0 0 := (unhide HF6).bb (g := w6.heap.size) (B := w6.heap.size) (Bb.of hb7) (by omega) (by omega)
      have hN7 : isNts d2 w7 w7.heap.size a2 k2 L2 := isNts.up hb7.size (isNts.below hb7 (Nat.le_refl _) _ _ _ _ (unhide HN6))
      have HRT := hide (unhide HRD (ofL T) (by rw [size_ofL]; omega) w7 hb7w)
      have HN7 := hide hN7
      have HF7 := hide hf7
      have HB7 := hide hb7w
      have hs7 : w6.heap.size ≤ w7.heap.size := hb7.size
      clear hb7 hb7w hf7 hN7
      go_wp2_with fail
      refine (unhide HRT).mono ?_
      rintro e w8 ⟨hex8, hb8⟩
      rw [ofL_list] at hex8
      rcases hex8 with ⟨c, a, hr, -, -⟩ | ⟨L3, a3, k3, d3, hr, rfl, hN8⟩
      · have := unhide HRB
        rw [← unhide HTT, hr] at this
        cases this
      have hL3 : L3 = L2 := by
        have := unhide HRB
        rw [← unhide HTT, hr] at this
        cases this; rfl
      subst hL3
      rw [← unhide HN2]
      have hb8w : Below w.heap.size w w8 := (unhide HB7).trans (hb8.mono (by omega))
      have hf8 : isFb w8 w5.heap.size 0 0 := (unhide HF7).bb (g := w7.heap.size) (B := w7.heap.size) (Bb.of hb8) (by omega) (by omega)
      have hNx : isNts d2 w8 w8.heap.size a2 k2 L3 := isNts.up hb8.size (isNts.below hb8 (Nat.le_refl _) _ _ _ _ (unhide HN7))
      obtain ⟨f0, f1, z0, z1⟩ := hf8.all
      have HB8 := hide hb8w
      have HNX := hide hNx
      have HN8 := hide hN8
      have HF8 := hide hf8
      have hs8 : w7.heap.size ≤ w8.heap.size := hb8.size
      clear hr hb8 hb8w hf8 hNx hN8
      obtain ⟨w9, hw9⟩ : ∃ w9, w9 = (w8.setCell ⟨w5.heap.size, 0, none⟩ (.int .i64 0)).setCell ⟨w5.heap.size, 1, none⟩ (.int .i64 0) := ⟨_, rfl⟩
      have hb89 : Below w8.heap.size w8 w9 := by rw [hw9]; exact same_put (unhide HF8)
      have h9s : w9.heap.size = w8.heap.size := by rw [hw9, size_put, size_put]
      have HSM := hide (sameNotes_any d2 d3 a2 a3 k2 k3 L3 w9 (by rw [h9s]; exact isNts.below hb89 (Nat.le_refl _) _ _ _ _ (unhide HNX)) (by rw [h9s]; exact isNts.below hb89 (Nat.le_refl _) _ _ _ _ (unhide HN8)))
      rw [← unhide HN2] at HSM
      have HB9 : Hid (Below w.heap.size w w9) := hide ((unhide HB8).trans (hb89.mono (unhide HB8).size))
      clear hb89 h9s
      go_wp2_with fail
      rw [← hw9]
      clear hw9 f0 f1 z0 z1
      refine (unhide HSM).mono ?_
      rintro e w10 ⟨rfl, q, rfl⟩
      go_wp2
      go_ret
      exact ⟨rfl, below_drewN (unhide HB9) q⟩
end Go.Proofs.YtdibjdpnleepmacDoor
