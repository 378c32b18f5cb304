/-
  package gameref, walked: every.
-/
import Derived.Test.YtihojhfpepbjhaaGreatDoorV30
import Derived.Test.YtihojhfpepbjhaaGreatDoorJ18
import Derived.Deep.RegionLawGrows
import Derived.Deep.RegionHeld3
import Derived.Deep.Cut
import Derived.Deep.CutRange
namespace Go.Proofs.YtihojhfpepbjhaaGreatDoor
open Go.RowKit
attribute [local go_sem ↓] Go.wp_at_zero Go.wp_at_succ

/-- A piece in a box of its own. -/
def isXb (w : World) (b : Nat) (l : Nat) (v : Int) (s : Value) : Prop := w.heap[b]? = some (.cells #[.int .u8 (l : Int), .int .i64 v, s] 71 (0, 0))
theorem isXb.all {w : World} {b l : Nat} {v : Int} {s : Value} (h : isXb w b l v s) : w.cell? ⟨b, 0, none⟩ = some (.int .u8 (l : Int)) ∧ w.cell? ⟨b, 1, none⟩ = some (.int .i64 v) ∧ w.cell? ⟨b, 2, none⟩ = some s := by
  unfold isXb at h; simp [World.cell?, h]
theorem isXb.lt {w : World} {b l : Nat} {v : Int} {s : Value} (h : isXb w b l v s) : b < w.heap.size := (Array.getElem?_eq_some_iff.1 h).1
theorem isXb.below {w w' : World} {b B l : Nat} {v : Int} {s : Value} (h : isXb w b l v s) (hh : Below B w w') (hb : b < B) : isXb w' b l v s := by
  unfold isXb at h ⊢; rw [hh.block b hb]; exact h
/-- A row of moves is another block than a piece's box. -/
theorem isXb.ne {w : World} {b l : Nat} {v : Int} {s : Value} (h : isXb w b l v s) {base n : Nat} {rv : Value} {xs : List Value} (hr : w.ownsRow base 61 3 rv n xs) : some b ≠ rv.ownBlock := by
  intro e
  rcases hr.2 with ⟨h1, -⟩ | ⟨g, cap, cur, h1, -, h3, -⟩
  · rw [h1] at e; cases e
  · rw [h1] at e
    have e' : b = g := Option.some.inj e
    subst e'
    unfold isXb at h
    rw [h] at h3
    have h4 := Option.some.inj h3
    injection h4 with _ h5 _
    exact absurd h5 (by decide)
theorem isXb.grown {w w' : World} {b l : Nat} {v : Int} {s : Value} {row : Option Nat} (h : isXb w b l v s) (hg : w.grownBy w' row) (hne : some b ≠ row) : isXb w' b l v s := by
  have hl := h.lt
  unfold isXb at h ⊢; rw [hg.block b hl hne]; exact h
theorem cutFor2 (R : Nat → World → Prop) {T : Nat → World → Prop} {G : Prop} (k : Hid (∀ b v, R b v → T b v) → G) (p : ∀ b v, R b v → T b v) : G := k (hide p)
theorem box3 {w : World} {b : Nat} {u0 u1 u2 : Value} {t : TypeId} (h : w.heap[b]? = some (.cells #[u0, u1, u2] t (0, 0))) : w.cell? ⟨b, 0, none⟩ = some u0 ∧ w.cell? ⟨b, 1, none⟩ = some u1 ∧ w.cell? ⟨b, 2, none⟩ = some u2 := by simp [World.cell?, h]
theorem box3_set {w : World} {b : Nat} {u0 u1 u2 : Value} {t : TypeId} (h : w.heap[b]? = some (.cells #[u0, u1, u2] t (0, 0))) (x y z : Value) : (((w.setCell ⟨b, 0, none⟩ x).setCell ⟨b, 1, none⟩ y).setCell ⟨b, 2, none⟩ z).heap[b]? = some (.cells #[x, y, z] t (0, 0)) := by
  have h1 : (w.setCell ⟨b, 0, none⟩ x).heap[b]? = some (.cells #[x, u1, u2] t (0, 0)) := by
    rw [setCell_eq_setRow w b 0 _ _ _ _ h]
    exact setRow_heap w b _ _ _ _ h
  have h2 : ((w.setCell ⟨b, 0, none⟩ x).setCell ⟨b, 1, none⟩ y).heap[b]? = some (.cells #[x, y, u2] t (0, 0)) := by
    rw [setCell_eq_setRow _ b 1 _ _ _ _ h1]
    exact setRow_heap _ b _ _ _ _ h1
  rw [setCell_eq_setRow _ b 2 _ _ _ _ h2]
  exact setRow_heap _ b _ _ _ _ h2
theorem byte_at (s : ByteArray) (j : Nat) (hj : j < s.size) : (s[j]'hj).toNat = (s.data.toList[j]!).toNat ∧ (s.data.toList[j]!).toNat < 256 := by
  refine ⟨?_, UInt8.toNat_lt _⟩
  have hl : j < s.data.toList.length := by simpa using hj
  rw [getElem!_pos s.data.toList j hl]
  rfl
theorem own_iff {T N : Nat} (hT : T ≤ 1) (h256 : N < 256) (hc : cellB (N : Int) = true) : (rownI (N : Int) != (T : Int)) = !(ownB T N) := by
  rw [own_rown N h256 hc T hT, Bool.eq_iff_iff]; simp
set_option maxHeartbeats 80000000 in
set_option maxRecDepth 1000000 in
theorem rEvery_0 (W H T : Nat) (C A B : ByteArray) (W0 H0 T0 : Int) (C0 A0 B0 : ByteArray) (ao : Option Addr) (cap : Nat) (ps : List Pc) (st : Bool) (lo re : Nat) (li pl : Int) (w : World) (hps : isPcs w ao cap ps) (hok : ∀ p ∈ ps, ∀ z ∈ p.ws, z.ok = true) (hT : T ≤ 1) (hA : A.size ≤ 8) (hB : B.size ≤ 8) (hW : 1 ≤ W ∧ W ≤ 8) (hH : 1 ≤ H ∧ H ≤ 8) (hC : C.size = W * H)
    (hcell : ∀ c, c < W * H → cellB (cellN C c : Nat) = true ∧ cellN C c < 256) (hlet : ∀ c, c < W * H → cellN C c ≠ 46 → 0 ≤ idxF ps (upN (cellN C c)) 0 ∧ lowN (cellN C c) = upN (cellN C c)) :
    Calls Tryz.prog 107 #[.agg #[.int .i64 W0, .int .i64 H0, .string C0, .int .i64 T0, .string A0, .string B0, .slice ao ps.length cap, .bool false, .int .u8 (lo : Int), .int .i64 li, .int .u8 (re : Int), .bool st, .int .i64 pl], .agg #[.int .i64 (W : Int), .int .i64 (H : Int), .string C, .int .i64 (T : Int), .string A, .string B]] w fun e w' => ∃ v, e = .returned v ∧ w'.ownsRow w.heap.size 61 3 v (possL W H T C A B ps false).length (mvals (possL W H T C A B ps false)) ∧ Below w.heap.size w w' := by
  obtain ⟨i0, hi, hz0, hz1, hz2⟩ := info_parts infoMove
  have h64 : W * H ≤ 64 := Nat.mul_le_mul hW.2 hH.2
  have hM1 : 1 ≤ W * H := Nat.mul_le_mul hW.1 hH.1
  obtain ⟨n, hn⟩ : ∃ n, n = ps.length := ⟨_, rfl⟩
  rw [← hn]
  have HN := hide hn
  have HPS := hide hps
  have HOK := hide hok
  have HCELL := hide hcell
  have HLET := hide hlet
  obtain ⟨M, hM⟩ : ∃ M, M = C.size := ⟨_, rfl⟩
  have hM64 : M ≤ 64 := by omega
  have hM0 : 1 ≤ M := by omega
  have HC := hide hC
  have hMC : C.size = M := hM.symm
  clear hM hn hps hok hC hcell hlet hM1
  obtain ⟨w1, hw1⟩ : ∃ w1, w1 = w.alloc (.cells #[.int .i64 W0, .int .i64 H0, .string C0, .int .i64 T0, .string A0, .string B0, .slice ao n cap, .bool false, .int .u8 (lo : Int), .int .i64 li, .int .u8 (re : Int), .bool st, .int .i64 pl] 27 (0, 0)) := ⟨_, rfl⟩
  obtain ⟨w2, hw2⟩ : ∃ w2, w2 = w1.alloc (.cells #[.int .i64 (W : Int), .int .i64 (H : Int), .string C, .int .i64 (T : Int), .string A, .string B] 24 (0, 0)) := ⟨_, rfl⟩
  have hb1 : Below w.heap.size w w1 := by rw [hw1]; exact (Below.refl _ _).alloc (Nat.le_refl _) _
  have hb2 : Below w1.heap.size w1 w2 := by rw [hw2]; exact (Below.refl _ _).alloc (Nat.le_refl _) _
  have s1 : w1.heap.size = w.heap.size + 1 := by rw [hw1]; simp
  have s2 : w2.heap.size = w.heap.size + 2 := by rw [hw2]; simp [s1]
  have hru : isRu w2 w.heap.size (.int .i64 W0) (.int .i64 H0) (.string C0) (.int .i64 T0) (.string A0) (.string B0) (.slice ao n cap) (.bool false) (.int .u8 (lo : Int)) (.int .i64 li) (.int .u8 (re : Int)) (.bool st) (.int .i64 pl) := isRu.below (show isRu w1 w.heap.size (.int .i64 W0) (.int .i64 H0) (.string C0) (.int .i64 T0) (.string A0) (.string B0) (.slice ao n cap) (.bool false) (.int .u8 (lo : Int)) (.int .i64 li) (.int .u8 (re : Int)) (.bool st) (.int .i64 pl) by rw [hw1]; exact heap_alloc_new w _) hb2 (by omega)
  have hpb : isPb w2 (w.heap.size + 1) W H T C A B := by rw [hw2, ← s1]; exact heap_alloc_new w1 _
  have HBW := hide (hb1.trans (hb2.mono (by omega)))
  have HPB := hide hpb
  have HRU := hide hru
  have hsz : w.heap.size + 2 ≤ w2.heap.size := by omega
  obtain ⟨h, hh⟩ : ∃ h, h = handOf T A B := ⟨_, rfl⟩
  have hh8 : h.size ≤ 8 := by rw [hh]; unfold handOf; split <;> assumption
  have hhc := hand_cell w2 (w.heap.size + 1) T _ _ _ C A B hpb hT
  rw [← hh, hw2, hw1] at hhc
  have HPO : Hid (possL W H T C A B ps false = (if false then dropsTo C (cptN h.data.toList h.size) M else []) ++ goesTo W H T C ps M) := hide (by unfold possL; rw [hMC, hh])
  obtain ⟨p0, p1, p2, p3, p4, p5⟩ := hpb.all
  obtain ⟨-, -, -, -, -, -, -, r7, -⟩ := hru.cells
  clear hb1 hb2 hru hpb s1 s2 hh
  obtain ⟨L0, hL0⟩ : ∃ L0 : List Mv, L0 = [] := ⟨_, rfl⟩
  have hL0l : L0.length ≤ 512 := by rw [hL0]; simp
  have HOWN : Hid (w2.ownsRow (w.heap.size + 2) 61 3 (.slice none 0 0) L0.length (mvals L0)) := hide (by rw [hL0]; exact World.ownsRow_nil _ _ _ _)
  have HP2 : Hid (possL W H T C A B ps false = L0 ++ goesTo W H T C ps M) := hide (by rw [unhide HPO, hL0]; rfl)
  have hM0i : (0 : Int) < (M : Int) := by omega
  clear hL0 HPO
  go_enter Tryz.func107, Tryz.ntmps107
  go_wp2
  rw [← hw1, ← hw2]
  clear hw1 hw2 hhc
  go_loopw [5, 8] (fun lv iv wr => lv = .slice none 0 0 ∧ iv = .int .i64 0 ∧ wr = w2) (fun _ _ _ => 0)
  case atStart => exact ⟨rfl, rfl, rfl⟩
  case round =>
    obtain ⟨rfl, rfl, rfl⟩ := hrel
    go_wp2
    clear p0 p1 p2 p3 p4 p5 r7
    go_loopw [5, 10] (fun lv iv wr => ∃ fr : Nat, iv = .int .i64 (fr : Int) ∧ fr ≤ M ∧ wr.ownsRow (w.heap.size + 2) 61 3 lv (L0 ++ goesTo W H T C ps fr).length (mvals (L0 ++ goesTo W H T C ps fr)) ∧ isPb wr (w.heap.size + 1) W H T C A B ∧ isRu wr w.heap.size (.int .i64 W0) (.int .i64 H0) (.string C0) (.int .i64 T0) (.string A0) (.string B0) (.slice ao n cap) (.bool false) (.int .u8 (lo : Int)) (.int .i64 li) (.int .u8 (re : Int)) (.bool st) (.int .i64 pl) ∧ Below w.heap.size w wr ∧ w.heap.size + 2 ≤ wr.heap.size) (fun _ iv _ => M - (intOf iv).toNat)
    case atStart => exact ⟨0, rfl, Nat.zero_le _, by simpa [goesTo] using unhide HOWN, unhide HPB, unhide HRU, unhide HBW, hsz⟩
    case round =>
      obtain ⟨fr, rfl, hfr, hown, hpb, hru, hbw, hszr⟩ := hrel
      clear HOWN HPB HRU HBW hsz
      by_cases hlt : fr < M
      · have hlti : (fr : Int) < (M : Int) := by omega
        have hfc : fr < C.size := by omega
        have hfw : fr < W * H := by rw [← unhide HC]; exact hfc
        obtain ⟨hcn, h256⟩ := cellN_at C fr hfc
        obtain ⟨N, hN⟩ : ∃ N, N = cellN C fr := ⟨_, rfl⟩
        have hcb := (unhide HCELL fr hfw).1
        have hlt2 := unhide HLET fr hfw
        rw [← hN] at hcn h256 hcb hlt2
        have HO := hide (fun u => rOwner_any (N : Int) u)
        have hob := own_iff hT h256 hcb
        obtain ⟨ro, hro⟩ : ∃ ro, ro = rownI (N : Int) := ⟨_, rfl⟩
        rw [← hro] at HO hob
        obtain ⟨p0, p1, p2, p3, p4, p5⟩ := hpb.all
        obtain ⟨r0, r1, r2, r3, r4, r5, r6, r7, r8, r9, r10, r11, r12⟩ := hru.cells
        obtain ⟨b, hbb⟩ : ∃ b, ownB T N = b := ⟨_, rfl⟩
        rw [hbb] at hob
        have hsu := goesTo_succ W H T C ps fr
        have hat : goesAt W H T C ps fr = if b then goTo (goalsG W H T C fr (waysP (upN N) ps)) fr (upN N) M else [] := by unfold goesAt; rw [← hN, hbb, hMC]
        have hlen := goesTo_len W H T C ps fr
        have hmul : fr * C.size ≤ 64 * 64 := Nat.mul_le_mul (by omega) (by omega)
        have hgl : (goesTo W H T C ps fr).length ≤ 4096 := by omega
        have HPB := hide hpb
        have HRU := hide hru
        have HBW := hide hbw
        have HOWN := hide hown
        have HN2 := hide hN
        have HB2 := hide hbb
        clear hpb hru hbw hown hN hbb hlen hmul hro
        cases b with
        | false =>
          rw [hat] at hsu
          simp only [Bool.false_eq_true, if_false, List.append_nil] at hsu
          have HSU := hide hsu
          simp only [Bool.not_false] at hob
          clear hat hsu r0 r1 r2 r3 r4 r5 r6 r7 r8 r9 r10 r11 r12 hlt2
          go_wp2_with fail
          go_quiet (first
            | (go_at_call 147; exact Calls.quiet_of_same (unhide HO _)))
          go_wp2
          go_roundw
          case rel => exact ⟨fr + 1, by go_num, by omega, by rw [unhide HSU]; exact unhide HOWN, unhide HPB, unhide HRU, ⟨(unhide HBW).os, (unhide HBW).tape, (unhide HBW).output, (unhide HBW).size, (unhide HBW).block⟩, hszr⟩
          case measure => simp only [intOf]; omega
        | true =>
          have hn46 : N ≠ 46 := by
            rintro rfl
            have := unhide HB2
            simp [ownB] at this
          obtain ⟨hix, hlow⟩ := hlt2 hn46
          obtain ⟨k0, pc, hk0, hpk, hpl, hpw⟩ := idx_piece ps (upN N) 0 hix
          rw [Nat.zero_add] at hk0
          have hkn : k0 < ps.length := (List.getElem?_eq_some_iff.1 hpk).1
          have hkn2 : k0 < n := by rw [unhide HN]; exact hkn
          obtain ⟨g, off, eg, hg, hc⟩ := (unhide HPS).cells (by rintro rfl; simp at hkn)
          subst eg
          obtain ⟨hl8, wo, wc, c0, c1, c2, c3⟩ := hc k0 pc hpk
          have hps2 := (unhide HPS)
          have hmx := hps2.mx
          have hle := hps2.le
          unfold maxLen at hmx
          have hkc : (k0 : Int) < 9223372036854775807 := by omega
          have hPI : ∀ u : World, Below w.heap.size w u → Calls Tryz.prog 32 #[.agg #[.int .i64 W0, .int .i64 H0, .string C0, .int .i64 T0, .string A0, .string B0, .slice (some ⟨g, off, none⟩) n cap, .bool false, .int .u8 (lo : Int), .int .i64 li, .int .u8 (re : Int), .bool st, .int .i64 pl], .int .u8 (N : Int)] u fun e w' => e = .returned (.int .i64 (k0 : Int)) ∧ Below u.heap.size u w' := fun u hu => by
            have := gPiece_any W0 H0 T0 C0 A0 B0 (some ⟨g, off, none⟩) cap ps false st lo re li pl N u h256 ((unhide HPS).below hu (Nat.le_refl _))
            rw [hlow, hk0, ← unhide HN] at this
            exact this
          have hkd : ∀ u : World, Below w.heap.size w u → u.cell? ⟨g, off + k0 * 3, none⟩ = some (.int .u8 (pc.l : Int)) ∧ u.cell? ⟨g, off + k0 * 3 + 1, none⟩ = some (.int .i64 pc.v) ∧ u.cell? ⟨g, off + k0 * 3 + 2, none⟩ = some (.slice wo pc.ws.length wc) := fun u hu =>
            ⟨(hu.cell (p := ⟨g, off + k0 * 3, none⟩) hg).trans c0, (hu.cell (p := ⟨g, off + k0 * 3 + 1, none⟩) hg).trans c1, (hu.cell (p := ⟨g, off + k0 * 3 + 2, none⟩) hg).trans c2⟩
          have HPI := hide hPI
          have HKD := hide hkd
          have HC3 := hide c3
          simp only [Bool.not_true] at hob
          simp only [if_true] at hat
          rw [hat] at hsu
          rw [hpw] at hsu
          have hwok : ∀ z ∈ pc.ws, z.ok = true := unhide HOK pc (List.mem_of_getElem? hpk)
          have HWOK := hide hwok
          have HSU := hide hsu
          have HPL := hide hpl
          clear hat hsu hwok hpl hpw hPI hkd c0 c1 c2 c3 hc hps2 hix hlow hk0 hpk
          go_wp2_with fail
          go_quiet (first
            | (go_at_call 147; exact Calls.quiet_of_same (unhide HO _)))
          go_wp2_with fail
          have hown : (wr.drewN nq).ownsRow (w.heap.size + 2) 61 3 u5 (L0 ++ goesTo W H T C ps fr).length (mvals (L0 ++ goesTo W H T C ps fr)) := unhide HOWN
          clear HOWN
          have HOWN := hide hown
          clear hown p0 p1 p2 p3 p4 p5 r0 r1 r2 r3 r4 r5 r6 r7 r8 r9 r10 r11 r12
          have hpb : isPb (wr.drewN nq) (w.heap.size + 1) W H T C A B := unhide HPB
          have hru : isRu (wr.drewN nq) w.heap.size (.int .i64 W0) (.int .i64 H0) (.string C0) (.int .i64 T0) (.string A0) (.string B0) (.slice (some ⟨g, off, none⟩) n cap) (.bool false) (.int .u8 (lo : Int)) (.int .i64 li) (.int .u8 (re : Int)) (.bool st) (.int .i64 pl) := unhide HRU
          have hbw : Below w.heap.size w (wr.drewN nq) := ⟨(unhide HBW).os, (unhide HBW).tape, (unhide HBW).output, (unhide HBW).size, (unhide HBW).block⟩
          have hszn : w.heap.size + 2 ≤ ((wr.drewN nq)).heap.size := hszr
          generalize (wr.drewN nq) = wr1 at *
          clear HPB HRU HBW
          have HPB := hide hpb
          have HRU := hide hru
          have HBW := hide hbw
          clear hpb hru hbw
          obtain ⟨p0, p1, p2, p3, p4, p5⟩ := (unhide HPB).all
          obtain ⟨r0, r1, r2, r3, r4, r5, r6, r7, r8, r9, r10, r11, r12⟩ := (unhide HRU).cells
          have hHS : ∀ u, Below wr1.heap.size wr1 u → (u.cell? ⟨w.heap.size, 0, none⟩ = some (.int .i64 W0) ∧ u.cell? ⟨w.heap.size, 1, none⟩ = some (.int .i64 H0) ∧ u.cell? ⟨w.heap.size, 2, none⟩ = some (.string C0) ∧ u.cell? ⟨w.heap.size, 3, none⟩ = some (.int .i64 T0) ∧ u.cell? ⟨w.heap.size, 4, none⟩ = some (.string A0) ∧ u.cell? ⟨w.heap.size, 5, none⟩ = some (.string B0) ∧ u.cell? ⟨w.heap.size, 6, none⟩ = some (.slice (some ⟨g, off, none⟩) n cap) ∧ u.cell? ⟨w.heap.size, 7, none⟩ = some (.bool false) ∧ u.cell? ⟨w.heap.size, 8, none⟩ = some (.int .u8 (lo : Int)) ∧ u.cell? ⟨w.heap.size, 9, none⟩ = some (.int .i64 li) ∧ u.cell? ⟨w.heap.size, 10, none⟩ = some (.int .u8 (re : Int)) ∧ u.cell? ⟨w.heap.size, 11, none⟩ = some (.bool st) ∧ u.cell? ⟨w.heap.size, 12, none⟩ = some (.int .i64 pl) ∧ u.cell? ⟨w.heap.size + 1, 2, none⟩ = some (.string C) ∧ u.cell? ⟨g, off + k0 * 3, none⟩ = some (.int .u8 (pc.l : Int)) ∧ u.cell? ⟨g, off + k0 * 3 + 1, none⟩ = some (.int .i64 pc.v) ∧ u.cell? ⟨g, off + k0 * 3 + 2, none⟩ = some (.slice wo pc.ws.length wc) ∧ Below wr1.heap.size wr1 u) := fun u hu => by
            have hw : Below w.heap.size w u := (unhide HBW).trans (hu.mono (unhide HBW).size)
            have hr := (unhide HRU).below hu (unhide HRU).lt
            have hp := (unhide HPB).below hu (unhide HPB).lt
            obtain ⟨k0', k1', k2'⟩ := unhide HKD u hw
            exact ⟨hr.cells.1, hr.cells.2.1, hr.cells.2.2.1, hr.cells.2.2.2.1, hr.cells.2.2.2.2.1, hr.cells.2.2.2.2.2.1, hr.cells.2.2.2.2.2.2.1, hr.cells.2.2.2.2.2.2.2.1, hr.cells.2.2.2.2.2.2.2.2.1, hr.cells.2.2.2.2.2.2.2.2.2.1, hr.cells.2.2.2.2.2.2.2.2.2.2.1, hr.cells.2.2.2.2.2.2.2.2.2.2.2.1, hr.cells.2.2.2.2.2.2.2.2.2.2.2.2, hp.all.2.2.1, k0', k1', k2', hu⟩
          have HS := hide hHS
          have HP1 := hide (fun u (hu : Below wr1.heap.size wr1 u) => unhide HPI u ((unhide HBW).trans (hu.mono (unhide HBW).size)))
          have HB0 : Hid (Below wr1.heap.size wr1 wr1.drew) := hide (Below.refl _ _).drew
          have HBA : Hid (∀ o, Below wr1.heap.size wr1 (wr1.drew.alloc o)) := hide fun o => (unhide HB0).alloc (unhide HB0).size o
          clear hHS HPI r0 r1 r2 r3 r4 r5 r6 r7 r8 r9 r10 r11 r12 p0 p1 p2 p3 p4 p5
          apply cutFor2 (fun b v => isXb v b pc.l pc.v (.slice wo pc.ws.length wc) ∧ Below wr1.heap.size wr1 v ∧ wr1.heap.size ≤ b)
          case k =>
            intro key
            go_region_held3 (fun u => u.cell? ⟨w.heap.size, 0, none⟩ = some (.int .i64 W0) ∧ u.cell? ⟨w.heap.size, 1, none⟩ = some (.int .i64 H0) ∧ u.cell? ⟨w.heap.size, 2, none⟩ = some (.string C0) ∧ u.cell? ⟨w.heap.size, 3, none⟩ = some (.int .i64 T0) ∧ u.cell? ⟨w.heap.size, 4, none⟩ = some (.string A0) ∧ u.cell? ⟨w.heap.size, 5, none⟩ = some (.string B0) ∧ u.cell? ⟨w.heap.size, 6, none⟩ = some (.slice (some ⟨g, off, none⟩) n cap) ∧ u.cell? ⟨w.heap.size, 7, none⟩ = some (.bool false) ∧ u.cell? ⟨w.heap.size, 8, none⟩ = some (.int .u8 (lo : Int)) ∧ u.cell? ⟨w.heap.size, 9, none⟩ = some (.int .i64 li) ∧ u.cell? ⟨w.heap.size, 10, none⟩ = some (.int .u8 (re : Int)) ∧ u.cell? ⟨w.heap.size, 11, none⟩ = some (.bool st) ∧ u.cell? ⟨w.heap.size, 12, none⟩ = some (.int .i64 pl) ∧ u.cell? ⟨w.heap.size + 1, 2, none⟩ = some (.string C) ∧ u.cell? ⟨g, off + k0 * 3, none⟩ = some (.int .u8 (pc.l : Int)) ∧ u.cell? ⟨g, off + k0 * 3 + 1, none⟩ = some (.int .i64 pc.v) ∧ u.cell? ⟨g, off + k0 * 3 + 2, none⟩ = some (.slice wo pc.ws.length wc) ∧ Below wr1.heap.size wr1 u)
              (first
                | exact unhide HS _ (unhide HB0)
                | exact unhide HS _ (unhide HBA _)
                | exact unhide HS _ (unhide HBX)
                | exact unhide HS _ (unhide HBXA _)
                | exact unhide HS _ (unhide HBXS _ _ _)
                | exact unhide HS _ (unhide HBXS2 _ _ _ _))
              (first
                | (go_at_call 32; (first | (refine (unhide HP1 _ (unhide HB0)).mono ?_) | (refine (unhide HP1 _ (unhide HBA _)).mono ?_)); rintro e wx ⟨rfl, hb⟩; have HBX : Hid (Below wr1.heap.size wr1 wx) := hide (by first | exact (unhide HB0).trans (hb.mono (unhide HB0).size) | exact (unhide HBA _).trans (hb.mono (unhide HBA _).size)); have HBXA : Hid (∀ o, Below wr1.heap.size wr1 (wx.alloc o)) := hide (fun o => (unhide HBX).alloc (unhide HBX).size o); have HBXS : Hid (∀ x y z : Value, Below wr1.heap.size wr1 (((wx.setCell ⟨wr1.heap.size, 0, none⟩ x).setCell ⟨wr1.heap.size, 1, none⟩ y).setCell ⟨wr1.heap.size, 2, none⟩ z)) := hide (fun x y z => (((unhide HBX).setCell (p := ⟨wr1.heap.size, 0, none⟩) (Nat.le_refl _) x).setCell (p := ⟨wr1.heap.size, 1, none⟩) (Nat.le_refl _) y).setCell (p := ⟨wr1.heap.size, 2, none⟩) (Nat.le_refl _) z); have HBXS2 : Hid (∀ o (x y z : Value), Below wr1.heap.size wr1 ((((wx.alloc o).setCell ⟨wx.heap.size, 0, none⟩ x).setCell ⟨wx.heap.size, 1, none⟩ y).setCell ⟨wx.heap.size, 2, none⟩ z)) := hide (fun o x y z => (((unhide HBXA o).setCell (p := ⟨wx.heap.size, 0, none⟩) (unhide HBX).size x).setCell (p := ⟨wx.heap.size, 1, none⟩) (unhide HBX).size y).setCell (p := ⟨wx.heap.size, 2, none⟩) (unhide HBX).size z); try (have HXZ : Hid (wx.heap[wr1.heap.size]? = some (.cells #[.int .u8 0, .int .i64 0, .slice none 0 0] 71 (0, 0))) := hide ((hb.block wr1.heap.size (by simp)).trans (heap_alloc_new wr1.drew _)); obtain ⟨x0, x1, x2⟩ := box3 (unhide HXZ); have xf0 := frozen_of_row wx wr1.heap.size 0 _ _ (unhide HXZ); have xf1 := frozen_of_row wx wr1.heap.size 1 _ _ (unhide HXZ); have xf2 := frozen_of_row wx wr1.heap.size 2 _ _ (unhide HXZ)); clear hb))
            all_goals first
              | (have hfin : isXb (wx.alloc (.cells #[.int .u8 (pc.l : Int), .int .i64 pc.v, .slice wo pc.ws.length wc] 71 (0, 0))) wx.heap.size pc.l pc.v (.slice wo pc.ws.length wc) ∧ Below wr1.heap.size wr1 (wx.alloc (.cells #[.int .u8 (pc.l : Int), .int .i64 pc.v, .slice wo pc.ws.length wc] 71 (0, 0))) ∧ wr1.heap.size ≤ wx.heap.size := ⟨heap_alloc_new wx _, unhide HBXA _, (unhide HBX).size⟩
                 generalize wx.alloc (.cells #[.int .u8 (pc.l : Int), .int .i64 pc.v, .slice wo pc.ws.length wc] 71 (0, 0)) = v at hfin ⊢
                 generalize wx.heap.size = bx at hfin ⊢
                 exact unhide key bx v hfin)
              | (have hfin : isXb (((wx.setCell ⟨wr1.heap.size, 0, none⟩ (.int .u8 (pc.l : Int))).setCell ⟨wr1.heap.size, 1, none⟩ (.int .i64 pc.v)).setCell ⟨wr1.heap.size, 2, none⟩ (.slice wo pc.ws.length wc)) wr1.heap.size pc.l pc.v (.slice wo pc.ws.length wc) ∧ Below wr1.heap.size wr1 (((wx.setCell ⟨wr1.heap.size, 0, none⟩ (.int .u8 (pc.l : Int))).setCell ⟨wr1.heap.size, 1, none⟩ (.int .i64 pc.v)).setCell ⟨wr1.heap.size, 2, none⟩ (.slice wo pc.ws.length wc)) ∧ wr1.heap.size ≤ wr1.heap.size := ⟨box3_set (unhide HXZ) _ _ _, unhide HBXS _ _ _, Nat.le_refl _⟩
                 generalize ((wx.setCell ⟨wr1.heap.size, 0, none⟩ (.int .u8 (pc.l : Int))).setCell ⟨wr1.heap.size, 1, none⟩ (.int .i64 pc.v)).setCell ⟨wr1.heap.size, 2, none⟩ (.slice wo pc.ws.length wc) = v at hfin ⊢
                 obtain ⟨bx, hbxe⟩ : ∃ bx, bx = wr1.heap.size := ⟨_, rfl⟩
                 rw [← hbxe]
                 exact unhide key bx v (by rw [hbxe]; exact hfin))
          rintro bx v ⟨hxb, hbv, -⟩
          have hown2 := own_below (unhide HOWN) hbv
          have hpb2 := (unhide HPB).below hbv (unhide HPB).lt
          have hru2 := (unhide HRU).below hbv (unhide HRU).lt
          have hbw2 := (unhide HBW).trans (hbv.mono (unhide HBW).size)
          have hsz2 : w.heap.size + 2 ≤ v.heap.size := Nat.le_trans hszn hbv.size
          obtain ⟨L, hL⟩ : ∃ L, L = L0 ++ goesTo W H T C ps fr := ⟨_, rfl⟩
          have hLl : L.length ≤ 4608 := by rw [hL, List.length_append]; omega
          obtain ⟨S, hS⟩ : ∃ S, S = goalsG W H T C fr pc.ws := ⟨_, rfl⟩
          have hsu' : L0 ++ goesTo W H T C ps (fr + 1) = L ++ goTo S fr (upN N) M := by rw [hL, unhide HSU, List.append_assoc, hS]
          have hbit : ∀ c, c < W * H → S.testBit c = pc.ws.any (canZ W T C fr c) := fun c hc => by
            rw [hS]
            exact can_bit hT hW hH.2 hfw hc (unhide HWOK) (unhide HCELL) (by rw [← unhide HN2]; exact unhide HB2)
          have HBIT := hide hbit
          have HSU2 := hide hsu'
          rw [← hL] at hown2
          have hm8 := (unhide HC3).le
          have hm9 := (unhide HC3).mx
          obtain ⟨m, hm⟩ : ∃ m, m = pc.ws.length := ⟨_, rfl⟩
          rw [← hm] at hxb hm8
          unfold maxLen at hm9
          have hmx2 : (m : Int) ≤ 9223372036854775807 := by omega
          have HM := hide hm
          have HOWN2 := hide hown2
          have HPB2 := hide hpb2
          have HRU2 := hide hru2
          have HBW2 := hide hbw2
          have HXB2 := hide hxb
          clear HS HP1 HB0 HBA HOWN HPB HRU HBW HSU hown2 hpb2 hru2 hbw2 hxb hbv hL hS hsu' hbit hm hszn HO hob
          go_wp2
          go_loopw [5, 12] (fun lv tv wq => ∃ tc : Nat, tv = .int .i64 (tc : Int) ∧ tc ≤ M ∧ wq.ownsRow (w.heap.size + 2) 61 3 lv (L ++ goTo S fr (upN N) tc).length (mvals (L ++ goTo S fr (upN N) tc)) ∧ isPb wq (w.heap.size + 1) W H T C A B ∧ isRu wq w.heap.size (.int .i64 W0) (.int .i64 H0) (.string C0) (.int .i64 T0) (.string A0) (.string B0) (.slice (some ⟨g, off, none⟩) n cap) (.bool false) (.int .u8 (lo : Int)) (.int .i64 li) (.int .u8 (re : Int)) (.bool st) (.int .i64 pl) ∧ isXb wq bx pc.l pc.v (.slice wo m wc) ∧ Below w.heap.size w wq ∧ w.heap.size + 2 ≤ wq.heap.size) (fun _ tv _ => M - (intOf tv).toNat)
          case atStart => exact ⟨0, rfl, Nat.zero_le _, by simpa [goTo] using unhide HOWN2, unhide HPB2, unhide HRU2, unhide HXB2, unhide HBW2, hsz2⟩
          case round =>
            obtain ⟨tc, rfl, htc, hown, hpb, hru, hxb, hbw, hszq⟩ := hrel
            clear HOWN2 HPB2 HRU2 HXB2 HBW2 hsz2
            by_cases htl : tc < M
            · have htli : (tc : Int) < (M : Int) := by omega
              have htcs : tc < C.size := by omega
              have htw : tc < W * H := by rw [← unhide HC]; exact htcs
              have HOWN := hide hown
              have HPB := hide hpb
              have HRU := hide hru
              have HXB := hide hxb
              have HBW := hide hbw
              clear hown hpb hru hxb hbw
              obtain ⟨hcn2, h2562⟩ := cellN_at C tc htcs
              obtain ⟨N2, hN2⟩ : ∃ N2, N2 = cellN C tc := ⟨_, rfl⟩
              rw [← hN2] at hcn2 h2562
              have HN3 := hide hN2
              clear hN2
              go_wp2
              obtain ⟨wq, rfl⟩ : ∃ wq, wq = wr := ⟨_, rfl⟩
              go_loopw [13, 14] (fun cv kv wk => ∃ k : Nat, kv = .int .i64 (k : Int) ∧ k ≤ m ∧ cv = .bool ((pc.ws.take k).any (canZ W T C fr tc)) ∧ Below wq.heap.size wq wk) (fun _ kv _ => m - (intOf kv).toNat)
              case atStart => exact ⟨0, rfl, Nat.zero_le _, rfl, Below.refl _ _⟩
              case round =>
                obtain ⟨k, rfl, hk, rfl, hbk⟩ := hrel
                have hxk := (unhide HXB).below hbk (unhide HXB).lt
                have hpk2 := (unhide HPB).below hbk (unhide HPB).lt
                have hbwk := (unhide HBW).trans (hbk.mono (unhide HBW).size)
                obtain ⟨x0, x1, x2⟩ := hxk.all
                by_cases hkl : k < m
                · have hkli : (k : Int) < (m : Int) := by omega
                  obtain ⟨z, hz⟩ : ∃ z, pc.ws[k]? = some z := ⟨_, List.getElem?_eq_getElem (by rw [← unhide HM]; exact hkl)⟩
                  have hwsr := isWys.below (unhide HC3) hbwk (Nat.le_refl _)
                  obtain ⟨g2, off2, hao, hgl2, hcell2⟩ := hwsr.cells (by intro e; rw [e] at hz; simp at hz)
                  obtain ⟨c0, c1, c2, c3⟩ := hcell2 k z hz
                  have hzo := unhide HWOK z (List.mem_of_getElem? hz)
                  obtain ⟨hzx0, hzx7, hzy0, hzy7, -, -⟩ := ok_of hzo
                  obtain ⟨wx, hwx⟩ : ∃ wx, wx = wr.alloc (.cells #[.int .i64 z.k, .int .i64 z.x, .int .i64 z.y, .int .i64 z.t] 68 (0, 0)) := ⟨_, rfl⟩
                  have hbx : Below wr.heap.size wr wx := by rw [hwx]; exact (Below.refl _ _).alloc (Nat.le_refl _) _
                  have hwb : isWb wx wr.heap.size z.k z.x z.y z.t := by rw [hwx]; exact heap_alloc_new wr _
                  have hpx := hpk2.below hbx hpk2.lt
                  have hbkx := hbk.trans (hbx.mono hbk.size)
                  have hp2a : ∀ o, (wr.alloc o).cell? ⟨w.heap.size + 1, 2, none⟩ = some (.string C) := fun o => (hpk2.below ((Below.refl wr.heap.size wr).alloc (Nat.le_refl _) o) hpk2.lt).all.2.2.1
                  have hany : (pc.ws.take (k + 1)).any (canZ W T C fr tc) = ((pc.ws.take k).any (canZ W T C fr tc) || canZ W T C fr tc z) := by rw [take_snocW pc.ws k z hz, List.any_append]; simp
                  have hcz : canZ W T C fr tc z = (fitsB z.t T (rownI (N2 : Int)) && decide (fr ≠ tc) && goesB W T C z.k z.x z.y fr tc) := by unfold canZ; rw [← unhide HN3]
                  obtain ⟨can, hcan⟩ : ∃ can, can = (pc.ws.take k).any (canZ W T C fr tc) := ⟨_, rfl⟩
                  rw [← hcan, hcz] at hany
                  rw [← hcan]
                  obtain ⟨fb, hfb⟩ : ∃ fb, fb = fitsB z.t T (rownI (N2 : Int)) := ⟨_, rfl⟩
                  rw [← hfb] at hany
                  obtain ⟨ro, hro⟩ : ∃ ro, ro = rownI (N2 : Int) := ⟨_, rfl⟩
                  have HO := hide (fun u => rOwner_any (N2 : Int) u)
                  rw [← hro] at HO hfb
                  have hG := rGoes_any W H T fr tc C A B z.k z.x z.y z.t wx hW hH (unhide HC) hfw htw ⟨hzx0, hzx7⟩ ⟨hzy0, hzy7⟩
                  obtain ⟨gb, hgb⟩ : ∃ gb, gb = goesB W T C z.k z.x z.y fr tc := ⟨_, rfl⟩
                  rw [← hgb] at hG hany
                  have HG := hide hG
                  have HANY := hide hany
                  have HFB := hide hfb
                  have HPX := hide hpx
                  have HWB := hide hwb
                  have HBKX := hide hbkx
                  subst hao
                  clear hcell2 hwsr hz hzo hbx hwb hpx hbkx hany hcz hcan hfb hro hG hgb hxk hpk2 hbwk hbk
                  go_wp2_with fail
                  rw [← hwx]
                  clear hwx hp2a
                  refine (unhide HO _).mono ?_
                  rintro e u ⟨rfl, rfl⟩
                  obtain ⟨p0, p1, p2, p3, p4, p5⟩ := (unhide HPX).all
                  obtain ⟨z0, z1, z2, z3⟩ := (unhide HWB).all
                  clear c0 c1 c2 c3 x0 x1 x2
                  go_upto_region 26 with fail
                  go_cut [17] from 113 to 131 (fun v wz => v = .bool fb ∧ wz = u)
                  case first =>
                    by_cases h2 : ro = 2
                    · have b2 : (ro == 2) = true := by simp [h2]
                      by_cases q1 : z.t = 1
                      · have b1 : (z.t != 1) = false := by simp [q1]
                        have hr : (ro == 1 - (T : Int)) = false := by simp; omega
                        have HFE : Hid (fb = false) := hide (by rw [unhide HFB]; unfold fitsB; simp [h2, q1]; omega)
                        clear h2 q1
                        go_wp2
                        go_meet
                        case rel => exact ⟨by rw [unhide HFE], rfl⟩
                      · have b1 : (z.t != 1) = true := by simp [q1]
                        have HFE : Hid (fb = true) := hide (by rw [unhide HFB]; unfold fitsB; simp [h2, q1])
                        clear h2 q1
                        go_wp2
                        go_meet
                        case rel => exact ⟨by rw [unhide HFE], rfl⟩
                    · have b2 : (ro == 2) = false := by simp [h2]
                      by_cases q2 : ro = 1 - (T : Int)
                      · have hr : (ro == 1 - (T : Int)) = true := by simp [q2]
                        have HFE : Hid (fb = (z.t != 2)) := hide (by rw [unhide HFB, Bool.eq_iff_iff]; unfold fitsB; simp [q2]; omega)
                        clear h2 q2
                        go_wp2
                        go_meet
                        case rel => exact ⟨by rw [unhide HFE], rfl⟩
                      · have hr : (ro == 1 - (T : Int)) = false := by simp [q2]
                        have HFE : Hid (fb = false) := hide (by rw [unhide HFB]; unfold fitsB; simp [h2, q2])
                        clear h2 q2
                        go_wp2
                        go_meet
                        case rel => exact ⟨by rw [unhide HFE], rfl⟩
                  case rest =>
                    obtain ⟨rfl, rfl⟩ := hcut
                    cases can with
                    | true =>
                      have HA2 : Hid ((pc.ws.take (k + 1)).any (canZ W T C fr tc) = true) := hide (by rw [unhide HANY]; rfl)
                      go_wp2
                      go_roundw
                      case rel => exact ⟨k + 1, by go_num, by omega, by rw [unhide HA2], unhide HBKX⟩
                      case measure => simp only [intOf]; omega
                    | false =>
                      cases fb with
                      | false =>
                        have HA2 : Hid ((pc.ws.take (k + 1)).any (canZ W T C fr tc) = false) := hide (by rw [unhide HANY]; rfl)
                        go_wp2
                        go_roundw
                        case rel => exact ⟨k + 1, by go_num, by omega, by rw [unhide HA2], unhide HBKX⟩
                        case measure => simp only [intOf]; omega
                      | true =>
                        by_cases hft : fr = tc
                        · have hfti : ((fr : Int) != (tc : Int)) = false := by simp; omega
                          have HA2 : Hid ((pc.ws.take (k + 1)).any (canZ W T C fr tc) = false) := hide (by rw [unhide HANY]; simp [hft])
                          clear hft
                          go_wp2
                          go_roundw
                          case rel => exact ⟨k + 1, by go_num, by omega, by rw [unhide HA2], unhide HBKX⟩
                          case measure => simp only [intOf]; omega
                        · have hfti : ((fr : Int) != (tc : Int)) = true := by simp; omega
                          have HA2 : Hid ((pc.ws.take (k + 1)).any (canZ W T C fr tc) = gb) := hide (by rw [unhide HANY]; simp [hft])
                          clear hft
                          go_wp2_with fail
                          refine (unhide HG).mono ?_
                          rintro e u2 ⟨rfl, hbg⟩
                          have HB3 := hide ((unhide HBKX).trans (hbg.mono (unhide HBKX).size))
                          clear hbg
                          go_wp2
                          go_roundw
                          case rel => exact ⟨k + 1, by go_num, by omega, by rw [unhide HA2], unhide HB3⟩
                          case measure => simp only [intOf]; omega
                · have hkli : ¬ (k : Int) < (m : Int) := by omega
                  have hcan : (pc.ws.take k).any (canZ W T C fr tc) = S.testBit tc := by
                    rw [unhide HBIT tc htw, List.take_of_length_le (by rw [← unhide HM]; omega)]
                  rw [hcan]
                  have hgs := goTo_succ S fr (upN N) tc
                  have hgl2 := goTo_len S fr (upN N) tc
                  obtain ⟨t, ht⟩ : ∃ t, S.testBit tc = t := ⟨_, rfl⟩
                  rw [ht] at hgs ⊢
                  have hownk := own_below (unhide HOWN) hbk
                  have hruk := (unhide HRU).below hbk (unhide HRU).lt
                  have hszk : w.heap.size + 2 ≤ wr.heap.size := Nat.le_trans hszq hbk.size
                  have HXK := hide hxk
                  have HPK := hide hpk2
                  have HRK := hide hruk
                  have HBK := hide hbwk
                  clear hcan ht hbk HOWN HPB HRU HXB HBW hxk hpk2 hruk hbwk
                  cases t with
                  | false =>
                    simp only [Bool.false_eq_true, if_false, List.append_nil] at hgs
                    have HGS := hide hgs
                    have HOWN3 := hide hownk
                    clear hgs hownk
                    go_wp2
                    go_roundw
                    case rel => exact ⟨tc + 1, by go_num, by omega, by rw [unhide HGS]; exact unhide HOWN3, unhide HPK, unhide HRK, unhide HXK, unhide HBK, hszk⟩
                    case measure => simp only [intOf]; omega
                  | true =>
                    simp only [if_true] at hgs
                    have HGS := hide hgs
                    obtain ⟨Y, hY⟩ : ∃ Y, Y = L ++ goTo S fr (upN N) tc := ⟨_, rfl⟩
                    have hYl : Y.length ≤ 5000 := by rw [hY, List.length_append]; omega
                    rw [← hY] at hownk
                    have HY := hide hY
                    have HGE := hide (own_ge hownk)
                    have HNE := hide ((unhide HXK).ne hownk)
                    have hpl256 : pc.l < 256 := hl8
                    clear hgs hY
                    go_wp2_with (at_builtin; refine wpList_append_own _ rfl _ _ 56 rfl (w.heap.size + 2) 61 i0 _ 3 24 Tryz.underlying56 hi hz0 hz1 hz2 rfl (by decide) _ _ _ rfl (hownk.alloc _) ⟨wr.heap.size, 0, none⟩ 1 1 [.int .i64 (fr : Int), .int .i64 (tc : Int), .int .u8 (pc.l : Int)] rfl rfl ?c1 ?c2 ?c3 ?c4 ?c5 ?_)
                    case c2 => first | exact ⟨rfl, rfl, rfl⟩ | (intro u hu; simp only [List.mem_cons, List.not_mem_nil, or_false] at hu; rcases hu with rfl | rfl | rfl <;> rfl)
                    case c3 => unfold maxLen; omega
                    case c4 => omega
                    case c5 => first | (simp; omega) | omega
                    intro v' w4 hown' hgrow _
                    have hba : Below (w.heap.size + 2) wr (wr.alloc _) := (Below.refl _ wr).alloc hszk (.cells #[.int .i64 (fr : Int), .int .i64 (tc : Int), .int .u8 (pc.l : Int)] 61 (0, 0))
                    have hb4 : Below (w.heap.size + 2) wr w4 := hba.grown hgrow (by simp; omega) (unhide HGE)
                    have hx4 : isXb w4 bx pc.l pc.v (.slice wo m wc) := ((unhide HXK).below ((Below.refl wr.heap.size wr).alloc (Nat.le_refl _) _) (unhide HXK).lt).grown hgrow (unhide HNE)
                    have hown4 : w4.ownsRow (w.heap.size + 2) 61 3 v' (L ++ goTo S fr (upN N) (tc + 1)).length (mvals (L ++ goTo S fr (upN N) (tc + 1))) := by
                      rw [unhide HGS, ← List.append_assoc, ← unhide HY, mvals_snoc, List.length_append, ← unhide HPL]
                      exact hown'
                    have HOWN4 := hide hown4
                    have HP4 := hide ((unhide HPK).below hb4 (by omega))
                    have HR4 := hide ((unhide HRK).below hb4 (by omega))
                    have HX4 := hide hx4
                    have HB4 := hide ((unhide HBK).trans (hb4.mono (by omega)))
                    have hsz4 : w.heap.size + 2 ≤ w4.heap.size := Nat.le_trans hszk hb4.size
                    clear hown' hgrow hownk hown4 hb4 hba hx4 x0 x1 x2
                    go_wp2
                    go_roundw
                    case rel => exact ⟨tc + 1, by go_num, by omega, unhide HOWN4, unhide HP4, unhide HR4, unhide HX4, unhide HB4, hsz4⟩
                    case measure => simp only [intOf]; omega
            · have htli : ¬ (tc : Int) < (M : Int) := by omega
              rw [show tc = M by omega, ← unhide HSU2] at hown
              have HOWN := hide hown
              have HPB := hide hpb
              have HRU := hide hru
              have HBW := hide hbw
              clear hown hpb hru hbw hxb
              go_wp2
              go_roundw
              case rel => exact ⟨fr + 1, by go_num, by omega, unhide HOWN, unhide HPB, unhide HRU, unhide HBW, hszq⟩
              case measure => simp only [intOf]; omega
      · have hlti : ¬ (fr : Int) < (M : Int) := by omega
        rw [show fr = M by omega, ← unhide HP2] at hown
        have HOWN := hide hown
        have HBW := hide hbw
        clear hown hbw hpb hru
        go_wp2
        go_ret
        exact ⟨_, rfl, World.ownsRow.mono (unhide HOWN) (by omega), unhide HBW⟩
end Go.Proofs.YtihojhfpepbjhaaGreatDoor
