/-
  gamekeep.HouseOpen, walked.
-/
import Derived.Test.YtihojhfpepbjhaaGreatDoorHoW
import Derived.Test.YtihojhfpepbjhaaGreatDoorJ36
import Derived.Test.YtihojhfpepbjhaaGreatDoorHoI
namespace Go.Proofs.YtihojhfpepbjhaaGreatDoor
open Go.RowKit
attribute [local go_sem ↓] Go.wp_at_zero Go.wp_at_succ

theorem entOpen : ∀ args (u : World), (callFunc 13 args).run Tryz.prog u = .ok (.enter 13 args) u := enters_of Tryz.func13 (by kernel_rfl) rfl
theorem open_I {G : Gm} {ok : Po → Prop} (hG : G.Ok ok) : ∀ (f : Nat) {x : Ho} (r : List UInt8), HoI G ok x → HoI G ok (G.open_ f x r)
  | 0, x, r, h => by rw [Gm.open_]; exact h
  | f + 1, x, r, h => by
    rw [open_succ]
    split
    · split
      · exact h
      · rename_i y hy
        exact open_I hG f _ (line_I hG h hy)
    · exact h
set_option maxHeartbeats 8000000 in
set_option maxRecDepth 100000 in
theorem hopen_yes (G : Gm) (ok : Po → Prop) (hG : G.Ok ok) (hnl : ∀ p, ok p → ∀ m ∈ G.L p, (10 : UInt8) ∉ G.tx p m) (TX : Po → ByteArray) (s : Po) (hs : ok s) (ao : Option Addr) (cap : Nat) (ps : List Pc) (dr st : Bool) (lo re : Nat) (li time : Int) (mo : Option Addr) (mc : Nat) (ml : List Ms) (cut : Int) (w : World) (ht : 1 ≤ time ∧ time ≤ 1000000)
    (hml : isMl w mo mc ml) (hmb : ∀ m ∈ ml, m.at_ < 9223372036854775808) (hcut : -9223372036854775808 ≤ cut ∧ cut < 9223372036854775808) (mx : Int) (hm : w.cell? ⟨0, 0, none⟩ = some (.int .i64 mx)) (hE : isEr w)
    (hHo : ∀ u, Below w.heap.size w u → Calls Tryz.prog 15 #[] u fun e u' => e = .returned (.bool true) ∧ Below u.heap.size u u')
    (hNew : ∀ u, Below w.heap.size w u → Calls Tryz.prog 8 #[.agg #[.int .i64 s.W, .int .i64 s.H, .string s.C, .int .i64 s.T, .string s.A, .string s.B, .slice ao ps.length cap, .bool dr, .int .u8 (lo : Int), .int .i64 li, .int .u8 (re : Int), .bool st, .int .i64 G.pl], .int .i64 time] u fun e w' => ∃ b ao2 cp2 w00, e = .returned (.tuple #[.pointer (some ⟨b, 0, none⟩), .int .i64 0]) ∧ NewE G s.W s.H s.C s.T s.A s.B ps dr st lo re li time u w' b ao2 cp2 w00)
    (hHc : ∀ b ao2 cp2 w00, w00.heap.size = b → isPcs w00 ao2 cp2 ps → Below w.heap.size w w00 → Hc G ok TX b w00 (.int .i64 s.W) (.int .i64 s.H) (.string s.C) (.int .i64 s.T) (.string s.A) (.string s.B) (.slice ao2 ps.length cp2) (.bool dr) (.int .u8 (lo : Int)) (.int .i64 li) (.int .u8 (re : Int)) (.bool st)) :
    Calls Tryz.prog 6 #[.agg #[.int .i64 s.W, .int .i64 s.H, .string s.C, .int .i64 s.T, .string s.A, .string s.B, .slice ao ps.length cap, .bool dr, .int .u8 (lo : Int), .int .i64 li, .int .u8 (re : Int), .bool st, .int .i64 G.pl], .int .i64 time, .slice mo ml.length mc, .int .i64 cut] w fun e w' => e = .returned (.bool true) ∧ Below w.heap.size w w' := by
  obtain ⟨N, hN⟩ : ∃ N, N = ml.length := ⟨_, rfl⟩
  have hNm : N ≤ mc := by rw [hN]; exact hml.le
  have hNx := hml.mx
  unfold maxLen at hNx
  rw [← hN]
  have hOp : ∀ u, Below w.heap.size w u → ∀ t : ByteArray, t.size ≤ 4294967280 → Calls Tryz.prog 13 #[.agg #[.int .i64 s.W, .int .i64 s.H, .string s.C, .int .i64 s.T, .string s.A, .string s.B, .slice ao ps.length cap, .bool dr, .int .u8 (lo : Int), .int .i64 li, .int .u8 (re : Int), .bool st, .int .i64 G.pl], .int .i64 time, .string t] u fun e w' => ∃ b ao2 cp2 w00, e = .returned (.tuple #[.pointer (some ⟨b, 0, none⟩), .int .i64 (G.open_ (t.size + 1) (startX s time) t.data.toList).ply, .int .i64 0]) ∧ Hc G ok TX b w00 (.int .i64 s.W) (.int .i64 s.H) (.string s.C) (.int .i64 s.T) (.string s.A) (.string s.B) (.slice ao2 ps.length cp2) (.bool dr) (.int .u8 (lo : Int)) (.int .i64 li) (.int .u8 (re : Int)) (.bool st) ∧ OneH G s ps dr st lo re li u w' b ao2 cp2 w00 (G.open_ (t.size + 1) (startX s time) t.data.toList) := fun u hu t htz =>
    open_yes G ok hG TX s hs ao cap ps dr st lo re li time u ht t htz mx ((hu.cell (p := ⟨0, 0, none⟩) (World.block_lt_of_cell? w ⟨0, 0, none⟩ hm)).trans hm) (hE.below hu hE.lt)
      (fun v hv => hNew v (hu.trans (hv.mono hu.size)))
      (fun b ao2 cp2 w00 h1 h2 h3 => hHc b ao2 cp2 w00 h1 h2 (hu.trans (h3.mono hu.size)))
  have hPL := fun k => opened hG hnl hs ht ml hmb k
  obtain ⟨w1, hw1⟩ : ∃ w1, w1 = w.alloc (.cells #[.int .i64 s.W, .int .i64 s.H, .string s.C, .int .i64 s.T, .string s.A, .string s.B, .slice ao ps.length cap, .bool dr, .int .u8 (lo : Int), .int .i64 li, .int .u8 (re : Int), .bool st, .int .i64 G.pl] 27 (0, 0)) := ⟨_, rfl⟩
  have hb1 : Below w.heap.size w w1 := by rw [hw1]; exact (Below.refl _ _).alloc (Nat.le_refl _) _
  have hr1 : isRu w1 w.heap.size (.int .i64 s.W) (.int .i64 s.H) (.string s.C) (.int .i64 s.T) (.string s.A) (.string s.B) (.slice ao ps.length cap) (.bool dr) (.int .u8 (lo : Int)) (.int .i64 li) (.int .u8 (re : Int)) (.bool st) (.int .i64 G.pl) := by rw [hw1]; exact heap_alloc_new w _
  have HHO := hide (hHo w1 hb1)
  have HNW := hide hNew
  have HOP := hide hOp
  have HHC := hide hHc
  have HPL := hide hPL
  have HB1 := hide hb1
  have HR1 := hide hr1
  have HW1 := hide hw1
  have HML := hide hml
  have HMB := hide hmb
  have HNN := hide hN
  have HGG := hide hG
  have HCU := hide hcut
  have HS0 : Hid (HoI G ok (startX s time)) := hide (start_I hG hs ht)
  clear hHo hNew hOp hHc hPL hb1 hr1 hw1 hml hmb hN hG hs ht hm hE hnl hcut
  go_enter Tryz.func6, Tryz.ntmps6
  go_upto_region 1 with fail
  rw [← unhide HW1]
  clear HW1
  go_wp2_with fail
  refine (unhide HHO).mono ?_
  rintro e w2 ⟨rfl, hb2⟩
  have hr2 := isRu.below (unhide HR1) hb2 (isRu.lt (unhide HR1))
  have HB02 := hide ((unhide HB1).trans (hb2.mono (unhide HB1).size))
  have HR2 := hide hr2
  clear HR1 HB1 HHO hb2 hr2
  obtain ⟨r0, r1, r2, r3, r4, r5, r6, r7, r8, r9, r10, r11, r12⟩ := (unhide HR2).cells
  go_wp2_with fail
  refine (unhide HNW w2 (unhide HB02)).mono ?_
  rintro e w3 ⟨ba, aoa, cpa, wa, rfl, hne⟩
  have hO := OneH.new hne (unhide HB02)
  have HCA := hide (unhide HHC ba aoa cpa wa hne.sz hne.pcs ((unhide HB02).trans (hne.lw.mono (unhide HB02).size)))
  have hr3 := isRu.below (unhide HR2) hne.all (isRu.lt (unhide HR2))
  have HBR : Hid (w.heap.size < ba) := hide (Nat.lt_of_lt_of_le (isRu.lt (unhide HR2)) hne.b0)
  have HR3 := hide hr3
  have HB03 := hide hO.lw
  have HO := hide hO
  clear r0 r1 r2 r3 r4 r5 r6 r7 r8 r9 r10 r11 r12 hne hO hr3 HR2 HB02 HNW
  go_wp2_with fail
  go_loopw [35] (fun iv wr => ∃ i : Nat, iv = .int .i64 (i : Int) ∧ i ≤ N ∧ Hid (isRu wr w.heap.size (.int .i64 s.W) (.int .i64 s.H) (.string s.C) (.int .i64 s.T) (.string s.A) (.string s.B) (.slice ao ps.length cap) (.bool dr) (.int .u8 (lo : Int)) (.int .i64 li) (.int .u8 (re : Int)) (.bool st) (.int .i64 G.pl)) ∧ Hid (OneH G s ps dr st lo re li w wr ba aoa cpa wa (G.run (startX s time) (ml.take i)))) (fun iv _ => N - (intOf iv).toNat)
  case atStart => exact ⟨0, rfl, Nat.zero_le _, HR3, HO⟩
  case round =>
    clear HO HR3
    obtain ⟨i, rfl, hi, HR, HO⟩ := hrel
    by_cases hlt : i < N
    · have hlti : (i : Int) < (N : Int) := by omega
      have hi0 : (0 : Int) ≤ (i : Int) := by omega
      have hil : i < ml.length := by rw [← unhide HNN]; exact hlt
      obtain ⟨m, hm⟩ : ∃ m, ml[i]? = some m := ⟨ml[i], List.getElem?_eq_getElem hil⟩
      have hmm : m ∈ ml := List.mem_of_getElem? hm
      have hne0 : ml ≠ [] := fun e => by rw [e] at hil; simp at hil
      obtain ⟨g, off, rfl, hgl, hcs⟩ := (unhide HML).cells hne0
      obtain ⟨k0, k1, k2, k3⟩ := hcs i m hm
      obtain ⟨X, hX⟩ : ∃ X, X = G.run (startX s time) (ml.take i) := ⟨_, rfl⟩
      have hXI : HoI G ok X := by rw [hX]; exact HoI.run (unhide HGG) _ (unhide HS0) fun q hq => unhide HMB q (List.mem_of_mem_take hq)
      have hXn : G.run (startX s time) (ml.take (i + 1)) = (G.step X m).1 := by rw [List.take_succ_eq_append_getElem hil, run_snoc, ← hX, (List.getElem?_eq_some_iff.1 hm).2]
      rw [← hX] at HO
      have hO := unhide HO
      have HTK := hide (hTake_any G ok (unhide HGG) TX ba ba (.int .i64 s.W) (.int .i64 s.H) (.string s.C) (.int .i64 s.T) (.string s.A) (.string s.B) (.slice aoa ps.length cpa) (.bool dr) (.int .u8 (lo : Int)) (.int .i64 li) (.int .u8 (re : Int)) (.bool st) wa wr (unhide HCA) X m hXI (unhide HMB m hmm) hO.ho (Nat.le_refl _) hO.low)
      have j0 := (hO.lw.cell (p := ⟨g, off + i * 4, none⟩) hgl).trans k0
      have j1 := (hO.lw.cell (p := ⟨g, off + i * 4 + 1, none⟩) hgl).trans k1
      have j2 := (hO.lw.cell (p := ⟨g, off + i * 4 + 2, none⟩) hgl).trans k2
      have j3 := (hO.lw.cell (p := ⟨g, off + i * 4 + 3, none⟩) hgl).trans k3
      have HXN := hide hXn
      clear hm hmm hne0 hcs k0 k1 k2 k3 hX hXI hXn hO
      go_wp2_with fail
      refine (unhide HTK).mono ?_
      rintro e y1 ⟨rfl, hh1, hx1⟩
      have HO1 : Hid (OneH G s ps dr st lo re li w y1 ba aoa cpa wa (G.run (startX s time) (ml.take (i + 1)))) := hide (by rw [unhide HXN]; exact (unhide HO).step hx1 hh1)
      have HRN : Hid (isRu y1 w.heap.size (.int .i64 s.W) (.int .i64 s.H) (.string s.C) (.int .i64 s.T) (.string s.A) (.string s.B) (.slice ao ps.length cap) (.bool dr) (.int .u8 (lo : Int)) (.int .i64 li) (.int .u8 (re : Int)) (.bool st) (.int .i64 G.pl)) := hide (isRu.below (unhide HR) (hx1.fresh (B := w.heap.size + 1) (by have := unhide HBR; omega) (isRu.lt (unhide HR))) (by omega))
      clear j0 j1 j2 j3 hh1 hx1 HTK HO HXN HR
      go_wp2
      go_roundw
      case rel => exact ⟨i + 1, by go_num, by omega, HRN, HO1⟩
      case measure => simp only [intOf]; omega
    · obtain rfl : i = N := by omega
      have hlti : ¬ (i : Int) < (i : Int) := by omega
      obtain ⟨X, hX⟩ : ∃ X, X = G.run (startX s time) ml := ⟨_, rfl⟩
      have hXI : HoI G ok X := by rw [hX]; exact HoI.run (unhide HGG) _ (unhide HS0) fun q hq => unhide HMB q hq
      rw [show ml.take i = ml by rw [unhide HNN, List.take_length], ← hX] at HO
      have hPL := unhide HPL
      rw [← hX] at hPL
      have HPX := hide hPL
      have hpl := hXI.ply
      have hpl1 := (unhide HGG).pl
      have hsz : X.tx.size ≤ 100000 := by have := hXI.tx; omega
      have HSV := hide (hSave_any G ba (.int .i64 s.W) (.int .i64 s.H) (.string s.C) (.int .i64 s.T) (.string s.A) (.string s.B) (.slice aoa ps.length cpa) (.bool dr) (.int .u8 (lo : Int)) (.int .i64 li) (.int .u8 (re : Int)) (.bool st) wr X _ (unhide HO).ho (by omega) hsz)
      clear HPL hPL hX hXI
      go_wp2_with fail
      refine (unhide HSV).mono ?_
      rintro e w4 ⟨rfl, hb4⟩
      have HB4 := hide ((unhide HO).below hb4).lw
      have HR4 := hide (isRu.below (unhide HR) hb4 (isRu.lt (unhide HR)))
      clear hb4 HO HR HSV HCA
      obtain ⟨n, hn⟩ : ∃ n, n = X.tx.size := ⟨_, rfl⟩
      by_cases h0 : 0 < X.tx.size
      · have h0' : (0 : Int) < (X.tx.size : Int) := by omega
        have hkk : ∃ K : Nat, K ≤ X.tx.size ∧ wrap64 ((IntKind.u64.wrap cut).tmod ((X.tx.size : Int) + 1)) = (K : Int) := by
          have hu : 0 ≤ IntKind.u64.wrap cut := by
            unfold IntKind.wrap
            simp [IntKind.signed, IntKind.bits]
            omega
          have h1 := Int.tmod_nonneg ((X.tx.size : Int) + 1) hu
          have h2 := Int.tmod_lt_of_pos (IntKind.u64.wrap cut) (b := (X.tx.size : Int) + 1) (by omega)
          refine ⟨((IntKind.u64.wrap cut).tmod ((X.tx.size : Int) + 1)).toNat, by omega, ?_⟩
          have hw : wrap64 ((IntKind.u64.wrap cut).tmod ((X.tx.size : Int) + 1)) = (IntKind.u64.wrap cut).tmod ((X.tx.size : Int) + 1) := by unfold wrap64; omega
          rw [hw]
          omega
        obtain ⟨K, hKn, hKe⟩ := hkk
        go_upto_region 15 with fail
        rw [hKe]
        clear hKe
        clear h0 h0'
        have hK0 : (0 : Int) ≤ (K : Int) := by omega
        have hKn' : (K : Int) ≤ (X.tx.size : Int) := by omega
        refine wp_region_v [5] (fun u => u.cell? ⟨w.heap.size, 0, none⟩ = some (.int .i64 s.W) ∧ u.cell? ⟨w.heap.size, 1, none⟩ = some (.int .i64 s.H) ∧ u.cell? ⟨w.heap.size, 2, none⟩ = some (.string s.C) ∧ u.cell? ⟨w.heap.size, 3, none⟩ = some (.int .i64 s.T) ∧ u.cell? ⟨w.heap.size, 4, none⟩ = some (.string s.A) ∧ u.cell? ⟨w.heap.size, 5, none⟩ = some (.string s.B) ∧ u.cell? ⟨w.heap.size, 6, none⟩ = some (.slice ao ps.length cap) ∧ u.cell? ⟨w.heap.size, 7, none⟩ = some (.bool dr) ∧ u.cell? ⟨w.heap.size, 8, none⟩ = some (.int .u8 (lo : Int)) ∧ u.cell? ⟨w.heap.size, 9, none⟩ = some (.int .i64 li) ∧ u.cell? ⟨w.heap.size, 10, none⟩ = some (.int .u8 (re : Int)) ∧ u.cell? ⟨w.heap.size, 11, none⟩ = some (.bool st) ∧ u.cell? ⟨w.heap.size, 12, none⟩ = some (.int .i64 G.pl)) (by kernel_rfl) ?_
        have hHeld : (fun u => u.cell? ⟨w.heap.size, 0, none⟩ = some (.int .i64 s.W) ∧ u.cell? ⟨w.heap.size, 1, none⟩ = some (.int .i64 s.H) ∧ u.cell? ⟨w.heap.size, 2, none⟩ = some (.string s.C) ∧ u.cell? ⟨w.heap.size, 3, none⟩ = some (.int .i64 s.T) ∧ u.cell? ⟨w.heap.size, 4, none⟩ = some (.string s.A) ∧ u.cell? ⟨w.heap.size, 5, none⟩ = some (.string s.B) ∧ u.cell? ⟨w.heap.size, 6, none⟩ = some (.slice ao ps.length cap) ∧ u.cell? ⟨w.heap.size, 7, none⟩ = some (.bool dr) ∧ u.cell? ⟨w.heap.size, 8, none⟩ = some (.int .u8 (lo : Int)) ∧ u.cell? ⟨w.heap.size, 9, none⟩ = some (.int .i64 li) ∧ u.cell? ⟨w.heap.size, 10, none⟩ = some (.int .u8 (re : Int)) ∧ u.cell? ⟨w.heap.size, 11, none⟩ = some (.bool st) ∧ u.cell? ⟨w.heap.size, 12, none⟩ = some (.int .i64 G.pl)) w4.drew := (unhide HR4).cells
        obtain ⟨wd, hwd⟩ : ∃ wd, wd = w4.drew := ⟨_, rfl⟩
        have hbd : Below w4.heap.size w4 wd := by rw [hwd]; exact (Below.refl _ _).drew
        rw [← hwd] at hHeld ⊢
        clear hwd
        refine wpAnyV_tk (i := 0) (oi := _) (v := ?_) rfl (by kernel_rfl) (by kernel_rfl) (by kernel_rfl) (by kernel_rfl) (fun _ _ _ h => h) (Or.inl ⟨by rfl, ?_⟩) (by assumption) ?_
        rotate_left 1
        · (intro u hSu; (try dsimp only at hSu); go_simp; first | done | with_reducible rfl | rfl)
        simp only [Act.put, List.getElem_toArray, List.getElem_cons_zero, List.setIfInBounds_toArray, List.set_cons_zero, List.set_cons_succ]
        refine wpAnyV_tk (i := 1) (oi := _) (v := ?_) rfl (by kernel_rfl) (by kernel_rfl) (by kernel_rfl) (by kernel_rfl) (fun _ _ _ h => h) (Or.inl ⟨by rfl, ?_⟩) (by assumption) ?_
        rotate_left 1
        · (intro u hSu; (try dsimp only at hSu); go_simp; first | done | with_reducible rfl | rfl)
        simp only [Act.put, List.getElem_toArray, List.getElem_cons_zero, List.getElem_cons_succ, List.setIfInBounds_toArray, List.set_cons_zero, List.set_cons_succ]
        refine wpAnyV_tk (i := 2) (oi := _) (v := ?_) rfl (by kernel_rfl) (by kernel_rfl) (by kernel_rfl) (by kernel_rfl) (fun _ _ _ h => h) (Or.inl ⟨by rfl, ?_⟩) (by assumption) ?_
        rotate_left 1
        · (intro u hSu; (try dsimp only at hSu); go_simp; first | done | with_reducible rfl | rfl)
        simp only [Act.put, List.getElem_toArray, List.getElem_cons_zero, List.getElem_cons_succ, List.setIfInBounds_toArray, List.set_cons_zero, List.set_cons_succ]
        refine wpAnyV_tk (i := 3) (oi := _) (v := ?_) rfl (by kernel_rfl) (by kernel_rfl) (by kernel_rfl) (by kernel_rfl) (fun _ _ _ h => h) (Or.inl ⟨by rfl, ?_⟩) (by assumption) ?_
        rotate_left 1
        · (intro u hSu; (try dsimp only at hSu); go_simp; first | done | with_reducible rfl | rfl)
        simp only [Act.put, List.getElem_toArray, List.getElem_cons_zero, List.getElem_cons_succ, List.setIfInBounds_toArray, List.set_cons_zero, List.set_cons_succ]
        refine wpAnyV_tk (i := 4) (oi := _) (v := ?_) rfl (by kernel_rfl) (by kernel_rfl) (by kernel_rfl) (by kernel_rfl) (fun _ _ _ h => h) (Or.inl ⟨by rfl, ?_⟩) (by assumption) ?_
        rotate_left 1
        · (intro u hSu; (try dsimp only at hSu); go_simp; first | done | with_reducible rfl | rfl)
        simp only [Act.put, List.getElem_toArray, List.getElem_cons_zero, List.getElem_cons_succ, List.setIfInBounds_toArray, List.set_cons_zero, List.set_cons_succ]
        clear hHeld
        obtain ⟨T, hT⟩ : ∃ T, T = X.tx.extract 0 K := ⟨_, rfl⟩
        rw [← hT]
        obtain ⟨L, r, y, hln, hr, htk, ho1, ho2, hty, hpy⟩ := unhide HPX K
        have hTl : T.data.toList = X.tx.data.toList.take K := by rw [hT]; simp [ByteArray.data_extract]
        have hXl : X.tx.data.toList.length = X.tx.size := Array.length_toList
        have hTs : T.size = K := by
          have h1 : T.data.toList.length = T.size := Array.length_toList
          rw [← h1, hTl, List.length_take, hXl]
          omega
        have hLf := flatL_len L
        have hfl : (flatL L).length + r.length = K := by
          have := congrArg List.length htk
          rw [List.length_append, List.length_take, hXl] at this
          omega
        have hB : G.open_ (T.size + 1) (startX s time) T.data.toList = y := by
          rw [hTl, htk]
          exact ho1 _ (by omega)
        have HYI : Hid (HoI G ok y) := hide (by rw [← hB]; exact open_I (unhide HGG) _ _ (unhide HS0))
        have hOB := unhide HOP wd ((unhide HB4).trans (hbd.mono (unhide HB4).size)) T (by omega)
        rw [hB] at hOB
        refine wpAnyV_ready (rs := [5]) (by kernel_rfl) (by simp) ?_
        refine ReadyV.cons (o := _) rfl (fun KK hK => ?_) ReadyV.nil
        refine step_callH (by rfl) 13 _ _ rfl #[.agg #[.int .i64 s.W, .int .i64 s.H, .string s.C, .int .i64 s.T, .string s.A, .string s.B, .slice ao ps.length cap, .bool dr, .int .u8 (lo : Int), .int .i64 li, .int .u8 (re : Int), .bool st, .int .i64 G.pl], .int .i64 time, .string T] (by simp [Act.eval]) entOpen hOB ?_
        rintro e w5 ⟨bb, aob, cpb, wb, rfl, hcb, hob⟩
        refine ⟨_, rfl, ?_⟩
        refine hK.out _ _ (fun h => absurd h (by decide)) ?_
        have hwl : wlF 0 ((X.tx.data.toList.take K).drop 0) (0, 0) = ((flatL L).length, L.length) := by
          rw [List.drop_zero, htk, wlF_flat L r 0 (0, 0) hln hr]
          split
          · rename_i e
            subst e
            rfl
          · simp
        have hRd := isRu.below (unhide HR4) hbd (isRu.lt (unhide HR4))
        have HR5 := hide (isRu.below hRd hob.lw (isRu.lt hRd))
        have HB5 := hide (((unhide HB4).trans (hbd.mono (unhide HB4).size)).trans (hob.lw.mono (Nat.le_trans (unhide HB4).size hbd.size)))
        have HCB := hide hcb
        have hbbw : w.heap.size ≤ bb := Nat.le_trans (Nat.le_trans (unhide HB4).size hbd.size) hob.b0
        have HOB := hide hob
        have HWL := hide hwl
        have HO2 := hide ho2
        have HTK := hide htk
        have hwp : w4.heap.size ≤ wd.heap.size := hbd.size
        clear hK KK hOB hB hTl hwl ho1 ho2 hcb hob hbd hRd HR4 HB4 hT htk
        try simp only [Act.put, List.getElem_toArray, List.getElem_cons_zero, List.getElem_cons_succ, List.setIfInBounds_toArray, List.set_cons_zero, List.set_cons_succ]
        refine wpAnyV_pure (i := 6) (oi := _) (v := ?_) rfl (by kernel_rfl) (by kernel_rfl) (by kernel_rfl) (by kernel_rfl) (fun _ _ _ h => h) (Or.inl ⟨by rfl, ?_⟩) (by first | exact fun _ => hHeld | (intro h; exact absurd h (by decide))) ?_
        rotate_left 1
        · (intro u _; go_simp; first | done | with_reducible rfl | rfl)
        simp only [Act.put, List.getElem_toArray, List.getElem_cons_zero, List.getElem_cons_succ, List.setIfInBounds_toArray, List.set_cons_zero, List.set_cons_succ]
        refine wpAnyV_pure (i := 7) (oi := _) (v := ?_) rfl (by kernel_rfl) (by kernel_rfl) (by kernel_rfl) (by kernel_rfl) (fun _ _ _ h => h) (Or.inl ⟨by rfl, ?_⟩) (by first | exact fun _ => hHeld | (intro h; exact absurd h (by decide))) ?_
        rotate_left 1
        · (intro u _; go_simp; first | done | with_reducible rfl | rfl)
        simp only [Act.put, List.getElem_toArray, List.getElem_cons_zero, List.getElem_cons_succ, List.setIfInBounds_toArray, List.set_cons_zero, List.set_cons_succ]
        refine wpAnyV_pure (i := 8) (oi := _) (v := ?_) rfl (by kernel_rfl) (by kernel_rfl) (by kernel_rfl) (by kernel_rfl) (fun _ _ _ h => h) (Or.inl ⟨by rfl, ?_⟩) (by first | exact fun _ => hHeld | (intro h; exact absurd h (by decide))) ?_
        rotate_left 1
        · (intro u _; go_simp; first | done | with_reducible rfl | rfl)
        simp only [Act.put, List.getElem_toArray, List.getElem_cons_zero, List.getElem_cons_succ, List.setIfInBounds_toArray, List.set_cons_zero, List.set_cons_succ]
        refine wpAnyV_pure (i := 9) (oi := _) (v := ?_) rfl (by kernel_rfl) (by kernel_rfl) (by kernel_rfl) (by kernel_rfl) (fun _ _ _ h => h) (Or.inl ⟨by rfl, ?_⟩) (by first | exact fun _ => hHeld | (intro h; exact absurd h (by decide))) ?_
        rotate_left 1
        · (intro u _; go_simp; first | done | with_reducible rfl | rfl)
        simp only [Act.put, List.getElem_toArray, List.getElem_cons_zero, List.getElem_cons_succ, List.setIfInBounds_toArray, List.set_cons_zero, List.set_cons_succ]
        refine wpAnyV_pure (i := 10) (oi := _) (v := ?_) rfl (by kernel_rfl) (by kernel_rfl) (by kernel_rfl) (by kernel_rfl) (fun _ _ _ h => h) (Or.inl ⟨by rfl, ?_⟩) (by first | exact fun _ => hHeld | (intro h; exact absurd h (by decide))) ?_
        rotate_left 1
        · (intro u _; go_simp; first | done | with_reducible rfl | rfl)
        simp only [Act.put, List.getElem_toArray, List.getElem_cons_zero, List.getElem_cons_succ, List.setIfInBounds_toArray, List.set_cons_zero, List.set_cons_succ]
        refine wpAnyV_pure (i := 11) (oi := _) (v := ?_) rfl (by kernel_rfl) (by kernel_rfl) (by kernel_rfl) (by kernel_rfl) (fun _ _ _ h => h) (Or.inl ⟨by rfl, ?_⟩) (by first | exact fun _ => hHeld | (intro h; exact absurd h (by decide))) ?_
        rotate_left 1
        · (intro u _; go_simp; first | done | with_reducible rfl | rfl)
        simp only [Act.put, List.getElem_toArray, List.getElem_cons_zero, List.getElem_cons_succ, List.setIfInBounds_toArray, List.set_cons_zero, List.set_cons_succ]
        refine wpAnyV_pure (i := 12) (oi := _) (v := ?_) rfl (by kernel_rfl) (by kernel_rfl) (by kernel_rfl) (by kernel_rfl) (fun _ _ _ h => h) (Or.inl ⟨by rfl, ?_⟩) (by first | exact fun _ => hHeld | (intro h; exact absurd h (by decide))) ?_
        rotate_left 1
        · (intro u _; go_simp; first | done | with_reducible rfl | rfl)
        simp only [Act.put, List.getElem_toArray, List.getElem_cons_zero, List.getElem_cons_succ, List.setIfInBounds_toArray, List.set_cons_zero, List.set_cons_succ]
        refine wpAnyV_done (by kernel_rfl) ?_ _
        go_wp2_with fail
        go_loopw [16, 17, 72] (fun av cv jv wr => ∃ a c j : Nat, av = .int .i64 (a : Int) ∧ cv = .int .i64 (c : Int) ∧ jv = .int .i64 (j : Int) ∧ j ≤ K ∧ a ≤ j ∧ c ≤ j ∧ Hid (wr = w5) ∧ Hid (wlF j ((X.tx.data.toList.take K).drop j) (a, c) = ((flatL L).length, L.length))) (fun _ _ jv _ => K - (intOf jv).toNat)
        case atStart => exact ⟨0, 0, 0, rfl, rfl, rfl, Nat.zero_le _, Nat.le_refl _, Nat.le_refl _, hide rfl, HWL⟩
        case round =>
          clear HWL
          obtain ⟨a, c, j, rfl, rfl, rfl, hj, ha, hc, HWR, HWL⟩ := hrel
          have hwr := unhide HWR
          subst hwr
          by_cases hjK : j < K
          · have hjK' : (j : Int) < (K : Int) := by omega
            have hj0 : (0 : Int) ≤ (j : Int) := by omega
            have hjs : j < X.tx.size := by omega
            have hjs' : (j : Int) < (X.tx.size : Int) := by omega
            have hst := unhide HWL
            have hll : j < (X.tx.data.toList.take K).length := by rw [List.length_take, hXl]; omega
            rw [List.drop_eq_getElem_cons hll, List.getElem_take] at hst
            have hgx : X.tx.data.toList[j]'(by rw [hXl]; exact hjs) = X.tx[j] := rfl
            rw [hgx, wlF] at hst
            have HST := hide hst
            clear hst hgx hll HWL
            go_wp2
            · rename_i hb
              have h10 : X.tx[j] = 10 := by
                have := eq_of_beq hb
                apply UInt8.toNat_inj.1
                show _ = 10
                omega
              go_roundw
              case rel => exact ⟨j + 1, c + 1, j + 1, by go_num, by go_num, by go_num, by omega, by omega, by omega, hide trivial, hide (by have := unhide HST; rw [if_pos h10] at this; exact this)⟩
              case measure => simp only [intOf]; omega
            · rename_i hb
              have h10 : ¬ X.tx[j] = 10 := fun e => by
                rw [e] at hb
                revert hb
                decide
              go_roundw
              case rel => exact ⟨a, c, j + 1, by go_num, by go_num, by go_num, by omega, by omega, by omega, hide trivial, hide (by have := unhide HST; rw [if_neg h10] at this; exact this)⟩
              case measure => simp only [intOf]; omega
          · have hjK' : ¬ (j : Int) < (K : Int) := by omega
            have hst := unhide HWL
            rw [List.drop_of_length_le (by rw [List.length_take]; omega), wlF] at hst
            injection hst with hst1 hst2
            subst hst1 hst2
            have hys : y.tx.size = (flatL L).length := by
              have h1 : y.tx.data.toList.length = y.tx.size := Array.length_toList
              rw [← h1, hty]
            have haN : (flatL L).length ≤ X.tx.size := by omega
            have hYT : X.tx.extract 0 (flatL L).length = y.tx := by
              apply ByteArray.ext
              apply Array.ext'
              rw [hty]
              have h2 : (X.tx.extract 0 (flatL L).length).data.toList = X.tx.data.toList.take (flatL L).length := by simp [ByteArray.data_extract]
              rw [h2]
              have h3 := congrArg (List.take (flatL L).length) (unhide HTK)
              rw [List.take_take, Nat.min_eq_left (by omega), List.take_left' rfl] at h3
              exact h3
            have HYT := hide hYT
            have hC2 := unhide HO2 (y.tx.size + 1) (by omega)
            rw [← hty] at hC2
            have HC2 := hide hC2
            have hys5 : y.tx.size ≤ 100000 := by omega
            have hSB : ∀ u, isHo u bb (.int .i64 s.W) (.int .i64 s.H) (.string s.C) (.int .i64 s.T) (.string s.A) (.string s.B) (.slice aob ps.length cpb) (.bool dr) (.int .u8 (lo : Int)) (.int .i64 li) (.int .u8 (re : Int)) (.bool st) (.int .i64 G.pl) y (G.ended y) → Calls Tryz.prog 10 #[.pointer (some ⟨bb, 0, none⟩)] u fun e w' => e = .returned (.string y.tx) ∧ Below u.heap.size u w' := fun u hu => hSave_any G bb (.int .i64 s.W) (.int .i64 s.H) (.string s.C) (.int .i64 s.T) (.string s.A) (.string s.B) (.slice aob ps.length cpb) (.bool dr) (.int .u8 (lo : Int)) (.int .i64 li) (.int .u8 (re : Int)) (.bool st) u y _ hu (by omega) hys5
            have HSB := hide hSB
            clear hYT hC2 hSB hty hjK HWL HO2 HTK hln hr
            have hq1 : (y.tx.toList == y.tx.toList) = true := by simp
            go_upto_region 25 with fail
            obtain ⟨x1, hx1⟩ : ∃ x1, x1 = wr.drew := ⟨_, rfl⟩
            have hbx1 : Below wr.heap.size wr x1 := by rw [hx1]; exact (Below.refl _ _).drew
            refine wp_region_v [5] (fun _ => True) (by kernel_rfl) ?_
            have hHeld : (fun _ : World => True) wr.drew := trivial
            rw [← hx1] at hHeld ⊢
            clear hx1
            refine wpAnyV_pure (i := 0) (oi := _) (v := ?_) rfl (by kernel_rfl) (by kernel_rfl) (by kernel_rfl) (by kernel_rfl) (fun _ _ _ h => h) (Or.inl ⟨by rfl, ?_⟩) (by first | exact fun _ => hHeld | (intro h; exact absurd h (by decide))) ?_
            rotate_left 1
            · (intro u _; go_simp; first | done | with_reducible rfl | rfl)
            simp only [Act.put, List.getElem_toArray, List.getElem_cons_zero, List.setIfInBounds_toArray, List.set_cons_zero, List.set_cons_succ]
            refine wpAnyV_pure (i := 1) (oi := _) (v := ?_) rfl (by kernel_rfl) (by kernel_rfl) (by kernel_rfl) (by kernel_rfl) (fun _ _ _ h => h) (Or.inl ⟨by rfl, ?_⟩) (by first | exact fun _ => hHeld | (intro h; exact absurd h (by decide))) ?_
            rotate_left 1
            · (intro u _; go_simp; first | done | with_reducible rfl | rfl)
            simp only [Act.put, List.getElem_toArray, List.getElem_cons_zero, List.getElem_cons_succ, List.setIfInBounds_toArray, List.set_cons_zero, List.set_cons_succ]
            refine wpAnyV_pure (i := 2) (oi := _) (v := ?_) rfl (by kernel_rfl) (by kernel_rfl) (by kernel_rfl) (by kernel_rfl) (fun _ _ _ h => h) (Or.inl ⟨by rfl, ?_⟩) (by first | exact fun _ => hHeld | (intro h; exact absurd h (by decide))) ?_
            rotate_left 1
            · (intro u _; go_simp; first | done | with_reducible rfl | rfl)
            simp only [Act.put, List.getElem_toArray, List.getElem_cons_zero, List.getElem_cons_succ, List.setIfInBounds_toArray, List.set_cons_zero, List.set_cons_succ]
            refine wpAnyV_pure (i := 3) (oi := _) (v := ?_) rfl (by kernel_rfl) (by kernel_rfl) (by kernel_rfl) (by kernel_rfl) (fun _ _ _ h => h) (Or.inl ⟨by rfl, ?_⟩) (by first | exact fun _ => hHeld | (intro h; exact absurd h (by decide))) ?_
            rotate_left 1
            · (intro u _; go_simp; first | done | with_reducible rfl | rfl)
            simp only [Act.put, List.getElem_toArray, List.getElem_cons_zero, List.getElem_cons_succ, List.setIfInBounds_toArray, List.set_cons_zero, List.set_cons_succ]
            refine wpAnyV_pure (i := 4) (oi := _) (v := ?_) rfl (by kernel_rfl) (by kernel_rfl) (by kernel_rfl) (by kernel_rfl) (fun _ _ _ h => h) (Or.inl ⟨by rfl, ?_⟩) (by first | exact fun _ => hHeld | (intro h; exact absurd h (by decide))) ?_
            rotate_left 1
            · (intro u _; go_simp; first | done | with_reducible rfl | rfl)
            simp only [Act.put, List.getElem_toArray, List.getElem_cons_zero, List.getElem_cons_succ, List.setIfInBounds_toArray, List.set_cons_zero, List.set_cons_succ]
            refine wpAnyV_pure (i := 6) (oi := _) (v := ?_) rfl (by kernel_rfl) (by kernel_rfl) (by kernel_rfl) (by kernel_rfl) (fun _ _ _ h => h) (Or.inl ⟨by rfl, ?_⟩) (by first | exact fun _ => hHeld | (intro h; exact absurd h (by decide))) ?_
            rotate_left 1
            · (intro u _; go_simp; first | done | with_reducible rfl | rfl)
            simp only [Act.put, List.getElem_toArray, List.getElem_cons_zero, List.getElem_cons_succ, List.setIfInBounds_toArray, List.set_cons_zero, List.set_cons_succ]
            refine wpAnyV_pure (i := 7) (oi := _) (v := ?_) rfl (by kernel_rfl) (by kernel_rfl) (by kernel_rfl) (by kernel_rfl) (fun _ _ _ h => h) (Or.inl ⟨by rfl, ?_⟩) (by first | exact fun _ => hHeld | (intro h; exact absurd h (by decide))) ?_
            rotate_left 1
            · (intro u _; go_simp; first | done | with_reducible rfl | rfl)
            simp only [Act.put, List.getElem_toArray, List.getElem_cons_zero, List.getElem_cons_succ, List.setIfInBounds_toArray, List.set_cons_zero, List.set_cons_succ]
            refine wpAnyV_pure (i := 8) (oi := _) (v := ?_) rfl (by kernel_rfl) (by kernel_rfl) (by kernel_rfl) (by kernel_rfl) (fun _ _ _ h => h) (Or.inl ⟨by rfl, ?_⟩) (by first | exact fun _ => hHeld | (intro h; exact absurd h (by decide))) ?_
            rotate_left 1
            · (intro u _; go_simp; first | done | with_reducible rfl | rfl)
            simp only [Act.put, List.getElem_toArray, List.getElem_cons_zero, List.getElem_cons_succ, List.setIfInBounds_toArray, List.set_cons_zero, List.set_cons_succ]
            clear hHeld
            rw [unhide HYT]
            have hO1 := (unhide HOB).below hbx1
            refine wpAnyV_ready (rs := [5]) (by kernel_rfl) (by simp) ?_
            refine ReadyV.cons (o := _) rfl (fun KK hK => ?_) ReadyV.nil
            refine step_callH (by rfl) 10 _ _ rfl #[.pointer (some ⟨bb, 0, none⟩)] (by simp [Act.eval]) entSave (unhide HSB x1 hO1.ho) ?_
            rintro e x2 ⟨rfl, hbx2⟩
            refine ⟨_, rfl, ?_⟩
            refine hK.out _ _ (fun h => absurd h (by decide)) ?_
            have hbx02 := hbx1.trans (hbx2.mono hbx1.size)
            have HO2b := hide (hO1.below hbx2)
            have HR6 := hide (isRu.below (unhide HR5) hbx02 (isRu.lt (unhide HR5)))
            have HB6 := hide ((unhide HB5).trans (hbx02.mono (unhide HB5).size))
            clear hK KK hO1 hbx1 hbx2 hbx02 HR5 HB5 HOB
            try simp only [Act.put, List.getElem_toArray, List.getElem_cons_zero, List.getElem_cons_succ, List.setIfInBounds_toArray, List.set_cons_zero, List.set_cons_succ]
            refine wpAnyV_pure (i := 9) (oi := _) (v := ?_) rfl (by kernel_rfl) (by kernel_rfl) (by kernel_rfl) (by kernel_rfl) (fun _ _ _ h => h) (Or.inl ⟨by rfl, ?_⟩) (by first | exact fun _ => hHeld | (intro h; exact absurd h (by decide))) ?_
            rotate_left 1
            · (intro u _; go_simp; first | done | with_reducible rfl | rfl)
            simp only [Act.put, List.getElem_toArray, List.getElem_cons_zero, List.getElem_cons_succ, List.setIfInBounds_toArray, List.set_cons_zero, List.set_cons_succ]
            refine wpAnyV_pure (i := 10) (oi := _) (v := ?_) rfl (by kernel_rfl) (by kernel_rfl) (by kernel_rfl) (by kernel_rfl) (fun _ _ _ h => h) (Or.inl ⟨by rfl, ?_⟩) (by first | exact fun _ => hHeld | (intro h; exact absurd h (by decide))) ?_
            rotate_left 1
            · (intro u _; go_simp; first | done | with_reducible rfl | rfl)
            simp only [Act.put, List.getElem_toArray, List.getElem_cons_zero, List.getElem_cons_succ, List.setIfInBounds_toArray, List.set_cons_zero, List.set_cons_succ]
            refine wpAnyV_done (by kernel_rfl) ?_ _
            go_upto_region 27 with fail
            obtain ⟨x3, hx3⟩ : ∃ x3, x3 = x2.drew := ⟨_, rfl⟩
            have hbx3 : Below x2.heap.size x2 x3 := by rw [hx3]; exact (Below.refl _ _).drew
            refine wp_region_v [4] (fun u => u.cell? ⟨w.heap.size, 0, none⟩ = some (.int .i64 s.W) ∧ u.cell? ⟨w.heap.size, 1, none⟩ = some (.int .i64 s.H) ∧ u.cell? ⟨w.heap.size, 2, none⟩ = some (.string s.C) ∧ u.cell? ⟨w.heap.size, 3, none⟩ = some (.int .i64 s.T) ∧ u.cell? ⟨w.heap.size, 4, none⟩ = some (.string s.A) ∧ u.cell? ⟨w.heap.size, 5, none⟩ = some (.string s.B) ∧ u.cell? ⟨w.heap.size, 6, none⟩ = some (.slice ao ps.length cap) ∧ u.cell? ⟨w.heap.size, 7, none⟩ = some (.bool dr) ∧ u.cell? ⟨w.heap.size, 8, none⟩ = some (.int .u8 (lo : Int)) ∧ u.cell? ⟨w.heap.size, 9, none⟩ = some (.int .i64 li) ∧ u.cell? ⟨w.heap.size, 10, none⟩ = some (.int .u8 (re : Int)) ∧ u.cell? ⟨w.heap.size, 11, none⟩ = some (.bool st) ∧ u.cell? ⟨w.heap.size, 12, none⟩ = some (.int .i64 G.pl)) (by kernel_rfl) ?_
            have hHeld : (fun u => u.cell? ⟨w.heap.size, 0, none⟩ = some (.int .i64 s.W) ∧ u.cell? ⟨w.heap.size, 1, none⟩ = some (.int .i64 s.H) ∧ u.cell? ⟨w.heap.size, 2, none⟩ = some (.string s.C) ∧ u.cell? ⟨w.heap.size, 3, none⟩ = some (.int .i64 s.T) ∧ u.cell? ⟨w.heap.size, 4, none⟩ = some (.string s.A) ∧ u.cell? ⟨w.heap.size, 5, none⟩ = some (.string s.B) ∧ u.cell? ⟨w.heap.size, 6, none⟩ = some (.slice ao ps.length cap) ∧ u.cell? ⟨w.heap.size, 7, none⟩ = some (.bool dr) ∧ u.cell? ⟨w.heap.size, 8, none⟩ = some (.int .u8 (lo : Int)) ∧ u.cell? ⟨w.heap.size, 9, none⟩ = some (.int .i64 li) ∧ u.cell? ⟨w.heap.size, 10, none⟩ = some (.int .u8 (re : Int)) ∧ u.cell? ⟨w.heap.size, 11, none⟩ = some (.bool st) ∧ u.cell? ⟨w.heap.size, 12, none⟩ = some (.int .i64 G.pl)) x2.drew := (unhide HR6).cells
            rw [← hx3] at hHeld ⊢
            clear hx3
            have hO3 := (unhide HO2b).below hbx3
            have hR7 := isRu.below (unhide HR6) hbx3 (isRu.lt (unhide HR6))
            refine wpAnyV_tk (i := 0) (oi := _) (v := ?_) rfl (by kernel_rfl) (by kernel_rfl) (by kernel_rfl) (by kernel_rfl) (fun _ _ _ h => h) (Or.inl ⟨by rfl, ?_⟩) (by assumption) ?_
            rotate_left 1
            · (intro u hSu; (try dsimp only at hSu); go_simp; first | done | with_reducible rfl | rfl)
            simp only [Act.put, List.getElem_toArray, List.getElem_cons_zero, List.setIfInBounds_toArray, List.set_cons_zero, List.set_cons_succ]
            refine wpAnyV_tk (i := 1) (oi := _) (v := ?_) rfl (by kernel_rfl) (by kernel_rfl) (by kernel_rfl) (by kernel_rfl) (fun _ _ _ h => h) (Or.inl ⟨by rfl, ?_⟩) (by assumption) ?_
            rotate_left 1
            · (intro u hSu; (try dsimp only at hSu); go_simp; first | done | with_reducible rfl | rfl)
            simp only [Act.put, List.getElem_toArray, List.getElem_cons_zero, List.getElem_cons_succ, List.setIfInBounds_toArray, List.set_cons_zero, List.set_cons_succ]
            refine wpAnyV_tk (i := 2) (oi := _) (v := ?_) rfl (by kernel_rfl) (by kernel_rfl) (by kernel_rfl) (by kernel_rfl) (fun _ _ _ h => h) (Or.inl ⟨by rfl, ?_⟩) (by assumption) ?_
            rotate_left 1
            · (intro u hSu; (try dsimp only at hSu); go_simp; first | done | with_reducible rfl | rfl)
            simp only [Act.put, List.getElem_toArray, List.getElem_cons_zero, List.getElem_cons_succ, List.setIfInBounds_toArray, List.set_cons_zero, List.set_cons_succ]
            clear hHeld
            refine wpAnyV_ready (rs := [3]) (by kernel_rfl) (by simp) ?_
            refine ReadyV.cons (o := _) rfl (fun KK hK => ?_) ReadyV.nil
            refine step_callH (by rfl) 10 _ _ rfl #[.pointer (some ⟨bb, 0, none⟩)] (by simp [Act.eval]) entSave (unhide HSB x3 hO3.ho) ?_
            rintro e x4 ⟨rfl, hbx4⟩
            refine ⟨_, rfl, ?_⟩
            have hR8 := isRu.below hR7 hbx4 (isRu.lt hR7)
            have hHeld : (fun u => u.cell? ⟨w.heap.size, 0, none⟩ = some (.int .i64 s.W) ∧ u.cell? ⟨w.heap.size, 1, none⟩ = some (.int .i64 s.H) ∧ u.cell? ⟨w.heap.size, 2, none⟩ = some (.string s.C) ∧ u.cell? ⟨w.heap.size, 3, none⟩ = some (.int .i64 s.T) ∧ u.cell? ⟨w.heap.size, 4, none⟩ = some (.string s.A) ∧ u.cell? ⟨w.heap.size, 5, none⟩ = some (.string s.B) ∧ u.cell? ⟨w.heap.size, 6, none⟩ = some (.slice ao ps.length cap) ∧ u.cell? ⟨w.heap.size, 7, none⟩ = some (.bool dr) ∧ u.cell? ⟨w.heap.size, 8, none⟩ = some (.int .u8 (lo : Int)) ∧ u.cell? ⟨w.heap.size, 9, none⟩ = some (.int .i64 li) ∧ u.cell? ⟨w.heap.size, 10, none⟩ = some (.int .u8 (re : Int)) ∧ u.cell? ⟨w.heap.size, 11, none⟩ = some (.bool st) ∧ u.cell? ⟨w.heap.size, 12, none⟩ = some (.int .i64 G.pl)) x4 := hR8.cells
            refine hK.out _ _ (fun _ => hHeld) ?_
            clear hK KK hHeld
            try simp only [Act.put, List.getElem_toArray, List.getElem_cons_zero, List.getElem_cons_succ, List.setIfInBounds_toArray, List.set_cons_zero, List.set_cons_succ]
            have hb24 := hbx3.trans (hbx4.mono hbx3.size)
            have hB8 := (unhide HB6).trans (hb24.mono (unhide HB6).size)
            have hO4 := hO3.below hbx4
            have hOC := unhide HOP x4 hB8 y.tx (by omega)
            rw [unhide HC2] at hOC
            refine wpAnyV_ready (rs := [4]) (by kernel_rfl) (by simp) ?_
            refine ReadyV.cons (o := _) rfl (fun KK hK => ?_) ReadyV.nil
            refine step_callH (by rfl) 13 _ _ rfl #[.agg #[.int .i64 s.W, .int .i64 s.H, .string s.C, .int .i64 s.T, .string s.A, .string s.B, .slice ao ps.length cap, .bool dr, .int .u8 (lo : Int), .int .i64 li, .int .u8 (re : Int), .bool st, .int .i64 G.pl], .int .i64 time, .string y.tx] (by simp [Act.eval]) entOpen hOC ?_
            rintro e x5 ⟨bc, aoc, cpc, wc, rfl, hcc, hoc⟩
            refine ⟨_, rfl, ?_⟩
            refine hK.out _ _ (fun h => absurd h (by decide)) ?_
            have hbc : bb < bc := Nat.lt_of_lt_of_le (isH.lt hO4.ho) hoc.b0
            have hbcw : w.heap.size ≤ bc := Nat.le_trans hB8.size hoc.b0
            have HB9 := hide (hB8.trans (hoc.lw.mono hB8.size))
            have HOB9 := hide (hO4.below hoc.lw)
            have HOC := hide hoc
            have HCC := hide hcc
            clear hK KK hO3 hR7 hR8 hb24 hB8 hO4 hOC hbx3 hbx4 hcc hoc HO2b HR6 HB6 HC2
            try simp only [Act.put, List.getElem_toArray, List.getElem_cons_zero, List.getElem_cons_succ, List.setIfInBounds_toArray, List.set_cons_zero, List.set_cons_succ]
            refine wpAnyV_pure (i := 5) (oi := _) (v := ?_) rfl (by kernel_rfl) (by kernel_rfl) (by kernel_rfl) (by kernel_rfl) (fun _ _ _ h => h) (Or.inl ⟨by rfl, ?_⟩) (by first | exact fun _ => hHeld | (intro h; exact absurd h (by decide))) ?_
            rotate_left 1
            · (intro u _; go_simp; first | done | with_reducible rfl | rfl)
            simp only [Act.put, List.getElem_toArray, List.getElem_cons_zero, List.getElem_cons_succ, List.setIfInBounds_toArray, List.set_cons_zero, List.set_cons_succ]
            refine wpAnyV_pure (i := 6) (oi := _) (v := ?_) rfl (by kernel_rfl) (by kernel_rfl) (by kernel_rfl) (by kernel_rfl) (fun _ _ _ h => h) (Or.inl ⟨by rfl, ?_⟩) (by first | exact fun _ => hHeld | (intro h; exact absurd h (by decide))) ?_
            rotate_left 1
            · (intro u _; go_simp; first | done | with_reducible rfl | rfl)
            simp only [Act.put, List.getElem_toArray, List.getElem_cons_zero, List.getElem_cons_succ, List.setIfInBounds_toArray, List.set_cons_zero, List.set_cons_succ]
            refine wpAnyV_pure (i := 7) (oi := _) (v := ?_) rfl (by kernel_rfl) (by kernel_rfl) (by kernel_rfl) (by kernel_rfl) (fun _ _ _ h => h) (Or.inl ⟨by rfl, ?_⟩) (by first | exact fun _ => hHeld | (intro h; exact absurd h (by decide))) ?_
            rotate_left 1
            · (intro u _; go_simp; first | done | with_reducible rfl | rfl)
            simp only [Act.put, List.getElem_toArray, List.getElem_cons_zero, List.getElem_cons_succ, List.setIfInBounds_toArray, List.set_cons_zero, List.set_cons_succ]
            refine wpAnyV_pure (i := 8) (oi := _) (v := ?_) rfl (by kernel_rfl) (by kernel_rfl) (by kernel_rfl) (by kernel_rfl) (fun _ _ _ h => h) (Or.inl ⟨by rfl, ?_⟩) (by first | exact fun _ => hHeld | (intro h; exact absurd h (by decide))) ?_
            rotate_left 1
            · (intro u _; go_simp; first | done | with_reducible rfl | rfl)
            simp only [Act.put, List.getElem_toArray, List.getElem_cons_zero, List.getElem_cons_succ, List.setIfInBounds_toArray, List.set_cons_zero, List.set_cons_succ]
            refine wpAnyV_pure (i := 9) (oi := _) (v := ?_) rfl (by kernel_rfl) (by kernel_rfl) (by kernel_rfl) (by kernel_rfl) (fun _ _ _ h => h) (Or.inl ⟨by rfl, ?_⟩) (by first | exact fun _ => hHeld | (intro h; exact absurd h (by decide))) ?_
            rotate_left 1
            · (intro u _; go_simp; first | done | with_reducible rfl | rfl)
            simp only [Act.put, List.getElem_toArray, List.getElem_cons_zero, List.getElem_cons_succ, List.setIfInBounds_toArray, List.set_cons_zero, List.set_cons_succ]
            refine wpAnyV_pure (i := 10) (oi := _) (v := ?_) rfl (by kernel_rfl) (by kernel_rfl) (by kernel_rfl) (by kernel_rfl) (fun _ _ _ h => h) (Or.inl ⟨by rfl, ?_⟩) (by first | exact fun _ => hHeld | (intro h; exact absurd h (by decide))) ?_
            rotate_left 1
            · (intro u _; go_simp; first | done | with_reducible rfl | rfl)
            simp only [Act.put, List.getElem_toArray, List.getElem_cons_zero, List.getElem_cons_succ, List.setIfInBounds_toArray, List.set_cons_zero, List.set_cons_succ]
            refine wpAnyV_pure (i := 11) (oi := _) (v := ?_) rfl (by kernel_rfl) (by kernel_rfl) (by kernel_rfl) (by kernel_rfl) (fun _ _ _ h => h) (Or.inl ⟨by rfl, ?_⟩) (by first | exact fun _ => hHeld | (intro h; exact absurd h (by decide))) ?_
            rotate_left 1
            · (intro u _; go_simp; first | done | with_reducible rfl | rfl)
            simp only [Act.put, List.getElem_toArray, List.getElem_cons_zero, List.getElem_cons_succ, List.setIfInBounds_toArray, List.set_cons_zero, List.set_cons_succ]
            refine wpAnyV_done (by kernel_rfl) ?_ _
            have hSC := hSave_any G bc (.int .i64 s.W) (.int .i64 s.H) (.string s.C) (.int .i64 s.T) (.string s.A) (.string s.B) (.slice aoc ps.length cpc) (.bool dr) (.int .u8 (lo : Int)) (.int .i64 li) (.int .u8 (re : Int)) (.bool st) x5 y _ (unhide HOC).ho (by omega) hys5
            obtain ⟨ra, rb, rc, rt, hV⟩ : ∃ ra rb rc rt, G.reply TX (G.step y ⟨0, -1, ⟨#[]⟩, 0⟩) = .agg #[.int .i64 ra, .int .i64 rb, .int .i64 rc, .string rt] := ⟨_, _, _, _, rfl⟩
            have hTC : ∀ u, OneH G s ps dr st lo re li x4 u bc aoc cpc wc y → Calls Tryz.prog 11 #[.pointer (some ⟨bc, 0, none⟩), .agg #[.int .i64 0, .int .i64 (-1), .string ⟨#[]⟩, .int .i64 0]] u fun e w' => e = .returned (.agg #[.int .i64 ra, .int .i64 rb, .int .i64 rc, .string rt]) ∧ Ex bc u.heap.size u w' := fun u hu => by
              refine (hTake_any G ok (unhide HGG) TX bc bc (.int .i64 s.W) (.int .i64 s.H) (.string s.C) (.int .i64 s.T) (.string s.A) (.string s.B) (.slice aoc ps.length cpc) (.bool dr) (.int .u8 (lo : Int)) (.int .i64 li) (.int .u8 (re : Int)) (.bool st) wc u (unhide HCC) y ⟨0, -1, ⟨#[]⟩, 0⟩ (unhide HYI) (by decide) hu.ho (Nat.le_refl _) hu.low).mono ?_
              rintro e w' ⟨rfl, -, hx⟩
              exact ⟨by rw [hV], hx⟩
            have hTB : ∀ u, OneH G s ps dr st lo re li wd u bb aob cpb wb y → Calls Tryz.prog 11 #[.pointer (some ⟨bb, 0, none⟩), .agg #[.int .i64 0, .int .i64 (-1), .string ⟨#[]⟩, .int .i64 0]] u fun e w' => e = .returned (.agg #[.int .i64 ra, .int .i64 rb, .int .i64 rc, .string rt]) ∧ Ex bb u.heap.size u w' := fun u hu => by
              refine (hTake_any G ok (unhide HGG) TX bb bb (.int .i64 s.W) (.int .i64 s.H) (.string s.C) (.int .i64 s.T) (.string s.A) (.string s.B) (.slice aob ps.length cpb) (.bool dr) (.int .u8 (lo : Int)) (.int .i64 li) (.int .u8 (re : Int)) (.bool st) wb u (unhide HCB) y ⟨0, -1, ⟨#[]⟩, 0⟩ (unhide HYI) (by decide) hu.ho (Nat.le_refl _) hu.low).mono ?_
              rintro e w' ⟨rfl, -, hx⟩
              exact ⟨by rw [hV], hx⟩
            have heq : ∀ u, (Op.equalIn 10000 40 (.agg #[.int .i64 ra, .int .i64 rb, .int .i64 rc, .string rt]) (.agg #[.int .i64 ra, .int .i64 rb, .int .i64 rc, .string rt])).run Tryz.prog u = .ok true u := fun u => by
              rw [eqReply]
              simp
            have HSC := hide hSC
            have HTC := hide hTC
            have HTB := hide hTB
            have HEQ := hide heq
            clear hSC hTC hTB heq hV
            go_wp2_with fail
            refine (unhide HSC).mono ?_
            rintro e x6 ⟨rfl, hb6⟩
            have HOC6 := hide ((unhide HOC).below hb6)
            have HOB6 := hide ((unhide HOB9).below hb6)
            have HB10 := hide ((unhide HB9).trans (hb6.mono (unhide HB9).size))
            clear hb6 HSC HOC HOB9 HB9
            go_wp2_with fail
            refine (unhide HSB x6 (unhide HOB6).ho).mono ?_
            rintro e x7 ⟨rfl, hb7⟩
            have HOC7 := hide ((unhide HOC6).below hb7)
            have HOB7 := hide ((unhide HOB6).below hb7)
            have HB11 := hide ((unhide HB10).trans (hb7.mono (unhide HB10).size))
            clear hb7 HSB HOC6 HOB6 HB10
            go_wp2_with fail
            refine (unhide HTC x7 (unhide HOC7)).mono ?_
            rintro e x8 ⟨rfl, hx8⟩
            have HOB8 := hide ((unhide HOB7).other hx8 hbc)
            have HB12 := hide ((unhide HB11).trans (hx8.fresh hbcw (unhide HB11).size))
            clear hx8 HTC HOC7 HOB7 HB11
            go_wp2_with fail
            refine (unhide HTB x8 (unhide HOB8)).mono ?_
            rintro e x9 ⟨rfl, hx9⟩
            have HB13 := hide ((unhide HB12).trans (hx9.fresh hbbw (unhide HB12).size))
            clear hx9 HTB HOB8 HB12
            have heq := unhide HEQ
            go_wp2
            go_ret
            exact ⟨rfl, unhide HB13⟩
      · have h0' : ¬ (0 : Int) < (X.tx.size : Int) := by omega
        go_upto_region 15 with fail
        obtain ⟨K, hKn, hKe⟩ : ∃ K : Nat, K ≤ X.tx.size ∧ (X.tx.size : Int) = (K : Int) := ⟨X.tx.size, Nat.le_refl _, rfl⟩
        rw [hKe]
        clear hKe
        clear h0 h0'
        have hK0 : (0 : Int) ≤ (K : Int) := by omega
        have hKn' : (K : Int) ≤ (X.tx.size : Int) := by omega
        refine wp_region_v [5] (fun u => u.cell? ⟨w.heap.size, 0, none⟩ = some (.int .i64 s.W) ∧ u.cell? ⟨w.heap.size, 1, none⟩ = some (.int .i64 s.H) ∧ u.cell? ⟨w.heap.size, 2, none⟩ = some (.string s.C) ∧ u.cell? ⟨w.heap.size, 3, none⟩ = some (.int .i64 s.T) ∧ u.cell? ⟨w.heap.size, 4, none⟩ = some (.string s.A) ∧ u.cell? ⟨w.heap.size, 5, none⟩ = some (.string s.B) ∧ u.cell? ⟨w.heap.size, 6, none⟩ = some (.slice ao ps.length cap) ∧ u.cell? ⟨w.heap.size, 7, none⟩ = some (.bool dr) ∧ u.cell? ⟨w.heap.size, 8, none⟩ = some (.int .u8 (lo : Int)) ∧ u.cell? ⟨w.heap.size, 9, none⟩ = some (.int .i64 li) ∧ u.cell? ⟨w.heap.size, 10, none⟩ = some (.int .u8 (re : Int)) ∧ u.cell? ⟨w.heap.size, 11, none⟩ = some (.bool st) ∧ u.cell? ⟨w.heap.size, 12, none⟩ = some (.int .i64 G.pl)) (by kernel_rfl) ?_
        have hHeld : (fun u => u.cell? ⟨w.heap.size, 0, none⟩ = some (.int .i64 s.W) ∧ u.cell? ⟨w.heap.size, 1, none⟩ = some (.int .i64 s.H) ∧ u.cell? ⟨w.heap.size, 2, none⟩ = some (.string s.C) ∧ u.cell? ⟨w.heap.size, 3, none⟩ = some (.int .i64 s.T) ∧ u.cell? ⟨w.heap.size, 4, none⟩ = some (.string s.A) ∧ u.cell? ⟨w.heap.size, 5, none⟩ = some (.string s.B) ∧ u.cell? ⟨w.heap.size, 6, none⟩ = some (.slice ao ps.length cap) ∧ u.cell? ⟨w.heap.size, 7, none⟩ = some (.bool dr) ∧ u.cell? ⟨w.heap.size, 8, none⟩ = some (.int .u8 (lo : Int)) ∧ u.cell? ⟨w.heap.size, 9, none⟩ = some (.int .i64 li) ∧ u.cell? ⟨w.heap.size, 10, none⟩ = some (.int .u8 (re : Int)) ∧ u.cell? ⟨w.heap.size, 11, none⟩ = some (.bool st) ∧ u.cell? ⟨w.heap.size, 12, none⟩ = some (.int .i64 G.pl)) w4.drew := (unhide HR4).cells
        obtain ⟨wd, hwd⟩ : ∃ wd, wd = w4.drew := ⟨_, rfl⟩
        have hbd : Below w4.heap.size w4 wd := by rw [hwd]; exact (Below.refl _ _).drew
        rw [← hwd] at hHeld ⊢
        clear hwd
        refine wpAnyV_tk (i := 0) (oi := _) (v := ?_) rfl (by kernel_rfl) (by kernel_rfl) (by kernel_rfl) (by kernel_rfl) (fun _ _ _ h => h) (Or.inl ⟨by rfl, ?_⟩) (by assumption) ?_
        rotate_left 1
        · (intro u hSu; (try dsimp only at hSu); go_simp; first | done | with_reducible rfl | rfl)
        simp only [Act.put, List.getElem_toArray, List.getElem_cons_zero, List.setIfInBounds_toArray, List.set_cons_zero, List.set_cons_succ]
        refine wpAnyV_tk (i := 1) (oi := _) (v := ?_) rfl (by kernel_rfl) (by kernel_rfl) (by kernel_rfl) (by kernel_rfl) (fun _ _ _ h => h) (Or.inl ⟨by rfl, ?_⟩) (by assumption) ?_
        rotate_left 1
        · (intro u hSu; (try dsimp only at hSu); go_simp; first | done | with_reducible rfl | rfl)
        simp only [Act.put, List.getElem_toArray, List.getElem_cons_zero, List.getElem_cons_succ, List.setIfInBounds_toArray, List.set_cons_zero, List.set_cons_succ]
        refine wpAnyV_tk (i := 2) (oi := _) (v := ?_) rfl (by kernel_rfl) (by kernel_rfl) (by kernel_rfl) (by kernel_rfl) (fun _ _ _ h => h) (Or.inl ⟨by rfl, ?_⟩) (by assumption) ?_
        rotate_left 1
        · (intro u hSu; (try dsimp only at hSu); go_simp; first | done | with_reducible rfl | rfl)
        simp only [Act.put, List.getElem_toArray, List.getElem_cons_zero, List.getElem_cons_succ, List.setIfInBounds_toArray, List.set_cons_zero, List.set_cons_succ]
        refine wpAnyV_tk (i := 3) (oi := _) (v := ?_) rfl (by kernel_rfl) (by kernel_rfl) (by kernel_rfl) (by kernel_rfl) (fun _ _ _ h => h) (Or.inl ⟨by rfl, ?_⟩) (by assumption) ?_
        rotate_left 1
        · (intro u hSu; (try dsimp only at hSu); go_simp; first | done | with_reducible rfl | rfl)
        simp only [Act.put, List.getElem_toArray, List.getElem_cons_zero, List.getElem_cons_succ, List.setIfInBounds_toArray, List.set_cons_zero, List.set_cons_succ]
        refine wpAnyV_tk (i := 4) (oi := _) (v := ?_) rfl (by kernel_rfl) (by kernel_rfl) (by kernel_rfl) (by kernel_rfl) (fun _ _ _ h => h) (Or.inl ⟨by rfl, ?_⟩) (by assumption) ?_
        rotate_left 1
        · (intro u hSu; (try dsimp only at hSu); go_simp; first | done | with_reducible rfl | rfl)
        simp only [Act.put, List.getElem_toArray, List.getElem_cons_zero, List.getElem_cons_succ, List.setIfInBounds_toArray, List.set_cons_zero, List.set_cons_succ]
        clear hHeld
        obtain ⟨T, hT⟩ : ∃ T, T = X.tx.extract 0 K := ⟨_, rfl⟩
        rw [← hT]
        obtain ⟨L, r, y, hln, hr, htk, ho1, ho2, hty, hpy⟩ := unhide HPX K
        have hTl : T.data.toList = X.tx.data.toList.take K := by rw [hT]; simp [ByteArray.data_extract]
        have hXl : X.tx.data.toList.length = X.tx.size := Array.length_toList
        have hTs : T.size = K := by
          have h1 : T.data.toList.length = T.size := Array.length_toList
          rw [← h1, hTl, List.length_take, hXl]
          omega
        have hLf := flatL_len L
        have hfl : (flatL L).length + r.length = K := by
          have := congrArg List.length htk
          rw [List.length_append, List.length_take, hXl] at this
          omega
        have hB : G.open_ (T.size + 1) (startX s time) T.data.toList = y := by
          rw [hTl, htk]
          exact ho1 _ (by omega)
        have HYI : Hid (HoI G ok y) := hide (by rw [← hB]; exact open_I (unhide HGG) _ _ (unhide HS0))
        have hOB := unhide HOP wd ((unhide HB4).trans (hbd.mono (unhide HB4).size)) T (by omega)
        rw [hB] at hOB
        refine wpAnyV_ready (rs := [5]) (by kernel_rfl) (by simp) ?_
        refine ReadyV.cons (o := _) rfl (fun KK hK => ?_) ReadyV.nil
        refine step_callH (by rfl) 13 _ _ rfl #[.agg #[.int .i64 s.W, .int .i64 s.H, .string s.C, .int .i64 s.T, .string s.A, .string s.B, .slice ao ps.length cap, .bool dr, .int .u8 (lo : Int), .int .i64 li, .int .u8 (re : Int), .bool st, .int .i64 G.pl], .int .i64 time, .string T] (by simp [Act.eval]) entOpen hOB ?_
        rintro e w5 ⟨bb, aob, cpb, wb, rfl, hcb, hob⟩
        refine ⟨_, rfl, ?_⟩
        refine hK.out _ _ (fun h => absurd h (by decide)) ?_
        have hwl : wlF 0 ((X.tx.data.toList.take K).drop 0) (0, 0) = ((flatL L).length, L.length) := by
          rw [List.drop_zero, htk, wlF_flat L r 0 (0, 0) hln hr]
          split
          · rename_i e
            subst e
            rfl
          · simp
        have hRd := isRu.below (unhide HR4) hbd (isRu.lt (unhide HR4))
        have HR5 := hide (isRu.below hRd hob.lw (isRu.lt hRd))
        have HB5 := hide (((unhide HB4).trans (hbd.mono (unhide HB4).size)).trans (hob.lw.mono (Nat.le_trans (unhide HB4).size hbd.size)))
        have HCB := hide hcb
        have hbbw : w.heap.size ≤ bb := Nat.le_trans (Nat.le_trans (unhide HB4).size hbd.size) hob.b0
        have HOB := hide hob
        have HWL := hide hwl
        have HO2 := hide ho2
        have HTK := hide htk
        have hwp : w4.heap.size ≤ wd.heap.size := hbd.size
        clear hK KK hOB hB hTl hwl ho1 ho2 hcb hob hbd hRd HR4 HB4 hT htk
        try simp only [Act.put, List.getElem_toArray, List.getElem_cons_zero, List.getElem_cons_succ, List.setIfInBounds_toArray, List.set_cons_zero, List.set_cons_succ]
        refine wpAnyV_pure (i := 6) (oi := _) (v := ?_) rfl (by kernel_rfl) (by kernel_rfl) (by kernel_rfl) (by kernel_rfl) (fun _ _ _ h => h) (Or.inl ⟨by rfl, ?_⟩) (by first | exact fun _ => hHeld | (intro h; exact absurd h (by decide))) ?_
        rotate_left 1
        · (intro u _; go_simp; first | done | with_reducible rfl | rfl)
        simp only [Act.put, List.getElem_toArray, List.getElem_cons_zero, List.getElem_cons_succ, List.setIfInBounds_toArray, List.set_cons_zero, List.set_cons_succ]
        refine wpAnyV_pure (i := 7) (oi := _) (v := ?_) rfl (by kernel_rfl) (by kernel_rfl) (by kernel_rfl) (by kernel_rfl) (fun _ _ _ h => h) (Or.inl ⟨by rfl, ?_⟩) (by first | exact fun _ => hHeld | (intro h; exact absurd h (by decide))) ?_
        rotate_left 1
        · (intro u _; go_simp; first | done | with_reducible rfl | rfl)
        simp only [Act.put, List.getElem_toArray, List.getElem_cons_zero, List.getElem_cons_succ, List.setIfInBounds_toArray, List.set_cons_zero, List.set_cons_succ]
        refine wpAnyV_pure (i := 8) (oi := _) (v := ?_) rfl (by kernel_rfl) (by kernel_rfl) (by kernel_rfl) (by kernel_rfl) (fun _ _ _ h => h) (Or.inl ⟨by rfl, ?_⟩) (by first | exact fun _ => hHeld | (intro h; exact absurd h (by decide))) ?_
        rotate_left 1
        · (intro u _; go_simp; first | done | with_reducible rfl | rfl)
        simp only [Act.put, List.getElem_toArray, List.getElem_cons_zero, List.getElem_cons_succ, List.setIfInBounds_toArray, List.set_cons_zero, List.set_cons_succ]
        refine wpAnyV_pure (i := 9) (oi := _) (v := ?_) rfl (by kernel_rfl) (by kernel_rfl) (by kernel_rfl) (by kernel_rfl) (fun _ _ _ h => h) (Or.inl ⟨by rfl, ?_⟩) (by first | exact fun _ => hHeld | (intro h; exact absurd h (by decide))) ?_
        rotate_left 1
        · (intro u _; go_simp; first | done | with_reducible rfl | rfl)
        simp only [Act.put, List.getElem_toArray, List.getElem_cons_zero, List.getElem_cons_succ, List.setIfInBounds_toArray, List.set_cons_zero, List.set_cons_succ]
        refine wpAnyV_pure (i := 10) (oi := _) (v := ?_) rfl (by kernel_rfl) (by kernel_rfl) (by kernel_rfl) (by kernel_rfl) (fun _ _ _ h => h) (Or.inl ⟨by rfl, ?_⟩) (by first | exact fun _ => hHeld | (intro h; exact absurd h (by decide))) ?_
        rotate_left 1
        · (intro u _; go_simp; first | done | with_reducible rfl | rfl)
        simp only [Act.put, List.getElem_toArray, List.getElem_cons_zero, List.getElem_cons_succ, List.setIfInBounds_toArray, List.set_cons_zero, List.set_cons_succ]
        refine wpAnyV_pure (i := 11) (oi := _) (v := ?_) rfl (by kernel_rfl) (by kernel_rfl) (by kernel_rfl) (by kernel_rfl) (fun _ _ _ h => h) (Or.inl ⟨by rfl, ?_⟩) (by first | exact fun _ => hHeld | (intro h; exact absurd h (by decide))) ?_
        rotate_left 1
        · (intro u _; go_simp; first | done | with_reducible rfl | rfl)
        simp only [Act.put, List.getElem_toArray, List.getElem_cons_zero, List.getElem_cons_succ, List.setIfInBounds_toArray, List.set_cons_zero, List.set_cons_succ]
        refine wpAnyV_pure (i := 12) (oi := _) (v := ?_) rfl (by kernel_rfl) (by kernel_rfl) (by kernel_rfl) (by kernel_rfl) (fun _ _ _ h => h) (Or.inl ⟨by rfl, ?_⟩) (by first | exact fun _ => hHeld | (intro h; exact absurd h (by decide))) ?_
        rotate_left 1
        · (intro u _; go_simp; first | done | with_reducible rfl | rfl)
        simp only [Act.put, List.getElem_toArray, List.getElem_cons_zero, List.getElem_cons_succ, List.setIfInBounds_toArray, List.set_cons_zero, List.set_cons_succ]
        refine wpAnyV_done (by kernel_rfl) ?_ _
        go_wp2_with fail
        go_loopw [16, 17, 72] (fun av cv jv wr => ∃ a c j : Nat, av = .int .i64 (a : Int) ∧ cv = .int .i64 (c : Int) ∧ jv = .int .i64 (j : Int) ∧ j ≤ K ∧ a ≤ j ∧ c ≤ j ∧ Hid (wr = w5) ∧ Hid (wlF j ((X.tx.data.toList.take K).drop j) (a, c) = ((flatL L).length, L.length))) (fun _ _ jv _ => K - (intOf jv).toNat)
        case atStart => exact ⟨0, 0, 0, rfl, rfl, rfl, Nat.zero_le _, Nat.le_refl _, Nat.le_refl _, hide rfl, HWL⟩
        case round =>
          clear HWL
          obtain ⟨a, c, j, rfl, rfl, rfl, hj, ha, hc, HWR, HWL⟩ := hrel
          have hwr := unhide HWR
          subst hwr
          by_cases hjK : j < K
          · have hjK' : (j : Int) < (K : Int) := by omega
            have hj0 : (0 : Int) ≤ (j : Int) := by omega
            have hjs : j < X.tx.size := by omega
            have hjs' : (j : Int) < (X.tx.size : Int) := by omega
            have hst := unhide HWL
            have hll : j < (X.tx.data.toList.take K).length := by rw [List.length_take, hXl]; omega
            rw [List.drop_eq_getElem_cons hll, List.getElem_take] at hst
            have hgx : X.tx.data.toList[j]'(by rw [hXl]; exact hjs) = X.tx[j] := rfl
            rw [hgx, wlF] at hst
            have HST := hide hst
            clear hst hgx hll HWL
            go_wp2
            · rename_i hb
              have h10 : X.tx[j] = 10 := by
                have := eq_of_beq hb
                apply UInt8.toNat_inj.1
                show _ = 10
                omega
              go_roundw
              case rel => exact ⟨j + 1, c + 1, j + 1, by go_num, by go_num, by go_num, by omega, by omega, by omega, hide trivial, hide (by have := unhide HST; rw [if_pos h10] at this; exact this)⟩
              case measure => simp only [intOf]; omega
            · rename_i hb
              have h10 : ¬ X.tx[j] = 10 := fun e => by
                rw [e] at hb
                revert hb
                decide
              go_roundw
              case rel => exact ⟨a, c, j + 1, by go_num, by go_num, by go_num, by omega, by omega, by omega, hide trivial, hide (by have := unhide HST; rw [if_neg h10] at this; exact this)⟩
              case measure => simp only [intOf]; omega
          · have hjK' : ¬ (j : Int) < (K : Int) := by omega
            have hst := unhide HWL
            rw [List.drop_of_length_le (by rw [List.length_take]; omega), wlF] at hst
            injection hst with hst1 hst2
            subst hst1 hst2
            have hys : y.tx.size = (flatL L).length := by
              have h1 : y.tx.data.toList.length = y.tx.size := Array.length_toList
              rw [← h1, hty]
            have haN : (flatL L).length ≤ X.tx.size := by omega
            have hYT : X.tx.extract 0 (flatL L).length = y.tx := by
              apply ByteArray.ext
              apply Array.ext'
              rw [hty]
              have h2 : (X.tx.extract 0 (flatL L).length).data.toList = X.tx.data.toList.take (flatL L).length := by simp [ByteArray.data_extract]
              rw [h2]
              have h3 := congrArg (List.take (flatL L).length) (unhide HTK)
              rw [List.take_take, Nat.min_eq_left (by omega), List.take_left' rfl] at h3
              exact h3
            have HYT := hide hYT
            have hC2 := unhide HO2 (y.tx.size + 1) (by omega)
            rw [← hty] at hC2
            have HC2 := hide hC2
            have hys5 : y.tx.size ≤ 100000 := by omega
            have hSB : ∀ u, isHo u bb (.int .i64 s.W) (.int .i64 s.H) (.string s.C) (.int .i64 s.T) (.string s.A) (.string s.B) (.slice aob ps.length cpb) (.bool dr) (.int .u8 (lo : Int)) (.int .i64 li) (.int .u8 (re : Int)) (.bool st) (.int .i64 G.pl) y (G.ended y) → Calls Tryz.prog 10 #[.pointer (some ⟨bb, 0, none⟩)] u fun e w' => e = .returned (.string y.tx) ∧ Below u.heap.size u w' := fun u hu => hSave_any G bb (.int .i64 s.W) (.int .i64 s.H) (.string s.C) (.int .i64 s.T) (.string s.A) (.string s.B) (.slice aob ps.length cpb) (.bool dr) (.int .u8 (lo : Int)) (.int .i64 li) (.int .u8 (re : Int)) (.bool st) u y _ hu (by omega) hys5
            have HSB := hide hSB
            clear hYT hC2 hSB hty hjK HWL HO2 HTK hln hr
            have hq1 : (y.tx.toList == y.tx.toList) = true := by simp
            go_upto_region 25 with fail
            obtain ⟨x1, hx1⟩ : ∃ x1, x1 = wr.drew := ⟨_, rfl⟩
            have hbx1 : Below wr.heap.size wr x1 := by rw [hx1]; exact (Below.refl _ _).drew
            refine wp_region_v [5] (fun _ => True) (by kernel_rfl) ?_
            have hHeld : (fun _ : World => True) wr.drew := trivial
            rw [← hx1] at hHeld ⊢
            clear hx1
            refine wpAnyV_pure (i := 0) (oi := _) (v := ?_) rfl (by kernel_rfl) (by kernel_rfl) (by kernel_rfl) (by kernel_rfl) (fun _ _ _ h => h) (Or.inl ⟨by rfl, ?_⟩) (by first | exact fun _ => hHeld | (intro h; exact absurd h (by decide))) ?_
            rotate_left 1
            · (intro u _; go_simp; first | done | with_reducible rfl | rfl)
            simp only [Act.put, List.getElem_toArray, List.getElem_cons_zero, List.setIfInBounds_toArray, List.set_cons_zero, List.set_cons_succ]
            refine wpAnyV_pure (i := 1) (oi := _) (v := ?_) rfl (by kernel_rfl) (by kernel_rfl) (by kernel_rfl) (by kernel_rfl) (fun _ _ _ h => h) (Or.inl ⟨by rfl, ?_⟩) (by first | exact fun _ => hHeld | (intro h; exact absurd h (by decide))) ?_
            rotate_left 1
            · (intro u _; go_simp; first | done | with_reducible rfl | rfl)
            simp only [Act.put, List.getElem_toArray, List.getElem_cons_zero, List.getElem_cons_succ, List.setIfInBounds_toArray, List.set_cons_zero, List.set_cons_succ]
            refine wpAnyV_pure (i := 2) (oi := _) (v := ?_) rfl (by kernel_rfl) (by kernel_rfl) (by kernel_rfl) (by kernel_rfl) (fun _ _ _ h => h) (Or.inl ⟨by rfl, ?_⟩) (by first | exact fun _ => hHeld | (intro h; exact absurd h (by decide))) ?_
            rotate_left 1
            · (intro u _; go_simp; first | done | with_reducible rfl | rfl)
            simp only [Act.put, List.getElem_toArray, List.getElem_cons_zero, List.getElem_cons_succ, List.setIfInBounds_toArray, List.set_cons_zero, List.set_cons_succ]
            refine wpAnyV_pure (i := 3) (oi := _) (v := ?_) rfl (by kernel_rfl) (by kernel_rfl) (by kernel_rfl) (by kernel_rfl) (fun _ _ _ h => h) (Or.inl ⟨by rfl, ?_⟩) (by first | exact fun _ => hHeld | (intro h; exact absurd h (by decide))) ?_
            rotate_left 1
            · (intro u _; go_simp; first | done | with_reducible rfl | rfl)
            simp only [Act.put, List.getElem_toArray, List.getElem_cons_zero, List.getElem_cons_succ, List.setIfInBounds_toArray, List.set_cons_zero, List.set_cons_succ]
            refine wpAnyV_pure (i := 4) (oi := _) (v := ?_) rfl (by kernel_rfl) (by kernel_rfl) (by kernel_rfl) (by kernel_rfl) (fun _ _ _ h => h) (Or.inl ⟨by rfl, ?_⟩) (by first | exact fun _ => hHeld | (intro h; exact absurd h (by decide))) ?_
            rotate_left 1
            · (intro u _; go_simp; first | done | with_reducible rfl | rfl)
            simp only [Act.put, List.getElem_toArray, List.getElem_cons_zero, List.getElem_cons_succ, List.setIfInBounds_toArray, List.set_cons_zero, List.set_cons_succ]
            refine wpAnyV_pure (i := 6) (oi := _) (v := ?_) rfl (by kernel_rfl) (by kernel_rfl) (by kernel_rfl) (by kernel_rfl) (fun _ _ _ h => h) (Or.inl ⟨by rfl, ?_⟩) (by first | exact fun _ => hHeld | (intro h; exact absurd h (by decide))) ?_
            rotate_left 1
            · (intro u _; go_simp; first | done | with_reducible rfl | rfl)
            simp only [Act.put, List.getElem_toArray, List.getElem_cons_zero, List.getElem_cons_succ, List.setIfInBounds_toArray, List.set_cons_zero, List.set_cons_succ]
            refine wpAnyV_pure (i := 7) (oi := _) (v := ?_) rfl (by kernel_rfl) (by kernel_rfl) (by kernel_rfl) (by kernel_rfl) (fun _ _ _ h => h) (Or.inl ⟨by rfl, ?_⟩) (by first | exact fun _ => hHeld | (intro h; exact absurd h (by decide))) ?_
            rotate_left 1
            · (intro u _; go_simp; first | done | with_reducible rfl | rfl)
            simp only [Act.put, List.getElem_toArray, List.getElem_cons_zero, List.getElem_cons_succ, List.setIfInBounds_toArray, List.set_cons_zero, List.set_cons_succ]
            refine wpAnyV_pure (i := 8) (oi := _) (v := ?_) rfl (by kernel_rfl) (by kernel_rfl) (by kernel_rfl) (by kernel_rfl) (fun _ _ _ h => h) (Or.inl ⟨by rfl, ?_⟩) (by first | exact fun _ => hHeld | (intro h; exact absurd h (by decide))) ?_
            rotate_left 1
            · (intro u _; go_simp; first | done | with_reducible rfl | rfl)
            simp only [Act.put, List.getElem_toArray, List.getElem_cons_zero, List.getElem_cons_succ, List.setIfInBounds_toArray, List.set_cons_zero, List.set_cons_succ]
            clear hHeld
            rw [unhide HYT]
            have hO1 := (unhide HOB).below hbx1
            refine wpAnyV_ready (rs := [5]) (by kernel_rfl) (by simp) ?_
            refine ReadyV.cons (o := _) rfl (fun KK hK => ?_) ReadyV.nil
            refine step_callH (by rfl) 10 _ _ rfl #[.pointer (some ⟨bb, 0, none⟩)] (by simp [Act.eval]) entSave (unhide HSB x1 hO1.ho) ?_
            rintro e x2 ⟨rfl, hbx2⟩
            refine ⟨_, rfl, ?_⟩
            refine hK.out _ _ (fun h => absurd h (by decide)) ?_
            have hbx02 := hbx1.trans (hbx2.mono hbx1.size)
            have HO2b := hide (hO1.below hbx2)
            have HR6 := hide (isRu.below (unhide HR5) hbx02 (isRu.lt (unhide HR5)))
            have HB6 := hide ((unhide HB5).trans (hbx02.mono (unhide HB5).size))
            clear hK KK hO1 hbx1 hbx2 hbx02 HR5 HB5 HOB
            try simp only [Act.put, List.getElem_toArray, List.getElem_cons_zero, List.getElem_cons_succ, List.setIfInBounds_toArray, List.set_cons_zero, List.set_cons_succ]
            refine wpAnyV_pure (i := 9) (oi := _) (v := ?_) rfl (by kernel_rfl) (by kernel_rfl) (by kernel_rfl) (by kernel_rfl) (fun _ _ _ h => h) (Or.inl ⟨by rfl, ?_⟩) (by first | exact fun _ => hHeld | (intro h; exact absurd h (by decide))) ?_
            rotate_left 1
            · (intro u _; go_simp; first | done | with_reducible rfl | rfl)
            simp only [Act.put, List.getElem_toArray, List.getElem_cons_zero, List.getElem_cons_succ, List.setIfInBounds_toArray, List.set_cons_zero, List.set_cons_succ]
            refine wpAnyV_pure (i := 10) (oi := _) (v := ?_) rfl (by kernel_rfl) (by kernel_rfl) (by kernel_rfl) (by kernel_rfl) (fun _ _ _ h => h) (Or.inl ⟨by rfl, ?_⟩) (by first | exact fun _ => hHeld | (intro h; exact absurd h (by decide))) ?_
            rotate_left 1
            · (intro u _; go_simp; first | done | with_reducible rfl | rfl)
            simp only [Act.put, List.getElem_toArray, List.getElem_cons_zero, List.getElem_cons_succ, List.setIfInBounds_toArray, List.set_cons_zero, List.set_cons_succ]
            refine wpAnyV_done (by kernel_rfl) ?_ _
            go_upto_region 27 with fail
            obtain ⟨x3, hx3⟩ : ∃ x3, x3 = x2.drew := ⟨_, rfl⟩
            have hbx3 : Below x2.heap.size x2 x3 := by rw [hx3]; exact (Below.refl _ _).drew
            refine wp_region_v [4] (fun u => u.cell? ⟨w.heap.size, 0, none⟩ = some (.int .i64 s.W) ∧ u.cell? ⟨w.heap.size, 1, none⟩ = some (.int .i64 s.H) ∧ u.cell? ⟨w.heap.size, 2, none⟩ = some (.string s.C) ∧ u.cell? ⟨w.heap.size, 3, none⟩ = some (.int .i64 s.T) ∧ u.cell? ⟨w.heap.size, 4, none⟩ = some (.string s.A) ∧ u.cell? ⟨w.heap.size, 5, none⟩ = some (.string s.B) ∧ u.cell? ⟨w.heap.size, 6, none⟩ = some (.slice ao ps.length cap) ∧ u.cell? ⟨w.heap.size, 7, none⟩ = some (.bool dr) ∧ u.cell? ⟨w.heap.size, 8, none⟩ = some (.int .u8 (lo : Int)) ∧ u.cell? ⟨w.heap.size, 9, none⟩ = some (.int .i64 li) ∧ u.cell? ⟨w.heap.size, 10, none⟩ = some (.int .u8 (re : Int)) ∧ u.cell? ⟨w.heap.size, 11, none⟩ = some (.bool st) ∧ u.cell? ⟨w.heap.size, 12, none⟩ = some (.int .i64 G.pl)) (by kernel_rfl) ?_
            have hHeld : (fun u => u.cell? ⟨w.heap.size, 0, none⟩ = some (.int .i64 s.W) ∧ u.cell? ⟨w.heap.size, 1, none⟩ = some (.int .i64 s.H) ∧ u.cell? ⟨w.heap.size, 2, none⟩ = some (.string s.C) ∧ u.cell? ⟨w.heap.size, 3, none⟩ = some (.int .i64 s.T) ∧ u.cell? ⟨w.heap.size, 4, none⟩ = some (.string s.A) ∧ u.cell? ⟨w.heap.size, 5, none⟩ = some (.string s.B) ∧ u.cell? ⟨w.heap.size, 6, none⟩ = some (.slice ao ps.length cap) ∧ u.cell? ⟨w.heap.size, 7, none⟩ = some (.bool dr) ∧ u.cell? ⟨w.heap.size, 8, none⟩ = some (.int .u8 (lo : Int)) ∧ u.cell? ⟨w.heap.size, 9, none⟩ = some (.int .i64 li) ∧ u.cell? ⟨w.heap.size, 10, none⟩ = some (.int .u8 (re : Int)) ∧ u.cell? ⟨w.heap.size, 11, none⟩ = some (.bool st) ∧ u.cell? ⟨w.heap.size, 12, none⟩ = some (.int .i64 G.pl)) x2.drew := (unhide HR6).cells
            rw [← hx3] at hHeld ⊢
            clear hx3
            have hO3 := (unhide HO2b).below hbx3
            have hR7 := isRu.below (unhide HR6) hbx3 (isRu.lt (unhide HR6))
            refine wpAnyV_tk (i := 0) (oi := _) (v := ?_) rfl (by kernel_rfl) (by kernel_rfl) (by kernel_rfl) (by kernel_rfl) (fun _ _ _ h => h) (Or.inl ⟨by rfl, ?_⟩) (by assumption) ?_
            rotate_left 1
            · (intro u hSu; (try dsimp only at hSu); go_simp; first | done | with_reducible rfl | rfl)
            simp only [Act.put, List.getElem_toArray, List.getElem_cons_zero, List.setIfInBounds_toArray, List.set_cons_zero, List.set_cons_succ]
            refine wpAnyV_tk (i := 1) (oi := _) (v := ?_) rfl (by kernel_rfl) (by kernel_rfl) (by kernel_rfl) (by kernel_rfl) (fun _ _ _ h => h) (Or.inl ⟨by rfl, ?_⟩) (by assumption) ?_
            rotate_left 1
            · (intro u hSu; (try dsimp only at hSu); go_simp; first | done | with_reducible rfl | rfl)
            simp only [Act.put, List.getElem_toArray, List.getElem_cons_zero, List.getElem_cons_succ, List.setIfInBounds_toArray, List.set_cons_zero, List.set_cons_succ]
            refine wpAnyV_tk (i := 2) (oi := _) (v := ?_) rfl (by kernel_rfl) (by kernel_rfl) (by kernel_rfl) (by kernel_rfl) (fun _ _ _ h => h) (Or.inl ⟨by rfl, ?_⟩) (by assumption) ?_
            rotate_left 1
            · (intro u hSu; (try dsimp only at hSu); go_simp; first | done | with_reducible rfl | rfl)
            simp only [Act.put, List.getElem_toArray, List.getElem_cons_zero, List.getElem_cons_succ, List.setIfInBounds_toArray, List.set_cons_zero, List.set_cons_succ]
            clear hHeld
            refine wpAnyV_ready (rs := [3]) (by kernel_rfl) (by simp) ?_
            refine ReadyV.cons (o := _) rfl (fun KK hK => ?_) ReadyV.nil
            refine step_callH (by rfl) 10 _ _ rfl #[.pointer (some ⟨bb, 0, none⟩)] (by simp [Act.eval]) entSave (unhide HSB x3 hO3.ho) ?_
            rintro e x4 ⟨rfl, hbx4⟩
            refine ⟨_, rfl, ?_⟩
            have hR8 := isRu.below hR7 hbx4 (isRu.lt hR7)
            have hHeld : (fun u => u.cell? ⟨w.heap.size, 0, none⟩ = some (.int .i64 s.W) ∧ u.cell? ⟨w.heap.size, 1, none⟩ = some (.int .i64 s.H) ∧ u.cell? ⟨w.heap.size, 2, none⟩ = some (.string s.C) ∧ u.cell? ⟨w.heap.size, 3, none⟩ = some (.int .i64 s.T) ∧ u.cell? ⟨w.heap.size, 4, none⟩ = some (.string s.A) ∧ u.cell? ⟨w.heap.size, 5, none⟩ = some (.string s.B) ∧ u.cell? ⟨w.heap.size, 6, none⟩ = some (.slice ao ps.length cap) ∧ u.cell? ⟨w.heap.size, 7, none⟩ = some (.bool dr) ∧ u.cell? ⟨w.heap.size, 8, none⟩ = some (.int .u8 (lo : Int)) ∧ u.cell? ⟨w.heap.size, 9, none⟩ = some (.int .i64 li) ∧ u.cell? ⟨w.heap.size, 10, none⟩ = some (.int .u8 (re : Int)) ∧ u.cell? ⟨w.heap.size, 11, none⟩ = some (.bool st) ∧ u.cell? ⟨w.heap.size, 12, none⟩ = some (.int .i64 G.pl)) x4 := hR8.cells
            refine hK.out _ _ (fun _ => hHeld) ?_
            clear hK KK hHeld
            try simp only [Act.put, List.getElem_toArray, List.getElem_cons_zero, List.getElem_cons_succ, List.setIfInBounds_toArray, List.set_cons_zero, List.set_cons_succ]
            have hb24 := hbx3.trans (hbx4.mono hbx3.size)
            have hB8 := (unhide HB6).trans (hb24.mono (unhide HB6).size)
            have hO4 := hO3.below hbx4
            have hOC := unhide HOP x4 hB8 y.tx (by omega)
            rw [unhide HC2] at hOC
            refine wpAnyV_ready (rs := [4]) (by kernel_rfl) (by simp) ?_
            refine ReadyV.cons (o := _) rfl (fun KK hK => ?_) ReadyV.nil
            refine step_callH (by rfl) 13 _ _ rfl #[.agg #[.int .i64 s.W, .int .i64 s.H, .string s.C, .int .i64 s.T, .string s.A, .string s.B, .slice ao ps.length cap, .bool dr, .int .u8 (lo : Int), .int .i64 li, .int .u8 (re : Int), .bool st, .int .i64 G.pl], .int .i64 time, .string y.tx] (by simp [Act.eval]) entOpen hOC ?_
            rintro e x5 ⟨bc, aoc, cpc, wc, rfl, hcc, hoc⟩
            refine ⟨_, rfl, ?_⟩
            refine hK.out _ _ (fun h => absurd h (by decide)) ?_
            have hbc : bb < bc := Nat.lt_of_lt_of_le (isH.lt hO4.ho) hoc.b0
            have hbcw : w.heap.size ≤ bc := Nat.le_trans hB8.size hoc.b0
            have HB9 := hide (hB8.trans (hoc.lw.mono hB8.size))
            have HOB9 := hide (hO4.below hoc.lw)
            have HOC := hide hoc
            have HCC := hide hcc
            clear hK KK hO3 hR7 hR8 hb24 hB8 hO4 hOC hbx3 hbx4 hcc hoc HO2b HR6 HB6 HC2
            try simp only [Act.put, List.getElem_toArray, List.getElem_cons_zero, List.getElem_cons_succ, List.setIfInBounds_toArray, List.set_cons_zero, List.set_cons_succ]
            refine wpAnyV_pure (i := 5) (oi := _) (v := ?_) rfl (by kernel_rfl) (by kernel_rfl) (by kernel_rfl) (by kernel_rfl) (fun _ _ _ h => h) (Or.inl ⟨by rfl, ?_⟩) (by first | exact fun _ => hHeld | (intro h; exact absurd h (by decide))) ?_
            rotate_left 1
            · (intro u _; go_simp; first | done | with_reducible rfl | rfl)
            simp only [Act.put, List.getElem_toArray, List.getElem_cons_zero, List.getElem_cons_succ, List.setIfInBounds_toArray, List.set_cons_zero, List.set_cons_succ]
            refine wpAnyV_pure (i := 6) (oi := _) (v := ?_) rfl (by kernel_rfl) (by kernel_rfl) (by kernel_rfl) (by kernel_rfl) (fun _ _ _ h => h) (Or.inl ⟨by rfl, ?_⟩) (by first | exact fun _ => hHeld | (intro h; exact absurd h (by decide))) ?_
            rotate_left 1
            · (intro u _; go_simp; first | done | with_reducible rfl | rfl)
            simp only [Act.put, List.getElem_toArray, List.getElem_cons_zero, List.getElem_cons_succ, List.setIfInBounds_toArray, List.set_cons_zero, List.set_cons_succ]
            refine wpAnyV_pure (i := 7) (oi := _) (v := ?_) rfl (by kernel_rfl) (by kernel_rfl) (by kernel_rfl) (by kernel_rfl) (fun _ _ _ h => h) (Or.inl ⟨by rfl, ?_⟩) (by first | exact fun _ => hHeld | (intro h; exact absurd h (by decide))) ?_
            rotate_left 1
            · (intro u _; go_simp; first | done | with_reducible rfl | rfl)
            simp only [Act.put, List.getElem_toArray, List.getElem_cons_zero, List.getElem_cons_succ, List.setIfInBounds_toArray, List.set_cons_zero, List.set_cons_succ]
            refine wpAnyV_pure (i := 8) (oi := _) (v := ?_) rfl (by kernel_rfl) (by kernel_rfl) (by kernel_rfl) (by kernel_rfl) (fun _ _ _ h => h) (Or.inl ⟨by rfl, ?_⟩) (by first | exact fun _ => hHeld | (intro h; exact absurd h (by decide))) ?_
            rotate_left 1
            · (intro u _; go_simp; first | done | with_reducible rfl | rfl)
            simp only [Act.put, List.getElem_toArray, List.getElem_cons_zero, List.getElem_cons_succ, List.setIfInBounds_toArray, List.set_cons_zero, List.set_cons_succ]
            refine wpAnyV_pure (i := 9) (oi := _) (v := ?_) rfl (by kernel_rfl) (by kernel_rfl) (by kernel_rfl) (by kernel_rfl) (fun _ _ _ h => h) (Or.inl ⟨by rfl, ?_⟩) (by first | exact fun _ => hHeld | (intro h; exact absurd h (by decide))) ?_
            rotate_left 1
            · (intro u _; go_simp; first | done | with_reducible rfl | rfl)
            simp only [Act.put, List.getElem_toArray, List.getElem_cons_zero, List.getElem_cons_succ, List.setIfInBounds_toArray, List.set_cons_zero, List.set_cons_succ]
            refine wpAnyV_pure (i := 10) (oi := _) (v := ?_) rfl (by kernel_rfl) (by kernel_rfl) (by kernel_rfl) (by kernel_rfl) (fun _ _ _ h => h) (Or.inl ⟨by rfl, ?_⟩) (by first | exact fun _ => hHeld | (intro h; exact absurd h (by decide))) ?_
            rotate_left 1
            · (intro u _; go_simp; first | done | with_reducible rfl | rfl)
            simp only [Act.put, List.getElem_toArray, List.getElem_cons_zero, List.getElem_cons_succ, List.setIfInBounds_toArray, List.set_cons_zero, List.set_cons_succ]
            refine wpAnyV_pure (i := 11) (oi := _) (v := ?_) rfl (by kernel_rfl) (by kernel_rfl) (by kernel_rfl) (by kernel_rfl) (fun _ _ _ h => h) (Or.inl ⟨by rfl, ?_⟩) (by first | exact fun _ => hHeld | (intro h; exact absurd h (by decide))) ?_
            rotate_left 1
            · (intro u _; go_simp; first | done | with_reducible rfl | rfl)
            simp only [Act.put, List.getElem_toArray, List.getElem_cons_zero, List.getElem_cons_succ, List.setIfInBounds_toArray, List.set_cons_zero, List.set_cons_succ]
            refine wpAnyV_done (by kernel_rfl) ?_ _
            have hSC := hSave_any G bc (.int .i64 s.W) (.int .i64 s.H) (.string s.C) (.int .i64 s.T) (.string s.A) (.string s.B) (.slice aoc ps.length cpc) (.bool dr) (.int .u8 (lo : Int)) (.int .i64 li) (.int .u8 (re : Int)) (.bool st) x5 y _ (unhide HOC).ho (by omega) hys5
            obtain ⟨ra, rb, rc, rt, hV⟩ : ∃ ra rb rc rt, G.reply TX (G.step y ⟨0, -1, ⟨#[]⟩, 0⟩) = .agg #[.int .i64 ra, .int .i64 rb, .int .i64 rc, .string rt] := ⟨_, _, _, _, rfl⟩
            have hTC : ∀ u, OneH G s ps dr st lo re li x4 u bc aoc cpc wc y → Calls Tryz.prog 11 #[.pointer (some ⟨bc, 0, none⟩), .agg #[.int .i64 0, .int .i64 (-1), .string ⟨#[]⟩, .int .i64 0]] u fun e w' => e = .returned (.agg #[.int .i64 ra, .int .i64 rb, .int .i64 rc, .string rt]) ∧ Ex bc u.heap.size u w' := fun u hu => by
              refine (hTake_any G ok (unhide HGG) TX bc bc (.int .i64 s.W) (.int .i64 s.H) (.string s.C) (.int .i64 s.T) (.string s.A) (.string s.B) (.slice aoc ps.length cpc) (.bool dr) (.int .u8 (lo : Int)) (.int .i64 li) (.int .u8 (re : Int)) (.bool st) wc u (unhide HCC) y ⟨0, -1, ⟨#[]⟩, 0⟩ (unhide HYI) (by decide) hu.ho (Nat.le_refl _) hu.low).mono ?_
              rintro e w' ⟨rfl, -, hx⟩
              exact ⟨by rw [hV], hx⟩
            have hTB : ∀ u, OneH G s ps dr st lo re li wd u bb aob cpb wb y → Calls Tryz.prog 11 #[.pointer (some ⟨bb, 0, none⟩), .agg #[.int .i64 0, .int .i64 (-1), .string ⟨#[]⟩, .int .i64 0]] u fun e w' => e = .returned (.agg #[.int .i64 ra, .int .i64 rb, .int .i64 rc, .string rt]) ∧ Ex bb u.heap.size u w' := fun u hu => by
              refine (hTake_any G ok (unhide HGG) TX bb bb (.int .i64 s.W) (.int .i64 s.H) (.string s.C) (.int .i64 s.T) (.string s.A) (.string s.B) (.slice aob ps.length cpb) (.bool dr) (.int .u8 (lo : Int)) (.int .i64 li) (.int .u8 (re : Int)) (.bool st) wb u (unhide HCB) y ⟨0, -1, ⟨#[]⟩, 0⟩ (unhide HYI) (by decide) hu.ho (Nat.le_refl _) hu.low).mono ?_
              rintro e w' ⟨rfl, -, hx⟩
              exact ⟨by rw [hV], hx⟩
            have heq : ∀ u, (Op.equalIn 10000 40 (.agg #[.int .i64 ra, .int .i64 rb, .int .i64 rc, .string rt]) (.agg #[.int .i64 ra, .int .i64 rb, .int .i64 rc, .string rt])).run Tryz.prog u = .ok true u := fun u => by
              rw [eqReply]
              simp
            have HSC := hide hSC
            have HTC := hide hTC
            have HTB := hide hTB
            have HEQ := hide heq
            clear hSC hTC hTB heq hV
            go_wp2_with fail
            refine (unhide HSC).mono ?_
            rintro e x6 ⟨rfl, hb6⟩
            have HOC6 := hide ((unhide HOC).below hb6)
            have HOB6 := hide ((unhide HOB9).below hb6)
            have HB10 := hide ((unhide HB9).trans (hb6.mono (unhide HB9).size))
            clear hb6 HSC HOC HOB9 HB9
            go_wp2_with fail
            refine (unhide HSB x6 (unhide HOB6).ho).mono ?_
            rintro e x7 ⟨rfl, hb7⟩
            have HOC7 := hide ((unhide HOC6).below hb7)
            have HOB7 := hide ((unhide HOB6).below hb7)
            have HB11 := hide ((unhide HB10).trans (hb7.mono (unhide HB10).size))
            clear hb7 HSB HOC6 HOB6 HB10
            go_wp2_with fail
            refine (unhide HTC x7 (unhide HOC7)).mono ?_
            rintro e x8 ⟨rfl, hx8⟩
            have HOB8 := hide ((unhide HOB7).other hx8 hbc)
            have HB12 := hide ((unhide HB11).trans (hx8.fresh hbcw (unhide HB11).size))
            clear hx8 HTC HOC7 HOB7 HB11
            go_wp2_with fail
            refine (unhide HTB x8 (unhide HOB8)).mono ?_
            rintro e x9 ⟨rfl, hx9⟩
            have HB13 := hide ((unhide HB12).trans (hx9.fresh hbbw (unhide HB12).size))
            clear hx9 HTB HOB8 HB12
            have heq := unhide HEQ
            go_wp2
            go_ret
            exact ⟨rfl, unhide HB13⟩
end Go.Proofs.YtihojhfpepbjhaaGreatDoor
