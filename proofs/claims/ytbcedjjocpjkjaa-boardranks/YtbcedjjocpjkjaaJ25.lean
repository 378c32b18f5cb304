/-
  gameref.Ranked, walked.
  gameref.Ranked, walked: what has no rank.
-/
import Derived.Test.YtbcedjjocpjkjaaJ24
import Derived.BigQuiet
namespace Go.Proofs.Ytbcedjjocpjkjaa
open Go.RowKit
attribute [local go_sem ↓] Go.wp_at_zero Go.wp_at_succ

theorem isBox.but {w w' : World} {g b S : Nat} {v0 v1 v2 v3 v4 v5 : Value} (h : isBox w g v0 v1 v2 v3 v4 v5) (k : But S b w w') (hS : g < S) (hn : g ≠ b) : isBox w' g v0 v1 v2 v3 v4 v5 := by
  unfold isBox; rw [k.block g hS hn]; exact h
theorem ext_all (s : ByteArray) (k : Nat) : (s.extract k s.size).data.toList = s.data.toList.drop k := by
  rw [ByteArray.data_extract, Array.toList_extract, List.extract_eq_take_drop, List.take_of_length_le]
  rw [List.length_drop, len_data]
  omega
theorem ext_mid (s : ByteArray) (k o : Nat) : (s.extract k (k + o)).data.toList = (s.data.toList.drop k).take o := by
  rw [ByteArray.data_extract, Array.toList_extract, List.extract_eq_take_drop]
  congr 1
  omega
theorem out_one (s : ByteArray) (k o : Nat) : (s.extract k (k + o) ++ s.extract (k + o + 1) s.size).data.toList = (s.data.toList.drop k).take o ++ (s.data.toList.drop k).drop (o + 1) := by
  rw [ByteArray.data_append, Array.toList_append, ext_mid, ext_all, List.drop_drop]
  rfl
theorem rank_big (n : Nat) (h : n ≤ big60) : n < 4294967296 ^ 200 := by
  have := big60_pow
  unfold big60 at h
  omega

set_option maxHeartbeats 4000000 in
set_option maxRecDepth 100000 in
theorem Ranked_ok {W H : Nat} {T : Int} {C A B : ByteArray} (w : World) (p : IsPos W H C T A B) (hcb : countB C.data.toList = true) :
    Calls Try.prog 10 #[.agg #[.int .i64 W, .int .i64 H, .string C, .int .i64 T, .string A, .string B]] w fun e w' =>
      e = .returned (.tuple #[.int .i64 (2 * ((rkL C.data.toList : Nat) : Int) + T), .int .i64 0]) ∧ Below w.heap.size w w' := by
  have h64 := p.c64
  have hT0 : 0 ≤ T := by rcases p.t with h | h <;> omega
  have hT1 : T ≤ 1 := by rcases p.t with h | h <;> omega
  have hbig := countB_le hcb
  have hrk : rkL C.data.toList < 1152921504606846976 := Nat.lt_of_lt_of_le (rkL_lt _) hbig
  have HK := hide (fun w => Kinds_ok w p hcb)
  clear hcb p
  go_enter Try.func10, Try.ntmps10
  go_wp2_with fail
  refine (unhide HK _).mono ?_
  rintro e w1 ⟨rfl, hb1⟩
  have bp1 := isBox.fresh hb1
  have hw1 : Below w.heap.size w w1 := below_on (Below.refl _ _) (Nat.le_refl _) hb1
  have hs1 : w.heap.size < w1.heap.size := bp1.lt
  clear hb1
  go_wp2_with fail
  refine (NewInt_any 0 _ (by omega)).mono ?_
  rintro e w2 ⟨rfl, hg2, hb2⟩
  have bp2 := bp1.below hb2 hs1
  have hw2 := hw1.trans (hb2.mono hw1.size)
  have HBP2 := hide bp2
  have HW2 := hide hw2
  have HG2 := hide hg2
  clear hb2 bp1 bp2 hw2 hg2
  go_wp2
  go_loopw [7] (fun v wr => ∃ k x : Nat, k ≤ C.size ∧ v = .int .i64 (k : Int) ∧ Hid (x + rkL (C.data.toList.drop k) = rkL C.data.toList) ∧ isBig wr w1.heap.size x ∧ isBox wr w.heap.size (.int .i64 W) (.int .i64 H) (.string C) (.int .i64 T) (.string A) (.string B) ∧ Below w.heap.size w wr) (fun v _ => C.size - (intOf v).toNat)
  case atStart => exact ⟨0, 0, Nat.zero_le _, rfl, by show _ = _; simp, unhide HG2, unhide HBP2, unhide HW2⟩
  case round =>
    obtain ⟨k, x, hk, rfl, HX, hg, hbx, hbw⟩ := hrel
    clear HG2 HBP2 HW2 HK
    obtain ⟨d0, d1, d2, d3, d4, d5⟩ := hbx.cells
    by_cases hlt : k < C.size
    · have hki : (k : Int) < (C.size : Int) := by omega
      have hk0 : (0 : Int) ≤ (k : Int) := by omega
      obtain ⟨t, ht⟩ : ∃ t, t = C.data.toList.drop (k + 1) := ⟨_, rfl⟩
      have hdc := drop_cons C k hlt
      rw [← ht] at hdc
      have htl : t.length = C.size - (k + 1) := by rw [ht, List.length_drop, len_data]
      have h256 : C[k].toNat < 256 := C[k].toNat_lt
      obtain ⟨M, hM⟩ : ∃ M : Nat, M = C[k].toNat := ⟨_, rfl⟩
      have hMi : (C[k].toNat : Int) = (M : Int) := by rw [hM]
      have hx1 := unhide HX
      rw [hdc, rkL_cons, ← hM] at hx1
      obtain ⟨f, hf⟩ : ∃ f, f = subF t.length (cntF (C[k] :: t)) := ⟨_, rfl⟩
      rw [← hf] at hx1
      have hsums : ∀ c, c ≤ M → x + sumTo f c ≤ rkL C.data.toList := fun c hc => by have := sumTo_le f hc; omega
      have HX1 := hide hx1
      have HDC := hide hdc
      have HF := hide hf
      have HT := hide ht
      have HTL := hide htl
      have HSUM := hide hsums
      have HG := hide hg
      have HBX := hide hbx
      have HBW := hide hbw
      have hM256 : M < 256 := by omega
      clear hx1 hdc hf ht htl hsums hM hg hbx hbw h256
      go_wp2
      go_loopw [8] (fun v wx => ∃ c X : Nat, c ≤ M ∧ v = .int .i64 (c : Int) ∧ Hid (X = x + sumTo f c) ∧ isBig wx w1.heap.size X ∧ isBox wx w.heap.size (.int .i64 W) (.int .i64 H) (.string C) (.int .i64 T) (.string A) (.string B) ∧ Below w.heap.size w wx) (fun v _ => M - (intOf v).toNat)
      case atStart => exact ⟨0, x, Nat.zero_le _, rfl, by show _ = _; simp [sumTo], unhide HG, unhide HBX, unhide HBW⟩
      case round =>
        obtain ⟨c, X, hc, rfl, HXC, hg, hbx, hbw⟩ := hrel
        clear HG HBX HBW d0 d1 d2 d3 d4 d5
        obtain ⟨d0, d1, d2, d3, d4, d5⟩ := hbx.cells
        by_cases hcl : c < M
        · have hci : (c : Int) < (M : Int) := by omega
          have hcm : (c : Int) % 256 = (c : Int) := by omega
          obtain ⟨R, hR⟩ : ∃ R, R = Lib.indexByte (C.data.toList.drop k) (UInt8.ofNat c) := ⟨_, rfl⟩
          have hix := fun w => Try.strings_IndexByte (C.extract k C.size) (c : Int) w
          have hcc : (c : Int).toNat.toUInt8 = UInt8.ofNat c := rfl
          rw [ext_all, hcc, ← hR] at hix
          have HIX := hide hix
          have hge : -1 ≤ R := by rw [hR]; exact Lib.indexByte_ge _ _
          clear hix hcc
          have hcs : sumTo f (c + 1) = sumTo f c + f c := rfl
          by_cases hneg : R = -1
          · have hfc : f c = 0 := by
              rw [unhide HF]
              refine sub_none (C[k] :: t) c t.length (by omega) ?_
              rw [← unhide HDC, ← hR]; exact hneg
            have hnew : X = x + sumTo f (c + 1) := by rw [hcs, hfc, Nat.add_zero]; exact unhide HXC
            have HNEW := hide hnew
            subst hneg
            clear hR hge hfc hnew hcs
            go_wp2_with fail
            refine (unhide HIX _).mono ?_
            rintro e w' ⟨rfl, rfl⟩
            go_wp2
            go_roundw
            case rel => exact ⟨c + 1, X, by omega, by go_num, HNEW, hg, hbx, hbw⟩
            case measure => simp [intOf]; omega
          · obtain ⟨o, ho⟩ : ∃ o : Nat, R = (o : Int) := ⟨R.toNat, by omega⟩
            have hfd := sub_found (C.data.toList.drop k) c o (by omega) (by rw [← hR]; exact ho)
            obtain ⟨hol, harr⟩ := hfd
            rw [List.length_drop, len_data] at hol
            have hlen1 : (C.data.toList.drop k).length - 1 = t.length := by rw [List.length_drop, len_data, unhide HTL]; omega
            rw [hlen1, unhide HDC, ← unhide HF, ← unhide HDC, ← out_one] at harr
            obtain ⟨D, hD⟩ : ∃ D, D = C.extract k (k + o) ++ C.extract (k + o + 1) C.size := ⟨_, rfl⟩
            rw [← hD] at harr
            have hDs : D.size ≤ 64 := by
              rw [hD, ByteArray.size_append, ByteArray.size_extract, ByteArray.size_extract]
              omega
            have hnew : X + f c = x + sumTo f (c + 1) := by rw [hcs]; have := unhide HXC; omega
            have hle := unhide HSUM (c + 1) (by omega)
            rw [← hnew] at hle
            have hXb : X < 4294967296 ^ 200 := rank_big X (by unfold big60; omega)
            have hfb : f c < 4294967296 ^ 200 := rank_big (f c) (by unfold big60; omega)
            have HNEW := hide hnew
            have HOR := hide (fun w => orders_any D w hDs)
            rw [harr] at HOR
            have HXB := hide hXb
            have HFB := hide hfb
            obtain ⟨ko, hko'⟩ : ∃ ko, ko = k + o := ⟨_, rfl⟩
            obtain ⟨ko1, hko1'⟩ : ∃ ko1, ko1 = k + o + 1 := ⟨_, rfl⟩
            rw [← hko1', ← hko'] at hD
            obtain ⟨S1, hS1⟩ : ∃ S1, C.extract k ko = S1 := ⟨_, rfl⟩
            obtain ⟨S2, hS2⟩ : ∃ S2, C.extract ko1 C.size = S2 := ⟨_, rfl⟩
            rw [hS1, hS2] at hD
            have hD' := hD.symm
            have hz1 : S1.size ≤ 64 := by rw [← hS1, ByteArray.size_extract]; omega
            have hz2 : S2.size ≤ 64 := by rw [← hS2, ByteArray.size_extract]; omega
            have hz3 : ¬ S1.size + S2.size > 9223372036854775807 := by omega
            have hz4 : S1.size + S2.size ≤ 9223372036854775807 := by omega
            have hs1 := hg.lt
            have hsp := hbx.lt
            have hne : w.heap.size ≠ w1.heap.size := by omega
            subst ho
            have hi1 : (k : Int) + (o : Int) = (ko : Int) := by omega
            have hi2 : (ko : Int) + 1 = (ko1 : Int) := by omega
            have hi3 : (k : Int) ≤ (ko : Int) := by omega
            have hi4 : (ko : Int) ≤ (C.size : Int) := by omega
            have hi5 : (ko1 : Int) ≤ (C.size : Int) := by omega
            have hi6 : (0 : Int) ≤ (ko1 : Int) := by omega
            have hi7 : (0 : Int) ≤ (ko : Int) := by omega
            have hi8 : IntKind.i64.wrap (ko : Int) = (ko : Int) := IntWalk.i64_in _ (by omega)
            have hi9 : IntKind.i64.wrap (ko1 : Int) = (ko1 : Int) := IntWalk.i64_in _ (by omega)
            have hn4 : k ≤ ko := by omega
            have hn5 : ko ≤ C.size := by omega
            have hn6 : ko1 ≤ C.size := by omega
            have ho0 : ¬ (o : Int) < 0 := by omega
            have ho1 : (0 : Int) ≤ (o : Int) := by omega
            clear hR hge hnew hcs hle hXb hfb harr hlen1 hD hneg hol hko' hko1'
            have HG := hide hg
            have HBX := hide hbx
            have HBW := hide hbw
            clear hg hbx hbw
            go_wp2_with fail
            refine (unhide HIX _).mono ?_
            rintro e w' ⟨rfl, rfl⟩
            have hgd : isBig w'.drew w1.heap.size X := (unhide HG).below ⟨rfl, rfl, rfl, Nat.le_refl _, fun _ _ => rfl⟩ (Nat.le_refl _)
            have HGD := hide hgd
            clear hgd
            go_wp2
            go_region_held3 (fun v => v.cell? ⟨w.heap.size, 2, none⟩ = some (.string C))
              (first
                | (go_keep; done)
                | (exact q3)
                | (exact q2))
              (first
                | (go_at_call 25; (with_reducible refine (unhide HOR _).mono ?_); rintro e wo ⟨rfl, hgo, hbo⟩; have q2 := (hbo.cell (p := ⟨w.heap.size, 2, none⟩) (by dsimp only [World.drew]; omega)).trans d2; have hg1 := (unhide HGD).below hbo (Nat.le_refl _); obtain ⟨vv, hvv⟩ := hg1.num)
                | (go_at_call 32; refine (Add_any w1.heap.size w1.heap.size _ X (f c) vv wo hvv hg1 hgo (unhide HXB) (unhide HFB)).mono ?_; rintro e wa ⟨rfl, hga, hba⟩; have q3 := (hba.cell w.heap.size 2 (by have := hbo.size; dsimp only [World.drew] at this; omega) hne).trans q2))
            have hso : w'.heap.size ≤ wo.heap.size := hbo.size
            have hbo' : Below w'.heap.size w' wo := ⟨hbo.os, hbo.tape, hbo.output, hbo.size, hbo.block⟩
            have hbx3 := ((unhide HBX).below hbo' hsp).but hba (by omega) hne
            have hbw3 : Below w.heap.size w wa := ((unhide HBW).trans (hbo'.mono (by omega))).trans (hba.fresh (by omega) (by omega))
            have HGA := hide hga
            have HBX3 := hide hbx3
            have HBW3 := hide hbw3
            clear hga hba hbo hbo' hbx3 hbw3 hgo hg1 hvv q2 q3
            go_wp2
            go_roundw
            case rel => exact ⟨c + 1, X + f c, by omega, by go_num, HNEW, unhide HGA, unhide HBX3, unhide HBW3⟩
            case measure => simp [intOf]; omega
        · obtain rfl : c = M := by omega
          have hci : ¬ (c : Int) < (c : Int) := by omega
          have hnew : X + rkL (C.data.toList.drop (k + 1)) = rkL C.data.toList := by
            have h1 := unhide HX1
            rw [unhide HT] at h1
            have h2 := unhide HXC
            omega
          have HNEW := hide hnew
          clear hnew
          go_wp2
          go_roundw
          case rel => exact ⟨k + 1, X, by omega, by go_num, HNEW, hg, hbx, hbw⟩
          case measure => simp [intOf]; omega
    · obtain rfl : k = C.size := by omega
      have hki : ¬ (C.size : Int) < (C.size : Int) := by omega
      have hxe : x = rkL C.data.toList := by
        have h1 := unhide HX
        rw [drop_all C C.size (Nat.le_refl _), rkL] at h1
        omega
      have HXE := hide hxe
      have hxb : x < 1152921504606846976 := by omega
      have HI : Hid (∀ n, Calls Try.prog 28 #[.pointer (some ⟨w1.heap.size, 0, none⟩)] (wr.drewN n) fun e w'' => e = .returned (.int .i64 (x : Int)) ∧ ∃ m, w'' = wr.drewN m) := by
        intro n
        refine (Int64_any _ x (wr.drewN n) (hg.below ⟨rfl, rfl, rfl, Nat.le_refl _, fun _ _ => rfl⟩ (Nat.le_refl _)) (by omega)).mono ?_
        rintro e w'' ⟨rfl, rfl⟩
        exact ⟨rfl, n, rfl⟩
      clear hxe
      go_wp2
      go_quiet ((go_at_call 28; exact unhide HI _))
      go_wp2
      go_ret2
      exact ⟨by rw [← unhide HXE]; rfl, below_drewN hbw _⟩
end Go.Proofs.Ytbcedjjocpjkjaa

namespace Go.Proofs.Ytbcedjjocpjkjaa
open Go.RowKit
attribute [local go_sem ↓] Go.wp_at_zero Go.wp_at_succ

set_option maxHeartbeats 400000 in
theorem Ranked_large {W H : Nat} {T : Int} {C A B : ByteArray} (w : World) (p : IsPos W H C T A B) (hcb : countB C.data.toList = false) :
    Calls Try.prog 10 #[.agg #[.int .i64 W, .int .i64 H, .string C, .int .i64 T, .string A, .string B]] w fun e w' =>
      e = .returned (.tuple #[.int .i64 0, .int .i64 2]) ∧ Below w.heap.size w w' := by
  have HK := hide (fun w => Kinds_large w p hcb)
  clear hcb p
  go_enter Try.func10, Try.ntmps10
  go_wp2_with fail
  refine (unhide HK _).mono ?_
  rintro e w1 ⟨rfl, hb1⟩
  have hw1 : Below w.heap.size w w1 := below_on (Below.refl _ _) (Nat.le_refl _) hb1
  clear hb1
  go_wp2
  go_ret2
  exact ⟨rfl, hw1⟩

set_option maxHeartbeats 400000 in
theorem Ranked_no (W H T : Int) (C A B : ByteArray) (w : World) (hA : A.size ≤ maxLen) (hB : B.size ≤ maxLen) (h : posB W H C.data.toList T A.data.toList B.data.toList = false) :
    Calls Try.prog 10 #[.agg #[.int .i64 W, .int .i64 H, .string C, .int .i64 T, .string A, .string B]] w fun e w' =>
      e = .returned (.tuple #[.int .i64 0, .int .i64 1]) ∧ Below w.heap.size w w' := by
  have HK := hide (fun w => Kinds_no W H T C A B w hA hB h)
  clear h
  go_enter Try.func10, Try.ntmps10
  go_wp2_with fail
  refine (unhide HK _).mono ?_
  rintro e w1 ⟨rfl, hb1⟩
  have hw1 : Below w.heap.size w w1 := below_on (Below.refl _ _) (Nat.le_refl _) hb1
  clear hb1
  go_wp2
  go_ret2
  exact ⟨rfl, hw1⟩
end Go.Proofs.Ytbcedjjocpjkjaa
