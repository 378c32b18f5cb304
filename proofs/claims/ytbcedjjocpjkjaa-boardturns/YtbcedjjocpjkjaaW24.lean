/-
  gameref.Exchanged, walked: the players changed, the same as board.Swapped gives.
-/
import Derived.Test.YtbcedjjocpjkjaaW23
import Derived.Test.YtbcedjjocpjkjaaM4
namespace Go.Proofs.Ytbcedjjocpjkjaa
open Go.RowKit

theorem conv_one (w : World) (v : Int) (c : UInt8) (h : v = (c.toNat : Int)) :
    (convert 66 9 (.slice (some ⟨w.heap.size, 0, none⟩) 1 1)).run Try.prog (w.alloc (.cells #[.int .u8 v] 5)) = .ok (.string ⟨#[c]⟩) (w.alloc (.cells #[.int .u8 v] 5)) := by
  subst h
  refine run_convert_bytes_back (w.alloc (.cells #[.int .u8 (c.toNat : Int)] 5)) 66 9 5 ⟨w.heap.size, 0, none⟩ 1 [c] Try.underlying66 Try.underlying5 Try.underlying9 fun j hj => ?_
  have e : (⟨w.heap.size, 0, none⟩ : Addr).add j = ⟨w.heap.size, 0 + j, none⟩ := by unfold Addr.add; split <;> simp_all
  rw [e, cell_of_row _ _ _ _ _ _ (heap_alloc_new w _)]
  have hj0 : j = 0 := by simpa using hj
  subst hj0
  rfl

theorem flip_big : ∀ n : Nat, n < 256 → capB n = true → (n : Int) + 32 = ((flipB (UInt8.ofNat n)).toNat : Int) := by decide +kernel
theorem flip_small : ∀ n : Nat, n < 256 → smallB n = true → (n : Int) - 32 = ((flipB (UInt8.ofNat n)).toNat : Int) := by decide +kernel
theorem flip_dot : ∀ n : Nat, n < 256 → cellB n = true → capB n = false → smallB n = false → (n : Int) = ((flipB (UInt8.ofNat n)).toNat : Int) := by decide +kernel

theorem append_map (l : List UInt8) (n : Nat) (hn : n < l.length) :
    (⟨((l.take n).map flipB).toArray⟩ : ByteArray) ++ (⟨#[flipB l[n]]⟩ : ByteArray) = ⟨((l.take (n + 1)).map flipB).toArray⟩ := by
  apply ByteArray.ext
  apply Array.toList_inj.1
  rw [List.take_succ_eq_append_getElem hn, List.map_append]
  rfl

set_option maxHeartbeats 1000000 in
set_option maxRecDepth 100000 in
theorem exchanged_any {W H : Nat} {T : Int} {C A B : ByteArray} (w : World) (p : IsPos W H C T A B) :
    Calls Try.prog 18 #[.agg #[.int .i64 W, .int .i64 H, .string C, .int .i64 T, .string A, .string B]] w fun e w' =>
      e = .returned (.agg #[.int .i64 W, .int .i64 H, .string (sstr C W H), .int .i64 (1 - T), .string B, .string A]) ∧ Below w.heap.size w w' := by
  have hT0 : 0 ≤ T := by rcases p.t with h | h <;> omega
  have hT1 : T ≤ 1 := by rcases p.t with h | h <;> omega
  have p2 := p.turned 2
  have h64 : (tstr C W H 2).size ≤ 64 := p2.c64
  have HA : Hid (∀ i (h : i < (tstr C W H 2).size), cellB ((tstr C W H 2)[i].toNat : Nat) = true) := by
    intro i h
    have hall := p2.cs
    simp only [cellsB, List.all_eq_true] at hall
    exact hall _ (by have : (tstr C W H 2).data.toList[i]'(by rw [len_data]; exact h) = (tstr C W H 2)[i] := rfl
                     rw [← this]; exact List.getElem_mem _)
  obtain ⟨D, hD⟩ : ∃ D, D = tstr C W H 2 := ⟨_, rfl⟩
  rw [← hD] at HA h64
  have HD := hide hD
  clear p2
  go_enter Try.func18, Try.ntmps18
  go_wp2_with fail
  refine (round_2 _ p).mono ?_
  rintro e w1 ⟨rfl, hb1⟩
  rw [← hD]
  clear hD
  have hz : w.heap.size + 1 < w1.heap.size := by have := hb1.size; simp at this; omega
  have hx : isBox w1 w.heap.size (.int .i64 W) (.int .i64 H) (.string C) (.int .i64 T) (.string A) (.string B) := (show isBox _ _ _ _ _ _ _ _ by rw [isBox, Below.heap_alloc _ _ _ (by simp)]; exact heap_alloc_new w _).below hb1 (by simp; omega)
  have hr : isBox w1 (w.heap.size + 1) (.int .i64 0) (.int .i64 0) (.string ⟨#[]⟩) (.int .i64 0) (.string ⟨#[]⟩) (.string ⟨#[]⟩) := (show isBox _ _ _ _ _ _ _ _ by have := heap_alloc_new (w.alloc (.cells #[.int .i64 W, .int .i64 H, .string C, .int .i64 T, .string A, .string B] 24)) (.cells #[.int .i64 0, .int .i64 0, .string ⟨#[]⟩, .int .i64 0, .string ⟨#[]⟩, .string ⟨#[]⟩] 24); simpa [isBox] using this).below hb1 (by simp)
  have hbw : Below w.heap.size w w1 := Below.trans (((Below.refl _ _).alloc (Nat.le_refl _) _).alloc (by simp) _) (hb1.mono (by simp; omega))
  clear hb1
  obtain ⟨wq, hwq⟩ : ∃ wq, wq = w1.alloc (.cells #[.int .i64 W, .int .i64 H, .string D, .int .i64 T, .string A, .string B] 24) := ⟨_, rfl⟩
  have hbq : Below w1.heap.size w1 wq := by rw [hwq]; exact (Below.refl _ _).alloc (Nat.le_refl _) _
  have bq : isBox wq w1.heap.size (.int .i64 W) (.int .i64 H) (.string D) (.int .i64 T) (.string A) (.string B) := by rw [hwq]; exact isBox_new w1 _ _ _ _ _ _
  have bp := hx.below hbq (by omega)
  have br := hr.below hbq (by omega)
  have hbw' := hbw.trans (hbq.mono (by omega))
  have hsq : w1.heap.size < wq.heap.size := by rw [hwq]; exact lt_alloc _ _
  clear hx hr hbw hbq
  go_wp2
  rw [← hwq]
  clear hwq
  go_loopw [4, 5] (fun s i wr => ∃ n : Nat, n ≤ D.size ∧ i = .int .i64 n ∧ s = .string ⟨((D.data.toList.take n).map flipB).toArray⟩ ∧ Below (w1.heap.size + 1) wq wr) (fun _ i _ => D.size - (intOf i).toNat)
  case atStart => exact ⟨0, Nat.zero_le _, rfl, by simp, Below.refl _ _⟩
  case round =>
    obtain ⟨n, hn, rfl, rfl, hbr⟩ := hrel
    have bqr := bq.below hbr (by omega)
    have hsr := hbr.size
    by_cases hlt : n < D.size
    · obtain ⟨q0, q1, q2, q3, q4, q5⟩ := bqr.cells
      have hl : n < D.data.toList.length := by rw [len_data]; exact hlt
      have hap := append_map D.data.toList n hl
      have hss : D.data.toList[n] = D[n] := rfl
      rw [hss] at hap
      have HAP := hide hap
      have hcb := unhide HA n hlt
      have hc256 : D[n].toNat < 256 := D[n].toNat_lt
      have hofn : UInt8.ofNat D[n].toNat = D[n] := UInt8.ofNat_toNat
      have hsum : (⟨((D.data.toList.take n).map flipB).toArray⟩ : ByteArray).size ≤ 64 := by
        have : (⟨((D.data.toList.take n).map flipB).toArray⟩ : ByteArray).size = min n D.data.toList.length := by rw [← len_data]; simp
        omega
      obtain ⟨S, hS⟩ : ∃ S : ByteArray, S = ⟨((D.data.toList.take n).map flipB).toArray⟩ := ⟨_, rfl⟩
      rw [← hS] at hsum hap ⊢
      have HAP := hide hap
      clear hss hap hS
      cases hcap : capB D[n].toNat with
      | true =>
        have hv := flip_big D[n].toNat hc256 hcap
        rw [hofn] at hv
        have hcv := conv_one wr _ _ hv
        have hb1 : (65 : Int) ≤ D[n].toNat := by simp [capB] at hcap; omega
        have hb2 : (D[n].toNat : Int) ≤ 90 := by simp [capB] at hcap; omega
        clear hv hofn hcb
        go_wp2_with (first | (go_at_call 41; refine (Big_any _ _).mono ?_; rintro e w' ⟨rfl, rfl⟩) | (go_at_call 42; refine (Small_any _ _).mono ?_; rintro e w' ⟨rfl, rfl⟩))
        go_roundw
        case rel => exact ⟨n + 1, by omega, by go_num, by rw [unhide HAP], hbr.alloc (by omega) _⟩
        case measure => simp [intOf]; omega
      | false =>
        cases hsm : smallB D[n].toNat with
        | true =>
          have hv := flip_small D[n].toNat hc256 hsm
          rw [hofn] at hv
          have hcv := conv_one wr _ _ hv
          have hb1 : (97 : Int) ≤ D[n].toNat := by simp [smallB] at hsm; omega
          have hb2 : (D[n].toNat : Int) ≤ 122 := by simp [smallB] at hsm; omega
          clear hv hofn hcb
          go_wp2_with (first | (go_at_call 41; refine (Big_any _ _).mono ?_; rintro e w' ⟨rfl, rfl⟩) | (go_at_call 42; refine (Small_any _ _).mono ?_; rintro e w' ⟨rfl, rfl⟩))
          go_roundw
          case rel => exact ⟨n + 1, by omega, by go_num, by rw [unhide HAP], hbr.alloc (by omega) _⟩
          case measure => simp [intOf]; omega
        | false =>
          have hv := flip_dot D[n].toNat hc256 hcb hcap hsm
          rw [hofn] at hv
          have hcv := conv_one wr _ _ hv
          clear hv hofn hcb
          go_wp2_with (first | (go_at_call 41; refine (Big_any _ _).mono ?_; rintro e w' ⟨rfl, rfl⟩) | (go_at_call 42; refine (Small_any _ _).mono ?_; rintro e w' ⟨rfl, rfl⟩))
          go_roundw
          case rel => exact ⟨n + 1, by omega, by go_num, by rw [unhide HAP], hbr.alloc (by omega) _⟩
          case measure => simp [intOf]; omega
    · obtain rfl : n = D.size := by omega
      have bpr := bp.below hbr (by omega)
      have brr := br.below hbr (by omega)
      obtain ⟨d0, d1, d2, d3, d4, d5⟩ := bpr.cells
      obtain ⟨q0, q1, q2, q3, q4, q5⟩ := bqr.cells
      obtain ⟨r0, r1, r2, r3, r4, r5⟩ := brr.cells
      have zq2 := bqr.frozen 2
      have zq3 := bqr.frozen 3
      have zq4 := bqr.frozen 4
      have zq5 := bqr.frozen 5
      have z0 := brr.frozen 0
      have z1 := brr.frozen 1
      have z2 := brr.frozen 2
      have z3 := brr.frozen 3
      have z4 := brr.frozen 4
      have z5 := brr.frozen 5
      have hS : (⟨((D.data.toList.take D.size).map flipB).toArray⟩ : ByteArray) = sstr C W H := by
        rw [take_all D D.size (Nat.le_refl _), unhide HD]; rfl
      have n1 : ¬ w1.heap.size = w.heap.size := by omega
      have n2 : ¬ w.heap.size = w1.heap.size := by omega
      have n3 : ¬ w1.heap.size = w.heap.size + 1 := by omega
      have n4 : ¬ w.heap.size + 1 = w1.heap.size := by omega
      rw [hS]
      clear hS
      go_wp2
      go_region
      all_goals go_wp2
      refine bodyPost_ret (v := .agg #[.int .i64 W, .int .i64 H, .string (sstr C W H), .int .i64 (1 - T), .string B, .string A]) (by simp [results, Try.results18, go_sem, r0, r1, r2, r3, r4, r5]) rfl ⟨rfl, ?_⟩
      have hb := hbw'.trans (hbr.mono (by omega))
      repeat' (first | with_reducible exact hb | with_reducible refine Below.drew ?_ | with_reducible refine Below.setCell ?_ (by dsimp only; omega) _)
end Go.Proofs.Ytbcedjjocpjkjaa
