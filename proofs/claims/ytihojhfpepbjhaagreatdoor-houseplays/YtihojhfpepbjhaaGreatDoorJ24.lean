/-
  gameref.MoveText, walked.
  (*strings.Builder).copyCheck, WriteByte, WriteString, walked at this program: what the builder holds grows by what is written; nothing below its block turns.
  Texts of positions, plain mathematics: what is written is read, what is read to its end is written so.
  board.writeHand and board.Write, walked: the text of a position.
  board.Write, walked at a position.
-/
import Derived.Test.YtihojhfpepbjhaaGreatDoorJ23
import Derived.BigQuiet
import Derived.Test.YtihojhfpepbjhaaGreatDoorJ0
import Derived.Shelf.Strings.Builder1
import Derived.Test.YtihojhfpepbjhaaGreatDoorJ1
namespace Go.Proofs.YtihojhfpepbjhaaGreatDoor
open Go.RowKit
attribute [local go_sem ↓] Go.wp_at_zero Go.wp_at_succ

theorem dec_one : ∀ y : Nat, y < 8 → Lib.decDigits (y + 1) = [UInt8.ofNat (49 + y)] := by decide +kernel
set_option maxHeartbeats 2000000 in
set_option maxRecDepth 100000 in
theorem cellText_any (W : Nat) (H T : Int) (C A B : ByteArray) (i g : Nat) (w : World) (hpb : isPb w g W H T C A B) (hW : 1 ≤ W ∧ W ≤ 8) (hiW : i < W * 8) :
    Calls Tryz.prog 108 #[.int .i64 (i : Int), .pointer (some ⟨g, 0, none⟩)] w fun e w' => e = .returned (.string ⟨(cellT W i).toArray⟩) ∧ ∃ n, w' = w.drewN n := by
  have et : ((i : Int)).tmod (W : Int) = ((i % W : Nat) : Int) := by rw [Int.tmod_eq_emod_of_nonneg (by omega)]; rfl
  have eq : ((i : Int)).tdiv (W : Int) = ((i / W : Nat) : Int) := by rw [Int.tdiv_eq_ediv_of_nonneg (by omega)]; rfl
  have hx : i % W < W := Nat.mod_lt _ (by omega)
  have hy : i / W < 8 := Nat.div_lt_of_lt_mul hiW
  have hW0 : ¬ (W : Int) = 0 := by omega
  have hWn : ¬ W = 0 := by omega
  have hWb : ((W : Int) == 0) = false := by simp; omega
  have hW1 : ((W : Int) == -1) = false := by simp
  have hcell : cellT W i = [UInt8.ofNat (97 + i % W), UInt8.ofNat (49 + i / W)] := rfl
  generalize i % W = x at *
  generalize i / W = y at *
  obtain ⟨p0, p1, p2, p3, p4, p5⟩ := hpb.all
  obtain ⟨x1, hx1⟩ : ∃ x1, x1 = x + 1 := ⟨_, rfl⟩
  obtain ⟨y1, hy1⟩ : ∃ y1, y1 = y + 1 := ⟨_, rfl⟩
  have ex : (x : Int) + 1 = (x1 : Int) := by omega
  have ey : (y : Int) + 1 = (y1 : Int) := by omega
  have wx : IntKind.i64.wrap (x1 : Int) = (x1 : Int) := by unfold IntKind.wrap; simp [IntKind.signed, IntKind.bits]; omega
  have wy : IntKind.i64.wrap (y1 : Int) = (y1 : Int) := by unfold IntKind.wrap; simp [IntKind.signed, IntKind.bits]; omega
  have wy0 : IntKind.i64.wrap (y : Int) = (y : Int) := by unfold IntKind.wrap; simp [IntKind.signed, IntKind.bits]; omega
  obtain ⟨Y, hY⟩ : ∃ Y : ByteArray, Y = ⟨(Lib.decDigits y1).toArray⟩ := ⟨_, rfl⟩
  have HYT : Hid (∀ n, Calls Tryz.prog 75 #[.int .i64 (y1 : Int)] (w.drewN n) fun e w'' => e = .returned (.string Y) ∧ ∃ m, w'' = w.drewN m) := by
    intro n
    refine (Tryz.strconv_Itoa_small y1 (by omega) _).mono ?_
    rintro e w'' ⟨rfl, rfl⟩
    exact ⟨by rw [hY], n, rfl⟩
  have hx7 : x < 8 := by omega
  obtain ⟨X, hX⟩ : ∃ X : ByteArray, X = ⟨#[UInt8.ofNat (97 + x)]⟩ := ⟨_, rfl⟩
  have hsl : ∀ u, (Instr.slice 9 (.string ⟨#[97, 98, 99, 100, 101, 102, 103, 104]⟩) (some (.int .i64 (x : Int))) (some (.int .i64 (x1 : Int))) none).run Tryz.prog u = .ok (.string X) u := by
    intro u
    rw [hX, hx1]
    rcases (by omega : x = 0 ∨ x = 1 ∨ x = 2 ∨ x = 3 ∨ x = 4 ∨ x = 5 ∨ x = 6 ∨ x = 7) with rfl | rfl | rfl | rfl | rfl | rfl | rfl | rfl <;> kernel_rfl
  have HF : Hid (X ++ Y = ⟨(cellT W i).toArray⟩) := hide (by rw [hX, hY, hy1, dec_one y hy, hcell]; rfl)
  have hsz : X.size + Y.size ≤ 9223372036854775807 := by
    rw [hX, hY, hy1, dec_one y hy]
    show 1 + 1 ≤ 9223372036854775807
    omega
  clear hX hY hpb hcell hx1 hy1
  go_enter Tryz.func108, Tryz.ntmps108
  go_wp2_with fail
  go_quiet (first
    | (go_at_call 75; with_reducible exact unhide HYT _))
  go_wp2
  go_ret
  exact ⟨by rw [← unhide HF]; rfl, _, rfl⟩
theorem ba_list (a b : ByteArray) : (a ++ b).data.toList = a.data.toList ++ b.data.toList := by simp
theorem ba_eqG {a : ByteArray} {l : List UInt8} (h : a.data.toList = l) : a = ⟨l.toArray⟩ := by
  subst h
  rfl
set_option maxHeartbeats 2000000 in
set_option maxRecDepth 100000 in
theorem rText_drop (W : Nat) (H T : Int) (C A B : ByteArray) (t : Nat) (c : UInt8) (w : World) (hW : 1 ≤ W ∧ W ≤ 8) (htW : t < W * 8) :
    Calls Tryz.prog 74 #[.agg #[.int .i64 (W : Int), .int .i64 H, .string C, .int .i64 T, .string A, .string B], .agg #[.int .i64 (-1), .int .i64 (t : Int), .int .u8 (c.toNat : Int)]] w fun e w' => e = .returned (.string ⟨(txtL W C (-1) t c).toArray⟩) ∧ Below w.heap.size w w' := by
  obtain ⟨f, hf⟩ : ∃ f : Int, f = -1 := ⟨_, rfl⟩
  rw [← hf]
  obtain ⟨w1, hw1⟩ : ∃ w1, w1 = w.alloc (.cells #[.int .i64 (W : Int), .int .i64 H, .string C, .int .i64 T, .string A, .string B] 24 (0, 0)) := ⟨_, rfl⟩
  obtain ⟨w2, hw2⟩ : ∃ w2, w2 = w1.alloc (.cells #[.int .i64 f, .int .i64 (t : Int), .int .u8 (c.toNat : Int)] 61 (0, 0)) := ⟨_, rfl⟩
  obtain ⟨w3, hw3⟩ : ∃ w3, w3 = w2.alloc (.cells #[.int .u8 (c.toNat : Int)] 5 (0, 0)) := ⟨_, rfl⟩
  have hb1 : Below w.heap.size w w1 := by rw [hw1]; exact (Below.refl _ _).alloc (Nat.le_refl _) _
  have hb2 : Below w1.heap.size w1 w2 := by rw [hw2]; exact (Below.refl _ _).alloc (Nat.le_refl _) _
  have hb3 : Below w2.heap.size w2 w3 := by rw [hw3]; exact (Below.refl _ _).alloc (Nat.le_refl _) _
  have s1 : w1.heap.size = w.heap.size + 1 := by rw [hw1]; simp
  have s2 : w2.heap.size = w.heap.size + 1 + 1 := by rw [hw2]; simp [s1]
  have hpb : isPb w3 w.heap.size W H T C A B := isPb.below (isPb.below (show isPb w1 w.heap.size W H T C A B by rw [hw1]; exact heap_alloc_new w _) hb2 (by omega)) hb3 (by omega)
  have hmb : isMb w3 (w.heap.size + 1) f t (c.toNat : Int) := isMb.below (show isMb w2 (w.heap.size + 1) f t (c.toNat : Int) by rw [hw2, ← s1]; exact heap_alloc_new w1 _) hb3 (by omega)
  have hown : w3.ownsRow (w.heap.size + 1 + 1) 5 1 (.slice (some ⟨w2.heap.size, 0, none⟩) 1 1) 1 (bvals [c]) := by rw [hw3]; exact own_one _ c (by omega)
  have hcv0 := own_conv hown rfl (by omega)
  obtain ⟨S0, hS0⟩ : ∃ S0 : ByteArray, S0 = ⟨[c].toArray⟩ := ⟨_, rfl⟩
  rw [s2, ← hS0, hw3, hw2, hw1] at hcv0
  have zS0 : S0.size = 1 := by rw [hS0]; rfl
  have hbw : Below w.heap.size w w3 := (hb1.trans (hb2.mono (by omega))).trans (hb3.mono (by omega))
  have HBD := hide (fun n => (show Below w.heap.size w (w3.drewN n) from ⟨hbw.os, hbw.tape, hbw.output, hbw.size, hbw.block⟩))
  have hpbd : ∀ n, isPb (w3.drewN n) w.heap.size W H T C A B := fun n => hpb
  obtain ⟨X, hX⟩ : ∃ X : ByteArray, X = ⟨(cellT W t).toArray⟩ := ⟨_, rfl⟩
  have zX : X.size = 2 := by rw [hX]; rfl
  have HXT : Hid (∀ n, Calls Tryz.prog 108 #[.int .i64 (t : Int), .pointer (some ⟨w.heap.size, 0, none⟩)] (w3.drewN n) fun e w'' => e = .returned (.string X) ∧ ∃ m, w'' = w3.drewN m) := by
    intro n
    refine (cellText_any W H T C A B t w.heap.size _ (hpbd n) hW htW).mono ?_
    rintro e w'' ⟨rfl, m, rfl⟩
    exact ⟨by rw [hX], n + m, by unfold World.drewN; simp [Nat.add_assoc]⟩
  have HX0 := hide (cellText_any W H T C A B t w.heap.size w3 hpb hW htW)
  rw [← hX] at HX0
  obtain ⟨p0, p1, p2, p3, p4, p5⟩ := hpb.all
  obtain ⟨m0, m1, m2⟩ := hmb.all
  have HW1 := hide hw1
  have HW2 := hide hw2
  have HW3 := hide hw3
  have hneg : f < 0 := by omega
  obtain ⟨S1, hS1⟩ : ∃ S1, S0 ++ (⟨#[64]⟩ : ByteArray) = S1 := ⟨_, rfl⟩
  obtain ⟨S2, hS2⟩ : ∃ S2, S1 ++ X = S2 := ⟨_, rfl⟩
  have zA : (⟨#[64]⟩ : ByteArray).size = 1 := rfl
  have z1 : S1.size = 2 := by rw [← hS1, ByteArray.size_append, zS0, zA]
  have q1 : S0.size + (⟨#[64]⟩ : ByteArray).size ≤ 9223372036854775807 := by omega
  have q2 : S1.size + X.size ≤ 9223372036854775807 := by omega
  have HF : Hid (S2 = ⟨(txtL W C f t c).toArray⟩) := hide (by
    apply ba_eqG
    unfold txtL
    rw [if_pos hf, ← hS2, ← hS1, ba_list, ba_list, hS0, hX]
    simp)
  clear hw1 hw2 hw3 hb1 hb2 hb3 s1 s2 hpb hmb hown hbw hf hS0 hX hpbd zS0 zX zA z1
  go_enter Tryz.func74, Tryz.ntmps74
  go_upto_region 3 with fail
  rw [← unhide HW1, ← unhide HW2, ← unhide HW3]
  clear HW1 HW2 HW3 hcv0
  go_wp2_with fail
  refine (unhide HX0).mono ?_
  rintro e w' ⟨rfl, n, rfl⟩
  go_wp2
  go_ret
  exact ⟨by rw [← unhide HF]; rfl, unhide HBD n⟩
set_option maxHeartbeats 2000000 in
set_option maxRecDepth 100000 in
theorem rText_go (W : Nat) (H T : Int) (C A B : ByteArray) (fr t : Nat) (c : UInt8) (w : World) (hW : 1 ≤ W ∧ W ≤ 8) (hfW : fr < W * 8) (htW : t < W * 8) (htC : t < C.size) :
    Calls Tryz.prog 74 #[.agg #[.int .i64 (W : Int), .int .i64 H, .string C, .int .i64 T, .string A, .string B], .agg #[.int .i64 (fr : Int), .int .i64 (t : Int), .int .u8 (c.toNat : Int)]] w fun e w' => e = .returned (.string ⟨(txtL W C fr t c).toArray⟩) ∧ Below w.heap.size w w' := by
  obtain ⟨f, hf⟩ : ∃ f : Int, f = fr := ⟨_, rfl⟩
  rw [← hf]
  obtain ⟨w1, hw1⟩ : ∃ w1, w1 = w.alloc (.cells #[.int .i64 (W : Int), .int .i64 H, .string C, .int .i64 T, .string A, .string B] 24 (0, 0)) := ⟨_, rfl⟩
  obtain ⟨w2, hw2⟩ : ∃ w2, w2 = w1.alloc (.cells #[.int .i64 f, .int .i64 (t : Int), .int .u8 (c.toNat : Int)] 61 (0, 0)) := ⟨_, rfl⟩
  obtain ⟨w3, hw3⟩ : ∃ w3, w3 = w2.alloc (.cells #[.int .u8 (c.toNat : Int)] 5 (0, 0)) := ⟨_, rfl⟩
  have hb1 : Below w.heap.size w w1 := by rw [hw1]; exact (Below.refl _ _).alloc (Nat.le_refl _) _
  have hb2 : Below w1.heap.size w1 w2 := by rw [hw2]; exact (Below.refl _ _).alloc (Nat.le_refl _) _
  have hb3 : Below w2.heap.size w2 w3 := by rw [hw3]; exact (Below.refl _ _).alloc (Nat.le_refl _) _
  have s1 : w1.heap.size = w.heap.size + 1 := by rw [hw1]; simp
  have s2 : w2.heap.size = w.heap.size + 1 + 1 := by rw [hw2]; simp [s1]
  have hpb : isPb w3 w.heap.size W H T C A B := isPb.below (isPb.below (show isPb w1 w.heap.size W H T C A B by rw [hw1]; exact heap_alloc_new w _) hb2 (by omega)) hb3 (by omega)
  have hmb : isMb w3 (w.heap.size + 1) f t (c.toNat : Int) := isMb.below (show isMb w2 (w.heap.size + 1) f t (c.toNat : Int) by rw [hw2, ← s1]; exact heap_alloc_new w1 _) hb3 (by omega)
  have hown : w3.ownsRow (w.heap.size + 1 + 1) 5 1 (.slice (some ⟨w2.heap.size, 0, none⟩) 1 1) 1 (bvals [c]) := by rw [hw3]; exact own_one _ c (by omega)
  have hcv0 := own_conv hown rfl (by omega)
  obtain ⟨S0, hS0⟩ : ∃ S0 : ByteArray, S0 = ⟨[c].toArray⟩ := ⟨_, rfl⟩
  rw [s2, ← hS0, hw3, hw2, hw1] at hcv0
  have zS0 : S0.size = 1 := by rw [hS0]; rfl
  have hbw : Below w.heap.size w w3 := (hb1.trans (hb2.mono (by omega))).trans (hb3.mono (by omega))
  have HBD := hide (fun n => (show Below w.heap.size w (w3.drewN n) from ⟨hbw.os, hbw.tape, hbw.output, hbw.size, hbw.block⟩))
  have hpbd : ∀ n, isPb (w3.drewN n) w.heap.size W H T C A B := fun n => hpb
  obtain ⟨X, hX⟩ : ∃ X : ByteArray, X = ⟨(cellT W t).toArray⟩ := ⟨_, rfl⟩
  have zX : X.size = 2 := by rw [hX]; rfl
  have HXT : Hid (∀ n, Calls Tryz.prog 108 #[.int .i64 (t : Int), .pointer (some ⟨w.heap.size, 0, none⟩)] (w3.drewN n) fun e w'' => e = .returned (.string X) ∧ ∃ m, w'' = w3.drewN m) := by
    intro n
    refine (cellText_any W H T C A B t w.heap.size _ (hpbd n) hW htW).mono ?_
    rintro e w'' ⟨rfl, m, rfl⟩
    exact ⟨by rw [hX], n + m, by unfold World.drewN; simp [Nat.add_assoc]⟩
  have HX0 := hide (cellText_any W H T C A B t w.heap.size w3 hpb hW htW)
  rw [← hX] at HX0
  obtain ⟨p0, p1, p2, p3, p4, p5⟩ := hpb.all
  obtain ⟨m0, m1, m2⟩ := hmb.all
  have HW1 := hide hw1
  have HW2 := hide hw2
  have HW3 := hide hw3
  obtain ⟨Z, hZ⟩ : ∃ Z : ByteArray, Z = ⟨(cellT W fr).toArray⟩ := ⟨_, rfl⟩
  have zZ : Z.size = 2 := by rw [hZ]; rfl
  have HZT : Hid (∀ n, Calls Tryz.prog 108 #[.int .i64 f, .pointer (some ⟨w.heap.size, 0, none⟩)] (w3.drewN n) fun e w'' => e = .returned (.string Z) ∧ ∃ m, w'' = w3.drewN m) := by
    intro n
    rw [hf]
    refine (cellText_any W H T C A B fr w.heap.size _ (hpbd n) hW hfW).mono ?_
    rintro e w'' ⟨rfl, m, rfl⟩
    exact ⟨by rw [hZ], n + m, by unfold World.drewN; simp [Nat.add_assoc]⟩
  have hneg : ¬ f < 0 := by omega
  obtain ⟨hcn, h256⟩ := cellN_at C t htC
  obtain ⟨N, hN⟩ : ∃ N, N = cellN C t := ⟨_, rfl⟩
  rw [← hN] at hcn h256
  have htl : (t : Int) < (C.size : Int) := by omega
  have ht0 : (0 : Int) ≤ (t : Int) := by omega
  by_cases h46 : N = 46
  · have hb46 : ((N : Int) == 46) = true := by simp [h46]
    obtain ⟨S1, hS1⟩ : ∃ S1, S0 ++ Z = S1 := ⟨_, rfl⟩
    obtain ⟨S2, hS2⟩ : ∃ S2, S1 ++ (⟨#[45]⟩ : ByteArray) = S2 := ⟨_, rfl⟩
    obtain ⟨S3, hS3⟩ : ∃ S3, S2 ++ X = S3 := ⟨_, rfl⟩
    have zA : (⟨#[45]⟩ : ByteArray).size = 1 := rfl
    have z1 : S1.size = 3 := by rw [← hS1, ByteArray.size_append, zS0, zZ]
    have z2 : S2.size = 4 := by rw [← hS2, ByteArray.size_append, z1, zA]
    have q1 : S0.size + Z.size ≤ 9223372036854775807 := by omega
    have q2 : S1.size + (⟨#[45]⟩ : ByteArray).size ≤ 9223372036854775807 := by omega
    have q3 : S2.size + X.size ≤ 9223372036854775807 := by omega
    have HF : Hid (S3 = ⟨(txtL W C f t c).toArray⟩) := hide (by
      apply ba_eqG
      unfold txtL
      rw [if_neg (by omega), ← hN, if_pos h46, hf, Int.toNat_natCast, ← hS3, ← hS2, ← hS1, ba_list, ba_list, ba_list, hS0, hX, hZ])
    clear hw1 hw2 hw3 hb1 hb2 hb3 s1 s2 hpb hmb hown hbw hf hS0 hX hZ hpbd zS0 zX zZ zA z1 z2 hN h46 HX0
    go_enter Tryz.func74, Tryz.ntmps74
    go_upto_region 3 with fail
    rw [← unhide HW1, ← unhide HW2, ← unhide HW3]
    clear HW1 HW2 HW3 hcv0
    go_upto_region 6 with fail
    go_quiet (first
      | (go_at_call 108; with_reducible exact unhide HXT _)
      | (go_at_call 108; with_reducible exact unhide HZT _))
    go_wp2
    go_ret
    exact ⟨by rw [← unhide HF]; rfl, unhide HBD _⟩
  · have hb46 : ((N : Int) == 46) = false := by simp; omega
    obtain ⟨S1, hS1⟩ : ∃ S1, S0 ++ Z = S1 := ⟨_, rfl⟩
    obtain ⟨S2, hS2⟩ : ∃ S2, S1 ++ (⟨#[120]⟩ : ByteArray) = S2 := ⟨_, rfl⟩
    obtain ⟨S3, hS3⟩ : ∃ S3, S2 ++ X = S3 := ⟨_, rfl⟩
    have zA : (⟨#[120]⟩ : ByteArray).size = 1 := rfl
    have z1 : S1.size = 3 := by rw [← hS1, ByteArray.size_append, zS0, zZ]
    have z2 : S2.size = 4 := by rw [← hS2, ByteArray.size_append, z1, zA]
    have q1 : S0.size + Z.size ≤ 9223372036854775807 := by omega
    have q2 : S1.size + (⟨#[120]⟩ : ByteArray).size ≤ 9223372036854775807 := by omega
    have q3 : S2.size + X.size ≤ 9223372036854775807 := by omega
    have HF : Hid (S3 = ⟨(txtL W C f t c).toArray⟩) := hide (by
      apply ba_eqG
      unfold txtL
      rw [if_neg (by omega), ← hN, if_neg h46, hf, Int.toNat_natCast, ← hS3, ← hS2, ← hS1, ba_list, ba_list, ba_list, hS0, hX, hZ])
    clear hw1 hw2 hw3 hb1 hb2 hb3 s1 s2 hpb hmb hown hbw hf hS0 hX hZ hpbd zS0 zX zZ zA z1 z2 hN h46 HX0
    go_enter Tryz.func74, Tryz.ntmps74
    go_upto_region 3 with fail
    rw [← unhide HW1, ← unhide HW2, ← unhide HW3]
    clear HW1 HW2 HW3 hcv0
    go_upto_region 7 with fail
    go_quiet (first
      | (go_at_call 108; with_reducible exact unhide HXT _)
      | (go_at_call 108; with_reducible exact unhide HZT _))
    go_wp2
    go_ret
    exact ⟨by rw [← unhide HF]; rfl, unhide HBD _⟩
end Go.Proofs.YtihojhfpepbjhaaGreatDoor

namespace Go.Proofs.YtihojhfpepbjhaaGreatDoor
open Go.RowKit

theorem info_u8 : (Tryz.prog.info? 5).map (fun i => (i.zero, i.size, i.bytes)) = some (some (.int .u8 0), 1, 1) := by kernel_rfl
theorem size_bld : (Tryz.prog.info? 129).map (·.size) = some 2 := by kernel_rfl
theorem lies_bld : liesAt Tryz.prog Tryz.prog.depth 129 (2 / Tryz.prog.cellsOf 129) 0 129 1 = true := by kernel_rfl

/-- A builder in block b, all of its own from b on, that holds the bytes bs. -/
abbrev Bld (b : Nat) (l : List UInt8) (w : World) : Prop := Lib.IsBuilder 129 5 b b (Lib.byteCells l) w

set_option maxHeartbeats 1000000 in
set_option maxRecDepth 100000 in
theorem copyCheck_any (b : Nat) (l : List UInt8) (w : World) (h : Bld b l w) :
    Calls Tryz.prog 106 #[.pointer (some ⟨b, 0, none⟩)] w fun e w' => e = .returned (.tuple #[]) ∧ Lib.BuilderAt 129 5 b b (.pointer (some ⟨b, 0, none⟩)) (Lib.byteCells l) w' ∧ Below b w w' := by
  obtain ⟨j, hj, hjs⟩ := Option.map_eq_some_iff.1 size_bld
  rcases h with h | h
  · have h0 := h.cell0
    have hsh := h.shape
    have hfz := h.frozen0
    go_enter Tryz.func106, Tryz.ntmps106
    go_wp2
    rw [Lib.run_to_unsafe w ⟨b, 0, none⟩ Tryz.underlying126 Tryz.underlying192 hj (by rw [hjs]; decide) hsh (Nat.zero_lt_succ 1)]
    simp only [Result.andThen]
    rw [Oper.upon_value]
    go_wp2
    rw [run_callFunc_extern Tryz.func146 (by kernel_rfl) (by kernel_rfl) (by kernel_rfl) (e := Extern.AbiNoEscape.same) (by kernel_rfl)]
    rw [Lib.run_noEscape]
    simp only [Result.andThen]
    rw [Oper.upon_value]
    go_wp2
    rw [Lib.run_from_unsafe w ⟨b, 0, none⟩ Tryz.underlying192 Tryz.underlying126 hj hsh lies_bld]
    simp only [Result.andThen]
    rw [Oper.upon_value]
    go_wp2
    go_end0
    exact ⟨rfl, h.used _, (Below.refl b w).setCell (p := ⟨b, 0, none⟩) (Nat.le_refl _) _⟩
  · have h0 := h.cell0
    go_enter Tryz.func106, Tryz.ntmps106
    go_wp2
    rw [Lib.run_neq_ptr_same w _ Tryz.underlying126 hj]
    go_wp2
    go_end0
    exact ⟨rfl, h, Below.refl b _⟩

set_option maxHeartbeats 2000000 in
set_option maxRecDepth 100000 in
theorem WriteByte_any (b : Nat) (l : List UInt8) (c : UInt8) (w : World) (h : Bld b l w) (hlen : l.length < 1000000) :
    Calls Tryz.prog 70 #[.pointer (some ⟨b, 0, none⟩), .int .u8 (c.toNat : Int)] w fun e w' => e = .returned .nilIface ∧ Bld b (l ++ [c]) w' ∧ Below b w w' := by
  obtain ⟨i0, hi, hz0, hz1, hz2⟩ := info_parts info_u8
  have hbs : b < w.heap.size := by
    rcases h with h | h
    · exact h.lt
    · exact h.lt
  go_enter Tryz.func70, Tryz.ntmps70
  go_wp2_with (go_at_call 106; refine (copyCheck_any b l _ h).mono ?_)
  rintro e w1 ⟨rfl, h1, hb1⟩
  have hsz := hb1.size
  obtain ⟨hB, v, hbk, hown, hne⟩ := h1
  have c0 : w1.cell? ⟨b, 0, none⟩ = some (.pointer (some ⟨b, 0, none⟩)) := by rw [Lib.cell_of_heap hbk]; rfl
  have c1 : w1.cell? ⟨b, 1, none⟩ = some v := by rw [Lib.cell_of_heap hbk]; rfl
  have hll : (Lib.byteCells l).length = l.length := Lib.byteCells_length l
  go_wp2_with (at_builtin; refine wpList_append_own _ rfl _ _ 127 rfl b 5 i0 (.int .u8 0) 1 1 Tryz.underlying127 hi hz0 hz1 hz2 rfl (by decide) _ _ _ rfl (hown.alloc _) ⟨w1.heap.size, 0, none⟩ 1 1 [.int .u8 (c.toNat : Int)] rfl rfl ?c1 ?c2 ?c3 ?c4 ?c5 ?_)
  case c1 =>
    intro j u hj
    match j, hj with
    | 0, hj => simp at hj; subst hj; simp [Addr.add]
  case c2 => intro u hu; simp at hu; subst hu; rfl
  case c3 => unfold maxLen; omega
  case c4 => omega
  case c5 => simp; omega
  intro v' w2 hown' hgrow _
  have hlt : b < w1.heap.size := by omega
  have hb2 : w2.heap[b]? = some (.cells #[.pointer (some ⟨b, 0, none⟩), v] 129 (0, 0)) := by
    rw [hgrow.block b (by simp; omega) (fun e => hne e.symm), Lib.alloc_old w1 _ b hlt]
    exact hbk
  have d0 : w2.cell? ⟨b, 0, none⟩ = some (.pointer (some ⟨b, 0, none⟩)) := by rw [Lib.cell_of_heap hb2]; rfl
  have d1 : w2.cell? ⟨b, 1, none⟩ = some v := by rw [Lib.cell_of_heap hb2]; rfl
  have f1 : w2.frozen? ⟨b, 1, none⟩ = false := Lib.frozen_of_heap hb2 1
  obtain ⟨g, cap, rfl⟩ : ∃ g cap, v' = .slice (some ⟨g, 0, none⟩) (l.length + 1) cap := by
    rcases hown'.2 with ⟨_, h0⟩ | ⟨g, cap, cur, hv, _⟩
    · omega
    · exact ⟨g, cap, hv⟩
  go_wp2
  go_ret
  refine ⟨rfl, Or.inr ?_, ?_⟩
  · have hcs : Lib.byteCells (l ++ [c]) = Lib.byteCells l ++ [.int .u8 (c.toNat : Int)] := by simp [Lib.byteCells]
    rw [hcs]
    exact Lib.BuilderAt.put (T := 129) (e := 5) hB hb2 (bs' := Lib.byteCells l ++ [.int .u8 (c.toNat : Int)]) (by simpa [hll] using hown') (by decide)
  · exact ((hb1.alloc (by omega) _).grown hgrow (by simp; omega) (fun k hk => (hown.lt k hk).1)).setCell (p := ⟨b, 1, none⟩) hB _

set_option maxHeartbeats 2000000 in
set_option maxRecDepth 100000 in
theorem WriteString_any (b : Nat) (l : List UInt8) (s : ByteArray) (w : World) (h : Bld b l w) (hlen : l.length < 1000000) (hs : s.size < 1000000) :
    Calls Tryz.prog 69 #[.pointer (some ⟨b, 0, none⟩), .string s] w fun e w' => e = .returned (.tuple #[.int .i64 s.size, .nilIface]) ∧ Bld b (l ++ s.data.toList) w' ∧ Below b w w' := by
  obtain ⟨i0, hi, hz0, hz1, hz2⟩ := info_parts info_u8
  have hbs : b < w.heap.size := by
    rcases h with h | h
    · exact h.lt
    · exact h.lt
  go_enter Tryz.func69, Tryz.ntmps69
  go_wp2_with (go_at_call 106; refine (copyCheck_any b l _ h).mono ?_)
  rintro e w1 ⟨rfl, h1, hb1⟩
  have hsz := hb1.size
  obtain ⟨hB, v, hbk, hown, hne⟩ := h1
  have c0 : w1.cell? ⟨b, 0, none⟩ = some (.pointer (some ⟨b, 0, none⟩)) := by rw [Lib.cell_of_heap hbk]; rfl
  have c1 : w1.cell? ⟨b, 1, none⟩ = some v := by rw [Lib.cell_of_heap hbk]; rfl
  have hll : (Lib.byteCells l).length = l.length := Lib.byteCells_length l
  go_wp2_with (at_builtin; refine Lib.wpList_append_own_string _ rfl _ _ 127 9 rfl b 5 i0 Tryz.underlying127 Tryz.underlying9 hi hz0 hz1 hz2 _ _ _ rfl hown s rfl ?c3 ?c4 ?c5 ?_)
  case c3 => unfold maxLen; omega
  case c4 => omega
  case c5 => omega
  intro v' w2 hown' hgrow _
  have hlt : b < w1.heap.size := by omega
  have hb2 : w2.heap[b]? = some (.cells #[.pointer (some ⟨b, 0, none⟩), v] 129 (0, 0)) := by
    rw [hgrow.block b hlt (fun e => hne e.symm)]
    exact hbk
  have d0 : w2.cell? ⟨b, 0, none⟩ = some (.pointer (some ⟨b, 0, none⟩)) := by rw [Lib.cell_of_heap hb2]; rfl
  have d1 : w2.cell? ⟨b, 1, none⟩ = some v := by rw [Lib.cell_of_heap hb2]; rfl
  have f1 : w2.frozen? ⟨b, 1, none⟩ = false := Lib.frozen_of_heap hb2 1
  obtain ⟨ao, n', cap, rfl⟩ : ∃ ao n' cap, v' = .slice ao n' cap := by
    rcases hown'.2 with ⟨hv, _⟩ | ⟨g, cap, cur, hv, _⟩
    · exact ⟨_, _, _, hv⟩
    · exact ⟨_, _, _, hv⟩
  go_wp2
  go_ret2
  have hcs : Lib.byteCells (l ++ s.data.toList) = Lib.byteCells l ++ Lib.strCells s := by simp [Lib.byteCells, Lib.strCells]
  refine ⟨rfl, Or.inr ?_, ?_⟩
  · rw [hcs]
    exact Lib.BuilderAt.put (T := 129) (e := 5) hB hb2 (bs' := Lib.byteCells l ++ Lib.strCells s) (by simpa [Lib.strCells_length, hll] using hown') (by decide)
  · exact (hb1.grown hgrow (by omega) (fun k hk => (hown.lt k hk).1)).setCell (p := ⟨b, 1, none⟩) hB _

/-! ### (*strings.Builder).String: the library's contract, at this program's numbers -/
def str_ren : Go.Shelf.Ren := ⟨fun | 169 => 72 | n => n, fun | 0 => 0 | 3 => 3 | 5 => 5 | 9 => 9 | 37 => 127 | 70 => 126 | 72 => 129 | 127 => 156 | n => n, fun | n => n⟩
theorem str_lays : Go.Proofs.Lays.n169 Tryz.prog str_ren := {
  mixed := by kernel_rfl
  f169 := Tryz.func72.trans (congrArg some (by kernel_rfl))
  t0 := Tryz.underlying0
  a0 := Tryz.isAgg0
  z0 := Tryz.sizeOf0
  v0 := Tryz.zeroValue0
  t3 := Tryz.underlying3
  a3 := Tryz.isAgg3
  z3 := Tryz.sizeOf3
  v3 := Tryz.zeroValue3
  t9 := Tryz.underlying9
  a9 := Tryz.isAgg9
  z9 := Tryz.sizeOf9
  v9 := Tryz.zeroValue9
  t37 := Tryz.underlying127
  a37 := Tryz.isAgg127
  z37 := Tryz.sizeOf127
  v37 := Tryz.zeroValue127
  t70 := Tryz.underlying126
  a70 := Tryz.isAgg126
  z70 := Tryz.sizeOf126
  v70 := Tryz.zeroValue126
  t72 := Tryz.underlying129
  a72 := Tryz.isAgg129
  z72 := Tryz.sizeOf129
  v72 := Tryz.zeroValue129
  t127 := Tryz.underlying156
  a127 := Tryz.isAgg156
  z127 := Tryz.sizeOf156
  v127 := Tryz.zeroValue156 }
theorem str_extra : Builder.Extra Tryz.prog str_ren := {
  sizeBuilder := by kernel_rfl
  liesBuilder := by kernel_rfl
  t5 := Tryz.underlying5
  a5 := Tryz.isAgg5
  z5 := Tryz.sizeOf5
  v5 := Tryz.zeroValue5
  infoByte := by kernel_rfl
  cellsByte := by kernel_rfl
  sizeByte := by kernel_rfl
  neB5 := by decide }
theorem String_any (b : Nat) (l : List UInt8) (w : World) (h : Bld b l w) :
    Calls Tryz.prog 72 #[.pointer (some ⟨b, 0, none⟩)] w fun e w' => e = .returned (.string ⟨l.toArray⟩) ∧ Below b w w' :=
  Any.Builder_String_any str_lays str_extra b b l w h (by
    rcases h with h | h
    · exact Nat.le_of_lt h.lt
    · exact Nat.le_of_lt h.lt)
end Go.Proofs.YtihojhfpepbjhaaGreatDoor

namespace Go.Proofs.YtihojhfpepbjhaaGreatDoor

/-! ### Texts of positions: what is written, what is read -/

/-- The rows from the top one (of y) down, '/' between two. -/
def wrows (W : Nat) (C : List UInt8) : Nat → List UInt8
  | 0 => []
  | y + 1 => (C.drop (y * W)).take W ++ (if y = 0 then [] else 47 :: wrows W C y)
def whand (A : List UInt8) : List UInt8 := if A = [] then [45] else A
def wtxt (W H : Nat) (C : List UInt8) (T : Int) (A B : List UInt8) : List UInt8 :=
  wrows W C H ++ 32 :: (if T = 0 then 119 else 98) :: 32 :: (whand A ++ 47 :: whand B)

/-- How many capital letters stand at the head, none below b, none behind a greater one, at most m. -/
def hN : Nat → Int → List UInt8 → Nat
  | 0, _, _ => 0
  | _, _, [] => 0
  | m + 1, b, x :: l => if capB x.toNat && decide (b ≤ x.toNat) then hN m x.toNat l + 1 else 0

/-! ### Hands, and the whole -/

end Go.Proofs.YtihojhfpepbjhaaGreatDoor

namespace Go.Proofs.YtihojhfpepbjhaaGreatDoor
open Go.RowKit

theorem Bld.lt {b : Nat} {l : List UInt8} {w : World} (h : Bld b l w) : b < w.heap.size := by
  rcases h with h | h
  · exact h.lt
  · exact h.lt

theorem Bld.fresh (w : World) : Bld w.heap.size [] (w.alloc (.cells #[.pointer none, .slice none 0 0] 129 (0, 0))) := by
  refine Or.inl ⟨Nat.le_refl _, .slice none 0 0, heap_alloc_new w _, ?_, by simp [Value.ownBlock]⟩
  exact ⟨rfl, Or.inl ⟨rfl, rfl⟩⟩

theorem Bld.drew {b : Nat} {l : List UInt8} {w : World} (h : Bld b l w) : Bld b l w.drew := h

set_option maxHeartbeats 400000 in
theorem writeHand_any (b : Nat) (l : List UInt8) (s : ByteArray) (w : World) (h : Bld b l w) (hlen : l.length < 1000000) (hs : s.size < 1000000) :
    Calls Tryz.prog 71 #[.pointer (some ⟨b, 0, none⟩), .string s] w fun e w' => e = .returned (.tuple #[]) ∧ Bld b (l ++ whand s.data.toList) w' ∧ Below b w w' := by
  by_cases h0 : s.size = 0
  · have hs : s = ⟨#[]⟩ := by
      apply ByteArray.ext
      exact Array.eq_empty_of_size_eq_zero h0
    subst hs
    go_enter Tryz.func71, Tryz.ntmps71
    go_wp2_with (go_at_call 70; refine (WriteByte_any b l 45 _ h hlen).mono ?_)
    rintro e w1 ⟨rfl, h1, hb1⟩
    go_wp2
    refine bodyPost_ret (v := .tuple #[]) (by simp [results, Tryz.results71]) rfl ⟨rfl, h1, hb1⟩
  · have hne : s.data.toList ≠ [] := fun e => h0 (by rw [← len_data, e]; rfl)
    have hw : whand s.data.toList = s.data.toList := by rw [whand, if_neg hne]
    have hne2 : s.toList.isEmpty = false := by rw [Lib.toList_data, List.isEmpty_eq_false_iff]; exact hne
    go_enter Tryz.func71, Tryz.ntmps71
    go_wp2_with (go_at_call 69; refine (WriteString_any b l s _ h hlen hs).mono ?_)
    rintro e w1 ⟨rfl, h1, hb1⟩
    go_wp2
    go_end0
    exact ⟨rfl, by rw [hw]; exact h1, hb1⟩

end Go.Proofs.YtihojhfpepbjhaaGreatDoor

namespace Go.Proofs.YtihojhfpepbjhaaGreatDoor
open Go.RowKit

theorem wrows_length (W : Nat) (C : List UInt8) : ∀ n, (wrows W C n).length ≤ n * (W + 1)
  | 0 => by simp [wrows]
  | n + 1 => by
    have := wrows_length W C n
    rw [wrows, List.length_append, Nat.succ_mul]
    have h1 : (List.take W (List.drop (n * W) C)).length ≤ W := by simp; omega
    split <;> simp <;> omega

set_option maxHeartbeats 1000000 in
set_option maxRecDepth 100000 in
theorem Write_ok {W H : Nat} {T : Int} {C A B : ByteArray} (w : World) (p : IsPos W H C T A B) :
    Calls Tryz.prog 37 #[.agg #[.int .i64 W, .int .i64 H, .string C, .int .i64 T, .string A, .string B]] w fun e w' =>
      e = .returned (.tuple #[.string ⟨(wtxt W H C.data.toList T A.data.toList B.data.toList).toArray⟩, .int .i64 0]) ∧ Below w.heap.size w w' := by
  have HP := hide p
  have h64 := p.c64
  have hA := p.as
  have hB := p.bs
  have hW0 := p.w0
  have hW1 := p.w1
  have hH0 := p.h0
  have hH1 := p.h1
  have HC : Hid (C.size = W * H) := p.c
  have hT := p.t
  clear p
  go_enter Tryz.func37, Tryz.ntmps37
  go_wp2_with fail
  refine (Check_ok _ _ _ _ _ _ _ (by unfold maxLen; omega) (by unfold maxLen; omega) (by unfold maxLen; omega) (unhide HP).posB).mono ?_
  rintro e w1 ⟨rfl, hb1⟩
  have hs1 : w.heap.size + 1 ≤ w1.heap.size := by have := hb1.size; simp at this; omega
  obtain ⟨hc1, hf1⟩ := bcell hb1
  have d0 : w1.cell? ⟨w.heap.size, 0, none⟩ = some (.int .i64 W) := (hc1 w.heap.size 0 (by simp)).trans (by simp)
  have d1 : w1.cell? ⟨w.heap.size, 1, none⟩ = some (.int .i64 H) := (hc1 w.heap.size 1 (by simp)).trans (by simp)
  have d2 : w1.cell? ⟨w.heap.size, 2, none⟩ = some (.string C) := (hc1 w.heap.size 2 (by simp)).trans (by simp)
  have d3 : w1.cell? ⟨w.heap.size, 3, none⟩ = some (.int .i64 T) := (hc1 w.heap.size 3 (by simp)).trans (by simp)
  have d4 : w1.cell? ⟨w.heap.size, 4, none⟩ = some (.string A) := (hc1 w.heap.size 4 (by simp)).trans (by simp)
  have d5 : w1.cell? ⟨w.heap.size, 5, none⟩ = some (.string B) := (hc1 w.heap.size 5 (by simp)).trans (by simp)
  have hbw : Below w.heap.size w w1 := Below.trans ((Below.refl _ _).alloc (Nat.le_refl _) _) (hb1.mono (by simp))
  clear hc1 hf1 hb1
  have a1 : ∀ o, (w1.alloc o).cell? ⟨w.heap.size, 1, none⟩ = some (.int .i64 H) := fun o => (((Below.refl w1.heap.size w1).alloc (Nat.le_refl _) o).cell (p := ⟨w.heap.size, 1, none⟩) (by dsimp only; omega)).trans d1
  go_wp2
  clear a1
  have hfr := Bld.fresh w1
  go_loopw [6] (fun i wr => ∃ (k : Nat) (pre : List UInt8), k ≤ H ∧ i = .int .i64 ((k : Int) - 1) ∧ pre ++ wrows W C.data.toList k = wrows W C.data.toList H ∧ Bld w1.heap.size pre wr ∧ Below w1.heap.size w1 wr) (fun i _ => (intOf i + 1).toNat)
  case atStart => exact ⟨H, [], Nat.le_refl _, by go_num, rfl, hfr, (Below.refl _ _).alloc (Nat.le_refl _) _⟩
  case round =>
    obtain ⟨k, pre, hk, rfl, hpre, hbl, hbr⟩ := hrel
    clear hfr
    have hsz : w1.heap.size ≤ wr.heap.size := hbr.size
    have e0 := (hbr.cell (p := ⟨w.heap.size, 0, none⟩) (by dsimp only; omega)).trans d0
    have e2 := (hbr.cell (p := ⟨w.heap.size, 2, none⟩) (by dsimp only; omega)).trans d2
    have e3 := (hbr.cell (p := ⟨w.heap.size, 3, none⟩) (by dsimp only; omega)).trans d3
    have e4 := (hbr.cell (p := ⟨w.heap.size, 4, none⟩) (by dsimp only; omega)).trans d4
    have e5 := (hbr.cell (p := ⟨w.heap.size, 5, none⟩) (by dsimp only; omega)).trans d5
    have hpl : pre.length ≤ 72 := by
      have h1 := congrArg List.length hpre
      have h2 := wrows_length W C.data.toList H
      have h3 : H * (W + 1) ≤ 8 * 9 := Nat.mul_le_mul hH1 (by omega)
      rw [List.length_append] at h1
      omega
    cases k with
    | zero =>
      have hpe : pre = wrows W C.data.toList H := by rw [← hpre]; simp [wrows]
      have HPE := hide hpe
      have hA9 : A.data.toList.length ≤ 8 := by rw [len_data]; exact hA
      have hwA : (whand A.data.toList).length ≤ 8 := by unfold whand; split <;> simp <;> omega
      clear hpe hpre
      rcases hT with rfl | rfl
      · go_wp2_with fail
        refine (WriteString_any _ pre ⟨#[32, 119, 32]⟩ _ hbl (by omega) (by decide)).mono ?_
        rintro e w2 ⟨rfl, hbl2, hb2⟩
        have hs2 := hb2.size
        have q4 := (hb2.cell (p := ⟨w.heap.size, 4, none⟩) (by dsimp only; omega)).trans e4
        have q5 := (hb2.cell (p := ⟨w.heap.size, 5, none⟩) (by dsimp only; omega)).trans e5
        go_wp2_with fail
        refine (writeHand_any _ _ A _ hbl2 (by rw [List.length_append]; simp; omega) (by omega)).mono ?_
        rintro e w3 ⟨rfl, hbl3, hb3⟩
        have hs3 := hb3.size
        have t5 := (hb3.cell (p := ⟨w.heap.size, 5, none⟩) (by dsimp only; omega)).trans q5
        go_wp2_with fail
        refine (WriteByte_any _ _ 47 _ hbl3 (by rw [List.length_append, List.length_append]; simp; omega)).mono ?_
        rintro e w4 ⟨rfl, hbl4, hb4⟩
        have hs4 := hb4.size
        have v5 := (hb4.cell (p := ⟨w.heap.size, 5, none⟩) (by dsimp only; omega)).trans t5
        go_wp2_with fail
        refine (writeHand_any _ _ B _ hbl4 (by rw [List.length_append, List.length_append, List.length_append]; simp; omega) (by omega)).mono ?_
        rintro e w5 ⟨rfl, hbl5, hb5⟩
        go_wp2_with fail
        refine (String_any _ _ _ hbl5).mono ?_
        rintro e w6 ⟨rfl, hb6⟩
        go_wp2
        go_ret2
        refine ⟨?_, hbw.trans (((((hbr.trans hb2).trans hb3).trans hb4).trans hb5).trans hb6 |>.mono (by omega))⟩
        rw [unhide HPE]
        simp [wtxt]
      · go_wp2_with fail
        refine (WriteString_any _ pre ⟨#[32, 98, 32]⟩ _ hbl (by omega) (by decide)).mono ?_
        rintro e w2 ⟨rfl, hbl2, hb2⟩
        have hs2 := hb2.size
        have q4 := (hb2.cell (p := ⟨w.heap.size, 4, none⟩) (by dsimp only; omega)).trans e4
        have q5 := (hb2.cell (p := ⟨w.heap.size, 5, none⟩) (by dsimp only; omega)).trans e5
        go_wp2_with fail
        refine (writeHand_any _ _ A _ hbl2 (by rw [List.length_append]; simp; omega) (by omega)).mono ?_
        rintro e w3 ⟨rfl, hbl3, hb3⟩
        have hs3 := hb3.size
        have t5 := (hb3.cell (p := ⟨w.heap.size, 5, none⟩) (by dsimp only; omega)).trans q5
        go_wp2_with fail
        refine (WriteByte_any _ _ 47 _ hbl3 (by rw [List.length_append, List.length_append]; simp; omega)).mono ?_
        rintro e w4 ⟨rfl, hbl4, hb4⟩
        have hs4 := hb4.size
        have v5 := (hb4.cell (p := ⟨w.heap.size, 5, none⟩) (by dsimp only; omega)).trans t5
        go_wp2_with fail
        refine (writeHand_any _ _ B _ hbl4 (by rw [List.length_append, List.length_append, List.length_append]; simp; omega) (by omega)).mono ?_
        rintro e w5 ⟨rfl, hbl5, hb5⟩
        go_wp2_with fail
        refine (String_any _ _ _ hbl5).mono ?_
        rintro e w6 ⟨rfl, hb6⟩
        go_wp2
        go_ret2
        refine ⟨?_, hbw.trans (((((hbr.trans hb2).trans hb3).trans hb4).trans hb5).trans hb6 |>.mono (by omega))⟩
        rw [unhide HPE]
        simp [wtxt]
    | succ j =>
      obtain ⟨m, hm⟩ : ∃ m, m = j * W := ⟨_, rfl⟩
      have hmW : m + W = (j + 1) * W := by rw [hm, Nat.succ_mul]
      have hle : m + W ≤ C.size := by rw [hmW, unhide HC, Nat.mul_comm W H]; exact Nat.mul_le_mul_right _ hk
      have hmi : (j : Int) * (W : Int) = (m : Int) := by rw [hm]; simp
      have hni : ((j : Int) + 1) * (W : Int) = ((m + W : Nat) : Int) := by rw [hmW]; simp
      have hji : ((j + 1 : Nat) : Int) - 1 = (j : Int) := by omega
      rw [hji]
      clear hji
      have HM := hide hm
      have HMW := hide hmW
      clear hm hmW
      have hx : (C.extract m (m + W)).data.toList = (C.data.toList.drop m).take W := by
        rw [ByteArray.data_extract, Array.toList_extract, List.extract_eq_take_drop]
        congr 1
        omega
      have hxs : (C.extract m (m + W)).size ≤ 8 := by rw [ByteArray.size_extract]; omega
      have HX := hide hx
      clear hx
      have hrow : pre ++ ((C.data.toList.drop m).take W ++ (if j = 0 then [] else 47 :: wrows W C.data.toList j)) = wrows W C.data.toList H := by
        rw [← hpre, wrows, ← unhide HM]
      have HROW := hide hrow
      clear hrow
      go_wp2_with fail
      generalize C.extract m (m + W) = X at HX hxs ⊢
      refine (WriteString_any _ pre X _ hbl (by omega) (by omega)).mono ?_
      rintro e w2 ⟨rfl, hbl2, hb2⟩
      rw [unhide HX] at hbl2
      have hbr2 := hbr.trans hb2
      by_cases hj : j = 0
      · subst hj
        go_wp2
        go_roundw
        case rel => exact ⟨0, pre ++ (C.data.toList.drop m).take W, by omega, by go_num, by rw [← unhide HROW]; simp [wrows], hbl2, hbr2⟩
        case measure => simp [intOf]
      · have hj0 : (0 : Int) < (j : Int) := by omega
        go_wp2_with fail
        refine (WriteByte_any _ _ 47 _ hbl2 (by rw [List.length_append, List.length_take]; omega)).mono ?_
        rintro e w3 ⟨rfl, hbl3, hb3⟩
        have hbr3 := hbr2.trans hb3
        go_wp2
        go_roundw
        case rel => exact ⟨j, _, by omega, by go_num, by rw [← unhide HROW, if_neg hj, List.append_assoc, List.append_assoc]; rfl, hbl3, hbr3⟩
        case measure => simp [intOf]
end Go.Proofs.YtihojhfpepbjhaaGreatDoor
