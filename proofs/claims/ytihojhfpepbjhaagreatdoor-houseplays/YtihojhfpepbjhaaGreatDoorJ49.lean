/-
  Contracts of the library, at this program: one application each.
  gameref.MoveText, walked.
-/
import Derived.Shelf.Strconv.Itoa3
import Derived.Test.YtihojhfpepbjhaaGreatDoorProg
import Derived.Test.YtihojhfpepbjhaaGreatDoorJ24
import Derived.BigQuiet
namespace Go.Proofs
open Go.Shelf Go.RowKit Go.Sort Go.Lib
def Tryz.lays171_ren : Go.Shelf.Ren := ⟨fun | 171 => 75 | 243 => 109 | 246 => 149 | 283 => 179 | 284 => 180 | 285 => 181 | 286 => 182 | 129 => 195 | 317 => 194 | 318 => 196 | 319 => 197 | 320 => 198 | 337 => 202 | 338 => 203 | n => n, fun | 3 => 3 | 9 => 9 | 2 => 2 | 4 => 4 | 171 => 224 | 0 => 0 | 53 => 175 | 37 => 127 | 5 => 5 | 173 => 227 | 212 => 239 | 51 => 112 | 20 => 20 | 213 => 240 | 46 => 53 | 232 => 257 | 233 => 258 | n => n, fun | 17 => 3 | 18 => 6 | 19 => 7 | n => n⟩
theorem Tryz.lays171 : Go.Proofs.Lays.n171 Tryz.prog Tryz.lays171_ren := {
  mixed := by kernel_rfl
  f129 := Tryz.func195.trans (congrArg some (by kernel_rfl))
  f171 := Tryz.func75.trans (congrArg some (by kernel_rfl))
  f243 := Tryz.func109.trans (congrArg some (by kernel_rfl))
  f246 := Tryz.func149.trans (congrArg some (by kernel_rfl))
  f283 := Tryz.func179.trans (congrArg some (by kernel_rfl))
  f284 := Tryz.func180.trans (congrArg some (by kernel_rfl))
  f285 := Tryz.func181.trans (congrArg some (by kernel_rfl))
  f286 := Tryz.func182.trans (congrArg some (by kernel_rfl))
  f317 := Tryz.func194.trans (congrArg some (by kernel_rfl))
  f318 := Tryz.func196.trans (congrArg some (by kernel_rfl))
  f319 := Tryz.func197.trans (congrArg some (by kernel_rfl))
  f320 := Tryz.func198.trans (congrArg some (by kernel_rfl))
  f337 := Tryz.func202.trans (congrArg some (by kernel_rfl))
  f338 := Tryz.func203.trans (congrArg some (by kernel_rfl))
  t0 := Tryz.underlying0
  a0 := Tryz.isAgg0
  z0 := Tryz.sizeOf0
  v0 := Tryz.zeroValue0
  t2 := Tryz.underlying2
  a2 := Tryz.isAgg2
  z2 := Tryz.sizeOf2
  v2 := Tryz.zeroValue2
  t3 := Tryz.underlying3
  a3 := Tryz.isAgg3
  z3 := Tryz.sizeOf3
  v3 := Tryz.zeroValue3
  t4 := Tryz.underlying4
  a4 := Tryz.isAgg4
  z4 := Tryz.sizeOf4
  v4 := Tryz.zeroValue4
  t5 := Tryz.underlying5
  a5 := Tryz.isAgg5
  z5 := Tryz.sizeOf5
  v5 := Tryz.zeroValue5
  t9 := Tryz.underlying9
  a9 := Tryz.isAgg9
  z9 := Tryz.sizeOf9
  v9 := Tryz.zeroValue9
  t20 := Tryz.underlying20
  a20 := Tryz.isAgg20
  z20 := Tryz.sizeOf20
  v20 := Tryz.zeroValue20
  t37 := Tryz.underlying127
  a37 := Tryz.isAgg127
  z37 := Tryz.sizeOf127
  v37 := Tryz.zeroValue127
  t46 := Tryz.underlying53
  a46 := Tryz.isAgg53
  z46 := Tryz.sizeOf53
  v46 := Tryz.zeroValue53
  t51 := Tryz.underlying112
  a51 := Tryz.isAgg112
  z51 := Tryz.sizeOf112
  v51 := Tryz.zeroValue112
  t53 := Tryz.underlying175
  a53 := Tryz.isAgg175
  z53 := Tryz.sizeOf175
  v53 := Tryz.zeroValue175
  t171 := Tryz.underlying224
  a171 := Tryz.isAgg224
  z171 := Tryz.sizeOf224
  v171 := Tryz.zeroValue224
  t173 := Tryz.underlying227
  a173 := Tryz.isAgg227
  z173 := Tryz.sizeOf227
  v173 := Tryz.zeroValue227
  t212 := Tryz.underlying239
  a212 := Tryz.isAgg239
  z212 := Tryz.sizeOf239
  v212 := Tryz.zeroValue239
  t213 := Tryz.underlying240
  a213 := Tryz.isAgg240
  z213 := Tryz.sizeOf240
  t232 := Tryz.underlying257
  a232 := Tryz.isAgg257
  z232 := Tryz.sizeOf257
  v232 := Tryz.zeroValue257
  t233 := Tryz.underlying258
  a233 := Tryz.isAgg258
  z233 := Tryz.sizeOf258
  v233 := Tryz.zeroValue258
  g17 := by kernel_rfl
  g18 := by kernel_rfl
  g19 := by kernel_rfl }
theorem Tryz.strconv_Itoa_small (i : Nat) (hi : i < 100) (w : World) :
    Calls Tryz.prog 75 #[.int .i64 i] w fun e w' => e = .returned (.string ⟨(Lib.decDigits i).toArray⟩) ∧ w' = w := Any.strconv_Itoa_small Tryz.lays171 i hi w
end Go.Proofs

namespace Go.Proofs.YtihojhfpepbjhaaGreatDoor
open Go.RowKit
attribute [local go_sem ↓] Go.wp_at_zero Go.wp_at_succ

theorem dec_one : ∀ y : Nat, y < 8 → Lib.decDigits (y + 1) = [UInt8.ofNat (49 + y)] := by decide +kernel
set_option maxHeartbeats 2000000 in
set_option maxRecDepth 100000 in
theorem cellText_any (W : Nat) (H T : Int) (C A B : ByteArray) (i g : Nat) (w : World) (hpb : isPb w g W H T C A B) (hW : 1 ≤ W ∧ W ≤ 8) (hiW : i < W * 8) :
    Calls Tryz.prog 108 #[.int .i64 (i : Int), .pointer (some ⟨g, 0, none⟩)] w fun e w' => e = .returned (.string ⟨(cellT W i).toArray⟩) ∧ ∃ n, w' = w.drewN n := by
  have et : ((i : Int)).tmod (W : Int) = ((i % W : Nat) : Int) := by rw [Int.tmod_eq_emod_of_nonneg (by omega)]; rfl
  have eq : ((i : Int)).tdiv (W : Int) = ((i / W : Nat) : Int) := by rw [Int.tdiv_eq_ediv_of_nonneg (by omega)]; rfl
  have hx : i % W < W := Nat.mod_lt _ (by omega)
  have hy : i / W < 8 := Nat.div_lt_of_lt_mul hiW
  have hW0 : ¬ (W : Int) = 0 := by omega
  have hWn : ¬ W = 0 := by omega
  have hWb : ((W : Int) == 0) = false := by simp; omega
  have hW1 : ((W : Int) == -1) = false := by simp
  have hcell : cellT W i = [UInt8.ofNat (97 + i % W), UInt8.ofNat (49 + i / W)] := rfl
  generalize i % W = x at *
  generalize i / W = y at *
  obtain ⟨p0, p1, p2, p3, p4, p5⟩ := hpb.all
  obtain ⟨x1, hx1⟩ : ∃ x1, x1 = x + 1 := ⟨_, rfl⟩
  obtain ⟨y1, hy1⟩ : ∃ y1, y1 = y + 1 := ⟨_, rfl⟩
  have ex : (x : Int) + 1 = (x1 : Int) := by omega
  have ey : (y : Int) + 1 = (y1 : Int) := by omega
  have wx : IntKind.i64.wrap (x1 : Int) = (x1 : Int) := by unfold IntKind.wrap; simp [IntKind.signed, IntKind.bits]; omega
  have wy : IntKind.i64.wrap (y1 : Int) = (y1 : Int) := by unfold IntKind.wrap; simp [IntKind.signed, IntKind.bits]; omega
  have wy0 : IntKind.i64.wrap (y : Int) = (y : Int) := by unfold IntKind.wrap; simp [IntKind.signed, IntKind.bits]; omega
  obtain ⟨Y, hY⟩ : ∃ Y : ByteArray, Y = ⟨(Lib.decDigits y1).toArray⟩ := ⟨_, rfl⟩
  have HYT : Hid (∀ n, Calls Tryz.prog 75 #[.int .i64 (y1 : Int)] (w.drewN n) fun e w'' => e = .returned (.string Y) ∧ ∃ m, w'' = w.drewN m) := by
    intro n
    refine (Tryz.strconv_Itoa_small y1 (by omega) _).mono ?_
    rintro e w'' ⟨rfl, rfl⟩
    exact ⟨by rw [hY], n, rfl⟩
  have hx7 : x < 8 := by omega
  obtain ⟨X, hX⟩ : ∃ X : ByteArray, X = ⟨#[UInt8.ofNat (97 + x)]⟩ := ⟨_, rfl⟩
  have hsl : ∀ u, (Instr.slice 9 (.string ⟨#[97, 98, 99, 100, 101, 102, 103, 104]⟩) (some (.int .i64 (x : Int))) (some (.int .i64 (x1 : Int))) none).run Tryz.prog u = .ok (.string X) u := by
    intro u
    rw [hX, hx1]
    rcases (by omega : x = 0 ∨ x = 1 ∨ x = 2 ∨ x = 3 ∨ x = 4 ∨ x = 5 ∨ x = 6 ∨ x = 7) with rfl | rfl | rfl | rfl | rfl | rfl | rfl | rfl <;> kernel_rfl
  have HF : Hid (X ++ Y = ⟨(cellT W i).toArray⟩) := hide (by rw [hX, hY, hy1, dec_one y hy, hcell]; rfl)
  have hsz : X.size + Y.size ≤ 9223372036854775807 := by
    rw [hX, hY, hy1, dec_one y hy]
    show 1 + 1 ≤ 9223372036854775807
    omega
  clear hX hY hpb hcell hx1 hy1
  go_enter Tryz.func108, Tryz.ntmps108
  go_wp2_with fail
  go_quiet (first
    | (go_at_call 75; with_reducible exact unhide HYT _))
  go_wp2
  go_ret
  exact ⟨by rw [← unhide HF]; rfl, _, rfl⟩
theorem ba_list (a b : ByteArray) : (a ++ b).data.toList = a.data.toList ++ b.data.toList := by simp
theorem ba_eqG {a : ByteArray} {l : List UInt8} (h : a.data.toList = l) : a = ⟨l.toArray⟩ := by
  subst h
  rfl
set_option maxHeartbeats 2000000 in
set_option maxRecDepth 100000 in
theorem rText_drop (W : Nat) (H T : Int) (C A B : ByteArray) (t : Nat) (c : UInt8) (w : World) (hW : 1 ≤ W ∧ W ≤ 8) (htW : t < W * 8) :
    Calls Tryz.prog 74 #[.agg #[.int .i64 (W : Int), .int .i64 H, .string C, .int .i64 T, .string A, .string B], .agg #[.int .i64 (-1), .int .i64 (t : Int), .int .u8 (c.toNat : Int)]] w fun e w' => e = .returned (.string ⟨(txtL W C (-1) t c).toArray⟩) ∧ Below w.heap.size w w' := by
  obtain ⟨f, hf⟩ : ∃ f : Int, f = -1 := ⟨_, rfl⟩
  rw [← hf]
  obtain ⟨w1, hw1⟩ : ∃ w1, w1 = w.alloc (.cells #[.int .i64 (W : Int), .int .i64 H, .string C, .int .i64 T, .string A, .string B] 24 (0, 0)) := ⟨_, rfl⟩
  obtain ⟨w2, hw2⟩ : ∃ w2, w2 = w1.alloc (.cells #[.int .i64 f, .int .i64 (t : Int), .int .u8 (c.toNat : Int)] 61 (0, 0)) := ⟨_, rfl⟩
  obtain ⟨w3, hw3⟩ : ∃ w3, w3 = w2.alloc (.cells #[.int .u8 (c.toNat : Int)] 5 (0, 0)) := ⟨_, rfl⟩
  have hb1 : Below w.heap.size w w1 := by rw [hw1]; exact (Below.refl _ _).alloc (Nat.le_refl _) _
  have hb2 : Below w1.heap.size w1 w2 := by rw [hw2]; exact (Below.refl _ _).alloc (Nat.le_refl _) _
  have hb3 : Below w2.heap.size w2 w3 := by rw [hw3]; exact (Below.refl _ _).alloc (Nat.le_refl _) _
  have s1 : w1.heap.size = w.heap.size + 1 := by rw [hw1]; simp
  have s2 : w2.heap.size = w.heap.size + 1 + 1 := by rw [hw2]; simp [s1]
  have hpb : isPb w3 w.heap.size W H T C A B := isPb.below (isPb.below (show isPb w1 w.heap.size W H T C A B by rw [hw1]; exact heap_alloc_new w _) hb2 (by omega)) hb3 (by omega)
  have hmb : isMb w3 (w.heap.size + 1) f t (c.toNat : Int) := isMb.below (show isMb w2 (w.heap.size + 1) f t (c.toNat : Int) by rw [hw2, ← s1]; exact heap_alloc_new w1 _) hb3 (by omega)
  have hown : w3.ownsRow (w.heap.size + 1 + 1) 5 1 (.slice (some ⟨w2.heap.size, 0, none⟩) 1 1) 1 (bvals [c]) := by rw [hw3]; exact own_one _ c (by omega)
  have hcv0 := own_conv hown rfl (by omega)
  obtain ⟨S0, hS0⟩ : ∃ S0 : ByteArray, S0 = ⟨[c].toArray⟩ := ⟨_, rfl⟩
  rw [s2, ← hS0, hw3, hw2, hw1] at hcv0
  have zS0 : S0.size = 1 := by rw [hS0]; rfl
  have hbw : Below w.heap.size w w3 := (hb1.trans (hb2.mono (by omega))).trans (hb3.mono (by omega))
  have HBD := hide (fun n => (show Below w.heap.size w (w3.drewN n) from ⟨hbw.os, hbw.tape, hbw.output, hbw.size, hbw.block⟩))
  have hpbd : ∀ n, isPb (w3.drewN n) w.heap.size W H T C A B := fun n => hpb
  obtain ⟨X, hX⟩ : ∃ X : ByteArray, X = ⟨(cellT W t).toArray⟩ := ⟨_, rfl⟩
  have zX : X.size = 2 := by rw [hX]; rfl
  have HXT : Hid (∀ n, Calls Tryz.prog 108 #[.int .i64 (t : Int), .pointer (some ⟨w.heap.size, 0, none⟩)] (w3.drewN n) fun e w'' => e = .returned (.string X) ∧ ∃ m, w'' = w3.drewN m) := by
    intro n
    refine (cellText_any W H T C A B t w.heap.size _ (hpbd n) hW htW).mono ?_
    rintro e w'' ⟨rfl, m, rfl⟩
    exact ⟨by rw [hX], n + m, by unfold World.drewN; simp [Nat.add_assoc]⟩
  have HX0 := hide (cellText_any W H T C A B t w.heap.size w3 hpb hW htW)
  rw [← hX] at HX0
  obtain ⟨p0, p1, p2, p3, p4, p5⟩ := hpb.all
  obtain ⟨m0, m1, m2⟩ := hmb.all
  have HW1 := hide hw1
  have HW2 := hide hw2
  have HW3 := hide hw3
  have hneg : f < 0 := by omega
  obtain ⟨S1, hS1⟩ : ∃ S1, S0 ++ (⟨#[64]⟩ : ByteArray) = S1 := ⟨_, rfl⟩
  obtain ⟨S2, hS2⟩ : ∃ S2, S1 ++ X = S2 := ⟨_, rfl⟩
  have zA : (⟨#[64]⟩ : ByteArray).size = 1 := rfl
  have z1 : S1.size = 2 := by rw [← hS1, ByteArray.size_append, zS0, zA]
  have q1 : S0.size + (⟨#[64]⟩ : ByteArray).size ≤ 9223372036854775807 := by omega
  have q2 : S1.size + X.size ≤ 9223372036854775807 := by omega
  have HF : Hid (S2 = ⟨(txtL W C f t c).toArray⟩) := hide (by
    apply ba_eqG
    unfold txtL
    rw [if_pos hf, ← hS2, ← hS1, ba_list, ba_list, hS0, hX]
    simp)
  clear hw1 hw2 hw3 hb1 hb2 hb3 s1 s2 hpb hmb hown hbw hf hS0 hX hpbd zS0 zX zA z1
  go_enter Tryz.func74, Tryz.ntmps74
  go_upto_region 3 with fail
  rw [← unhide HW1, ← unhide HW2, ← unhide HW3]
  clear HW1 HW2 HW3 hcv0
  go_wp2_with fail
  refine (unhide HX0).mono ?_
  rintro e w' ⟨rfl, n, rfl⟩
  go_wp2
  go_ret
  exact ⟨by rw [← unhide HF]; rfl, unhide HBD n⟩
set_option maxHeartbeats 2000000 in
set_option maxRecDepth 100000 in
theorem rText_go (W : Nat) (H T : Int) (C A B : ByteArray) (fr t : Nat) (c : UInt8) (w : World) (hW : 1 ≤ W ∧ W ≤ 8) (hfW : fr < W * 8) (htW : t < W * 8) (htC : t < C.size) :
    Calls Tryz.prog 74 #[.agg #[.int .i64 (W : Int), .int .i64 H, .string C, .int .i64 T, .string A, .string B], .agg #[.int .i64 (fr : Int), .int .i64 (t : Int), .int .u8 (c.toNat : Int)]] w fun e w' => e = .returned (.string ⟨(txtL W C fr t c).toArray⟩) ∧ Below w.heap.size w w' := by
  obtain ⟨f, hf⟩ : ∃ f : Int, f = fr := ⟨_, rfl⟩
  rw [← hf]
  obtain ⟨w1, hw1⟩ : ∃ w1, w1 = w.alloc (.cells #[.int .i64 (W : Int), .int .i64 H, .string C, .int .i64 T, .string A, .string B] 24 (0, 0)) := ⟨_, rfl⟩
  obtain ⟨w2, hw2⟩ : ∃ w2, w2 = w1.alloc (.cells #[.int .i64 f, .int .i64 (t : Int), .int .u8 (c.toNat : Int)] 61 (0, 0)) := ⟨_, rfl⟩
  obtain ⟨w3, hw3⟩ : ∃ w3, w3 = w2.alloc (.cells #[.int .u8 (c.toNat : Int)] 5 (0, 0)) := ⟨_, rfl⟩
  have hb1 : Below w.heap.size w w1 := by rw [hw1]; exact (Below.refl _ _).alloc (Nat.le_refl _) _
  have hb2 : Below w1.heap.size w1 w2 := by rw [hw2]; exact (Below.refl _ _).alloc (Nat.le_refl _) _
  have hb3 : Below w2.heap.size w2 w3 := by rw [hw3]; exact (Below.refl _ _).alloc (Nat.le_refl _) _
  have s1 : w1.heap.size = w.heap.size + 1 := by rw [hw1]; simp
  have s2 : w2.heap.size = w.heap.size + 1 + 1 := by rw [hw2]; simp [s1]
  have hpb : isPb w3 w.heap.size W H T C A B := isPb.below (isPb.below (show isPb w1 w.heap.size W H T C A B by rw [hw1]; exact heap_alloc_new w _) hb2 (by omega)) hb3 (by omega)
  have hmb : isMb w3 (w.heap.size + 1) f t (c.toNat : Int) := isMb.below (show isMb w2 (w.heap.size + 1) f t (c.toNat : Int) by rw [hw2, ← s1]; exact heap_alloc_new w1 _) hb3 (by omega)
  have hown : w3.ownsRow (w.heap.size + 1 + 1) 5 1 (.slice (some ⟨w2.heap.size, 0, none⟩) 1 1) 1 (bvals [c]) := by rw [hw3]; exact own_one _ c (by omega)
  have hcv0 := own_conv hown rfl (by omega)
  obtain ⟨S0, hS0⟩ : ∃ S0 : ByteArray, S0 = ⟨[c].toArray⟩ := ⟨_, rfl⟩
  rw [s2, ← hS0, hw3, hw2, hw1] at hcv0
  have zS0 : S0.size = 1 := by rw [hS0]; rfl
  have hbw : Below w.heap.size w w3 := (hb1.trans (hb2.mono (by omega))).trans (hb3.mono (by omega))
  have HBD := hide (fun n => (show Below w.heap.size w (w3.drewN n) from ⟨hbw.os, hbw.tape, hbw.output, hbw.size, hbw.block⟩))
  have hpbd : ∀ n, isPb (w3.drewN n) w.heap.size W H T C A B := fun n => hpb
  obtain ⟨X, hX⟩ : ∃ X : ByteArray, X = ⟨(cellT W t).toArray⟩ := ⟨_, rfl⟩
  have zX : X.size = 2 := by rw [hX]; rfl
  have HXT : Hid (∀ n, Calls Tryz.prog 108 #[.int .i64 (t : Int), .pointer (some ⟨w.heap.size, 0, none⟩)] (w3.drewN n) fun e w'' => e = .returned (.string X) ∧ ∃ m, w'' = w3.drewN m) := by
    intro n
    refine (cellText_any W H T C A B t w.heap.size _ (hpbd n) hW htW).mono ?_
    rintro e w'' ⟨rfl, m, rfl⟩
    exact ⟨by rw [hX], n + m, by unfold World.drewN; simp [Nat.add_assoc]⟩
  have HX0 := hide (cellText_any W H T C A B t w.heap.size w3 hpb hW htW)
  rw [← hX] at HX0
  obtain ⟨p0, p1, p2, p3, p4, p5⟩ := hpb.all
  obtain ⟨m0, m1, m2⟩ := hmb.all
  have HW1 := hide hw1
  have HW2 := hide hw2
  have HW3 := hide hw3
  obtain ⟨Z, hZ⟩ : ∃ Z : ByteArray, Z = ⟨(cellT W fr).toArray⟩ := ⟨_, rfl⟩
  have zZ : Z.size = 2 := by rw [hZ]; rfl
  have HZT : Hid (∀ n, Calls Tryz.prog 108 #[.int .i64 f, .pointer (some ⟨w.heap.size, 0, none⟩)] (w3.drewN n) fun e w'' => e = .returned (.string Z) ∧ ∃ m, w'' = w3.drewN m) := by
    intro n
    rw [hf]
    refine (cellText_any W H T C A B fr w.heap.size _ (hpbd n) hW hfW).mono ?_
    rintro e w'' ⟨rfl, m, rfl⟩
    exact ⟨by rw [hZ], n + m, by unfold World.drewN; simp [Nat.add_assoc]⟩
  have hneg : ¬ f < 0 := by omega
  obtain ⟨hcn, h256⟩ := cellN_at C t htC
  obtain ⟨N, hN⟩ : ∃ N, N = cellN C t := ⟨_, rfl⟩
  rw [← hN] at hcn h256
  have htl : (t : Int) < (C.size : Int) := by omega
  have ht0 : (0 : Int) ≤ (t : Int) := by omega
  by_cases h46 : N = 46
  · have hb46 : ((N : Int) == 46) = true := by simp [h46]
    obtain ⟨S1, hS1⟩ : ∃ S1, S0 ++ Z = S1 := ⟨_, rfl⟩
    obtain ⟨S2, hS2⟩ : ∃ S2, S1 ++ (⟨#[45]⟩ : ByteArray) = S2 := ⟨_, rfl⟩
    obtain ⟨S3, hS3⟩ : ∃ S3, S2 ++ X = S3 := ⟨_, rfl⟩
    have zA : (⟨#[45]⟩ : ByteArray).size = 1 := rfl
    have z1 : S1.size = 3 := by rw [← hS1, ByteArray.size_append, zS0, zZ]
    have z2 : S2.size = 4 := by rw [← hS2, ByteArray.size_append, z1, zA]
    have q1 : S0.size + Z.size ≤ 9223372036854775807 := by omega
    have q2 : S1.size + (⟨#[45]⟩ : ByteArray).size ≤ 9223372036854775807 := by omega
    have q3 : S2.size + X.size ≤ 9223372036854775807 := by omega
    have HF : Hid (S3 = ⟨(txtL W C f t c).toArray⟩) := hide (by
      apply ba_eqG
      unfold txtL
      rw [if_neg (by omega), ← hN, if_pos h46, hf, Int.toNat_natCast, ← hS3, ← hS2, ← hS1, ba_list, ba_list, ba_list, hS0, hX, hZ])
    clear hw1 hw2 hw3 hb1 hb2 hb3 s1 s2 hpb hmb hown hbw hf hS0 hX hZ hpbd zS0 zX zZ zA z1 z2 hN h46 HX0
    go_enter Tryz.func74, Tryz.ntmps74
    go_upto_region 3 with fail
    rw [← unhide HW1, ← unhide HW2, ← unhide HW3]
    clear HW1 HW2 HW3 hcv0
    go_upto_region 6 with fail
    go_quiet (first
      | (go_at_call 108; with_reducible exact unhide HXT _)
      | (go_at_call 108; with_reducible exact unhide HZT _))
    go_wp2
    go_ret
    exact ⟨by rw [← unhide HF]; rfl, unhide HBD _⟩
  · have hb46 : ((N : Int) == 46) = false := by simp; omega
    obtain ⟨S1, hS1⟩ : ∃ S1, S0 ++ Z = S1 := ⟨_, rfl⟩
    obtain ⟨S2, hS2⟩ : ∃ S2, S1 ++ (⟨#[120]⟩ : ByteArray) = S2 := ⟨_, rfl⟩
    obtain ⟨S3, hS3⟩ : ∃ S3, S2 ++ X = S3 := ⟨_, rfl⟩
    have zA : (⟨#[120]⟩ : ByteArray).size = 1 := rfl
    have z1 : S1.size = 3 := by rw [← hS1, ByteArray.size_append, zS0, zZ]
    have z2 : S2.size = 4 := by rw [← hS2, ByteArray.size_append, z1, zA]
    have q1 : S0.size + Z.size ≤ 9223372036854775807 := by omega
    have q2 : S1.size + (⟨#[120]⟩ : ByteArray).size ≤ 9223372036854775807 := by omega
    have q3 : S2.size + X.size ≤ 9223372036854775807 := by omega
    have HF : Hid (S3 = ⟨(txtL W C f t c).toArray⟩) := hide (by
      apply ba_eqG
      unfold txtL
      rw [if_neg (by omega), ← hN, if_neg h46, hf, Int.toNat_natCast, ← hS3, ← hS2, ← hS1, ba_list, ba_list, ba_list, hS0, hX, hZ])
    clear hw1 hw2 hw3 hb1 hb2 hb3 s1 s2 hpb hmb hown hbw hf hS0 hX hZ hpbd zS0 zX zZ zA z1 z2 hN h46 HX0
    go_enter Tryz.func74, Tryz.ntmps74
    go_upto_region 3 with fail
    rw [← unhide HW1, ← unhide HW2, ← unhide HW3]
    clear HW1 HW2 HW3 hcv0
    go_upto_region 7 with fail
    go_quiet (first
      | (go_at_call 108; with_reducible exact unhide HXT _)
      | (go_at_call 108; with_reducible exact unhide HZT _))
    go_wp2
    go_ret
    exact ⟨by rw [← unhide HF]; rfl, unhide HBD _⟩
end Go.Proofs.YtihojhfpepbjhaaGreatDoor
