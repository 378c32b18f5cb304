/-
  package board, package moves, walked: letters of players, small functions.
  '==' between two positions: field by field.
  package moves, walked: walk, over any function that is asked at each cell.
-/
import Derived.Test.YtbnohmnbhnineabGreatDoorJ3
import Derived.Test.YtbnohmnbhnineabGreatDoorJ2
import Derived.ChangeKeysEq
import Derived.WalkMore
import Derived.ScopeJumps
import Derived.BigQuiet
namespace Go.Proofs.YtbnohmnbhnineabGreatDoor
open Go.RowKit
attribute [local go_sem ↓] Go.wp_at_zero Go.wp_at_succ

/-- What stands in a cell for a player's piece. -/
def letN (T c : Nat) : Nat := if T = 0 then c else c ||| 32
/-- Is the byte of a cell a piece of that player? -/
def ownB (T c : Nat) : Bool := !decide (c = 46) && decide (letN T (upN c) = c)
theorem or32 : ∀ c : Nat, c < 256 → bits .or .u8 (c : Int) 32 = ((c ||| 32 : Nat) : Int) ∧ c ||| 32 < 256 := by decide +kernel
theorem or0 : ∀ c : Nat, c < 256 → bits .or .u8 (c : Int) 0 = (c : Int) := by decide +kernel
theorem letN_lt {T c : Nat} (h : c < 256) : letN T c < 256 := by unfold letN; split; exact h; exact (or32 c h).2

set_option maxHeartbeats 1000000 in
theorem LetterOf_any (T c : Nat) (w : World) (hT : T ≤ 1) (hc : c < 256) :
    Calls Tryz.prog 64 #[.int .i64 (T : Int), .int .u8 (c : Int)] w fun e w' => e = .returned (.int .u8 (letN T c : Nat)) ∧ w' = w := by
  rcases (by omega : T = 0 ∨ T = 1) with rfl | rfl
  · have h0 := or0 c hc
    go_enter Tryz.func64, Tryz.ntmps64
    go_wp2
    go_ret
    exact ⟨rfl, rfl⟩
  · have h1 := (or32 c hc).1
    go_enter Tryz.func64, Tryz.ntmps64
    go_wp2
    go_ret
    exact ⟨rfl, rfl⟩

set_option maxHeartbeats 1000000 in
theorem IsOf_any (T c : Nat) (w : World) (hT : T ≤ 1) (hc : c < 256) :
    Calls Tryz.prog 88 #[.int .i64 (T : Int), .int .u8 (c : Int)] w fun e w' => e = .returned (.bool (ownB T c)) ∧ w' = w := by
  obtain ⟨R, hR⟩ : ∃ R, R = ownB T c := ⟨_, rfl⟩
  rw [← hR]
  unfold ownB at hR
  by_cases h46 : c = 46
  · have hRe : R = false := by rw [hR]; simp [h46]
    have hb : ((c : Int) != 46) = false := by simp; omega
    have HRE := hide hRe
    clear hR hRe h46
    go_enter Tryz.func88, Tryz.ntmps88
    go_wp2
    go_ret
    exact ⟨by rw [unhide HRE]; rfl, rfl⟩
  · have hRe : R = decide (letN T (upN c) = c) := by rw [hR]; simp [h46]
    have hb : ((c : Int) != 46) = true := by simp; omega
    have hup := up_andNot c hc
    have HC := hide (Capital_any c w)
    rw [hup.1] at HC
    have HL := hide (LetterOf_any T (upN c) w hT hup.2)
    have HRE := hide hRe
    clear hR hRe h46 hup
    go_enter Tryz.func88, Tryz.ntmps88
    go_wp2_with fail
    refine (unhide HC).mono ?_
    rintro e w1 ⟨rfl, rfl⟩
    go_wp2_with fail
    refine (unhide HL).mono ?_
    rintro e w2 ⟨rfl, rfl⟩
    go_wp2
    go_ret
    refine ⟨ret_bool ?_, rfl⟩
    rw [unhide HRE]
    rw [Bool.eq_iff_iff]
    simp
    omega
/-- The first player's way up, the second one's down. -/
def fwdI (T : Nat) : Int := 1 - 2 * (T : Int)
theorem forward_any (T : Nat) (w : World) (hT : T ≤ 1) :
    Calls Tryz.prog 124 #[.int .i64 (T : Int)] w fun e w' => e = .returned (.int .i64 (fwdI T)) ∧ w' = w := by
  go_enter Tryz.func124, Tryz.ntmps124
  go_wp2
  go_ret
  exact ⟨rfl, rfl⟩
/-- Who has won. -/
def wonI (T : Int) : Int := if T = 0 then 1 else 2
theorem wonBy_any (T : Int) (w : World) :
    Calls Tryz.prog 59 #[.int .i64 T] w fun e w' => e = .returned (.int .i64 (wonI T)) ∧ w' = w := by
  by_cases h : T = 0
  · have hb : (T == 0) = true := by simp [h]
    have hv : wonI T = 1 := by unfold wonI; rw [if_pos h]
    rw [hv]
    clear h hv
    go_enter Tryz.func59, Tryz.ntmps59
    go_wp2
    go_ret
    exact ⟨rfl, rfl⟩
  · have hb : (T == 0) = false := by simpa using h
    have hv : wonI T = 2 := by unfold wonI; rw [if_neg h]
    rw [hv]
    clear h hv
    go_enter Tryz.func59, Tryz.ntmps59
    go_wp2
    go_ret
    exact ⟨rfl, rfl⟩
/-- May a piece of the player's enter a cell by a way that takes so? -/
def entB (take : Int) (T c : Nat) : Bool := if c = 46 then decide (take ≠ 1) else decide (take ≠ 2) && ownB (1 - T) c

set_option maxHeartbeats 1000000 in
theorem mayEnter_any (k x y t : Int) (T c : Nat) (w : World) (hT : T ≤ 1) (hc : c < 256) :
    Calls Tryz.prog 108 #[.agg #[.int .i64 k, .int .i64 x, .int .i64 y, .int .i64 t], .int .i64 (T : Int), .int .u8 (c : Int)] w fun e w' => e = .returned (.bool (entB t T c)) ∧ Below w.heap.size w w' := by
  obtain ⟨R, hR⟩ : ∃ R, R = entB t T c := ⟨_, rfl⟩
  rw [← hR]
  unfold entB at hR
  have hTi : (1 : Int) - (T : Int) = ((1 - T : Nat) : Int) := by omega
  have HO := hide (fun u => IsOf_any (1 - T) c u (by omega) hc)
  rw [← hTi] at HO
  by_cases h46 : c = 46
  · have hRe : R = decide (t ≠ 1) := by rw [hR, if_pos h46]
    have hb : ((c : Int) == 46) = true := by simp; omega
    have HRE := hide hRe
    clear hR hRe h46 hTi
    go_enter Tryz.func108, Tryz.ntmps108
    go_wp2
    go_ret
    refine ⟨ret_bool ?_, (Below.refl _ w).alloc (Nat.le_refl _) _⟩
    rw [unhide HRE, Bool.eq_iff_iff]
    simp
  · have hb : ((c : Int) == 46) = false := by simp; omega
    by_cases h1 : t = 2
    · have hRe : R = false := by rw [hR, if_neg h46]; simp [h1]
      have hb1 : (t != 2) = false := by simp [h1]
      have HRE := hide hRe
      clear hR hRe h46 h1 hTi
      go_enter Tryz.func108, Tryz.ntmps108
      go_wp2
      go_ret
      exact ⟨by rw [unhide HRE]; rfl, (Below.refl _ w).alloc (Nat.le_refl _) _⟩
    · have hRe : R = ownB (1 - T) c := by rw [hR, if_neg h46]; simp [h1]
      have hb1 : (t != 2) = true := by simp [h1]
      have HRE := hide hRe
      clear hR hRe h46 h1 hTi
      go_enter Tryz.func108, Tryz.ntmps108
      go_wp2_with fail
      refine (unhide HO _).mono ?_
      rintro e w1 ⟨rfl, rfl⟩
      go_wp2
      go_ret
      exact ⟨by rw [unhide HRE]; rfl, (Below.refl _ w).alloc (Nat.le_refl _) _⟩
end Go.Proofs.YtbnohmnbhnineabGreatDoor

namespace Go.Proofs.YtbnohmnbhnineabGreatDoor
open Go.RowKit

def samePos (W H : Int) (C : ByteArray) (T : Int) (A B : ByteArray) (W' H' : Int) (C' : ByteArray) (T' : Int) (A' B' : ByteArray) : Bool :=
  W == W' && H == H' && C.toList == C'.toList && T == T' && A.toList == A'.toList && B.toList == B'.toList

theorem eqHands (w : World) (A B A' B' : ByteArray) :
    (Op.equalIn 9999 22 (.agg #[.string A, .string B]) (.agg #[.string A', .string B'])).run Tryz.prog w = .ok (A.toList == A'.toList && B.toList == B'.toList) w := by
  obtain ⟨i, hi⟩ : ∃ i, Tryz.prog.info? 9 = some i := by
    have h : (Tryz.prog.info? 9).isSome = true := by kernel_rfl
    exact Option.isSome_iff_exists.1 h
  have hc : Tryz.prog.cellsOf 9 = 1 := by kernel_rfl
  rw [run_equalIn_array w 9998 _ _ Tryz.underlying22 hi, hc]
  have hr : List.range 2 = [0, 1] := rfl
  rw [hr]
  simp [go_sem, Op.eqItems]
  by_cases h1 : A.toList = A'.toList <;> by_cases h2 : B.toList = B'.toList <;> simp [h1, h2]

set_option maxHeartbeats 1000000 in
theorem eqPos (w : World) (W H T W' H' T' : Int) (C A B C' A' B' : ByteArray) :
    (Op.equalIn 10000 24 (.agg #[.int .i64 W, .int .i64 H, .string C, .int .i64 T, .string A, .string B]) (.agg #[.int .i64 W', .int .i64 H', .string C', .int .i64 T', .string A', .string B'])).run Tryz.prog w =
      .ok (samePos W H C T A B W' H' C' T' A' B') w := by
  rw [run_equalIn_agg w 9999 24 _ _ (by kernel_rfl) (by kernel_rfl)]
  unfold Program.fieldsOf
  rw [Tryz.underlying24]
  simp [go_sem, eqHands, samePos]
  by_cases h1 : W = W' <;> by_cases h2 : H = H' <;> by_cases h3 : C.toList = C'.toList <;> by_cases h4 : T = T' <;> by_cases h5 : A.toList = A'.toList <;> by_cases h6 : B.toList = B'.toList <;> simp [h1, h2, h3, h4, h5, h6]
theorem samePos_refl (W H : Int) (C : ByteArray) (T : Int) (A B : ByteArray) : samePos W H C T A B W H C T A B = true := by simp [samePos]
end Go.Proofs.YtbnohmnbhnineabGreatDoor

namespace Go.Proofs.YtbnohmnbhnineabGreatDoor
open Go.RowKit
attribute [local go_sem ↓] Go.wp_at_zero Go.wp_at_succ

/-- The cells that are come to from a cell by the same step again and again. -/
def rayL (W H : Nat) (on : Nat → Bool) (dx dy : Int) : Nat → Int → Int → List Nat
  | 0, _, _ => []
  | f + 1, x, y =>
    if 0 ≤ x + dx ∧ x + dx < W ∧ 0 ≤ y + dy ∧ y + dy < H then
      (if on ((y + dy) * W + (x + dx)).toNat then ((y + dy) * W + (x + dx)).toNat :: rayL W H on dx dy f (x + dx) (y + dy) else [((y + dy) * W + (x + dx)).toNat])
    else []
/-- How far it is to the edge. -/
def rayM (W H : Nat) (dx dy x y : Int) : Nat := if 0 < dx then ((W : Int) - x).toNat else if dx < 0 then (x + 1).toNat else if 0 < dy then ((H : Int) - y).toNat else (y + 1).toNat
/-- From B on all as it was. -/
structure Hi (B : Nat) (u u' : World) : Prop where
  os : u'.os = u.os
  tape : u'.tape = u.tape
  output : u'.output = u.output
  size : u.heap.size ≤ u'.heap.size
  block : ∀ k, B ≤ k → k < u.heap.size → u'.heap[k]? = u.heap[k]?
def intO : Value → Int | .int _ q => q | _ => 0
theorem cell_no {W H : Nat} {x y : Int} (h0 : 0 ≤ x) (h1 : x < W) (h2 : 0 ≤ y) (h3 : y < H) : y * W + x = ((y * W + x).toNat : Int) ∧ (y * W + x).toNat < W * H := by
  have hy : 0 ≤ y * W := Int.mul_nonneg h2 (by omega)
  have hm : (y + 1) * (W : Int) ≤ (H : Int) * W := Int.mul_le_mul_of_nonneg_right (by omega) (by omega)
  rw [Int.add_mul, Int.one_mul] at hm
  have hc : ((W * H : Nat) : Int) = (H : Int) * W := by rw [Int.natCast_mul, Int.mul_comm]
  omega
def isPb (w : World) (b : Nat) (W H T : Int) (C A B : ByteArray) : Prop := w.heap[b]? = some (.cells #[.int .i64 W, .int .i64 H, .string C, .int .i64 T, .string A, .string B] 24 (0, 0))
theorem isPb.all {w : World} {b : Nat} {W H T : Int} {C A B : ByteArray} (h : isPb w b W H T C A B) : w.cell? ⟨b, 0, none⟩ = some (.int .i64 W) ∧ w.cell? ⟨b, 1, none⟩ = some (.int .i64 H) ∧ w.cell? ⟨b, 2, none⟩ = some (.string C) ∧ w.cell? ⟨b, 3, none⟩ = some (.int .i64 T) ∧ w.cell? ⟨b, 4, none⟩ = some (.string A) ∧ w.cell? ⟨b, 5, none⟩ = some (.string B) := by
  unfold isPb at h; simp [World.cell?, h]
theorem isPb.lt {w : World} {b : Nat} {W H T : Int} {C A B : ByteArray} (h : isPb w b W H T C A B) : b < w.heap.size := (Array.getElem?_eq_some_iff.1 h).1
theorem isPb.hi {w w' : World} {b B0 : Nat} {W H T : Int} {C A B : ByteArray} (h : isPb w b W H T C A B) (hh : Hi B0 w w') (hb : B0 ≤ b) : isPb w' b W H T C A B := by
  have hl := h.lt
  unfold isPb at h ⊢; rw [hh.block b hb hl]; exact h
theorem isPb.below {w w' : World} {b B0 : Nat} {W H T : Int} {C A B : ByteArray} (h : isPb w b W H T C A B) (hh : Below B0 w w') (hb : b < B0) : isPb w' b W H T C A B := by
  unfold isPb at h ⊢; rw [hh.block b hb]; exact h


set_option maxHeartbeats 4000000 in
set_option maxRecDepth 100000 in
theorem walk_any (W H from_ : Nat) (T : Int) (C A B : ByteArray) (dx dy : Int) (F : FuncId) (caps : Array Value) (on : Nat → Bool) (I : List Nat → World → Prop) (w : World)
    (hW : 1 ≤ W ∧ W ≤ 8) (hH : 1 ≤ H ∧ H ≤ 8) (hf : from_ < W * H) (hd : -8 ≤ dx ∧ dx ≤ 8 ∧ -8 ≤ dy ∧ dy ≤ 8 ∧ ¬ (dx = 0 ∧ dy = 0))
    (hE : ∀ args (u : World), (callFunc F args).run Tryz.prog u = .ok (.enter F args) u)
    (hS : ∀ vs u u', I vs u → Below u.heap.size u u' → I vs u')
    (hF : ∀ (vs : List Nat) (c : Nat) (u : World), vs.length < 8 → c < W * H → w.heap.size ≤ u.heap.size → I vs u → Calls Tryz.prog F (#[.int .i64 (c : Int)] ++ caps) u fun e u' => e = .returned (.bool (on c)) ∧ I (vs ++ [c]) u' ∧ Hi w.heap.size u u')
    (h0 : I [] w) :
    Calls Tryz.prog 106 #[.agg #[.int .i64 (W : Int), .int .i64 (H : Int), .string C, .int .i64 T, .string A, .string B], .int .i64 (from_ : Int), .int .i64 dx, .int .i64 dy, .func (.func F) #[] caps] w fun e w' => e = .returned (.tuple #[]) ∧ I (rayL W H on dx dy 8 ((from_ % W : Nat) : Int) ((from_ / W : Nat) : Int)) w' := by
  obtain ⟨R, hR⟩ : ∃ R, R = rayL W H on dx dy 8 ((from_ % W : Nat) : Int) ((from_ / W : Nat) : Int) := ⟨_, rfl⟩
  rw [← hR]
  have hx0 : from_ % W < W := Nat.mod_lt _ (by omega)
  have hy0 : from_ / W < H := Nat.div_lt_of_lt_mul hf
  have et : ((from_ : Int)).tmod (W : Int) = ((from_ % W : Nat) : Int) := by rw [Int.tmod_eq_emod_of_nonneg (by omega)]; rfl
  have eq : ((from_ : Int)) / (W : Int) = ((from_ / W : Nat) : Int) := rfl
  generalize from_ % W = qx at *
  generalize from_ / W = qy at *
  obtain ⟨x, hx⟩ : ∃ x, (qx : Int) = x := ⟨_, rfl⟩
  obtain ⟨y, hy⟩ : ∃ y, (qy : Int) = y := ⟨_, rfl⟩
  rw [hx] at et hR
  rw [hy] at eq hR
  have wy : IntKind.i64.wrap y = y := by unfold IntKind.wrap; simp [IntKind.signed, IntKind.bits]; omega
  have ix : 0 ≤ x ∧ x < W := by omega
  have iy : 0 ≤ y ∧ y < H := by omega
  have hWi : (W : Int) ≠ 0 := by omega
  obtain ⟨wa, hwa⟩ : ∃ wa, wa = w.alloc (.cells #[.int .i64 (W : Int), .int .i64 (H : Int), .string C, .int .i64 T, .string A, .string B] 24 (0, 0)) := ⟨_, rfl⟩
  have hba : Below w.heap.size w wa := by rw [hwa]; exact (Below.refl _ _).alloc (Nat.le_refl _) _
  have hpb0 : isPb wa w.heap.size W H T C A B := by rw [hwa]; exact heap_alloc_new w _
  have hI0 : I [] wa := hS _ _ _ h0 hba
  have hsz0 : w.heap.size ≤ wa.heap.size := hba.size
  have HF := hide hF
  have HS := hide hS
  have HR0 : Hid (R = [] ++ rayL W H on dx dy 8 x y) := hide hR
  have hm0 : rayM W H dx dy x y ≤ 8 := by unfold rayM; split; omega; split; omega; split <;> omega
  clear hF hS h0 hba hR hx hy hx0 hy0 hf
  go_enter Tryz.func106, Tryz.ntmps106
  go_wp2
  rw [← hwa]
  clear hwa
  refine wp_scope_jumps 0 (fun a' w' => ∃ (f : Nat) (x y : Int) (vs : List Nat) (u6 u7 u8 u9 u12 u13 u14 u15 u16 u17 u18 u19 u20 u21 u22 u23 u24 u25 u26 u27 u28 u29 u30 u31 u32 u33 u34 u35 u36 u37 u38 u39 u40 u41 u42 u43 u44 u45 u46 u47 u48 u49 u50 u51 : Value), a' = { tmps := #[.agg #[.int .i64 (W : Int), .int .i64 (H : Int), .string C, .int .i64 T, .string A, .string B], .int .i64 (from_ : Int), .int .i64 dx, .int .i64 dy, .func (.func F) #[] caps, .pointer (some ⟨w.heap.size, 0, none⟩), u6, u7, u8, u9, .int .i64 x, .int .i64 y, u12, u13, u14, u15, u16, u17, u18, u19, u20, u21, u22, u23, u24, u25, u26, u27, u28, u29, u30, u31, u32, u33, u34, u35, u36, u37, u38, u39, u40, u41, u42, u43, u44, u45, u46, u47, u48, u49, u50, u51], defers := [] } ∧ I vs w' ∧ isPb w' w.heap.size W H T C A B ∧ (0 ≤ x ∧ x < W) ∧ (0 ≤ y ∧ y < H) ∧ rayM W H dx dy x y ≤ f ∧ Hid (R = vs ++ rayL W H on dx dy f x y) ∧ w.heap.size ≤ w'.heap.size ∧ vs.length + f = 8) (fun a' _ => rayM W H dx dy (intO (a'.tmps.getD 10 undef)) (intO (a'.tmps.getD 11 undef))) rfl ?_ ?_
  · obtain ⟨r0, -⟩ := hpb0.all
    go_wp2
    go_quiet (fail)
    go_wp2
    go_step3
    have hI : I [] (wa.drewN nq) := unhide HS _ _ _ hI0 ⟨rfl, rfl, rfl, Nat.le_refl _, fun _ _ => rfl⟩
    have hpb : isPb (wa.drewN nq) w.heap.size W H T C A B := hpb0
    have hsz : w.heap.size ≤ (wa.drewN nq).heap.size := hsz0
    have hxx := ix
    have hyy := iy
    have hfm := hm0
    have HR := HR0
    obtain ⟨f, hf8⟩ : ∃ f, f = 8 := ⟨_, rfl⟩
    obtain ⟨vs, hvs⟩ : ∃ vs : List Nat, vs = [] := ⟨_, rfl⟩
    have hvf : vs.length + f = 8 := by rw [hvs, hf8]; rfl
    rw [← hf8, ← hvs] at HR
    rw [← hf8] at hfm
    rw [← hvs] at hI
    clear hf8 hvs HR0 hI0 hpb0 hm0 et eq wy r0
    generalize wa.drewN nq = wr at *
    obtain ⟨r0, r1, -, -, -, -⟩ := hpb.all
    have ex : IntKind.i64.wrap (x + dx) = x + dx := by unfold IntKind.wrap; simp [IntKind.signed, IntKind.bits]; omega
    have ey : IntKind.i64.wrap (y + dy) = y + dy := by unfold IntKind.wrap; simp [IntKind.signed, IntKind.bits]; omega
    obtain ⟨x', hx'⟩ : ∃ x', x + dx = x' := ⟨_, rfl⟩
    obtain ⟨y', hy'⟩ : ∃ y', y + dy = y' := ⟨_, rfl⟩
    have hfp : 1 ≤ rayM W H dx dy x y := by unfold rayM; split; omega; split; omega; split <;> omega
    obtain ⟨f, rfl⟩ : ∃ f', f = f' + 1 := ⟨f - 1, by omega⟩
    have hst := unhide HR
    rw [rayL, hx', hy'] at hst
    have hmu : rayM W H dx dy x' y' < rayM W H dx dy x y ∨ ¬ (0 ≤ x' ∧ x' < W ∧ 0 ≤ y' ∧ y' < H) := by
      by_cases hin : 0 ≤ x' ∧ x' < W ∧ 0 ≤ y' ∧ y' < H
      · left
        unfold rayM
        split
        · omega
        · split
          · omega
          · split <;> omega
      · exact .inr hin
    rw [hx'] at ex
    rw [hy'] at ey
    have HX' := hide hx'
    have HY' := hide hy'
    have HST := hide hst
    have HPB := hide hpb
    have HIV := hide hI
    have HMU := hide hmu
    clear hst hpb hI hmu HR
    by_cases hin : 0 ≤ x' ∧ x' < W ∧ 0 ≤ y' ∧ y' < H
    · obtain ⟨i0, i1, i2, i3⟩ := hin
      obtain ⟨hcn, hcl⟩ := cell_no i0 i1 i2 i3
      have hst := unhide HST
      rw [if_pos ⟨i0, i1, i2, i3⟩] at hst
      obtain ⟨c, hc⟩ : ∃ c, c = (y' * W + x').toNat := ⟨_, rfl⟩
      rw [← hc] at hcn hcl hst
      have hyw : 0 ≤ y' * (W : Int) ∧ y' * (W : Int) ≤ 64 := by
        have a1 : 0 ≤ y' * (W : Int) := Int.mul_nonneg i2 (by omega)
        have a2 : y' * (W : Int) ≤ 8 * 8 := Int.mul_le_mul (by omega) (by omega) (by omega) (by omega)
        omega
      obtain ⟨yw, hyw'⟩ : ∃ yw, y' * (W : Int) = yw := ⟨_, rfl⟩
      rw [hyw'] at hyw hcn
      have ew : IntKind.i64.wrap yw = yw := by unfold IntKind.wrap; simp [IntKind.signed, IntKind.bits]; omega
      have HCALL := hide (unhide HF vs c _ (by omega) hcl hsz (unhide HIV))
      have HCL := hide hcl
      have HST2 := hide hst
      have n0 : ¬ x' < 0 := by omega
      have n1 : ¬ (W : Int) ≤ x' := by omega
      have n2 : ¬ y' < 0 := by omega
      have n3 : ¬ (H : Int) ≤ y' := by omega
      clear hst hcl hc
      go_wp2_with fail
      refine (unhide HCALL).mono ?_
      rintro e w2 ⟨rfl, hI2, hHi⟩
      have hpb2 := (unhide HPB).hi hHi (Nat.le_refl _)
      have hsz2 : w.heap.size ≤ w2.heap.size := Nat.le_trans hsz hHi.size
      have HI2 := hide hI2
      clear hI2 hHi
      cases hon : on c with
      | true =>
        have hst := unhide HST2
        rw [hon, if_pos rfl] at hst
        have HST3 : Hid (R = (vs ++ [c]) ++ rayL W H on dx dy f x' y') := hide (by rw [hst]; simp)
        have hlt : rayM W H dx dy x' y' < rayM W H dx dy x y := (unhide HMU).resolve_right (fun h => h ⟨i0, i1, i2, i3⟩)
        clear hst hon
        go_wp2
        go_step3
        refine ⟨rfl, f, x', y', vs ++ [c], _, _, _, _, _, _, _, _, _, _, _, _, _, _, _, _, _, _, _, _, _, _, _, _, _, _, _, _, _, _, _, _, _, _, _, _, _, _, _, _, _, _, _, _, rfl, unhide HI2, hpb2, ⟨i0, i1⟩, ⟨i2, i3⟩, by omega, HST3, hsz2, by rw [List.length_append]; simp only [List.length_cons, List.length_nil]; omega⟩
      | false =>
        have hst := unhide HST2
        rw [hon, if_neg (by simp)] at hst
        have HST3 : Hid (R = vs ++ [c]) := hide hst
        clear hst hon
        go_wp2
        simp only [Exit.jump]
        go_end0
        exact ⟨rfl, by rw [unhide HST3]; exact unhide HI2⟩
    · have hst := unhide HST
      rw [if_neg hin, List.append_nil] at hst
      have HST2 := hide hst
      clear hst
      by_cases n0 : x' < 0
      · clear hin
        go_wp2
        simp only [Exit.jump]
        refine bodyPost_ret (results_none rfl _ _ _) rfl ⟨rfl, ?_⟩
        rw [unhide HST2]
        exact unhide HIV
      · by_cases n1 : (W : Int) ≤ x'
        · clear hin
          go_wp2
          simp only [Exit.jump]
          refine bodyPost_ret (results_none rfl _ _ _) rfl ⟨rfl, ?_⟩
          rw [unhide HST2]
          exact unhide HIV
        · by_cases n2 : y' < 0
          · clear hin
            go_wp2
            simp only [Exit.jump]
            refine bodyPost_ret (results_none rfl _ _ _) rfl ⟨rfl, ?_⟩
            rw [unhide HST2]
            exact unhide HIV
          · have n3 : (H : Int) ≤ y' := by omega
            clear hin
            go_wp2
            simp only [Exit.jump]
            refine bodyPost_ret (results_none rfl _ _ _) rfl ⟨rfl, ?_⟩
            rw [unhide HST2]
            exact unhide HIV
  · rintro a' wr ⟨f, x, y, vs, u6, u7, u8, u9, u12, u13, u14, u15, u16, u17, u18, u19, u20, u21, u22, u23, u24, u25, u26, u27, u28, u29, u30, u31, u32, u33, u34, u35, u36, u37, u38, u39, u40, u41, u42, u43, u44, u45, u46, u47, u48, u49, u50, u51, rfl, hI, hpb, hxx, hyy, hfm, HR, hsz, hvf⟩
    obtain ⟨r0, r1, -, -, -, -⟩ := hpb.all
    have ex : IntKind.i64.wrap (x + dx) = x + dx := by unfold IntKind.wrap; simp [IntKind.signed, IntKind.bits]; omega
    have ey : IntKind.i64.wrap (y + dy) = y + dy := by unfold IntKind.wrap; simp [IntKind.signed, IntKind.bits]; omega
    obtain ⟨x', hx'⟩ : ∃ x', x + dx = x' := ⟨_, rfl⟩
    obtain ⟨y', hy'⟩ : ∃ y', y + dy = y' := ⟨_, rfl⟩
    have hfp : 1 ≤ rayM W H dx dy x y := by unfold rayM; split; omega; split; omega; split <;> omega
    obtain ⟨f, rfl⟩ : ∃ f', f = f' + 1 := ⟨f - 1, by omega⟩
    have hst := unhide HR
    rw [rayL, hx', hy'] at hst
    have hmu : rayM W H dx dy x' y' < rayM W H dx dy x y ∨ ¬ (0 ≤ x' ∧ x' < W ∧ 0 ≤ y' ∧ y' < H) := by
      by_cases hin : 0 ≤ x' ∧ x' < W ∧ 0 ≤ y' ∧ y' < H
      · left
        unfold rayM
        split
        · omega
        · split
          · omega
          · split <;> omega
      · exact .inr hin
    rw [hx'] at ex
    rw [hy'] at ey
    have HX' := hide hx'
    have HY' := hide hy'
    have HST := hide hst
    have HPB := hide hpb
    have HIV := hide hI
    have HMU := hide hmu
    clear hst hpb hI hmu HR
    by_cases hin : 0 ≤ x' ∧ x' < W ∧ 0 ≤ y' ∧ y' < H
    · obtain ⟨i0, i1, i2, i3⟩ := hin
      obtain ⟨hcn, hcl⟩ := cell_no i0 i1 i2 i3
      have hst := unhide HST
      rw [if_pos ⟨i0, i1, i2, i3⟩] at hst
      obtain ⟨c, hc⟩ : ∃ c, c = (y' * W + x').toNat := ⟨_, rfl⟩
      rw [← hc] at hcn hcl hst
      have hyw : 0 ≤ y' * (W : Int) ∧ y' * (W : Int) ≤ 64 := by
        have a1 : 0 ≤ y' * (W : Int) := Int.mul_nonneg i2 (by omega)
        have a2 : y' * (W : Int) ≤ 8 * 8 := Int.mul_le_mul (by omega) (by omega) (by omega) (by omega)
        omega
      obtain ⟨yw, hyw'⟩ : ∃ yw, y' * (W : Int) = yw := ⟨_, rfl⟩
      rw [hyw'] at hyw hcn
      have ew : IntKind.i64.wrap yw = yw := by unfold IntKind.wrap; simp [IntKind.signed, IntKind.bits]; omega
      have HCALL := hide (unhide HF vs c _ (by omega) hcl hsz (unhide HIV))
      have HCL := hide hcl
      have HST2 := hide hst
      have n0 : ¬ x' < 0 := by omega
      have n1 : ¬ (W : Int) ≤ x' := by omega
      have n2 : ¬ y' < 0 := by omega
      have n3 : ¬ (H : Int) ≤ y' := by omega
      clear hst hcl hc
      go_wp2_with fail
      refine (unhide HCALL).mono ?_
      rintro e w2 ⟨rfl, hI2, hHi⟩
      have hpb2 := (unhide HPB).hi hHi (Nat.le_refl _)
      have hsz2 : w.heap.size ≤ w2.heap.size := Nat.le_trans hsz hHi.size
      have HI2 := hide hI2
      clear hI2 hHi
      cases hon : on c with
      | true =>
        have hst := unhide HST2
        rw [hon, if_pos rfl] at hst
        have HST3 : Hid (R = (vs ++ [c]) ++ rayL W H on dx dy f x' y') := hide (by rw [hst]; simp)
        have hlt : rayM W H dx dy x' y' < rayM W H dx dy x y := (unhide HMU).resolve_right (fun h => h ⟨i0, i1, i2, i3⟩)
        clear hst hon
        go_wp2
        go_step3
        refine ⟨rfl, ⟨f, x', y', vs ++ [c], _, _, _, _, _, _, _, _, _, _, _, _, _, _, _, _, _, _, _, _, _, _, _, _, _, _, _, _, _, _, _, _, _, _, _, _, _, _, _, _, _, _, _, _, rfl, unhide HI2, hpb2, ⟨i0, i1⟩, ⟨i2, i3⟩, by omega, HST3, hsz2, by rw [List.length_append]; simp only [List.length_cons, List.length_nil]; omega⟩, ?_⟩
        simp [intO]
        exact hlt
      | false =>
        have hst := unhide HST2
        rw [hon, if_neg (by simp)] at hst
        have HST3 : Hid (R = vs ++ [c]) := hide hst
        clear hst hon
        go_wp2
        simp only [Exit.jump]
        go_end0
        exact ⟨rfl, by rw [unhide HST3]; exact unhide HI2⟩
    · have hst := unhide HST
      rw [if_neg hin, List.append_nil] at hst
      have HST2 := hide hst
      clear hst
      by_cases n0 : x' < 0
      · clear hin
        go_wp2
        simp only [Exit.jump]
        refine bodyPost_ret (results_none rfl _ _ _) rfl ⟨rfl, ?_⟩
        rw [unhide HST2]
        exact unhide HIV
      · by_cases n1 : (W : Int) ≤ x'
        · clear hin
          go_wp2
          simp only [Exit.jump]
          refine bodyPost_ret (results_none rfl _ _ _) rfl ⟨rfl, ?_⟩
          rw [unhide HST2]
          exact unhide HIV
        · by_cases n2 : y' < 0
          · clear hin
            go_wp2
            simp only [Exit.jump]
            refine bodyPost_ret (results_none rfl _ _ _) rfl ⟨rfl, ?_⟩
            rw [unhide HST2]
            exact unhide HIV
          · have n3 : (H : Int) ≤ y' := by omega
            clear hin
            go_wp2
            simp only [Exit.jump]
            refine bodyPost_ret (results_none rfl _ _ _) rfl ⟨rfl, ?_⟩
            rw [unhide HST2]
            exact unhide HIV
end Go.Proofs.YtbnohmnbhnineabGreatDoor
