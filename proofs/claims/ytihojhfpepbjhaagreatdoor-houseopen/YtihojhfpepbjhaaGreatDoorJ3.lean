/-
  package board, package moves, walked: letters of players, small functions.
  '==' between two positions: field by field.
  package moves, walked: walk, over any function that is asked at each cell.
  package moves, walked: what is done at each cell that a piece comes to.
  package moves, walked: what is done at each step of a way.
-/
import Derived.Test.YtihojhfpepbjhaaGreatDoorJ2
import Derived.Test.YtihojhfpepbjhaaGreatDoorJ1
import Derived.ChangeKeysEq
import Derived.WalkMore
import Derived.ScopeJumps
import Derived.BigQuiet
import Derived.Laws.Bits64b
import Derived.Shelf.Abstract
namespace Go.Proofs.YtihojhfpepbjhaaGreatDoor
open Go.RowKit
attribute [local go_sem ↓] Go.wp_at_zero Go.wp_at_succ

/-- What stands in a cell for a player's piece. -/
def letN (T c : Nat) : Nat := if T = 0 then c else c ||| 32
/-- Is the byte of a cell a piece of that player? -/
def ownB (T c : Nat) : Bool := !decide (c = 46) && decide (letN T (upN c) = c)
theorem or32 : ∀ c : Nat, c < 256 → bits .or .u8 (c : Int) 32 = ((c ||| 32 : Nat) : Int) ∧ c ||| 32 < 256 := by decide +kernel
theorem or0 : ∀ c : Nat, c < 256 → bits .or .u8 (c : Int) 0 = (c : Int) := by decide +kernel
theorem letN_lt {T c : Nat} (h : c < 256) : letN T c < 256 := by unfold letN; split; exact h; exact (or32 c h).2

set_option maxHeartbeats 1000000 in
theorem LetterOf_any (T c : Nat) (w : World) (hT : T ≤ 1) (hc : c < 256) :
    Calls Tryz.prog 158 #[.int .i64 (T : Int), .int .u8 (c : Int)] w fun e w' => e = .returned (.int .u8 (letN T c : Nat)) ∧ w' = w := by
  rcases (by omega : T = 0 ∨ T = 1) with rfl | rfl
  · have h0 := or0 c hc
    go_enter Tryz.func158, Tryz.ntmps158
    go_wp2
    go_ret
    exact ⟨rfl, rfl⟩
  · have h1 := (or32 c hc).1
    go_enter Tryz.func158, Tryz.ntmps158
    go_wp2
    go_ret
    exact ⟨rfl, rfl⟩

set_option maxHeartbeats 1000000 in
theorem IsOf_any (T c : Nat) (w : World) (hT : T ≤ 1) (hc : c < 256) :
    Calls Tryz.prog 128 #[.int .i64 (T : Int), .int .u8 (c : Int)] w fun e w' => e = .returned (.bool (ownB T c)) ∧ w' = w := by
  obtain ⟨R, hR⟩ : ∃ R, R = ownB T c := ⟨_, rfl⟩
  rw [← hR]
  unfold ownB at hR
  by_cases h46 : c = 46
  · have hRe : R = false := by rw [hR]; simp [h46]
    have hb : ((c : Int) != 46) = false := by simp; omega
    have HRE := hide hRe
    clear hR hRe h46
    go_enter Tryz.func128, Tryz.ntmps128
    go_wp2
    go_ret
    exact ⟨by rw [unhide HRE]; rfl, rfl⟩
  · have hRe : R = decide (letN T (upN c) = c) := by rw [hR]; simp [h46]
    have hb : ((c : Int) != 46) = true := by simp; omega
    have hup := up_andNot c hc
    have HC := hide (Capital_any c w)
    rw [hup.1] at HC
    have HL := hide (LetterOf_any T (upN c) w hT hup.2)
    have HRE := hide hRe
    clear hR hRe h46 hup
    go_enter Tryz.func128, Tryz.ntmps128
    go_wp2_with fail
    refine (unhide HC).mono ?_
    rintro e w1 ⟨rfl, rfl⟩
    go_wp2_with fail
    refine (unhide HL).mono ?_
    rintro e w2 ⟨rfl, rfl⟩
    go_wp2
    go_ret
    refine ⟨ret_bool ?_, rfl⟩
    rw [unhide HRE]
    rw [Bool.eq_iff_iff]
    simp
    omega
/-- The first player's way up, the second one's down. -/
def fwdI (T : Nat) : Int := 1 - 2 * (T : Int)
theorem forward_any (T : Nat) (w : World) (hT : T ≤ 1) :
    Calls Tryz.prog 188 #[.int .i64 (T : Int)] w fun e w' => e = .returned (.int .i64 (fwdI T)) ∧ w' = w := by
  go_enter Tryz.func188, Tryz.ntmps188
  go_wp2
  go_ret
  exact ⟨rfl, rfl⟩
/-- Who has won. -/
def wonI (T : Int) : Int := if T = 0 then 1 else 2
theorem wonBy_any (T : Int) (w : World) :
    Calls Tryz.prog 124 #[.int .i64 T] w fun e w' => e = .returned (.int .i64 (wonI T)) ∧ w' = w := by
  by_cases h : T = 0
  · have hb : (T == 0) = true := by simp [h]
    have hv : wonI T = 1 := by unfold wonI; rw [if_pos h]
    rw [hv]
    clear h hv
    go_enter Tryz.func124, Tryz.ntmps124
    go_wp2
    go_ret
    exact ⟨rfl, rfl⟩
  · have hb : (T == 0) = false := by simpa using h
    have hv : wonI T = 2 := by unfold wonI; rw [if_neg h]
    rw [hv]
    clear h hv
    go_enter Tryz.func124, Tryz.ntmps124
    go_wp2
    go_ret
    exact ⟨rfl, rfl⟩
/-- May a piece of the player's enter a cell by a way that takes so? -/
def entB (take : Int) (T c : Nat) : Bool := if c = 46 then decide (take ≠ 1) else decide (take ≠ 2) && ownB (1 - T) c

set_option maxHeartbeats 1000000 in
theorem mayEnter_any (k x y t : Int) (T c : Nat) (w : World) (hT : T ≤ 1) (hc : c < 256) :
    Calls Tryz.prog 165 #[.agg #[.int .i64 k, .int .i64 x, .int .i64 y, .int .i64 t], .int .i64 (T : Int), .int .u8 (c : Int)] w fun e w' => e = .returned (.bool (entB t T c)) ∧ Below w.heap.size w w' := by
  obtain ⟨R, hR⟩ : ∃ R, R = entB t T c := ⟨_, rfl⟩
  rw [← hR]
  unfold entB at hR
  have hTi : (1 : Int) - (T : Int) = ((1 - T : Nat) : Int) := by omega
  have HO := hide (fun u => IsOf_any (1 - T) c u (by omega) hc)
  rw [← hTi] at HO
  by_cases h46 : c = 46
  · have hRe : R = decide (t ≠ 1) := by rw [hR, if_pos h46]
    have hb : ((c : Int) == 46) = true := by simp; omega
    have HRE := hide hRe
    clear hR hRe h46 hTi
    go_enter Tryz.func165, Tryz.ntmps165
    go_wp2
    go_ret
    refine ⟨ret_bool ?_, (Below.refl _ w).alloc (Nat.le_refl _) _⟩
    rw [unhide HRE, Bool.eq_iff_iff]
    simp
  · have hb : ((c : Int) == 46) = false := by simp; omega
    by_cases h1 : t = 2
    · have hRe : R = false := by rw [hR, if_neg h46]; simp [h1]
      have hb1 : (t != 2) = false := by simp [h1]
      have HRE := hide hRe
      clear hR hRe h46 h1 hTi
      go_enter Tryz.func165, Tryz.ntmps165
      go_wp2
      go_ret
      exact ⟨by rw [unhide HRE]; rfl, (Below.refl _ w).alloc (Nat.le_refl _) _⟩
    · have hRe : R = ownB (1 - T) c := by rw [hR, if_neg h46]; simp [h1]
      have hb1 : (t != 2) = true := by simp [h1]
      have HRE := hide hRe
      clear hR hRe h46 h1 hTi
      go_enter Tryz.func165, Tryz.ntmps165
      go_wp2_with fail
      refine (unhide HO _).mono ?_
      rintro e w1 ⟨rfl, rfl⟩
      go_wp2
      go_ret
      exact ⟨by rw [unhide HRE]; rfl, (Below.refl _ w).alloc (Nat.le_refl _) _⟩
end Go.Proofs.YtihojhfpepbjhaaGreatDoor

namespace Go.Proofs.YtihojhfpepbjhaaGreatDoor
open Go.RowKit

end Go.Proofs.YtihojhfpepbjhaaGreatDoor

namespace Go.Proofs.YtihojhfpepbjhaaGreatDoor
open Go.RowKit
attribute [local go_sem ↓] Go.wp_at_zero Go.wp_at_succ

/-- The cells that are come to from a cell by the same step again and again. -/
def rayL (W H : Nat) (on : Nat → Bool) (dx dy : Int) : Nat → Int → Int → List Nat
  | 0, _, _ => []
  | f + 1, x, y =>
    if 0 ≤ x + dx ∧ x + dx < W ∧ 0 ≤ y + dy ∧ y + dy < H then
      (if on ((y + dy) * W + (x + dx)).toNat then ((y + dy) * W + (x + dx)).toNat :: rayL W H on dx dy f (x + dx) (y + dy) else [((y + dy) * W + (x + dx)).toNat])
    else []
/-- How far it is to the edge. -/
def rayM (W H : Nat) (dx dy x y : Int) : Nat := if 0 < dx then ((W : Int) - x).toNat else if dx < 0 then (x + 1).toNat else if 0 < dy then ((H : Int) - y).toNat else (y + 1).toNat
/-- From B on all as it was. -/
structure Hi (B : Nat) (u u' : World) : Prop where
  os : u'.os = u.os
  tape : u'.tape = u.tape
  output : u'.output = u.output
  size : u.heap.size ≤ u'.heap.size
  block : ∀ k, B ≤ k → k < u.heap.size → u'.heap[k]? = u.heap[k]?
def intO : Value → Int | .int _ q => q | _ => 0
theorem cell_no {W H : Nat} {x y : Int} (h0 : 0 ≤ x) (h1 : x < W) (h2 : 0 ≤ y) (h3 : y < H) : y * W + x = ((y * W + x).toNat : Int) ∧ (y * W + x).toNat < W * H := by
  have hy : 0 ≤ y * W := Int.mul_nonneg h2 (by omega)
  have hm : (y + 1) * (W : Int) ≤ (H : Int) * W := Int.mul_le_mul_of_nonneg_right (by omega) (by omega)
  rw [Int.add_mul, Int.one_mul] at hm
  have hc : ((W * H : Nat) : Int) = (H : Int) * W := by rw [Int.natCast_mul, Int.mul_comm]
  omega
def isPb (w : World) (b : Nat) (W H T : Int) (C A B : ByteArray) : Prop := w.heap[b]? = some (.cells #[.int .i64 W, .int .i64 H, .string C, .int .i64 T, .string A, .string B] 24 (0, 0))
theorem isPb.all {w : World} {b : Nat} {W H T : Int} {C A B : ByteArray} (h : isPb w b W H T C A B) : w.cell? ⟨b, 0, none⟩ = some (.int .i64 W) ∧ w.cell? ⟨b, 1, none⟩ = some (.int .i64 H) ∧ w.cell? ⟨b, 2, none⟩ = some (.string C) ∧ w.cell? ⟨b, 3, none⟩ = some (.int .i64 T) ∧ w.cell? ⟨b, 4, none⟩ = some (.string A) ∧ w.cell? ⟨b, 5, none⟩ = some (.string B) := by
  unfold isPb at h; simp [World.cell?, h]
theorem isPb.lt {w : World} {b : Nat} {W H T : Int} {C A B : ByteArray} (h : isPb w b W H T C A B) : b < w.heap.size := (Array.getElem?_eq_some_iff.1 h).1
theorem isPb.hi {w w' : World} {b B0 : Nat} {W H T : Int} {C A B : ByteArray} (h : isPb w b W H T C A B) (hh : Hi B0 w w') (hb : B0 ≤ b) : isPb w' b W H T C A B := by
  have hl := h.lt
  unfold isPb at h ⊢; rw [hh.block b hb hl]; exact h
theorem isPb.below {w w' : World} {b B0 : Nat} {W H T : Int} {C A B : ByteArray} (h : isPb w b W H T C A B) (hh : Below B0 w w') (hb : b < B0) : isPb w' b W H T C A B := by
  unfold isPb at h ⊢; rw [hh.block b hb]; exact h


set_option maxHeartbeats 4000000 in
set_option maxRecDepth 100000 in
theorem walk_any (W H from_ : Nat) (T : Int) (C A B : ByteArray) (dx dy : Int) (F : FuncId) (caps : Array Value) (on : Nat → Bool) (I : List Nat → World → Prop) (w : World)
    (hW : 1 ≤ W ∧ W ≤ 8) (hH : 1 ≤ H ∧ H ≤ 8) (hf : from_ < W * H) (hd : -8 ≤ dx ∧ dx ≤ 8 ∧ -8 ≤ dy ∧ dy ≤ 8 ∧ ¬ (dx = 0 ∧ dy = 0))
    (hE : ∀ args (u : World), (callFunc F args).run Tryz.prog u = .ok (.enter F args) u)
    (hS : ∀ vs u u', I vs u → Below u.heap.size u u' → I vs u')
    (hF : ∀ (vs : List Nat) (c : Nat) (u : World), vs.length < 8 → c < W * H → w.heap.size ≤ u.heap.size → I vs u → Calls Tryz.prog F (#[.int .i64 (c : Int)] ++ caps) u fun e u' => e = .returned (.bool (on c)) ∧ I (vs ++ [c]) u' ∧ Hi w.heap.size u u')
    (h0 : I [] w) :
    Calls Tryz.prog 163 #[.agg #[.int .i64 (W : Int), .int .i64 (H : Int), .string C, .int .i64 T, .string A, .string B], .int .i64 (from_ : Int), .int .i64 dx, .int .i64 dy, .func (.func F) #[] caps] w fun e w' => e = .returned (.tuple #[]) ∧ I (rayL W H on dx dy 8 ((from_ % W : Nat) : Int) ((from_ / W : Nat) : Int)) w' := by
  obtain ⟨R, hR⟩ : ∃ R, R = rayL W H on dx dy 8 ((from_ % W : Nat) : Int) ((from_ / W : Nat) : Int) := ⟨_, rfl⟩
  rw [← hR]
  have hx0 : from_ % W < W := Nat.mod_lt _ (by omega)
  have hy0 : from_ / W < H := Nat.div_lt_of_lt_mul hf
  have et : ((from_ : Int)).tmod (W : Int) = ((from_ % W : Nat) : Int) := by rw [Int.tmod_eq_emod_of_nonneg (by omega)]; rfl
  have eq : ((from_ : Int)) / (W : Int) = ((from_ / W : Nat) : Int) := rfl
  generalize from_ % W = qx at *
  generalize from_ / W = qy at *
  obtain ⟨x, hx⟩ : ∃ x, (qx : Int) = x := ⟨_, rfl⟩
  obtain ⟨y, hy⟩ : ∃ y, (qy : Int) = y := ⟨_, rfl⟩
  rw [hx] at et hR
  rw [hy] at eq hR
  have wy : IntKind.i64.wrap y = y := by unfold IntKind.wrap; simp [IntKind.signed, IntKind.bits]; omega
  have ix : 0 ≤ x ∧ x < W := by omega
  have iy : 0 ≤ y ∧ y < H := by omega
  have hWi : (W : Int) ≠ 0 := by omega
  obtain ⟨wa, hwa⟩ : ∃ wa, wa = w.alloc (.cells #[.int .i64 (W : Int), .int .i64 (H : Int), .string C, .int .i64 T, .string A, .string B] 24 (0, 0)) := ⟨_, rfl⟩
  have hba : Below w.heap.size w wa := by rw [hwa]; exact (Below.refl _ _).alloc (Nat.le_refl _) _
  have hpb0 : isPb wa w.heap.size W H T C A B := by rw [hwa]; exact heap_alloc_new w _
  have hI0 : I [] wa := hS _ _ _ h0 hba
  have hsz0 : w.heap.size ≤ wa.heap.size := hba.size
  have HF := hide hF
  have HS := hide hS
  have HR0 : Hid (R = [] ++ rayL W H on dx dy 8 x y) := hide hR
  have hm0 : rayM W H dx dy x y ≤ 8 := by unfold rayM; split; omega; split; omega; split <;> omega
  clear hF hS h0 hba hR hx hy hx0 hy0 hf
  go_enter Tryz.func163, Tryz.ntmps163
  go_wp2
  rw [← hwa]
  clear hwa
  refine wp_scope_jumps 0 (fun a' w' => ∃ (f : Nat) (x y : Int) (vs : List Nat) (u6 u7 u8 u9 u12 u13 u14 u15 u16 u17 u18 u19 u20 u21 u22 u23 u24 u25 u26 u27 u28 u29 u30 u31 u32 u33 u34 u35 u36 u37 u38 u39 u40 u41 u42 u43 u44 u45 u46 u47 u48 u49 u50 u51 : Value), a' = { tmps := #[.agg #[.int .i64 (W : Int), .int .i64 (H : Int), .string C, .int .i64 T, .string A, .string B], .int .i64 (from_ : Int), .int .i64 dx, .int .i64 dy, .func (.func F) #[] caps, .pointer (some ⟨w.heap.size, 0, none⟩), u6, u7, u8, u9, .int .i64 x, .int .i64 y, u12, u13, u14, u15, u16, u17, u18, u19, u20, u21, u22, u23, u24, u25, u26, u27, u28, u29, u30, u31, u32, u33, u34, u35, u36, u37, u38, u39, u40, u41, u42, u43, u44, u45, u46, u47, u48, u49, u50, u51], defers := [] } ∧ I vs w' ∧ isPb w' w.heap.size W H T C A B ∧ (0 ≤ x ∧ x < W) ∧ (0 ≤ y ∧ y < H) ∧ rayM W H dx dy x y ≤ f ∧ Hid (R = vs ++ rayL W H on dx dy f x y) ∧ w.heap.size ≤ w'.heap.size ∧ vs.length + f = 8) (fun a' _ => rayM W H dx dy (intO (a'.tmps.getD 10 undef)) (intO (a'.tmps.getD 11 undef))) rfl ?_ ?_
  · obtain ⟨r0, -⟩ := hpb0.all
    go_wp2
    go_quiet (fail)
    go_wp2
    go_step3
    have hI : I [] (wa.drewN nq) := unhide HS _ _ _ hI0 ⟨rfl, rfl, rfl, Nat.le_refl _, fun _ _ => rfl⟩
    have hpb : isPb (wa.drewN nq) w.heap.size W H T C A B := hpb0
    have hsz : w.heap.size ≤ (wa.drewN nq).heap.size := hsz0
    have hxx := ix
    have hyy := iy
    have hfm := hm0
    have HR := HR0
    obtain ⟨f, hf8⟩ : ∃ f, f = 8 := ⟨_, rfl⟩
    obtain ⟨vs, hvs⟩ : ∃ vs : List Nat, vs = [] := ⟨_, rfl⟩
    have hvf : vs.length + f = 8 := by rw [hvs, hf8]; rfl
    rw [← hf8, ← hvs] at HR
    rw [← hf8] at hfm
    rw [← hvs] at hI
    clear hf8 hvs HR0 hI0 hpb0 hm0 et eq wy r0
    generalize wa.drewN nq = wr at *
    obtain ⟨r0, r1, -, -, -, -⟩ := hpb.all
    have ex : IntKind.i64.wrap (x + dx) = x + dx := by unfold IntKind.wrap; simp [IntKind.signed, IntKind.bits]; omega
    have ey : IntKind.i64.wrap (y + dy) = y + dy := by unfold IntKind.wrap; simp [IntKind.signed, IntKind.bits]; omega
    obtain ⟨x', hx'⟩ : ∃ x', x + dx = x' := ⟨_, rfl⟩
    obtain ⟨y', hy'⟩ : ∃ y', y + dy = y' := ⟨_, rfl⟩
    have hfp : 1 ≤ rayM W H dx dy x y := by unfold rayM; split; omega; split; omega; split <;> omega
    obtain ⟨f, rfl⟩ : ∃ f', f = f' + 1 := ⟨f - 1, by omega⟩
    have hst := unhide HR
    rw [rayL, hx', hy'] at hst
    have hmu : rayM W H dx dy x' y' < rayM W H dx dy x y ∨ ¬ (0 ≤ x' ∧ x' < W ∧ 0 ≤ y' ∧ y' < H) := by
      by_cases hin : 0 ≤ x' ∧ x' < W ∧ 0 ≤ y' ∧ y' < H
      · left
        unfold rayM
        split
        · omega
        · split
          · omega
          · split <;> omega
      · exact .inr hin
    rw [hx'] at ex
    rw [hy'] at ey
    have HX' := hide hx'
    have HY' := hide hy'
    have HST := hide hst
    have HPB := hide hpb
    have HIV := hide hI
    have HMU := hide hmu
    clear hst hpb hI hmu HR
    by_cases hin : 0 ≤ x' ∧ x' < W ∧ 0 ≤ y' ∧ y' < H
    · obtain ⟨i0, i1, i2, i3⟩ := hin
      obtain ⟨hcn, hcl⟩ := cell_no i0 i1 i2 i3
      have hst := unhide HST
      rw [if_pos ⟨i0, i1, i2, i3⟩] at hst
      obtain ⟨c, hc⟩ : ∃ c, c = (y' * W + x').toNat := ⟨_, rfl⟩
      rw [← hc] at hcn hcl hst
      have hyw : 0 ≤ y' * (W : Int) ∧ y' * (W : Int) ≤ 64 := by
        have a1 : 0 ≤ y' * (W : Int) := Int.mul_nonneg i2 (by omega)
        have a2 : y' * (W : Int) ≤ 8 * 8 := Int.mul_le_mul (by omega) (by omega) (by omega) (by omega)
        omega
      obtain ⟨yw, hyw'⟩ : ∃ yw, y' * (W : Int) = yw := ⟨_, rfl⟩
      rw [hyw'] at hyw hcn
      have ew : IntKind.i64.wrap yw = yw := by unfold IntKind.wrap; simp [IntKind.signed, IntKind.bits]; omega
      have HCALL := hide (unhide HF vs c _ (by omega) hcl hsz (unhide HIV))
      have HCL := hide hcl
      have HST2 := hide hst
      have n0 : ¬ x' < 0 := by omega
      have n1 : ¬ (W : Int) ≤ x' := by omega
      have n2 : ¬ y' < 0 := by omega
      have n3 : ¬ (H : Int) ≤ y' := by omega
      clear hst hcl hc
      go_wp2_with fail
      refine (unhide HCALL).mono ?_
      rintro e w2 ⟨rfl, hI2, hHi⟩
      have hpb2 := (unhide HPB).hi hHi (Nat.le_refl _)
      have hsz2 : w.heap.size ≤ w2.heap.size := Nat.le_trans hsz hHi.size
      have HI2 := hide hI2
      clear hI2 hHi
      cases hon : on c with
      | true =>
        have hst := unhide HST2
        rw [hon, if_pos rfl] at hst
        have HST3 : Hid (R = (vs ++ [c]) ++ rayL W H on dx dy f x' y') := hide (by rw [hst]; simp)
        have hlt : rayM W H dx dy x' y' < rayM W H dx dy x y := (unhide HMU).resolve_right (fun h => h ⟨i0, i1, i2, i3⟩)
        clear hst hon
        go_wp2
        go_step3
        refine ⟨rfl, f, x', y', vs ++ [c], _, _, _, _, _, _, _, _, _, _, _, _, _, _, _, _, _, _, _, _, _, _, _, _, _, _, _, _, _, _, _, _, _, _, _, _, _, _, _, _, _, _, _, _, rfl, unhide HI2, hpb2, ⟨i0, i1⟩, ⟨i2, i3⟩, by omega, HST3, hsz2, by rw [List.length_append]; simp only [List.length_cons, List.length_nil]; omega⟩
      | false =>
        have hst := unhide HST2
        rw [hon, if_neg (by simp)] at hst
        have HST3 : Hid (R = vs ++ [c]) := hide hst
        clear hst hon
        go_wp2
        simp only [Exit.jump]
        go_end0
        exact ⟨rfl, by rw [unhide HST3]; exact unhide HI2⟩
    · have hst := unhide HST
      rw [if_neg hin, List.append_nil] at hst
      have HST2 := hide hst
      clear hst
      by_cases n0 : x' < 0
      · clear hin
        go_wp2
        simp only [Exit.jump]
        refine bodyPost_ret (results_none rfl _ _ _) rfl ⟨rfl, ?_⟩
        rw [unhide HST2]
        exact unhide HIV
      · by_cases n1 : (W : Int) ≤ x'
        · clear hin
          go_wp2
          simp only [Exit.jump]
          refine bodyPost_ret (results_none rfl _ _ _) rfl ⟨rfl, ?_⟩
          rw [unhide HST2]
          exact unhide HIV
        · by_cases n2 : y' < 0
          · clear hin
            go_wp2
            simp only [Exit.jump]
            refine bodyPost_ret (results_none rfl _ _ _) rfl ⟨rfl, ?_⟩
            rw [unhide HST2]
            exact unhide HIV
          · have n3 : (H : Int) ≤ y' := by omega
            clear hin
            go_wp2
            simp only [Exit.jump]
            refine bodyPost_ret (results_none rfl _ _ _) rfl ⟨rfl, ?_⟩
            rw [unhide HST2]
            exact unhide HIV
  · rintro a' wr ⟨f, x, y, vs, u6, u7, u8, u9, u12, u13, u14, u15, u16, u17, u18, u19, u20, u21, u22, u23, u24, u25, u26, u27, u28, u29, u30, u31, u32, u33, u34, u35, u36, u37, u38, u39, u40, u41, u42, u43, u44, u45, u46, u47, u48, u49, u50, u51, rfl, hI, hpb, hxx, hyy, hfm, HR, hsz, hvf⟩
    obtain ⟨r0, r1, -, -, -, -⟩ := hpb.all
    have ex : IntKind.i64.wrap (x + dx) = x + dx := by unfold IntKind.wrap; simp [IntKind.signed, IntKind.bits]; omega
    have ey : IntKind.i64.wrap (y + dy) = y + dy := by unfold IntKind.wrap; simp [IntKind.signed, IntKind.bits]; omega
    obtain ⟨x', hx'⟩ : ∃ x', x + dx = x' := ⟨_, rfl⟩
    obtain ⟨y', hy'⟩ : ∃ y', y + dy = y' := ⟨_, rfl⟩
    have hfp : 1 ≤ rayM W H dx dy x y := by unfold rayM; split; omega; split; omega; split <;> omega
    obtain ⟨f, rfl⟩ : ∃ f', f = f' + 1 := ⟨f - 1, by omega⟩
    have hst := unhide HR
    rw [rayL, hx', hy'] at hst
    have hmu : rayM W H dx dy x' y' < rayM W H dx dy x y ∨ ¬ (0 ≤ x' ∧ x' < W ∧ 0 ≤ y' ∧ y' < H) := by
      by_cases hin : 0 ≤ x' ∧ x' < W ∧ 0 ≤ y' ∧ y' < H
      · left
        unfold rayM
        split
        · omega
        · split
          · omega
          · split <;> omega
      · exact .inr hin
    rw [hx'] at ex
    rw [hy'] at ey
    have HX' := hide hx'
    have HY' := hide hy'
    have HST := hide hst
    have HPB := hide hpb
    have HIV := hide hI
    have HMU := hide hmu
    clear hst hpb hI hmu HR
    by_cases hin : 0 ≤ x' ∧ x' < W ∧ 0 ≤ y' ∧ y' < H
    · obtain ⟨i0, i1, i2, i3⟩ := hin
      obtain ⟨hcn, hcl⟩ := cell_no i0 i1 i2 i3
      have hst := unhide HST
      rw [if_pos ⟨i0, i1, i2, i3⟩] at hst
      obtain ⟨c, hc⟩ : ∃ c, c = (y' * W + x').toNat := ⟨_, rfl⟩
      rw [← hc] at hcn hcl hst
      have hyw : 0 ≤ y' * (W : Int) ∧ y' * (W : Int) ≤ 64 := by
        have a1 : 0 ≤ y' * (W : Int) := Int.mul_nonneg i2 (by omega)
        have a2 : y' * (W : Int) ≤ 8 * 8 := Int.mul_le_mul (by omega) (by omega) (by omega) (by omega)
        omega
      obtain ⟨yw, hyw'⟩ : ∃ yw, y' * (W : Int) = yw := ⟨_, rfl⟩
      rw [hyw'] at hyw hcn
      have ew : IntKind.i64.wrap yw = yw := by unfold IntKind.wrap; simp [IntKind.signed, IntKind.bits]; omega
      have HCALL := hide (unhide HF vs c _ (by omega) hcl hsz (unhide HIV))
      have HCL := hide hcl
      have HST2 := hide hst
      have n0 : ¬ x' < 0 := by omega
      have n1 : ¬ (W : Int) ≤ x' := by omega
      have n2 : ¬ y' < 0 := by omega
      have n3 : ¬ (H : Int) ≤ y' := by omega
      clear hst hcl hc
      go_wp2_with fail
      refine (unhide HCALL).mono ?_
      rintro e w2 ⟨rfl, hI2, hHi⟩
      have hpb2 := (unhide HPB).hi hHi (Nat.le_refl _)
      have hsz2 : w.heap.size ≤ w2.heap.size := Nat.le_trans hsz hHi.size
      have HI2 := hide hI2
      clear hI2 hHi
      cases hon : on c with
      | true =>
        have hst := unhide HST2
        rw [hon, if_pos rfl] at hst
        have HST3 : Hid (R = (vs ++ [c]) ++ rayL W H on dx dy f x' y') := hide (by rw [hst]; simp)
        have hlt : rayM W H dx dy x' y' < rayM W H dx dy x y := (unhide HMU).resolve_right (fun h => h ⟨i0, i1, i2, i3⟩)
        clear hst hon
        go_wp2
        go_step3
        refine ⟨rfl, ⟨f, x', y', vs ++ [c], _, _, _, _, _, _, _, _, _, _, _, _, _, _, _, _, _, _, _, _, _, _, _, _, _, _, _, _, _, _, _, _, _, _, _, _, _, _, _, _, _, _, _, _, rfl, unhide HI2, hpb2, ⟨i0, i1⟩, ⟨i2, i3⟩, by omega, HST3, hsz2, by rw [List.length_append]; simp only [List.length_cons, List.length_nil]; omega⟩, ?_⟩
        simp [intO]
        exact hlt
      | false =>
        have hst := unhide HST2
        rw [hon, if_neg (by simp)] at hst
        have HST3 : Hid (R = vs ++ [c]) := hide hst
        clear hst hon
        go_wp2
        simp only [Exit.jump]
        go_end0
        exact ⟨rfl, by rw [unhide HST3]; exact unhide HI2⟩
    · have hst := unhide HST
      rw [if_neg hin, List.append_nil] at hst
      have HST2 := hide hst
      clear hst
      by_cases n0 : x' < 0
      · clear hin
        go_wp2
        simp only [Exit.jump]
        refine bodyPost_ret (results_none rfl _ _ _) rfl ⟨rfl, ?_⟩
        rw [unhide HST2]
        exact unhide HIV
      · by_cases n1 : (W : Int) ≤ x'
        · clear hin
          go_wp2
          simp only [Exit.jump]
          refine bodyPost_ret (results_none rfl _ _ _) rfl ⟨rfl, ?_⟩
          rw [unhide HST2]
          exact unhide HIV
        · by_cases n2 : y' < 0
          · clear hin
            go_wp2
            simp only [Exit.jump]
            refine bodyPost_ret (results_none rfl _ _ _) rfl ⟨rfl, ?_⟩
            rw [unhide HST2]
            exact unhide HIV
          · have n3 : (H : Int) ≤ y' := by omega
            clear hin
            go_wp2
            simp only [Exit.jump]
            refine bodyPost_ret (results_none rfl _ _ _) rfl ⟨rfl, ?_⟩
            rw [unhide HST2]
            exact unhide HIV
end Go.Proofs.YtihojhfpepbjhaaGreatDoor

namespace Go.Proofs.YtihojhfpepbjhaaGreatDoor
open Go.RowKit
attribute [local go_sem ↓] Go.wp_at_zero Go.wp_at_succ

/-- All as it was but block g. -/
structure Bt (g : Nat) (w w' : World) : Prop where
  os : w'.os = w.os
  tape : w'.tape = w.tape
  output : w'.output = w.output
  size : w.heap.size ≤ w'.heap.size
  block : ∀ k, k < w.heap.size → k ≠ g → w'.heap[k]? = w.heap[k]?
theorem Bt.refl (g : Nat) (w : World) : Bt g w w := ⟨rfl, rfl, rfl, Nat.le_refl _, fun _ _ _ => rfl⟩
theorem Bt.of {g : Nat} {w w' : World} (h : Below w.heap.size w w') : Bt g w w' := ⟨h.os, h.tape, h.output, h.size, fun k hk _ => h.block k hk⟩
theorem Bt.trans {g : Nat} {w w' w'' : World} (h : Bt g w w') (h' : Bt g w' w'') : Bt g w w'' := ⟨h'.os.trans h.os, h'.tape.trans h.tape, h'.output.trans h.output, Nat.le_trans h.size h'.size, fun k hk hn => (h'.block k (Nat.lt_of_lt_of_le hk h.size) hn).trans (h.block k hk hn)⟩
theorem Bt.put {g : Nat} {w w' : World} (h : Bt g w w') (i : Nat) (v : Value) : Bt g w (w'.setCell ⟨g, i, none⟩ v) :=
  ⟨h.os, h.tape, h.output, by rw [show (w'.setCell ⟨g, i, none⟩ v).heap.size = w'.heap.size by simp [World.setCell]]; exact h.size, fun k hk hn => (Below.heap_setCell _ _ _ _ (by simp only; omega)).trans (h.block k hk hn)⟩
theorem isPb.bt {w w' : World} {b g : Nat} {W H T : Int} {C A B : ByteArray} (h : isPb w b W H T C A B) (hh : Bt g w w') (hb : b ≠ g) : isPb w' b W H T C A B := by
  have hl := h.lt
  unfold isPb at h ⊢; rw [hh.block b hl hb]; exact h
/-- A way in a box. -/
def isWb (w : World) (b : Nat) (k x y t : Int) : Prop := w.heap[b]? = some (.cells #[.int .i64 k, .int .i64 x, .int .i64 y, .int .i64 t] 68 (0, 0))
theorem isWb.all {w : World} {b : Nat} {k x y t : Int} (h : isWb w b k x y t) : w.cell? ⟨b, 0, none⟩ = some (.int .i64 k) ∧ w.cell? ⟨b, 1, none⟩ = some (.int .i64 x) ∧ w.cell? ⟨b, 2, none⟩ = some (.int .i64 y) ∧ w.cell? ⟨b, 3, none⟩ = some (.int .i64 t) := by
  unfold isWb at h; simp [World.cell?, h]
theorem isWb.lt {w : World} {b : Nat} {k x y t : Int} (h : isWb w b k x y t) : b < w.heap.size := (Array.getElem?_eq_some_iff.1 h).1
theorem isWb.bt {w w' : World} {b g : Nat} {k x y t : Int} (h : isWb w b k x y t) (hh : Bt g w w') (hb : b ≠ g) : isWb w' b k x y t := by
  have hl := h.lt
  unfold isWb at h ⊢; rw [hh.block b hl hb]; exact h
/-- A set of cells in a box. -/
def isGb (w : World) (b : Nat) (G : Nat) : Prop := w.heap[b]? = some (.cells #[.int .u64 (G : Int)] 176 (0, 0))
theorem isGb.all {w : World} {b : Nat} {G : Nat} (h : isGb w b G) : w.cell? ⟨b, 0, none⟩ = some (.int .u64 (G : Int)) ∧ w.frozen? ⟨b, 0, none⟩ = false := by
  unfold isGb at h; simp [World.cell?, World.frozen?, h]
theorem isGb.lt {w : World} {b : Nat} {G : Nat} (h : isGb w b G) : b < w.heap.size := (Array.getElem?_eq_some_iff.1 h).1
theorem isGb.below {w w' : World} {b B : Nat} {G : Nat} (h : isGb w b G) (hh : Below B w w') (hb : b < B) : isGb w' b G := by
  unfold isGb at h ⊢; rw [hh.block b hb]; exact h
theorem isGb.set {w : World} {b : Nat} {G : Nat} (h : isGb w b G) (G' : Nat) : isGb (w.setCell ⟨b, 0, none⟩ (.int .u64 (G' : Int))) b G' := by
  unfold isGb at h ⊢; simp [World.setCell, Array.getElem?_modify, h]
/-- The byte of a cell. -/
def cellN (C : ByteArray) (c : Nat) : Nat := (C.get! c).toNat
/-- What is gone to, one cell more. -/
def goalN (t : Int) (T : Nat) (C : ByteArray) (G c : Nat) : Nat := if entB t T (cellN C c) then G ||| 2 ^ c else G

set_option maxHeartbeats 2000000 in
set_option maxRecDepth 100000 in
theorem goal1_any (W H : Int) (T : Nat) (C A B : ByteArray) (k x y t : Int) (pb wb gb G c : Nat) (w : World) (hp : isPb w pb W H T C A B) (hw : isWb w wb k x y t) (hg : isGb w gb G) (hT : T ≤ 1) (hC : C.size ≤ 64) (hc : c < C.size) (hG : G < 18446744073709551616) (hne : wb ≠ gb) :
    Calls Tryz.prog 164 #[.int .i64 (c : Int), .pointer (some ⟨pb, 0, none⟩), .pointer (some ⟨wb, 0, none⟩), .pointer (some ⟨gb, 0, none⟩)] w fun e w' => e = .returned (.bool (decide (k = 2) && decide (cellN C c = 46))) ∧ isGb w' gb (goalN t T C G c) ∧ Bt gb w w' := by
  obtain ⟨p0, p1, p2, p3, p4, p5⟩ := hp.all
  obtain ⟨w0, w1, w2, w3⟩ := hw.all
  have hglt := hg.lt
  have hcn : (C[c]'hc).toNat = cellN C c := by
    unfold cellN
    cases C with
    | mk d => exact congrArg UInt8.toNat (getElem!_pos d c hc).symm
  obtain ⟨N, hN⟩ : ∃ N, N = cellN C c := ⟨_, rfl⟩
  rw [← hN] at hcn ⊢
  have hN256 : N < 256 := by rw [← hcn]; exact UInt8.toNat_lt _
  have hci : (c : Int) < (C.size : Int) := by omega
  have HEN := hide (fun u => mayEnter_any k x y t T N u hT hN256)
  have HG := hide hg
  have HW := hide hw
  have HNE := hide hne
  have HN : Hid (goalN t T C G c = if entB t T N then G ||| 2 ^ c else G) := hide (by unfold goalN; rw [← hN])
  clear hp hw hg hN
  go_enter Tryz.func164, Tryz.ntmps164
  go_wp2_with fail
  refine (unhide HEN _).mono ?_
  rintro e w4 ⟨rfl, hb4⟩
  have hg4 := (unhide HG).below hb4 hglt
  have hbt4 : Bt gb w w4 := Bt.of hb4
  have hw4 := (unhide HW).bt hbt4 (unhide HNE)
  obtain ⟨g0, gf⟩ := hg4.all
  obtain ⟨v0, -, -, -⟩ := hw4.all
  have HG4 := hide hg4
  have HBT4 := hide hbt4
  have HW4 := hide hw4
  clear hg4 hbt4 hw4 hb4
  cases hen : entB t T N with
  | true =>
    have hgo : goalN t T C G c = G ||| 2 ^ c := by rw [unhide HN, hen]; rfl
    have HGO := hide hgo
    have hg5 := (unhide HG4).set (G ||| 2 ^ c)
    have hbt5 := (unhide HBT4).put 0 (.int .u64 ((G ||| 2 ^ c : Nat) : Int))
    have hw5 := (unhide HW4).bt ((Bt.refl gb w4).put 0 (.int .u64 ((G ||| 2 ^ c : Nat) : Int))) (unhide HNE)
    obtain ⟨y0, -, -, -⟩ := hw5.all
    have h2c : (2 : Nat) ^ c < 18446744073709551616 := Nat.lt_of_lt_of_le (Nat.pow_lt_pow_right (by decide) (show c < 64 by omega)) (by decide)
    have hor := bits_or_u64_nat G (2 ^ c) hG h2c
    have e2 : ((2 : Int) ^ c) = ((2 ^ c : Nat) : Int) := by rw [Int.natCast_pow]; rfl
    rw [← e2] at hor
    have hsh : IntKind.u64.wrap ((2 : Int) ^ c) = (2 : Int) ^ c := by
      rw [e2]
      generalize (2 : Nat) ^ c = P at h2c
      unfold IntKind.wrap
      simp [IntKind.signed, IntKind.bits]
      omega
    have hc0 : ¬ (c : Int) < 0 := by omega
    clear hen hgo
    have HG5 := hide hg5
    have HBT5 := hide hbt5
    clear hg5 hbt5 hw5 e2 h2c
    by_cases hk : k = 2
    · have hkb : (k == 2) = true := by simp [hk]
      have HK := hide hk
      clear hk
      go_wp2
      go_region
      go_wp2
      go_ret
      refine ⟨ret_bool ?_, by rw [unhide HGO]; exact unhide HG5, ⟨(unhide HBT5).os, (unhide HBT5).tape, (unhide HBT5).output, (unhide HBT5).size, (unhide HBT5).block⟩⟩
      rw [decide_eq_true (unhide HK), Bool.true_and, Bool.eq_iff_iff]
      simp
      omega
    · have hkb : (k == 2) = false := by simpa using hk
      have HK := hide hk
      clear hk
      go_wp2
      go_region
      go_wp2
      go_ret
      refine ⟨ret_bool ?_, by rw [unhide HGO]; exact unhide HG5, ⟨(unhide HBT5).os, (unhide HBT5).tape, (unhide HBT5).output, (unhide HBT5).size, (unhide HBT5).block⟩⟩
      rw [decide_eq_false (unhide HK), Bool.false_and]
  | false =>
    have hgo : goalN t T C G c = G := by rw [unhide HN, hen]; rfl
    have HGO := hide hgo
    clear hen hgo
    by_cases hk : k = 2
    · have hkb : (k == 2) = true := by simp [hk]
      have HK := hide hk
      clear hk
      go_wp2
      go_ret
      refine ⟨ret_bool ?_, by rw [unhide HGO]; exact unhide HG4, unhide HBT4⟩
      rw [decide_eq_true (unhide HK), Bool.true_and, Bool.eq_iff_iff]
      simp
      omega
    · have hkb : (k == 2) = false := by simpa using hk
      have HK := hide hk
      clear hk
      go_wp2
      go_ret
      refine ⟨ret_bool ?_, by rw [unhide HGO]; exact unhide HG4, unhide HBT4⟩
      rw [decide_eq_false (unhide HK), Bool.false_and]
end Go.Proofs.YtihojhfpepbjhaaGreatDoor

namespace Go.Proofs.YtihojhfpepbjhaaGreatDoor
open Go.RowKit
attribute [local go_sem ↓] Go.wp_at_zero Go.wp_at_succ

theorem goalN_lt {t : Int} {T : Nat} {C : ByteArray} {G c : Nat} (hG : G < 18446744073709551616) (hc : c < 64) : goalN t T C G c < 18446744073709551616 := by
  unfold goalN
  split
  · have h2c : (2 : Nat) ^ c < 2 ^ 64 := Nat.pow_lt_pow_right (by decide) hc
    exact Nat.or_lt_two_pow (n := 64) hG h2c
  · exact hG
/-- A number in a box. -/
def isIb (w : World) (b : Nat) (n : Int) : Prop := w.heap[b]? = some (.cells #[.int .i64 n] 3 (0, 0))
theorem isIb.all {w : World} {b : Nat} {n : Int} (h : isIb w b n) : w.cell? ⟨b, 0, none⟩ = some (.int .i64 n) ∧ w.frozen? ⟨b, 0, none⟩ = false := by
  unfold isIb at h; simp [World.cell?, World.frozen?, h]
theorem isIb.lt {w : World} {b : Nat} {n : Int} (h : isIb w b n) : b < w.heap.size := (Array.getElem?_eq_some_iff.1 h).1
theorem isIb.bt {w w' : World} {b g : Nat} {n : Int} (h : isIb w b n) (hh : Bt g w w') (hb : b ≠ g) : isIb w' b n := by
  have hl := h.lt
  unfold isIb at h ⊢; rw [hh.block b hl hb]; exact h
theorem entG : ∀ args (u : World), (callFunc 164 args).run Tryz.prog u = .ok (.enter 164 args) u := enters_of Tryz.func164 (by kernel_rfl) rfl
theorem Bt.hi {g B : Nat} {u u' : World} (h : Bt g u u') (hg : g < B) : Hi B u u' := ⟨h.os, h.tape, h.output, h.size, fun k hk hl => h.block k hl (by omega)⟩
/-- What a piece goes to by a step of a way. -/
def rayG (W H : Nat) (k t : Int) (T : Nat) (C : ByteArray) (from_ : Nat) (dx dy : Int) (G : Nat) : Nat :=
  (rayL W H (fun c => decide (k = 2) && decide (cellN C c = 46)) dx dy 8 ((from_ % W : Nat) : Int) ((from_ / W : Nat) : Int)).foldl (goalN t T C) G
theorem rayL_lt {W H : Nat} {on : Nat → Bool} {dx dy : Int} : ∀ (f : Nat) (x y : Int), ∀ c ∈ rayL W H on dx dy f x y, c < W * H
  | 0, x, y, c, h => by rw [rayL] at h; simp at h
  | f + 1, x, y, c, h => by
    rw [rayL] at h
    split at h
    · rename_i hin
      obtain ⟨i0, i1, i2, i3⟩ := hin
      have hc := (cell_no i0 i1 i2 i3).2
      split at h
      · rcases List.mem_cons.1 h with rfl | h
        · exact hc
        · exact rayL_lt f _ _ c h
      · simp only [List.mem_singleton] at h
        subst h; exact hc
    · simp at h
theorem fold_lt {t : Int} {T : Nat} {C : ByteArray} : ∀ (l : List Nat) (G : Nat), (∀ c ∈ l, c < 64) → G < 18446744073709551616 → l.foldl (goalN t T C) G < 18446744073709551616
  | [], G, _, h => h
  | c :: l, G, hl, h => fold_lt l _ (fun d hd => hl d (by simp [hd])) (goalN_lt h (hl c (by simp)))

set_option maxHeartbeats 2000000 in
set_option maxRecDepth 100000 in
theorem step1_any (W H from_ T : Nat) (C A B : ByteArray) (k x y t dx dy : Int) (pb fb wb gb G : Nat) (w : World) (hp : isPb w pb W H T C A B) (hf : isIb w fb from_) (hw : isWb w wb k x y t) (hg : isGb w gb G) (hT : T ≤ 1) (hW : 1 ≤ W ∧ W ≤ 8) (hH : 1 ≤ H ∧ H ≤ 8) (hC : C.size = W * H) (hfr : from_ < W * H) (hG : G < 18446744073709551616)
    (hd : -8 ≤ dx ∧ dx ≤ 8 ∧ -8 ≤ dy ∧ dy ≤ 8 ∧ ¬ (dx = 0 ∧ dy = 0)) (hn1 : pb ≠ gb) (hn2 : wb ≠ gb) :
    Calls Tryz.prog 162 #[.int .i64 dx, .int .i64 dy, .pointer (some ⟨pb, 0, none⟩), .pointer (some ⟨fb, 0, none⟩), .pointer (some ⟨wb, 0, none⟩), .pointer (some ⟨gb, 0, none⟩)] w fun e w' => e = .returned (.tuple #[]) ∧ isGb w' gb (rayG W H k t T C from_ dx dy G) ∧ Bt gb w w' := by
  have h64 : W * H ≤ 64 := Nat.mul_le_mul hW.2 hH.2
  have hglt := hg.lt
  have hI : ∀ (vs : List Nat) (u u' : World), ((∀ c ∈ vs, c < 64) ∧ isGb u gb (vs.foldl (goalN t T C) G) ∧ Bt gb w u) → Below u.heap.size u u' → ((∀ c ∈ vs, c < 64) ∧ isGb u' gb (vs.foldl (goalN t T C) G) ∧ Bt gb w u') :=
    fun vs u u' ⟨h0, h1, h2⟩ hb => ⟨h0, h1.below hb h1.lt, h2.trans (Bt.of hb)⟩
  have hWK := walk_any W H from_ (T : Int) C A B dx dy 164 #[.pointer (some ⟨pb, 0, none⟩), .pointer (some ⟨wb, 0, none⟩), .pointer (some ⟨gb, 0, none⟩)] (fun c => decide (k = 2) && decide (cellN C c = 46))
    (fun vs u => (∀ c ∈ vs, c < 64) ∧ isGb u gb (vs.foldl (goalN t T C) G) ∧ Bt gb w u) w hW hH hfr hd entG hI
    (fun vs c u _ hc hu ⟨h0, h1, h2⟩ => by
      refine (goal1_any W H T C A B k x y t pb wb gb (vs.foldl (goalN t T C) G) c u (hp.bt h2 hn1) (hw.bt h2 hn2) h1 hT (by omega) (by omega) (fold_lt vs G h0 hG) hn2).mono ?_
      rintro e u' ⟨rfl, h3, h4⟩
      refine ⟨rfl, ⟨fun d hd => ?_, ?_, h2.trans h4⟩, h4.hi (by omega)⟩
      · rcases List.mem_append.1 hd with hd | hd
        · exact h0 d hd
        · simp only [List.mem_singleton] at hd; omega
      · rw [List.foldl_append]; exact h3)
    ⟨fun c hc => by simp at hc, hg, Bt.refl _ _⟩
  obtain ⟨p0, p1, p2, p3, p4, p5⟩ := hp.all
  obtain ⟨f0, -⟩ := hf.all
  have hmf : ∀ (fn : Fn) (first cap : Array Value) (w : World), (Instr.makeFunc fn first cap).run Tryz.prog w = .ok (.func fn first cap) w := fun _ _ _ _ => rfl
  have HWK := hide hWK
  clear hWK hI hp hf hw hg
  go_enter Tryz.func162, Tryz.ntmps162
  go_wp2_with fail
  refine (unhide HWK).mono ?_
  rintro e w1 ⟨rfl, -, h1, h2⟩
  go_wp2
  go_end0
  exact ⟨rfl, h1, h2⟩
end Go.Proofs.YtihojhfpepbjhaaGreatDoor
