/-
  package moves, walked: walk, over any function that is asked at each cell.
  package rules, walked: Check.
-/
import Derived.Test.YtbijadnekoeofaaGreatDoorJ4
import Derived.WalkMore
import Derived.ScopeJumps
import Derived.BigQuiet
namespace Go.Proofs.YtbijadnekoeofaaGreatDoor
open Go.RowKit
attribute [local go_sem ↓] Go.wp_at_zero Go.wp_at_succ

/-- The cells that are come to from a cell by the same step again and again. -/
def rayL (W H : Nat) (on : Nat → Bool) (dx dy : Int) : Nat → Int → Int → List Nat
  | 0, _, _ => []
  | f + 1, x, y =>
    if 0 ≤ x + dx ∧ x + dx < W ∧ 0 ≤ y + dy ∧ y + dy < H then
      (if on ((y + dy) * W + (x + dx)).toNat then ((y + dy) * W + (x + dx)).toNat :: rayL W H on dx dy f (x + dx) (y + dy) else [((y + dy) * W + (x + dx)).toNat])
    else []
/-- How far it is to the edge. -/
def rayM (W H : Nat) (dx dy x y : Int) : Nat := if 0 < dx then ((W : Int) - x).toNat else if dx < 0 then (x + 1).toNat else if 0 < dy then ((H : Int) - y).toNat else (y + 1).toNat
/-- From B on all as it was. -/
structure Hi (B : Nat) (u u' : World) : Prop where
  os : u'.os = u.os
  tape : u'.tape = u.tape
  output : u'.output = u.output
  size : u.heap.size ≤ u'.heap.size
  block : ∀ k, B ≤ k → k < u.heap.size → u'.heap[k]? = u.heap[k]?
def intO : Value → Int | .int _ q => q | _ => 0
theorem cell_no {W H : Nat} {x y : Int} (h0 : 0 ≤ x) (h1 : x < W) (h2 : 0 ≤ y) (h3 : y < H) : y * W + x = ((y * W + x).toNat : Int) ∧ (y * W + x).toNat < W * H := by
  have hy : 0 ≤ y * W := Int.mul_nonneg h2 (by omega)
  have hm : (y + 1) * (W : Int) ≤ (H : Int) * W := Int.mul_le_mul_of_nonneg_right (by omega) (by omega)
  rw [Int.add_mul, Int.one_mul] at hm
  have hc : ((W * H : Nat) : Int) = (H : Int) * W := by rw [Int.natCast_mul, Int.mul_comm]
  omega
def isPb (w : World) (b : Nat) (W H T : Int) (C A B : ByteArray) : Prop := w.heap[b]? = some (.cells #[.int .i64 W, .int .i64 H, .string C, .int .i64 T, .string A, .string B] 24 (0, 0))
theorem isPb.all {w : World} {b : Nat} {W H T : Int} {C A B : ByteArray} (h : isPb w b W H T C A B) : w.cell? ⟨b, 0, none⟩ = some (.int .i64 W) ∧ w.cell? ⟨b, 1, none⟩ = some (.int .i64 H) ∧ w.cell? ⟨b, 2, none⟩ = some (.string C) ∧ w.cell? ⟨b, 3, none⟩ = some (.int .i64 T) ∧ w.cell? ⟨b, 4, none⟩ = some (.string A) ∧ w.cell? ⟨b, 5, none⟩ = some (.string B) := by
  unfold isPb at h; simp [World.cell?, h]
theorem isPb.lt {w : World} {b : Nat} {W H T : Int} {C A B : ByteArray} (h : isPb w b W H T C A B) : b < w.heap.size := (Array.getElem?_eq_some_iff.1 h).1
theorem isPb.hi {w w' : World} {b B0 : Nat} {W H T : Int} {C A B : ByteArray} (h : isPb w b W H T C A B) (hh : Hi B0 w w') (hb : B0 ≤ b) : isPb w' b W H T C A B := by
  have hl := h.lt
  unfold isPb at h ⊢; rw [hh.block b hb hl]; exact h
theorem isPb.below {w w' : World} {b B0 : Nat} {W H T : Int} {C A B : ByteArray} (h : isPb w b W H T C A B) (hh : Below B0 w w') (hb : b < B0) : isPb w' b W H T C A B := by
  unfold isPb at h ⊢; rw [hh.block b hb]; exact h


set_option maxHeartbeats 4000000 in
set_option maxRecDepth 100000 in
theorem walk_any (W H from_ : Nat) (T : Int) (C A B : ByteArray) (dx dy : Int) (F : FuncId) (caps : Array Value) (on : Nat → Bool) (I : List Nat → World → Prop) (w : World)
    (hW : 1 ≤ W ∧ W ≤ 8) (hH : 1 ≤ H ∧ H ≤ 8) (hf : from_ < W * H) (hd : -8 ≤ dx ∧ dx ≤ 8 ∧ -8 ≤ dy ∧ dy ≤ 8 ∧ ¬ (dx = 0 ∧ dy = 0))
    (hE : ∀ args (u : World), (callFunc F args).run Tryz.prog u = .ok (.enter F args) u)
    (hS : ∀ vs u u', I vs u → Below u.heap.size u u' → I vs u')
    (hF : ∀ (vs : List Nat) (c : Nat) (u : World), vs.length < 8 → c < W * H → w.heap.size ≤ u.heap.size → I vs u → Calls Tryz.prog F (#[.int .i64 (c : Int)] ++ caps) u fun e u' => e = .returned (.bool (on c)) ∧ I (vs ++ [c]) u' ∧ Hi w.heap.size u u')
    (h0 : I [] w) :
    Calls Tryz.prog 121 #[.agg #[.int .i64 (W : Int), .int .i64 (H : Int), .string C, .int .i64 T, .string A, .string B], .int .i64 (from_ : Int), .int .i64 dx, .int .i64 dy, .func (.func F) #[] caps] w fun e w' => e = .returned (.tuple #[]) ∧ I (rayL W H on dx dy 8 ((from_ % W : Nat) : Int) ((from_ / W : Nat) : Int)) w' := by
  obtain ⟨R, hR⟩ : ∃ R, R = rayL W H on dx dy 8 ((from_ % W : Nat) : Int) ((from_ / W : Nat) : Int) := ⟨_, rfl⟩
  rw [← hR]
  have hx0 : from_ % W < W := Nat.mod_lt _ (by omega)
  have hy0 : from_ / W < H := Nat.div_lt_of_lt_mul hf
  have et : ((from_ : Int)).tmod (W : Int) = ((from_ % W : Nat) : Int) := by rw [Int.tmod_eq_emod_of_nonneg (by omega)]; rfl
  have eq : ((from_ : Int)) / (W : Int) = ((from_ / W : Nat) : Int) := rfl
  generalize from_ % W = qx at *
  generalize from_ / W = qy at *
  obtain ⟨x, hx⟩ : ∃ x, (qx : Int) = x := ⟨_, rfl⟩
  obtain ⟨y, hy⟩ : ∃ y, (qy : Int) = y := ⟨_, rfl⟩
  rw [hx] at et hR
  rw [hy] at eq hR
  have wy : IntKind.i64.wrap y = y := by unfold IntKind.wrap; simp [IntKind.signed, IntKind.bits]; omega
  have ix : 0 ≤ x ∧ x < W := by omega
  have iy : 0 ≤ y ∧ y < H := by omega
  have hWi : (W : Int) ≠ 0 := by omega
  obtain ⟨wa, hwa⟩ : ∃ wa, wa = w.alloc (.cells #[.int .i64 (W : Int), .int .i64 (H : Int), .string C, .int .i64 T, .string A, .string B] 24 (0, 0)) := ⟨_, rfl⟩
  have hba : Below w.heap.size w wa := by rw [hwa]; exact (Below.refl _ _).alloc (Nat.le_refl _) _
  have hpb0 : isPb wa w.heap.size W H T C A B := by rw [hwa]; exact heap_alloc_new w _
  have hI0 : I [] wa := hS _ _ _ h0 hba
  have hsz0 : w.heap.size ≤ wa.heap.size := hba.size
  have HF := hide hF
  have HS := hide hS
  have HR0 : Hid (R = [] ++ rayL W H on dx dy 8 x y) := hide hR
  have hm0 : rayM W H dx dy x y ≤ 8 := by unfold rayM; split; omega; split; omega; split <;> omega
  clear hF hS h0 hba hR hx hy hx0 hy0 hf
  go_enter Tryz.func121, Tryz.ntmps121
  go_wp2
  rw [← hwa]
  clear hwa
  refine wp_scope_jumps 0 (fun a' w' => ∃ (f : Nat) (x y : Int) (vs : List Nat) (u6 u7 u8 u9 u12 u13 u14 u15 u16 u17 u18 u19 u20 u21 u22 u23 u24 u25 u26 u27 u28 u29 u30 u31 u32 u33 u34 u35 u36 u37 u38 u39 u40 u41 u42 u43 u44 u45 u46 u47 u48 u49 u50 u51 : Value), a' = { tmps := #[.agg #[.int .i64 (W : Int), .int .i64 (H : Int), .string C, .int .i64 T, .string A, .string B], .int .i64 (from_ : Int), .int .i64 dx, .int .i64 dy, .func (.func F) #[] caps, .pointer (some ⟨w.heap.size, 0, none⟩), u6, u7, u8, u9, .int .i64 x, .int .i64 y, u12, u13, u14, u15, u16, u17, u18, u19, u20, u21, u22, u23, u24, u25, u26, u27, u28, u29, u30, u31, u32, u33, u34, u35, u36, u37, u38, u39, u40, u41, u42, u43, u44, u45, u46, u47, u48, u49, u50, u51], defers := [] } ∧ I vs w' ∧ isPb w' w.heap.size W H T C A B ∧ (0 ≤ x ∧ x < W) ∧ (0 ≤ y ∧ y < H) ∧ rayM W H dx dy x y ≤ f ∧ Hid (R = vs ++ rayL W H on dx dy f x y) ∧ w.heap.size ≤ w'.heap.size ∧ vs.length + f = 8) (fun a' _ => rayM W H dx dy (intO (a'.tmps.getD 10 undef)) (intO (a'.tmps.getD 11 undef))) rfl ?_ ?_
  · obtain ⟨r0, -⟩ := hpb0.all
    go_wp2
    go_quiet (fail)
    go_wp2
    go_step3
    have hI : I [] (wa.drewN nq) := unhide HS _ _ _ hI0 ⟨rfl, rfl, rfl, Nat.le_refl _, fun _ _ => rfl⟩
    have hpb : isPb (wa.drewN nq) w.heap.size W H T C A B := hpb0
    have hsz : w.heap.size ≤ (wa.drewN nq).heap.size := hsz0
    have hxx := ix
    have hyy := iy
    have hfm := hm0
    have HR := HR0
    obtain ⟨f, hf8⟩ : ∃ f, f = 8 := ⟨_, rfl⟩
    obtain ⟨vs, hvs⟩ : ∃ vs : List Nat, vs = [] := ⟨_, rfl⟩
    have hvf : vs.length + f = 8 := by rw [hvs, hf8]; rfl
    rw [← hf8, ← hvs] at HR
    rw [← hf8] at hfm
    rw [← hvs] at hI
    clear hf8 hvs HR0 hI0 hpb0 hm0 et eq wy r0
    generalize wa.drewN nq = wr at *
    obtain ⟨r0, r1, -, -, -, -⟩ := hpb.all
    have ex : IntKind.i64.wrap (x + dx) = x + dx := by unfold IntKind.wrap; simp [IntKind.signed, IntKind.bits]; omega
    have ey : IntKind.i64.wrap (y + dy) = y + dy := by unfold IntKind.wrap; simp [IntKind.signed, IntKind.bits]; omega
    obtain ⟨x', hx'⟩ : ∃ x', x + dx = x' := ⟨_, rfl⟩
    obtain ⟨y', hy'⟩ : ∃ y', y + dy = y' := ⟨_, rfl⟩
    have hfp : 1 ≤ rayM W H dx dy x y := by unfold rayM; split; omega; split; omega; split <;> omega
    obtain ⟨f, rfl⟩ : ∃ f', f = f' + 1 := ⟨f - 1, by omega⟩
    have hst := unhide HR
    rw [rayL, hx', hy'] at hst
    have hmu : rayM W H dx dy x' y' < rayM W H dx dy x y ∨ ¬ (0 ≤ x' ∧ x' < W ∧ 0 ≤ y' ∧ y' < H) := by
      by_cases hin : 0 ≤ x' ∧ x' < W ∧ 0 ≤ y' ∧ y' < H
      · left
        unfold rayM
        split
        · omega
        · split
          · omega
          · split <;> omega
      · exact .inr hin
    rw [hx'] at ex
    rw [hy'] at ey
    have HX' := hide hx'
    have HY' := hide hy'
    have HST := hide hst
    have HPB := hide hpb
    have HIV := hide hI
    have HMU := hide hmu
    clear hst hpb hI hmu HR
    by_cases hin : 0 ≤ x' ∧ x' < W ∧ 0 ≤ y' ∧ y' < H
    · obtain ⟨i0, i1, i2, i3⟩ := hin
      obtain ⟨hcn, hcl⟩ := cell_no i0 i1 i2 i3
      have hst := unhide HST
      rw [if_pos ⟨i0, i1, i2, i3⟩] at hst
      obtain ⟨c, hc⟩ : ∃ c, c = (y' * W + x').toNat := ⟨_, rfl⟩
      rw [← hc] at hcn hcl hst
      have hyw : 0 ≤ y' * (W : Int) ∧ y' * (W : Int) ≤ 64 := by
        have a1 : 0 ≤ y' * (W : Int) := Int.mul_nonneg i2 (by omega)
        have a2 : y' * (W : Int) ≤ 8 * 8 := Int.mul_le_mul (by omega) (by omega) (by omega) (by omega)
        omega
      obtain ⟨yw, hyw'⟩ : ∃ yw, y' * (W : Int) = yw := ⟨_, rfl⟩
      rw [hyw'] at hyw hcn
      have ew : IntKind.i64.wrap yw = yw := by unfold IntKind.wrap; simp [IntKind.signed, IntKind.bits]; omega
      have HCALL := hide (unhide HF vs c _ (by omega) hcl hsz (unhide HIV))
      have HCL := hide hcl
      have HST2 := hide hst
      have n0 : ¬ x' < 0 := by omega
      have n1 : ¬ (W : Int) ≤ x' := by omega
      have n2 : ¬ y' < 0 := by omega
      have n3 : ¬ (H : Int) ≤ y' := by omega
      clear hst hcl hc
      go_wp2_with fail
      refine (unhide HCALL).mono ?_
      rintro e w2 ⟨rfl, hI2, hHi⟩
      have hpb2 := (unhide HPB).hi hHi (Nat.le_refl _)
      have hsz2 : w.heap.size ≤ w2.heap.size := Nat.le_trans hsz hHi.size
      have HI2 := hide hI2
      clear hI2 hHi
      cases hon : on c with
      | true =>
        have hst := unhide HST2
        rw [hon, if_pos rfl] at hst
        have HST3 : Hid (R = (vs ++ [c]) ++ rayL W H on dx dy f x' y') := hide (by rw [hst]; simp)
        have hlt : rayM W H dx dy x' y' < rayM W H dx dy x y := (unhide HMU).resolve_right (fun h => h ⟨i0, i1, i2, i3⟩)
        clear hst hon
        go_wp2
        go_step3
        refine ⟨rfl, f, x', y', vs ++ [c], _, _, _, _, _, _, _, _, _, _, _, _, _, _, _, _, _, _, _, _, _, _, _, _, _, _, _, _, _, _, _, _, _, _, _, _, _, _, _, _, _, _, _, _, rfl, unhide HI2, hpb2, ⟨i0, i1⟩, ⟨i2, i3⟩, by omega, HST3, hsz2, by rw [List.length_append]; simp only [List.length_cons, List.length_nil]; omega⟩
      | false =>
        have hst := unhide HST2
        rw [hon, if_neg (by simp)] at hst
        have HST3 : Hid (R = vs ++ [c]) := hide hst
        clear hst hon
        go_wp2
        simp only [Exit.jump]
        go_end0
        exact ⟨rfl, by rw [unhide HST3]; exact unhide HI2⟩
    · have hst := unhide HST
      rw [if_neg hin, List.append_nil] at hst
      have HST2 := hide hst
      clear hst
      by_cases n0 : x' < 0
      · clear hin
        go_wp2
        simp only [Exit.jump]
        refine bodyPost_ret (results_none rfl _ _ _) rfl ⟨rfl, ?_⟩
        rw [unhide HST2]
        exact unhide HIV
      · by_cases n1 : (W : Int) ≤ x'
        · clear hin
          go_wp2
          simp only [Exit.jump]
          refine bodyPost_ret (results_none rfl _ _ _) rfl ⟨rfl, ?_⟩
          rw [unhide HST2]
          exact unhide HIV
        · by_cases n2 : y' < 0
          · clear hin
            go_wp2
            simp only [Exit.jump]
            refine bodyPost_ret (results_none rfl _ _ _) rfl ⟨rfl, ?_⟩
            rw [unhide HST2]
            exact unhide HIV
          · have n3 : (H : Int) ≤ y' := by omega
            clear hin
            go_wp2
            simp only [Exit.jump]
            refine bodyPost_ret (results_none rfl _ _ _) rfl ⟨rfl, ?_⟩
            rw [unhide HST2]
            exact unhide HIV
  · rintro a' wr ⟨f, x, y, vs, u6, u7, u8, u9, u12, u13, u14, u15, u16, u17, u18, u19, u20, u21, u22, u23, u24, u25, u26, u27, u28, u29, u30, u31, u32, u33, u34, u35, u36, u37, u38, u39, u40, u41, u42, u43, u44, u45, u46, u47, u48, u49, u50, u51, rfl, hI, hpb, hxx, hyy, hfm, HR, hsz, hvf⟩
    obtain ⟨r0, r1, -, -, -, -⟩ := hpb.all
    have ex : IntKind.i64.wrap (x + dx) = x + dx := by unfold IntKind.wrap; simp [IntKind.signed, IntKind.bits]; omega
    have ey : IntKind.i64.wrap (y + dy) = y + dy := by unfold IntKind.wrap; simp [IntKind.signed, IntKind.bits]; omega
    obtain ⟨x', hx'⟩ : ∃ x', x + dx = x' := ⟨_, rfl⟩
    obtain ⟨y', hy'⟩ : ∃ y', y + dy = y' := ⟨_, rfl⟩
    have hfp : 1 ≤ rayM W H dx dy x y := by unfold rayM; split; omega; split; omega; split <;> omega
    obtain ⟨f, rfl⟩ : ∃ f', f = f' + 1 := ⟨f - 1, by omega⟩
    have hst := unhide HR
    rw [rayL, hx', hy'] at hst
    have hmu : rayM W H dx dy x' y' < rayM W H dx dy x y ∨ ¬ (0 ≤ x' ∧ x' < W ∧ 0 ≤ y' ∧ y' < H) := by
      by_cases hin : 0 ≤ x' ∧ x' < W ∧ 0 ≤ y' ∧ y' < H
      · left
        unfold rayM
        split
        · omega
        · split
          · omega
          · split <;> omega
      · exact .inr hin
    rw [hx'] at ex
    rw [hy'] at ey
    have HX' := hide hx'
    have HY' := hide hy'
    have HST := hide hst
    have HPB := hide hpb
    have HIV := hide hI
    have HMU := hide hmu
    clear hst hpb hI hmu HR
    by_cases hin : 0 ≤ x' ∧ x' < W ∧ 0 ≤ y' ∧ y' < H
    · obtain ⟨i0, i1, i2, i3⟩ := hin
      obtain ⟨hcn, hcl⟩ := cell_no i0 i1 i2 i3
      have hst := unhide HST
      rw [if_pos ⟨i0, i1, i2, i3⟩] at hst
      obtain ⟨c, hc⟩ : ∃ c, c = (y' * W + x').toNat := ⟨_, rfl⟩
      rw [← hc] at hcn hcl hst
      have hyw : 0 ≤ y' * (W : Int) ∧ y' * (W : Int) ≤ 64 := by
        have a1 : 0 ≤ y' * (W : Int) := Int.mul_nonneg i2 (by omega)
        have a2 : y' * (W : Int) ≤ 8 * 8 := Int.mul_le_mul (by omega) (by omega) (by omega) (by omega)
        omega
      obtain ⟨yw, hyw'⟩ : ∃ yw, y' * (W : Int) = yw := ⟨_, rfl⟩
      rw [hyw'] at hyw hcn
      have ew : IntKind.i64.wrap yw = yw := by unfold IntKind.wrap; simp [IntKind.signed, IntKind.bits]; omega
      have HCALL := hide (unhide HF vs c _ (by omega) hcl hsz (unhide HIV))
      have HCL := hide hcl
      have HST2 := hide hst
      have n0 : ¬ x' < 0 := by omega
      have n1 : ¬ (W : Int) ≤ x' := by omega
      have n2 : ¬ y' < 0 := by omega
      have n3 : ¬ (H : Int) ≤ y' := by omega
      clear hst hcl hc
      go_wp2_with fail
      refine (unhide HCALL).mono ?_
      rintro e w2 ⟨rfl, hI2, hHi⟩
      have hpb2 := (unhide HPB).hi hHi (Nat.le_refl _)
      have hsz2 : w.heap.size ≤ w2.heap.size := Nat.le_trans hsz hHi.size
      have HI2 := hide hI2
      clear hI2 hHi
      cases hon : on c with
      | true =>
        have hst := unhide HST2
        rw [hon, if_pos rfl] at hst
        have HST3 : Hid (R = (vs ++ [c]) ++ rayL W H on dx dy f x' y') := hide (by rw [hst]; simp)
        have hlt : rayM W H dx dy x' y' < rayM W H dx dy x y := (unhide HMU).resolve_right (fun h => h ⟨i0, i1, i2, i3⟩)
        clear hst hon
        go_wp2
        go_step3
        refine ⟨rfl, ⟨f, x', y', vs ++ [c], _, _, _, _, _, _, _, _, _, _, _, _, _, _, _, _, _, _, _, _, _, _, _, _, _, _, _, _, _, _, _, _, _, _, _, _, _, _, _, _, _, _, _, _, rfl, unhide HI2, hpb2, ⟨i0, i1⟩, ⟨i2, i3⟩, by omega, HST3, hsz2, by rw [List.length_append]; simp only [List.length_cons, List.length_nil]; omega⟩, ?_⟩
        simp [intO]
        exact hlt
      | false =>
        have hst := unhide HST2
        rw [hon, if_neg (by simp)] at hst
        have HST3 : Hid (R = vs ++ [c]) := hide hst
        clear hst hon
        go_wp2
        simp only [Exit.jump]
        go_end0
        exact ⟨rfl, by rw [unhide HST3]; exact unhide HI2⟩
    · have hst := unhide HST
      rw [if_neg hin, List.append_nil] at hst
      have HST2 := hide hst
      clear hst
      by_cases n0 : x' < 0
      · clear hin
        go_wp2
        simp only [Exit.jump]
        refine bodyPost_ret (results_none rfl _ _ _) rfl ⟨rfl, ?_⟩
        rw [unhide HST2]
        exact unhide HIV
      · by_cases n1 : (W : Int) ≤ x'
        · clear hin
          go_wp2
          simp only [Exit.jump]
          refine bodyPost_ret (results_none rfl _ _ _) rfl ⟨rfl, ?_⟩
          rw [unhide HST2]
          exact unhide HIV
        · by_cases n2 : y' < 0
          · clear hin
            go_wp2
            simp only [Exit.jump]
            refine bodyPost_ret (results_none rfl _ _ _) rfl ⟨rfl, ?_⟩
            rw [unhide HST2]
            exact unhide HIV
          · have n3 : (H : Int) ≤ y' := by omega
            clear hin
            go_wp2
            simp only [Exit.jump]
            refine bodyPost_ret (results_none rfl _ _ _) rfl ⟨rfl, ?_⟩
            rw [unhide HST2]
            exact unhide HIV
end Go.Proofs.YtbijadnekoeofaaGreatDoor

namespace Go.Proofs.YtbijadnekoeofaaGreatDoor
open Go.RowKit
attribute [local go_sem ↓] Go.wp_at_zero Go.wp_at_succ

/-- In block g lie rules. -/
def isRu (w : World) (g : Nat) (v0 v1 v2 v3 v4 v5 v6 v7 v8 v9 v10 v11 v12 : Value) : Prop := w.heap[g]? = some (.cells #[v0, v1, v2, v3, v4, v5, v6, v7, v8, v9, v10, v11, v12] 27 (0, 0))
theorem isRu.cells {w : World} {g : Nat} {v0 v1 v2 v3 v4 v5 v6 v7 v8 v9 v10 v11 v12 : Value} (h : isRu w g v0 v1 v2 v3 v4 v5 v6 v7 v8 v9 v10 v11 v12) :
    w.cell? ⟨g, 0, none⟩ = some v0 ∧ w.cell? ⟨g, 1, none⟩ = some v1 ∧ w.cell? ⟨g, 2, none⟩ = some v2 ∧ w.cell? ⟨g, 3, none⟩ = some v3 ∧ w.cell? ⟨g, 4, none⟩ = some v4 ∧ w.cell? ⟨g, 5, none⟩ = some v5 ∧ w.cell? ⟨g, 6, none⟩ = some v6 ∧ w.cell? ⟨g, 7, none⟩ = some v7 ∧ w.cell? ⟨g, 8, none⟩ = some v8 ∧ w.cell? ⟨g, 9, none⟩ = some v9 ∧ w.cell? ⟨g, 10, none⟩ = some v10 ∧ w.cell? ⟨g, 11, none⟩ = some v11 ∧ w.cell? ⟨g, 12, none⟩ = some v12 := by
  refine ⟨?_, ?_, ?_, ?_, ?_, ?_, ?_, ?_, ?_, ?_, ?_, ?_, ?_⟩ <;> exact cell_of_row _ _ _ _ _ _ h
theorem isRu.lt {w : World} {g : Nat} {v0 v1 v2 v3 v4 v5 v6 v7 v8 v9 v10 v11 v12 : Value} (h : isRu w g v0 v1 v2 v3 v4 v5 v6 v7 v8 v9 v10 v11 v12) : g < w.heap.size := by
  rcases Nat.lt_or_ge g w.heap.size with hlt | hge
  · exact hlt
  · unfold isRu at h; rw [Array.getElem?_eq_none hge] at h; cases h
theorem isRu.below {w w1 : World} {g : Nat} {v0 v1 v2 v3 v4 v5 v6 v7 v8 v9 v10 v11 v12 : Value} (h : isRu w g v0 v1 v2 v3 v4 v5 v6 v7 v8 v9 v10 v11 v12) {B : Nat} (hb : Below B w w1) (hB : g < B) : isRu w1 g v0 v1 v2 v3 v4 v5 v6 v7 v8 v9 v10 v11 v12 := by
  unfold isRu; rw [hb.block g hB]; exact h
theorem isRu.fresh {w w1 : World} {v0 v1 v2 v3 v4 v5 v6 v7 v8 v9 v10 v11 v12 : Value} (hb : Below (w.alloc (.cells #[v0, v1, v2, v3, v4, v5, v6, v7, v8, v9, v10, v11, v12] 27)).heap.size (w.alloc (.cells #[v0, v1, v2, v3, v4, v5, v6, v7, v8, v9, v10, v11, v12] 27)) w1) : isRu w1 w.heap.size v0 v1 v2 v3 v4 v5 v6 v7 v8 v9 v10 v11 v12 :=
  isRu.below (show isRu (w.alloc (.cells #[v0, v1, v2, v3, v4, v5, v6, v7, v8, v9, v10, v11, v12] 27)) w.heap.size v0 v1 v2 v3 v4 v5 v6 v7 v8 v9 v10 v11 v12 from heap_alloc_new w _) hb (by simp)
theorem bel_on {B : Nat} {w0 w w1 : World} {o : Obj} (h : Below B w0 w) (hB : B ≤ w.heap.size) (hb : Below (w.alloc o).heap.size (w.alloc o) w1) : Below B w0 w1 :=
  (h.alloc hB o).trans (hb.mono (by simp; omega))

/-- P6: are they rules? -/
def rulesB (W H : Int) (C : List UInt8) (T : Int) (A B : List UInt8) (ps : List Pc) (lo : Nat) (li : Int) (re : Nat) (pl : Int) : Bool :=
  psB ps && posB W H C T A B && allL (lettersS ps) C A B && hasZ (lettersS ps) lo && hasZ (lettersS ps) re && (decide (li = 0) || inB li 2 8) && inB pl 1 1000

theorem bitsP26 : ∀ (ps : List Pc) (S : Nat), S < 67108864 → okP S ps = true → bitsP S ps < 67108864
  | [], S, h, _ => h
  | p :: t, S, h, ho => by
    rw [okP, Bool.and_eq_true, Bool.and_eq_true] at ho
    have hc : capB (p.l : Int) = true := by
      have := ho.1.1
      simp only [pcB, Bool.and_eq_true] at this
      exact this.1.1.1
    simp only [capB, Bool.and_eq_true, decide_eq_true_eq] at hc
    exact bitsP26 t _ (or26 S (p.l - 65) h (by omega)) ho.2
theorem lettersS26 (ps : List Pc) : lettersS ps < 67108864 := by
  unfold lettersS
  split
  · rename_i h
    exact bitsP26 ps 0 (by omega) (by simp only [psB, Bool.and_eq_true] at h; exact h.2)
  · omega

set_option maxHeartbeats 2000000 in
set_option maxRecDepth 100000 in
theorem rCheck_any (W H T : Int) (C A B : ByteArray) (ao : Option Addr) (cap : Nat) (ps : List Pc) (dr st : Bool) (lo re : Nat) (li pl : Int) (w : World) (hC : C.size ≤ maxLen) (hA : A.size ≤ maxLen) (hB : B.size ≤ maxLen) (hlo : lo < 256) (hre : re < 256) (h : isPcs w ao cap ps) :
    Calls Tryz.prog 12 #[.agg #[.int .i64 W, .int .i64 H, .string C, .int .i64 T, .string A, .string B, .slice ao ps.length cap, .bool dr, .int .u8 (lo : Int), .int .i64 li, .int .u8 (re : Int), .bool st, .int .i64 pl]] w fun e w' => e = .returned (.int .i64 (errI (rulesB W H C.data.toList T A.data.toList B.data.toList ps lo li re pl))) ∧ Below w.heap.size w w' := by
  obtain ⟨r, hr⟩ : ∃ r, r = rulesB W H C.data.toList T A.data.toList B.data.toList ps lo li re pl := ⟨_, rfl⟩
  rw [← hr]
  have hba : Below w.heap.size w (w.alloc (.cells #[.int .i64 W, .int .i64 H, .string C, .int .i64 T, .string A, .string B, .slice ao ps.length cap, .bool dr, .int .u8 (lo : Int), .int .i64 li, .int .u8 (re : Int), .bool st, .int .i64 pl] 27 (0, 0))) := (Below.refl _ w).alloc (Nat.le_refl _) _
  have HLET := hide (lettersOf_any ao cap ps _ (h.below hba (Nat.le_refl _)))
  have hS26 := lettersS26 ps
  obtain ⟨S, hS⟩ : ∃ S, S = lettersS ps := ⟨_, rfl⟩
  rw [← hS] at HLET hS26
  unfold rulesB at hr
  rw [← hS] at hr
  have HR := hide hr
  clear hr hS h hba
  go_enter Tryz.func12, Tryz.ntmps12
  go_wp2_with fail
  refine (unhide HLET).mono ?_
  rintro e w1 ⟨rfl, hb1⟩
  have bp1 := isRu.fresh hb1
  have hw1 : Below w.heap.size w w1 := bel_on (Below.refl _ _) (Nat.le_refl _) hb1
  clear hb1 HLET
  obtain ⟨d0, d1, d2, d3, d4, d5, d6, d7, d8, d9, d10, d11, d12⟩ := bp1.cells
  cases hps : psB ps with
  | false =>
    have hf : r = false := by rw [unhide HR, hps]; rfl
    subst hf
    go_wp2
    go_ret
    exact ⟨rfl, hw1⟩
  | true =>
  have hR1 := unhide HR
  rw [hps, Bool.true_and] at hR1
  have HR1 := hide hR1
  clear hR1 HR
  go_wp2_with fail
  refine (Check_any _ _ _ _ _ _ _ hC hA hB).mono ?_
  rintro e w2 ⟨rfl, hb2⟩
  have bp2 := bp1.below hb2 bp1.lt
  have hw2 := hw1.trans (hb2.mono hw1.size)
  clear hb2 bp1 hw1 d0 d1 d2 d3 d4 d5 d6 d7 d8 d9 d10 d11 d12
  obtain ⟨d0, d1, d2, d3, d4, d5, d6, d7, d8, d9, d10, d11, d12⟩ := bp2.cells
  cases hpos : posB W H C.data.toList T A.data.toList B.data.toList with
  | false =>
    have hf : r = false := by rw [unhide HR1, hpos]; rfl
    subst hf
    rw [show errI false = 1 from rfl]
    go_wp2
    go_ret
    exact ⟨rfl, hw2⟩
  | true =>
  have hR2 := unhide HR1
  rw [hpos, Bool.true_and] at hR2
  have HR2 := hide hR2
  rw [show errI true = 0 from rfl]
  clear hR2 HR1 hpos
  go_wp2_with fail
  refine (haveAllOf_any S _ _ _ _ _ _ _ hS26 hC hA hB).mono ?_
  rintro e w3 ⟨rfl, hb3⟩
  have bp3 := bp2.below hb3 bp2.lt
  have hw3 := hw2.trans (hb3.mono hw2.size)
  clear hb3 bp2 hw2 d0 d1 d2 d3 d4 d5 d6 d7 d8 d9 d10 d11 d12
  obtain ⟨d0, d1, d2, d3, d4, d5, d6, d7, d8, d9, d10, d11, d12⟩ := bp3.cells
  cases hal : allL S C.data.toList A.data.toList B.data.toList with
  | false =>
    have hf : r = false := by rw [unhide HR2, hal]; rfl
    subst hf
    go_wp2
    go_ret
    exact ⟨rfl, hw3⟩
  | true =>
  have hR3 := unhide HR2
  rw [hal, Bool.true_and] at hR3
  have HR3 := hide hR3
  clear hR3 HR2 hal
  go_wp2_with fail
  refine (haveIfAny_any S lo _ (by omega) hlo).mono ?_
  rintro e w4 ⟨rfl, rfl⟩
  cases hzl : hasZ S (lo : Int) with
  | false =>
    have hf : r = false := by rw [unhide HR3, hzl]; rfl
    subst hf
    go_wp2
    go_ret
    exact ⟨rfl, hw3⟩
  | true =>
  have hR4 := unhide HR3
  rw [hzl, Bool.true_and] at hR4
  have HR4 := hide hR4
  clear hR4 HR3 hzl
  go_wp2_with fail
  refine (haveIfAny_any S re _ (by omega) hre).mono ?_
  rintro e w5 ⟨rfl, rfl⟩
  cases hzr : hasZ S (re : Int) with
  | false =>
    have hf : r = false := by rw [unhide HR4, hzr]; rfl
    subst hf
    go_wp2
    go_ret
    exact ⟨rfl, hw3⟩
  | true =>
  have hR5 := unhide HR4
  rw [hzr, Bool.true_and] at hR5
  have HR5 := hide hR5
  clear hR5 HR4 hzr
  by_cases hl0 : li = 0
  · subst hl0
    have hR6 : r = inB pl 1 1000 := by rw [unhide HR5]; simp
    have HR6 := hide hR6
    clear hR6 HR5
    go_wp2_with fail
    refine (isWithin_any _ _ _ _).mono ?_
    rintro e w6 ⟨rfl, rfl⟩
    rw [← unhide HR6]
    cases r with
    | false =>
      go_wp2
      go_ret
      exact ⟨rfl, hw3⟩
    | true =>
      go_wp2
      go_ret
      exact ⟨rfl, hw3⟩
  · have hlb : (li != 0) = true := by simp [hl0]
    cases hil : inB li 2 8 with
    | false =>
      have hf : r = false := by rw [unhide HR5, hil]; simp [hl0]
      subst hf
      have HIL := hide hil
      clear hil
      go_wp2_with fail
      refine (isWithin_any _ _ _ _).mono ?_
      rintro e w6 ⟨rfl, rfl⟩
      rw [unhide HIL]
      go_wp2
      go_ret
      exact ⟨rfl, hw3⟩
    | true =>
      have hR6 : r = inB pl 1 1000 := by rw [unhide HR5, hil]; simp
      have HR6 := hide hR6
      have HIL := hide hil
      clear hR6 HR5 hil
      go_wp2_with fail
      refine (isWithin_any _ _ _ _).mono ?_
      rintro e w6 ⟨rfl, rfl⟩
      rw [unhide HIL]
      go_wp2_with fail
      refine (isWithin_any _ _ _ _).mono ?_
      rintro e w7 ⟨rfl, rfl⟩
      rw [← unhide HR6]
      cases r with
      | false =>
        go_wp2
        go_ret
        exact ⟨rfl, hw3⟩
      | true =>
        go_wp2
        go_ret
        exact ⟨rfl, hw3⟩
end Go.Proofs.YtbijadnekoeofaaGreatDoor
