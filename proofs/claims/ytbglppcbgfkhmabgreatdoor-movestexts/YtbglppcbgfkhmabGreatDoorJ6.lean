/-
  package moves, walked: what is done at each step of a way.
  package moves, walked: eachStep, over any function that is handed each step.
-/
import Derived.Test.YtbglppcbgfkhmabGreatDoorJ5
import Derived.Shelf.Abstract
namespace Go.Proofs.YtbglppcbgfkhmabGreatDoor
open Go.RowKit
attribute [local go_sem ↓] Go.wp_at_zero Go.wp_at_succ

theorem goalN_lt {t : Int} {T : Nat} {C : ByteArray} {G c : Nat} (hG : G < 18446744073709551616) (hc : c < 64) : goalN t T C G c < 18446744073709551616 := by
  unfold goalN
  split
  · have h2c : (2 : Nat) ^ c < 2 ^ 64 := Nat.pow_lt_pow_right (by decide) hc
    exact Nat.or_lt_two_pow (n := 64) hG h2c
  · exact hG
/-- A number in a box. -/
def isIb (w : World) (b : Nat) (n : Int) : Prop := w.heap[b]? = some (.cells #[.int .i64 n] 3 (0, 0))
theorem isIb.all {w : World} {b : Nat} {n : Int} (h : isIb w b n) : w.cell? ⟨b, 0, none⟩ = some (.int .i64 n) ∧ w.frozen? ⟨b, 0, none⟩ = false := by
  unfold isIb at h; simp [World.cell?, World.frozen?, h]
theorem isIb.lt {w : World} {b : Nat} {n : Int} (h : isIb w b n) : b < w.heap.size := (Array.getElem?_eq_some_iff.1 h).1
theorem isIb.bt {w w' : World} {b g : Nat} {n : Int} (h : isIb w b n) (hh : Bt g w w') (hb : b ≠ g) : isIb w' b n := by
  have hl := h.lt
  unfold isIb at h ⊢; rw [hh.block b hl hb]; exact h
theorem entG : ∀ args (u : World), (callFunc 107 args).run Tryz.prog u = .ok (.enter 107 args) u := enters_of Tryz.func107 (by kernel_rfl) rfl
theorem Bt.hi {g B : Nat} {u u' : World} (h : Bt g u u') (hg : g < B) : Hi B u u' := ⟨h.os, h.tape, h.output, h.size, fun k hk hl => h.block k hl (by omega)⟩
/-- What a piece goes to by a step of a way. -/
def rayG (W H : Nat) (k t : Int) (T : Nat) (C : ByteArray) (from_ : Nat) (dx dy : Int) (G : Nat) : Nat :=
  (rayL W H (fun c => decide (k = 2) && decide (cellN C c = 46)) dx dy 8 ((from_ % W : Nat) : Int) ((from_ / W : Nat) : Int)).foldl (goalN t T C) G
theorem rayL_lt {W H : Nat} {on : Nat → Bool} {dx dy : Int} : ∀ (f : Nat) (x y : Int), ∀ c ∈ rayL W H on dx dy f x y, c < W * H
  | 0, x, y, c, h => by rw [rayL] at h; simp at h
  | f + 1, x, y, c, h => by
    rw [rayL] at h
    split at h
    · rename_i hin
      obtain ⟨i0, i1, i2, i3⟩ := hin
      have hc := (cell_no i0 i1 i2 i3).2
      split at h
      · rcases List.mem_cons.1 h with rfl | h
        · exact hc
        · exact rayL_lt f _ _ c h
      · simp only [List.mem_singleton] at h
        subst h; exact hc
    · simp at h
theorem fold_lt {t : Int} {T : Nat} {C : ByteArray} : ∀ (l : List Nat) (G : Nat), (∀ c ∈ l, c < 64) → G < 18446744073709551616 → l.foldl (goalN t T C) G < 18446744073709551616
  | [], G, _, h => h
  | c :: l, G, hl, h => fold_lt l _ (fun d hd => hl d (by simp [hd])) (goalN_lt h (hl c (by simp)))

set_option maxHeartbeats 2000000 in
set_option maxRecDepth 100000 in
theorem step1_any (W H from_ T : Nat) (C A B : ByteArray) (k x y t dx dy : Int) (pb fb wb gb G : Nat) (w : World) (hp : isPb w pb W H T C A B) (hf : isIb w fb from_) (hw : isWb w wb k x y t) (hg : isGb w gb G) (hT : T ≤ 1) (hW : 1 ≤ W ∧ W ≤ 8) (hH : 1 ≤ H ∧ H ≤ 8) (hC : C.size = W * H) (hfr : from_ < W * H) (hG : G < 18446744073709551616)
    (hd : -8 ≤ dx ∧ dx ≤ 8 ∧ -8 ≤ dy ∧ dy ≤ 8 ∧ ¬ (dx = 0 ∧ dy = 0)) (hn1 : pb ≠ gb) (hn2 : wb ≠ gb) :
    Calls Tryz.prog 105 #[.int .i64 dx, .int .i64 dy, .pointer (some ⟨pb, 0, none⟩), .pointer (some ⟨fb, 0, none⟩), .pointer (some ⟨wb, 0, none⟩), .pointer (some ⟨gb, 0, none⟩)] w fun e w' => e = .returned (.tuple #[]) ∧ isGb w' gb (rayG W H k t T C from_ dx dy G) ∧ Bt gb w w' := by
  have h64 : W * H ≤ 64 := Nat.mul_le_mul hW.2 hH.2
  have hglt := hg.lt
  have hI : ∀ (vs : List Nat) (u u' : World), ((∀ c ∈ vs, c < 64) ∧ isGb u gb (vs.foldl (goalN t T C) G) ∧ Bt gb w u) → Below u.heap.size u u' → ((∀ c ∈ vs, c < 64) ∧ isGb u' gb (vs.foldl (goalN t T C) G) ∧ Bt gb w u') :=
    fun vs u u' ⟨h0, h1, h2⟩ hb => ⟨h0, h1.below hb h1.lt, h2.trans (Bt.of hb)⟩
  have hWK := walk_any W H from_ (T : Int) C A B dx dy 107 #[.pointer (some ⟨pb, 0, none⟩), .pointer (some ⟨wb, 0, none⟩), .pointer (some ⟨gb, 0, none⟩)] (fun c => decide (k = 2) && decide (cellN C c = 46))
    (fun vs u => (∀ c ∈ vs, c < 64) ∧ isGb u gb (vs.foldl (goalN t T C) G) ∧ Bt gb w u) w hW hH hfr hd entG hI
    (fun vs c u _ hc hu ⟨h0, h1, h2⟩ => by
      refine (goal1_any W H T C A B k x y t pb wb gb (vs.foldl (goalN t T C) G) c u (hp.bt h2 hn1) (hw.bt h2 hn2) h1 hT (by omega) (by omega) (fold_lt vs G h0 hG) hn2).mono ?_
      rintro e u' ⟨rfl, h3, h4⟩
      refine ⟨rfl, ⟨fun d hd => ?_, ?_, h2.trans h4⟩, h4.hi (by omega)⟩
      · rcases List.mem_append.1 hd with hd | hd
        · exact h0 d hd
        · simp only [List.mem_singleton] at hd; omega
      · rw [List.foldl_append]; exact h3)
    ⟨fun c hc => by simp at hc, hg, Bt.refl _ _⟩
  obtain ⟨p0, p1, p2, p3, p4, p5⟩ := hp.all
  obtain ⟨f0, -⟩ := hf.all
  have hmf : ∀ (fn : Fn) (first cap : Array Value) (w : World), (Instr.makeFunc fn first cap).run Tryz.prog w = .ok (.func fn first cap) w := fun _ _ _ _ => rfl
  have HWK := hide hWK
  clear hWK hI hp hf hw hg
  go_enter Tryz.func105, Tryz.ntmps105
  go_wp2_with fail
  refine (unhide HWK).mono ?_
  rintro e w1 ⟨rfl, -, h1, h2⟩
  go_wp2
  go_end0
  exact ⟨rfl, h1, h2⟩
end Go.Proofs.YtbglppcbgfkhmabGreatDoor

namespace Go.Proofs.YtbglppcbgfkhmabGreatDoor
open Go.RowKit
attribute [local go_sem ↓] Go.wp_at_zero Go.wp_at_succ

/-- The steps of a way, as they are handed on. -/
def steps8 (x y : Int) : List (Int × Int) := [(-1 * x, -1 * y), (-1 * y, -1 * x), (-1 * x, 1 * y), (-1 * y, 1 * x), (1 * x, -1 * y), (1 * y, -1 * x), (1 * x, 1 * y), (1 * y, 1 * x)]
def stepsL (k x y : Int) (T : Nat) : List (Int × Int) := if k = 3 then [(x, y * fwdI T), (-x, y * fwdI T)] else steps8 x y
theorem pair0 (a b : Int) (w : World) : (Instr.index 145 (.agg #[.int .i64 a, .int .i64 b]) (.int .i64 0)).run Tryz.prog w = .ok (.int .i64 a) w := by kernel_rfl
theorem pair1 (a b : Int) (w : World) : (Instr.index 145 (.agg #[.int .i64 a, .int .i64 b]) (.int .i64 1)).run Tryz.prog w = .ok (.int .i64 b) w := by kernel_rfl
theorem wrap_pm {r x : Int} (hr : r = -1 ∨ r = 1) (hx : 0 ≤ x ∧ x ≤ 8) : IntKind.i64.wrap (r * x) = r * x := by
  have : -8 ≤ r * x ∧ r * x ≤ 8 := by rcases hr with rfl | rfl <;> omega
  unfold IntKind.wrap; simp [IntKind.signed, IntKind.bits]; omega
theorem isWb.hi {w w' : World} {b B : Nat} {k x y t : Int} (h : isWb w b k x y t) (hh : Hi B w w') (hb : B ≤ b) : isWb w' b k x y t := by
  have hl := h.lt
  unfold isWb at h ⊢; rw [hh.block b hb hl]; exact h
theorem take8 (x y : Int) (i j : Nat) (hi : i < 2) (hj : j < 2) (r u : Int) (hr : r = 2 * (i : Int) - 1) (hu : u = 2 * (j : Int) - 1) :
    (steps8 x y).take (4 * i + 2 * j) ++ [(r * x, u * y)] ++ [(r * y, u * x)] = (steps8 x y).take (4 * i + 2 * (j + 1)) ∧ (r * x, u * y) ∈ steps8 x y ∧ (r * y, u * x) ∈ steps8 x y := by
  rcases (by omega : i = 0 ∨ i = 1) with rfl | rfl <;> rcases (by omega : j = 0 ∨ j = 1) with rfl | rfl <;> subst hr hu <;> simp [steps8]


set_option maxHeartbeats 4000000 in
set_option maxRecDepth 100000 in
theorem eachStep_any (k x y t : Int) (T : Nat) (F : FuncId) (caps : Array Value) (J : List (Int × Int) → World → Prop) (w : World) (hT : T ≤ 1) (hx : 0 ≤ x ∧ x ≤ 8) (hy : 0 ≤ y ∧ y ≤ 8)
    (hE : ∀ args (u : World), (callFunc F args).run Tryz.prog u = .ok (.enter F args) u)
    (hS : ∀ ds u u', J ds u → Below u.heap.size u u' → J ds u')
    (hF : ∀ (ds : List (Int × Int)) (dx dy : Int) (u : World), (dx, dy) ∈ stepsL k x y T → w.heap.size ≤ u.heap.size → J ds u → Calls Tryz.prog F (#[.int .i64 dx, .int .i64 dy] ++ caps) u fun e u' => e = .returned (.tuple #[]) ∧ J (ds ++ [(dx, dy)]) u' ∧ Hi w.heap.size u u')
    (h0 : J [] w) :
    Calls Tryz.prog 104 #[.agg #[.int .i64 k, .int .i64 x, .int .i64 y, .int .i64 t], .int .i64 (T : Int), .func (.func F) #[] caps] w fun e w' => e = .returned (.tuple #[]) ∧ J (stepsL k x y T) w' := by
  obtain ⟨wa, hwa⟩ : ∃ wa, wa = w.alloc (.cells #[.int .i64 k, .int .i64 x, .int .i64 y, .int .i64 t] 93 (0, 0)) := ⟨_, rfl⟩
  have hba : Below w.heap.size w wa := by rw [hwa]; exact (Below.refl _ _).alloc (Nat.le_refl _) _
  have hwb0 : isWb wa w.heap.size k x y t := by rw [hwa]; exact heap_alloc_new w _
  have hJ0 : J [] wa := hS _ _ _ h0 hba
  have hsz0 : w.heap.size ≤ wa.heap.size := hba.size
  have HF := hide hF
  have HS := hide hS
  clear hF hS h0 hba
  by_cases hk : k = 3
  · have hkb : (k == 3) = true := by simp [hk]
    have hst : stepsL k x y T = [(x, y * fwdI T), (-x, y * fwdI T)] := by unfold stepsL; rw [if_pos hk]
    have HST := hide hst
    have HFW := hide (fun u => forward_any T u hT)
    obtain ⟨fw, hfw⟩ : ∃ fw, fw = fwdI T := ⟨_, rfl⟩
    have hf1 : fw = -1 ∨ fw = 1 := by rw [hfw]; unfold fwdI; omega
    rw [← hfw] at HFW
    have hst2 := hst
    rw [← hfw] at hst2
    have hyf : -8 ≤ y * fw ∧ y * fw ≤ 8 := by rcases hf1 with rfl | rfl <;> omega
    obtain ⟨ah, hah⟩ : ∃ ah, y * fw = ah := ⟨_, rfl⟩
    rw [hah] at hst2 hyf
    have qa : IntKind.i64.wrap ah = ah := by unfold IntKind.wrap; simp [IntKind.signed, IntKind.bits]; omega
    have HST2 := hide hst2
    have HWB0 := hide hwb0
    have HJ0 := hide hJ0
    obtain ⟨-, v1, v2, -⟩ := hwb0.all
    clear hk hst hst2 hfw hwb0 hJ0 hf1
    go_enter Tryz.func104, Tryz.ntmps104
    go_wp2_with fail
    rw [← hwa]
    clear hwa
    go_quiet ((go_at_call 124; exact Calls.quiet_of_same (unhide HFW _)))
    have hwq : isWb (wa.drewN nq) w.heap.size k x y t := unhide HWB0
    have hJq : J [] (wa.drewN nq) := unhide HS _ _ _ (unhide HJ0) ⟨rfl, rfl, rfl, Nat.le_refl _, fun _ _ => rfl⟩
    have hsq : w.heap.size ≤ (wa.drewN nq).heap.size := hsz0
    generalize wa.drewN nq = wq at *
    obtain ⟨-, v1q, -⟩ := hwq.all
    have HC1 := hide (unhide HF [] x ah wq (by rw [unhide HST2]; simp) hsq hJq)
    have HWQ := hide hwq
    clear hwq hJq v1 v2
    go_wp2_with fail
    refine (unhide HC1).mono ?_
    rintro e w2 ⟨rfl, hJ3, hHi⟩
    have hwb3 := (unhide HWQ).hi hHi (Nat.le_refl _)
    have hsz3 := Nat.le_trans hsq hHi.size
    obtain ⟨-, v1', -⟩ := hwb3.all
    have HC2 := hide (unhide HF _ (-x) ah _ (by rw [unhide HST2]; simp) hsz3 hJ3)
    clear hJ3 hHi hwb3 v1q
    go_wp2_with fail
    refine (unhide HC2).mono ?_
    rintro e w3 ⟨rfl, hJ4, hHi⟩
    have hJ5 : J (stepsL k x y T) w3 := by rw [unhide HST2]; exact hJ4
    clear hHi hJ4 v1'
    go_wp2
    refine bodyPost_ret (results_none rfl _ _ _) rfl ⟨rfl, hJ5⟩
  · have hkb : (k == 3) = false := by simpa using hk
    have hst : stepsL k x y T = steps8 x y := by unfold stepsL; rw [if_neg hk]
    have HST := hide hst
    rw [hst]
    clear hk hst
    go_enter Tryz.func104, Tryz.ntmps104
    go_wp2
    rw [← hwa]
    clear hwa
    go_loopw [31] (fun iv wr => ∃ i : Nat, iv = .int .i64 (i : Int) ∧ i ≤ 2 ∧ J ((steps8 x y).take (4 * i)) wr ∧ isWb wr w.heap.size k x y t ∧ w.heap.size ≤ wr.heap.size) (fun iv _ => 2 - (intOf iv).toNat)
    case atStart => exact ⟨0, rfl, by omega, hJ0, hwb0, hsz0⟩
    case round =>
      obtain ⟨i, rfl, hi2, hJ, hwb, hsz⟩ := hrel
      clear hJ0 hwb0 hsz0
      by_cases hilt : i < 2
      · obtain ⟨r, hr⟩ : ∃ r : Int, r = 2 * (i : Int) - 1 := ⟨_, rfl⟩
        have hr' : r = -1 ∨ r = 1 := by omega
        have hii : (i : Int) < 2 := by omega
        have hix : ∀ w, (Instr.index 145 (.agg #[.int .i64 (-1), .int .i64 1]) (.int .i64 (i : Int))).run Tryz.prog w = .ok (.int .i64 r) w := by
          intro w
          rcases (by omega : i = 0 ∨ i = 1) with rfl | rfl <;> subst hr
          · exact pair0 _ _ w
          · exact pair1 _ _ w
        have HJ : Hid (J ((steps8 x y).take (4 * i + 2 * 0)) wr) := hide (by rw [show 4 * i + 2 * 0 = 4 * i by omega]; exact hJ)
        have HR := hide hr
        clear hJ hr
        go_wp2
        go_loopw [35] (fun jv wr => ∃ j : Nat, jv = .int .i64 (j : Int) ∧ j ≤ 2 ∧ J ((steps8 x y).take (4 * i + 2 * j)) wr ∧ isWb wr w.heap.size k x y t ∧ w.heap.size ≤ wr.heap.size) (fun jv _ => 2 - (intOf jv).toNat)
        case atStart => exact ⟨0, rfl, by omega, unhide HJ, hwb, hsz⟩
        case round =>
          obtain ⟨j, rfl, hj2, hJ2, hwb2, hsz2⟩ := hrel
          clear hwb hsz HJ
          by_cases hjlt : j < 2
          · obtain ⟨u, hu⟩ : ∃ u : Int, u = 2 * (j : Int) - 1 := ⟨_, rfl⟩
            obtain ⟨t1, t2, t3⟩ := take8 x y i j hilt hjlt r u (unhide HR) hu
            have hu' : u = -1 ∨ u = 1 := by omega
            have q1 := wrap_pm (x := x) hr' hx
            have q2 := wrap_pm (x := y) hr' hy
            have q3 := wrap_pm (x := x) hu' hx
            have q4 := wrap_pm (x := y) hu' hy
            obtain ⟨-, v1, v2, -⟩ := hwb2.all
            have hji : (j : Int) < 2 := by omega
            have hix : ∀ w, (Instr.index 145 (.agg #[.int .i64 (-1), .int .i64 1]) (.int .i64 (j : Int))).run Tryz.prog w = .ok (.int .i64 u) w := by
              intro w
              rcases (by omega : j = 0 ∨ j = 1) with rfl | rfl <;> subst hu
              · exact pair0 _ _ w
              · exact pair1 _ _ w
            have HC1 := hide (unhide HF _ (r * x) (u * y) _ (by rw [unhide HST]; exact t2) hsz2 hJ2)
            have HWB := hide hwb2
            have HT := hide t1
            obtain ⟨rx, hrx⟩ : ∃ rx, r * x = rx := ⟨_, rfl⟩
            obtain ⟨ry, hry⟩ : ∃ ry, r * y = ry := ⟨_, rfl⟩
            obtain ⟨ux, hux⟩ : ∃ ux, u * x = ux := ⟨_, rfl⟩
            obtain ⟨uy, huy⟩ : ∃ uy, u * y = uy := ⟨_, rfl⟩
            rw [hrx] at q1 t2 HC1 HT
            rw [hry] at q2 t3 HT
            rw [hux] at q3 t3 HT
            rw [huy] at q4 t2 HC1 HT
            clear hu hu' hJ2 hwb2 t1
            go_wp2_with fail
            refine (unhide HC1).mono ?_
            rintro e w2 ⟨rfl, hJ3, hHi⟩
            have hwb3 := (unhide HWB).hi hHi (Nat.le_refl _)
            have hsz3 := Nat.le_trans hsz2 hHi.size
            obtain ⟨-, v1', v2', -⟩ := hwb3.all
            have HC2 := hide (unhide HF _ ry ux _ (by rw [unhide HST]; exact t3) hsz3 hJ3)
            have HWB3 := hide hwb3
            clear hJ3 hHi hwb3 v1 v2
            go_wp2_with fail
            refine (unhide HC2).mono ?_
            rintro e w3 ⟨rfl, hJ4, hHi⟩
            have hwb4 := (unhide HWB3).hi hHi (Nat.le_refl _)
            have hsz4 := Nat.le_trans hsz3 hHi.size
            rw [unhide HT] at hJ4
            clear hHi v1' v2'
            go_wp2
            go_roundw
            case rel => exact ⟨j + 1, by go_num, by omega, hJ4, hwb4, hsz4⟩
            case measure => simp only [intOf]; omega
          · have hj : j = 2 := by omega
            have hji : ¬ (j : Int) < 2 := by omega
            have hJ5 : J ((steps8 x y).take (4 * (i + 1))) wr := by rw [show 4 * (i + 1) = 4 * i + 2 * j by omega]; exact hJ2
            clear hJ2 hj
            go_wp2
            go_roundw
            case rel => exact ⟨i + 1, by go_num, by omega, hJ5, hwb2, hsz2⟩
            case measure => simp only [intOf]; omega
      · have hi : i = 2 := by omega
        have hii : ¬ (i : Int) < 2 := by omega
        have hJ5 : J (steps8 x y) wr := by have := hJ; rw [hi] at this; exact this
        clear hJ
        go_wp2
        go_end0
        exact ⟨rfl, hJ5⟩
end Go.Proofs.YtbglppcbgfkhmabGreatDoor
