/-
  package moves, walked: eachStep, over any function that is handed each step.
  package moves, walked: goalsOf.
  package moves, walked: lines.
  Contracts of the library, at this program: one application each.
-/
import Derived.Test.YtihojhfpepbjhaaGreatDoorJ3
import Derived.Shelf.Small.Strs
import Derived.Shelf.Strconv.Itoa3
import Derived.Shelf.Strings.Replace
import Derived.Shelf.Strings.Search3
import Derived.Test.YtihojhfpepbjhaaGreatDoorProg
namespace Go.Proofs.YtihojhfpepbjhaaGreatDoor
open Go.RowKit
attribute [local go_sem ↓] Go.wp_at_zero Go.wp_at_succ

/-- The steps of a way, as they are handed on. -/
def steps8 (x y : Int) : List (Int × Int) := [(-1 * x, -1 * y), (-1 * y, -1 * x), (-1 * x, 1 * y), (-1 * y, 1 * x), (1 * x, -1 * y), (1 * y, -1 * x), (1 * x, 1 * y), (1 * y, 1 * x)]
def stepsL (k x y : Int) (T : Nat) : List (Int × Int) := if k = 3 then [(x, y * fwdI T), (-x, y * fwdI T)] else steps8 x y
theorem pair0 (a b : Int) (w : World) : (Instr.index 36 (.agg #[.int .i64 a, .int .i64 b]) (.int .i64 0)).run Tryz.prog w = .ok (.int .i64 a) w := by kernel_rfl
theorem pair1 (a b : Int) (w : World) : (Instr.index 36 (.agg #[.int .i64 a, .int .i64 b]) (.int .i64 1)).run Tryz.prog w = .ok (.int .i64 b) w := by kernel_rfl
theorem wrap_pm {r x : Int} (hr : r = -1 ∨ r = 1) (hx : 0 ≤ x ∧ x ≤ 8) : IntKind.i64.wrap (r * x) = r * x := by
  have : -8 ≤ r * x ∧ r * x ≤ 8 := by rcases hr with rfl | rfl <;> omega
  unfold IntKind.wrap; simp [IntKind.signed, IntKind.bits]; omega
theorem isWb.hi {w w' : World} {b B : Nat} {k x y t : Int} (h : isWb w b k x y t) (hh : Hi B w w') (hb : B ≤ b) : isWb w' b k x y t := by
  have hl := h.lt
  unfold isWb at h ⊢; rw [hh.block b hb hl]; exact h
theorem take8 (x y : Int) (i j : Nat) (hi : i < 2) (hj : j < 2) (r u : Int) (hr : r = 2 * (i : Int) - 1) (hu : u = 2 * (j : Int) - 1) :
    (steps8 x y).take (4 * i + 2 * j) ++ [(r * x, u * y)] ++ [(r * y, u * x)] = (steps8 x y).take (4 * i + 2 * (j + 1)) ∧ (r * x, u * y) ∈ steps8 x y ∧ (r * y, u * x) ∈ steps8 x y := by
  rcases (by omega : i = 0 ∨ i = 1) with rfl | rfl <;> rcases (by omega : j = 0 ∨ j = 1) with rfl | rfl <;> subst hr hu <;> simp [steps8]


set_option maxHeartbeats 4000000 in
set_option maxRecDepth 100000 in
theorem eachStep_any (k x y t : Int) (T : Nat) (F : FuncId) (caps : Array Value) (J : List (Int × Int) → World → Prop) (w : World) (hT : T ≤ 1) (hx : 0 ≤ x ∧ x ≤ 8) (hy : 0 ≤ y ∧ y ≤ 8)
    (hE : ∀ args (u : World), (callFunc F args).run Tryz.prog u = .ok (.enter F args) u)
    (hS : ∀ ds u u', J ds u → Below u.heap.size u u' → J ds u')
    (hF : ∀ (ds : List (Int × Int)) (dx dy : Int) (u : World), (dx, dy) ∈ stepsL k x y T → w.heap.size ≤ u.heap.size → J ds u → Calls Tryz.prog F (#[.int .i64 dx, .int .i64 dy] ++ caps) u fun e u' => e = .returned (.tuple #[]) ∧ J (ds ++ [(dx, dy)]) u' ∧ Hi w.heap.size u u')
    (h0 : J [] w) :
    Calls Tryz.prog 161 #[.agg #[.int .i64 k, .int .i64 x, .int .i64 y, .int .i64 t], .int .i64 (T : Int), .func (.func F) #[] caps] w fun e w' => e = .returned (.tuple #[]) ∧ J (stepsL k x y T) w' := by
  obtain ⟨wa, hwa⟩ : ∃ wa, wa = w.alloc (.cells #[.int .i64 k, .int .i64 x, .int .i64 y, .int .i64 t] 68 (0, 0)) := ⟨_, rfl⟩
  have hba : Below w.heap.size w wa := by rw [hwa]; exact (Below.refl _ _).alloc (Nat.le_refl _) _
  have hwb0 : isWb wa w.heap.size k x y t := by rw [hwa]; exact heap_alloc_new w _
  have hJ0 : J [] wa := hS _ _ _ h0 hba
  have hsz0 : w.heap.size ≤ wa.heap.size := hba.size
  have HF := hide hF
  have HS := hide hS
  clear hF hS h0 hba
  by_cases hk : k = 3
  · have hkb : (k == 3) = true := by simp [hk]
    have hst : stepsL k x y T = [(x, y * fwdI T), (-x, y * fwdI T)] := by unfold stepsL; rw [if_pos hk]
    have HST := hide hst
    have HFW := hide (fun u => forward_any T u hT)
    obtain ⟨fw, hfw⟩ : ∃ fw, fw = fwdI T := ⟨_, rfl⟩
    have hf1 : fw = -1 ∨ fw = 1 := by rw [hfw]; unfold fwdI; omega
    rw [← hfw] at HFW
    have hst2 := hst
    rw [← hfw] at hst2
    have hyf : -8 ≤ y * fw ∧ y * fw ≤ 8 := by rcases hf1 with rfl | rfl <;> omega
    obtain ⟨ah, hah⟩ : ∃ ah, y * fw = ah := ⟨_, rfl⟩
    rw [hah] at hst2 hyf
    have qa : IntKind.i64.wrap ah = ah := by unfold IntKind.wrap; simp [IntKind.signed, IntKind.bits]; omega
    have HST2 := hide hst2
    have HWB0 := hide hwb0
    have HJ0 := hide hJ0
    obtain ⟨-, v1, v2, -⟩ := hwb0.all
    clear hk hst hst2 hfw hwb0 hJ0 hf1
    go_enter Tryz.func161, Tryz.ntmps161
    go_wp2_with fail
    rw [← hwa]
    clear hwa
    go_quiet ((go_at_call 188; exact Calls.quiet_of_same (unhide HFW _)))
    have hwq : isWb (wa.drewN nq) w.heap.size k x y t := unhide HWB0
    have hJq : J [] (wa.drewN nq) := unhide HS _ _ _ (unhide HJ0) ⟨rfl, rfl, rfl, Nat.le_refl _, fun _ _ => rfl⟩
    have hsq : w.heap.size ≤ (wa.drewN nq).heap.size := hsz0
    generalize wa.drewN nq = wq at *
    obtain ⟨-, v1q, -⟩ := hwq.all
    have HC1 := hide (unhide HF [] x ah wq (by rw [unhide HST2]; simp) hsq hJq)
    have HWQ := hide hwq
    clear hwq hJq v1 v2
    go_wp2_with fail
    refine (unhide HC1).mono ?_
    rintro e w2 ⟨rfl, hJ3, hHi⟩
    have hwb3 := (unhide HWQ).hi hHi (Nat.le_refl _)
    have hsz3 := Nat.le_trans hsq hHi.size
    obtain ⟨-, v1', -⟩ := hwb3.all
    have HC2 := hide (unhide HF _ (-x) ah _ (by rw [unhide HST2]; simp) hsz3 hJ3)
    clear hJ3 hHi hwb3 v1q
    go_wp2_with fail
    refine (unhide HC2).mono ?_
    rintro e w3 ⟨rfl, hJ4, hHi⟩
    have hJ5 : J (stepsL k x y T) w3 := by rw [unhide HST2]; exact hJ4
    clear hHi hJ4 v1'
    go_wp2
    refine bodyPost_ret (results_none rfl _ _ _) rfl ⟨rfl, hJ5⟩
  · have hkb : (k == 3) = false := by simpa using hk
    have hst : stepsL k x y T = steps8 x y := by unfold stepsL; rw [if_neg hk]
    have HST := hide hst
    rw [hst]
    clear hk hst
    go_enter Tryz.func161, Tryz.ntmps161
    go_wp2
    rw [← hwa]
    clear hwa
    go_loopw [31] (fun iv wr => ∃ i : Nat, iv = .int .i64 (i : Int) ∧ i ≤ 2 ∧ J ((steps8 x y).take (4 * i)) wr ∧ isWb wr w.heap.size k x y t ∧ w.heap.size ≤ wr.heap.size) (fun iv _ => 2 - (intOf iv).toNat)
    case atStart => exact ⟨0, rfl, by omega, hJ0, hwb0, hsz0⟩
    case round =>
      obtain ⟨i, rfl, hi2, hJ, hwb, hsz⟩ := hrel
      clear hJ0 hwb0 hsz0
      by_cases hilt : i < 2
      · obtain ⟨r, hr⟩ : ∃ r : Int, r = 2 * (i : Int) - 1 := ⟨_, rfl⟩
        have hr' : r = -1 ∨ r = 1 := by omega
        have hii : (i : Int) < 2 := by omega
        have hix : ∀ w, (Instr.index 36 (.agg #[.int .i64 (-1), .int .i64 1]) (.int .i64 (i : Int))).run Tryz.prog w = .ok (.int .i64 r) w := by
          intro w
          rcases (by omega : i = 0 ∨ i = 1) with rfl | rfl <;> subst hr
          · exact pair0 _ _ w
          · exact pair1 _ _ w
        have HJ : Hid (J ((steps8 x y).take (4 * i + 2 * 0)) wr) := hide (by rw [show 4 * i + 2 * 0 = 4 * i by omega]; exact hJ)
        have HR := hide hr
        clear hJ hr
        go_wp2
        go_loopw [35] (fun jv wr => ∃ j : Nat, jv = .int .i64 (j : Int) ∧ j ≤ 2 ∧ J ((steps8 x y).take (4 * i + 2 * j)) wr ∧ isWb wr w.heap.size k x y t ∧ w.heap.size ≤ wr.heap.size) (fun jv _ => 2 - (intOf jv).toNat)
        case atStart => exact ⟨0, rfl, by omega, unhide HJ, hwb, hsz⟩
        case round =>
          obtain ⟨j, rfl, hj2, hJ2, hwb2, hsz2⟩ := hrel
          clear hwb hsz HJ
          by_cases hjlt : j < 2
          · obtain ⟨u, hu⟩ : ∃ u : Int, u = 2 * (j : Int) - 1 := ⟨_, rfl⟩
            obtain ⟨t1, t2, t3⟩ := take8 x y i j hilt hjlt r u (unhide HR) hu
            have hu' : u = -1 ∨ u = 1 := by omega
            have q1 := wrap_pm (x := x) hr' hx
            have q2 := wrap_pm (x := y) hr' hy
            have q3 := wrap_pm (x := x) hu' hx
            have q4 := wrap_pm (x := y) hu' hy
            obtain ⟨-, v1, v2, -⟩ := hwb2.all
            have hji : (j : Int) < 2 := by omega
            have hix : ∀ w, (Instr.index 36 (.agg #[.int .i64 (-1), .int .i64 1]) (.int .i64 (j : Int))).run Tryz.prog w = .ok (.int .i64 u) w := by
              intro w
              rcases (by omega : j = 0 ∨ j = 1) with rfl | rfl <;> subst hu
              · exact pair0 _ _ w
              · exact pair1 _ _ w
            have HC1 := hide (unhide HF _ (r * x) (u * y) _ (by rw [unhide HST]; exact t2) hsz2 hJ2)
            have HWB := hide hwb2
            have HT := hide t1
            obtain ⟨rx, hrx⟩ : ∃ rx, r * x = rx := ⟨_, rfl⟩
            obtain ⟨ry, hry⟩ : ∃ ry, r * y = ry := ⟨_, rfl⟩
            obtain ⟨ux, hux⟩ : ∃ ux, u * x = ux := ⟨_, rfl⟩
            obtain ⟨uy, huy⟩ : ∃ uy, u * y = uy := ⟨_, rfl⟩
            rw [hrx] at q1 t2 HC1 HT
            rw [hry] at q2 t3 HT
            rw [hux] at q3 t3 HT
            rw [huy] at q4 t2 HC1 HT
            clear hu hu' hJ2 hwb2 t1
            go_wp2_with fail
            refine (unhide HC1).mono ?_
            rintro e w2 ⟨rfl, hJ3, hHi⟩
            have hwb3 := (unhide HWB).hi hHi (Nat.le_refl _)
            have hsz3 := Nat.le_trans hsz2 hHi.size
            obtain ⟨-, v1', v2', -⟩ := hwb3.all
            have HC2 := hide (unhide HF _ ry ux _ (by rw [unhide HST]; exact t3) hsz3 hJ3)
            have HWB3 := hide hwb3
            clear hJ3 hHi hwb3 v1 v2
            go_wp2_with fail
            refine (unhide HC2).mono ?_
            rintro e w3 ⟨rfl, hJ4, hHi⟩
            have hwb4 := (unhide HWB3).hi hHi (Nat.le_refl _)
            have hsz4 := Nat.le_trans hsz3 hHi.size
            rw [unhide HT] at hJ4
            clear hHi v1' v2'
            go_wp2
            go_roundw
            case rel => exact ⟨j + 1, by go_num, by omega, hJ4, hwb4, hsz4⟩
            case measure => simp only [intOf]; omega
          · have hj : j = 2 := by omega
            have hji : ¬ (j : Int) < 2 := by omega
            have hJ5 : J ((steps8 x y).take (4 * (i + 1))) wr := by rw [show 4 * (i + 1) = 4 * i + 2 * j by omega]; exact hJ2
            clear hJ2 hj
            go_wp2
            go_roundw
            case rel => exact ⟨i + 1, by go_num, by omega, hJ5, hwb2, hsz2⟩
            case measure => simp only [intOf]; omega
      · have hi : i = 2 := by omega
        have hii : ¬ (i : Int) < 2 := by omega
        have hJ5 : J (steps8 x y) wr := by have := hJ; rw [hi] at this; exact this
        clear hJ
        go_wp2
        go_end0
        exact ⟨rfl, hJ5⟩
end Go.Proofs.YtihojhfpepbjhaaGreatDoor

namespace Go.Proofs.YtihojhfpepbjhaaGreatDoor
open Go.RowKit
attribute [local go_sem ↓] Go.wp_at_zero Go.wp_at_succ

/-- What a piece goes to by the steps of a way. -/
def stepsG (W H : Nat) (T : Nat) (C : ByteArray) (from_ : Nat) (z : Wy) (G : Nat) (ds : List (Int × Int)) : Nat := ds.foldl (fun G d => rayG W H z.k z.t T C from_ d.1 d.2 G) G
def wayG (W H : Nat) (T : Nat) (C : ByteArray) (from_ : Nat) (G : Nat) (z : Wy) : Nat := stepsG W H T C from_ z G (stepsL z.k z.x z.y T)
/-- .. by all its ways. -/
def goalsG (W H : Nat) (T : Nat) (C : ByteArray) (from_ : Nat) (ws : List Wy) : Nat := ws.foldl (wayG W H T C from_) 0
theorem entS : ∀ args (u : World), (callFunc 162 args).run Tryz.prog u = .ok (.enter 162 args) u := enters_of Tryz.func162 (by kernel_rfl) rfl
theorem rayG_lt {W H : Nat} {k t : Int} {T : Nat} {C : ByteArray} {from_ : Nat} {dx dy : Int} {G : Nat} (h64 : W * H ≤ 64) (hG : G < 18446744073709551616) : rayG W H k t T C from_ dx dy G < 18446744073709551616 :=
  fold_lt _ _ (fun c hc => Nat.lt_of_lt_of_le (rayL_lt _ _ _ c hc) h64) hG
theorem Wy.ok_step {z : Wy} (h : z.ok = true) {T : Nat} (hT : T ≤ 1) {d : Int × Int} (hd : d ∈ stepsL z.k z.x z.y T) : -8 ≤ d.1 ∧ d.1 ≤ 8 ∧ -8 ≤ d.2 ∧ d.2 ≤ 8 ∧ ¬ (d.1 = 0 ∧ d.2 = 0) := by
  unfold Wy.ok inB at h
  simp only [Bool.and_eq_true, Bool.not_eq_true', Bool.and_eq_false_iff, decide_eq_true_eq, decide_eq_false_iff_not] at h
  obtain ⟨⟨⟨⟨h1, h2⟩, h3⟩, -⟩, -⟩ := h
  unfold stepsL at hd
  split at hd
  · have hf : fwdI T = -1 ∨ fwdI T = 1 := by unfold fwdI; omega
    simp only [List.mem_cons, List.not_mem_nil, or_false] at hd
    rcases hf with hf | hf <;> rw [hf] at hd <;> rcases hd with rfl | rfl <;> simp only <;> omega
  · unfold steps8 at hd
    simp only [List.mem_cons, List.not_mem_nil, or_false] at hd
    rcases hd with rfl | rfl | rfl | rfl | rfl | rfl | rfl | rfl <;> simp only <;> omega
theorem Wy.ok_xy {z : Wy} (h : z.ok = true) : (0 ≤ z.x ∧ z.x ≤ 8) ∧ (0 ≤ z.y ∧ z.y ≤ 8) := by
  unfold Wy.ok inB at h
  simp only [Bool.and_eq_true, decide_eq_true_eq] at h
  omega
theorem isIb.below {w w' : World} {b B : Nat} {n : Int} (h : isIb w b n) (hh : Below B w w') (hb : b < B) : isIb w' b n := by
  unfold isIb at h ⊢; rw [hh.block b hb]; exact h
theorem isWb.below {w w' : World} {b B : Nat} {k x y t : Int} (h : isWb w b k x y t) (hh : Below B w w') (hb : b < B) : isWb w' b k x y t := by
  unfold isWb at h ⊢; rw [hh.block b hb]; exact h
theorem Bt.below {g B : Nat} {w w' : World} (h : Bt g w w') (hg : B ≤ g) (hB : B ≤ w.heap.size) : Below B w w' := ⟨h.os, h.tape, h.output, h.size, fun k hk => h.block k (by omega) (by omega)⟩

set_option maxHeartbeats 4000000 in
set_option maxRecDepth 100000 in
theorem goalsOf_any (W H from_ T : Nat) (C A B : ByteArray) (ao : Option Addr) (cap : Nat) (ws : List Wy) (w : World) (hws : isWys w ao cap ws) (hok : ∀ z ∈ ws, z.ok = true) (hT : T ≤ 1) (hW : 1 ≤ W ∧ W ≤ 8) (hH : 1 ≤ H ∧ H ≤ 8) (hC : C.size = W * H) (hfr : from_ < W * H) :
    Calls Tryz.prog 129 #[.agg #[.int .i64 (W : Int), .int .i64 (H : Int), .string C, .int .i64 (T : Int), .string A, .string B], .int .i64 (from_ : Int), .slice ao ws.length cap] w fun e w' => e = .returned (.int .u64 (goalsG W H T C from_ ws : Nat)) ∧ Below w.heap.size w w' := by
  have hmf : ∀ (fn : Fn) (first cap : Array Value) (w : World), (Instr.makeFunc fn first cap).run Tryz.prog w = .ok (.func fn first cap) w := fun _ _ _ _ => rfl
  have h64 : W * H ≤ 64 := Nat.mul_le_mul hW.2 hH.2
  obtain ⟨m, hm⟩ : ∃ m, m = ws.length := ⟨_, rfl⟩
  rw [← hm]
  have HM := hide hm
  have HWS := hide hws
  have HOK := hide hok
  have hmx : m ≤ 9223372036854775807 := by have h1 := hws.le; have h2 := hws.mx; unfold maxLen at h2; omega
  obtain ⟨w1, hw1⟩ : ∃ w1, w1 = w.alloc (.cells #[.int .i64 (W : Int), .int .i64 (H : Int), .string C, .int .i64 (T : Int), .string A, .string B] 24 (0, 0)) := ⟨_, rfl⟩
  obtain ⟨w2, hw2⟩ : ∃ w2, w2 = w1.alloc (.cells #[.int .i64 (from_ : Int)] 3 (0, 0)) := ⟨_, rfl⟩
  obtain ⟨w3, hw3⟩ : ∃ w3, w3 = w2.alloc (.cells #[.int .u64 0] 176 (0, 0)) := ⟨_, rfl⟩
  have hb1 : Below w.heap.size w w1 := by rw [hw1]; exact (Below.refl _ _).alloc (Nat.le_refl _) _
  have hb2 : Below w1.heap.size w1 w2 := by rw [hw2]; exact (Below.refl _ _).alloc (Nat.le_refl _) _
  have hb3 : Below w2.heap.size w2 w3 := by rw [hw3]; exact (Below.refl _ _).alloc (Nat.le_refl _) _
  have s1 : w1.heap.size = w.heap.size + 1 := by rw [hw1]; simp
  have s2 : w2.heap.size = w.heap.size + 1 + 1 := by rw [hw2]; simp [s1]
  have s3 : w3.heap.size = w.heap.size + 1 + 1 + 1 := by rw [hw3]; simp [s2]
  have hp0 : isPb w3 w.heap.size W H T C A B := (show isPb w1 w.heap.size W H T C A B by rw [hw1]; exact heap_alloc_new w _).below (hb2.trans (hb3.mono (by omega))) (by omega)
  have hf0 : isIb w3 (w.heap.size + 1) from_ := (show isIb w2 (w.heap.size + 1) from_ by rw [hw2, ← s1]; exact heap_alloc_new w1 _).below hb3 (by omega)
  have hg0 : isGb w3 (w.heap.size + 1 + 1) 0 := by rw [hw3, ← s2]; exact heap_alloc_new w2 _
  have hbw : Below w.heap.size w w3 := (hb1.trans (hb2.mono (by omega))).trans (hb3.mono (by omega))
  have HP0 := hide hp0
  have HF0 := hide hf0
  have HG0 := hide hg0
  have HBW := hide hbw
  have HS3 := hide s3
  clear hws hok hm hb1 hb2 hb3 s1 s2 s3 hp0 hf0 hg0 hbw
  go_enter Tryz.func129, Tryz.ntmps129
  go_wp2
  rw [← hw1, ← hw2, ← hw3]
  clear hw1 hw2 hw3
  go_loopw [12] (fun iv wr => ∃ i : Nat, iv = .int .i64 (i : Int) ∧ i ≤ m ∧ isGb wr (w.heap.size + 1 + 1) ((ws.take i).foldl (wayG W H T C from_) 0) ∧ (ws.take i).foldl (wayG W H T C from_) 0 < 18446744073709551616 ∧ isPb wr w.heap.size W H T C A B ∧ isIb wr (w.heap.size + 1) from_ ∧ Below w.heap.size w wr ∧ w.heap.size + 1 + 1 + 1 ≤ wr.heap.size) (fun iv _ => m - (intOf iv).toNat)
  case atStart => exact ⟨0, rfl, Nat.zero_le _, unhide HG0, by simp, unhide HP0, unhide HF0, unhide HBW, by rw [unhide HS3]; exact Nat.le_refl _⟩
  case round =>
    obtain ⟨i, rfl, him, hg, hG, hp, hf, hb, hsz⟩ := hrel
    clear HP0 HF0 HG0 HBW HS3
    obtain ⟨G, hGe⟩ : ∃ G, G = (ws.take i).foldl (wayG W H T C from_) 0 := ⟨_, rfl⟩
    rw [← hGe] at hg hG
    by_cases hlt : i < m
    · have hlti : (i : Int) < (m : Int) := by omega
      obtain ⟨z, hz⟩ : ∃ z, ws[i]? = some z := ⟨_, List.getElem?_eq_getElem (by rw [← unhide HM]; exact hlt)⟩
      have hwsr := isWys.below (unhide HWS) hb (Nat.le_refl _)
      obtain ⟨g, off, hao, hgl, hcell⟩ := hwsr.cells (by intro e; rw [e] at hz; simp at hz)
      obtain ⟨c0, c1, c2, c3⟩ := hcell i z hz
      have hzo := unhide HOK z (List.mem_of_getElem? hz)
      obtain ⟨hzx, hzy⟩ := Wy.ok_xy hzo
      obtain ⟨wx, hwx⟩ : ∃ wx, wx = wr.alloc (.cells #[.int .i64 z.k, .int .i64 z.x, .int .i64 z.y, .int .i64 z.t] 68 (0, 0)) := ⟨_, rfl⟩
      have hbx : Below wr.heap.size wr wx := by rw [hwx]; exact (Below.refl _ _).alloc (Nat.le_refl _) _
      have hsx : wx.heap.size = wr.heap.size + 1 := by rw [hwx]; simp
      have hwb : isWb wx wr.heap.size z.k z.x z.y z.t := by rw [hwx]; exact heap_alloc_new wr _
      have hpx := hp.below hbx hp.lt
      have hfx := hf.below hbx hf.lt
      have hgx := hg.below hbx hg.lt
      have hES := eachStep_any z.k z.x z.y z.t T 162 #[.pointer (some ⟨w.heap.size, 0, none⟩), .pointer (some ⟨w.heap.size + 1, 0, none⟩), .pointer (some ⟨wr.heap.size, 0, none⟩), .pointer (some ⟨w.heap.size + 1 + 1, 0, none⟩)]
        (fun ds u => isGb u (w.heap.size + 1 + 1) (stepsG W H T C from_ z G ds) ∧ stepsG W H T C from_ z G ds < 18446744073709551616 ∧ Bt (w.heap.size + 1 + 1) wx u) wx hT hzx hzy entS
        (fun ds u u' ⟨q1, q2, q3⟩ hbu => ⟨q1.below hbu q1.lt, q2, q3.trans (Bt.of hbu)⟩)
        (fun ds dx dy u hd hu ⟨q1, q2, q3⟩ => by
          refine (step1_any W H from_ T C A B z.k z.x z.y z.t dx dy w.heap.size (w.heap.size + 1) wr.heap.size (w.heap.size + 1 + 1) _ u (hpx.bt q3 (by omega)) (hfx.bt q3 (by omega)) (hwb.bt q3 (by omega)) q1 hT hW hH hC hfr q2 (Wy.ok_step hzo hT hd) (by omega) (by omega)).mono ?_
          rintro e u' ⟨rfl, q4, q5⟩
          have hsn : stepsG W H T C from_ z G (ds ++ [(dx, dy)]) = rayG W H z.k z.t T C from_ dx dy (stepsG W H T C from_ z G ds) := by unfold stepsG; rw [List.foldl_append]; rfl
          refine ⟨rfl, ⟨by rw [hsn]; exact q4, by rw [hsn]; exact rayG_lt h64 q2, q3.trans q5⟩, q5.hi (by omega)⟩)
        ⟨hgx, hG, Bt.refl _ _⟩
      have r3 : ∀ o, (wr.alloc o).cell? ⟨w.heap.size, 3, none⟩ = some (.int .i64 (T : Int)) := fun o => (((Below.refl wr.heap.size wr).alloc (Nat.le_refl _) o).cell (p := ⟨w.heap.size, 3, none⟩) hp.lt).trans hp.all.2.2.2.1
      have HES := hide hES
      have HPX := hide hpx
      have HFX := hide hfx
      have HBX := hide hbx
      have HBW := hide hb
      have HNX : Hid (stepsG W H T C from_ z G (stepsL z.k z.x z.y T) = (ws.take (i + 1)).foldl (wayG W H T C from_) 0) := by
        refine hide ?_
        rw [take_snocW ws i z hz, List.foldl_append, ← hGe]
        rfl
      subst hao
      clear hES hpx hfx hgx hbx hb hwb hcell hwsr hz hzo hGe hg hp hf
      go_wp2_with fail
      rw [← hwx]
      clear hwx
      refine (unhide HES).mono ?_
      rintro e w5 ⟨rfl, q1, q2, q3⟩
      rw [unhide HNX] at q1 q2
      have hp5 := (unhide HPX).bt q3 (by omega)
      have hf5 := (unhide HFX).bt q3 (by omega)
      have hb5 : Below w.heap.size w w5 := ((unhide HBW).trans ((unhide HBX).mono (unhide HBW).size)).trans (q3.below (by omega) (by omega))
      have hs5 : w.heap.size + 1 + 1 + 1 ≤ w5.heap.size := by have := q3.size; omega
      clear q3 r3
      go_wp2
      go_roundw
      case rel => exact ⟨i + 1, by go_num, by omega, q1, q2, hp5, hf5, hb5, hs5⟩
      case measure => simp only [intOf]; omega
    · have hlti : ¬ (i : Int) < (m : Int) := by omega
      have hGf : G = goalsG W H T C from_ ws := by rw [hGe, List.take_of_length_le (by rw [← unhide HM]; omega)]; rfl
      obtain ⟨g0, -⟩ := hg.all
      have HGF := hide hGf
      have HBW := hide hb
      clear hGe hGf hp hf hg hb
      go_wp2
      go_ret
      exact ⟨by rw [← unhide HGF]; rfl, unhide HBW⟩
end Go.Proofs.YtihojhfpepbjhaaGreatDoor

namespace Go.Proofs.YtihojhfpepbjhaaGreatDoor
open Go.RowKit
attribute [local go_sem ↓] Go.wp_at_zero Go.wp_at_succ

theorem isIb.set {w : World} {b : Nat} {n : Int} (h : isIb w b n) (n' : Int) : isIb (w.setCell ⟨b, 0, none⟩ (.int .i64 n')) b n' := by
  unfold isIb at h ⊢; simp [World.setCell, Array.getElem?_modify, h]
theorem cellN_at (C : ByteArray) (c : Nat) (hc : c < C.size) : (C[c]'hc).toNat = cellN C c ∧ cellN C c < 256 := by
  have h : (C[c]'hc).toNat = cellN C c := by
    unfold cellN
    cases C with
    | mk d => exact congrArg UInt8.toNat (getElem!_pos d c hc).symm
  exact ⟨h, by rw [← h]; exact UInt8.toNat_lt _⟩

set_option maxHeartbeats 1000000 in
set_option maxRecDepth 100000 in
theorem line1_any (W H T : Int) (P : Nat) (C A B : ByteArray) (lb pb nb c : Nat) (n : Int) (w : World) (hl : isIb w lb P) (hp : isPb w pb W H T C A B) (hn : isIb w nb n) (hP : P ≤ 1) (hc : c < C.size) (_hC : C.size ≤ 64) (hb : 0 ≤ n ∧ n ≤ 1000) :
    Calls Tryz.prog 187 #[.int .i64 (c : Int), .pointer (some ⟨lb, 0, none⟩), .pointer (some ⟨pb, 0, none⟩), .pointer (some ⟨nb, 0, none⟩)] w fun e w' => e = .returned (.bool (ownB P (cellN C c))) ∧ isIb w' nb (if ownB P (cellN C c) then n + 1 else n) ∧ Bt nb w w' := by
  obtain ⟨-, -, p2, -⟩ := hp.all
  obtain ⟨l0, -⟩ := hl.all
  obtain ⟨n0, nf⟩ := hn.all
  obtain ⟨hcn, h256⟩ := cellN_at C c hc
  obtain ⟨N, hN⟩ : ∃ N, N = cellN C c := ⟨_, rfl⟩
  rw [← hN] at hcn h256 ⊢
  have hci : (c : Int) < (C.size : Int) := by omega
  have HO := hide (fun u => IsOf_any P N u hP h256)
  have HNB := hide hn
  clear hp hl hn hN
  obtain ⟨b, hbb⟩ : ∃ b, ownB P N = b := ⟨_, rfl⟩
  rw [hbb] at HO ⊢
  clear hbb
  cases b with
  | true =>
    go_enter Tryz.func187, Tryz.ntmps187
    go_wp2_with fail
    go_quiet ((go_at_call 128; exact Calls.quiet_of_same (unhide HO _)))
    have hnq : isIb (w.drewN nq) nb n := unhide HNB
    have hbq : Bt nb w (w.drewN nq) := ⟨rfl, rfl, rfl, Nat.le_refl _, fun _ _ _ => rfl⟩
    have HS := hide (hnq.set (n + 1))
    have HBS := hide (hbq.put 0 (.int .i64 (n + 1)))
    clear hnq hbq
    go_wp2
    go_ret
    exact ⟨rfl, unhide HS, unhide HBS⟩
  | false =>
    go_enter Tryz.func187, Tryz.ntmps187
    go_wp2_with fail
    go_quiet ((go_at_call 128; exact Calls.quiet_of_same (unhide HO _)))
    go_wp2
    go_ret
    exact ⟨rfl, unhide HNB, ⟨rfl, rfl, rfl, Nat.le_refl _, fun _ _ _ => rfl⟩⟩
theorem entL : ∀ args (u : World), (callFunc 187 args).run Tryz.prog u = .ok (.enter 187 args) u := enters_of Tryz.func187 (by kernel_rfl) rfl
/-- How many of the player's pieces are side by side from that one on. -/
def lineN (W H P : Nat) (C : ByteArray) (from_ : Nat) (dx dy : Int) : Nat := 1 + (rayL W H (fun c => ownB P (cellN C c)) dx dy 8 ((from_ % W : Nat) : Int) ((from_ / W : Nat) : Int)).countP (fun c => ownB P (cellN C c))

set_option maxHeartbeats 2000000 in
set_option maxRecDepth 100000 in
theorem lineFrom_any (W H from_ P : Nat) (T : Int) (C A B : ByteArray) (dx dy : Int) (w : World) (hP : P ≤ 1) (hW : 1 ≤ W ∧ W ≤ 8) (hH : 1 ≤ H ∧ H ≤ 8) (hC : C.size = W * H) (hfr : from_ < W * H) (hd : -8 ≤ dx ∧ dx ≤ 8 ∧ -8 ≤ dy ∧ dy ≤ 8 ∧ ¬ (dx = 0 ∧ dy = 0)) :
    Calls Tryz.prog 159 #[.agg #[.int .i64 (W : Int), .int .i64 (H : Int), .string C, .int .i64 T, .string A, .string B], .int .i64 (P : Int), .int .i64 (from_ : Int), .int .i64 dx, .int .i64 dy] w fun e w' => e = .returned (.int .i64 (lineN W H P C from_ dx dy : Nat)) ∧ Below w.heap.size w w' := by
  have hmf : ∀ (fn : Fn) (first cap : Array Value) (w : World), (Instr.makeFunc fn first cap).run Tryz.prog w = .ok (.func fn first cap) w := fun _ _ _ _ => rfl
  have h64 : W * H ≤ 64 := Nat.mul_le_mul hW.2 hH.2
  obtain ⟨w1, hw1⟩ : ∃ w1, w1 = w.alloc (.cells #[.int .i64 (W : Int), .int .i64 (H : Int), .string C, .int .i64 T, .string A, .string B] 24 (0, 0)) := ⟨_, rfl⟩
  obtain ⟨w2, hw2⟩ : ∃ w2, w2 = w1.alloc (.cells #[.int .i64 (P : Int)] 3 (0, 0)) := ⟨_, rfl⟩
  obtain ⟨w3, hw3⟩ : ∃ w3, w3 = w2.alloc (.cells #[.int .i64 1] 3 (0, 0)) := ⟨_, rfl⟩
  have hb1 : Below w.heap.size w w1 := by rw [hw1]; exact (Below.refl _ _).alloc (Nat.le_refl _) _
  have hb2 : Below w1.heap.size w1 w2 := by rw [hw2]; exact (Below.refl _ _).alloc (Nat.le_refl _) _
  have hb3 : Below w2.heap.size w2 w3 := by rw [hw3]; exact (Below.refl _ _).alloc (Nat.le_refl _) _
  have s1 : w1.heap.size = w.heap.size + 1 := by rw [hw1]; simp
  have s2 : w2.heap.size = w.heap.size + 1 + 1 := by rw [hw2]; simp [s1]
  have s3 : w3.heap.size = w.heap.size + 1 + 1 + 1 := by rw [hw3]; simp [s2]
  have hp0 : isPb w3 w.heap.size W H T C A B := (show isPb w1 w.heap.size W H T C A B by rw [hw1]; exact heap_alloc_new w _).below (hb2.trans (hb3.mono (by omega))) (by omega)
  have hl0 : isIb w3 (w.heap.size + 1) P := (show isIb w2 (w.heap.size + 1) P by rw [hw2, ← s1]; exact heap_alloc_new w1 _).below hb3 (by omega)
  have hn0 : isIb w3 (w.heap.size + 1 + 1) 1 := by rw [hw3, ← s2]; exact heap_alloc_new w2 _
  have hbw : Below w.heap.size w w3 := (hb1.trans (hb2.mono (by omega))).trans (hb3.mono (by omega))
  have hWK := walk_any W H from_ T C A B dx dy 187 #[.pointer (some ⟨w.heap.size + 1, 0, none⟩), .pointer (some ⟨w.heap.size, 0, none⟩), .pointer (some ⟨w.heap.size + 1 + 1, 0, none⟩)] (fun c => ownB P (cellN C c))
    (fun vs u => isIb u (w.heap.size + 1 + 1) ((1 + vs.countP (fun c => ownB P (cellN C c)) : Nat) : Int) ∧ Bt (w.heap.size + 1 + 1) w3 u) w3 hW hH hfr hd entL
    (fun vs u u' h hb => ⟨h.1.below hb h.1.lt, h.2.trans (Bt.of hb)⟩)
    (fun vs c u hv hc hu h => by
      have hcp := List.countP_le_length (p := fun c => ownB P (cellN C c)) (l := vs)
      refine (line1_any W H T P C A B (w.heap.size + 1) w.heap.size (w.heap.size + 1 + 1) c _ u (hl0.bt h.2 (by omega)) (hp0.bt h.2 (by omega)) h.1 hP (by omega) (by omega) (by omega)).mono ?_
      rintro e u' ⟨rfl, q1, q2⟩
      refine ⟨rfl, ⟨?_, h.2.trans q2⟩, q2.hi (by omega)⟩
      rw [List.countP_append]
      cases ho : ownB P (cellN C c) with
      | true =>
        rw [ho] at q1
        simp only [if_true] at q1
        simp only [List.countP_cons, List.countP_nil, ho, if_true]
        rw [show ((1 + (List.countP (fun c => ownB P (cellN C c)) vs + (0 + 1)) : Nat) : Int) = ((1 + List.countP (fun c => ownB P (cellN C c)) vs : Nat) : Int) + 1 by omega]
        exact q1
      | false =>
        rw [ho] at q1
        simp only [Bool.false_eq_true, if_false] at q1
        simp only [List.countP_cons, List.countP_nil, ho, Bool.false_eq_true, if_false, Nat.add_zero]
        exact q1)
    ⟨hn0, Bt.refl _ _⟩
  have HWK := hide hWK
  have HBW := hide hbw
  have HS3 := hide s3
  clear hWK hbw hb1 hb2 hb3 s1 s2 s3 hp0 hl0 hn0
  go_enter Tryz.func159, Tryz.ntmps159
  go_wp2_with fail
  rw [← hw1, ← hw2, ← hw3]
  clear hw1 hw2 hw3
  refine (unhide HWK).mono ?_
  rintro e w4 ⟨rfl, q1, q2⟩
  obtain ⟨n0, -⟩ := q1.all
  have HB4 : Hid (Below w.heap.size w w4) := hide ((unhide HBW).trans (q2.below (by omega) (by have := unhide HS3; omega)))
  clear q1 q2
  go_wp2
  go_ret
  exact ⟨rfl, unhide HB4⟩
end Go.Proofs.YtihojhfpepbjhaaGreatDoor

namespace Go.Proofs
open Go.Shelf Go.RowKit Go.Sort Go.Lib
def Tryz.lays137_ren : Go.Shelf.Ren := ⟨fun | 137 => 43 | 217 => 81 | 266 => 114 | n => n, fun | 9 => 9 | 5 => 5 | 3 => 3 | n => n, fun | n => n⟩
theorem Tryz.lays137 : Go.Proofs.Lays.n137 Tryz.prog Tryz.lays137_ren := {
  mixed := by kernel_rfl
  f137 := Tryz.func43.trans (congrArg some (by kernel_rfl))
  f217 := Tryz.func81.trans (congrArg some (by kernel_rfl))
  f266 := Tryz.func114.trans (congrArg some (by kernel_rfl))
  t3 := Tryz.underlying3
  a3 := Tryz.isAgg3
  z3 := Tryz.sizeOf3
  v3 := Tryz.zeroValue3
  t5 := Tryz.underlying5
  a5 := Tryz.isAgg5
  z5 := Tryz.sizeOf5
  v5 := Tryz.zeroValue5
  t9 := Tryz.underlying9
  a9 := Tryz.isAgg9
  z9 := Tryz.sizeOf9
  v9 := Tryz.zeroValue9 }
theorem Tryz.strings_IndexByte (s : ByteArray) (c : Int) (w : World) :
    Calls Tryz.prog 43 #[.string s, .int .u8 c] w fun e w' => e = .returned (.int .i64 (Lib.indexByte s.data.toList c.toNat.toUInt8)) ∧ w' = w := Any.strings_IndexByte Tryz.lays137 s c w
def Tryz.laysM171_ren : Go.Shelf.Ren := ⟨fun | 171 => 75 | 243 => 109 | 246 => 149 | 283 => 179 | 284 => 180 | 285 => 181 | 286 => 182 | 129 => 195 | 317 => 194 | 318 => 196 | 319 => 197 | 320 => 198 | 337 => 202 | 338 => 203 | n => n, fun | 3 => 3 | 9 => 9 | 2 => 2 | 4 => 4 | 171 => 224 | 0 => 0 | 53 => 175 | 37 => 127 | 5 => 5 | 173 => 227 | 212 => 239 | 51 => 112 | 20 => 20 | 213 => 240 | 46 => 53 | 232 => 257 | 233 => 258 | n => n, fun | 17 => 3 | 18 => 6 | 19 => 7 | n => n⟩
theorem Tryz.laysM171 : Go.Proofs.LaysM.n171 Tryz.prog Tryz.laysM171_ren := {
  mixed := by kernel_rfl
  f129 := Tryz.func195.trans (congrArg some (by kernel_rfl))
  f171 := Tryz.func75.trans (congrArg some (by kernel_rfl))
  f243 := Tryz.func109.trans (congrArg some (by kernel_rfl))
  f246 := Tryz.func149.trans (congrArg some (by kernel_rfl))
  f283 := Tryz.func179.trans (congrArg some (by kernel_rfl))
  f284 := Tryz.func180.trans (congrArg some (by kernel_rfl))
  f285 := Tryz.func181.trans (congrArg some (by kernel_rfl))
  f286 := Tryz.func182.trans (congrArg some (by kernel_rfl))
  f317 := Tryz.func194.trans (congrArg some (by kernel_rfl))
  f318 := Tryz.func196.trans (congrArg some (by kernel_rfl))
  f319 := Tryz.func197.trans (congrArg some (by kernel_rfl))
  f320 := Tryz.func198.trans (congrArg some (by kernel_rfl))
  f337 := Tryz.func202.trans (congrArg some (by kernel_rfl))
  f338 := Tryz.func203.trans (congrArg some (by kernel_rfl))
  t0 := Tryz.underlying0
  a0 := Tryz.isAgg0
  z0 := Tryz.sizeOf0
  v0 := Tryz.zeroValue0
  t2 := Tryz.underlying2
  a2 := Tryz.isAgg2
  z2 := Tryz.sizeOf2
  v2 := Tryz.zeroValue2
  t3 := Tryz.underlying3
  a3 := Tryz.isAgg3
  z3 := Tryz.sizeOf3
  v3 := Tryz.zeroValue3
  t4 := Tryz.underlying4
  a4 := Tryz.isAgg4
  z4 := Tryz.sizeOf4
  v4 := Tryz.zeroValue4
  t5 := Tryz.underlying5
  a5 := Tryz.isAgg5
  z5 := Tryz.sizeOf5
  v5 := Tryz.zeroValue5
  t9 := Tryz.underlying9
  a9 := Tryz.isAgg9
  z9 := Tryz.sizeOf9
  v9 := Tryz.zeroValue9
  t20 := Tryz.underlying20
  a20 := Tryz.isAgg20
  z20 := Tryz.sizeOf20
  v20 := Tryz.zeroValue20
  t37 := Tryz.underlying127
  a37 := Tryz.isAgg127
  z37 := Tryz.sizeOf127
  v37 := Tryz.zeroValue127
  t46 := Tryz.underlying53
  a46 := Tryz.isAgg53
  z46 := Tryz.sizeOf53
  v46 := Tryz.zeroValue53
  t51 := Tryz.underlying112
  a51 := Tryz.isAgg112
  z51 := Tryz.sizeOf112
  v51 := Tryz.zeroValue112
  t53 := Tryz.underlying175
  a53 := Tryz.isAgg175
  z53 := Tryz.sizeOf175
  v53 := Tryz.zeroValue175
  t171 := Tryz.underlying224
  a171 := Tryz.isAgg224
  z171 := Tryz.sizeOf224
  v171 := Tryz.zeroValue224
  t173 := Tryz.underlying227
  a173 := Tryz.isAgg227
  z173 := Tryz.sizeOf227
  v173 := Tryz.zeroValue227
  t212 := Tryz.underlying239
  a212 := Tryz.isAgg239
  z212 := Tryz.sizeOf239
  v212 := Tryz.zeroValue239
  t213 := Tryz.underlying240
  a213 := Tryz.isAgg240
  z213 := Tryz.sizeOf240
  t232 := Tryz.underlying257
  a232 := Tryz.isAgg257
  z232 := Tryz.sizeOf257
  v232 := Tryz.zeroValue257
  t233 := Tryz.underlying258
  a233 := Tryz.isAgg258
  z233 := Tryz.sizeOf258
  v233 := Tryz.zeroValue258
  g17 := by kernel_rfl
  g18 := by kernel_rfl
  g19 := by kernel_rfl
  i0 := by kernel_rfl
  i2 := by kernel_rfl
  i3 := by kernel_rfl
  i4 := by kernel_rfl
  i5 := by kernel_rfl
  i9 := by kernel_rfl
  i20 := by kernel_rfl
  i37 := by kernel_rfl
  i46 := by kernel_rfl
  i51 := by kernel_rfl
  i53 := by kernel_rfl
  i171 := by kernel_rfl
  i173 := by kernel_rfl
  i212 := by kernel_rfl
  i232 := by kernel_rfl
  i233 := by kernel_rfl
  m17 := by kernel_rfl
  m18 := by kernel_rfl
  m19 := by kernel_rfl }
theorem Tryz.strconv_Itoa (n : Int) (h0 : -9223372036854775808 ≤ n) (h1 : n ≤ 9223372036854775807) (w : World) (htab : Lib.TabIs Tryz.prog w "internal/strconv.uint64pow10" .u64 Lib.pow10Tab) :
    Calls Tryz.prog 75 #[.int .i64 n] w fun e w' => e = .returned (.string ⟨(Lib.itoa n).toArray⟩) ∧ ∃ k os, w' = grow (w.drewN k) os := Any.strconv_Itoa Tryz.laysM171 n h0 h1 w htab
def Tryz.lays154_ren : Go.Shelf.Ren := ⟨fun | 154 => 192 | 138 => 116 | 165 => 199 | 143 => 117 | 166 => 69 | 197 => 154 | 169 => 72 | 195 => 153 | 218 => 155 | 240 => 106 | 241 => 204 | 219 => 113 | 260 => 184 | 276 => 146 | 277 => 215 | 217 => 81 | 225 => 150 | 224 => 151 | 267 => 152 | 266 => 114 | 314 => 183 | n => n, fun | 9 => 9 | 3 => 3 | 4 => 4 | 72 => 129 | 0 => 0 | 76 => 103 | 105 => 198 | 21 => 21 | 5 => 5 | 70 => 126 | 20 => 20 | 37 => 127 | 75 => 102 | 127 => 156 | 164 => 192 | 46 => 53 | 119 => 242 | 139 => 245 | 138 => 244 | 146 => 229 | 51 => 112 | 80 => 34 | n => n, fun | 1 => 0 | 3 => 4 | 4 => 5 | n => n⟩
theorem Tryz.lays154 : Go.Proofs.Lays.n154 Tryz.prog Tryz.lays154_ren := {
  mixed := by kernel_rfl
  f138 := Tryz.func116.trans (congrArg some (by kernel_rfl))
  f143 := Tryz.func117.trans (congrArg some (by kernel_rfl))
  f154 := Tryz.func192.trans (congrArg some (by kernel_rfl))
  f165 := Tryz.func199.trans (congrArg some (by kernel_rfl))
  f166 := Tryz.func69.trans (congrArg some (by kernel_rfl))
  f169 := Tryz.func72.trans (congrArg some (by kernel_rfl))
  f195 := Tryz.func153.trans (congrArg some (by kernel_rfl))
  f197 := Tryz.func154.trans (congrArg some (by kernel_rfl))
  f217 := Tryz.func81.trans (congrArg some (by kernel_rfl))
  f218 := Tryz.func155.trans (congrArg some (by kernel_rfl))
  f219 := Tryz.func113.trans (congrArg some (by kernel_rfl))
  f224 := Tryz.func151.trans (congrArg some (by kernel_rfl))
  f225 := Tryz.func150.trans (congrArg some (by kernel_rfl))
  f240 := Tryz.func106.trans (congrArg some (by kernel_rfl))
  f241 := Tryz.func204.trans (congrArg some (by kernel_rfl))
  f260 := Tryz.func184.trans (congrArg some (by kernel_rfl))
  f266 := Tryz.func114.trans (congrArg some (by kernel_rfl))
  f267 := Tryz.func152.trans (congrArg some (by kernel_rfl))
  f276 := Tryz.func146.trans (congrArg some (by kernel_rfl))
  f277 := Tryz.func215.trans (congrArg some (by kernel_rfl))
  f314 := Tryz.func183.trans (congrArg some (by kernel_rfl))
  t0 := Tryz.underlying0
  a0 := Tryz.isAgg0
  z0 := Tryz.sizeOf0
  v0 := Tryz.zeroValue0
  t3 := Tryz.underlying3
  a3 := Tryz.isAgg3
  z3 := Tryz.sizeOf3
  v3 := Tryz.zeroValue3
  t4 := Tryz.underlying4
  a4 := Tryz.isAgg4
  z4 := Tryz.sizeOf4
  v4 := Tryz.zeroValue4
  t5 := Tryz.underlying5
  a5 := Tryz.isAgg5
  z5 := Tryz.sizeOf5
  v5 := Tryz.zeroValue5
  t9 := Tryz.underlying9
  a9 := Tryz.isAgg9
  z9 := Tryz.sizeOf9
  v9 := Tryz.zeroValue9
  t20 := Tryz.underlying20
  a20 := Tryz.isAgg20
  z20 := Tryz.sizeOf20
  v20 := Tryz.zeroValue20
  t21 := Tryz.underlying21
  a21 := Tryz.isAgg21
  z21 := Tryz.sizeOf21
  v21 := Tryz.zeroValue21
  t37 := Tryz.underlying127
  a37 := Tryz.isAgg127
  z37 := Tryz.sizeOf127
  v37 := Tryz.zeroValue127
  t46 := Tryz.underlying53
  a46 := Tryz.isAgg53
  z46 := Tryz.sizeOf53
  v46 := Tryz.zeroValue53
  t51 := Tryz.underlying112
  a51 := Tryz.isAgg112
  z51 := Tryz.sizeOf112
  v51 := Tryz.zeroValue112
  t70 := Tryz.underlying126
  a70 := Tryz.isAgg126
  z70 := Tryz.sizeOf126
  v70 := Tryz.zeroValue126
  t72 := Tryz.underlying129
  a72 := Tryz.isAgg129
  z72 := Tryz.sizeOf129
  v72 := Tryz.zeroValue129
  t75 := Tryz.underlying102
  a75 := Tryz.isAgg102
  z75 := Tryz.sizeOf102
  v75 := Tryz.zeroValue102
  t76 := Tryz.underlying103
  a76 := Tryz.isAgg103
  z76 := Tryz.sizeOf103
  v76 := Tryz.zeroValue103
  t105 := Tryz.underlying198
  a105 := Tryz.isAgg198
  z105 := Tryz.sizeOf198
  v105 := Tryz.zeroValue198
  t119 := Tryz.underlying242
  a119 := Tryz.isAgg242
  z119 := Tryz.sizeOf242
  t127 := Tryz.underlying156
  a127 := Tryz.isAgg156
  z127 := Tryz.sizeOf156
  v127 := Tryz.zeroValue156
  t138 := Tryz.underlying244
  a138 := Tryz.isAgg244
  z138 := Tryz.sizeOf244
  v138 := Tryz.zeroValue244
  t139 := Tryz.underlying245
  a139 := Tryz.isAgg245
  z139 := Tryz.sizeOf245
  v139 := Tryz.zeroValue245
  t146 := Tryz.underlying229
  a146 := Tryz.isAgg229
  z146 := Tryz.sizeOf229
  v146 := Tryz.zeroValue229
  t164 := Tryz.underlying192
  a164 := Tryz.isAgg192
  z164 := Tryz.sizeOf192
  v164 := Tryz.zeroValue192
  g1 := by kernel_rfl
  g3 := by kernel_rfl
  g4 := by kernel_rfl }
theorem Tryz.Builder_Extra_154 : Builder.Extra Tryz.prog Tryz.lays154_ren := {
  sizeBuilder := by kernel_rfl
  liesBuilder := by kernel_rfl
  t5 := Tryz.underlying5
  a5 := Tryz.isAgg5
  z5 := Tryz.sizeOf5
  v5 := Tryz.zeroValue5
  infoByte := by kernel_rfl
  cellsByte := by kernel_rfl
  sizeByte := by kernel_rfl
  neB5 := by decide }
theorem Tryz.strings_Replace (s old new : ByteArray) (n : Int) (m : Int) (w : World) (hs : s.size < 4294967281) (hm : w.cell? ⟨0, 0, none⟩ = some (.int .i64 m)) (h1 : 1 ≤ old.size) (hlen : s.size + Lib.countB s old * new.size ≤ 140737488355328) :
    Calls Tryz.prog 192 #[.string s, .string old, .string new, .int .i64 n] w fun e w' =>
      e = .returned (.string ⟨(Lib.replace s.data.toList old.data.toList new.data.toList n).toArray⟩) ∧ Below w.heap.size w w' := Any.strings_Replace Tryz.lays154 Tryz.Builder_Extra_154 s old new n m w hs hm h1 hlen
end Go.Proofs
