/-
  Numbers that are made in any order among calls: what is known of a world on the way.
  parlourbig's fractions: Add.
-/
import Derived.Test.YthplbfjpmnpjmaaDoorJ38
import Derived.Deep.CutRange
namespace Go.Proofs.YthplbfjpmnpjmaaDoor
open Go.RowKit
attribute [local go_sem ↓] Go.wp_at_zero Go.wp_at_succ

/-- On the way from w to V: the blocks P hold fresh numbers, the numbers F lie there. -/
structure St (w V : World) (P : List Nat) (F : List (Nat × Nat × Int)) : Prop where
  low : Below w.heap.size w V
  pend : ∀ g ∈ P, V.heap[g]? = some (.cells #[.bool false, .slice none 0 0] 37 (0, 0)) ∧ w.heap.size ≤ g
  facts : ∀ f ∈ F, isI V f.1 f.2.1 f.2.2
  apart : ∀ f ∈ F, ∀ g ∈ P, f.1 ≠ g
theorem St.start (w : World) : St w w [] [] := ⟨Below.refl _ _, by simp, by simp, by simp⟩
theorem St.lt {w V : World} {P : List Nat} {F : List (Nat × Nat × Int)} (h : St w V P F) {g : Nat} (hg : g ∈ P) : g < V.heap.size := block_lt (h.pend g hg).1
theorem St.alloc {w V : World} {P : List Nat} {F : List (Nat × Nat × Int)} (h : St w V P F) : St w (V.alloc (.cells #[.bool false, .slice none 0 0] 37 (0, 0))) (V.heap.size :: P) F := by
  have ha : Below V.heap.size V (V.alloc (.cells #[.bool false, .slice none 0 0] 37 (0, 0))) := (Below.refl _ _).alloc (Nat.le_refl _) _
  refine ⟨h.low.alloc h.low.size _, fun g hg => ?_, fun f hf => (h.facts f hf).below ha (Nat.le_refl _), fun f hf g hg => ?_⟩
  · rcases List.mem_cons.1 hg with rfl | hg
    · exact ⟨al_new _ _, h.low.size⟩
    · exact ⟨(ha.block g (h.lt hg)).trans (h.pend g hg).1, (h.pend g hg).2⟩
  · rcases List.mem_cons.1 hg with rfl | hg
    · have := (h.facts f hf).lt; omega
    · exact h.apart f hf g hg
theorem St.drew {w V : World} {P : List Nat} {F : List (Nat × Nat × Int)} (h : St w V P F) : St w V.drew P F := ⟨h.low.drew, h.pend, fun f hf => (h.facts f hf).below (Below.refl _ V).drew (Nat.le_refl _), h.apart⟩
/-- One new number more, told by its block. -/
theorem St.grow {w V : World} {P : List Nat} {F : List (Nat × Nat × Int)} (h : St w V P F) {n : Nat} (hn : V.heap.size = n) : St w (V.alloc (.cells #[.bool false, .slice none 0 0] 37 (0, 0))) (n :: P) F := by
  rw [← hn]; exact h.alloc

theorem den_s {w V : World} {P : List Nat} {F : List (Nat × Nat × Int)} (h : St w V P F) (b : Nat) (q : Rat) (hr : isR w b q) :
    Calls Tryd.prog 26 #[.pointer (some ⟨b, 0, none⟩)] V fun e V' => ∃ c o, e = .returned (.pointer (some ⟨c, o, none⟩)) ∧ St w V' P ((c, o, (q.den : Int)) :: F) ∧ V.heap.size ≤ V'.heap.size := by
  refine (den_any b q V (hr.below h.low (Nat.le_refl _))).mono ?_
  rintro e V' ⟨c, o, rfl, i, hc, hb⟩
  have hl := hr.lt
  refine ⟨c, o, rfl, ⟨h.low.trans (hb.mono h.low.size), fun g hg => ⟨(hb.block g (h.lt hg)).trans (h.pend g hg).1, (h.pend g hg).2⟩, fun f hf => ?_, fun f hf g hg => ?_⟩, hb.size⟩
  · rcases List.mem_cons.1 hf with rfl | hf
    · exact i
    · exact (h.facts f hf).below hb (Nat.le_refl _)
  · rcases List.mem_cons.1 hf with rfl | hf
    · have h1 := h.lt hg
      have h2 := (h.pend g hg).2
      show c ≠ g
      omega
    · exact h.apart f hf g hg
/-- Behind a call that put a number into a pending block. -/
theorem St.put {w V V' : World} {P : List Nat} {F : List (Nat × Nat × Int)} (h : St w V P F) {g : Nat} {z : Int} (hg : g ∈ P) (i : isI V' g 0 z) (p : Put V.heap.size g 0 V V') : St w V' (P.filter (· != g)) ((g, 0, z) :: F) := by
  have hgl := h.lt hg
  refine ⟨h.low.trans (p.but.fresh (h.pend g hg).2 h.low.size), fun g' hg' => ?_, fun f hf => ?_, fun f hf g' hg' => ?_⟩
  · simp at hg'
    exact ⟨(p.but.block g' (h.lt hg'.1) hg'.2).trans (h.pend g' hg'.1).1, (h.pend g' hg'.1).2⟩
  · rcases List.mem_cons.1 hf with rfl | hf
    · exact i
    · exact (h.facts f hf).but (to_at (h.pend g hg).1).nb p.but (Nat.le_refl _) (h.apart f hf g hg)
  · simp at hg'
    rcases List.mem_cons.1 hf with rfl | hf
    · exact fun e => hg'.2 e.symm
    · exact h.apart f hf g' hg'.1
theorem mul_s {w V : World} {P : List Nat} {F : List (Nat × Nat × Int)} (h : St w V P F) (g c p d q n : Nat) (x y : Int) (hg : g ∈ P) (hx : isI V c p x) (hy : isI V d q y) (hc : c ≠ g) (hd : d ≠ g) (hn : n ≤ 20000) (hX : x.natAbs < 4294967296 ^ n) (hY : y.natAbs < 4294967296 ^ n) :
    Calls Tryd.prog 25 #[.pointer (some ⟨g, 0, none⟩), .pointer (some ⟨c, p, none⟩), .pointer (some ⟨d, q, none⟩)] V fun e V' => e = .returned (.pointer (some ⟨g, 0, none⟩)) ∧ St w V' (P.filter (· != g)) ((g, 0, x * y) :: F) ∧ V.heap.size ≤ V'.heap.size := by
  refine (Mul_z g 0 c p d q n x y V (to_at (h.pend g hg).1) hx hy hc hd hn hX hY).mono ?_
  rintro e V' ⟨rfl, i, p'⟩
  exact ⟨rfl, h.put hg i p', p'.but.size⟩
theorem add_s {w V : World} {P : List Nat} {F : List (Nat × Nat × Int)} (h : St w V P F) (g c p d q n : Nat) (x y : Int) (hg : g ∈ P) (hx : (c, p, x) ∈ F) (hy : (d, q, y) ∈ F) (hn : n ≤ 20000) (hX : x.natAbs < 4294967296 ^ n) (hY : y.natAbs < 4294967296 ^ n) :
    Calls Tryd.prog 24 #[.pointer (some ⟨g, 0, none⟩), .pointer (some ⟨c, p, none⟩), .pointer (some ⟨d, q, none⟩)] V fun e V' => e = .returned (.pointer (some ⟨g, 0, none⟩)) ∧ isI V' g 0 (x + y) ∧ Below w.heap.size w V' := by
  refine (Add_z g 0 c p d q n x y V (to_at (h.pend g hg).1) (h.facts _ hx) (h.facts _ hy) (h.apart _ hx g hg) (h.apart _ hy g hg) hn hX hY).mono ?_
  rintro e V' ⟨rfl, i, p'⟩
  exact ⟨rfl, i, h.low.trans (p'.but.fresh (h.pend g hg).2 h.low.size)⟩
/-- A number times a denominator. -/
theorem mul_rs {w V : World} {P : List Nat} {F : List (Nat × Nat × Int)} (h : St w V P F) (g b d q n : Nat) (r : Rat) (y : Int) (hr : isR w b r) (hg : g ∈ P) (hy : (d, q, y) ∈ F) (hn : n ≤ 20000) (hX : r.num.natAbs < 4294967296 ^ n) (hY : y.natAbs < 4294967296 ^ n) :
    Calls Tryd.prog 25 #[.pointer (some ⟨g, 0, none⟩), .pointer (some ⟨b, 0, none⟩), .pointer (some ⟨d, q, none⟩)] V fun e V' => e = .returned (.pointer (some ⟨g, 0, none⟩)) ∧ St w V' (P.filter (· != g)) ((g, 0, r.num * y) :: F) ∧ V.heap.size ≤ V'.heap.size :=
  mul_s h g b 0 d q n r.num y hg (hr.below h.low (Nat.le_refl _)).num (h.facts _ hy) (by have := hr.lt; have := (h.pend g hg).2; omega) (h.apart _ hy g hg) hn hX hY
end Go.Proofs.YthplbfjpmnpjmaaDoor

namespace Go.Proofs.YthplbfjpmnpjmaaDoor
open Go.RowKit
attribute [local go_sem ↓] Go.wp_at_zero Go.wp_at_succ
theorem add_lt_pow {x y : Int} {n : Nat} (hx : x.natAbs < 4294967296 ^ n) (hy : y.natAbs < 4294967296 ^ n) : (x + y).natAbs < 4294967296 ^ (n + 1) := by
  have e : (4294967296 : Nat) ^ (n + 1) = 4294967296 * 4294967296 ^ n := by rw [Nat.pow_succ, Nat.mul_comm]
  have h := Int.natAbs_add_le x y
  generalize (4294967296 : Nat) ^ n = P at *
  omega
theorem pow_more {x n : Nat} (hx : x < 4294967296 ^ n) : x < 4294967296 ^ (n + 1) := by
  have e : (4294967296 : Nat) ^ (n + 1) = 4294967296 * 4294967296 ^ n := by rw [Nat.pow_succ, Nat.mul_comm]
  omega

set_option maxHeartbeats 8000000 in
set_option maxRecDepth 100000 in
theorem Add_q (b bx cy n : Nat) (x y : Rat) (w : World) (hb : isTR w b) (hx : isR w bx x) (hy : isR w cy y) (hn : n ≤ 9999) (h1 : x.num.natAbs < 4294967296 ^ n) (h2 : x.den < 4294967296 ^ n) (h3 : y.num.natAbs < 4294967296 ^ n) (h4 : y.den < 4294967296 ^ n) :
    Calls Tryd.prog 12 #[.pointer (some ⟨b, 0, none⟩), .pointer (some ⟨bx, 0, none⟩), .pointer (some ⟨cy, 0, none⟩)] w (NoE b (x + y) w) := by
  have hbl := hb.a.nb.lt
  have hxl := hx.lt
  have hyl := hy.lt
  have HB := hide hb
  have HX := hide hx
  have HY := hide hy
  have HI := hide (And.intro h1 (And.intro h2 (And.intro h3 h4)))
  have HN1 : Hid ((x.num * (y.den : Int)).natAbs < 4294967296 ^ (n + n)) := by show _ < _; rw [Int.natAbs_mul]; exact mul_lt_pow h1 (by simpa using h4)
  have HN2 : Hid ((y.num * (x.den : Int)).natAbs < 4294967296 ^ (n + n)) := by show _ < _; rw [Int.natAbs_mul]; exact mul_lt_pow h3 (by simpa using h2)
  have HN3 : Hid ((x.num * (y.den : Int) + y.num * (x.den : Int)).natAbs < 4294967296 ^ (n + n + 1)) := add_lt_pow (unhide HN1) (unhide HN2)
  have HN4 : Hid (x.den * y.den < 4294967296 ^ (n + n + 1)) := pow_more (mul_lt_pow h2 h4)
  have HD0 : Hid (0 < x.den * y.den) := Nat.mul_pos (Nat.pos_of_ne_zero x.den_nz) (Nat.pos_of_ne_zero y.den_nz)
  rw [rat_add x y]
  have hS := St.start w
  clear hb hx hy h1 h2 h3 h4
  go_enter Tryd.func12, Tryd.ntmps12
  go_upto_region 1 with fail
  go_cut [7] from 8 to 23 (fun v wz => ∃ g, v = .pointer (some ⟨g, 0, none⟩) ∧ isI wz g 0 (x.num * (y.den : Int) + y.num * (x.den : Int)) ∧ Below w.heap.size w wz)
  case first =>
    go_region_held3 (fun _ => True) (trivial)
      (first
        | (go_at_call 26
           (first | (with_reducible refine (den_s hS cy y (unhide HY)).mono ?_) | (with_reducible refine (den_s hS.alloc cy y (unhide HY)).mono ?_) | (with_reducible refine (den_s hS.alloc.alloc cy y (unhide HY)).mono ?_) | (with_reducible refine (den_s hS.alloc.alloc.alloc cy y (unhide HY)).mono ?_) | (with_reducible refine (den_s hS.drew cy y (unhide HY)).mono ?_) | (with_reducible refine (den_s hS.alloc.drew cy y (unhide HY)).mono ?_) | (with_reducible refine (den_s hS.alloc.alloc.drew cy y (unhide HY)).mono ?_) | (with_reducible refine (den_s hS.alloc.alloc.alloc.drew cy y (unhide HY)).mono ?_))
           rintro e wD ⟨cD, oD, rfl, hS', sD⟩
           (try simp only [drew_size] at sD); (try simp only [World.size_alloc] at sD)
           replace hS := hS'
           skip)
        | (go_at_call 25
           (first | (with_reducible refine (mul_rs hS _ bx cD oD n x (y.den : Int) (unhide HX) (by first | (simp; done) | (simp; omega)) (by first | (simp; done) | (simp; omega)) (by omega) (unhide HI).1 (by simpa using (unhide HI).2.2.2)).mono ?_) | (with_reducible refine (mul_rs hS.alloc _ bx cD oD n x (y.den : Int) (unhide HX) (by first | (simp; done) | (simp; omega)) (by first | (simp; done) | (simp; omega)) (by omega) (unhide HI).1 (by simpa using (unhide HI).2.2.2)).mono ?_) | (with_reducible refine (mul_rs hS.alloc.alloc _ bx cD oD n x (y.den : Int) (unhide HX) (by first | (simp; done) | (simp; omega)) (by first | (simp; done) | (simp; omega)) (by omega) (unhide HI).1 (by simpa using (unhide HI).2.2.2)).mono ?_) | (with_reducible refine (mul_rs hS.alloc.alloc.alloc _ bx cD oD n x (y.den : Int) (unhide HX) (by first | (simp; done) | (simp; omega)) (by first | (simp; done) | (simp; omega)) (by omega) (unhide HI).1 (by simpa using (unhide HI).2.2.2)).mono ?_) | (with_reducible refine (mul_rs hS.drew _ bx cD oD n x (y.den : Int) (unhide HX) (by first | (simp; done) | (simp; omega)) (by first | (simp; done) | (simp; omega)) (by omega) (unhide HI).1 (by simpa using (unhide HI).2.2.2)).mono ?_) | (with_reducible refine (mul_rs hS.alloc.drew _ bx cD oD n x (y.den : Int) (unhide HX) (by first | (simp; done) | (simp; omega)) (by first | (simp; done) | (simp; omega)) (by omega) (unhide HI).1 (by simpa using (unhide HI).2.2.2)).mono ?_) | (with_reducible refine (mul_rs hS.alloc.alloc.drew _ bx cD oD n x (y.den : Int) (unhide HX) (by first | (simp; done) | (simp; omega)) (by first | (simp; done) | (simp; omega)) (by omega) (unhide HI).1 (by simpa using (unhide HI).2.2.2)).mono ?_) | (with_reducible refine (mul_rs hS.alloc.alloc.alloc.drew _ bx cD oD n x (y.den : Int) (unhide HX) (by first | (simp; done) | (simp; omega)) (by first | (simp; done) | (simp; omega)) (by omega) (unhide HI).1 (by simpa using (unhide HI).2.2.2)).mono ?_))
           rintro e wM ⟨rfl, hS', sM⟩
           (try simp only [drew_size] at sM); (try simp only [World.size_alloc] at sM)
           replace hS := hS'
           skip)
        | (go_at_call 26
           (first | (with_reducible refine (den_s hS bx x (unhide HX)).mono ?_) | (with_reducible refine (den_s hS.alloc bx x (unhide HX)).mono ?_) | (with_reducible refine (den_s hS.alloc.alloc bx x (unhide HX)).mono ?_) | (with_reducible refine (den_s hS.alloc.alloc.alloc bx x (unhide HX)).mono ?_) | (with_reducible refine (den_s hS.drew bx x (unhide HX)).mono ?_) | (with_reducible refine (den_s hS.alloc.drew bx x (unhide HX)).mono ?_) | (with_reducible refine (den_s hS.alloc.alloc.drew bx x (unhide HX)).mono ?_) | (with_reducible refine (den_s hS.alloc.alloc.alloc.drew bx x (unhide HX)).mono ?_))
           rintro e wE ⟨cE, oE, rfl, hS', sE⟩
           (try simp only [drew_size] at sE); (try simp only [World.size_alloc] at sE)
           replace hS := hS'
           skip)
        | (go_at_call 25
           (first | (with_reducible refine (mul_rs hS _ cy cE oE n y (x.den : Int) (unhide HY) (by first | (simp; done) | (simp; omega)) (by first | (simp; done) | (simp; omega)) (by omega) (unhide HI).2.2.1 (by simpa using (unhide HI).2.1)).mono ?_) | (with_reducible refine (mul_rs hS.alloc _ cy cE oE n y (x.den : Int) (unhide HY) (by first | (simp; done) | (simp; omega)) (by first | (simp; done) | (simp; omega)) (by omega) (unhide HI).2.2.1 (by simpa using (unhide HI).2.1)).mono ?_) | (with_reducible refine (mul_rs hS.alloc.alloc _ cy cE oE n y (x.den : Int) (unhide HY) (by first | (simp; done) | (simp; omega)) (by first | (simp; done) | (simp; omega)) (by omega) (unhide HI).2.2.1 (by simpa using (unhide HI).2.1)).mono ?_) | (with_reducible refine (mul_rs hS.alloc.alloc.alloc _ cy cE oE n y (x.den : Int) (unhide HY) (by first | (simp; done) | (simp; omega)) (by first | (simp; done) | (simp; omega)) (by omega) (unhide HI).2.2.1 (by simpa using (unhide HI).2.1)).mono ?_) | (with_reducible refine (mul_rs hS.drew _ cy cE oE n y (x.den : Int) (unhide HY) (by first | (simp; done) | (simp; omega)) (by first | (simp; done) | (simp; omega)) (by omega) (unhide HI).2.2.1 (by simpa using (unhide HI).2.1)).mono ?_) | (with_reducible refine (mul_rs hS.alloc.drew _ cy cE oE n y (x.den : Int) (unhide HY) (by first | (simp; done) | (simp; omega)) (by first | (simp; done) | (simp; omega)) (by omega) (unhide HI).2.2.1 (by simpa using (unhide HI).2.1)).mono ?_) | (with_reducible refine (mul_rs hS.alloc.alloc.drew _ cy cE oE n y (x.den : Int) (unhide HY) (by first | (simp; done) | (simp; omega)) (by first | (simp; done) | (simp; omega)) (by omega) (unhide HI).2.2.1 (by simpa using (unhide HI).2.1)).mono ?_) | (with_reducible refine (mul_rs hS.alloc.alloc.alloc.drew _ cy cE oE n y (x.den : Int) (unhide HY) (by first | (simp; done) | (simp; omega)) (by first | (simp; done) | (simp; omega)) (by omega) (unhide HI).2.2.1 (by simpa using (unhide HI).2.1)).mono ?_))
           rintro e wN ⟨rfl, hS', sN⟩
           (try simp only [drew_size] at sN); (try simp only [World.size_alloc] at sN)
           replace hS := hS'
           skip)
        | (go_at_call 24
           (first | (with_reducible refine (add_s hS _ _ 0 _ 0 (n + n) (x.num * (y.den : Int)) (y.num * (x.den : Int)) (by first | (simp; done) | (simp; omega)) (by first | (simp; done) | (simp; omega)) (by first | (simp; done) | (simp; omega)) (by omega) (unhide HN1) (unhide HN2)).mono ?_) | (with_reducible refine (add_s hS.alloc _ _ 0 _ 0 (n + n) (x.num * (y.den : Int)) (y.num * (x.den : Int)) (by first | (simp; done) | (simp; omega)) (by first | (simp; done) | (simp; omega)) (by first | (simp; done) | (simp; omega)) (by omega) (unhide HN1) (unhide HN2)).mono ?_) | (with_reducible refine (add_s hS.alloc.alloc _ _ 0 _ 0 (n + n) (x.num * (y.den : Int)) (y.num * (x.den : Int)) (by first | (simp; done) | (simp; omega)) (by first | (simp; done) | (simp; omega)) (by first | (simp; done) | (simp; omega)) (by omega) (unhide HN1) (unhide HN2)).mono ?_) | (with_reducible refine (add_s hS.alloc.alloc.alloc _ _ 0 _ 0 (n + n) (x.num * (y.den : Int)) (y.num * (x.den : Int)) (by first | (simp; done) | (simp; omega)) (by first | (simp; done) | (simp; omega)) (by first | (simp; done) | (simp; omega)) (by omega) (unhide HN1) (unhide HN2)).mono ?_) | (with_reducible refine (add_s hS.drew _ _ 0 _ 0 (n + n) (x.num * (y.den : Int)) (y.num * (x.den : Int)) (by first | (simp; done) | (simp; omega)) (by first | (simp; done) | (simp; omega)) (by first | (simp; done) | (simp; omega)) (by omega) (unhide HN1) (unhide HN2)).mono ?_) | (with_reducible refine (add_s hS.alloc.drew _ _ 0 _ 0 (n + n) (x.num * (y.den : Int)) (y.num * (x.den : Int)) (by first | (simp; done) | (simp; omega)) (by first | (simp; done) | (simp; omega)) (by first | (simp; done) | (simp; omega)) (by omega) (unhide HN1) (unhide HN2)).mono ?_) | (with_reducible refine (add_s hS.alloc.alloc.drew _ _ 0 _ 0 (n + n) (x.num * (y.den : Int)) (y.num * (x.den : Int)) (by first | (simp; done) | (simp; omega)) (by first | (simp; done) | (simp; omega)) (by first | (simp; done) | (simp; omega)) (by omega) (unhide HN1) (unhide HN2)).mono ?_) | (with_reducible refine (add_s hS.alloc.alloc.alloc.drew _ _ 0 _ 0 (n + n) (x.num * (y.den : Int)) (y.num * (x.den : Int)) (by first | (simp; done) | (simp; omega)) (by first | (simp; done) | (simp; omega)) (by first | (simp; done) | (simp; omega)) (by omega) (unhide HN1) (unhide HN2)).mono ?_))
           rintro e wA ⟨rfl, iA, hB⟩))
    all_goals (
      go_wp2
      go_meet
      case rel => exact ⟨_, rfl, iA, hB⟩)
  case rest =>
    obtain ⟨gA, rfl, iA, bA⟩ := hcut
    have HD1 := hide (fun u (hu : Below w.heap.size w u) => den_any bx x u ((unhide HX).below hu (Nat.le_refl _)))
    have HD2 := hide (fun u (hu : Below w.heap.size w u) => den_any cy y u ((unhide HY).below hu (Nat.le_refl _)))
    have ha : Below w.heap.size w (wc.alloc (.cells #[.bool false, .slice none 0 0] 37 (0, 0))) := bA.alloc bA.size _
    have ha2 : Below wc.heap.size wc (wc.alloc (.cells #[.bool false, .slice none 0 0] 37 (0, 0))) := (Below.refl _ _).alloc (Nat.le_refl _) _
    have HA := hide ha
    have HA2 := hide ha2
    have hAs := bA.size
    clear ha ha2
    go_wp2_with fail
    refine (unhide HD1 _ (unhide HA)).mono ?_
    rintro e w4 ⟨c1, o1, rfl, i1, cx1, b4⟩
    have hb4 := (unhide HA).trans (b4.mono (unhide HA).size)
    rw [World.size_alloc] at cx1
    have s4 := b4.size
    rw [World.size_alloc] at s4
    go_wp2_with fail
    refine (unhide HD2 _ hb4).mono ?_
    rintro e w5 ⟨c2, o2, rfl, i2, cx2, b5⟩
    have hb5 := hb4.trans (b5.mono hb4.size)
    have s5 := b5.size
    have l1 := i1.lt
    have l2 := i2.lt
    have hto : w5.heap[wc.heap.size]? = some (.cells #[.bool false, .slice none 0 0] 37 (0, 0)) := (b5.block _ (by omega)).trans ((b4.block _ (by rw [World.size_alloc]; omega)).trans (al_new _ _))
    have hM := Mul_z wc.heap.size 0 c1 o1 c2 o2 n (x.den : Int) (y.den : Int) w5 (to_at hto) (i1.below b5 (Nat.le_refl _)) i2 (by omega) (by omega) (by omega) (by simpa using (unhide HI).2.1) (by simpa using (unhide HI).2.2.2)
    have HM := hide hM
    have iA5 := ((iA.below (unhide HA2) (Nat.le_refl _)).below b4 (Nat.le_refl _)).below b5 (Nat.le_refl _)
    have lA := iA.lt
    clear hM HD1 HD2 i1 i2 b4 b5 hb4
    go_wp2_with fail
    refine (unhide HM).mono ?_
    rintro e w6 ⟨rfl, i6, p6⟩
    have iA6 := iA5.but (to_at hto).nb p6.but (Nat.le_refl _) (by omega)
    have hb6 : Below w.heap.size w w6 := hb5.trans (p6.but.fresh (by omega) (by omega))
    have hSF := SetFrac_any b gA 0 wc.heap.size 0 (n + n + 1) (x.den * y.den) (x.num * (y.den : Int) + y.num * (x.den : Int)) w6 ((unhide HB).below hb6 (Nat.le_refl _)) iA6 (nat_mul_is i6) (unhide HD0) (by omega) (unhide HN3) (unhide HN4)
    have HSF := hide hSF
    clear hSF HM i6 p6 iA6 iA5 hto hb5
    go_wp2_with fail
    refine (unhide HSF).mono ?_
    rintro e w7 ⟨rfl, r7, b7⟩
    go_wp2
    go_ret
    exact ⟨rfl, r7, (But.of_below hb6).trans (b7.mono hb6.size)⟩
end Go.Proofs.YthplbfjpmnpjmaaDoor
