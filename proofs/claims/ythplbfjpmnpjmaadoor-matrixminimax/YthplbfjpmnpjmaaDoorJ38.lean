/-
  parlourbig's fractions: Mul.
  parlourbig's fractions: Quo.
-/
import Derived.Test.YthplbfjpmnpjmaaDoorJ15
namespace Go.Proofs.YthplbfjpmnpjmaaDoor
open Go.RowKit
attribute [local go_sem ↓] Go.wp_at_zero Go.wp_at_succ

theorem to_at {V : World} {g : Nat} (h : V.heap[g]? = some (.cells #[.bool false, .slice none 0 0] 37 (0, 0))) : isTo V g 0 :=
  ⟨⟨_, _, _, h, rfl⟩, ⟨false, by simp [World.cell?, h]⟩, ⟨.slice none 0 0, by simp [World.cell?, h]⟩⟩
theorem al_new (V : World) (O : Obj) : (V.alloc O).heap[V.heap.size]? = some O := heap_alloc_new V O
theorem al_old {V : World} {O : Obj} {g : Nat} (h : g < V.heap.size) : (V.alloc O).heap[g]? = V.heap[g]? := Below.heap_alloc V O g h
theorem al_new1 (V : World) (O O' : Obj) : ((V.alloc O).alloc O').heap[V.heap.size + 1]? = some O' := by
  have := heap_alloc_new (V.alloc O) O'
  rw [World.size_alloc] at this
  exact this
theorem al_newD (V : World) (O : Obj) : (V.alloc O).drew.heap[V.heap.size]? = some O := heap_alloc_new V O
theorem al_new1D (V : World) (O O' : Obj) : ((V.alloc O).alloc O').drew.heap[V.heap.size + 1]? = some O' := al_new1 V O O'
theorem al_newo (V : World) (O O' : Obj) : ((V.alloc O).alloc O').heap[V.heap.size]? = some O := (al_old (by rw [World.size_alloc]; omega)).trans (al_new V O)
theorem al_newoD (V : World) (O O' : Obj) : ((V.alloc O).alloc O').drew.heap[V.heap.size]? = some O := al_newo V O O'
theorem drew_size (w : World) : w.drew.heap.size = w.heap.size := rfl
theorem undrew' {S : Nat} {w w' : World} (h : Below S w.drew w') : Below S w w' := ⟨h.os, h.tape, h.output, h.size, h.block⟩
theorem NoE.undrew {b : Nat} {q : Rat} {w w' : World} {e : Ending} (h : NoE b q w.drew e w') : NoE b q w e w' := ⟨h.ret, h.is, h.but.drew⟩
theorem mul_lt_pow {x y n : Nat} (hx : x < 4294967296 ^ n) (hy : y < 4294967296 ^ n) : x * y < 4294967296 ^ (n + n) := by
  rw [Nat.pow_add]
  exact Nat.mul_lt_mul'' hx hy

theorem nat_mul_is {w : World} {b o a c : Nat} (h : isI w b o ((a : Int) * (c : Int))) : isI w b o ((a * c : Nat) : Int) := by rw [Int.natCast_mul]; exact h

set_option maxHeartbeats 4000000 in
set_option maxRecDepth 100000 in
theorem Mul_q (b bx cy n : Nat) (x y : Rat) (w : World) (hb : isTR w b) (hx : isR w bx x) (hy : isR w cy y) (hn : n ≤ 10000) (h1 : x.num.natAbs < 4294967296 ^ n) (h2 : x.den < 4294967296 ^ n) (h3 : y.num.natAbs < 4294967296 ^ n) (h4 : y.den < 4294967296 ^ n) :
    Calls Tryd.prog 15 #[.pointer (some ⟨b, 0, none⟩), .pointer (some ⟨bx, 0, none⟩), .pointer (some ⟨cy, 0, none⟩)] w (NoE b (x * y) w) := by
  have hbl := hb.a.nb.lt
  have hxl := hx.lt
  have hyl := hy.lt
  have HB := hide hb
  have HX := hide hx
  have HY := hide hy
  have HN1 : Hid ((x.num * y.num).natAbs < 4294967296 ^ (n + n)) := by show _ < _; rw [Int.natAbs_mul]; exact mul_lt_pow h1 h3
  have HN2 : Hid (x.den * y.den < 4294967296 ^ (n + n)) := mul_lt_pow h2 h4
  have HD0 : Hid (0 < x.den * y.den) := Nat.mul_pos (Nat.pos_of_ne_zero x.den_nz) (Nat.pos_of_ne_zero y.den_nz)
  have HI := hide (And.intro h1 (And.intro h2 (And.intro h3 h4)))
  rw [rat_mul x y]
  have hB : Below w.heap.size w w := Below.refl _ _
  have hi0 := hB.size
  clear hb hx hy h1 h2 h3 h4
  go_enter Tryd.func15, Tryd.ntmps15
  go_wp2
  go_region_held3 (fun _ => True) (trivial)
    (first
      | (go_at_call 25
         (with_reducible refine (Mul_z _ 0 bx 0 cy 0 n x.num y.num _ (to_at (by (first | exact al_new _ _ | exact al_newD _ _ | exact al_newo _ _ _ | exact al_newoD _ _ _ | exact al_new1 _ _ _ | exact al_new1D _ _ _))) ((unhide HX).below (w' := _) (by first | exact hB | exact hB.drew | exact hB.alloc (by first | omega | (rw [World.size_alloc]; first | omega | (rw [World.size_alloc]; omega)) | (rw [drew_size, World.size_alloc]; first | omega | (rw [World.size_alloc]; omega))) _ | exact (hB.alloc (by first | omega | (rw [World.size_alloc]; first | omega | (rw [World.size_alloc]; omega)) | (rw [drew_size, World.size_alloc]; first | omega | (rw [World.size_alloc]; omega))) _).drew | exact (hB.alloc (by first | omega | (rw [World.size_alloc]; first | omega | (rw [World.size_alloc]; omega)) | (rw [drew_size, World.size_alloc]; first | omega | (rw [World.size_alloc]; omega))) _).alloc (by first | omega | (rw [World.size_alloc]; first | omega | (rw [World.size_alloc]; omega)) | (rw [drew_size, World.size_alloc]; first | omega | (rw [World.size_alloc]; omega))) _ | exact ((hB.alloc (by first | omega | (rw [World.size_alloc]; first | omega | (rw [World.size_alloc]; omega)) | (rw [drew_size, World.size_alloc]; first | omega | (rw [World.size_alloc]; omega))) _).alloc (by first | omega | (rw [World.size_alloc]; first | omega | (rw [World.size_alloc]; omega)) | (rw [drew_size, World.size_alloc]; first | omega | (rw [World.size_alloc]; omega))) _).drew) (Nat.le_refl _)).num ((unhide HY).below (w' := _) (by first | exact hB | exact hB.drew | exact hB.alloc (by first | omega | (rw [World.size_alloc]; first | omega | (rw [World.size_alloc]; omega)) | (rw [drew_size, World.size_alloc]; first | omega | (rw [World.size_alloc]; omega))) _ | exact (hB.alloc (by first | omega | (rw [World.size_alloc]; first | omega | (rw [World.size_alloc]; omega)) | (rw [drew_size, World.size_alloc]; first | omega | (rw [World.size_alloc]; omega))) _).drew | exact (hB.alloc (by first | omega | (rw [World.size_alloc]; first | omega | (rw [World.size_alloc]; omega)) | (rw [drew_size, World.size_alloc]; first | omega | (rw [World.size_alloc]; omega))) _).alloc (by first | omega | (rw [World.size_alloc]; first | omega | (rw [World.size_alloc]; omega)) | (rw [drew_size, World.size_alloc]; first | omega | (rw [World.size_alloc]; omega))) _ | exact ((hB.alloc (by first | omega | (rw [World.size_alloc]; first | omega | (rw [World.size_alloc]; omega)) | (rw [drew_size, World.size_alloc]; first | omega | (rw [World.size_alloc]; omega))) _).alloc (by first | omega | (rw [World.size_alloc]; first | omega | (rw [World.size_alloc]; omega)) | (rw [drew_size, World.size_alloc]; first | omega | (rw [World.size_alloc]; omega))) _).drew) (Nat.le_refl _)).num (by omega) (by omega) (by omega) (unhide HI).1 (unhide HI).2.2.1).mono ?_)
         rintro e wM ⟨rfl, iM, pM⟩
         have kM := pM.but.block
         have sM := pM.but.size
         (try rw [drew_size] at sM); (try rw [World.size_alloc] at sM); (try rw [World.size_alloc] at sM)
         replace hB : Below w.heap.size w wM := Below.trans (by first | exact hB | exact hB.drew | exact hB.alloc (by first | omega | (rw [World.size_alloc]; first | omega | (rw [World.size_alloc]; omega)) | (rw [drew_size, World.size_alloc]; first | omega | (rw [World.size_alloc]; omega))) _ | exact (hB.alloc (by first | omega | (rw [World.size_alloc]; first | omega | (rw [World.size_alloc]; omega)) | (rw [drew_size, World.size_alloc]; first | omega | (rw [World.size_alloc]; omega))) _).drew | exact (hB.alloc (by first | omega | (rw [World.size_alloc]; first | omega | (rw [World.size_alloc]; omega)) | (rw [drew_size, World.size_alloc]; first | omega | (rw [World.size_alloc]; omega))) _).alloc (by first | omega | (rw [World.size_alloc]; first | omega | (rw [World.size_alloc]; omega)) | (rw [drew_size, World.size_alloc]; first | omega | (rw [World.size_alloc]; omega))) _ | exact ((hB.alloc (by first | omega | (rw [World.size_alloc]; first | omega | (rw [World.size_alloc]; omega)) | (rw [drew_size, World.size_alloc]; first | omega | (rw [World.size_alloc]; omega))) _).alloc (by first | omega | (rw [World.size_alloc]; first | omega | (rw [World.size_alloc]; omega)) | (rw [drew_size, World.size_alloc]; first | omega | (rw [World.size_alloc]; omega))) _).drew) (pM.but.fresh (by omega) (by first | omega | (rw [World.size_alloc]; first | omega | (rw [World.size_alloc]; omega)) | (rw [drew_size, World.size_alloc]; first | omega | (rw [World.size_alloc]; omega))))
         have lM := iM.lt
         clear pM)
      | (go_at_call 26
         (with_reducible refine (den_any bx x _ ((unhide HX).below (w' := _) (by first | exact hB | exact hB.drew | exact hB.alloc (by first | omega | (rw [World.size_alloc]; first | omega | (rw [World.size_alloc]; omega)) | (rw [drew_size, World.size_alloc]; first | omega | (rw [World.size_alloc]; omega))) _ | exact (hB.alloc (by first | omega | (rw [World.size_alloc]; first | omega | (rw [World.size_alloc]; omega)) | (rw [drew_size, World.size_alloc]; first | omega | (rw [World.size_alloc]; omega))) _).drew | exact (hB.alloc (by first | omega | (rw [World.size_alloc]; first | omega | (rw [World.size_alloc]; omega)) | (rw [drew_size, World.size_alloc]; first | omega | (rw [World.size_alloc]; omega))) _).alloc (by first | omega | (rw [World.size_alloc]; first | omega | (rw [World.size_alloc]; omega)) | (rw [drew_size, World.size_alloc]; first | omega | (rw [World.size_alloc]; omega))) _ | exact ((hB.alloc (by first | omega | (rw [World.size_alloc]; first | omega | (rw [World.size_alloc]; omega)) | (rw [drew_size, World.size_alloc]; first | omega | (rw [World.size_alloc]; omega))) _).alloc (by first | omega | (rw [World.size_alloc]; first | omega | (rw [World.size_alloc]; omega)) | (rw [drew_size, World.size_alloc]; first | omega | (rw [World.size_alloc]; omega))) _).drew) (Nat.le_refl _))).mono ?_)
         rintro e wD ⟨c1, o1, rfl, iD, cD, bD⟩
         have kD := bD.block
         have sD := bD.size
         (try rw [drew_size] at sD); (try rw [World.size_alloc] at sD); (try rw [World.size_alloc] at sD); (try rw [drew_size] at cD); (try rw [World.size_alloc] at cD); (try rw [World.size_alloc] at cD)
         replace hB : Below w.heap.size w wD := Below.trans (by first | exact hB | exact hB.drew | exact hB.alloc (by first | omega | (rw [World.size_alloc]; first | omega | (rw [World.size_alloc]; omega)) | (rw [drew_size, World.size_alloc]; first | omega | (rw [World.size_alloc]; omega))) _ | exact (hB.alloc (by first | omega | (rw [World.size_alloc]; first | omega | (rw [World.size_alloc]; omega)) | (rw [drew_size, World.size_alloc]; first | omega | (rw [World.size_alloc]; omega))) _).drew | exact (hB.alloc (by first | omega | (rw [World.size_alloc]; first | omega | (rw [World.size_alloc]; omega)) | (rw [drew_size, World.size_alloc]; first | omega | (rw [World.size_alloc]; omega))) _).alloc (by first | omega | (rw [World.size_alloc]; first | omega | (rw [World.size_alloc]; omega)) | (rw [drew_size, World.size_alloc]; first | omega | (rw [World.size_alloc]; omega))) _ | exact ((hB.alloc (by first | omega | (rw [World.size_alloc]; first | omega | (rw [World.size_alloc]; omega)) | (rw [drew_size, World.size_alloc]; first | omega | (rw [World.size_alloc]; omega))) _).alloc (by first | omega | (rw [World.size_alloc]; first | omega | (rw [World.size_alloc]; omega)) | (rw [drew_size, World.size_alloc]; first | omega | (rw [World.size_alloc]; omega))) _).drew) (bD.mono (by first | omega | (rw [World.size_alloc]; first | omega | (rw [World.size_alloc]; omega)) | (rw [drew_size, World.size_alloc]; first | omega | (rw [World.size_alloc]; omega))))
         replace iM := iM.below (w' := wD) (by first | exact bD | exact Below.trans ((Below.refl _ wM).alloc (Nat.le_refl _) _) (bD.mono (by first | omega | (rw [World.size_alloc]; first | omega | (rw [World.size_alloc]; omega)) | (rw [drew_size, World.size_alloc]; first | omega | (rw [World.size_alloc]; omega))))) (Nat.le_refl _)
         have lD := iD.lt
         clear bD)
      | (go_at_call 26
         (with_reducible refine (den_any cy y _ ((unhide HY).below (w' := _) (by first | exact hB | exact hB.drew | exact hB.alloc (by first | omega | (rw [World.size_alloc]; first | omega | (rw [World.size_alloc]; omega)) | (rw [drew_size, World.size_alloc]; first | omega | (rw [World.size_alloc]; omega))) _ | exact (hB.alloc (by first | omega | (rw [World.size_alloc]; first | omega | (rw [World.size_alloc]; omega)) | (rw [drew_size, World.size_alloc]; first | omega | (rw [World.size_alloc]; omega))) _).drew | exact (hB.alloc (by first | omega | (rw [World.size_alloc]; first | omega | (rw [World.size_alloc]; omega)) | (rw [drew_size, World.size_alloc]; first | omega | (rw [World.size_alloc]; omega))) _).alloc (by first | omega | (rw [World.size_alloc]; first | omega | (rw [World.size_alloc]; omega)) | (rw [drew_size, World.size_alloc]; first | omega | (rw [World.size_alloc]; omega))) _ | exact ((hB.alloc (by first | omega | (rw [World.size_alloc]; first | omega | (rw [World.size_alloc]; omega)) | (rw [drew_size, World.size_alloc]; first | omega | (rw [World.size_alloc]; omega))) _).alloc (by first | omega | (rw [World.size_alloc]; first | omega | (rw [World.size_alloc]; omega)) | (rw [drew_size, World.size_alloc]; first | omega | (rw [World.size_alloc]; omega))) _).drew) (Nat.le_refl _))).mono ?_)
         rintro e wE ⟨c2, o2, rfl, iE, cE, bE⟩
         have kE := bE.block
         have sE := bE.size
         (try rw [drew_size] at sE); (try rw [World.size_alloc] at sE); (try rw [World.size_alloc] at sE); (try rw [drew_size] at cE); (try rw [World.size_alloc] at cE); (try rw [World.size_alloc] at cE)
         replace hB : Below w.heap.size w wE := Below.trans (by first | exact hB | exact hB.drew | exact hB.alloc (by first | omega | (rw [World.size_alloc]; first | omega | (rw [World.size_alloc]; omega)) | (rw [drew_size, World.size_alloc]; first | omega | (rw [World.size_alloc]; omega))) _ | exact (hB.alloc (by first | omega | (rw [World.size_alloc]; first | omega | (rw [World.size_alloc]; omega)) | (rw [drew_size, World.size_alloc]; first | omega | (rw [World.size_alloc]; omega))) _).drew | exact (hB.alloc (by first | omega | (rw [World.size_alloc]; first | omega | (rw [World.size_alloc]; omega)) | (rw [drew_size, World.size_alloc]; first | omega | (rw [World.size_alloc]; omega))) _).alloc (by first | omega | (rw [World.size_alloc]; first | omega | (rw [World.size_alloc]; omega)) | (rw [drew_size, World.size_alloc]; first | omega | (rw [World.size_alloc]; omega))) _ | exact ((hB.alloc (by first | omega | (rw [World.size_alloc]; first | omega | (rw [World.size_alloc]; omega)) | (rw [drew_size, World.size_alloc]; first | omega | (rw [World.size_alloc]; omega))) _).alloc (by first | omega | (rw [World.size_alloc]; first | omega | (rw [World.size_alloc]; omega)) | (rw [drew_size, World.size_alloc]; first | omega | (rw [World.size_alloc]; omega))) _).drew) (bE.mono (by first | omega | (rw [World.size_alloc]; first | omega | (rw [World.size_alloc]; omega)) | (rw [drew_size, World.size_alloc]; first | omega | (rw [World.size_alloc]; omega))))
         replace iM := iM.below (w' := wE) (by first | exact bE | exact Below.trans ((Below.refl _ wD).alloc (Nat.le_refl _) _) (bE.mono (by first | omega | (rw [World.size_alloc]; first | omega | (rw [World.size_alloc]; omega)) | (rw [drew_size, World.size_alloc]; first | omega | (rw [World.size_alloc]; omega))))) (Nat.le_refl _)
         replace iD := iD.below (w' := wE) (by first | exact bE | exact Below.trans ((Below.refl _ wD).alloc (Nat.le_refl _) _) (bE.mono (by first | omega | (rw [World.size_alloc]; first | omega | (rw [World.size_alloc]; omega)) | (rw [drew_size, World.size_alloc]; first | omega | (rw [World.size_alloc]; omega))))) (Nat.le_refl _)
         have lE := iE.lt
         clear bE)
      | (go_at_call 25
         (with_reducible refine (Mul_z _ 0 c1 o1 c2 o2 n (x.den : Int) (y.den : Int) _ (to_at (by first | (first | exact al_new _ _ | exact al_newD _ _ | exact al_newo _ _ _ | exact al_newoD _ _ _ | exact al_new1 _ _ _ | exact al_new1D _ _ _) | (rw [kE _ (by first | omega | (rw [World.size_alloc]; first | omega | (rw [World.size_alloc]; omega)) | (rw [drew_size, World.size_alloc]; first | omega | (rw [World.size_alloc]; omega)))]; first | (first | exact al_new _ _ | exact al_newD _ _ | exact al_newo _ _ _ | exact al_newoD _ _ _ | exact al_new1 _ _ _ | exact al_new1D _ _ _) | (rw [kD _ (by first | omega | (rw [World.size_alloc]; first | omega | (rw [World.size_alloc]; omega)) | (rw [drew_size, World.size_alloc]; first | omega | (rw [World.size_alloc]; omega)))]; first | (first | exact al_new _ _ | exact al_newD _ _ | exact al_newo _ _ _ | exact al_newoD _ _ _ | exact al_new1 _ _ _ | exact al_new1D _ _ _) | (rw [kM _ (by first | omega | (rw [World.size_alloc]; first | omega | (rw [World.size_alloc]; omega)) | (rw [drew_size, World.size_alloc]; first | omega | (rw [World.size_alloc]; omega))) (by omega)]; (first | exact al_new _ _ | exact al_newD _ _ | exact al_newo _ _ _ | exact al_newoD _ _ _ | exact al_new1 _ _ _ | exact al_new1D _ _ _)))))) (by first | exact iD | exact iD.below ((Below.refl _ _).alloc (Nat.le_refl _) _) (Nat.le_refl _)) (by first | exact iE | exact iE.below ((Below.refl _ _).alloc (Nat.le_refl _) _) (Nat.le_refl _)) (by omega) (by omega) (by omega) (by simpa using (unhide HI).2.1) (by simpa using (unhide HI).2.2.2)).mono ?_)
         rintro e wN ⟨rfl, iN, pN⟩
         have sN := pN.but.size
         (try rw [drew_size] at sN); (try rw [World.size_alloc] at sN); (try rw [World.size_alloc] at sN)
         replace hB : Below w.heap.size w wN := Below.trans (by first | exact hB | exact hB.drew | exact hB.alloc (by first | omega | (rw [World.size_alloc]; first | omega | (rw [World.size_alloc]; omega)) | (rw [drew_size, World.size_alloc]; first | omega | (rw [World.size_alloc]; omega))) _ | exact (hB.alloc (by first | omega | (rw [World.size_alloc]; first | omega | (rw [World.size_alloc]; omega)) | (rw [drew_size, World.size_alloc]; first | omega | (rw [World.size_alloc]; omega))) _).drew | exact (hB.alloc (by first | omega | (rw [World.size_alloc]; first | omega | (rw [World.size_alloc]; omega)) | (rw [drew_size, World.size_alloc]; first | omega | (rw [World.size_alloc]; omega))) _).alloc (by first | omega | (rw [World.size_alloc]; first | omega | (rw [World.size_alloc]; omega)) | (rw [drew_size, World.size_alloc]; first | omega | (rw [World.size_alloc]; omega))) _ | exact ((hB.alloc (by first | omega | (rw [World.size_alloc]; first | omega | (rw [World.size_alloc]; omega)) | (rw [drew_size, World.size_alloc]; first | omega | (rw [World.size_alloc]; omega))) _).alloc (by first | omega | (rw [World.size_alloc]; first | omega | (rw [World.size_alloc]; omega)) | (rw [drew_size, World.size_alloc]; first | omega | (rw [World.size_alloc]; omega))) _).drew) (pN.but.fresh (by omega) (by first | omega | (rw [World.size_alloc]; first | omega | (rw [World.size_alloc]; omega)) | (rw [drew_size, World.size_alloc]; first | omega | (rw [World.size_alloc]; omega))))
         replace iM := isI.but (by first | exact iM | exact iM.below ((Below.refl _ _).alloc (Nat.le_refl _) _) (Nat.le_refl _)) (to_at (by first | (first | exact al_new _ _ | exact al_newD _ _ | exact al_newo _ _ _ | exact al_newoD _ _ _ | exact al_new1 _ _ _ | exact al_new1D _ _ _) | (rw [kE _ (by first | omega | (rw [World.size_alloc]; first | omega | (rw [World.size_alloc]; omega)) | (rw [drew_size, World.size_alloc]; first | omega | (rw [World.size_alloc]; omega)))]; first | (first | exact al_new _ _ | exact al_newD _ _ | exact al_newo _ _ _ | exact al_newoD _ _ _ | exact al_new1 _ _ _ | exact al_new1D _ _ _) | (rw [kD _ (by first | omega | (rw [World.size_alloc]; first | omega | (rw [World.size_alloc]; omega)) | (rw [drew_size, World.size_alloc]; first | omega | (rw [World.size_alloc]; omega)))]; first | (first | exact al_new _ _ | exact al_newD _ _ | exact al_newo _ _ _ | exact al_newoD _ _ _ | exact al_new1 _ _ _ | exact al_new1D _ _ _) | (rw [kM _ (by first | omega | (rw [World.size_alloc]; first | omega | (rw [World.size_alloc]; omega)) | (rw [drew_size, World.size_alloc]; first | omega | (rw [World.size_alloc]; omega))) (by omega)]; (first | exact al_new _ _ | exact al_newD _ _ | exact al_newo _ _ _ | exact al_newoD _ _ _ | exact al_new1 _ _ _ | exact al_new1D _ _ _)))))).nb pN.but (Nat.le_refl _) (by omega)
         replace iN := nat_mul_is iN
         clear pN)
      | (go_at_call 27
         (with_reducible refine (SetFrac_any b _ 0 _ 0 (n + n) (x.den * y.den) (x.num * y.num) _ ((unhide HB).below hB (Nat.le_refl _)) iM iN (unhide HD0) (by omega) (unhide HN1) (unhide HN2)).mono ?_)
         rintro e wS ⟨rfl, rS, bS⟩))
  all_goals (go_wp2; go_ret; exact ⟨rfl, rS, (But.of_below hB).trans (bS.mono hB.size)⟩)
end Go.Proofs.YthplbfjpmnpjmaaDoor

namespace Go.Proofs.YthplbfjpmnpjmaaDoor
open Go.RowKit
attribute [local go_sem ↓] Go.wp_at_zero Go.wp_at_succ
theorem al_at {V : World} {O : Obj} {g : Nat} (h : g = V.heap.size) : (V.alloc O).heap[g]? = some O := by rw [h]; exact al_new V O
theorem al_dr (V : World) (g : Nat) : V.drew.heap[g]? = V.heap[g]? := rfl
theorem nat_mul_to {w : World} {b o a : Nat} {c : Int} (hc : 0 < c) (h : isI w b o ((a : Int) * c)) : isI w b o ((a * c.toNat : Nat) : Int) := by
  rw [Int.natCast_mul, Int.toNat_of_nonneg (by omega)]
  exact h

end Go.Proofs.YthplbfjpmnpjmaaDoor
