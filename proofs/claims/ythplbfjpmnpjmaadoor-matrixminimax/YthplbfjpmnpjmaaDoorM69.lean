/-
  what level and holds reckon, in whole numbers; some part of a matrix holds.
-/
import Derived.Test.YthplbfjpmnpjmaaDoorJ25
namespace Go.Proofs.YthplbfjpmnpjmaaDoor.Lp
/-- Without one. -/
def wo (s i : Nat) : Nat := if s.testBit i then s - 2 ^ i else s
/-- How many lie ahead of it. -/
def pl (s i : Nat) : Nat := ((List.range 6).filter fun k => s.testBit k && decide (k < i)).length
/-- The first one. -/
def fs (s : Nat) : Nat := (mem s).headD 6
def sz (s : Nat) : Nat := (mem s).length
set_option maxRecDepth 100000 in
theorem wo_mem : ∀ s, s < 64 → ∀ i, i < 6 → s.testBit i = true → mem (wo s i) = (mem s).eraseIdx (pl s i) ∧ (mem s).getD (pl s i) 0 = i ∧ pl s i < (mem s).length ∧ wo s i < s ∧ sz (wo s i) + 1 = sz s := by decide +kernel
set_option maxRecDepth 100000 in
theorem wo_lt : ∀ s, s < 64 → ∀ i, i < 6 → wo s i < 64 := by decide +kernel
set_option maxRecDepth 100000 in
theorem fs_mem : ∀ s, s < 64 → 1 ≤ s → fs s < 6 ∧ s.testBit (fs s) = true ∧ mem s = fs s :: mem (wo s (fs s)) ∧ pl s (fs s) = 0 := by decide +kernel
set_option maxRecDepth 100000 in
theorem pl_at : ∀ s, s < 64 → ∀ l, l < (mem s).length → pl s ((mem s).getD l 0) = l ∧ s.testBit ((mem s).getD l 0) = true ∧ (mem s).getD l 0 < 6 := by decide +kernel
set_option maxRecDepth 100000 in
theorem sz_zero : ∀ s, s < 64 → sz s = 0 → s = 0 := by decide +kernel
set_option maxRecDepth 100000 in
theorem mem_range : ∀ n, n ≤ 6 → ∀ c, c < 2 ^ n → mem c = (List.range n).filter fun i => c.testBit i := by decide +kernel
/-- A sum of whole numbers over a list. -/
def lI (L : List Nat) (f : Nat → Int) : Int := L.foldr (fun x s => f x + s) 0
theorem lI_cons (x : Nat) (L : List Nat) (f : Nat → Int) : lI (x :: L) f = f x + lI L f := rfl
theorem lI_app (f : Nat → Int) : ∀ (L M : List Nat), lI (L ++ M) f = lI L f + lI M f
  | [], M => by simp [lI]
  | x :: L, M => by rw [List.cons_append, lI_cons, lI_app f L M, lI_cons]; omega
theorem lI_snoc (f : Nat → Int) (L : List Nat) (x : Nat) : lI (L ++ [x]) f = lI L f + f x := by rw [lI_app]; simp [lI]
theorem lI_range (f : Nat → Int) (n : Nat) : lI (List.range (n + 1)) f = lI (List.range n) f + f n := by rw [List.range_succ, lI_snoc]
theorem lI_congr {f g : Nat → Int} : ∀ {L : List Nat}, (∀ x ∈ L, f x = g x) → lI L f = lI L g
  | [], _ => rfl
  | x :: L, h => by rw [lI_cons, lI_cons, h x (by simp), lI_congr (L := L) fun y hy => h y (by simp [hy])]
theorem lI_neg (f : Nat → Int) : ∀ (L : List Nat), lI L (fun x => - f x) = - lI L f
  | [] => rfl
  | x :: L => by rw [lI_cons, lI_cons, lI_neg f L]; omega
theorem lI_filter (p : Nat → Bool) (f : Nat → Int) : ∀ (L : List Nat), (∀ x ∈ L, p x = false → f x = 0) → lI (L.filter p) f = lI L f
  | [], _ => rfl
  | x :: L, h => by
    have ih := lI_filter p f L fun y hy => h y (by simp [hy])
    rw [List.filter_cons]
    by_cases hp : p x = true
    · rw [if_pos hp, lI_cons, lI_cons, ih]
    · rw [if_neg hp, lI_cons, ih, h x (by simp) (by simpa using hp)]; omega
theorem lI_bound {f : Nat → Int} {B : Int} : ∀ {L : List Nat}, (∀ x ∈ L, -B ≤ f x ∧ f x ≤ B) → -(B * L.length) ≤ lI L f ∧ lI L f ≤ B * L.length
  | [], _ => by simp [lI]
  | x :: L, h => by
    have h1 := h x (by simp)
    have h2 := lI_bound (L := L) fun y hy => h y (by simp [hy])
    rw [lI_cons]
    have e : B * ((x :: L).length : Int) = B * (L.length : Int) + B := by rw [List.length_cons, Int.natCast_add, Int.mul_add]; simp
    rw [e]
    omega
theorem lI_cast (f : Nat → Int) : ∀ (L : List Nat), ((lI L f : Int) : Rat) = ls L (fun x => (f x : Rat))
  | [] => rfl
  | x :: L => by rw [lI_cons, ls_cons, Rat.intCast_add, lI_cast f L]
theorem ls_sm (g : Nat → Rat) : ∀ (L : List Nat), ls L g = sm L.length (fun k => g (L.getD k 0))
  | [] => rfl
  | x :: L => by
    rw [ls_cons, List.length_cons, sm_first, ls_sm g L]
    rfl
/-- A cofactor. -/
def cf (A : Nat → Nat → Int) (r c i j : Nat) : Int := if (pl r i + pl c j) % 2 = 1 then - mnI A (mem (wo r i)) (mem (wo c j)) else mnI A (mem (wo r i)) (mem (wo c j))
abbrev qA (A : Nat → Nat → Int) : Nat → Nat → Rat := fun i j => (A i j : Rat)
theorem cf_cast (A : Nat → Nat → Int) {r c i j : Nat} (hr : r < 64) (hc : c < 64) (hi : i < 6) (hj : j < 6) (bi : r.testBit i = true) (bj : c.testBit j = true) : ((cf A r c i j : Int) : Rat) = cofL (qA A) (mem r) (mem c) (pl r i) (pl c j) := by
  obtain ⟨e1, -⟩ := wo_mem r hr i hi bi
  obtain ⟨e2, -⟩ := wo_mem c hc j hj bj
  unfold cf cofL sgn
  rw [← e1, ← e2]
  by_cases h : (pl r i + pl c j) % 2 = 1
  · rw [if_pos h, if_neg (by omega), Rat.intCast_neg, mnI_cast]; grind
  · rw [if_neg h, if_pos (by omega), mnI_cast]; grind
theorem cf_row (A : Nat → Nat → Int) {r c i : Nat} (hr : r < 64) (hc : c < 64) (hi : i < 6) (bi : r.testBit i = true) : ((lI (mem c) (cf A r c i) : Int) : Rat) = sm (mem c).length (fun l => cofL (qA A) (mem r) (mem c) (pl r i) l) := by
  rw [lI_cast, ls_sm]
  refine sm_congr fun l hl => ?_
  obtain ⟨h1, h2, h3⟩ := pl_at c hc l hl
  rw [cf_cast A hr hc hi h3 bi h2, h1]
theorem cf_col (A : Nat → Nat → Int) {r c j : Nat} (hr : r < 64) (hc : c < 64) (hj : j < 6) (bj : c.testBit j = true) : ((lI (mem r) (fun i => cf A r c i j) : Int) : Rat) = sm (mem r).length (fun k => cofL (qA A) (mem r) (mem c) k (pl c j)) := by
  rw [lI_cast, ls_sm]
  refine sm_congr fun k hk => ?_
  obtain ⟨h1, h2, h3⟩ := pl_at r hr k hk
  rw [cf_cast A hr hc h3 hj h2 bj, h1]
theorem row_cast (A : Nat → Nat → Int) {r c i : Nat} (hr : r < 64) (hc : c < 64) (hi : i < 6) (bi : r.testBit i = true) : ((lI (mem c) (cf A r c i) : Int) : Rat) = rw_ (qA A) (mem r) (mem c) i := by
  obtain ⟨-, e2, e3, -⟩ := wo_mem r hr i hi bi
  rw [cf_row A hr hc hi bi, ← rw_cofL (qA A) (mem r) (mem c) (mem_nodup r) _ e3, e2]
theorem col_cast (A : Nat → Nat → Int) {r c j : Nat} (hr : r < 64) (hc : c < 64) (hj : j < 6) (bj : c.testBit j = true) : ((lI (mem r) (fun i => cf A r c i j) : Int) : Rat) = rw_ (fun c r => qA A r c) (mem c) (mem r) j := by
  obtain ⟨-, e2, e3, -⟩ := wo_mem c hc j hj bj
  rw [cf_col A hr hc hj bj, ← rwT_cofL (qA A) (mem r) (mem c) (mem_nodup c) _ e3, e2]
theorem tot_cast (A : Nat → Nat → Int) {r c : Nat} (hr : r < 64) (hc : c < 64) : ((lI (mem r) (fun i => lI (mem c) (cf A r c i)) : Int) : Rat) = tot (qA A) (mem r) (mem c) := by
  rw [lI_cast, ls_sm, tot_cofL]
  refine sm_congr fun k hk => ?_
  obtain ⟨h1, h2, h3⟩ := pl_at r hr k hk
  rw [cf_row A hr hc h3 h2, h1]
/-- A determinant by its first row. -/
theorem mn_sum (A : Nat → Nat → Int) {r c : Nat} (hr : r < 64) (h1 : 1 ≤ r) (hc : c < 64) : mnI A (mem r) (mem c) = lI (mem c) (fun j => A (fs r) j * cf A r c (fs r) j) := by
  obtain ⟨f1, f2, f3, f4⟩ := fs_mem r hr h1
  apply Rat.intCast_inj.1
  rw [mnI_cast, lI_cast, ls_sm]
  have e := mn_cofL (qA A) (fs r) (mem (wo r (fs r))) (mem c)
  rw [← f3] at e
  rw [show mn (fun i j => ((A i j : Int) : Rat)) (mem r) (mem c) = mn (qA A) (mem r) (mem c) from rfl, e]
  refine sm_congr fun l hl => ?_
  obtain ⟨h1, h2, h3⟩ := pl_at c hc l hl
  rw [Rat.intCast_mul, cf_cast A hr hc f1 h3 f2 h2, h1, f4]
/-- A solution: its value, total, rows, columns. -/
structure So where
  v : Int
  t : Int
  x : Nat → Int
  y : Nat → Int
def So.neg (s : So) : So := ⟨-s.v, -s.t, fun i => - s.x i, fun j => - s.y j⟩
def lev0 (A : Nat → Nat → Int) (r c : Nat) : So := ⟨mnI A (mem r) (mem c), lI (mem r) (fun i => lI (mem c) (cf A r c i)), fun i => if r.testBit i then lI (mem c) (cf A r c i) else 0, fun j => if c.testBit j then lI (mem r) (fun i => cf A r c i j) else 0⟩
def lev (A : Nat → Nat → Int) (r c : Nat) : So := if (lev0 A r c).t < 0 then (lev0 A r c).neg else lev0 A r c
/-- What holds looks at. -/
def hol (m n : Nat) (A : Nat → Nat → Int) (s : So) : Prop := s.t ≠ 0 ∧ (∀ i, i < 6 → 0 ≤ s.x i) ∧ (∀ j, j < 6 → 0 ≤ s.y j) ∧ (∀ i, i < m → lI (List.range n) (fun j => A i j * s.y j) ≤ s.v) ∧ ∀ j, j < n → s.v ≤ lI (List.range m) (fun i => A i j * s.x i)
theorem lI_part {n c : Nat} (hn : n ≤ 6) (hc : c < 2 ^ n) (f : Nat → Int) (h : ∀ x, c.testBit x = false → f x = 0) : lI (List.range n) f = lI (mem c) f := by
  rw [mem_range n hn c hc]
  exact (lI_filter _ _ _ fun x _ hp => h x hp).symm
/-- Some part holds. -/
theorem fitsI (m n : Nat) (hm : 1 ≤ m) (hm6 : m ≤ 6) (hn : 1 ≤ n) (hn6 : n ≤ 6) (A : Nat → Nat → Int) : ∃ r c, 1 ≤ r ∧ r < 2 ^ m ∧ 1 ≤ c ∧ c < 2 ^ n ∧ sz r = sz c ∧ hol m n A (lev A r c) := by
  obtain ⟨r, c, s, h1, h2, h3, h4, h5, hL⟩ := fits m n hm hm6 hn hn6 (qA A)
  refine ⟨r, c, h1, h2, h3, h4, h5, ?_⟩
  have hr : r < 64 := Nat.lt_of_lt_of_le h2 (Nat.pow_le_pow_right (n := 2) (by omega) hm6)
  have hc : c < 64 := Nat.lt_of_lt_of_le h4 (Nat.pow_le_pow_right (n := 2) (by omega) hn6)
  have et : (((lev0 A r c).t : Int) : Rat) = tot (qA A) (mem r) (mem c) := tot_cast A hr hc
  have ev : (((lev0 A r c).v : Int) : Rat) = mn (qA A) (mem r) (mem c) := mnI_cast A _ _
  have ex : ∀ i, i ∈ mem r → (((lev0 A r c).x i : Int) : Rat) = rw_ (qA A) (mem r) (mem c) i := fun i hi => by
    obtain ⟨a, b⟩ := (mem_lt r i).1 hi
    simp only [lev0, b, if_true]
    exact row_cast A hr hc a b
  have ey : ∀ j, j ∈ mem c → (((lev0 A r c).y j : Int) : Rat) = rw_ (fun c r => qA A r c) (mem c) (mem r) j := fun j hj => by
    obtain ⟨a, b⟩ := (mem_lt c j).1 hj
    simp only [lev0, b, if_true]
    exact col_cast A hr hc a b
  have nx : ∀ i, r.testBit i = false → (lev0 A r c).x i = 0 := fun i hi => by simp [lev0, hi]
  have ny : ∀ j, c.testBit j = false → (lev0 A r c).y j = 0 := fun j hj => by simp [lev0, hj]
  have sl : ∀ i, ((lI (List.range n) (fun j => A i j * (lev0 A r c).y j) : Int) : Rat) = ls (mem c) (fun j => qA A i j * rw_ (fun c r => qA A r c) (mem c) (mem r) j) := fun i => by
    rw [lI_part hn6 h4 _ (fun x hx => by rw [ny x hx, Int.mul_zero]), lI_cast]
    exact ls_congr fun j hj => by rw [Rat.intCast_mul, ey j hj]
  have sg : ∀ j, ((lI (List.range m) (fun i => A i j * (lev0 A r c).x i) : Int) : Rat) = ls (mem r) (fun i => qA A i j * rw_ (qA A) (mem r) (mem c) i) := fun j => by
    rw [lI_part hm6 h2 _ (fun x hx => by rw [nx x hx, Int.mul_zero]), lI_cast]
    exact ls_congr fun i hi => by rw [Rat.intCast_mul, ex i hi]
  obtain ⟨hs, hrow, hcol, hloss, hgain⟩ := hL
  rcases hs with ⟨rfl, ht⟩ | ⟨rfl, ht⟩
  · have t0 : 0 < (lev0 A r c).t := by
      apply Rat.intCast_lt_intCast.1; rw [et]; exact ht
    have el : lev A r c = lev0 A r c := by unfold lev; rw [if_neg (by omega)]
    rw [el]
    refine ⟨by omega, fun i _ => ?_, fun j _ => ?_, fun i hi => ?_, fun j hj => ?_⟩
    · by_cases hb : r.testBit i = true
      · by_cases hi6 : i < 6
        · have hi := (mem_lt r i).2 ⟨hi6, hb⟩
          apply Rat.intCast_le_intCast.1
          rw [ex i hi]
          have := hrow i hi
          grind
        · omega
      · rw [nx i (by simpa using hb)]; exact Int.le_refl _
    · by_cases hb : c.testBit j = true
      · by_cases hi6 : j < 6
        · have hi := (mem_lt c j).2 ⟨hi6, hb⟩
          apply Rat.intCast_le_intCast.1
          rw [ey j hi]
          have := hcol j hi
          grind
        · omega
      · rw [ny j (by simpa using hb)]; exact Int.le_refl _
    · apply Rat.intCast_le_intCast.1
      rw [sl i, ev]
      have := hloss i hi
      rw [show (1 : Rat) * mn (qA A) (mem r) (mem c) = mn (qA A) (mem r) (mem c) by grind] at this
      refine Rat.le_trans ?_ this
      rw [ls_congr (g := fun j => qA A i j * (1 * rw_ (fun c r => qA A r c) (mem c) (mem r) j)) fun j _ => by grind]
      exact Rat.le_refl
    · apply Rat.intCast_le_intCast.1
      rw [sg j, ev]
      have := hgain j hj
      rw [show (1 : Rat) * mn (qA A) (mem r) (mem c) = mn (qA A) (mem r) (mem c) by grind] at this
      refine Rat.le_trans this ?_
      rw [ls_congr (f := fun i => qA A i j * (1 * rw_ (qA A) (mem r) (mem c) i)) (g := fun i => qA A i j * rw_ (qA A) (mem r) (mem c) i) fun j _ => by grind]
      exact Rat.le_refl
  · have t0 : (lev0 A r c).t < 0 := by
      apply Rat.intCast_lt_intCast.1; rw [et]; exact ht
    have el : lev A r c = (lev0 A r c).neg := by unfold lev; rw [if_pos t0]
    rw [el]
    refine ⟨by simp only [So.neg]; omega, fun i _ => ?_, fun j _ => ?_, fun i hi => ?_, fun j hj => ?_⟩ <;> simp only [So.neg]
    · by_cases hb : r.testBit i = true
      · by_cases hi6 : i < 6
        · have hi := (mem_lt r i).2 ⟨hi6, hb⟩
          have : (lev0 A r c).x i ≤ 0 := by
            apply Rat.intCast_le_intCast.1
            rw [ex i hi]
            have := hrow i hi
            grind
          omega
        · omega
      · rw [nx i (by simpa using hb)]; omega
    · by_cases hb : c.testBit j = true
      · by_cases hi6 : j < 6
        · have hi := (mem_lt c j).2 ⟨hi6, hb⟩
          have : (lev0 A r c).y j ≤ 0 := by
            apply Rat.intCast_le_intCast.1
            rw [ey j hi]
            have := hcol j hi
            grind
          omega
        · omega
      · rw [ny j (by simpa using hb)]; omega
    · rw [lI_congr (g := fun j => - (A i j * (lev0 A r c).y j)) fun j _ => by rw [Int.mul_neg], lI_neg]
      have : (lev0 A r c).v ≤ lI (List.range n) (fun j => A i j * (lev0 A r c).y j) := by
        apply Rat.intCast_le_intCast.1
        rw [sl i, ev]
        have := hloss i hi
        rw [ls_congr (g := fun j => (-1) * (qA A i j * rw_ (fun c r => qA A r c) (mem c) (mem r) j)) fun j _ => by grind, ls_mul] at this
        grind
      omega
    · rw [lI_congr (g := fun i => - (A i j * (lev0 A r c).x i)) fun i _ => by rw [Int.mul_neg], lI_neg]
      have : lI (List.range m) (fun i => A i j * (lev0 A r c).x i) ≤ (lev0 A r c).v := by
        apply Rat.intCast_le_intCast.1
        rw [sg j, ev]
        have := hgain j hj
        rw [ls_congr (g := fun i => (-1) * (qA A i j * rw_ (qA A) (mem r) (mem c) i)) fun j _ => by grind, ls_mul] at this
        grind
      omega
end Go.Proofs.YthplbfjpmnpjmaaDoor.Lp
