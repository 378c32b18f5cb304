/-
  package tourney, walked: order, and slices.SortFunc at ranks by it.
-/
import Derived.Test.YtdpjkfmhmjgokaaY1
import Derived.Test.YtdpjkfmhmjgokaaShelf
import Derived.Test.YtdpjkfmhmjgokaaShelfS
import Derived.Sort.Grow
import Derived.Sort.OwnSorted
import Derived.Shelf.SlSortCmp.WholeK
import Derived.Maps.AppendAt
namespace Go.Proofs.Ytdpjkfmhmjgokaa
open Go.RowKit Go.Sort Go.Shelf
attribute [local go_sem ↓] Go.wp_at_zero Go.wp_at_succ

section
variable {α : Type} {f : α → List Value} {c : Nat}
theorem fm_len (hc : ∀ x, (f x).length = c) : ∀ l : List α, (l.flatMap f).length = l.length * c
  | [] => by simp
  | x :: l => by
    rw [List.flatMap_cons, List.length_append, hc, fm_len hc l, List.length_cons, Nat.add_mul]
    omega
theorem fm_at (hc : ∀ x, (f x).length = c) : ∀ (l : List α) (i j : Nat) (x : α), l[i]? = some x → j < c → (l.flatMap f)[i * c + j]? = (f x)[j]?
  | [], _, _, _, h, _ => by simp at h
  | a :: l, 0, j, x, h, hj => by
    simp only [List.getElem?_cons_zero, Option.some.injEq] at h
    subst h
    rw [List.flatMap_cons, Nat.zero_mul, Nat.zero_add, List.getElem?_append_left (by rw [hc]; exact hj)]
  | a :: l, i + 1, j, x, h, hj => by
    have ih := fm_at hc l i j x (by simpa using h) hj
    have e : (i + 1) * c + j = c + (i * c + j) := by rw [Nat.add_mul]; omega
    rw [List.flatMap_cons, List.getElem?_append_right (by rw [hc, e]; omega), ← ih, hc, e]
    congr 1
    omega
theorem fm_set (hc : ∀ x, (f x).length = c) : ∀ (l : List α) (i j : Nat) (x x' : α) (v : Value), l[i]? = some x → j < c → f x' = (f x).set j v → (l.flatMap f).set (i * c + j) v = (l.set i x').flatMap f
  | [], _, _, _, _, _, h, _, _ => by simp at h
  | a :: l, 0, j, x, x', v, h, hj, hx => by
    simp only [List.getElem?_cons_zero, Option.some.injEq] at h
    subst h
    rw [List.set_cons_zero, List.flatMap_cons, List.flatMap_cons, Nat.zero_mul, Nat.zero_add, List.set_append_left _ _ (by rw [hc]; exact hj), hx]
  | a :: l, i + 1, j, x, x', v, h, hj, hx => by
    have ih := fm_set hc l i j x x' v (by simpa using h) hj hx
    have e : (i + 1) * c + j = c + (i * c + j) := by rw [Nat.add_mul]; omega
    rw [List.set_cons_succ, List.flatMap_cons, List.flatMap_cons, List.set_append_right _ _ (by rw [hc, e]; omega), ← ih, hc, e]
    congr 2
    omega
end

theorem row_off {w w' : World} {base b : Nat} {e : TypeId} {size n : Nat} {v : Value} {xs : List Value} (h : w.ownsRow base e size v n xs) (hg : w.grownBy w' (some b)) (hne : v.ownBlock ≠ some b) : w'.ownsRow base e size v n xs := by
  obtain ⟨h1, h2⟩ := h
  refine ⟨h1, ?_⟩
  rcases h2 with h2 | ⟨g, cap, cur, e1, hb, hg', r⟩
  · exact .inl h2
  · refine .inr ⟨g, cap, cur, e1, hb, ?_, r⟩
    subst e1
    exact (hg.block g (Array.getElem?_eq_some_iff.1 hg').1 (fun e2 => hne (by simp only [Value.ownBlock]; exact e2))).trans hg'
theorem row_block {w : World} {base : Nat} {e : TypeId} {size n : Nat} {v : Value} {xs : List Value} (h : w.ownsRow base e size v n xs) {g : Nat} (hg : v.ownBlock = some g) : base ≤ g ∧ g < w.heap.size := by
  rcases h.2 with ⟨e1, _⟩ | ⟨g', cap, cur, e1, hb, hg', _⟩
  · subst e1; simp [Value.ownBlock] at hg
  · subst e1
    simp only [Value.ownBlock, Option.some.injEq] at hg
    subst hg
    exact ⟨hb, (Array.getElem?_eq_some_iff.1 hg').1⟩
/-- The first that is not 0. -/
def orI : List Int → Int
  | [] => 0
  | a :: l => if a = 0 then orI l else a

/-- All as it was, but for new blocks and what was drawn. -/
structure Gr (w w' : World) : Prop where
  below : Below w.heap.size w w'
  drawn : w.drawn ≤ w'.drawn

theorem Gr.refl (w : World) : Gr w w := ⟨Below.refl _ _, Nat.le_refl _⟩
theorem Gr.alloc {w w' : World} (h : Gr w w') (o : Obj) : Gr w (w'.alloc o) := ⟨h.below.alloc h.below.size _, h.drawn⟩
theorem Gr.drew {w w' : World} (h : Gr w w') : Gr w w'.drew := ⟨⟨h.below.os, h.below.tape, h.below.output, h.below.size, h.below.block⟩, Nat.le_succ_of_le h.drawn⟩
theorem Gr.grow {w w' : World} (h : Gr w w') : ∃ q os', w' = Go.Sort.grow (w.drewN q) os' := by
  obtain ⟨⟨h1, h2, h3, h4, h5⟩, h6⟩ := h
  refine ⟨w'.drawn - w.drawn, w'.heap.extract w.heap.size w'.heap.size, ?_⟩
  cases w with | mk a1 a2 a3 a4 a5 =>
  cases w' with | mk b1 b2 b3 b4 b5 =>
  simp only [Go.Sort.grow, World.drewN] at *
  subst h1; subst h2; subst h3
  have e : a3 + (b3 - a3) = b3 := by omega
  rw [e]
  congr 1
  apply Array.ext_getElem?
  intro i
  by_cases hi : i < a1.size
  · rw [h5 i hi, Array.getElem?_append_left hi]
  · rw [Array.getElem?_append_right (by omega), Array.getElem?_extract]
    by_cases hj : i < b1.size
    · rw [if_pos (by omega)]; congr 1; omega
    · rw [if_neg (by omega), Array.getElem?_eq_none (by omega)]

theorem or3a {a b c : Int} (h : (a != 0) = true) : a = orI [a, b, c] := by simp only [bne_iff_ne, ne_eq] at h; simp [orI, h]
theorem or3b {a b c : Int} (h : (a != 0) = false) (h' : (b != 0) = true) : b = orI [a, b, c] := by simp only [bne_iff_ne, ne_eq, bne_eq_false_iff_eq] at h h'; simp [orI, h, h']
theorem or3c {a b c : Int} (h : (a != 0) = false) (h' : (b != 0) = false) : c = orI [a, b, c] := by
  simp only [bne_eq_false_iff_eq] at h h'
  subst h; subst h'
  by_cases hd : c = 0 <;> simp [orI, hd]

set_option maxHeartbeats 1000000 in
theorem or3_any (a b c : Int) (g cap : Nat) (w : World) (h0 : w.cell? ⟨g, 0, none⟩ = some (.int .i64 a)) (h1 : w.cell? ⟨g, 1, none⟩ = some (.int .i64 b)) (h2 : w.cell? ⟨g, 2, none⟩ = some (.int .i64 c)) :
    Calls Try.prog 41 #[.slice (some ⟨g, 0, none⟩) 3 cap] w fun e w' => e = .returned (.int .i64 (orI [a, b, c])) ∧ w' = w := by
  go_enter Try.func41, Try.ntmps41
  go_wp2
  refine wp_loop_rounds 4 ?_
  rw [rounds_succ]
  go_wp2
  · go_ret
    exact ⟨ret_int (or3a (by assumption)), rfl⟩
  · rw [rounds_succ]
    go_wp2
    · go_ret
      exact ⟨ret_int (or3b (by assumption) (by assumption)), rfl⟩
    · rw [rounds_succ]
      go_wp2
      · go_ret
        exact ⟨ret_int (or3c (by assumption) (by assumption)), rfl⟩
      · have hc : (c != 0) = false := by assumption
        rw [rounds_succ]
        go_wp2
        go_ret
        exact ⟨ret_int (by rw [← or3c (a := a) (b := b) (by assumption) (by assumption)]; simp only [bne_eq_false_iff_eq] at hc; exact hc.symm), rfl⟩

/-- A rank's three cells. -/
def encR (x : Rk) : List Value := [.int .i64 x.p, .int .i64 x.q, .int .i64 x.o]
def rkV (x : Rk) : Value := .agg #[.int .i64 x.p, .int .i64 x.q, .int .i64 x.o]
/-- What order answers. -/
def ordR (x y : Rk) : Int := orI [Lib.compareInt y.q x.q, Lib.compareInt y.o x.o, Lib.compareInt x.p y.p]
theorem one_row (w : World) (t : TypeId) (cs : Array Value) (j : Nat) : (w.alloc (.cells cs t)).drew.cell? ⟨w.heap.size, j, none⟩ = cs[j]? := cell_of_row _ _ _ cs t (0, 0) (heap_alloc_new _ _)

set_option maxHeartbeats 2000000 in
set_option maxRecDepth 100000 in
theorem order_any (x y : Rk) (w : World) :
    Calls Try.prog 34 #[rkV x, rkV y] w fun e w' => e = .returned (.int .i64 (ordR x y)) ∧ Gr w w' := by
  unfold rkV ordR
  obtain ⟨w1, hw1⟩ : ∃ w1, w1 = w.alloc (.cells #[.int .i64 x.p, .int .i64 x.q, .int .i64 x.o] 34 (0, 0)) := ⟨_, rfl⟩
  obtain ⟨w2, hw2⟩ : ∃ w2, w2 = w1.alloc (.cells #[.int .i64 y.p, .int .i64 y.q, .int .i64 y.o] 34 (0, 0)) := ⟨_, rfl⟩
  have b2 : Gr w w2 := by rw [hw2, hw1]; exact ((Gr.refl w).alloc _).alloc _
  have s1 : w1.heap.size = w.heap.size + 1 := by rw [hw1]; simp
  have x1 : w2.heap[w.heap.size]? = some (.cells #[.int .i64 x.p, .int .i64 x.q, .int .i64 x.o] 34 (0, 0)) := by
    rw [hw2, Below.heap_alloc _ _ _ (by omega), hw1]; exact heap_alloc_new w _
  have x2 : w2.heap[w.heap.size + 1]? = some (.cells #[.int .i64 y.p, .int .i64 y.q, .int .i64 y.o] 34 (0, 0)) := by
    rw [hw2, ← s1]; exact heap_alloc_new w1 _
  have p0 : w2.cell? ⟨w.heap.size, 0, none⟩ = some (.int .i64 x.p) := by simp [World.cell?, x1]
  have p1 : w2.cell? ⟨w.heap.size, 1, none⟩ = some (.int .i64 x.q) := by simp [World.cell?, x1]
  have p2 : w2.cell? ⟨w.heap.size, 2, none⟩ = some (.int .i64 x.o) := by simp [World.cell?, x1]
  have q0 : w2.cell? ⟨w.heap.size + 1, 0, none⟩ = some (.int .i64 y.p) := by simp [World.cell?, x2]
  have q1 : w2.cell? ⟨w.heap.size + 1, 1, none⟩ = some (.int .i64 y.q) := by simp [World.cell?, x2]
  have q2 : w2.cell? ⟨w.heap.size + 1, 2, none⟩ = some (.int .i64 y.o) := by simp [World.cell?, x2]
  have HW1 := hide hw1
  have HW2 := hide hw2
  have HB2 := hide b2
  clear hw1 hw2 b2 s1 x1 x2
  go_enter Try.func34, Try.ntmps34
  go_upto_region 1 with fail
  rw [← unhide HW1, ← unhide HW2]
  clear HW1 HW2
  go_region_held3 (fun u => u.cell? ⟨w.heap.size, 0, none⟩ = some (.int .i64 x.p) ∧ u.cell? ⟨w.heap.size, 1, none⟩ = some (.int .i64 x.q) ∧ u.cell? ⟨w.heap.size, 2, none⟩ = some (.int .i64 x.o) ∧ u.cell? ⟨w.heap.size + 1, 0, none⟩ = some (.int .i64 y.p) ∧ u.cell? ⟨w.heap.size + 1, 1, none⟩ = some (.int .i64 y.q) ∧ u.cell? ⟨w.heap.size + 1, 2, none⟩ = some (.int .i64 y.o))
    (go_keep)
    (first
      | (go_at_call 42; refine (Try.cmp_Compare_int _ _ _).mono ?_; rintro e w' ⟨rfl, rfl⟩)
      | (go_at_call 41; refine (or3_any (Lib.compareInt y.q x.q) (Lib.compareInt y.o x.o) (Lib.compareInt x.p y.p) _ _ _ ?_ ?_ ?_).mono ?_; (exact one_row _ _ _ 0); (exact one_row _ _ _ 1); (exact one_row _ _ _ 2); rintro e w' ⟨rfl, rfl⟩))
  go_wp2
  go_ret
  exact ⟨rfl, ((unhide HB2).alloc _).drew⟩

/-- c tells which of two comes first, and 0 only of one and the same. -/
structure TO {α : Type} (c : α → α → Int) : Prop where
  same : ∀ x, c x x = 0
  one : ∀ x y, c x y = 0 → x = y
  anti : ∀ x y, c x y < 0 → 0 < c y x
  back : ∀ x y, 0 < c x y → c y x < 0
  trans : ∀ x y z, c x y < 0 → c y z < 0 → c x z < 0

theorem TO.int : TO Lib.compareInt where
  same x := by unfold Lib.compareInt; simp
  one x y h := by unfold Lib.compareInt at h; repeat' split at h <;> omega
  anti x y h := by unfold Lib.compareInt at *; (repeat' split at h) <;> (repeat' split) <;> omega
  back x y h := by unfold Lib.compareInt at *; (repeat' split at h) <;> (repeat' split) <;> omega
  trans x y z h k := by unfold Lib.compareInt at *; (repeat' split at h) <;> (repeat' split at k) <;> (repeat' split) <;> omega

theorem TO.lex {α β : Type} {c : α → α → Int} {d : β → β → Int} (hc : TO c) (hd : TO d) : TO (fun x y : α × β => if c x.1 y.1 = 0 then d x.2 y.2 else c x.1 y.1) where
  same x := by simp only [hc.same, if_true, hd.same]
  one x y h := by
    by_cases h1 : c x.1 y.1 = 0
    · simp only [h1, if_true] at h; exact Prod.ext (hc.one _ _ h1) (hd.one _ _ h)
    · simp only [h1, if_false] at h
  anti x y h := by
    by_cases h1 : c x.1 y.1 = 0
    · simp only [h1, if_true] at h
      have e := hc.one _ _ h1
      simp only [e, hc.same, if_true]; exact hd.anti _ _ h
    · simp only [h1, if_false] at h
      have := hc.anti _ _ h
      simp only [show c y.1 x.1 ≠ 0 by omega, if_false]; exact this
  back x y h := by
    by_cases h1 : c x.1 y.1 = 0
    · simp only [h1, if_true] at h
      have e := hc.one _ _ h1
      simp only [e, hc.same, if_true]; exact hd.back _ _ h
    · simp only [h1, if_false] at h
      have := hc.back _ _ h
      simp only [show c y.1 x.1 ≠ 0 by omega, if_false]; exact this
  trans x y z h k := by
    by_cases h1 : c x.1 y.1 = 0
    · simp only [h1, if_true] at h
      rw [hc.one _ _ h1]
      by_cases k1 : c y.1 z.1 = 0
      · simp only [k1, if_true] at k ⊢; exact hd.trans _ _ _ h k
      · simp only [k1, if_false] at k ⊢; exact k
    · simp only [h1, if_false] at h
      by_cases k1 : c y.1 z.1 = 0
      · rw [← hc.one _ _ k1]; simp only [h1, if_false]; exact h
      · simp only [k1, if_false] at k
        have := hc.trans _ _ _ h k
        simp only [show c x.1 z.1 ≠ 0 by omega, if_false]; exact this

theorem TO.swo {α β : Type} {c : β → β → Int} (hc : TO c) (f : α → β) : SWO (ltOf fun x y => c (f x) (f y)) where
  irrefl x := by simp [ltOf, hc.same]
  trans x y z h k := by simp only [ltOf, decide_eq_true_eq] at *; exact hc.trans _ _ _ h k
  ntrans x y z h k := by
    simp only [ltOf, decide_eq_false_iff_not] at *
    intro hz
    by_cases h0 : c (f x) (f y) = 0
    · rw [hc.one _ _ h0] at hz; exact k hz
    · have h1 := hc.back _ _ (show 0 < c (f x) (f y) by omega)
      exact k (hc.trans _ _ _ h1 hz)

theorem TO.flip {α : Type} {c : α → α → Int} (h : TO c) : TO (fun x y => c y x) where
  same x := h.same x
  one x y e := (h.one y x e).symm
  anti x y e := h.anti y x e
  back x y e := h.back y x e
  trans x y z e f := h.trans z y x f e
def keyR (x : Rk) : Int × Int × Int := (x.q, x.o, x.p)
def cmpK : (Int × Int × Int) → (Int × Int × Int) → Int :=
  fun x y => if Lib.compareInt y.1 x.1 = 0 then (fun x y : Int × Int => if Lib.compareInt y.1 x.1 = 0 then Lib.compareInt x.2 y.2 else Lib.compareInt y.1 x.1) x.2 y.2 else Lib.compareInt y.1 x.1
theorem cmpK_TO : TO cmpK := TO.lex (c := fun x y => Lib.compareInt y x) (TO.flip TO.int) (TO.lex (c := fun x y => Lib.compareInt y x) (TO.flip TO.int) TO.int)
theorem ordR_K (x y : Rk) : ordR x y = cmpK (keyR x) (keyR y) := by
  simp only [ordR, cmpK, keyR, orI]
  by_cases h1 : Lib.compareInt y.q x.q = 0 <;> simp only [h1, if_true, if_false]
  by_cases h2 : Lib.compareInt y.o x.o = 0 <;> simp only [h2, if_true, if_false]
  by_cases h3 : Lib.compareInt x.p y.p = 0 <;> simp only [h3, if_true, if_false]
theorem cmpLaysR (blk off size : Nat) (w : World) : CmpLays Try.prog 34 #[] encR 3 (fun x y => ordR x y) blk off size w :=
  fun _ _ _ _ x y => (order_any x y _).mono fun _ _ ⟨he, hg⟩ => ⟨he, hg.grow⟩
theorem swoR : SWO (ltOf fun x y : Rk => ordR x y) := by
  have h := TO.swo cmpK_TO keyR
  have e : (fun x y : Rk => ordR x y) = fun x y : Rk => cmpK (keyR x) (keyR y) := by funext x y; exact ordR_K _ _
  rw [e]
  exact h
theorem sortR (blk off cap : Nat) (d : Array Rk) (w : World) (hH : HoldsK encR 3 w blk off d) (hblk : blk < w.heap.size) (hsz : d.size < 4611686018427387904) :
    Calls Try.prog 33 #[.slice (some ⟨blk, off, none⟩) d.size cap, .func (.func 34) #[] #[]] w fun e w' =>
      e = .returned (.tuple #[]) ∧ ∃ d' n os, PermIn 0 d.size d d' ∧ SortedIn (ltOf fun x y : Rk => ordR x y) 0 d.size d' ∧ w' = sortWorldK encR 3 w blk off n d' os := by
  have eg : ∀ args w, (callFunc 34 args).run Try.prog w = .ok (.enter 34 args) w := enters_of Try.func34 (by kernel_rfl) rfl
  have hcon := AnyQ.slices_SortFunc Try.sortRk 3 Try.isAgg34 Try.sizeOf34 encR (fun _ => rfl) (fun x v hv => by simp only [encR, List.mem_cons, List.not_mem_nil, or_false] at hv; rcases hv with rfl | rfl | rfl <;> rfl) (fun x y => ordR x y) swoR 34 #[] blk off cap d w eg (cmpLaysR blk off d.size w) hH hblk hsz
  exact hcon

/-- The cells of a row of ranks. -/
def rvs (l : List Rk) : List Value := l.flatMap encR
theorem rvs_len (l : List Rk) : (rvs l).length = l.length * 3 := fm_len (f := encR) (c := 3) (fun _ => rfl) l
/-- As the sort takes it. -/
theorem holdsR {w : World} {base g cap : Nat} {t : TypeId} {l : List (Rk)} (h : w.ownsRow base t 3 (.slice (some ⟨g, 0, none⟩) l.length cap) l.length (rvs l)) : HoldsK encR 3 w g 0 l.toArray := by
  obtain ⟨hl, hh⟩ := h
  rcases hh with ⟨e, _⟩ | ⟨g', c', cur, e, hb, hg, h1, h2, h3, h4⟩
  · simp at e
  · simp only [Value.slice.injEq, Option.some.injEq, Addr.mk.injEq, and_true, true_and] at e
    obtain ⟨rfl, rfl⟩ := e
    intro j hj
    rw [size_flatK, List.size_toArray] at hj
    have hi : j / 3 < l.length := by omega
    have hm : j % 3 < 3 := by omega
    have e1 := fm_at (f := encR) (c := 3) (fun _ => rfl) l (j / 3) (j % 3) l[j / 3] (List.getElem?_eq_getElem hi) hm
    have e2 : j / 3 * 3 + j % 3 = j := by omega
    rw [e2] at e1
    have e3 : cur[j]? = (encR l[j / 3])[j % 3]? := by
      rw [← e1]
      show _ = (rvs l)[j]?
      rw [← h4, List.getElem?_take, if_pos hj, Array.getElem?_toList]
    have e4 : (encR l[j / 3])[j % 3]? = some ((encR l[j / 3])[j % 3]!) := by
      rw [getElem!_pos (encR l[j / 3]) (j % 3) (show j % 3 < (encR l[j / 3]).length from hm)]
      exact List.getElem?_eq_getElem (show j % 3 < (encR l[j / 3]).length from hm)
    have e5 : l.toArray[j / 3]! = l[j / 3] := by
      rw [getElem!_pos l.toArray (j / 3) (by simpa using hi)]
      rfl
    refine ⟨?_, by simp [World.frozen?, hg]⟩
    rw [get_flatK _ _ _ _ (by simpa using hj), e5]
    simp only [World.cell?, hg, Nat.zero_add, Option.isSome_none, Bool.false_eq_true, if_false]
    exact e3.trans e4
theorem sortedR {l : List (Rk)} {d' : Array (Rk)} (hp : PermIn 0 l.toArray.size l.toArray d') (hs : SortedIn (ltOf fun x y : Rk => ordR x y) 0 l.toArray.size d') (hk : (l.map keyR).Nodup) :
    d'.toList.Perm l ∧ d'.toList.Pairwise fun x y => ordR x y < 0 := by
  obtain ⟨h1, -, h3⟩ := hp
  have e1 : d'.extract 0 l.toArray.size = d' := by rw [← h1]; exact Array.extract_size
  have e2 : l.toArray.extract 0 l.toArray.size = l.toArray := Array.extract_size
  rw [e1, e2] at h3
  have h4 : d'.toList.Perm l := h3
  refine ⟨h4, ?_⟩
  have h5 : (d'.toList.map keyR).Nodup := (h4.map _).nodup_iff.2 hk
  rw [List.pairwise_iff_getElem]
  intro i j hi hj hij
  have hjs : j < l.toArray.size := by rw [← h1]; simpa using hj
  have h6 := hs i j (Nat.zero_le _) hij hjs
  have g1 : d'[j]! = d'.toList[j] := by
    rw [getElem!_pos d' j (by simpa using hj)]; simp
  have g2 : d'[i]! = d'.toList[i] := by
    rw [getElem!_pos d' i (by simpa using hi)]; simp
  rw [g1, g2] at h6
  simp only [ltOf, decide_eq_false_iff_not] at h6
  rw [ordR_K] at h6 ⊢
  by_cases h0 : cmpK (keyR d'.toList[j]) (keyR d'.toList[i]) = 0
  · exfalso
    have h7 := cmpK_TO.one _ _ h0
    rw [List.nodup_iff_pairwise_ne, List.pairwise_iff_getElem] at h5
    have h8 := h5 i j (by simpa using hi) (by simpa using hj) hij
    rw [List.getElem_map, List.getElem_map] at h8
    exact h8 h7.symm
  · exact cmpK_TO.back _ _ (by omega)
theorem grown_sortR {w : World} {g n : Nat} {os : Array Obj} (d : Array (Rk)) : w.grownBy (sortWorldK encR 3 w g 0 n d os) (some g) := by
  unfold sortWorldK putRowK
  refine ⟨rfl, rfl, rfl, by simp, fun k hk hne => ?_⟩
  rw [heap_grow_old _ _ (by simpa using hk)]
  have : g ≠ k := fun e => hne (by rw [e])
  simp [putRow, mapBlock, Sort.ahead, Array.getElem?_modify, this]

theorem rvs_flat (ts : List (Rk)) (j : Nat) (hj : j < ts.length * 3) : (rvs ts)[j]? = some ((flatK encR 3 ts.toArray)[j]!) := by
  have hi : j / 3 < ts.length := by omega
  have hm : j % 3 < 3 := by omega
  have e1 := fm_at (f := encR) (c := 3) (fun _ => rfl) ts (j / 3) (j % 3) ts[j / 3] (List.getElem?_eq_getElem hi) hm
  have e2 : j / 3 * 3 + j % 3 = j := by omega
  rw [e2] at e1
  have e4 : (encR ts[j / 3])[j % 3]? = some ((encR ts[j / 3])[j % 3]!) := by
    rw [getElem!_pos (encR ts[j / 3]) (j % 3) (show j % 3 < (encR ts[j / 3]).length from hm)]
    exact List.getElem?_eq_getElem (show j % 3 < (encR ts[j / 3]).length from hm)
  have e5 : ts.toArray[j / 3]! = ts[j / 3] := by
    rw [getElem!_pos ts.toArray (j / 3) (by simpa using hi)]
    rfl
  rw [get_flatK _ _ _ _ (by simpa using hj), e5]
  exact e1.trans e4

theorem row_sortR {w : World} {base g cap n m : Nat} {t : TypeId} {os : Array Obj} {xs : List Value} {ts : List (Rk)} (hl : ts.length = m) (h : w.ownsRow base t 3 (.slice (some ⟨g, 0, none⟩) m cap) m xs) :
    (sortWorldK encR 3 w g 0 n ts.toArray os).ownsRow base t 3 (.slice (some ⟨g, 0, none⟩) m cap) m (rvs ts) := by
  obtain ⟨-, hh⟩ := h
  rcases hh with ⟨e, _⟩ | ⟨g', c', cur, e, hb, hg, h1, h2, h3, h4⟩
  · simp at e
  · simp only [Value.slice.injEq, Option.some.injEq, Addr.mk.injEq, and_true, true_and] at e
    obtain ⟨rfl, rfl⟩ := e
    have hlt : g < w.heap.size := (Array.getElem?_eq_some_iff.1 hg).1
    refine ⟨by rw [rvs_len, hl], .inr ⟨g, cap, putCells id 0 (flatK encR 3 ts.toArray) cur, rfl, hb, ?_, h1, h2, by simp [putCells, h3], ?_⟩⟩
    · unfold sortWorldK putRowK
      rw [heap_grow_old _ _ (by simpa using hlt)]
      simp [putRow, mapBlock, Sort.ahead, Array.getElem?_modify, hg, onCells]
    · subst hl
      apply List.ext_getElem?
      intro j
      by_cases hj : j < ts.length * 3
      · have hjc : j < cur.size := by rw [h3]; exact Nat.lt_of_lt_of_le hj (Nat.mul_le_mul_right 3 h1)
        rw [List.getElem?_take_of_lt hj, Array.getElem?_toList, rvs_flat ts j hj]
        simp [putCells, hj, hjc]
      · rw [List.getElem?_take_eq_none (by omega), List.getElem?_eq_none (by rw [rvs_len]; omega)]
theorem sorted_one {α : Type} {lt : α → α → Prop} (hirr : ∀ x, ¬ lt x x) (htr : ∀ x y z, lt x y → lt y z → lt x z) : ∀ {a b : List α}, a.Perm b → a.Pairwise lt → b.Pairwise lt → a = b
  | [], b, hp, _, _ => by rw [List.nil_perm.1 hp]
  | x :: a, [], hp, _, _ => absurd hp.length_eq (by simp)
  | x :: a, y :: b, hp, ha, hb => by
    rw [List.pairwise_cons] at ha hb
    have hxy : x = y := by
      have h1 : x ∈ y :: b := hp.subset (by simp)
      have h2 : y ∈ x :: a := hp.symm.subset (by simp)
      rcases List.mem_cons.1 h1 with e | h1
      · exact e
      · rcases List.mem_cons.1 h2 with e | h2
        · exact e.symm
        · exact absurd (htr _ _ _ (hb.1 x h1) (ha.1 y h2)) (hirr y)
    subst hxy
    rw [sorted_one hirr htr (List.Perm.cons_inv hp) ha.2 hb.2]
end Go.Proofs.Ytdpjkfmhmjgokaa
