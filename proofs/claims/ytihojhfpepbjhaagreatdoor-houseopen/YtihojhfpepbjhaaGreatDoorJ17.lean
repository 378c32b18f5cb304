/-
  What package gameref asks of a position, walked: Big, Small, hand, Position: the same as board.Check asks.
  The reference's small functions: abs, owner, mark.
  Plain mathematics: pieces in a row, counted along a ray and cell by cell.
  The document's answer on rules (package gameref), walked: piece, letters.
  Plain mathematics: a letter put into a hand in order; what the moves of a list are; what is behind them.
  Positions of play: the moves of one, what comes behind each.
-/
import Derived.Test.YtihojhfpepbjhaaGreatDoorJ1
import Derived.Test.YtihojhfpepbjhaaGreatDoorV21
import Derived.Test.YtihojhfpepbjhaaGreatDoorJ5
import Derived.Test.YtihojhfpepbjhaaGreatDoorJ10
import Derived.Deep.RegionHeld3
import Derived.Test.YtihojhfpepbjhaaGreatDoorV22
import Derived.Test.YtihojhfpepbjhaaGreatDoorJ0
import Derived.Test.YtihojhfpepbjhaaGreatDoorV23
import Derived.Test.YtihojhfpepbjhaaGreatDoorJ12
namespace Go.Proofs.YtihojhfpepbjhaaGreatDoor
open Go.RowKit

def smallB (c : Int) : Bool := decide (97 ≤ c) && decide (c ≤ 122)

end Go.Proofs.YtihojhfpepbjhaaGreatDoor

namespace Go.Proofs.YtihojhfpepbjhaaGreatDoor
open Go.RowKit
attribute [local go_sem ↓] Go.wp_at_zero Go.wp_at_succ

/-- Whose is a byte? 2: nobody's. -/
def rownI (c : Int) : Int := if capB c then 0 else if smallB c then 1 else 2
end Go.Proofs.YtihojhfpepbjhaaGreatDoor

namespace Go.Proofs.YtihojhfpepbjhaaGreatDoor

/-- How many in a row from a cell on: m of them at least just where the first m behind it are the player's. -/
theorem count_ray (W H : Nat) (own : Nat → Bool) (dx dy : Int) : ∀ (f m : Nat) (x y : Int), m ≤ f → (m ≤ (rayL W H own dx dy f x y).countP own ↔ ∀ i, 1 ≤ i → i ≤ m → inP W H dx dy x y i ∧ own (ptN W dx dy x y i) = true)
  | f, 0, x, y, _ => ⟨fun _ i a b => by omega, fun _ => Nat.zero_le _⟩
  | 0, m + 1, x, y, h => by omega
  | f + 1, m + 1, x, y, h => by
    rw [rayL]
    have ih := count_ray W H own dx dy f m (x + dx) (y + dy) (by omega)
    by_cases hin : 0 ≤ x + dx ∧ x + dx < W ∧ 0 ≤ y + dy ∧ y + dy < H
    · rw [if_pos hin, ← ptN_one]
      have hin1 := (inP_one W H dx dy x y).2 hin
      by_cases hon : own (ptN W dx dy x y 1) = true
      · rw [if_pos hon, List.countP_cons, if_pos hon]
        constructor
        · intro h' i a b
          by_cases hi : i = 1
          · rw [hi]; exact ⟨hin1, hon⟩
          · obtain ⟨k, rfl⟩ : ∃ k, i = k + 1 := ⟨i - 1, by omega⟩
            have := ih.1 (by omega) k (by omega) (by omega)
            rw [inP_succ, ptN_succ] at this
            exact this
        · intro h'
          have := ih.2 fun i a b => by rw [inP_succ, ptN_succ]; exact h' (i + 1) (by omega) (by omega)
          omega
      · rw [if_neg hon]
        constructor
        · intro h'; simp [hon] at h'
        · intro h'; exact absurd (h' 1 (by omega) (by omega)).2 hon
    · rw [if_neg hin]
      constructor
      · intro h'; simp at h'
      · intro h'; exact absurd ((inP_one W H dx dy x y).1 (h' 1 (by omega) (by omega)).1) hin
/-- Whose is the byte of a cell? -/
theorem own_rown : ∀ c : Nat, c < 256 → cellB (c : Int) = true → ∀ P : Nat, P ≤ 1 → ownB P c = decide (rownI (c : Int) = (P : Int)) := by
  have h : ∀ c : Nat, c < 256 → cellB (c : Int) = true → (ownB 0 c = decide (rownI (c : Int) = ((0 : Nat) : Int)) ∧ ownB 1 c = decide (rownI (c : Int) = ((1 : Nat) : Int))) := by decide +kernel
  intro c hc hb P hP
  rcases (by omega : P = 0 ∨ P = 1) with rfl | rfl
  · exact (h c hc hb).1
  · exact (h c hc hb).2
instance decInP (W H : Nat) (dx dy x y : Int) (k : Nat) : Decidable (inP W H dx dy x y k) := inferInstanceAs (Decidable (_ ∧ _))
/-- Are so many in a row from a cell on the player's? -/
def rowB (W H P : Nat) (C : ByteArray) (x y dx dy : Int) (n : Nat) : Bool := (List.range n).all fun k => decide (inP W H dx dy x y k) && decide (rownI (cellN C (ptN W dx dy x y k) : Nat) = (P : Int))
def lineAt (W H P : Nat) (C : ByteArray) (n : Nat) (y x : Nat) : Bool := dirs4.any fun d => rowB W H P C x y d.1 d.2 n
def linedB (W H P : Nat) (C : ByteArray) (n : Nat) : Bool := (List.range H).any fun y => (List.range W).any fun x => lineAt W H P C n y x
theorem inP_zero (W H : Nat) (dx dy x y : Int) : inP W H dx dy x y 0 ↔ (0 ≤ x ∧ x < W ∧ 0 ≤ y ∧ y < H) := by unfold inP; simp
theorem pt_zero (W from_ : Nat) (dx dy : Int) : ptN W dx dy ((from_ % W : Nat) : Int) ((from_ / W : Nat) : Int) 0 = from_ := by
  unfold ptN
  have hf : ((from_ / W : Nat) : Int) * W + ((from_ % W : Nat) : Int) = (from_ : Int) := by
    have := Nat.div_add_mod from_ W
    rw [Nat.mul_comm] at this
    rw [← Int.natCast_mul, ← Int.natCast_add, this]
  simp only [Int.natCast_zero, Int.zero_mul, Int.add_zero, hf]
  rfl
theorem inP_pt {W H : Nat} {dx dy x y : Int} {k : Nat} (h : inP W H dx dy x y k) : ptN W dx dy x y k < W * H := by
  obtain ⟨h0, h1, h2, h3⟩ := h
  exact (cell_no h0 h1 h2 h3).2
theorem line_iff {W H P : Nat} {C : ByteArray} {from_ n : Nat} {d : Int × Int} (hP : P ≤ 1) (hW : 1 ≤ W) (hf : from_ < W * H) (hn : 1 ≤ n ∧ n ≤ 8) (hC : ∀ c, c < W * H → cellB (cellN C c : Nat) = true ∧ cellN C c < 256) :
    (ownB P (cellN C from_) && decide ((n : Int) ≤ (lineN W H P C from_ d.1 d.2 : Nat))) = rowB W H P C ((from_ % W : Nat) : Int) ((from_ / W : Nat) : Int) d.1 d.2 n := by
  rw [Bool.eq_iff_iff]
  have hcnt := count_ray W H (fun c => ownB P (cellN C c)) d.1 d.2 8 (n - 1) ((from_ % W : Nat) : Int) ((from_ / W : Nat) : Int) (by omega)
  have a1 : from_ % W < W := Nat.mod_lt _ hW
  have a3 : from_ / W < H := Nat.div_lt_of_lt_mul hf
  have e0 : ∀ c, c < W * H → (ownB P (cellN C c) = true ↔ rownI (cellN C c : Nat) = (P : Int)) := fun c hc => by rw [own_rown _ (hC c hc).2 (hC c hc).1 P hP]; simp
  simp only [Bool.and_eq_true, decide_eq_true_eq, rowB, List.all_eq_true, List.mem_range]
  have hl : ((n : Int) ≤ (lineN W H P C from_ d.1 d.2 : Nat)) ↔ n - 1 ≤ (rayL W H (fun c => ownB P (cellN C c)) d.1 d.2 8 ((from_ % W : Nat) : Int) ((from_ / W : Nat) : Int)).countP (fun c => ownB P (cellN C c)) := by unfold lineN; omega
  rw [hl, hcnt]
  constructor
  · rintro ⟨h0, h1⟩ k hk
    by_cases hk0 : k = 0
    · subst hk0
      refine ⟨(inP_zero ..).2 ⟨Int.natCast_nonneg _, by exact_mod_cast a1, Int.natCast_nonneg _, by exact_mod_cast a3⟩, ?_⟩
      rw [pt_zero]; exact (e0 _ hf).1 h0
    · obtain ⟨q1, q2⟩ := h1 k (by omega) (by omega)
      exact ⟨q1, (e0 _ (inP_pt q1)).1 q2⟩
  · intro h
    constructor
    · have := (h 0 (by omega)).2
      rw [pt_zero] at this
      exact (e0 _ hf).2 this
    · intro i a b
      obtain ⟨q1, q2⟩ := h i (by omega)
      exact ⟨q1, (e0 _ (inP_pt q1)).2 q2⟩
theorem lined_eq {W H P : Nat} {C : ByteArray} {n : Nat} (hP : P ≤ 1) (hW : 1 ≤ W) (hn : 1 ≤ n ∧ n ≤ 8) (hC : ∀ c, c < W * H → cellB (cellN C c : Nat) = true ∧ cellN C c < 256) : hasLineB W H P C n = linedB W H P C n := by
  have hat : ∀ c, c < W * H → lineFromB W H P C n c = lineAt W H P C n (c / W) (c % W) := by
    intro c hc
    unfold lineFromB lineAt dirs4
    simp only [List.any_cons, List.any_nil]
    have e := fun d => line_iff (d := d) hP hW hc hn hC
    rw [← e (1, 0), ← e (0, 1), ← e (1, 1), ← e (-1, 1)]
    cases ownB P (cellN C c) <;> simp
  unfold hasLineB linedB
  rw [Bool.eq_iff_iff]
  simp only [List.any_eq_true, List.mem_range]
  constructor
  · rintro ⟨c, hc, h⟩
    rw [hat c hc] at h
    exact ⟨c / W, Nat.div_lt_of_lt_mul hc, c % W, Nat.mod_lt _ hW, h⟩
  · rintro ⟨y, hy, x, hx, h⟩
    have hc : y * W + x < W * H := by
      have : (y + 1) * W ≤ H * W := Nat.mul_le_mul_right _ (by omega)
      rw [Nat.add_mul, Nat.one_mul] at this
      rw [Nat.mul_comm W H]; omega
    refine ⟨y * W + x, hc, ?_⟩
    rw [hat _ hc]
    have hm : (y * W + x) % W = x := by rw [Nat.mul_comm, Nat.mul_add_mod]; exact Nat.mod_eq_of_lt hx
    have hd : (y * W + x) / W = y := by rw [Nat.mul_comm, Nat.mul_add_div (by omega), Nat.div_eq_of_lt hx]; rfl
    rw [hm, hd]; exact h
end Go.Proofs.YtihojhfpepbjhaaGreatDoor

namespace Go.Proofs.YtihojhfpepbjhaaGreatDoor
open Go.RowKit
attribute [local go_sem ↓] Go.wp_at_zero Go.wp_at_succ

end Go.Proofs.YtihojhfpepbjhaaGreatDoor

namespace Go.Proofs.YtihojhfpepbjhaaGreatDoor

/-- A byte's place ahead of the first that is not below it. -/
def placeN (h : List UInt8) (c : UInt8) : Nat := (h.takeWhile fun a => decide (a < c)).length
def insL (h : List UInt8) (c : UInt8) : List UInt8 := h.take (placeN h c) ++ c :: h.drop (placeN h c)
theorem insL_nil (c : UInt8) : insL [] c = [c] := rfl
theorem insL_lt {a c : UInt8} {h : List UInt8} (ha : a < c) : insL (a :: h) c = a :: insL h c := by simp [insL, placeN, ha]
theorem insL_ge {a c : UInt8} {h : List UInt8} (ha : ¬ a < c) : insL (a :: h) c = c :: a :: h := by simp [insL, placeN, ha]
/-- In order. -/
def Ord (h : List UInt8) : Prop := h.Pairwise (· ≤ ·)
theorem swap_at (l : List UInt8) (a c : UInt8) (s : List UInt8) : swapB (l ++ a :: c :: s) (l.length + 1) = l ++ c :: a :: s := by
  unfold swapB
  have h1 : (l ++ a :: c :: s)[l.length + 1 - 1]! = a := by simp
  have h2 : (l ++ a :: c :: s)[l.length + 1]! = c := by
    rw [List.getElem!_eq_getElem?_getD, List.getElem?_append_right (by omega)]
    simp
  rw [h1, h2, show l.length + 1 - 1 = l.length by omega]
  rw [List.set_append_right _ _ (by omega), show l.length + 1 - l.length = 1 by omega]
  rw [List.set_append_right _ _ (by omega), Nat.sub_self]
  rfl
theorem sink_snoc (l : List UInt8) (a c : UInt8) (s : List UInt8) : sinkB (l.length + 1) (l ++ a :: c :: s) = if c < a then sinkB l.length (l ++ c :: a :: s) else l ++ a :: c :: s := by
  have h1 : (l ++ a :: c :: s)[l.length]! = a := by simp
  have h2 : (l ++ a :: c :: s)[l.length + 1]! = c := by
    rw [List.getElem!_eq_getElem?_getD, List.getElem?_append_right (by omega)]
    simp
  rw [sinkB, h1, h2, swap_at]
/-- What is behind a byte's own place goes through. -/
theorem insL_snoc_lt {h : List UInt8} {a c : UInt8} (ho : Ord (h ++ [a])) (hc : c < a) : insL (h ++ [a]) c = insL h c ++ [a] := by
  induction h with
  | nil =>
    have : ¬ a < c := by intro h; exact absurd (UInt8.lt_trans h hc) (UInt8.lt_irrefl _)
    simp only [List.nil_append]
    rw [insL_ge this]; rfl
  | cons b t ih =>
    have ho' : Ord (t ++ [a]) := List.Pairwise.tail ho
    by_cases hb : b < c
    · rw [List.cons_append, insL_lt hb, insL_lt hb, ih ho']; rfl
    · rw [List.cons_append, insL_ge hb, insL_ge hb]; rfl
theorem insL_snoc_ge {h : List UInt8} {c : UInt8} (hc : ∀ a ∈ h, a ≤ c) (ho : Ord h) : insL h c = h ++ [c] := by
  induction h with
  | nil => rfl
  | cons b t ih =>
    by_cases hb : b < c
    · rw [insL_lt hb, ih (fun a ha => hc a (by simp [ha])) (List.Pairwise.tail ho)]; rfl
    · rw [insL_ge hb]
      have hall : ∀ a ∈ b :: t, a = c := by
        intro a ha
        have h1 := hc a ha
        have h2 : b ≤ a := by
          rcases List.mem_cons.1 ha with rfl | ha
          · exact UInt8.le_refl _
          · exact (List.pairwise_cons.1 ho).1 a ha
        have h3 : c ≤ b := UInt8.not_lt.1 hb
        exact UInt8.le_antisymm h1 (UInt8.le_trans h3 h2)
      have : b :: t = List.replicate (t.length + 1) c := by
        rw [List.eq_replicate_iff]; exact ⟨rfl, hall⟩
      rw [this, ← List.replicate_succ, ← List.replicate_succ']
theorem sink_ins : ∀ (n : Nat) (h : List UInt8) (c : UInt8) (s : List UInt8), h.length = n → Ord h → sinkB n (h ++ c :: s) = insL h c ++ s
  | 0, h, c, s, hl, _ => by
    have : h = [] := List.length_eq_zero_iff.1 hl
    subst this; rfl
  | n + 1, h, c, s, hl, ho => by
    have hne : h ≠ [] := by intro e; rw [e] at hl; simp at hl
    obtain ⟨l, a, rfl⟩ : ∃ l a, h = l ++ [a] := ⟨h.dropLast, h.getLast hne, (List.dropLast_concat_getLast hne).symm⟩
    have hn : l.length = n := by simpa using hl
    have ho' : Ord l := (List.pairwise_append.1 ho).1
    have e : l ++ [a] ++ c :: s = l ++ a :: c :: s := by simp
    rw [e, ← hn, sink_snoc]
    split
    · rename_i hc
      rw [hn, sink_ins n l c (a :: s) hn ho', insL_snoc_lt ho hc]; simp
    · rename_i hc
      have hca : a ≤ c := UInt8.not_lt.1 hc
      rw [insL_snoc_ge _ ho]
      · simp
      · intro b hb
        rcases List.mem_append.1 hb with hb | hb
        · exact UInt8.le_trans ((List.pairwise_append.1 ho).2.2 b hb a (by simp)) hca
        · rw [List.mem_singleton.1 hb]; exact hca
theorem sink_stay {l : List UInt8} {i : Nat} (h : ∀ j, j + 1 = i → ¬ l[j + 1]! < l[j]!) : sinkB i l = l := by
  cases i with
  | zero => rfl
  | succ j => rw [sinkB, if_neg (h j rfl)]
theorem ord_at {h : List UInt8} (ho : Ord h) {j : Nat} (hj : j + 1 < h.length) : ¬ h[j + 1]! < h[j]! := by
  rw [getElem!_pos h (j + 1) hj, getElem!_pos h j (by omega)]
  exact UInt8.not_lt.2 (List.pairwise_iff_getElem.1 ho j (j + 1) (by omega) hj (by omega))
theorem fold_stay {l : List UInt8} : ∀ (is : List Nat), (∀ i ∈ is, ∀ j, j + 1 = i → ¬ l[j + 1]! < l[j]!) → is.foldl (fun l i => sinkB i l) l = l
  | [], _ => rfl
  | i :: is, h => by rw [List.foldl_cons, sink_stay (h i (by simp)), fold_stay is fun i hi => h i (by simp [hi])]
/-- A byte behind a row in order, sorted: it goes to its place. -/
theorem isort_ins (h : List UInt8) (c : UInt8) (ho : Ord h) : isortB (h ++ [c]) (h.length + 1) = insL h c := by
  unfold isortB
  rw [show h.length + 1 - 1 = h.length by omega]
  by_cases h0 : h.length = 0
  · have : h = [] := List.length_eq_zero_iff.1 h0
    subst this; rfl
  · obtain ⟨n, hn⟩ : ∃ n, h.length = n + 1 := ⟨h.length - 1, by omega⟩
    have e2 : (List.range' 1 n).foldl (fun l i => sinkB i l) (h ++ [c]) = h ++ [c] := by
      refine fold_stay _ fun i hi j hj => ?_
      rw [List.mem_range'_1] at hi
      have e : ∀ k, k < h.length → (h ++ [c])[k]! = h[k]! := fun k hk => by
        rw [List.getElem!_eq_getElem?_getD, List.getElem!_eq_getElem?_getD, List.getElem?_append_left hk]
      rw [e (j + 1) (by omega), e j (by omega)]
      exact ord_at ho (by omega)
    rw [hn, List.range'_concat, List.foldl_append, e2]
    have := sink_ins (n + 1) h c [] hn ho
    rw [List.append_nil] at this
    simp only [List.foldl_cons, List.foldl_nil, Nat.one_mul]
    rw [show 1 + n = n + 1 by omega]
    exact this
theorem caps_ord : ∀ (h : List UInt8) (m : Int), capsB m h = true → Ord h ∧ ∀ a ∈ h, m ≤ a.toNat ∧ capB a.toNat = true
  | [], _, _ => ⟨List.Pairwise.nil, fun a h => by cases h⟩
  | c :: t, m, h => by
    rw [capsB, Bool.and_eq_true, Bool.and_eq_true, decide_eq_true_eq] at h
    obtain ⟨⟨h1, h2⟩, h3⟩ := h
    obtain ⟨q1, q2⟩ := caps_ord t _ h3
    refine ⟨List.Pairwise.cons (fun a ha => ?_) q1, fun a ha => ?_⟩
    · have := (q2 a ha).1
      rw [UInt8.le_iff_toNat_le]; omega
    · rcases List.mem_cons.1 ha with rfl | ha
      · exact ⟨h2, h1⟩
      · have := q2 a ha
        exact ⟨by omega, this.2⟩
theorem hand_ord {h : List UInt8} (hh : handB h = true) : Ord h ∧ ∀ a ∈ h, capB a.toNat = true := by
  rw [handB, Bool.and_eq_true] at hh
  obtain ⟨q1, q2⟩ := caps_ord h 65 hh.2
  exact ⟨q1, fun a ha => (q2 a ha).2⟩
/-- What a move of the list is. -/
inductive MvIs (W H T : Nat) (C A B : ByteArray) (ps : List Pc) (dr : Bool) (m : Mv) : Prop
  | drop : m.f = -1 → m.t < C.size → cellN C m.t = 46 → dr = true → (∃ c : UInt8, c ∈ (handOf T A B).data.toList ∧ m.c = c.toNat) → MvIs W H T C A B ps dr m
  | go : (fr : Nat) → m.f = fr → fr < C.size → m.t < C.size → ownB T (cellN C fr) = true → m.c = upN (cellN C fr) → (goalsG W H T C fr (waysP (upN (cellN C fr)) ps)).testBit m.t = true → MvIs W H T C A B ps dr m
theorem cpt_mem {d : List UInt8} {m : Nat} {c : UInt8} (hm : m ≤ d.length) (h : c ∈ cptN d m) : c ∈ d := by
  unfold cptN at h
  obtain ⟨i, hi, rfl⟩ := List.mem_map.1 h
  have hl : i < d.length := by have := List.mem_range.1 (List.mem_filter.1 hi).1; omega
  rw [getElem!_pos d i hl]
  exact List.getElem_mem hl
theorem poss_is {W H T : Nat} {C A B : ByteArray} {ps : List Pc} {dr : Bool} {m : Mv} (h : m ∈ possL W H T C A B ps dr) : MvIs W H T C A B ps dr m := by
  unfold possL at h
  rcases List.mem_append.1 h with h | h
  · cases dr with
    | false => simp at h
    | true =>
      simp only [if_true] at h
      unfold dropsTo at h
      obtain ⟨to, ht, h⟩ := List.mem_flatMap.1 h
      unfold dropAt at h
      split at h
      · rename_i hc
        obtain ⟨c, hcm, rfl⟩ := List.mem_map.1 h
        exact .drop rfl (List.mem_range.1 ht) hc rfl ⟨c, cpt_mem (by simp) hcm, rfl⟩
      · cases h
  · unfold goesTo at h
    obtain ⟨fr, hf, h⟩ := List.mem_flatMap.1 h
    unfold goesAt at h
    split at h
    · rename_i ho
      unfold goTo at h
      obtain ⟨to, ht, rfl⟩ := List.mem_map.1 h
      obtain ⟨h1, h2⟩ := List.mem_filter.1 ht
      exact .go fr rfl (List.mem_range.1 hf) (List.mem_range.1 h1) ho rfl h2
    · cases h
theorem behC_len (C : List UInt8) (f : Int) (t : Nat) (x : UInt8) : (behC C f t x).length = C.length := by unfold behC cellsA; split <;> simp
end Go.Proofs.YtihojhfpepbjhaaGreatDoor

namespace Go.Proofs.YtihojhfpepbjhaaGreatDoor
open Go.RowKit

/-- A position of play. -/
def PoF (ps : List Pc) (p : Po) : Prop := ∃ W' H' T' : Nat, AtF ps p.W p.H p.T p.C p.A p.B W' H' T'
def movP (ps : List Pc) (dr : Bool) (lo : Nat) (li : Int) (re : Nat) (p : Po) : List Mv := movesL p.W.toNat p.H.toNat p.T.toNat p.C p.A p.B ps dr lo li re
def behP (dr : Bool) (p : Po) (m : Mv) : Po :=
  ⟨p.W, p.H, ⟨(behC p.C.data.toList m.f m.t (letN p.T.toNat m.c).toUInt8).toArray⟩, 1 - p.T, if p.T = 0 then ⟨(behH p.C.data.toList p.A.data.toList dr m.f m.t m.c.toUInt8).toArray⟩ else p.A, if p.T = 0 then p.B else ⟨(behH p.C.data.toList p.B.data.toList dr m.f m.t m.c.toUInt8).toArray⟩⟩
theorem AtF.movs {ps : List Pc} {dr : Bool} {lo : Nat} {li : Int} {re : Nat} {p : Po} {W' H' T' : Nat} (h : AtF ps p.W p.H p.T p.C p.A p.B W' H' T') : movP ps dr lo li re p = movesL W' H' T' p.C p.A p.B ps dr lo li re := by
  unfold movP
  rw [h.w, h.h, h.t]
  rfl
theorem mov_is {W H T : Nat} {C A B : ByteArray} {ps : List Pc} {dr : Bool} {lo re : Nat} {li : Int} {m : Mv} (h : m ∈ movesL W H T C A B ps dr lo li re) : MvIs W H T C A B ps dr m := by
  unfold movesL at h
  split at h
  · exact poss_is h
  · cases h
theorem MvIs.facts {W H T : Nat} {C A B : ByteArray} {ps : List Pc} {dr : Bool} {m : Mv} (h : MvIs W H T C A B ps dr m) : m.t < C.size ∧ (m.f = -1 ∨ (0 ≤ m.f ∧ m.f < C.size)) ∧ m.c < 256 := by
  cases h with
  | drop h1 h2 h3 h4 h5 =>
    obtain ⟨a, _, h7⟩ := h5
    exact ⟨h2, .inl h1, by rw [h7]; exact UInt8.toNat_lt a⟩
  | go fr h1 h2 h3 h4 h5 h6 =>
    exact ⟨h3, .inr ⟨by omega, by omega⟩, by rw [h5]; exact (up_andNot _ (UInt8.toNat_lt _)).2⟩
theorem behH_size {C : List UInt8} {h : ByteArray} {dr : Bool} {f : Int} {t : Nat} {c : UInt8} (hs : h.size ≤ 8) : (⟨(behH C h.data.toList dr f t c).toArray⟩ : ByteArray).size ≤ 8 := by
  have h1 : (⟨(handA h.data.toList f c).toArray⟩ : ByteArray).size ≤ 8 := by
    unfold handA
    split
    · exact withoutL_len hs
    · exact hs
  unfold behH handB'
  split
  · exact withL_len (h := ⟨(handA h.data.toList f c).toArray⟩) h1
  · exact h1
theorem PoF.beh {ps : List Pc} {dr : Bool} {lo : Nat} {li : Int} {re : Nat} {p : Po} {m : Mv} (h : PoF ps p) (_hm : m ∈ movP ps dr lo li re p) : PoF ps (behP dr p m) := by
  obtain ⟨W', H', T', hf⟩ := h
  have ht := hf.t1
  refine ⟨W', H', 1 - T', hf.w, hf.h, ?_, by omega, hf.w1, hf.h1, ?_, ?_, ?_, hf.ok⟩
  · show 1 - p.T = _
    rw [hf.t]
    omega
  · show (behC p.C.data.toList m.f m.t _).toArray.size = _
    rw [List.size_toArray, behC_len, len_data, hf.c]
  · show (if p.T = 0 then _ else p.A : ByteArray).size ≤ 8
    split
    · exact behH_size hf.a
    · exact hf.a
  · show (if p.T = 0 then p.B else _ : ByteArray).size ≤ 8
    split
    · exact hf.b
    · exact behH_size hf.b
theorem PoF.ok {ps : List Pc} {p : Po} (h : PoF ps p) : p.ok := by
  obtain ⟨W', H', T', hf⟩ := h
  have h1 := hf.w1
  have h2 := hf.h1
  have h3 := hf.t1
  have h4 : p.C.size ≤ 64 := by rw [hf.c]; exact Nat.mul_le_mul hf.w1.2 hf.h1.2
  have h5 := hf.a
  have h6 := hf.b
  refine ⟨?_, ?_, ?_, by unfold maxLen; omega, by unfold maxLen; omega, by unfold maxLen; omega⟩
  · rw [hf.w]; exact WalkArith.wf_i64 (by omega)
  · rw [hf.h]; exact WalkArith.wf_i64 (by omega)
  · rw [hf.t]; exact WalkArith.wf_i64 (by omega)
/-- Behind, at a move of the list. -/
theorem behind_P {ps : List Pc} {dr : Bool} {lo : Nat} {li : Int} {re : Nat} {p : Po} {m : Mv} (h : PoF ps p) (hmv : m ∈ movP ps dr lo li re p) (v0 v1 v2 v3 v4 v5 v6 v8 v9 v10 v11 v12 : Value) (mx : Int) (w : World) (hm : w.cell? ⟨0, 0, none⟩ = some (.int .i64 mx)) :
    Calls Tryz.prog 145 #[.agg #[v0, v1, v2, v3, v4, v5, v6, .bool dr, v8, v9, v10, v11, v12], .agg #[.int .i64 p.W, .int .i64 p.H, .string p.C, .int .i64 p.T, .string p.A, .string p.B], .agg #[.int .i64 m.f, .int .i64 (m.t : Int), .int .u8 (m.c : Int)]] w fun e w' => e = .returned (.agg #[.int .i64 (behP dr p m).W, .int .i64 (behP dr p m).H, .string (behP dr p m).C, .int .i64 (behP dr p m).T, .string (behP dr p m).A, .string (behP dr p m).B]) ∧ Below w.heap.size w w' := by
  obtain ⟨W', H', T', hf⟩ := h
  rw [hf.movs] at hmv
  obtain ⟨h1, h2, h3⟩ := (mov_is hmv).facts
  have hcc : m.c.toUInt8.toNat = m.c := u8_back h3
  have ht1 := hf.t1
  rcases (by omega : T' = 0 ∨ T' = 1) with rfl | rfl
  · have hb := behind_0 W' H' p.C p.A p.B v0 v1 v2 v3 v4 v5 v6 v8 v9 v10 v11 v12 dr m.f m.t m.c.toUInt8 mx w hm hf.a hf.b h2 h1
    have hT : p.T = 0 := hf.t
    rw [hcc, ← hf.w, ← hf.h, ← hT] at hb
    refine hb.mono fun e w' hh => ⟨hh.1.trans ?_, hh.2⟩
    unfold behP
    simp only [hT, if_pos]
    rfl
  · have hb := behind_1 W' H' p.C p.A p.B v0 v1 v2 v3 v4 v5 v6 v8 v9 v10 v11 v12 dr m.f m.t m.c.toUInt8 mx w hm hf.a hf.b h2 h1
    have hT : p.T = 1 := hf.t
    rw [hcc, ← hf.w, ← hf.h, ← hT] at hb
    refine hb.mono fun e w' hh => ⟨hh.1.trans ?_, hh.2⟩
    unfold behP
    simp only [hT]
    rfl

/-- list, at a position of play. -/
theorem list_P {ps : List Pc} (dr : Bool) (lo : Nat) (li : Int) (re : Nat) {p : Po} (h : PoF ps p) (v0 v1 v2 v3 v4 v5 v11 v12 : Value) (ao : Option Addr) (cap : Nat) (w : World) (hps : isPcs w ao cap ps) (hlo8 : lo < 256) (hre8 : re < 256) :
    Calls Tryz.prog 49 #[.agg #[v0, v1, v2, v3, v4, v5, .slice ao ps.length cap, .bool dr, .int .u8 (lo : Int), .int .i64 li, .int .u8 (re : Int), v11, v12], .agg #[.int .i64 p.W, .int .i64 p.H, .string p.C, .int .i64 p.T, .string p.A, .string p.B]] w fun e w' => ∃ v, e = .returned v ∧ w'.ownsRow w.heap.size 61 3 v (movP ps dr lo li re p).length (mvals (movP ps dr lo li re p)) ∧ Below w.heap.size w w' := by
  obtain ⟨W', H', T', hf⟩ := h
  have := list_any W' H' T' p.C p.A p.B v0 v1 v2 v3 v4 v5 v11 v12 ao cap ps dr lo re li w hps hf.ok hlo8 hre8 hf.t1 hf.a hf.b hf.w1 hf.h1 hf.c
  rw [hf.movs, hf.w, hf.h, hf.t]
  exact this

/-! How many ways there are. -/
end Go.Proofs.YtihojhfpepbjhaaGreatDoor
