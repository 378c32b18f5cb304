/-
  Plain mathematics: wins counted in moves of the winner's own, and in moves of both.
  Plain mathematics: what the hunt answers, and what it keeps.
  package proof, walked: the hunt in memory; newHunt, ownMoves, keep.
-/
import Derived.RowKit
import Derived.Test.YtlogengkhlmcbaaGreatDoorJ14
import Derived.Deep.RegionHeld3
import Derived.Deep.Cut
namespace Go.Proofs.YtlogengkhlmcbaaGreatDoor

section
variable {α : Type} (nx : α → List α) (wn : α → Bool)
/-- It is the other one's turn: the winner has won, or will with so many moves of his own. -/
def lostN : Nat → α → Bool
  | 0, q => wn q
  | n + 1, q => wn q || (!(nx q).isEmpty && (nx q).all fun r => wn r || (nx r).any (lostN n))
/-- It is the winner's turn. -/
def wonN : Nat → α → Bool
  | 0, p => wn p
  | n + 1, p => wn p || (nx p).any (lostN nx wn n)
/-- Within so many moves of both. -/
def winsN (turn : α → Bool) : Nat → α → Bool
  | 0, p => wn p
  | d + 1, p => if (nx p).isEmpty then wn p else if turn p then (nx p).any (winsN turn d) else (nx p).all (winsN turn d)
theorem lost_succ (n : Nat) (q : α) : lostN nx wn (n + 1) q = (wn q || (!(nx q).isEmpty && (nx q).all (wonN nx wn (n + 1)))) := rfl

variable {nx wn} {turn : α → Bool}
/-- What the game's rules give. -/
structure Duel (ok : α → Prop) (nx : α → List α) (wn turn : α → Bool) : Prop where
  stay : ∀ p, ok p → ∀ q ∈ nx p, ok q
  over : ∀ p, ok p → wn p = true → nx p = []
  alt : ∀ p, ok p → ∀ q ∈ nx p, turn q = !turn p
  other : ∀ p, ok p → turn p = false → ∀ q ∈ nx p, wn q = false

theorem all_cong {l : List α} {f g : α → Bool} (h : ∀ a ∈ l, f a = g a) : l.all f = l.all g := by
  induction l with
  | nil => rfl
  | cons a t ih => rw [List.all_cons, List.all_cons, h a (by simp), ih (fun b hb => h b (by simp [hb]))]
theorem any_cong {l : List α} {f g : α → Bool} (h : ∀ a ∈ l, f a = g a) : l.any f = l.any g := by
  induction l with
  | nil => rfl
  | cons a t ih => rw [List.any_cons, List.any_cons, h a (by simp), ih (fun b hb => h b (by simp [hb]))]

theorem wins_eq {ok : α → Prop} (D : Duel ok nx wn turn) : ∀ (d : Nat) (p : α), ok p → (turn p = true → winsN nx wn turn d p = wonN nx wn ((d + 1) / 2) p) ∧ (turn p = false → winsN nx wn turn d p = lostN nx wn (d / 2) p)
  | 0, p, _ => ⟨fun _ => rfl, fun _ => rfl⟩
  | d + 1, p, hp => by
    have ih : ∀ q ∈ nx p, (turn q = true → winsN nx wn turn d q = wonN nx wn ((d + 1) / 2) q) ∧ (turn q = false → winsN nx wn turn d q = lostN nx wn (d / 2) q) := fun q hq => wins_eq D d q (D.stay p hp q hq)
    by_cases he : nx p = []
    · have e1 : (nx p).isEmpty = true := by rw [he]; rfl
      constructor
      · intro _
        rw [winsN, if_pos e1, show (d + 1 + 1) / 2 = d / 2 + 1 by omega, wonN, he]
        simp
      · intro _
        rw [winsN, if_pos e1]
        rcases Nat.eq_zero_or_pos ((d + 1) / 2) with h0 | h0
        · rw [h0]; rfl
        · obtain ⟨k, hk⟩ : ∃ k, (d + 1) / 2 = k + 1 := ⟨(d + 1) / 2 - 1, by omega⟩
          rw [hk, lost_succ, he]
          simp
    · have e1 : (nx p).isEmpty = false := by
        cases h : nx p with
        | nil => exact absurd h he
        | cons a t => rfl
      have hw : wn p = false := by
        cases h : wn p with
        | false => rfl
        | true => exact absurd (D.over p hp h) he
      constructor
      · intro ht
        rw [winsN, e1, ht, show (d + 1 + 1) / 2 = d / 2 + 1 by omega, wonN, hw]
        simp only [Bool.false_eq_true, if_false, if_true, Bool.false_or]
        exact any_cong (fun q hq => (ih q hq).2 (by rw [D.alt p hp q hq, ht]; rfl))
      · intro ht
        rw [winsN, e1, ht]
        simp only [Bool.false_eq_true, if_false]
        have h1 : (nx p).all (winsN nx wn turn d) = (nx p).all (wonN nx wn ((d + 1) / 2)) := all_cong (fun q hq => (ih q hq).1 (by rw [D.alt p hp q hq, ht]; rfl))
        rw [h1]
        rcases Nat.eq_zero_or_pos ((d + 1) / 2) with h0 | h0
        · rw [h0]
          show (nx p).all (wonN nx wn 0) = wn p
          rw [hw]
          cases h : nx p with
          | nil => exact absurd h he
          | cons a t =>
            rw [List.all_cons]
            have := D.other p hp ht a (by rw [h]; simp)
            show (wn a && _) = false
            rw [this]
            rfl
        · obtain ⟨k, hk⟩ : ∃ k, (d + 1) / 2 = k + 1 := ⟨(d + 1) / 2 - 1, by omega⟩
          rw [hk, lost_succ, hw, e1]
          simp

/-- Whose turn it may be. -/
def ownN (nx : α → List α) (wn turn : α → Bool) (n : Nat) (p : α) : Bool := if turn p then wonN nx wn n p else lostN nx wn n p
/-- So many moves are needed. -/
def isNeed (nx : α → List α) (wn turn : α → Bool) (p : α) (n : Nat) : Prop := ownN nx wn turn n p = true ∧ ∀ k, k < n → ownN nx wn turn k p = false
/-- More of them do no harm. -/
theorem own_mono {ok : α → Prop} (D : Duel ok nx wn turn) : ∀ (n : Nat) (p : α), ok p → (wonN nx wn n p = true → wonN nx wn (n + 1) p = true) ∧ (lostN nx wn n p = true → lostN nx wn (n + 1) p = true)
  | 0, p, hp => by
    constructor
    · intro h
      rw [wonN, show wn p = true from h]; rfl
    · intro h
      rw [lost_succ, show wn p = true from h]; rfl
  | n + 1, p, hp => by
    have hl : ∀ q, ok q → lostN nx wn n q = true → lostN nx wn (n + 1) q = true := fun q hq => (own_mono D n q hq).2
    have hwn : ∀ q, ok q → wonN nx wn (n + 1) q = true → wonN nx wn (n + 1 + 1) q = true := fun q hq h => by
      rw [wonN, Bool.or_eq_true] at h ⊢
      rcases h with h | h
      · exact .inl h
      · obtain ⟨x, hx, hx2⟩ := List.any_eq_true.1 h
        exact .inr (List.any_eq_true.2 ⟨x, hx, hl x (D.stay q hq x hx) hx2⟩)
    refine ⟨hwn p hp, fun h => ?_⟩
    rw [lost_succ, Bool.or_eq_true, Bool.and_eq_true] at h ⊢
    rcases h with h | ⟨h, h2⟩
    · exact .inl h
    · exact .inr ⟨h, List.all_eq_true.2 (fun r hr => hwn r (D.stay p hp r hr) (List.all_eq_true.1 h2 r hr))⟩
theorem own_le {ok : α → Prop} (D : Duel ok nx wn turn) {n m : Nat} (h : n ≤ m) {p : α} (hp : ok p) (hn : ownN nx wn turn n p = true) : ownN nx wn turn m p = true := by
  induction h with
  | refl => exact hn
  | step _ ih =>
    unfold ownN at *
    split
    · rename_i ht; rw [if_pos ht] at ih; exact (own_mono D _ p hp).1 ih
    · rename_i ht; rw [if_neg ht] at ih; exact (own_mono D _ p hp).2 ih
/-- It is his turn: he has won just if one of the moves has so many needed, less one. -/
theorem need_one {ok : α → Prop} (D : Duel ok nx wn turn) {p : α} (hp : ok p) (ht : turn p = true) (hw : wn p = false) (n : Nat) : ownN nx wn turn (n + 1) p = (nx p).any (ownN nx wn turn n) := by
  unfold ownN
  rw [if_pos ht, wonN, hw, Bool.false_or]
  exact any_cong (fun q hq => by rw [if_neg (by rw [D.alt p hp q hq, ht]; simp)])
theorem need_all {ok : α → Prop} (D : Duel ok nx wn turn) {p : α} (hp : ok p) (ht : turn p = false) (hw : wn p = false) (hne : nx p ≠ []) (n : Nat) : ownN nx wn turn (n + 1) p = (nx p).all (ownN nx wn turn (n + 1)) := by
  unfold ownN
  rw [if_neg (by rw [ht]; simp), lost_succ, hw, Bool.false_or]
  have e1 : (nx p).isEmpty = false := by
    cases h : nx p with
    | nil => exact absurd h hne
    | cons a t => rfl
  rw [e1]
  simp only [Bool.not_false, Bool.true_and]
  exact all_cong (fun q hq => by rw [if_pos (by rw [D.alt p hp q hq, ht]; rfl)])
end
end Go.Proofs.YtlogengkhlmcbaaGreatDoor

namespace Go.Proofs.YtlogengkhlmcbaaGreatDoor

section
variable {α : Type} {nx : α → List α} {wn turn : α → Bool} {ok : α → Prop}
/-- What need answers: so many are needed; or more than most. -/
def NeedR (nx : α → List α) (wn turn : α → Bool) (p : α) (most r : Nat) : Prop := (r ≤ most → isNeed nx wn turn p r) ∧ (most < r → ownN nx wn turn most p = false)
/-- What is kept of a position. -/
def fndOK (nx : α → List α) (wn turn : α → Bool) (p : α) (n : Nat) (s : Bool) : Prop := n ≤ 1000 ∧ (s = true → isNeed nx wn turn p n) ∧ (s = false → ∀ k, k < n → ownN nx wn turn k p = false)

theorem fnd_zero (p : α) : fndOK nx wn turn p 0 false := ⟨by omega, fun h => absurd h (by simp), fun _ k hk => by omega⟩
theorem own_zero (p : α) : ownN nx wn turn 0 p = wn p := by unfold ownN; split <;> rfl
theorem own_none {p : α} (hn : nx p = []) (hw : wn p = false) (n : Nat) : ownN nx wn turn n p = false := by
  unfold ownN
  cases n with
  | zero => split <;> exact hw
  | succ n =>
    split
    · rw [wonN, hn, hw]; rfl
    · rw [lost_succ, hn, hw]; rfl
theorem need_won {p : α} (hw : wn p = true) (most : Nat) : NeedR nx wn turn p most 0 :=
  ⟨fun _ => ⟨by rw [own_zero]; exact hw, fun k hk => by omega⟩, fun h => by omega⟩
theorem need_not {p : α} (hw : wn p = false) : NeedR nx wn turn p 0 1 := ⟨fun h => by omega, fun _ => by rw [own_zero]; exact hw⟩
theorem need_known {p : α} {n most : Nat} {s : Bool} (hf : fndOK nx wn turn p n s) (h : s = true ∨ most < n) : NeedR nx wn turn p most n := by
  obtain ⟨_, h1, h2⟩ := hf
  cases s with
  | true => exact ⟨fun _ => h1 rfl, fun h => (h1 rfl).2 most h⟩
  | false =>
    have hm : most < n := by
      rcases h with h | h
      · exact absurd h (by simp)
      · exact h
    exact ⟨fun h => by omega, fun _ => h2 rfl most hm⟩
theorem need_stuck {p : α} (hn : nx p = []) (hw : wn p = false) (most : Nat) : NeedR nx wn turn p most (most + 1) := ⟨fun h => by omega, fun _ => own_none hn hw most⟩
theorem need_low {q : α} {m r : Nat} (h : NeedR nx wn turn q m r) (hr : r ≤ m) (D : Duel ok nx wn turn) (hq : ok q) : ownN nx wn turn m q = true := own_le D hr hq (h.1 hr).1

/-- The winner's turn: one of so many is enough, none of fewer is. -/
theorem one_found (D : Duel ok nx wn turn) {p q : α} (hp : ok p) (ht : turn p = true) (hw : wn p = false) (hq : q ∈ nx p) {n r : Nat} (hn : 1 ≤ n) (hlow : ∀ k, k < n → ownN nx wn turn k p = false) (hr : NeedR nx wn turn q (n - 1) r) (hrn : r < n) : isNeed nx wn turn p n := by
  refine ⟨?_, hlow⟩
  obtain ⟨m, rfl⟩ : ∃ m, n = m + 1 := ⟨n - 1, by omega⟩
  rw [need_one D hp ht hw]
  exact List.any_eq_true.2 ⟨q, hq, need_low hr (by omega) D (D.stay p hp q hq)⟩
theorem one_step {q : α} {n r : Nat} (hn : 1 ≤ n) (hr : NeedR nx wn turn q (n - 1) r) (hrn : ¬ r < n) : ownN nx wn turn (n - 1) q = false := hr.2 (by omega)
theorem one_none (D : Duel ok nx wn turn) {p : α} (hp : ok p) (ht : turn p = true) (hw : wn p = false) {n : Nat} (hn : 1 ≤ n) (hlow : ∀ k, k < n → ownN nx wn turn k p = false) (hall : ∀ q ∈ nx p, ownN nx wn turn (n - 1) q = false) : ∀ k, k < n + 1 → ownN nx wn turn k p = false := by
  intro k hk
  by_cases h : k < n
  · exact hlow k h
  · have hkn : k = n := by omega
    subst hkn
    obtain ⟨m, rfl⟩ : ∃ m, k = m + 1 := ⟨k - 1, by omega⟩
    rw [need_one D hp ht hw]
    rw [Bool.eq_false_iff]
    intro h2
    obtain ⟨q, hq, hq2⟩ := List.any_eq_true.1 h2
    have := hall q hq
    rw [show m + 1 - 1 = m by omega] at this
    rw [this] at hq2
    exact absurd hq2 (by simp)
theorem fnd_more {p : α} {most : Nat} (hm : most ≤ 900) (h : ∀ k, k < most + 1 → ownN nx wn turn k p = false) : fndOK nx wn turn p (most + 1) false ∧ NeedR nx wn turn p most (most + 1) :=
  ⟨⟨by omega, fun h => absurd h (by simp), fun _ => h⟩, fun h => by omega, fun _ => h most (by omega)⟩
theorem fnd_just {p : α} {n most : Nat} (hm : most ≤ 900) (hn : n ≤ most) (h : isNeed nx wn turn p n) : fndOK nx wn turn p n true ∧ NeedR nx wn turn p most n :=
  ⟨⟨by omega, fun _ => h, fun h => absurd h (by simp)⟩, fun _ => h, fun h => by omega⟩
/-- Ahead of what is looked at, none is enough. -/
theorem low_start {p : α} (hw : wn p = false) {n : Nat} {s : Bool} (hf : fndOK nx wn turn p n s) (hs : s = false) : ∀ k, k < max 1 n → ownN nx wn turn k p = false := by
  intro k hk
  by_cases h0 : k = 0
  · subst h0
    rw [own_zero]
    exact hw
  · exact hf.2.2 hs k (by omega)

/-- The other one's turn: so far, of the first i. -/
def allI (nx : α → List α) (wn turn : α → Bool) (qs : List α) (i l : Nat) : Prop := (∀ q ∈ qs.take i, ownN nx wn turn l q = true) ∧ ∀ k, k < l → ∃ q ∈ qs.take i, ownN nx wn turn k q = false
theorem allI_zero (qs : List α) : allI nx wn turn qs 0 0 := ⟨fun q hq => by simp at hq, fun k hk => by omega⟩
theorem allI_step (D : Duel ok nx wn turn) {qs : List α} (hok : ∀ q ∈ qs, ok q) {i l most r : Nat} {q : α} (h : allI nx wn turn qs i l) (hi : qs[i]? = some q) (hr : NeedR nx wn turn q most r) (hrm : r ≤ most) : allI nx wn turn qs (i + 1) (max l r) := by
  have hq := List.mem_of_getElem? hi
  have htake : qs.take (i + 1) = qs.take i ++ [q] := by rw [List.take_add_one, hi]; rfl
  refine ⟨fun x hx => ?_, fun k hk => ?_⟩
  · rw [htake, List.mem_append, List.mem_singleton] at hx
    rcases hx with hx | rfl
    · exact own_le D (by omega) (hok x (List.mem_of_mem_take hx)) (h.1 x hx)
    · exact own_le D (by omega) (hok x hq) (hr.1 hrm).1
  · by_cases hkl : k < l
    · obtain ⟨x, hx, hx2⟩ := h.2 k hkl
      exact ⟨x, by rw [htake]; exact List.mem_append_left _ hx, hx2⟩
    · exact ⟨q, by rw [htake]; simp, (hr.1 hrm).2 k (by omega)⟩
theorem all_more (D : Duel ok nx wn turn) {p q : α} (hp : ok p) (ht : turn p = false) (hw : wn p = false) (hq : q ∈ nx p) {most r : Nat} (hm : 1 ≤ most) (hr : NeedR nx wn turn q most r) (hrm : most < r) : ∀ k, k < most + 1 → ownN nx wn turn k p = false := by
  have hne : nx p ≠ [] := fun e => by rw [e] at hq; simp at hq
  have h0 : ownN nx wn turn most p = false := by
    obtain ⟨m, rfl⟩ : ∃ m, most = m + 1 := ⟨most - 1, by omega⟩
    rw [need_all D hp ht hw hne, Bool.eq_false_iff]
    intro h2
    have := List.all_eq_true.1 h2 q hq
    rw [hr.2 hrm] at this
    exact absurd this (by simp)
  intro k hk
  rw [Bool.eq_false_iff]
  intro h
  rw [own_le D (show k ≤ most by omega) hp h] at h0
  exact absurd h0 (by simp)
theorem all_end (D : Duel ok nx wn turn) {p : α} (hp : ok p) (ht : turn p = false) (hw : wn p = false) (hne : nx p ≠ []) {i l : Nat} (hi : (nx p).length ≤ i) (h : allI nx wn turn (nx p) i l) : isNeed nx wn turn p l := by
  obtain ⟨h1, h2⟩ := h
  rw [List.take_of_length_le hi] at h1 h2
  obtain ⟨a, ha⟩ := List.exists_mem_of_ne_nil _ hne
  have hl : l ≠ 0 := by
    intro e
    subst e
    have := h1 a ha
    rw [own_zero, D.other p hp ht a ha] at this
    exact absurd this (by simp)
  constructor
  · obtain ⟨m, rfl⟩ : ∃ m, l = m + 1 := ⟨l - 1, by omega⟩
    rw [need_all D hp ht hw hne]
    exact List.all_eq_true.2 h1
  · intro k hk
    cases k with
    | zero =>
      rw [own_zero]
      exact hw
    | succ k =>
      obtain ⟨q, hq, hq2⟩ := h2 (k + 1) hk
      rw [need_all D hp ht hw hne, Bool.eq_false_iff]
      intro h3
      rw [List.all_eq_true.1 h3 q hq] at hq2
      exact absurd hq2 (by simp)
end
end Go.Proofs.YtlogengkhlmcbaaGreatDoor

namespace Go.Proofs.YtlogengkhlmcbaaGreatDoor
open Go.RowKit
attribute [local go_sem ↓] Go.wp_at_zero Go.wp_at_succ

theorem growB {w w' : World} (h : Below w.heap.size w w') (row : Option Nat) : w.grownBy w' row := ⟨h.os, h.tape, h.output, h.size, fun k hk _ => h.block k hk⟩
theorem growD (w : World) (row : Option Nat) : w.grownBy w.drew row := ⟨rfl, rfl, rfl, Nat.le_refl _, fun _ _ _ => rfl⟩
theorem growT {a b c : World} {g : Nat} (h : a.grownBy b (some g)) (k : b.grownBy c (some g)) : a.grownBy c (some g) := h.andThen k (fun _ hj => .inr hj)
theorem growA (w : World) (o : Obj) (row : Option Nat) : w.grownBy (w.alloc o) row := growB ((Below.refl _ _).alloc (Nat.le_refl _) o) row

/-- The hunt in a box: it knows by the map in block g. -/
def isHu (w : World) (h g : Nat) (v0 v1 v2 v3 v4 v5 v6 v7 v8 v9 v10 v11 v12 : Value) (win : Int) : Prop := w.heap[h]? = some (.cells #[v0, v1, v2, v3, v4, v5, v6, v7, v8, v9, v10, v11, v12, .int .i64 win, .map (some g), .int .i64 262144] 62 (0, 0))
theorem isHu.lt {w : World} {h g : Nat} {v0 v1 v2 v3 v4 v5 v6 v7 v8 v9 v10 v11 v12 : Value} {win : Int} (H : isHu w h g v0 v1 v2 v3 v4 v5 v6 v7 v8 v9 v10 v11 v12 win) : h < w.heap.size := (Array.getElem?_eq_some_iff.1 H).1
theorem isHu.all {w : World} {h g : Nat} {v0 v1 v2 v3 v4 v5 v6 v7 v8 v9 v10 v11 v12 : Value} {win : Int} (H : isHu w h g v0 v1 v2 v3 v4 v5 v6 v7 v8 v9 v10 v11 v12 win) : w.cell? ⟨h, 0, none⟩ = some v0 ∧ w.cell? ⟨h, 1, none⟩ = some v1 ∧ w.cell? ⟨h, 2, none⟩ = some v2 ∧ w.cell? ⟨h, 3, none⟩ = some v3 ∧ w.cell? ⟨h, 4, none⟩ = some v4 ∧ w.cell? ⟨h, 5, none⟩ = some v5 ∧ w.cell? ⟨h, 6, none⟩ = some v6 ∧ w.cell? ⟨h, 7, none⟩ = some v7 ∧ w.cell? ⟨h, 8, none⟩ = some v8 ∧ w.cell? ⟨h, 9, none⟩ = some v9 ∧ w.cell? ⟨h, 10, none⟩ = some v10 ∧ w.cell? ⟨h, 11, none⟩ = some v11 ∧ w.cell? ⟨h, 12, none⟩ = some v12 ∧ w.cell? ⟨h, 13, none⟩ = some (.int .i64 win) ∧ w.cell? ⟨h, 14, none⟩ = some (.map (some g)) ∧ w.cell? ⟨h, 15, none⟩ = some (.int .i64 262144) := by
  unfold isHu at H; simp [World.cell?, H]
theorem isHu.grown {w w' : World} {h g : Nat} {v0 v1 v2 v3 v4 v5 v6 v7 v8 v9 v10 v11 v12 : Value} {win : Int} (H : isHu w h g v0 v1 v2 v3 v4 v5 v6 v7 v8 v9 v10 v11 v12 win) (hg : w.grownBy w' (some g)) (hne : h ≠ g) : isHu w' h g v0 v1 v2 v3 v4 v5 v6 v7 v8 v9 v10 v11 v12 win := (hg.block h H.lt (by simpa using hne)).trans H
theorem isPb.grown {w w' : World} {b g : Nat} {W H T : Int} {C A B : ByteArray} (h : isPb w b W H T C A B) (hg : w.grownBy w' (some g)) (hne : b ≠ g) : isPb w' b W H T C A B := (hg.block b h.lt (by simpa using hne)).trans h
/-- A finding in a box. -/
def isFb (w : World) (b : Nat) (n : Int) (s : Bool) : Prop := w.heap[b]? = some (.cells #[.int .i64 n, .bool s] 64 (0, 0))
theorem isFb.lt {w : World} {b : Nat} {n : Int} {s : Bool} (h : isFb w b n s) : b < w.heap.size := (Array.getElem?_eq_some_iff.1 h).1
theorem isFb.all {w : World} {b : Nat} {n : Int} {s : Bool} (h : isFb w b n s) : w.cell? ⟨b, 0, none⟩ = some (.int .i64 n) ∧ w.cell? ⟨b, 1, none⟩ = some (.bool s) := by
  unfold isFb at h; simp [World.cell?, h]
theorem isFb.grown {w w' : World} {b g : Nat} {n : Int} {s : Bool} (h : isFb w b n s) (hg : w.grownBy w' (some g)) (hne : b ≠ g) : isFb w' b n s := (hg.block b h.lt (by simpa using hne)).trans h

set_option maxHeartbeats 2000000 in
set_option maxRecDepth 100000 in
theorem ownMoves_any (d : Nat) (w : World) (hd : d ≤ 9) :
    Calls Tryz.prog 11 #[.int .i64 (d : Int)] w fun e w' => e = .returned (.int .i64 (((d + 1) / 2 : Nat) : Int)) ∧ w' = w := by
  obtain ⟨D, hD⟩ : ∃ D : Nat, D = d + 1 := ⟨_, rfl⟩
  have h1 : (d : Int) + 1 = (D : Int) := by omega
  have w1 : IntKind.i64.wrap (D : Int) = (D : Int) := by unfold IntKind.wrap; simp [IntKind.signed, IntKind.bits]; omega
  obtain ⟨E, hE⟩ : ∃ E : Nat, E = D / 2 := ⟨_, rfl⟩
  have h2 : (D : Int).tdiv 2 = (E : Int) := by rw [hE]; rfl
  have w2 : IntKind.i64.wrap (E : Int) = (E : Int) := by unfold IntKind.wrap; simp [IntKind.signed, IntKind.bits]; omega
  rw [← hD, ← hE]
  clear hD hE
  go_enter Tryz.func11, Tryz.ntmps11
  go_wp2
  go_ret
  exact ⟨by first | rfl | simp [h1, w1, h2, w2], rfl⟩

set_option maxHeartbeats 2000000 in
set_option maxRecDepth 100000 in
theorem keep_any (v0 v1 v2 v3 v4 v5 v6 v7 v8 v9 v10 v11 v12 : Value) (win : Int) (h g : Nat) (p : Po) (n : Nat) (s : Bool) (F : Po → Nat → Bool → Prop) (w : World) (hH : isHu w h g v0 v1 v2 v3 v4 v5 v6 v7 v8 v9 v10 v11 v12 win) (hK : knows w g 262144 F) (hne : h ≠ g) (h0 : ∀ p : Po, p.ok → F p 0 false) (hp : p.ok) (hF : F p n s) :
    Calls Tryz.prog 27 #[.pointer (some ⟨h, 0, none⟩), .agg #[.int .i64 p.W, .int .i64 p.H, .string p.C, .int .i64 p.T, .string p.A, .string p.B], .agg #[.int .i64 (n : Int), .bool s]] w fun e w' => e = .returned (.tuple #[]) ∧ knows w' g 262144 F ∧ w.grownBy w' (some g) := by
  obtain ⟨w1, hw1⟩ : ∃ w1, w1 = w.alloc (.cells #[.int .i64 p.W, .int .i64 p.H, .string p.C, .int .i64 p.T, .string p.A, .string p.B] 24 (0, 0)) := ⟨_, rfl⟩
  obtain ⟨w2, hw2⟩ : ∃ w2, w2 = w1.alloc (.cells #[.int .i64 (n : Int), .bool s] 64 (0, 0)) := ⟨_, rfl⟩
  have hg1 : w.grownBy w1 (some g) := by rw [hw1]; exact growA _ _ _
  have hg2 : w1.grownBy w2 (some g) := by rw [hw2]; exact growA _ _ _
  have s1 : w1.heap.size = w.heap.size + 1 := by rw [hw1]; simp
  have hgl := hK.lt
  have hHl := hH.lt
  have hpb : isPb w2 w.heap.size p.W p.H p.T p.C p.A p.B := isPb.grown (show isPb w1 w.heap.size p.W p.H p.T p.C p.A p.B by rw [hw1]; exact heap_alloc_new w _) hg2 (by omega)
  have hfb : isFb w2 (w.heap.size + 1) (n : Int) s := by rw [hw2, ← s1]; exact heap_alloc_new w1 _
  have hH2 := (hH.grown hg1 hne).grown hg2 hne
  have hK2 : knows w2 g 262144 F := by
    refine hK.of_block ?_
    rw [hw2, Below.heap_alloc _ _ _ (by omega), hw1, Below.heap_alloc _ _ _ (by omega)]
  have hgw := growT hg1 hg2
  have hKd : knows w2.drew g 262144 F := hK2
  obtain ⟨k, hkN, hlen, hKk⟩ := hKd.len
  have HS : Hid (∀ u : World, w2.grownBy u (some g) → (u.cell? ⟨h, 14, none⟩ = some (.map (some g)) ∧ u.cell? ⟨h, 15, none⟩ = some (.int .i64 262144) ∧ u.cell? ⟨w.heap.size, 0, none⟩ = some (.int .i64 p.W) ∧ u.cell? ⟨w.heap.size, 1, none⟩ = some (.int .i64 p.H) ∧ u.cell? ⟨w.heap.size, 2, none⟩ = some (.string p.C) ∧ u.cell? ⟨w.heap.size, 3, none⟩ = some (.int .i64 p.T) ∧ u.cell? ⟨w.heap.size, 4, none⟩ = some (.string p.A) ∧ u.cell? ⟨w.heap.size, 5, none⟩ = some (.string p.B) ∧ u.cell? ⟨w.heap.size + 1, 0, none⟩ = some (.int .i64 (n : Int)) ∧ u.cell? ⟨w.heap.size + 1, 1, none⟩ = some (.bool s))) := hide (fun u hu => by
    obtain ⟨-, -, -, -, -, -, -, -, -, -, -, -, -, -, y14, y15⟩ := (hH2.grown hu hne).all
    obtain ⟨z0, z1, z2, z3, z4, z5⟩ := (hpb.grown hu (by omega)).all
    obtain ⟨x0, x1⟩ := (hfb.grown hu (by omega)).all
    exact ⟨y14, y15, z0, z1, z2, z3, z4, z5, x0, x1⟩)
  have HG0 : Hid (w2.grownBy w2.drew (some g)) := hide (growD w2 _)
  have HW1 := hide hw1
  have HW2 := hide hw2
  have HGW := hide hgw
  clear hw1 hw2 hg1 hg2 s1 hpb hfb hH2 hK2 hgw hK hH
  have HS1 : Hid (w2.drew.cell? ⟨h, 14, none⟩ = some (.map (some g)) ∧ w2.drew.cell? ⟨h, 15, none⟩ = some (.int .i64 262144) ∧ ∀ ty, (Builtin.len_ #[60] ty #[.map (some g)]).run Tryz.prog w2.drew = .ok (.int .i64 (k : Int)) w2.drew) := hide ⟨(unhide HS _ (unhide HG0)).1, (unhide HS _ (unhide HG0)).2.1, hlen⟩
  clear hlen
  by_cases hk : 262144 ≤ k
  · have hki : (262144 : Int) ≤ (k : Int) := by omega
    obtain ⟨w3, hcl, hK3, hg3⟩ := hKd.clear h0
    have HG3 : Hid (w2.grownBy w3 (some g)) := hide (growT (unhide HG0) hg3)
    have HG3d : Hid (w2.grownBy w3.drew (some g)) := hide (growT (unhide HG3) (growD _ _))
    obtain ⟨w4, hup, hK4, hg4⟩ := knows.put (w := w3.drew) hK3 (by unfold maxLen; omega) hp hF
    have hup4 : (Instr.mapUpdate 60 (.map (some g)) (.agg #[.int .i64 p.W, .int .i64 p.H, .string p.C, .int .i64 p.T, .string p.A, .string p.B]) (.agg #[.int .i64 (n : Int), .bool s])).run Tryz.prog w3.drew = .ok () w4 := hup
    have HG4 : Hid (w2.grownBy w4 (some g)) := hide (growT (unhide HG3d) hg4)
    have HK4 : Hid (knows w4 g 262144 F) := hide (by
      obtain ⟨D, hown, hD⟩ := hK4
      exact ⟨D, hown.mono (by omega), hD⟩)
    obtain ⟨d14, d15, -, -, -, -, -, -, -, -⟩ := unhide HS _ (unhide HG0)
    clear hKd hKk hF h0 hp hK3 hg3 hup hK4 hg4 hk
    go_enter Tryz.func27, Tryz.ntmps27
    go_upto_region 1 with fail
    rw [← unhide HW1, ← unhide HW2]
    clear HW1 HW2
    go_region_held3 (fun u => u.cell? ⟨h, 14, none⟩ = some (.map (some g)) ∧ u.cell? ⟨h, 15, none⟩ = some (.int .i64 262144) ∧ ∀ ty, (Builtin.len_ #[60] ty #[.map (some g)]).run Tryz.prog u = .ok (.int .i64 (k : Int)) u)
      (first
        | with_reducible exact unhide HS1)
      (fail)
    all_goals
      go_upto_region 3 with fail
      go_region_held3 (fun u => u.cell? ⟨h, 14, none⟩ = some (.map (some g)) ∧ u.cell? ⟨h, 15, none⟩ = some (.int .i64 262144) ∧ u.cell? ⟨w.heap.size, 0, none⟩ = some (.int .i64 p.W) ∧ u.cell? ⟨w.heap.size, 1, none⟩ = some (.int .i64 p.H) ∧ u.cell? ⟨w.heap.size, 2, none⟩ = some (.string p.C) ∧ u.cell? ⟨w.heap.size, 3, none⟩ = some (.int .i64 p.T) ∧ u.cell? ⟨w.heap.size, 4, none⟩ = some (.string p.A) ∧ u.cell? ⟨w.heap.size, 5, none⟩ = some (.string p.B) ∧ u.cell? ⟨w.heap.size + 1, 0, none⟩ = some (.int .i64 (n : Int)) ∧ u.cell? ⟨w.heap.size + 1, 1, none⟩ = some (.bool s))
        (first
          | with_reducible exact unhide HS _ (unhide HG3d)
          | with_reducible exact unhide HS _ (unhide HG4))
        (fail)
      all_goals
        go_wp2
        refine bodyPost_end (v := .tuple #[]) (by simp [results, Tryz.results27]) rfl ⟨rfl, unhide HK4, growT (unhide HGW) (unhide HG4)⟩
  · have hki : ¬ (262144 : Int) ≤ (k : Int) := by omega
    have HG0d : Hid (w2.grownBy w2.drew.drew (some g)) := hide (growT (unhide HG0) (growD _ _))
    obtain ⟨w4, hup, hK4, hg4⟩ := knows.put (w := w2.drew.drew) hKk (by unfold maxLen; omega) hp hF
    have hup4 : (Instr.mapUpdate 60 (.map (some g)) (.agg #[.int .i64 p.W, .int .i64 p.H, .string p.C, .int .i64 p.T, .string p.A, .string p.B]) (.agg #[.int .i64 (n : Int), .bool s])).run Tryz.prog w2.drew.drew = .ok () w4 := hup
    have HG4 : Hid (w2.grownBy w4 (some g)) := hide (growT (unhide HG0d) hg4)
    have HK4 : Hid (knows w4 g 262144 F) := hide (by
      obtain ⟨D, hown, hD⟩ := hK4
      exact ⟨D, hown.mono (by omega), hD⟩)
    clear hKd hKk hF h0 hp hup hK4 hg4 hk
    go_enter Tryz.func27, Tryz.ntmps27
    go_upto_region 1 with fail
    rw [← unhide HW1, ← unhide HW2]
    clear HW1 HW2
    go_region_held3 (fun u => u.cell? ⟨h, 14, none⟩ = some (.map (some g)) ∧ u.cell? ⟨h, 15, none⟩ = some (.int .i64 262144) ∧ ∀ ty, (Builtin.len_ #[60] ty #[.map (some g)]).run Tryz.prog u = .ok (.int .i64 (k : Int)) u)
      (first
        | with_reducible exact unhide HS1)
      (fail)
    all_goals
      go_upto_region 3 with fail
      go_region_held3 (fun u => u.cell? ⟨h, 14, none⟩ = some (.map (some g)) ∧ u.cell? ⟨h, 15, none⟩ = some (.int .i64 262144) ∧ u.cell? ⟨w.heap.size, 0, none⟩ = some (.int .i64 p.W) ∧ u.cell? ⟨w.heap.size, 1, none⟩ = some (.int .i64 p.H) ∧ u.cell? ⟨w.heap.size, 2, none⟩ = some (.string p.C) ∧ u.cell? ⟨w.heap.size, 3, none⟩ = some (.int .i64 p.T) ∧ u.cell? ⟨w.heap.size, 4, none⟩ = some (.string p.A) ∧ u.cell? ⟨w.heap.size, 5, none⟩ = some (.string p.B) ∧ u.cell? ⟨w.heap.size + 1, 0, none⟩ = some (.int .i64 (n : Int)) ∧ u.cell? ⟨w.heap.size + 1, 1, none⟩ = some (.bool s))
        (first
          | with_reducible exact unhide HS _ (unhide HG0d)
          | with_reducible exact unhide HS _ (unhide HG4))
        (fail)
      all_goals
        go_wp2
        refine bodyPost_end (v := .tuple #[]) (by simp [results, Tryz.results27]) rfl ⟨rfl, unhide HK4, growT (unhide HGW) (unhide HG4)⟩
end Go.Proofs.YtlogengkhlmcbaaGreatDoor
