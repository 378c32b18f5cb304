/-
  board.Check, board.turned and board.Turned, as their callers want them: for every position and every turn.
  parlourbig's words, walked: trim, cmp.
  parlourbig's numbers, walked: words, give, SetInt64, NewInt.
-/
import Derived.Test.YthplbfjpmnpjmaaDoorJ0
namespace Go.Proofs.YthplbfjpmnpjmaaDoor
open Go.RowKit

/-- A position's facts, in numbers. -/
structure IsPos (W H : Nat) (C : ByteArray) (T : Int) (A B : ByteArray) : Prop where
  w0 : 1 ≤ W
  w1 : W ≤ 8
  h0 : 1 ≤ H
  h1 : H ≤ 8
  c : C.size = W * H
  cs : cellsB C.data.toList = true
  t : T = 0 ∨ T = 1
  a : handB A.data.toList = true
  b : handB B.data.toList = true
theorem handB_size {A : ByteArray} (h : handB A.data.toList = true) : A.size ≤ 8 := by
  simp only [handB, Bool.and_eq_true, decide_eq_true_eq, len_data] at h
  exact h.1
theorem IsPos.as {W H : Nat} {C : ByteArray} {T : Int} {A B : ByteArray} (p : IsPos W H C T A B) : A.size ≤ 8 := handB_size p.a
theorem IsPos.bs {W H : Nat} {C : ByteArray} {T : Int} {A B : ByteArray} (p : IsPos W H C T A B) : B.size ≤ 8 := handB_size p.b
theorem IsPos.c64 {W H : Nat} {C : ByteArray} {T : Int} {A B : ByteArray} (p : IsPos W H C T A B) : C.size ≤ 64 := by
  rw [p.c]; exact Nat.mul_le_mul p.w1 p.h1
theorem IsPos.posB {W H : Nat} {C : ByteArray} {T : Int} {A B : ByteArray} (p : IsPos W H C T A B) : posB W H C.data.toList T A.data.toList B.data.toList = true := by
  have hc : (C.size : Int) = (W : Int) * H := by rw [p.c]; simp
  have := p.w0; have := p.w1; have := p.h0; have := p.h1
  simp only [YthplbfjpmnpjmaaDoor.posB, sideB, len_data, p.cs, p.a, p.b, hc, Bool.and_eq_true, Bool.or_eq_true, decide_eq_true_eq, and_true]
  refine ⟨⟨⟨?_, ?_⟩, ?_⟩, ?_⟩
  all_goals first | exact p.t | omega
theorem isPos_of {W H : Int} {C : ByteArray} {T : Int} {A B : ByteArray} (h : posB W H C.data.toList T A.data.toList B.data.toList = true) : ∃ w h : Nat, W = w ∧ H = h ∧ IsPos w h C T A B := by
  simp only [YthplbfjpmnpjmaaDoor.posB, sideB, len_data, Bool.and_eq_true, Bool.or_eq_true, decide_eq_true_eq] at h
  obtain ⟨⟨⟨⟨⟨hW, hH⟩, hc, hcs⟩, ht⟩, ha⟩, hb⟩ := h
  obtain ⟨w, rfl⟩ := Int.eq_ofNat_of_zero_le (show 0 ≤ W by omega)
  obtain ⟨h, rfl⟩ := Int.eq_ofNat_of_zero_le (show 0 ≤ H by omega)
  refine ⟨w, h, rfl, rfl, by omega, by omega, by omega, by omega, ?_, hcs, ht, ha, hb⟩
  have : ((w * h : Nat) : Int) = (w : Int) * h := by simp
  omega

def twd (W H k : Nat) : Nat := if k / 4 % 2 = 1 then H else W
def thd (W H k : Nat) : Nat := if k / 4 % 2 = 1 then W else H
def tstr (C : ByteArray) (W H k : Nat) : ByteArray := ⟨(tcells C.data.toList W H k (twd W H k) (W * H)).toArray⟩

theorem and4 : ∀ k : Nat, k < 8 → (bits .and .i64 (k : Int) 4 != 0) = decide (k / 4 % 2 = 1) := by decide +kernel

theorem bcell {W w1 : World} (hb : Below W.heap.size W w1) : (∀ b o, b < W.heap.size → w1.cell? ⟨b, o, none⟩ = W.cell? ⟨b, o, none⟩) ∧ (∀ b o, b < W.heap.size → w1.frozen? ⟨b, o, none⟩ = W.frozen? ⟨b, o, none⟩) :=
  ⟨fun b o h => hb.cell (p := ⟨b, o, none⟩) h, fun b o h => hb.frozen (p := ⟨b, o, none⟩) h⟩

/-- No position. -/
def zeroPos : Value := .agg #[.int .i64 0, .int .i64 0, .string ⟨#[]⟩, .int .i64 0, .string ⟨#[]⟩, .string ⟨#[]⟩]

end Go.Proofs.YthplbfjpmnpjmaaDoor

namespace Go.Proofs.YthplbfjpmnpjmaaDoor
open Go.RowKit

/-- A slice of words: at ao, of capacity cap, l. -/
structure isWs (w : World) (ao : Option Addr) (cap : Nat) (l : List Nat) : Prop where
  small : ∀ x ∈ l, x < 4294967296
  le : l.length ≤ cap
  nil : ao = none → cap = 0
  len : l.length ≤ 100000
  cells : l ≠ [] → ∃ g, ao = some ⟨g, 0, none⟩ ∧ g < w.heap.size ∧ ∀ (k x : Nat), l[k]? = some x → w.cell? ⟨g, k, none⟩ = some (.int .u32 (x : Int))
theorem isWs.below {w w' : World} {ao : Option Addr} {cap : Nat} {l : List Nat} (h : isWs w ao cap l) {B : Nat} (hb : Below B w w') (hB : w.heap.size ≤ B) : isWs w' ao cap l := by
  refine ⟨h.small, h.le, h.nil, h.len, fun hl => ?_⟩
  obtain ⟨g, e, hg, hc⟩ := h.cells hl
  have := hb.size
  exact ⟨g, e, by omega, fun k x hx => (hb.cell (p := ⟨g, k, none⟩) (by dsimp only; omega)).trans (hc k x hx)⟩
theorem isWs.drewN {w : World} {ao : Option Addr} {cap : Nat} {l : List Nat} (h : isWs w ao cap l) (n : Nat) : isWs (w.drewN n) ao cap l := ⟨h.small, h.le, h.nil, h.len, h.cells⟩
theorem isWs.take {w : World} {ao : Option Addr} {cap : Nat} {l : List Nat} (h : isWs w ao cap l) (n : Nat) : isWs w ao cap (l.take n) := by
  refine ⟨fun x hx => h.small x (List.mem_of_mem_take hx), by have := h.le; rw [List.length_take]; omega, h.nil, by have := h.len; rw [List.length_take]; omega, fun hl => ?_⟩
  obtain ⟨g, e, hg, hc⟩ := h.cells (fun e => hl (by rw [e]; simp))
  refine ⟨g, e, hg, fun k x hx => hc k x ?_⟩
  rw [List.getElem?_take] at hx
  split at hx
  · exact hx
  · cases hx

def trimL : List Nat → List Nat
  | [] => []
  | x :: l => if trimL l = [] ∧ x = 0 then [] else x :: trimL l
theorem trimL_zero (l : List Nat) : trimL (l ++ [0]) = trimL l := by
  induction l with
  | nil => rfl
  | cons x l ih => simp only [List.cons_append, trimL, ih]
theorem trimL_last (l : List Nat) (x : Nat) (h : x ≠ 0) : trimL (l ++ [x]) = l ++ [x] := by
  induction l with
  | nil => simp [trimL, h]
  | cons y l ih => simp [trimL, ih]
theorem trimL_val (B : Nat) (l : List Nat) : val B (trimL l) = val B l := by
  induction l with
  | nil => rfl
  | cons x l ih =>
    simp only [trimL]
    split
    · rename_i h
      rw [h.1] at ih
      simp only [val] at ih ⊢
      rw [← ih, h.2]; simp
    · simp only [val, ih]
theorem take_snocL (l : List Nat) (k : Nat) (h : k < l.length) : l.take (k + 1) = l.take k ++ [l[k]] := List.take_succ_eq_append_getElem h

set_option maxHeartbeats 1000000 in
theorem trim_any (ao : Option Addr) (cap : Nat) (l : List Nat) (w : World) (h : isWs w ao cap l) :
    Calls Tryd.prog 74 #[.slice ao l.length cap] w fun e w' => ∃ ao' cap', e = .returned (.slice ao' (trimL l).length cap') ∧ isWs w' ao' cap' (trimL l) ∧ w' = w := by
  have hcap := h.le
  have hlen0 := h.len
  go_enter Tryd.func74, Tryd.ntmps74
  go_wp2
  go_loopw [3] (fun v wr => ∃ n : Nat, n ≤ l.length ∧ v = .int .i64 (n : Int) ∧ trimL (l.take n) = trimL l ∧ wr = w) (fun v _ => (intOf v).toNat)
  case atStart => exact ⟨l.length, Nat.le_refl _, rfl, by rw [List.take_length], rfl⟩
  case round =>
    obtain ⟨n, hn, rfl, ht, rfl⟩ := hrel
    cases n with
    | zero =>
      have htr : trimL l = [] := by rw [← ht]; rfl
      have HT := hide htr
      clear ht htr
      have h0 := h.take 0
      cases ao with
      | none =>
        have hc0 := h.nil rfl
        subst hc0
        go_wp2
        go_ret
        rw [unhide HT]
        exact ⟨_, _, rfl, h0, rfl⟩
      | some a =>
        go_wp2
        go_ret
        rw [unhide HT]
        exact ⟨_, _, rfl, h0, rfl⟩
    | succ k =>
      have hk : k < l.length := by omega
      have hki : ((k + 1 : Nat) : Int) = (k : Int) + 1 := by omega
      rw [hki]
      clear hki
      obtain ⟨g, e, hg, hc⟩ := h.cells (fun e => by rw [e] at hk; simp at hk)
      subst e
      obtain ⟨x, hx⟩ : ∃ x, l[k]? = some x := ⟨l[k], List.getElem?_eq_getElem hk⟩
      have hxe : l[k] = x := by rw [List.getElem?_eq_getElem hk] at hx; exact Option.some.inj hx
      have cx := hc k x hx
      have hxl := h.small x (List.mem_of_getElem? hx)
      have hsn := take_snocL l k hk
      rw [hxe] at hsn
      rw [hsn] at ht
      have hki : (k : Int) < (l.length : Int) := by omega
      have hk0 : (0 : Int) ≤ (k : Int) := by omega
      have HT := hide ht
      clear ht hxe hx hc
      by_cases x0 : x = 0
      · subst x0
        have ht2 : trimL (l.take k) = trimL l := by rw [← unhide HT, trimL_zero]
        have HT2 := hide ht2
        clear ht2
        go_wp2
        go_roundw
        case rel => exact ⟨k, by omega, by go_num, unhide HT2, trivial⟩
        case measure => simp [intOf]
      · have ht2 : trimL l = l.take (k + 1) := by rw [← unhide HT, trimL_last _ _ x0, ← hsn]
        have HT2 := hide ht2
        have x0i : ¬ (x : Int) = 0 := by omega
        have hkc : (k : Int) + 1 ≤ (cap : Int) := by omega
        have hw := h.take (k + 1)
        have hlen : (l.take (k + 1)).length = k + 1 := by rw [List.length_take]; omega
        have HLEN := hide hlen
        clear ht2 hsn hlen
        go_wp2
        go_ret
        rw [unhide HT2]
        exact ⟨_, _, by rw [unhide HLEN]; rfl, hw, rfl⟩

/-- The order of two numbers by their words: by length, then from the highest word down. -/
def cmpW : List Nat → List Nat → Int
  | [], [] => 0
  | x :: a, y :: b => if cmpW a b = 0 then (if x < y then -1 else if y < x then 1 else 0) else cmpW a b
  | _, _ => 0
theorem cmpW_snoc (a b : List Nat) (x y : Nat) (h : a.length = b.length) : cmpW (a ++ [x]) (b ++ [y]) = if x < y then -1 else if y < x then 1 else cmpW a b := by
  induction a generalizing b with
  | nil =>
    cases b with
    | nil => simp [cmpW]
    | cons y b => simp at h
  | cons u a ih =>
    cases b with
    | nil => simp at h
    | cons v b =>
      have hl : a.length = b.length := by simpa using h
      simp only [List.cons_append, cmpW, ih b hl]
      by_cases h1 : x < y
      · simp [h1]
      · by_cases h2 : y < x
        · simp [h1, h2]
        · simp [h1, h2]
/-- It is the order of the numbers. -/
theorem cmpW_val (B : Nat) (a b : List Nat) (hl : a.length = b.length) (ha : ∀ x ∈ a, x < B) (hb : ∀ x ∈ b, x < B) : cmpW a b = if val B a < val B b then -1 else if val B b < val B a then 1 else 0 := by
  induction a generalizing b with
  | nil =>
    cases b with
    | nil => simp [cmpW, val]
    | cons y b => simp at hl
  | cons x a ih =>
    cases b with
    | nil => simp at hl
    | cons y b =>
      have h1 := ih b (by simpa using hl) (fun z hz => ha z (by simp [hz])) (fun z hz => hb z (by simp [hz]))
      have hx := ha x (by simp)
      have hy := hb y (by simp)
      show cmpW (x :: a) (y :: b) = if x + B * val B a < y + B * val B b then -1 else if y + B * val B b < x + B * val B a then 1 else 0
      simp only [cmpW, h1]
      rcases Nat.lt_trichotomy (val B a) (val B b) with h | h | h
      · have h3 : B * (val B a + 1) ≤ B * val B b := Nat.mul_le_mul_left B h
        rw [Nat.mul_add, Nat.mul_one] at h3
        have h4 : x + B * val B a < y + B * val B b := by omega
        simp [h, h4]
      · rw [h]
        simp
      · have h3 : B * (val B b + 1) ≤ B * val B a := Nat.mul_le_mul_left B h
        rw [Nat.mul_add, Nat.mul_one] at h3
        have h4 : y + B * val B b < x + B * val B a := by omega
        have h5 : ¬ x + B * val B a < y + B * val B b := by omega
        have h6 : ¬ val B a < val B b := by omega
        simp [h, h4, h5, h6]

set_option maxHeartbeats 1000000 in
theorem cmp_any (ao bo : Option Addr) (ca cb : Nat) (a b : List Nat) (w : World) (ha : isWs w ao ca a) (hb : isWs w bo cb b) :
    Calls Tryd.prog 53 #[.slice ao a.length ca, .slice bo b.length cb] w fun e w' =>
      e = .returned (.int .i64 (if a.length < b.length then -1 else if b.length < a.length then 1 else cmpW a b)) ∧ ∃ n, w' = w.drewN n := by
  have la := ha.len
  have lb := hb.len
  rcases Nat.lt_trichotomy a.length b.length with hl | hl | hl
  · rw [if_pos hl]
    have hli : (a.length : Int) < (b.length : Int) := by omega
    have hne : ¬ (a.length : Int) = (b.length : Int) := by omega
    go_enter Tryd.func53, Tryd.ntmps53
    go_wp2
    go_ret
    exact ⟨rfl, 0, rfl⟩
  · rw [if_neg (by omega), if_neg (by omega)]
    obtain ⟨n, hn⟩ : ∃ n, n = a.length := ⟨_, rfl⟩
    have hnb : b.length = n := by omega
    rw [hnb, ← hn]
    have HN := hide hn
    have HNB := hide hnb
    rw [← hn] at la
    clear hl hn hnb lb
    obtain ⟨R, hR⟩ : ∃ R, R = cmpW a b := ⟨_, rfl⟩
    rw [← hR]
    have hR0 : R = cmpW (a.take n) (b.take n) := by
      rw [hR]
      congr 1
      · rw [List.take_of_length_le (by rw [unhide HN]; exact Nat.le_refl _)]
      · rw [List.take_of_length_le (by rw [unhide HNB]; exact Nat.le_refl _)]
    clear hR
    go_enter Tryd.func53, Tryd.ntmps53
    go_wp2
    go_loopw [5] (fun v wr => ∃ k : Nat, k ≤ n ∧ v = .int .i64 ((k : Int) - 1) ∧ R = cmpW (a.take k) (b.take k) ∧ ∃ d, wr = w.drewN d) (fun v _ => (intOf v + 1).toNat)
    case atStart => exact ⟨n, Nat.le_refl _, by go_num, hR0, 0, rfl⟩
    case round =>
      obtain ⟨k, hk, rfl, hRk, d, hd⟩ := hrel
      subst hd
      clear hR0
      cases k with
      | zero =>
        have hz : R = 0 := by rw [hRk]; rfl
        subst hz
        go_wp2
        go_ret
        exact ⟨rfl, d, rfl⟩
      | succ j =>
        have hji : ((j + 1 : Nat) : Int) - 1 = (j : Int) := by omega
        rw [hji]
        clear hji
        have hja : j < a.length := by rw [← unhide HN]; omega
        have hjb : j < b.length := by rw [unhide HNB]; omega
        obtain ⟨ga, ea, _, hca⟩ := ha.cells (fun e => by rw [e] at hja; simp at hja)
        obtain ⟨gb, eb, _, hcb⟩ := hb.cells (fun e => by rw [e] at hjb; simp at hjb)
        subst ea
        subst eb
        have cx := hca j a[j] (List.getElem?_eq_getElem hja)
        have cy := hcb j b[j] (List.getElem?_eq_getElem hjb)
        have hx := ha.small a[j] (List.getElem_mem hja)
        have hy := hb.small b[j] (List.getElem_mem hjb)
        rw [take_snocL a j hja, take_snocL b j hjb, cmpW_snoc _ _ _ _ (by rw [List.length_take, List.length_take]; omega)] at hRk
        generalize a[j] = x at cx hx hRk
        generalize b[j] = y at cy hy hRk
        have hjn : (j : Int) < (n : Int) := by omega
        have hj0 : (0 : Int) ≤ (j : Int) := by omega
        have HR := hide hRk
        clear hRk hca hcb
        rcases Nat.lt_trichotomy x y with hxy | hxy | hxy
        · have hr : R = -1 := by rw [unhide HR, if_pos hxy]
          subst hr
          have e1 : ((x : Int) != (y : Int)) = true := by simp; omega
          have e2 : (x : Int) < (y : Int) := by omega
          go_wp2
          go_quiet (fail)
          go_wp2
          go_quiet (fail)
          go_wp2
          go_ret
          exact ⟨rfl, _, by rw [World.drewN_drewN, World.drewN_drewN]⟩
        · subst hxy
          have hr : R = cmpW (a.take j) (b.take j) := by rw [unhide HR]; simp
          have HR2 := hide hr
          clear hr
          go_wp2
          go_quiet (fail)
          go_wp2
          go_roundw
          case rel => exact ⟨j, by omega, by go_num, unhide HR2, _, rfl⟩
          case measure => simp [intOf]
        · have hr : R = 1 := by rw [unhide HR, if_neg (by omega), if_pos hxy]
          subst hr
          have e1 : ((x : Int) != (y : Int)) = true := by simp; omega
          have e2 : decide ((x : Int) < (y : Int)) = false := by simp; omega
          have e3 : ¬ (x : Int) < (y : Int) := by omega
          go_wp2
          go_quiet (fail)
          go_wp2
          go_quiet (fail)
          go_wp2
          go_ret
          exact ⟨rfl, _, by rw [World.drewN_drewN, World.drewN_drewN]⟩
  · rw [if_neg (by omega), if_pos hl]
    have hli : ¬ (a.length : Int) < (b.length : Int) := by omega
    have hne : ¬ (a.length : Int) = (b.length : Int) := by omega
    go_enter Tryd.func53, Tryd.ntmps53
    go_wp2
    go_ret
    exact ⟨rfl, 0, rfl⟩
end Go.Proofs.YthplbfjpmnpjmaaDoor

namespace Go.Proofs.YthplbfjpmnpjmaaDoor
open Go.RowKit

def B32 : Nat := 4294967296

set_option maxHeartbeats 1000000 in
theorem words_any (lo hi : Nat) (w : World) (h1 : lo < 4294967296) (h2 : hi < 4294967296) :
    Calls Tryd.prog 65 #[.int .u64 ((lo + 4294967296 * hi : Nat) : Int)] w fun e w' => ∃ ao cap, e = .returned (.slice ao (trimL [lo, hi]).length cap) ∧ isWs w' ao cap (trimL [lo, hi]) ∧ Below w.heap.size w w' := by
  obtain ⟨x, hx⟩ : ∃ x, x = lo + 4294967296 * hi := ⟨_, rfl⟩
  rw [← hx]
  have hxl : x < 18446744073709551616 := by omega
  have hlo : (x : Int) % 4294967296 = (lo : Int) := by omega
  have hhi : (x : Int) / 4294967296 = (hi : Int) := by omega
  clear hx
  have hws : isWs (w.alloc (.cells #[.int .u32 (lo : Int), .int .u32 (hi : Int)] 106 (0, 0))) (some ⟨w.heap.size, 0, none⟩) 2 [lo, hi] := by
    refine ⟨by simp; omega, Nat.le_refl _, (fun e => by cases e), by simp, fun _ => ⟨w.heap.size, rfl, by simp, ?_⟩⟩
    intro k x hx
    match k, hx with
    | 0, hx => simp at hx; subst hx; simp
    | 1, hx => simp at hx; subst hx; simp
  go_enter Tryd.func65, Tryd.ntmps65
  go_wp2_with fail
  refine (trim_any _ _ [lo, hi] _ hws).mono ?_
  rintro e w1 ⟨ao, cap, rfl, hw1, rfl⟩
  go_wp2
  go_ret
  exact ⟨ao, cap, rfl, hw1, (Below.refl _ _).alloc (Nat.le_refl _) _⟩

/-- Below S all but block b is as it was. -/
structure But (S b : Nat) (w w' : World) : Prop where
  os : w'.os = w.os
  tape : w'.tape = w.tape
  output : w'.output = w.output
  size : w.heap.size ≤ w'.heap.size
  block : ∀ k, k < S → k ≠ b → w'.heap[k]? = w.heap[k]?
theorem But.of_below {S b : Nat} {w w' : World} (h : Below S w w') : But S b w w' := ⟨h.os, h.tape, h.output, h.size, fun k hk _ => h.block k hk⟩
theorem But.trans {S b : Nat} {u v w : World} (h : But S b u v) (k : But S b v w) : But S b u w :=
  ⟨k.os.trans h.os, k.tape.trans h.tape, k.output.trans h.output, Nat.le_trans h.size k.size, fun i hi hn => (k.block i hi hn).trans (h.block i hi hn)⟩
theorem But.mono {S S' b : Nat} {v w : World} (h : But S b v w) (hS : S' ≤ S) : But S' b v w := ⟨h.os, h.tape, h.output, h.size, fun i hi hn => h.block i (by omega) hn⟩
theorem But.set {S b : Nat} {v w : World} (h : But S b v w) (i : Nat) (u : Value) : But S b v (w.setCell ⟨b, i, none⟩ u) :=
  ⟨h.os, h.tape, h.output, by have := h.size; simpa [World.setCell] using this, fun k hk hn => (Below.heap_setCell _ _ _ _ hn).trans (h.block k hk hn)⟩
theorem But.low {S b : Nat} {v w : World} (h : But S b v w) (hb : b ≤ S) : Below b v w := ⟨h.os, h.tape, h.output, h.size, fun k hk => h.block k (by omega) (by omega)⟩
theorem But.fresh {S b : Nat} {v w : World} (h : But S b v w) {B : Nat} (hB : B ≤ b) (hS : B ≤ S) : Below B v w := ⟨h.os, h.tape, h.output, h.size, fun k hk => h.block k (by omega) (by omega)⟩

/-- In block b lies a number. -/
def isNum (w : World) (b : Nat) (v : Value) : Prop := ∃ s, w.heap[b]? = some (.cells #[.bool s, v] 37 (0, 0))
/-- In block b lies the number N, not below 0. -/
def isBig (w : World) (b N : Nat) : Prop := ∃ ao cap l, w.heap[b]? = some (.cells #[.bool false, .slice ao l.length cap] 37 (0, 0)) ∧ isWs w ao cap l ∧ trimL l = l ∧ val 4294967296 l = N
theorem block_lt {w : World} {b : Nat} {o : Obj} (h : w.heap[b]? = some o) : b < w.heap.size := by
  rcases Nat.lt_or_ge b w.heap.size with h' | h'
  · exact h'
  · simp [Array.getElem?_eq_none h'] at h
theorem isBig.lt {w : World} {b N : Nat} (h : isBig w b N) : b < w.heap.size := by
  obtain ⟨ao, cap, l, hb, _⟩ := h
  exact block_lt hb
theorem isBig.num {w : World} {b N : Nat} (h : isBig w b N) : ∃ v, isNum w b v := by
  obtain ⟨ao, cap, l, hb, _⟩ := h
  exact ⟨_, _, hb⟩
theorem isBig.below {w w' : World} {b N S : Nat} (h : isBig w b N) (k : Below S w w') (hS : w.heap.size ≤ S) : isBig w' b N := by
  have hlt := h.lt
  obtain ⟨ao, cap, l, hb, hw, r⟩ := h
  exact ⟨ao, cap, l, (k.block b (by omega)).trans hb, hw.below k hS, r⟩
/-- Words lie in no number's own block. -/
theorem isWs.but {w w' : World} {ao : Option Addr} {cap S b : Nat} {l : List Nat} {v : Value} (h : isWs w ao cap l) (hb : isNum w b v) (k : But S b w w') (hS : w.heap.size ≤ S) : isWs w' ao cap l := by
  refine ⟨h.small, h.le, h.nil, h.len, fun hl => ?_⟩
  obtain ⟨g, e, hg, hc⟩ := h.cells hl
  have hgb : g ≠ b := by
    rintro rfl
    obtain ⟨s, hs⟩ := hb
    obtain ⟨x, hx⟩ : ∃ x, l[0]? = some x := ⟨l[0]'(List.length_pos_iff.2 hl), List.getElem?_eq_getElem _⟩
    have := hc 0 x hx
    simp [World.cell?, hs] at this
  have := k.size
  exact ⟨g, e, by omega, fun j x hx => (World.cell?_of_block (w := w) (k.block g (by omega) hgb)).trans (hc j x hx)⟩
theorem isBig.but {w w' : World} {c b N S : Nat} {v : Value} (h : isBig w c N) (hb : isNum w b v) (k : But S b w w') (hS : w.heap.size ≤ S) (hn : c ≠ b) : isBig w' c N := by
  have hlt := h.lt
  obtain ⟨ao, cap, l, hc, hw, r⟩ := h
  exact ⟨ao, cap, l, (k.block c (by omega) hn).trans hc, hw.but hb k hS, r⟩

set_option maxHeartbeats 1000000 in
theorem give_any (b : Nat) (v : Value) (ao : Option Addr) (cap : Nat) (l : List Nat) (w : World) (hb : isNum w b v) (h : isWs w ao cap l) (ht : trimL l = l) :
    Calls Tryd.prog 48 #[.pointer (some ⟨b, 0, none⟩), .bool false, .slice ao l.length cap] w fun e w' =>
      e = .returned (.pointer (some ⟨b, 0, none⟩)) ∧ isBig w' b (val 4294967296 l) ∧ But w.heap.size b w w' := by
  have hb' := hb
  obtain ⟨s, hs⟩ := hb
  have c0 : w.cell? ⟨b, 0, none⟩ = some (.bool s) := by simp [World.cell?, hs]
  have c1 : w.cell? ⟨b, 1, none⟩ = some v := by simp [World.cell?, hs]
  have z0 : w.frozen? ⟨b, 0, none⟩ = false := by simp [World.frozen?, hs]
  have z1 : w.frozen? ⟨b, 1, none⟩ = false := by simp [World.frozen?, hs]
  have HS := hide hs
  clear hs
  go_enter Tryd.func48, Tryd.ntmps48
  go_wp2
  go_ret
  have k : But w.heap.size b w ((w.setCell ⟨b, 1, none⟩ (.slice ao l.length cap)).setCell ⟨b, 0, none⟩ (.bool false)) := ((But.of_below (Below.refl _ w)).set 1 _).set 0 _
  refine ⟨rfl, ⟨ao, cap, l, ?_, h.but hb' k (Nat.le_refl _), ht, rfl⟩, k⟩
  have := unhide HS
  simp [World.setCell, Array.getElem?_modify, this]
end Go.Proofs.YthplbfjpmnpjmaaDoor
