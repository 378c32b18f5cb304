/-
  The small functions of package board, walked: what each returns, for every argument; the world stands.
  board.areCells and board.isHand, walked: for every text, the answer is what the plain functions say; the world stands.
  Plain mathematics of decimal digits that are read: a numeral's digits come back to its number.
  A digit of a long division, estimated by the highest words; numbers by words (plain mathematics).
  Plain mathematics of one digit of a long division, no program: multiply and subtract, add back.
  strings.Clone and board.copied, walked: the same text, the same two texts; of what was there nothing has turned.
  board.copied, walked: the same two texts; of what was there nothing has turned.
  Plain mathematics of turned boards, no program: cells by number, where each comes from.
  board.turned, walked: the turned position, for every position and turn; of what was there nothing has turned.
-/
import Derived.Test.YthplbfjpmnpjmaaDoorProg
import Derived.WalkKit
import Derived.WalkSpells
import Derived.WalkLawsBesides
import Derived.Deep.QuietTactic
import Derived.BigQuiet
import Derived.Lib.ItoaNum
import Derived.Lib.BufferWrite
import Derived.Lib.UnsafeStr
import Derived.Lib.Strings
import Derived.Lib.Walk
import Derived.Laws.MakeOwn
import Derived.Deep.RegionHeld3
import Derived.Deep.DrawnRows
import Derived.Deep.AppendLies
import Derived.OwnWalk
import Derived.Deep.DeepMust
namespace Go.Proofs.YthplbfjpmnpjmaaDoor
open Go.RowKit

theorem hide {p : Prop} (h : p) : Hid p := h
theorem unhide {p : Prop} (h : Hid p) : p := h
theorem ret_bool {a b : Bool} (h : a = b) : Ending.returned (.bool a) = .returned (.bool b) := by rw [h]
theorem ret_int {k : IntKind} {a b : Int} (h : a = b) : Ending.returned (.int k a) = .returned (.int k b) := by rw [h]

/-- 'A' to 'Z'. -/
def capB (c : Int) : Bool := decide (65 ≤ c) && decide (c ≤ 90)
/-- '.', 'A' to 'Z', 'a' to 'z'. -/
def cellB (c : Int) : Bool := decide (c = 46) || capB c || (decide (97 ≤ c) && decide (c ≤ 122))
def sideB (n : Int) : Bool := decide (1 ≤ n) && decide (n ≤ 8)
def turnB (n : Int) : Bool := decide (0 ≤ n) && decide (n < 8)

theorem andNot_cap : ∀ c : Nat, c < 256 → (capB (bits .andNot .u8 (c : Int) 32) = (capB c || (decide (97 ≤ (c : Int)) && decide ((c : Int) ≤ 122)))) := by decide +kernel

/-- Where the cell x, y of a board of W columns and H rows, turned by k, comes from. -/
def srcX (W : Int) (k : Nat) (x y : Int) : Int :=
  if k / 4 % 2 = 1 then (if k / 2 % 2 = 1 then W - 1 - y else y) else (if k % 2 = 1 then W - 1 - x else x)
def srcY (H : Int) (k : Nat) (x y : Int) : Int :=
  if k / 4 % 2 = 1 then (if k % 2 = 1 then H - 1 - x else x) else (if k / 2 % 2 = 1 then H - 1 - y else y)

theorem mul_small {u W : Int} (h0 : -8 ≤ u) (h1 : u ≤ 8) (hW0 : 1 ≤ W) (hW1 : W ≤ 8) : -64 ≤ u * W ∧ u * W ≤ 64 := by
  constructor
  · have h2 := Int.mul_le_mul_of_nonneg_right h0 (show (0 : Int) ≤ W by omega)
    omega
  · have h2 := Int.mul_le_mul_of_nonneg_right h1 (show (0 : Int) ≤ W by omega)
    omega
theorem wrap_in (n : Int) (h : -9223372036854775808 ≤ n ∧ n ≤ 9223372036854775807) : wrap64 n = n := by unfold wrap64; omega
theorem wrap_mul {u W v : Int} (h0 : -8 ≤ u) (h1 : u ≤ 8) (hW0 : 1 ≤ W) (hW1 : W ≤ 8) (v0 : -16 ≤ v) (v1 : v ≤ 16) : wrap64 (wrap64 (u * W) + v) = u * W + v := by
  have hm := mul_small h0 h1 hW0 hW1
  rw [wrap_in (u * W) (by omega), wrap_in _ (by omega)]

end Go.Proofs.YthplbfjpmnpjmaaDoor

namespace Go.Proofs.YthplbfjpmnpjmaaDoor
open Go.RowKit

def cellsB (l : List UInt8) : Bool := l.all fun c => cellB c.toNat
/-- Capital letters, none below m, none behind a greater one. -/
def capsB : Int → List UInt8 → Bool
  | _, [] => true
  | m, c :: t => capB c.toNat && decide (m ≤ c.toNat) && capsB c.toNat t
def handB (l : List UInt8) : Bool := decide (l.length ≤ 8) && capsB 65 l

theorem take_snoc (s : ByteArray) (k : Nat) (h : k < s.size) : s.data.toList.take (k + 1) = s.data.toList.take k ++ [s[k]] := by
  rw [List.take_succ_eq_append_getElem (by simpa using h)]; rfl
theorem len_data (s : ByteArray) : s.data.toList.length = s.size := by simp
theorem take_all (s : ByteArray) (k : Nat) (h : s.size ≤ k) : s.data.toList.take k = s.data.toList := List.take_of_length_le (by rw [len_data]; exact h)
theorem cellsB_snoc (l : List UInt8) (c : UInt8) : cellsB (l ++ [c]) = (cellsB l && cellB c.toNat) := by simp [cellsB]
theorem cellsB_take {l : List UInt8} (k : Nat) (h : cellsB (l.take k) = false) : cellsB l = false := by
  cases hl : cellsB l with
  | false => rfl
  | true =>
    simp only [cellsB, List.all_eq_true] at hl
    have : cellsB (l.take k) = true := by
      simp only [cellsB, List.all_eq_true]; intro c hc; exact hl c (List.mem_of_mem_take hc)
    simp [this] at h

theorem drop_cons (s : ByteArray) (k : Nat) (h : k < s.size) : s.data.toList.drop k = s[k] :: s.data.toList.drop (k + 1) := by
  rw [List.drop_eq_getElem_cons (by simpa using h)]; rfl
theorem drop_all (s : ByteArray) (k : Nat) (h : s.size ≤ k) : s.data.toList.drop k = [] := List.drop_of_length_le (by rw [len_data]; exact h)

/-- What a position is (P3). -/
def posB (W H : Int) (C : List UInt8) (T : Int) (A B : List UInt8) : Bool :=
  sideB W && sideB H && (decide ((C.length : Int) = W * H) && cellsB C) && (decide (T = 0) || decide (T = 1)) && handB A && handB B
/-- 0, or 1 where it is none. -/
def errI (b : Bool) : Int := if b then 0 else 1

theorem wrapWH (W H : Int) (h : sideB W = true) (h' : sideB H = true) : wrap64 (W * H) = W * H := by
  simp only [sideB, Bool.and_eq_true, decide_eq_true_eq] at h h'
  have := mul_small (u := W) (W := H) (by omega) (by omega) h'.1 h'.2
  exact wrap_in _ (by omega)

end Go.Proofs.YthplbfjpmnpjmaaDoor

namespace Go.Proofs.YthplbfjpmnpjmaaDoor

/-- Digits, read on from a. -/
def dv (a : Nat) : List UInt8 → Nat
  | [] => a
  | c :: l => dv (a * 10 + (c.toNat - 48)) l
theorem dv_app (l m : List UInt8) : ∀ a, dv a (l ++ m) = dv (dv a l) m := by
  induction l with
  | nil => intro a; rfl
  | cons c l ih => intro a; exact ih _
def isDg (c : UInt8) : Prop := 48 ≤ c.toNat ∧ c.toNat ≤ 57
theorem dg_of (k : Nat) (h : k < 10) : (UInt8.ofNat (48 + k)).toNat = 48 + k := Nat.mod_eq_of_lt (by omega)
theorem dec_ne (n : Nat) : Lib.decDigits n ≠ [] := by
  rw [Lib.decDigits]
  split <;> simp
theorem dec_dg (n : Nat) : ∀ c ∈ Lib.decDigits n, isDg c := by
  induction n using Nat.strongRecOn with
  | ind n ih =>
    rw [Lib.decDigits]
    split
    · intro c hc
      rw [List.mem_singleton] at hc
      subst hc
      unfold isDg
      rw [dg_of n (by omega)]
      omega
    · intro c hc
      rcases List.mem_append.1 hc with h | h
      · exact ih (n / 10) (by omega) c h
      · rw [List.mem_singleton] at h
        subst h
        unfold isDg
        rw [dg_of (n % 10) (by omega)]
        omega
theorem dv_one (a : Nat) (c : UInt8) : dv a [c] = a * 10 + (c.toNat - 48) := rfl
theorem dec_dv (n : Nat) : dv 0 (Lib.decDigits n) = n := by
  induction n using Nat.strongRecOn with
  | ind n ih =>
    by_cases h : n < 10
    · have e : ∃ c : UInt8, Lib.decDigits n = [c] ∧ c.toNat = 48 + n := ⟨_, Lib.decDigits_one h, dg_of n h⟩
      obtain ⟨c, e1, e2⟩ := e
      rw [e1]
      refine (dv_one 0 c).trans ?_
      omega
    · have e : ∃ c : UInt8, Lib.decDigits n = Lib.decDigits (n / 10) ++ [c] ∧ c.toNat = 48 + n % 10 := ⟨_, (by conv => lhs; rw [Lib.decDigits, dif_neg h]), dg_of (n % 10) (by omega)⟩
      obtain ⟨c, e1, e2⟩ := e
      rw [e1, dv_app]
      refine (dv_one _ c).trans ?_
      rw [ih (n / 10) (by omega)]
      omega
/-- What the first k bytes tell. -/
def dK (S : ByteArray) (k : Nat) : Nat := dv 0 (S.data.toList.take k)
theorem dK_zero (S : ByteArray) : dK S 0 = 0 := rfl
theorem dK_next (S : ByteArray) (k : Nat) (h : k < S.size) : dK S (k + 1) = dK S k * 10 + (S[k].toNat - 48) := by
  unfold dK
  have hl : k < S.data.toList.length := by rw [len_data]; exact h
  rw [List.take_succ_eq_append_getElem hl, dv_app]
  rfl
theorem dK_all (S : ByteArray) (n : Nat) (h : S.data.toList = Lib.decDigits n) : dK S S.size = n := by
  unfold dK
  rw [take_all S _ (Nat.le_refl _), h, dec_dv]
theorem dv_le (l : List UInt8) : ∀ a, a ≤ dv a l := by
  induction l with
  | nil => intro a; exact Nat.le_refl _
  | cons c l ih => intro a; exact Nat.le_trans (by omega) (ih _)
theorem dK_le (S : ByteArray) (k : Nat) : dK S k ≤ dv 0 S.data.toList := by
  unfold dK
  conv => rhs; rw [← List.take_append_drop k S.data.toList]
  rw [dv_app]
  exact dv_le _ _
theorem byte_dg (S : ByteArray) (n : Nat) (h : S.data.toList = Lib.decDigits n) (k : Nat) (hk : k < S.size) : 48 ≤ S[k].toNat ∧ S[k].toNat ≤ 57 := by
  refine dec_dg n S[k] ?_
  rw [← h]
  exact List.getElem_mem (by rw [len_data]; exact hk)
/-- A numeral: perhaps a sign, then digits. -/
theorem itoa_pos (z : Int) (h : ¬ z < 0) : Lib.itoa z = Lib.decDigits z.natAbs := by
  unfold Lib.itoa
  rw [if_neg h]
  congr 1
  omega
theorem itoa_neg' (z : Int) (h : z < 0) : Lib.itoa z = 45 :: Lib.decDigits z.natAbs := by
  unfold Lib.itoa
  rw [if_pos h]
theorem tail_bytes (S : ByteArray) (c : UInt8) (l : List UInt8) (h : S.data.toList = c :: l) : (S.extract 1 S.size).data.toList = l := by
  rw [ByteArray.data_extract, Array.toList_extract, List.extract_eq_take_drop]
  rw [h, ← len_data, h]
  simp
theorem dec_size (S : ByteArray) (n : Nat) (h : S.data.toList = Lib.decDigits n) : 0 < S.size := by
  rw [← len_data, h]
  exact List.length_pos_iff.2 (dec_ne n)
end Go.Proofs.YthplbfjpmnpjmaaDoor

namespace Go.Proofs.YthplbfjpmnpjmaaDoor
/-! ### A digit of a long division, estimated by the highest words -/

/-- V: what is divided by: its two highest words V2, VL below them (E: what a word there is worth); W: what is divided: its three highest words U3, WL below them. -/
structure Dig (E V2 VL U3 WL : Nat) : Prop where
  vl : VL < E
  wl : WL < E

theorem Dig.le {E V2 VL U3 WL q : Nat} (d : Dig E V2 VL U3 WL) (h : q * (V2 * E + VL) ≤ U3 * E + WL) : q * V2 ≤ U3 := by
  have h1 : q * V2 * E ≤ U3 * E + WL := by
    refine Nat.le_trans ?_ h
    rw [Nat.mul_assoc]
    exact Nat.mul_le_mul_left q (Nat.le_add_right _ _)
  have h2 : q * V2 * E < (U3 + 1) * E := by
    rw [Nat.add_mul, Nat.one_mul]
    exact Nat.lt_of_le_of_lt h1 (by have := d.wl; omega)
  exact Nat.lt_succ_iff.1 (Nat.lt_of_mul_lt_mul_right h2)

/-- The estimate is not too small .. -/
theorem Dig.first {E B top next VL h u2 WL q : Nat} (d : Dig E (top * B + next) VL (h * B + u2) WL) (hu : u2 < B) (ht : 0 < top) (hq : q * ((top * B + next) * E + VL) ≤ (h * B + u2) * E + WL) : q ≤ h / top := by
  have h1 := d.le hq
  rw [Nat.mul_add, ← Nat.mul_assoc] at h1
  have h2 : q * top * B < (h + 1) * B := by rw [Nat.add_mul, Nat.one_mul]; omega
  have h3 : q * top ≤ h := Nat.lt_succ_iff.1 (Nat.lt_of_mul_lt_mul_right h2)
  exact (Nat.le_div_iff_mul_le ht).2 h3
/-- .. and where it is counted down it was too great .. -/
theorem Dig.down {E V2 VL U3 WL q g : Nat} (d : Dig E V2 VL U3 WL) (hq : q * (V2 * E + VL) ≤ U3 * E + WL) (hg : U3 < g * V2) : q < g := by
  have h1 := d.le hq
  exact Nat.lt_of_mul_lt_mul_right (Nat.lt_of_le_of_lt h1 hg)
/-- .. and in the end it is at most one too great. -/
theorem Dig.last {E V2 VL U3 WL q g B : Nat} (d : Dig E V2 VL U3 WL) (hV : B ≤ V2) (hg : g * V2 ≤ U3) (hB : g < B) (hE : 0 < E) (hq : U3 * E + WL < (q + 1) * (V2 * E + VL)) : g ≤ q + 1 := by
  have h1 : g * (V2 * E + VL) ≤ U3 * E + g * E := by
    rw [Nat.mul_add, ← Nat.mul_assoc]
    exact Nat.add_le_add (Nat.mul_le_mul_right E hg) (Nat.mul_le_mul_left g (Nat.le_of_lt d.vl))
  have h2 : g * E < V2 * E + VL := by
    have : g * E < V2 * E := (Nat.mul_lt_mul_right hE).2 (by omega)
    omega
  have h3 : g * (V2 * E + VL) < (q + 1 + 1) * (V2 * E + VL) := by
    rw [Nat.add_mul (q + 1) 1, Nat.one_mul]
    omega
  exact Nat.lt_succ_iff.1 (Nat.lt_of_mul_lt_mul_right h3)

/-! ### Numbers by words -/
def val (B : Nat) : List Nat → Nat
  | [] => 0
  | x :: l => x + B * val B l
theorem val_app (B : Nat) : ∀ a b : List Nat, val B (a ++ b) = val B a + B ^ a.length * val B b
  | [], b => by simp [val]
  | x :: a, b => by
    rw [List.cons_append, val, val_app B a b, val, List.length_cons, Nat.pow_succ, Nat.mul_add, Nat.mul_comm (B ^ a.length) B, Nat.mul_assoc, Nat.add_assoc]
theorem val_lt (B : Nat) : ∀ l : List Nat, (∀ x ∈ l, x < B) → val B l < B ^ l.length
  | [], _ => by simp [val]
  | x :: l, h => by
    have h1 := h x (by simp)
    have h2 := val_lt B l (fun y hy => h y (by simp [hy]))
    rw [val, List.length_cons, Nat.pow_succ, Nat.mul_comm (B ^ l.length) B]
    have h3 : B * (val B l + 1) ≤ B * B ^ l.length := Nat.mul_le_mul_left B h2
    rw [Nat.mul_add, Nat.mul_one] at h3
    omega
theorem val_zeros (B n : Nat) : val B (List.replicate n 0) = 0 := by
  induction n with
  | zero => rfl
  | succ n ih => rw [List.replicate_succ, val, ih]; simp
end Go.Proofs.YthplbfjpmnpjmaaDoor

namespace Go.Proofs.YthplbfjpmnpjmaaDoor

/-- One word of 'subtract g times v': s is stored, c' carried, d' borrowed. -/
theorem sub_step (B new old vt g x uo c d lo s c' d' i : Nat) (hinv : new + g * vt = old + (c + d) * B ^ i) (hc : c + g * x = lo + B * c') (hs : s + (lo + d) = uo + d' * B) :
    (new + s * B ^ i) + g * (vt + x * B ^ i) = (old + uo * B ^ i) + (c' + d') * B ^ (i + 1) := by
  have e1 : B ^ (i + 1) = B * B ^ i := by rw [Nat.pow_succ, Nat.mul_comm]
  have e2 : g * (vt + x * B ^ i) = g * vt + g * x * B ^ i := by rw [Nat.mul_add, Nat.mul_assoc]
  have e3 : (c + g * x) * B ^ i = (lo + B * c') * B ^ i := by rw [hc]
  have e4 : (s + (lo + d)) * B ^ i = (uo + d' * B) * B ^ i := by rw [hs]
  have e5 : (c' + d') * (B * B ^ i) = B * c' * B ^ i + d' * B * B ^ i := by
    rw [Nat.add_mul, ← Nat.mul_assoc, ← Nat.mul_assoc, Nat.mul_comm c' B]
  simp only [Nat.add_mul] at e3 e4 hinv
  rw [e1, e2, e5]
  omega

/-- The subtraction came out: g is the digit, and what is left lies in the low words. -/
theorem sub_fits (B n V W old h new c d g q : Nat) (hW : W = old + h * B ^ n) (hend : new + g * V = old + (c + d) * B ^ n) (hle : c + d ≤ h) (hq1 : q * V ≤ W) (hq2 : W < (q + 1) * V) (hgq : q ≤ g) (hV : V < B ^ n) :
    g = q ∧ h = c + d ∧ new = W - q * V := by
  have hh : h * B ^ n = (c + d) * B ^ n + (h - (c + d)) * B ^ n := by rw [← Nat.add_mul]; congr 1; omega
  have hWe : W = g * V + (new + (h - (c + d)) * B ^ n) := by omega
  have hg : g = q := by
    rcases Nat.lt_or_ge q g with hl | hl
    · have : (q + 1) * V ≤ g * V := Nat.mul_le_mul_right V hl
      omega
    · omega
  subst hg
  rw [Nat.add_mul, Nat.one_mul] at hq2
  have h0 : h - (c + d) = 0 := by
    rcases Nat.eq_zero_or_pos (h - (c + d)) with h0 | h0
    · exact h0
    · have : 1 * B ^ n ≤ (h - (c + d)) * B ^ n := Nat.mul_le_mul_right _ h0
      omega
  rw [h0] at hWe
  exact ⟨rfl, by omega, by omega⟩

/-- It did not: g is one too great; v is added back. -/
theorem sub_back (B n V W old h new c d g q new2 c2 : Nat) (hW : W = old + h * B ^ n) (hend : new + g * V = old + (c + d) * B ^ n) (hgt : h < c + d) (hq1 : q * V ≤ W) (hq2 : W < (q + 1) * V) (hgq : g ≤ q + 1) (hnew : new < B ^ n) (hV : V < B ^ n)
    (hadd : new2 + c2 * B ^ n = new + V) (hn2 : new2 < B ^ n) :
    g = q + 1 ∧ c + d = h + 1 ∧ c2 = 1 ∧ new2 = W - q * V := by
  have hh : (c + d) * B ^ n = h * B ^ n + (c + d - h) * B ^ n := by rw [← Nat.add_mul]; congr 1; omega
  have h1 : 1 * B ^ n ≤ (c + d - h) * B ^ n := Nat.mul_le_mul_right _ (by omega)
  have hg : g = q + 1 := by
    rcases Nat.lt_or_ge q g with hl | hl
    · omega
    · have : g * V ≤ q * V := Nat.mul_le_mul_right V hl
      omega
  subst hg
  have hgV : (q + 1) * V = q * V + V := by rw [Nat.add_mul, Nat.one_mul]
  have e : new2 + c2 * B ^ n = (W - q * V) + (c + d - h) * B ^ n := by omega
  have hr : W - q * V < B ^ n := by omega
  have hc : c + d - h = 1 := by
    rcases Nat.lt_or_ge (c + d - h) 2 with h2 | h2
    · omega
    · have : 2 * B ^ n ≤ (c + d - h) * B ^ n := Nat.mul_le_mul_right _ h2
      omega
  rw [hc, Nat.one_mul] at e
  have hc2 : c2 = 1 := by
    rcases Nat.lt_trichotomy c2 1 with h2 | h2 | h2
    · have : c2 = 0 := by omega
      rw [this] at e
      omega
    · exact h2
    · have : 2 * B ^ n ≤ c2 * B ^ n := Nat.mul_le_mul_right _ h2
      omega
  rw [hc2, Nat.one_mul] at e
  exact ⟨rfl, by omega, hc2, by omega⟩
end Go.Proofs.YthplbfjpmnpjmaaDoor

namespace Go.Proofs.YthplbfjpmnpjmaaDoor
open Go.RowKit

theorem Tryd.info5 : (Tryd.prog.info? 5).map (fun i => (i.zero, i.size, i.bytes)) = some (some (.int .u8 0), 1, 1) := by kernel_rfl

end Go.Proofs.YthplbfjpmnpjmaaDoor

namespace Go.Proofs.YthplbfjpmnpjmaaDoor
open Go.RowKit
attribute [local go_sem ↓] Go.wp_at_zero Go.wp_at_succ

end Go.Proofs.YthplbfjpmnpjmaaDoor

namespace Go.Proofs.YthplbfjpmnpjmaaDoor
open Go.RowKit

/-- The i-th cell of a board C of W columns and H rows, turned by k, that then has dw columns. -/
def tcell (C : List UInt8) (W H k dw i : Nat) : UInt8 :=
  C.getD (srcY H k (i % dw : Nat) (i / dw : Nat) * W + srcX W k (i % dw : Nat) (i / dw : Nat)).toNat 0
def tcells (C : List UInt8) (W H k dw n : Nat) : List UInt8 := (List.range n).map (tcell C W H k dw)
def bvals (l : List UInt8) : List Value := l.map fun c => Value.int .u8 (c.toNat : Int)

theorem tcells_succ (C : List UInt8) (W H k dw n : Nat) : tcells C W H k dw (n + 1) = tcells C W H k dw n ++ [tcell C W H k dw n] := by
  simp [tcells, List.range_succ]
theorem bvals_snoc (l : List UInt8) (c : UInt8) : bvals (l ++ [c]) = bvals l ++ [Value.int .u8 (c.toNat : Int)] := by simp [bvals]
theorem tcells_length (C : List UInt8) (W H k dw n : Nat) : (tcells C W H k dw n).length = n := by simp [tcells]

theorem src_bounds (W H : Nat) (k : Nat) (x y : Int) (dw dh : Nat) (hd : if k / 4 % 2 = 1 then dw = H ∧ dh = W else dw = W ∧ dh = H) (hx0 : 0 ≤ x) (hx1 : x < dw) (hy0 : 0 ≤ y) (hy1 : y < dh) :
    0 ≤ srcX W k x y ∧ srcX W k x y < W ∧ 0 ≤ srcY H k x y ∧ srcY H k x y < H := by
  unfold srcX srcY
  by_cases h4 : k / 4 % 2 = 1
  · simp only [h4, if_true] at hd ⊢
    obtain ⟨rfl, rfl⟩ := hd
    by_cases h2 : k / 2 % 2 = 1 <;> by_cases h1 : k % 2 = 1 <;> simp only [h1, h2, if_true, if_false] <;> omega
  · simp only [h4, if_false] at hd ⊢
    obtain ⟨rfl, rfl⟩ := hd
    by_cases h2 : k / 2 % 2 = 1 <;> by_cases h1 : k % 2 = 1 <;> simp only [h1, h2, if_true, if_false] <;> omega

theorem idx_bound (u v W H : Int) (hu0 : 0 ≤ u) (hu : u < H) (hv0 : 0 ≤ v) (hv : v < W) : 0 ≤ u * W + v ∧ u * W + v < W * H := by
  have h1 : u * W ≤ (H - 1) * W := Int.mul_le_mul_of_nonneg_right (by omega) (by omega)
  have h2 : 0 ≤ u * W := Int.mul_nonneg hu0 (by omega)
  have h3 : (H - 1) * W = W * H - W := by rw [Int.sub_mul, Int.one_mul, Int.mul_comm]
  omega

/-- Where the cell x, y of the turned board lies in C: a number below its size; and it is the turned board's cell number y dw + x. -/
theorem turned_idx (C : ByteArray) (W H k dw dh x y : Nat) (hC : C.size = W * H) (hd : if k / 4 % 2 = 1 then dw = H ∧ dh = W else dw = W ∧ dh = H) (hx : x < dw) (hy : y < dh) :
    ∃ (n : Nat) (hn : n < C.size), srcY H k x y * W + srcX W k x y = (n : Int) ∧ tcell C.data.toList W H k dw (y * dw + x) = C[n] := by
  obtain ⟨a0, a1, b0, b1⟩ := src_bounds W H k x y dw dh hd (by omega) (by omega) (by omega) (by omega)
  obtain ⟨c0, c1⟩ := idx_bound (srcY H k x y) (srcX W k x y) W H b0 b1 a0 a1
  have e1 : (y * dw + x) % dw = x := by rw [Nat.mul_comm, Nat.mul_add_mod, Nat.mod_eq_of_lt hx]
  have e2 : (y * dw + x) / dw = y := by rw [Nat.mul_comm, Nat.mul_add_div (by omega), Nat.div_eq_of_lt hx]; rfl
  have hWH : ((W * H : Nat) : Int) = (W : Int) * H := by simp
  have hn : (srcY H k x y * W + srcX W k x y).toNat < C.size := by rw [hC]; omega
  refine ⟨(srcY H k x y * W + srcX W k x y).toNat, hn, by omega, ?_⟩
  unfold tcell
  rw [e1, e2]
  rw [List.getD_eq_getElem?_getD, List.getElem?_eq_getElem (by rw [len_data]; exact hn)]
  rfl
end Go.Proofs.YthplbfjpmnpjmaaDoor

namespace Go.Proofs.YthplbfjpmnpjmaaDoor
open Go.RowKit
attribute [local go_sem ↓] Go.wp_at_zero Go.wp_at_succ

theorem own_below {w w1 : World} {base e size : Nat} {v : Value} {n : Nat} {xs : List Value} (h : w.ownsRow base e size v n xs) (hb : Below w.heap.size w w1) : w1.ownsRow base e size v n xs := by
  refine ⟨h.1, ?_⟩
  rcases h.2 with h0 | ⟨g, cap, cur, h1, h2, h3, h4⟩
  · exact .inl h0
  · refine .inr ⟨g, cap, cur, h1, h2, ?_, h4⟩
    rw [hb.block g ?_]
    · exact h3
    · rcases Nat.lt_or_ge g w.heap.size with hlt | hge
      · exact hlt
      · rw [Array.getElem?_eq_none hge] at h3; cases h3
theorem own_ne {w : World} {base e size : Nat} {v : Value} {n : Nat} {xs : List Value} (h : w.ownsRow base e size v n xs) {a : Nat} (ha : a < base) : some a ≠ v.ownBlock := by
  rcases h.2 with ⟨rfl, _⟩ | ⟨g, cap, cur, rfl, h2, _⟩
  · simp [Value.ownBlock]
  · simp [Value.ownBlock]; omega

theorem own_ge {w : World} {base e size : Nat} {v : Value} {n : Nat} {xs : List Value} (h : w.ownsRow base e size v n xs) : ∀ k, v.ownBlock = some k → base ≤ k := by
  intro k hk
  rcases Nat.lt_or_ge k base with h1 | h1
  · exact absurd hk.symm (own_ne h h1)
  · exact h1

theorem own_set6 {w : World} {base e size : Nat} {v : Value} {n : Nat} {xs : List Value} {b : Nat} {u0 u1 u2 u3 u4 u5 : Value} (hb : b < base) (h : w.ownsRow base e size v n xs) :
    ((((((w.setCell ⟨b, 0, none⟩ u0).setCell ⟨b, 1, none⟩ u1).setCell ⟨b, 2, none⟩ u2).setCell ⟨b, 3, none⟩ u3).setCell ⟨b, 4, none⟩ u4).setCell ⟨b, 5, none⟩ u5).ownsRow base e size v n xs :=
  ownsRow_setCell_below (ownsRow_setCell_below (ownsRow_setCell_below (ownsRow_setCell_below (ownsRow_setCell_below (ownsRow_setCell_below h hb _) hb _) hb _) hb _) hb _) hb _
theorem below_set6 {B : Nat} {a w : World} {b : Nat} {u0 u1 u2 u3 u4 u5 : Value} (hb : B ≤ b) (h : Below B a w) :
    Below B a ((((((w.setCell ⟨b, 0, none⟩ u0).setCell ⟨b, 1, none⟩ u1).setCell ⟨b, 2, none⟩ u2).setCell ⟨b, 3, none⟩ u3).setCell ⟨b, 4, none⟩ u4).setCell ⟨b, 5, none⟩ u5) :=
  (((((h.setCell (p := ⟨b, 0, none⟩) hb _).setCell (p := ⟨b, 1, none⟩) hb _).setCell (p := ⟨b, 2, none⟩) hb _).setCell (p := ⟨b, 3, none⟩) hb _).setCell (p := ⟨b, 4, none⟩) hb _).setCell (p := ⟨b, 5, none⟩) hb _

/-- 'string(b)' of a row of the call's own. -/
theorem conv_own {w : World} {base n g cap : Nat} {l : List UInt8} (h : w.ownsRow base 5 1 (.slice (some ⟨g, 0, none⟩) n cap) n (bvals l)) (hn : Hid (l.length = n)) :
    (convert 115 9 (.slice (some ⟨g, 0, none⟩) n cap)).run Tryd.prog w = .ok (.string ⟨l.toArray⟩) w := by
  have hn' := unhide hn
  subst hn'
  refine run_convert_bytes_back w 115 9 5 ⟨g, 0, none⟩ cap l Tryd.underlying115 Tryd.underlying5 Tryd.underlying9 fun j hj => ?_
  have := h.cellAt j (by omega)
  have e : (⟨g, 0, none⟩ : Addr).add j = ⟨g, 0 + j, none⟩ := by unfold Addr.add; split <;> simp_all
  rw [Nat.zero_add] at e
  rw [e, this]
  simp [bvals, hj]

end Go.Proofs.YthplbfjpmnpjmaaDoor
