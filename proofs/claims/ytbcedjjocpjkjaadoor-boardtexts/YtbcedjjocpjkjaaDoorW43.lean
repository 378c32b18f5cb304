/-
  board.reader's peek, take and turn, walked: a reader in a block of its own; what else there was has not turned.
-/
import Derived.Test.YtbcedjjocpjkjaaDoorW5
import Derived.Test.YtbcedjjocpjkjaaDoorM7
namespace Go.Proofs.YtbcedjjocpjkjaaDoor
open Go.RowKit

/-- In block b stands a reader of s, at n. -/
def isRd (w : World) (b : Nat) (s : ByteArray) (n : Nat) : Prop := w.heap[b]? = some (.cells #[.string s, .int .i64 (n : Int)] 48 (0, 0))

theorem isRd.c0 {w : World} {b n : Nat} {s : ByteArray} (h : isRd w b s n) : w.cell? ⟨b, 0, none⟩ = some (.string s) := by
  unfold isRd at h; simp [World.cell?, h]
theorem isRd.c1 {w : World} {b n : Nat} {s : ByteArray} (h : isRd w b s n) : w.cell? ⟨b, 1, none⟩ = some (.int .i64 (n : Int)) := by
  unfold isRd at h; simp [World.cell?, h]
theorem isRd.f1 {w : World} {b n : Nat} {s : ByteArray} (h : isRd w b s n) : w.frozen? ⟨b, 1, none⟩ = false := by
  unfold isRd at h; simp [World.frozen?, h]
theorem isRd.lt {w : World} {b n : Nat} {s : ByteArray} (h : isRd w b s n) : b < w.heap.size := by
  rcases Nat.lt_or_ge b w.heap.size with h' | h'
  · exact h'
  · unfold isRd at h; simp [Array.getElem?_eq_none h'] at h
theorem isRd.drewN {w : World} {b n : Nat} {s : ByteArray} (h : isRd w b s n) (m : Nat) : isRd (w.drewN m) b s n := h
theorem isRd.set {w : World} {b n : Nat} {s : ByteArray} (h : isRd w b s n) (m : Nat) : isRd (w.setCell ⟨b, 1, none⟩ (.int .i64 (m : Int))) b s m := by
  unfold isRd at h ⊢
  simp [World.setCell, Array.getElem?_modify, h]
theorem isRd.below {w w' : World} {b n B : Nat} {s : ByteArray} (h : isRd w b s n) (hb : Below B w w') (hB : b < B) : isRd w' b s n := by
  unfold isRd at h ⊢
  rw [hb.block b hB, h]

/-- Below B the world w' is as w was, but for block b, in which a reader of s stands at n. -/
structure Rd (B b : Nat) (s : ByteArray) (n : Nat) (w w' : World) : Prop where
  os : w'.os = w.os
  tape : w'.tape = w.tape
  output : w'.output = w.output
  size : w.heap.size ≤ w'.heap.size
  block : ∀ k, k < B → k ≠ b → w'.heap[k]? = w.heap[k]?
  rd : isRd w' b s n

theorem Rd.refl {B b n : Nat} {s : ByteArray} {w : World} (h : isRd w b s n) : Rd B b s n w w := ⟨rfl, rfl, rfl, Nat.le_refl _, fun _ _ _ => rfl, h⟩
theorem Rd.trans {B b n m : Nat} {s : ByteArray} {u v w : World} (h : Rd B b s n u v) (k : Rd B b s m v w) : Rd B b s m u w :=
  ⟨k.os.trans h.os, k.tape.trans h.tape, k.output.trans h.output, Nat.le_trans h.size k.size, fun i hi hn => (k.block i hi hn).trans (h.block i hi hn), k.rd⟩
theorem Rd.mono {B B' b n : Nat} {s : ByteArray} {v w : World} (h : Rd B b s n v w) (hB : B' ≤ B) : Rd B' b s n v w :=
  ⟨h.os, h.tape, h.output, h.size, fun i hi hn => h.block i (by omega) hn, h.rd⟩
theorem Rd.drewN {B b n : Nat} {s : ByteArray} {v w : World} (h : Rd B b s n v w) (m : Nat) : Rd B b s n v (w.drewN m) := ⟨h.os, h.tape, h.output, h.size, h.block, h.rd⟩
theorem Rd.set {B b n : Nat} {s : ByteArray} {v w : World} (h : Rd B b s n v w) (m : Nat) : Rd B b s m v (w.setCell ⟨b, 1, none⟩ (.int .i64 (m : Int))) :=
  ⟨h.os, h.tape, h.output, by have := h.size; simpa [World.setCell] using this, fun i hi hn => (Below.heap_setCell _ _ _ _ hn).trans (h.block i hi hn), h.rd.set m⟩
theorem Rd.of_below {B b n : Nat} {s : ByteArray} {v w : World} (h : Below B v w) (hB : b < B) (hr : isRd v b s n) : Rd B b s n v w :=
  ⟨h.os, h.tape, h.output, h.size, fun i hi _ => h.block i hi, hr.below h hB⟩
theorem Rd.below {B b n : Nat} {s : ByteArray} {u v w : World} (h : Rd B b s n u v) (k : Below B v w) (hB : b < B) : Rd B b s n u w := h.trans (Rd.of_below k hB h.rd)
/-- Below the reader's own block nothing has turned. -/
theorem Rd.low {B b n : Nat} {s : ByteArray} {v w : World} (h : Rd B b s n v w) (hB : b ≤ B) : Below b v w :=
  ⟨h.os, h.tape, h.output, h.size, fun i hi => h.block i (by omega) (by omega)⟩
theorem Rd.cell {B b n : Nat} {s : ByteArray} {v w : World} (h : Rd B b s n v w) {p : Addr} (hp : p.block < B) (hn : p.block ≠ b) : w.cell? p = v.cell? p := World.cell?_of_block (w := v) (h.block p.block hp hn)
theorem Rd.frozen {B b n : Nat} {s : ByteArray} {v w : World} (h : Rd B b s n v w) {p : Addr} (hp : p.block < B) (hn : p.block ≠ b) : w.frozen? p = v.frozen? p := World.frozen?_of_block (w := v) (h.block p.block hp hn)

/-- Where the reader in block b stands. -/
def atOf (w : World) (b : Nat) : Nat := match w.cell? ⟨b, 1, none⟩ with | some (.int _ q) => q.toNat | _ => 0
theorem isRd.atOf {w : World} {b n : Nat} {s : ByteArray} (h : isRd w b s n) : atOf w b = n := by
  simp [YtbcedjjocpjkjaaDoor.atOf, h.c1]

/-- The byte at n; 0 where there is none. -/
def pkN (l : List UInt8) (n : Nat) : Nat := match l[n]? with | some c => c.toNat | none => 0
theorem pkN_in (s : ByteArray) (n : Nat) (h : n < s.size) : pkN s.data.toList n = s[n].toNat := by
  have : s.data.toList[n]? = some s[n] := by rw [List.getElem?_eq_getElem (by simpa using h)]; rfl
  simp [pkN, this]
theorem pkN_out (s : ByteArray) (n : Nat) (h : s.size ≤ n) : pkN s.data.toList n = 0 := by
  have : s.data.toList[n]? = none := by rw [List.getElem?_eq_none]; rw [len_data]; exact h
  simp [pkN, this]
theorem pkN_lt (l : List UInt8) (n : Nat) : pkN l n < 256 := by
  unfold pkN
  split
  · rename_i c _; exact c.toNat_lt
  · omega
theorem atB_pk (l : List UInt8) (n : Nat) (c : UInt8) (hc : c ≠ 0) : atB l n c = decide (pkN l n = c.toNat) := by
  unfold atB pkN
  have h0 : c.toNat ≠ 0 := fun e => hc (UInt8.toNat.inj (by simpa using e))
  cases h : l[n]? with
  | none => simp; omega
  | some x => simp [UInt8.toNat_inj]

set_option maxHeartbeats 400000 in
theorem peek_any (b n : Nat) (s : ByteArray) (w : World) (h : isRd w b s n) :
    Calls Tryd.prog 34 #[.pointer (some ⟨b, 0, none⟩)] w fun e w' => e = .returned (.int .u8 ((pkN s.data.toList n : Nat) : Int)) ∧ ∃ m, w' = w.drewN m := by
  have c0 := h.c0
  have c1 := h.c1
  by_cases hn : n < s.size
  · have hp := pkN_in s n hn
    have HP := hide hp
    clear hp
    have hni : (n : Int) < (s.size : Int) := by omega
    go_enter Tryd.func34, Tryd.ntmps34
    go_wp2
    go_quiet (fail)
    go_wp2
    go_quiet (fail)
    go_wp2
    go_ret
    refine ⟨?_, _, World.drewN_drewN _ _ _⟩
    rw [unhide HP]
    rfl
  · have hp := pkN_out s n (by omega)
    have HP := hide hp
    clear hp
    have hni : (s.size : Int) ≤ (n : Int) := by omega
    go_enter Tryd.func34, Tryd.ntmps34
    go_wp2
    go_quiet (fail)
    go_wp2
    go_ret
    exact ⟨by rw [unhide HP]; rfl, _, rfl⟩

set_option maxHeartbeats 400000 in
theorem take_any (b n : Nat) (c : UInt8) (s : ByteArray) (w : World) (h : isRd w b s n) (hc : c ≠ 0) (hs : s.size ≤ maxLen) :
    Calls Tryd.prog 25 #[.pointer (some ⟨b, 0, none⟩), .int .u8 (c.toNat : Int)] w fun e w' =>
      e = .returned (.bool (atB s.data.toList n c)) ∧ Rd w.heap.size b s (if atB s.data.toList n c then n + 1 else n) w w' := by
  have hlt := h.lt
  have hat := atB_pk s.data.toList n c hc
  have HR := hide (Rd.refl (B := w.heap.size) h)
  have c1 := h.c1
  have f1 := h.f1
  by_cases he : pkN s.data.toList n = c.toNat
  · have h1 : atB s.data.toList n c = true := by rw [hat]; simp [he]
    rw [h1, if_pos rfl]
    have hb : ((pkN s.data.toList n : Nat) : Int) = (c.toNat : Int) := by omega
    clear hat h1
    have hn2 : n + 1 ≤ 9223372036854775807 := by
      rcases Nat.lt_or_ge n s.size with h2 | h2
      · unfold maxLen at hs; omega
      · rw [pkN_out s n h2] at he
        exact absurd (UInt8.toNat.inj (show (0 : UInt8).toNat = c.toNat from he)).symm hc
    go_enter Tryd.func25, Tryd.ntmps25
    go_wp2_with fail
    refine (peek_any b n s _ h).mono ?_
    rintro e w1 ⟨rfl, m, rfl⟩
    rw [hb]
    go_wp2
    go_ret
    refine ⟨rfl, ?_⟩
    have := ((unhide HR).drewN m).set (n + 1)
    simpa using this
  · have h1 : atB s.data.toList n c = false := by rw [hat]; simp [he]
    rw [h1, if_neg (by simp)]
    have hb : ¬ ((pkN s.data.toList n : Nat) : Int) = (c.toNat : Int) := by omega
    clear hat h1 he
    go_enter Tryd.func25, Tryd.ntmps25
    go_wp2_with fail
    refine (peek_any b n s _ h).mono ?_
    rintro e w1 ⟨rfl, m, rfl⟩
    generalize ((pkN s.data.toList n : Nat) : Int) = x at hb
    go_wp2
    go_ret
    exact ⟨rfl, (unhide HR).drewN m⟩
end Go.Proofs.YtbcedjjocpjkjaaDoor
