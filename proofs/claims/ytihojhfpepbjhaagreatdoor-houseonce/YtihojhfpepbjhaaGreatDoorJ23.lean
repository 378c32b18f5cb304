/-
  A house of a game, in plain form: what a message does to it.
  A house in memory.
-/
import Derived.Test.YtihojhfpepbjhaaGreatDoorJ0
import Derived.Test.YtihojhfpepbjhaaGreatDoorJ8
import Derived.Lib.ItoaLen
import Derived.Test.YtihojhfpepbjhaaGreatDoorJ22
namespace Go.Proofs.YtihojhfpepbjhaaGreatDoor
open Go.RowKit

/-- A message. -/
structure Ms where
  seat : Int
  ply : Int
  mv : ByteArray
  at_ : Int
/-- A game that is played: where it stands, how many moves were made, what is left of the clocks, now, whether a clock ran out (and who has won so), what was done. -/
structure Ho where
  p : Po
  ply : Int
  l0 : Int
  l1 : Int
  now : Int
  flag : Int
  tx : ByteArray
/-- What a game is: its outcomes, its moves, what is behind them, their texts, how many moves it may have. -/
structure Gm where
  O : Po → Int
  L : Po → List Mv
  beh : Po → Mv → Po
  tx : Po → Mv → List UInt8
  pl : Int
def itoaB (n : Int) : ByteArray := ⟨(Lib.itoa n).toArray⟩
def lineX (ply now : Int) (mv : ByteArray) : ByteArray := itoaB ply ++ ⟨#[32]⟩ ++ itoaB now ++ ⟨#[32]⟩ ++ mv ++ ⟨#[10]⟩
def Gm.find (G : Gm) (p : Po) (s : ByteArray) : Option Mv := (G.L p).find? fun m => decide (G.tx p m = s.data.toList)
def Gm.ended (G : Gm) (x : Ho) : Int := if 0 < x.flag then x.flag else if G.O x.p = 0 ∧ x.ply = G.pl then 3 else G.O x.p
def Ho.left (x : Ho) : Int := if x.p.T = 0 then x.l0 else x.l1
def Ho.go (x : Ho) (a : Int) : Ho :=
  if x.now < a then (if x.p.T = 0 then { x with l0 := x.l0 - (a - x.now), now := a } else { x with l1 := x.l1 - (a - x.now), now := a }) else x
def Gm.step (G : Gm) (x : Ho) (m : Ms) : Ho × Int :=
  if G.ended x ≠ 0 then (x, 5)
  else if (x.go m.at_).left < 0 then ({ x.go m.at_ with flag := 2 - x.p.T }, 5)
  else if m.ply ≠ x.ply then (x.go m.at_, 2)
  else if m.seat ≠ x.p.T then (x.go m.at_, 3)
  else match G.find x.p m.mv with
    | none => (x.go m.at_, 4)
    | some mv => ({ x.go m.at_ with p := G.beh x.p mv, ply := x.ply + 1, tx := x.tx ++ lineX x.ply (x.go m.at_).now m.mv }, 1)
def Gm.run (G : Gm) : Ho → List Ms → Ho
  | x, [] => x
  | x, m :: l => G.run (G.step x m).1 l
/-- What the game is good for. -/
structure Gm.Ok (G : Gm) (ok : Po → Prop) : Prop where
  t : ∀ p, ok p → p.T = 0 ∨ p.T = 1
  o : ∀ p, ok p → 0 ≤ G.O p ∧ G.O p ≤ 3
  st : ∀ p, ok p → ∀ m ∈ G.L p, ok (G.beh p m) ∧ (G.beh p m).T = 1 - p.T
  tx : ∀ p, ok p → ∀ m ∈ G.L p, (G.tx p m).length ≤ 10
  pl : 1 ≤ G.pl ∧ G.pl ≤ 1000
/-- What holds of a game all the time. -/
structure HoI (G : Gm) (ok : Po → Prop) (x : Ho) : Prop where
  p : ok x.p
  ply : 0 ≤ x.ply ∧ x.ply ≤ G.pl
  now : 0 ≤ x.now ∧ x.now < 9223372036854775808
  l0 : -9223372036854775808 < x.l0 ∧ x.l0 ≤ 1000000
  l1 : -9223372036854775808 < x.l1 ∧ x.l1 ≤ 1000000
  flag : 0 ≤ x.flag ∧ x.flag ≤ 2
  live : x.flag = 0 → 0 ≤ x.l0 ∧ 0 ≤ x.l1
  tx : (x.tx.size : Int) ≤ 100 * x.ply
theorem itoa_len (n : Int) (h : 0 ≤ n ∧ n < 9223372036854775808) : (itoaB n).size ≤ 21 := by
  have := Lib.itoa_length_le n (by omega) (by omega)
  unfold itoaB
  show (Lib.itoa n).toArray.size ≤ 21
  rw [List.size_toArray]
  exact this
theorem lineX_len {ply now : Int} {mv : ByteArray} (h1 : 0 ≤ ply ∧ ply < 9223372036854775808) (h2 : 0 ≤ now ∧ now < 9223372036854775808) (h3 : mv.size ≤ 10) : (lineX ply now mv).size ≤ 100 := by
  have a := itoa_len ply h1
  have b := itoa_len now h2
  unfold lineX
  simp only [ByteArray.size_append]
  have e1 : (⟨#[32]⟩ : ByteArray).size = 1 := rfl
  have e2 : (⟨#[10]⟩ : ByteArray).size = 1 := rfl
  omega
theorem Ho.go_p (x : Ho) (a : Int) : (x.go a).p = x.p := by
  unfold Ho.go
  repeat' split
  all_goals rfl
theorem Ho.go_ply (x : Ho) (a : Int) : (x.go a).ply = x.ply := by
  unfold Ho.go
  repeat' split
  all_goals rfl
theorem Ho.go_flag (x : Ho) (a : Int) : (x.go a).flag = x.flag := by
  unfold Ho.go
  repeat' split
  all_goals rfl
theorem Ho.go_tx (x : Ho) (a : Int) : (x.go a).tx = x.tx := by
  unfold Ho.go
  repeat' split
  all_goals rfl
theorem Gm.find_mem {G : Gm} {p : Po} {s : ByteArray} {m : Mv} (h : G.find p s = some m) : m ∈ G.L p ∧ G.tx p m = s.data.toList :=
  ⟨List.mem_of_find?_eq_some h, by simpa using List.find?_some h⟩
theorem ended_flag {G : Gm} {x : Ho} (h : G.ended x = 0) (hx : 0 ≤ x.flag) : x.flag = 0 := by
  unfold Gm.ended at h
  split at h <;> omega
theorem ended_more {G : Gm} {ok : Po → Prop} {x : Ho} (hx : HoI G ok x) (h : G.ended x = 0) : x.ply < G.pl ∧ G.O x.p = 0 := by
  have hf := ended_flag h hx.flag.1
  have := hx.ply
  unfold Gm.ended at h
  rw [hf, if_neg (by omega)] at h
  split at h
  · cases h
  · exact ⟨by omega, h⟩
theorem HoI.go {G : Gm} {ok : Po → Prop} {x : Ho} (h : HoI G ok x) (hf : x.flag = 0) {a : Int} (ha : a < 9223372036854775808) : (HoI G ok { x.go a with flag := 1 } ∧ HoI G ok { x.go a with flag := 2 }) ∧ (0 ≤ (x.go a).left → HoI G ok (x.go a)) := by
  obtain ⟨l0, l1⟩ := h.live hf
  have n := h.now
  have b0 := h.l0
  have b1 := h.l1
  unfold Ho.left
  rw [Ho.go_p]
  unfold Ho.go
  split
  · split
    · refine ⟨⟨⟨h.p, h.ply, ⟨by dsimp; omega, ha⟩, ⟨by dsimp; omega, by dsimp; omega⟩, h.l1, ⟨by dsimp; omega, by dsimp; omega⟩, fun e => by dsimp at e; omega, h.tx⟩, ⟨h.p, h.ply, ⟨by dsimp; omega, ha⟩, ⟨by dsimp; omega, by dsimp; omega⟩, h.l1, ⟨by dsimp; omega, by dsimp; omega⟩, fun e => by dsimp at e; omega, h.tx⟩⟩, fun hl => ⟨h.p, h.ply, ⟨by dsimp; omega, ha⟩, ⟨by dsimp; omega, by dsimp; omega⟩, h.l1, h.flag, fun _ => ⟨hl, l1⟩, h.tx⟩⟩
    · refine ⟨⟨⟨h.p, h.ply, ⟨by dsimp; omega, ha⟩, h.l0, ⟨by dsimp; omega, by dsimp; omega⟩, ⟨by dsimp; omega, by dsimp; omega⟩, fun e => by dsimp at e; omega, h.tx⟩, ⟨h.p, h.ply, ⟨by dsimp; omega, ha⟩, h.l0, ⟨by dsimp; omega, by dsimp; omega⟩, ⟨by dsimp; omega, by dsimp; omega⟩, fun e => by dsimp at e; omega, h.tx⟩⟩, fun hl => ⟨h.p, h.ply, ⟨by dsimp; omega, ha⟩, h.l0, ⟨by dsimp; omega, by dsimp; omega⟩, h.flag, fun _ => ⟨l0, hl⟩, h.tx⟩⟩
  · exact ⟨⟨⟨h.p, h.ply, n, b0, b1, ⟨by dsimp; omega, by dsimp; omega⟩, fun e => by dsimp at e; omega, h.tx⟩, ⟨h.p, h.ply, n, b0, b1, ⟨by dsimp; omega, by dsimp; omega⟩, fun e => by dsimp at e; omega, h.tx⟩⟩, fun _ => h⟩
theorem HoI.step {G : Gm} {ok : Po → Prop} (hG : G.Ok ok) {x : Ho} (h : HoI G ok x) {m : Ms} (ha : m.at_ < 9223372036854775808) : HoI G ok (G.step x m).1 := by
  unfold Gm.step
  split
  · exact h
  · rename_i he
    have he : G.ended x = 0 := Classical.byContradiction he
    have hf := ended_flag he h.flag.1
    obtain ⟨⟨h1, h2⟩, h3⟩ := h.go hf ha
    obtain ⟨hm, -⟩ := ended_more h he
    split
    · rcases hG.t _ h.p with e | e
      · rw [e]; exact h2
      · rw [e]; exact h1
    · rename_i hl
      have h3 := h3 (by omega)
      split
      · exact h3
      split
      · exact h3
      split
      · exact h3
      · rename_i mv hmv
        obtain ⟨hm1, hm2⟩ := Gm.find_mem hmv
        have hst := hG.st _ h.p _ hm1
        have hp := h.ply
        have hpl := hG.pl
        refine ⟨hst.1, ⟨by dsimp; omega, by dsimp; omega⟩, h3.now, h3.l0, h3.l1, h3.flag, h3.live, ?_⟩
        have hs := hG.tx _ h.p _ hm1
        rw [hm2, len_data] at hs
        have hn := lineX_len (ply := x.ply) ⟨by omega, by omega⟩ h3.now hs
        have ht := h.tx
        dsimp
        rw [ByteArray.size_append]
        omega
theorem HoI.run {G : Gm} {ok : Po → Prop} (hG : G.Ok ok) : ∀ (l : List Ms) {x : Ho}, HoI G ok x → (∀ m ∈ l, m.at_ < 9223372036854775808) → HoI G ok (G.run x l)
  | [], _, h, _ => h
  | m :: l, _, h, ha => HoI.run hG l (h.step hG (ha m (by simp))) fun q hq => ha q (by simp [hq])
theorem run_snoc (G : Gm) : ∀ (l : List Ms) (x : Ho) (m : Ms), G.run x (l ++ [m]) = (G.step (G.run x l) m).1
  | [], _, _ => rfl
  | q :: l, x, m => run_snoc G l (G.step x q).1 m
/-- At the start. -/
def startX (p : Po) (time : Int) : Ho := ⟨p, 0, time, time, 0, 0, ⟨#[]⟩⟩
theorem start_I {G : Gm} {ok : Po → Prop} (hG : G.Ok ok) {p : Po} (hp : ok p) {time : Int} (h : 1 ≤ time ∧ time ≤ 1000000) : HoI G ok (startX p time) :=
  ⟨hp, ⟨by simp [startX], by have := hG.pl; simp [startX]; omega⟩, by simp [startX], ⟨by simp [startX]; omega, by simp [startX]; omega⟩, ⟨by simp [startX]; omega, by simp [startX]; omega⟩, by simp [startX], fun _ => ⟨by simp [startX]; omega, by simp [startX]; omega⟩, by show ((0 : Nat) : Int) ≤ 100 * 0; omega⟩
end Go.Proofs.YtihojhfpepbjhaaGreatDoor

namespace Go.Proofs.YtihojhfpepbjhaaGreatDoor
open Go.RowKit

/-- Below S all but block b is as it was. -/
structure Ex (b S : Nat) (w w' : World) : Prop where
  os : w'.os = w.os
  tape : w'.tape = w.tape
  output : w'.output = w.output
  size : w.heap.size ≤ w'.heap.size
  block : ∀ k, k < S → k ≠ b → w'.heap[k]? = w.heap[k]?
theorem Ex.of {b S : Nat} {w w' : World} (h : Below S w w') : Ex b S w w' := ⟨h.os, h.tape, h.output, h.size, fun k hk _ => h.block k hk⟩
theorem Ex.refl (b S : Nat) (w : World) : Ex b S w w := Ex.of (Below.refl _ _)
theorem Ex.trans {b S : Nat} {u v w : World} (h : Ex b S u v) (k : Ex b S v w) : Ex b S u w :=
  ⟨k.os.trans h.os, k.tape.trans h.tape, k.output.trans h.output, Nat.le_trans h.size k.size, fun i hi hn => (k.block i hi hn).trans (h.block i hi hn)⟩
theorem Ex.mono {b S S' : Nat} {v w : World} (h : Ex b S v w) (hS : S' ≤ S) : Ex b S' v w := ⟨h.os, h.tape, h.output, h.size, fun i hi hn => h.block i (by omega) hn⟩
theorem Ex.set {b S : Nat} {v w : World} (h : Ex b S v w) (i : Nat) (u : Value) : Ex b S v (w.setCell ⟨b, i, none⟩ u) :=
  ⟨h.os, h.tape, h.output, by have := h.size; simpa [World.setCell] using this, fun k hk hn => (Below.heap_setCell _ _ _ _ hn).trans (h.block k hk hn)⟩
theorem Ex.drew {b S : Nat} {w w' : World} (h : Ex b S w w') : Ex b S w w'.drew := ⟨h.os, h.tape, h.output, h.size, h.block⟩
theorem Ex.drewN {b S n : Nat} {w w' : World} (h : Ex b S w w') : Ex b S w (w'.drewN n) := ⟨h.os, h.tape, h.output, h.size, h.block⟩
/-- A frame from below the block on. -/
theorem Ex.fresh {b S : Nat} {v w : World} (h : Ex b S v w) {B : Nat} (hB : B ≤ b) (hS : B ≤ S) : Below B v w := ⟨h.os, h.tape, h.output, h.size, fun k hk => h.block k (by omega) (by omega)⟩
theorem Ex.far {b S : Nat} {v w : World} (h : Ex b S v w) (c i : Nat) (u : Value) (hc : S ≤ c) : Ex b S v (w.setCell ⟨c, i, none⟩ u) :=
  ⟨h.os, h.tape, h.output, by have := h.size; simpa [World.setCell] using this, fun k hk hn => (Below.heap_setCell _ _ _ _ (by show k ≠ c; omega)).trans (h.block k hk hn)⟩
theorem Ex.more {b S : Nat} {u v w : World} (h : Ex b S u v) (k : Below v.heap.size v w) (hS : S ≤ v.heap.size) : Ex b S u w := h.trans (Ex.of (k.mono hS))

/-- A house in block b; its rules' cells are v0 to v12. -/
def isH (w : World) (b : Nat) (v0 v1 v2 v3 v4 v5 v6 v7 v8 v9 v10 v11 v12 : Value) (l0 l1 nw W H : Int) (C : ByteArray) (T : Int) (A B : ByteArray) (y o : Int) (t : ByteArray) : Prop :=
  w.heap[b]? = some (.cells #[.int .i64 l0, .int .i64 l1, .int .i64 nw, v0, v1, v2, v3, v4, v5, v6, v7, v8, v9, v10, v11, v12, .int .i64 W, .int .i64 H, .string C, .int .i64 T, .string A, .string B, .int .i64 y, .int .i64 o, .string t] 82 (0, 0))
theorem isH.cells {w : World} {b : Nat} {v0 v1 v2 v3 v4 v5 v6 v7 v8 v9 v10 v11 v12 : Value} {l0 l1 nw W H : Int} {C : ByteArray} {T : Int} {A B : ByteArray} {y o : Int} {t : ByteArray} (h : isH w b v0 v1 v2 v3 v4 v5 v6 v7 v8 v9 v10 v11 v12 l0 l1 nw W H C T A B y o t) :
    (w.cell? ⟨b, 0, none⟩ = some (.int .i64 l0) ∧ w.cell? ⟨b, 1, none⟩ = some (.int .i64 l1) ∧ w.cell? ⟨b, 2, none⟩ = some (.int .i64 nw)) ∧
    (w.cell? ⟨b, 3, none⟩ = some v0 ∧ w.cell? ⟨b, 4, none⟩ = some v1 ∧ w.cell? ⟨b, 5, none⟩ = some v2 ∧ w.cell? ⟨b, 6, none⟩ = some v3 ∧ w.cell? ⟨b, 7, none⟩ = some v4 ∧ w.cell? ⟨b, 8, none⟩ = some v5 ∧ w.cell? ⟨b, 9, none⟩ = some v6 ∧ w.cell? ⟨b, 10, none⟩ = some v7 ∧ w.cell? ⟨b, 11, none⟩ = some v8 ∧ w.cell? ⟨b, 12, none⟩ = some v9 ∧ w.cell? ⟨b, 13, none⟩ = some v10 ∧ w.cell? ⟨b, 14, none⟩ = some v11 ∧ w.cell? ⟨b, 15, none⟩ = some v12) ∧
    (w.cell? ⟨b, 16, none⟩ = some (.int .i64 W) ∧ w.cell? ⟨b, 17, none⟩ = some (.int .i64 H) ∧ w.cell? ⟨b, 18, none⟩ = some (.string C) ∧ w.cell? ⟨b, 19, none⟩ = some (.int .i64 T) ∧ w.cell? ⟨b, 20, none⟩ = some (.string A) ∧ w.cell? ⟨b, 21, none⟩ = some (.string B)) ∧
    w.cell? ⟨b, 22, none⟩ = some (.int .i64 y) ∧ w.cell? ⟨b, 23, none⟩ = some (.int .i64 o) ∧ w.cell? ⟨b, 24, none⟩ = some (.string t) := by
  unfold isH at h
  simp [World.cell?, h]
theorem isH.lt {w : World} {b : Nat} {v0 v1 v2 v3 v4 v5 v6 v7 v8 v9 v10 v11 v12 : Value} {l0 l1 nw W H : Int} {C : ByteArray} {T : Int} {A B : ByteArray} {y o : Int} {t : ByteArray} (h : isH w b v0 v1 v2 v3 v4 v5 v6 v7 v8 v9 v10 v11 v12 l0 l1 nw W H C T A B y o t) : b < w.heap.size := (Array.getElem?_eq_some_iff.1 h).1
theorem isH.frozen {w : World} {b : Nat} {v0 v1 v2 v3 v4 v5 v6 v7 v8 v9 v10 v11 v12 : Value} {l0 l1 nw W H : Int} {C : ByteArray} {T : Int} {A B : ByteArray} {y o : Int} {t : ByteArray} (h : isH w b v0 v1 v2 v3 v4 v5 v6 v7 v8 v9 v10 v11 v12 l0 l1 nw W H C T A B y o t) (k : Nat) : w.frozen? ⟨b, k, none⟩ = false := frozen_of_row w b k _ _ h
theorem isH.of_block {w w' : World} {b : Nat} {v0 v1 v2 v3 v4 v5 v6 v7 v8 v9 v10 v11 v12 : Value} {l0 l1 nw W H : Int} {C : ByteArray} {T : Int} {A B : ByteArray} {y o : Int} {t : ByteArray} (h : isH w b v0 v1 v2 v3 v4 v5 v6 v7 v8 v9 v10 v11 v12 l0 l1 nw W H C T A B y o t) (hb : w'.heap[b]? = w.heap[b]?) : isH w' b v0 v1 v2 v3 v4 v5 v6 v7 v8 v9 v10 v11 v12 l0 l1 nw W H C T A B y o t := hb.trans h
theorem isH.below {w w' : World} {b S : Nat} {v0 v1 v2 v3 v4 v5 v6 v7 v8 v9 v10 v11 v12 : Value} {l0 l1 nw W H : Int} {C : ByteArray} {T : Int} {A B : ByteArray} {y o : Int} {t : ByteArray} (h : isH w b v0 v1 v2 v3 v4 v5 v6 v7 v8 v9 v10 v11 v12 l0 l1 nw W H C T A B y o t) (hb : Below S w w') (hS : b < S) : isH w' b v0 v1 v2 v3 v4 v5 v6 v7 v8 v9 v10 v11 v12 l0 l1 nw W H C T A B y o t := h.of_block (hb.block b hS)
theorem isH.ex {w w' : World} {b c S : Nat} {v0 v1 v2 v3 v4 v5 v6 v7 v8 v9 v10 v11 v12 : Value} {l0 l1 nw W H : Int} {C : ByteArray} {T : Int} {A B : ByteArray} {y o : Int} {t : ByteArray} (h : isH w b v0 v1 v2 v3 v4 v5 v6 v7 v8 v9 v10 v11 v12 l0 l1 nw W H C T A B y o t) (hb : Ex c S w w') (hS : b < S) (hn : b ≠ c) : isH w' b v0 v1 v2 v3 v4 v5 v6 v7 v8 v9 v10 v11 v12 l0 l1 nw W H C T A B y o t := h.of_block (hb.block b hS hn)
theorem isH.set0
  {w : World} {b : Nat} {v0 v1 v2 v3 v4 v5 v6 v7 v8 v9 v10 v11 v12 : Value} {l0 l1 nw W H : Int} {C : ByteArray} {T : Int} {A B : ByteArray} {y o : Int} {t : ByteArray} (h : isH w b v0 v1 v2 v3 v4 v5 v6 v7 v8 v9 v10 v11 v12 l0 l1 nw W H C T A B y o t)
  (x : Int) : isH (w.setCell ⟨b, 0, none⟩ (.int .i64 x)) b v0 v1 v2 v3 v4 v5 v6 v7 v8 v9 v10 v11 v12 x l1 nw W H C T A B y o t := by
  unfold isH at h ⊢; simp [World.setCell, Array.getElem?_modify, h]
theorem isH.set1
  {w : World} {b : Nat} {v0 v1 v2 v3 v4 v5 v6 v7 v8 v9 v10 v11 v12 : Value} {l0 l1 nw W H : Int} {C : ByteArray} {T : Int} {A B : ByteArray} {y o : Int} {t : ByteArray} (h : isH w b v0 v1 v2 v3 v4 v5 v6 v7 v8 v9 v10 v11 v12 l0 l1 nw W H C T A B y o t)
  (x : Int) : isH (w.setCell ⟨b, 1, none⟩ (.int .i64 x)) b v0 v1 v2 v3 v4 v5 v6 v7 v8 v9 v10 v11 v12 l0 x nw W H C T A B y o t := by
  unfold isH at h ⊢; simp [World.setCell, Array.getElem?_modify, h]
theorem isH.set2
  {w : World} {b : Nat} {v0 v1 v2 v3 v4 v5 v6 v7 v8 v9 v10 v11 v12 : Value} {l0 l1 nw W H : Int} {C : ByteArray} {T : Int} {A B : ByteArray} {y o : Int} {t : ByteArray} (h : isH w b v0 v1 v2 v3 v4 v5 v6 v7 v8 v9 v10 v11 v12 l0 l1 nw W H C T A B y o t)
  (x : Int) : isH (w.setCell ⟨b, 2, none⟩ (.int .i64 x)) b v0 v1 v2 v3 v4 v5 v6 v7 v8 v9 v10 v11 v12 l0 l1 x W H C T A B y o t := by
  unfold isH at h ⊢; simp [World.setCell, Array.getElem?_modify, h]
theorem isH.setP
  {w : World} {b : Nat} {v0 v1 v2 v3 v4 v5 v6 v7 v8 v9 v10 v11 v12 : Value} {l0 l1 nw W H : Int} {C : ByteArray} {T : Int} {A B : ByteArray} {y o : Int} {t : ByteArray} (h : isH w b v0 v1 v2 v3 v4 v5 v6 v7 v8 v9 v10 v11 v12 l0 l1 nw W H C T A B y o t)
  (W' H' : Int) (C' : ByteArray) (T' : Int) (A' B' : ByteArray) : isH ((((((w.setCell ⟨b, 16, none⟩ (.int .i64 W')).setCell ⟨b, 17, none⟩ (.int .i64 H')).setCell ⟨b, 18, none⟩ (.string C')).setCell ⟨b, 19, none⟩ (.int .i64 T')).setCell ⟨b, 20, none⟩ (.string A')).setCell ⟨b, 21, none⟩ (.string B')) b v0 v1 v2 v3 v4 v5 v6 v7 v8 v9 v10 v11 v12 l0 l1 nw W' H' C' T' A' B' y o t := by
  unfold isH at h ⊢; simp [World.setCell, Array.getElem?_modify, h]
theorem isH.set22
  {w : World} {b : Nat} {v0 v1 v2 v3 v4 v5 v6 v7 v8 v9 v10 v11 v12 : Value} {l0 l1 nw W H : Int} {C : ByteArray} {T : Int} {A B : ByteArray} {y o : Int} {t : ByteArray} (h : isH w b v0 v1 v2 v3 v4 v5 v6 v7 v8 v9 v10 v11 v12 l0 l1 nw W H C T A B y o t)
  (x : Int) : isH (w.setCell ⟨b, 22, none⟩ (.int .i64 x)) b v0 v1 v2 v3 v4 v5 v6 v7 v8 v9 v10 v11 v12 l0 l1 nw W H C T A B x o t := by
  unfold isH at h ⊢; simp [World.setCell, Array.getElem?_modify, h]
theorem isH.set23
  {w : World} {b : Nat} {v0 v1 v2 v3 v4 v5 v6 v7 v8 v9 v10 v11 v12 : Value} {l0 l1 nw W H : Int} {C : ByteArray} {T : Int} {A B : ByteArray} {y o : Int} {t : ByteArray} (h : isH w b v0 v1 v2 v3 v4 v5 v6 v7 v8 v9 v10 v11 v12 l0 l1 nw W H C T A B y o t)
  (x : Int) : isH (w.setCell ⟨b, 23, none⟩ (.int .i64 x)) b v0 v1 v2 v3 v4 v5 v6 v7 v8 v9 v10 v11 v12 l0 l1 nw W H C T A B y x t := by
  unfold isH at h ⊢; simp [World.setCell, Array.getElem?_modify, h]
theorem isH.set24
  {w : World} {b : Nat} {v0 v1 v2 v3 v4 v5 v6 v7 v8 v9 v10 v11 v12 : Value} {l0 l1 nw W H : Int} {C : ByteArray} {T : Int} {A B : ByteArray} {y o : Int} {t : ByteArray} (h : isH w b v0 v1 v2 v3 v4 v5 v6 v7 v8 v9 v10 v11 v12 l0 l1 nw W H C T A B y o t)
  (x : ByteArray) : isH (w.setCell ⟨b, 24, none⟩ (.string x)) b v0 v1 v2 v3 v4 v5 v6 v7 v8 v9 v10 v11 v12 l0 l1 nw W H C T A B y o x := by
  unfold isH at h ⊢; simp [World.setCell, Array.getElem?_modify, h]
/-- The house x, its outcome o, in block b. -/
def isHo (w : World) (b : Nat) (v0 v1 v2 v3 v4 v5 v6 v7 v8 v9 v10 v11 v12 : Value) (x : Ho) (o : Int) : Prop :=
  isH w b v0 v1 v2 v3 v4 v5 v6 v7 v8 v9 v10 v11 v12 x.l0 x.l1 x.now x.p.W x.p.H x.p.C x.p.T x.p.A x.p.B x.ply o x.tx

/-- The document's house in block b. -/
def isR (w : World) (b : Nat) (v0 v1 v2 v3 v4 v5 v6 v7 v8 v9 v10 v11 v12 : Value) (W H : Int) (C : ByteArray) (T : Int) (A B : ByteArray) (y l0 l1 nw f : Int) (t : ByteArray) : Prop :=
  w.heap[b]? = some (.cells #[v0, v1, v2, v3, v4, v5, v6, v7, v8, v9, v10, v11, v12, .int .i64 W, .int .i64 H, .string C, .int .i64 T, .string A, .string B, .int .i64 y, .int .i64 l0, .int .i64 l1, .int .i64 nw, .int .i64 f, .string t] 38 (0, 0))
theorem isR.cells
  {w : World} {b : Nat} {v0 v1 v2 v3 v4 v5 v6 v7 v8 v9 v10 v11 v12 : Value} {W H : Int} {C : ByteArray} {T : Int} {A B : ByteArray} {y l0 l1 nw f : Int} {t : ByteArray} (h : isR w b v0 v1 v2 v3 v4 v5 v6 v7 v8 v9 v10 v11 v12 W H C T A B y l0 l1 nw f t)
  : (w.cell? ⟨b, 0, none⟩ = some v0 ∧ w.cell? ⟨b, 1, none⟩ = some v1 ∧ w.cell? ⟨b, 2, none⟩ = some v2 ∧ w.cell? ⟨b, 3, none⟩ = some v3 ∧ w.cell? ⟨b, 4, none⟩ = some v4 ∧ w.cell? ⟨b, 5, none⟩ = some v5 ∧ w.cell? ⟨b, 6, none⟩ = some v6 ∧ w.cell? ⟨b, 7, none⟩ = some v7 ∧ w.cell? ⟨b, 8, none⟩ = some v8 ∧ w.cell? ⟨b, 9, none⟩ = some v9 ∧ w.cell? ⟨b, 10, none⟩ = some v10 ∧ w.cell? ⟨b, 11, none⟩ = some v11 ∧ w.cell? ⟨b, 12, none⟩ = some v12) ∧
    (w.cell? ⟨b, 13, none⟩ = some (.int .i64 W) ∧ w.cell? ⟨b, 14, none⟩ = some (.int .i64 H) ∧ w.cell? ⟨b, 15, none⟩ = some (.string C) ∧ w.cell? ⟨b, 16, none⟩ = some (.int .i64 T) ∧ w.cell? ⟨b, 17, none⟩ = some (.string A) ∧ w.cell? ⟨b, 18, none⟩ = some (.string B)) ∧
    w.cell? ⟨b, 19, none⟩ = some (.int .i64 y) ∧ w.cell? ⟨b, 20, none⟩ = some (.int .i64 l0) ∧ w.cell? ⟨b, 21, none⟩ = some (.int .i64 l1) ∧ w.cell? ⟨b, 22, none⟩ = some (.int .i64 nw) ∧ w.cell? ⟨b, 23, none⟩ = some (.int .i64 f) ∧ w.cell? ⟨b, 24, none⟩ = some (.string t) := by
  unfold isR at h
  simp [World.cell?, h]
theorem isR.lt
  {w : World} {b : Nat} {v0 v1 v2 v3 v4 v5 v6 v7 v8 v9 v10 v11 v12 : Value} {W H : Int} {C : ByteArray} {T : Int} {A B : ByteArray} {y l0 l1 nw f : Int} {t : ByteArray} (h : isR w b v0 v1 v2 v3 v4 v5 v6 v7 v8 v9 v10 v11 v12 W H C T A B y l0 l1 nw f t)
  : b < w.heap.size := (Array.getElem?_eq_some_iff.1 h).1
theorem isR.frozen
  {w : World} {b : Nat} {v0 v1 v2 v3 v4 v5 v6 v7 v8 v9 v10 v11 v12 : Value} {W H : Int} {C : ByteArray} {T : Int} {A B : ByteArray} {y l0 l1 nw f : Int} {t : ByteArray} (h : isR w b v0 v1 v2 v3 v4 v5 v6 v7 v8 v9 v10 v11 v12 W H C T A B y l0 l1 nw f t)
  (k : Nat) : w.frozen? ⟨b, k, none⟩ = false := frozen_of_row w b k _ _ h
theorem isR.of_block
  {w : World} {b : Nat} {v0 v1 v2 v3 v4 v5 v6 v7 v8 v9 v10 v11 v12 : Value} {W H : Int} {C : ByteArray} {T : Int} {A B : ByteArray} {y l0 l1 nw f : Int} {t : ByteArray} (h : isR w b v0 v1 v2 v3 v4 v5 v6 v7 v8 v9 v10 v11 v12 W H C T A B y l0 l1 nw f t)
  {w' : World} (hb : w'.heap[b]? = w.heap[b]?) : isR w' b v0 v1 v2 v3 v4 v5 v6 v7 v8 v9 v10 v11 v12 W H C T A B y l0 l1 nw f t := hb.trans h
theorem isR.below
  {w : World} {b : Nat} {v0 v1 v2 v3 v4 v5 v6 v7 v8 v9 v10 v11 v12 : Value} {W H : Int} {C : ByteArray} {T : Int} {A B : ByteArray} {y l0 l1 nw f : Int} {t : ByteArray} (h : isR w b v0 v1 v2 v3 v4 v5 v6 v7 v8 v9 v10 v11 v12 W H C T A B y l0 l1 nw f t)
  {w' : World} {S : Nat} (hb : Below S w w') (hS : b < S) : isR w' b v0 v1 v2 v3 v4 v5 v6 v7 v8 v9 v10 v11 v12 W H C T A B y l0 l1 nw f t := h.of_block (hb.block b hS)
theorem isR.ex
  {w : World} {b : Nat} {v0 v1 v2 v3 v4 v5 v6 v7 v8 v9 v10 v11 v12 : Value} {W H : Int} {C : ByteArray} {T : Int} {A B : ByteArray} {y l0 l1 nw f : Int} {t : ByteArray} (h : isR w b v0 v1 v2 v3 v4 v5 v6 v7 v8 v9 v10 v11 v12 W H C T A B y l0 l1 nw f t)
  {w' : World} {c S : Nat} (hb : Ex c S w w') (hS : b < S) (hn : b ≠ c) : isR w' b v0 v1 v2 v3 v4 v5 v6 v7 v8 v9 v10 v11 v12 W H C T A B y l0 l1 nw f t := h.of_block (hb.block b hS hn)
theorem isR.setP
  {w : World} {b : Nat} {v0 v1 v2 v3 v4 v5 v6 v7 v8 v9 v10 v11 v12 : Value} {W H : Int} {C : ByteArray} {T : Int} {A B : ByteArray} {y l0 l1 nw f : Int} {t : ByteArray} (h : isR w b v0 v1 v2 v3 v4 v5 v6 v7 v8 v9 v10 v11 v12 W H C T A B y l0 l1 nw f t)
  (W' H' : Int) (C' : ByteArray) (T' : Int) (A' B' : ByteArray) : isR ((((((w.setCell ⟨b, 13, none⟩ (.int .i64 W')).setCell ⟨b, 14, none⟩ (.int .i64 H')).setCell ⟨b, 15, none⟩ (.string C')).setCell ⟨b, 16, none⟩ (.int .i64 T')).setCell ⟨b, 17, none⟩ (.string A')).setCell ⟨b, 18, none⟩ (.string B')) b v0 v1 v2 v3 v4 v5 v6 v7 v8 v9 v10 v11 v12 W' H' C' T' A' B' y l0 l1 nw f t := by
  unfold isR at h ⊢; simp [World.setCell, Array.getElem?_modify, h]
theorem isR.set22
  {w : World} {b : Nat} {v0 v1 v2 v3 v4 v5 v6 v7 v8 v9 v10 v11 v12 : Value} {W H : Int} {C : ByteArray} {T : Int} {A B : ByteArray} {y l0 l1 nw f : Int} {t : ByteArray} (h : isR w b v0 v1 v2 v3 v4 v5 v6 v7 v8 v9 v10 v11 v12 W H C T A B y l0 l1 nw f t)
  (x : Int) : isR (w.setCell ⟨b, 22, none⟩ (.int .i64 x)) b v0 v1 v2 v3 v4 v5 v6 v7 v8 v9 v10 v11 v12 W H C T A B y l0 l1 x f t := by
  unfold isR at h ⊢; simp [World.setCell, Array.getElem?_modify, h]
theorem isR.set23
  {w : World} {b : Nat} {v0 v1 v2 v3 v4 v5 v6 v7 v8 v9 v10 v11 v12 : Value} {W H : Int} {C : ByteArray} {T : Int} {A B : ByteArray} {y l0 l1 nw f : Int} {t : ByteArray} (h : isR w b v0 v1 v2 v3 v4 v5 v6 v7 v8 v9 v10 v11 v12 W H C T A B y l0 l1 nw f t)
  (x : Int) : isR (w.setCell ⟨b, 23, none⟩ (.int .i64 x)) b v0 v1 v2 v3 v4 v5 v6 v7 v8 v9 v10 v11 v12 W H C T A B y l0 l1 nw x t := by
  unfold isR at h ⊢; simp [World.setCell, Array.getElem?_modify, h]
theorem isR.set24
  {w : World} {b : Nat} {v0 v1 v2 v3 v4 v5 v6 v7 v8 v9 v10 v11 v12 : Value} {W H : Int} {C : ByteArray} {T : Int} {A B : ByteArray} {y l0 l1 nw f : Int} {t : ByteArray} (h : isR w b v0 v1 v2 v3 v4 v5 v6 v7 v8 v9 v10 v11 v12 W H C T A B y l0 l1 nw f t)
  (x : ByteArray) : isR (w.setCell ⟨b, 24, none⟩ (.string x)) b v0 v1 v2 v3 v4 v5 v6 v7 v8 v9 v10 v11 v12 W H C T A B y l0 l1 nw f x := by
  unfold isR at h ⊢; simp [World.setCell, Array.getElem?_modify, h]
/-- A message in a box. -/
def isG (w : World) (b : Nat) (m : Ms) : Prop := w.heap[b]? = some (.cells #[.int .i64 m.seat, .int .i64 m.ply, .string m.mv, .int .i64 m.at_] 43 (0, 0))
theorem isG.cells {w : World} {b : Nat} {m : Ms} (h : isG w b m) : w.cell? ⟨b, 0, none⟩ = some (.int .i64 m.seat) ∧ w.cell? ⟨b, 1, none⟩ = some (.int .i64 m.ply) ∧ w.cell? ⟨b, 2, none⟩ = some (.string m.mv) ∧ w.cell? ⟨b, 3, none⟩ = some (.int .i64 m.at_) := by
  unfold isG at h
  simp [World.cell?, h]
theorem isG.lt {w : World} {b : Nat} {m : Ms} (h : isG w b m) : b < w.heap.size := (Array.getElem?_eq_some_iff.1 h).1
theorem isG.below {w w' : World} {b S : Nat} {m : Ms} (h : isG w b m) (hb : Below S w w') (hS : b < S) : isG w' b m := (hb.block b hS).trans h
theorem isG.ex {w w' : World} {b c S : Nat} {m : Ms} (h : isG w b m) (hb : Ex c S w w') (hS : b < S) (hn : b ≠ c) : isG w' b m := (hb.block b hS hn).trans h
theorem isG.frozen {w : World} {b : Nat} {m : Ms} (h : isG w b m) (k : Nat) : w.frozen? ⟨b, k, none⟩ = false := frozen_of_row w b k _ _ h
theorem isG.new (w : World) (m : Ms) : isG (w.alloc (.cells #[.int .i64 m.seat, .int .i64 m.ply, .string m.mv, .int .i64 m.at_] 43 (0, 0))) w.heap.size m := heap_alloc_new w _
end Go.Proofs.YtihojhfpepbjhaaGreatDoor
