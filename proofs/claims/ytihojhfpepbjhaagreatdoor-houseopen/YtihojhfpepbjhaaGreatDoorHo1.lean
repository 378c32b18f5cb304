/-
  A house of a game, in plain form: what a message does to it.
-/
import Derived.Test.YtihojhfpepbjhaaGreatDoorJ0
import Derived.Test.YtihojhfpepbjhaaGreatDoorJ8
import Derived.Lib.ItoaLen
namespace Go.Proofs.YtihojhfpepbjhaaGreatDoor
open Go.RowKit

/-- A message. -/
structure Ms where
  seat : Int
  ply : Int
  mv : ByteArray
  at_ : Int
/-- A game that is played: where it stands, how many moves were made, what is left of the clocks, now, whether a clock ran out (and who has won so), what was done. -/
structure Ho where
  p : Po
  ply : Int
  l0 : Int
  l1 : Int
  now : Int
  flag : Int
  tx : ByteArray
/-- What a game is: its outcomes, its moves, what is behind them, their texts, how many moves it may have. -/
structure Gm where
  O : Po → Int
  L : Po → List Mv
  beh : Po → Mv → Po
  tx : Po → Mv → List UInt8
  pl : Int
def itoaB (n : Int) : ByteArray := ⟨(Lib.itoa n).toArray⟩
def lineX (ply now : Int) (mv : ByteArray) : ByteArray := itoaB ply ++ ⟨#[32]⟩ ++ itoaB now ++ ⟨#[32]⟩ ++ mv ++ ⟨#[10]⟩
def Gm.find (G : Gm) (p : Po) (s : ByteArray) : Option Mv := (G.L p).find? fun m => decide (G.tx p m = s.data.toList)
def Gm.ended (G : Gm) (x : Ho) : Int := if 0 < x.flag then x.flag else if G.O x.p = 0 ∧ x.ply = G.pl then 3 else G.O x.p
def Ho.left (x : Ho) : Int := if x.p.T = 0 then x.l0 else x.l1
def Ho.go (x : Ho) (a : Int) : Ho :=
  if x.now < a then (if x.p.T = 0 then { x with l0 := x.l0 - (a - x.now), now := a } else { x with l1 := x.l1 - (a - x.now), now := a }) else x
def Gm.step (G : Gm) (x : Ho) (m : Ms) : Ho × Int :=
  if G.ended x ≠ 0 then (x, 5)
  else if (x.go m.at_).left < 0 then ({ x.go m.at_ with flag := 2 - x.p.T }, 5)
  else if m.ply ≠ x.ply then (x.go m.at_, 2)
  else if m.seat ≠ x.p.T then (x.go m.at_, 3)
  else match G.find x.p m.mv with
    | none => (x.go m.at_, 4)
    | some mv => ({ x.go m.at_ with p := G.beh x.p mv, ply := x.ply + 1, tx := x.tx ++ lineX x.ply (x.go m.at_).now m.mv }, 1)
def Gm.run (G : Gm) : Ho → List Ms → Ho
  | x, [] => x
  | x, m :: l => G.run (G.step x m).1 l
/-- What the game is good for. -/
structure Gm.Ok (G : Gm) (ok : Po → Prop) : Prop where
  t : ∀ p, ok p → p.T = 0 ∨ p.T = 1
  o : ∀ p, ok p → 0 ≤ G.O p ∧ G.O p ≤ 3
  st : ∀ p, ok p → ∀ m ∈ G.L p, ok (G.beh p m) ∧ (G.beh p m).T = 1 - p.T
  tx : ∀ p, ok p → ∀ m ∈ G.L p, (G.tx p m).length ≤ 10
  pl : 1 ≤ G.pl ∧ G.pl ≤ 1000
/-- What holds of a game all the time. -/
structure HoI (G : Gm) (ok : Po → Prop) (x : Ho) : Prop where
  p : ok x.p
  ply : 0 ≤ x.ply ∧ x.ply ≤ G.pl
  now : 0 ≤ x.now ∧ x.now < 9223372036854775808
  l0 : -9223372036854775808 < x.l0 ∧ x.l0 ≤ 1000000
  l1 : -9223372036854775808 < x.l1 ∧ x.l1 ≤ 1000000
  flag : 0 ≤ x.flag ∧ x.flag ≤ 2
  live : x.flag = 0 → 0 ≤ x.l0 ∧ 0 ≤ x.l1
  tx : (x.tx.size : Int) ≤ 100 * x.ply
theorem itoa_len (n : Int) (h : 0 ≤ n ∧ n < 9223372036854775808) : (itoaB n).size ≤ 21 := by
  have := Lib.itoa_length_le n (by omega) (by omega)
  unfold itoaB
  show (Lib.itoa n).toArray.size ≤ 21
  rw [List.size_toArray]
  exact this
theorem lineX_len {ply now : Int} {mv : ByteArray} (h1 : 0 ≤ ply ∧ ply < 9223372036854775808) (h2 : 0 ≤ now ∧ now < 9223372036854775808) (h3 : mv.size ≤ 10) : (lineX ply now mv).size ≤ 100 := by
  have a := itoa_len ply h1
  have b := itoa_len now h2
  unfold lineX
  simp only [ByteArray.size_append]
  have e1 : (⟨#[32]⟩ : ByteArray).size = 1 := rfl
  have e2 : (⟨#[10]⟩ : ByteArray).size = 1 := rfl
  omega
theorem Ho.go_p (x : Ho) (a : Int) : (x.go a).p = x.p := by
  unfold Ho.go
  repeat' split
  all_goals rfl
theorem Ho.go_ply (x : Ho) (a : Int) : (x.go a).ply = x.ply := by
  unfold Ho.go
  repeat' split
  all_goals rfl
theorem Ho.go_flag (x : Ho) (a : Int) : (x.go a).flag = x.flag := by
  unfold Ho.go
  repeat' split
  all_goals rfl
theorem Ho.go_tx (x : Ho) (a : Int) : (x.go a).tx = x.tx := by
  unfold Ho.go
  repeat' split
  all_goals rfl
theorem Gm.find_mem {G : Gm} {p : Po} {s : ByteArray} {m : Mv} (h : G.find p s = some m) : m ∈ G.L p ∧ G.tx p m = s.data.toList :=
  ⟨List.mem_of_find?_eq_some h, by simpa using List.find?_some h⟩
theorem ended_flag {G : Gm} {x : Ho} (h : G.ended x = 0) (hx : 0 ≤ x.flag) : x.flag = 0 := by
  unfold Gm.ended at h
  split at h <;> omega
theorem ended_more {G : Gm} {ok : Po → Prop} {x : Ho} (hx : HoI G ok x) (h : G.ended x = 0) : x.ply < G.pl ∧ G.O x.p = 0 := by
  have hf := ended_flag h hx.flag.1
  have := hx.ply
  unfold Gm.ended at h
  rw [hf, if_neg (by omega)] at h
  split at h
  · cases h
  · exact ⟨by omega, h⟩
theorem HoI.go {G : Gm} {ok : Po → Prop} {x : Ho} (h : HoI G ok x) (hf : x.flag = 0) {a : Int} (ha : a < 9223372036854775808) : (HoI G ok { x.go a with flag := 1 } ∧ HoI G ok { x.go a with flag := 2 }) ∧ (0 ≤ (x.go a).left → HoI G ok (x.go a)) := by
  obtain ⟨l0, l1⟩ := h.live hf
  have n := h.now
  have b0 := h.l0
  have b1 := h.l1
  unfold Ho.left
  rw [Ho.go_p]
  unfold Ho.go
  split
  · split
    · refine ⟨⟨⟨h.p, h.ply, ⟨by dsimp; omega, ha⟩, ⟨by dsimp; omega, by dsimp; omega⟩, h.l1, ⟨by dsimp; omega, by dsimp; omega⟩, fun e => by dsimp at e; omega, h.tx⟩, ⟨h.p, h.ply, ⟨by dsimp; omega, ha⟩, ⟨by dsimp; omega, by dsimp; omega⟩, h.l1, ⟨by dsimp; omega, by dsimp; omega⟩, fun e => by dsimp at e; omega, h.tx⟩⟩, fun hl => ⟨h.p, h.ply, ⟨by dsimp; omega, ha⟩, ⟨by dsimp; omega, by dsimp; omega⟩, h.l1, h.flag, fun _ => ⟨hl, l1⟩, h.tx⟩⟩
    · refine ⟨⟨⟨h.p, h.ply, ⟨by dsimp; omega, ha⟩, h.l0, ⟨by dsimp; omega, by dsimp; omega⟩, ⟨by dsimp; omega, by dsimp; omega⟩, fun e => by dsimp at e; omega, h.tx⟩, ⟨h.p, h.ply, ⟨by dsimp; omega, ha⟩, h.l0, ⟨by dsimp; omega, by dsimp; omega⟩, ⟨by dsimp; omega, by dsimp; omega⟩, fun e => by dsimp at e; omega, h.tx⟩⟩, fun hl => ⟨h.p, h.ply, ⟨by dsimp; omega, ha⟩, h.l0, ⟨by dsimp; omega, by dsimp; omega⟩, h.flag, fun _ => ⟨l0, hl⟩, h.tx⟩⟩
  · exact ⟨⟨⟨h.p, h.ply, n, b0, b1, ⟨by dsimp; omega, by dsimp; omega⟩, fun e => by dsimp at e; omega, h.tx⟩, ⟨h.p, h.ply, n, b0, b1, ⟨by dsimp; omega, by dsimp; omega⟩, fun e => by dsimp at e; omega, h.tx⟩⟩, fun _ => h⟩
theorem HoI.step {G : Gm} {ok : Po → Prop} (hG : G.Ok ok) {x : Ho} (h : HoI G ok x) {m : Ms} (ha : m.at_ < 9223372036854775808) : HoI G ok (G.step x m).1 := by
  unfold Gm.step
  split
  · exact h
  · rename_i he
    have he : G.ended x = 0 := Classical.byContradiction he
    have hf := ended_flag he h.flag.1
    obtain ⟨⟨h1, h2⟩, h3⟩ := h.go hf ha
    obtain ⟨hm, -⟩ := ended_more h he
    split
    · rcases hG.t _ h.p with e | e
      · rw [e]; exact h2
      · rw [e]; exact h1
    · rename_i hl
      have h3 := h3 (by omega)
      split
      · exact h3
      split
      · exact h3
      split
      · exact h3
      · rename_i mv hmv
        obtain ⟨hm1, hm2⟩ := Gm.find_mem hmv
        have hst := hG.st _ h.p _ hm1
        have hp := h.ply
        have hpl := hG.pl
        refine ⟨hst.1, ⟨by dsimp; omega, by dsimp; omega⟩, h3.now, h3.l0, h3.l1, h3.flag, h3.live, ?_⟩
        have hs := hG.tx _ h.p _ hm1
        rw [hm2, len_data] at hs
        have hn := lineX_len (ply := x.ply) ⟨by omega, by omega⟩ h3.now hs
        have ht := h.tx
        dsimp
        rw [ByteArray.size_append]
        omega
theorem HoI.run {G : Gm} {ok : Po → Prop} (hG : G.Ok ok) : ∀ (l : List Ms) {x : Ho}, HoI G ok x → (∀ m ∈ l, m.at_ < 9223372036854775808) → HoI G ok (G.run x l)
  | [], _, h, _ => h
  | m :: l, _, h, ha => HoI.run hG l (h.step hG (ha m (by simp))) fun q hq => ha q (by simp [hq])
theorem run_snoc (G : Gm) : ∀ (l : List Ms) (x : Ho) (m : Ms), G.run x (l ++ [m]) = (G.step (G.run x l) m).1
  | [], _, _ => rfl
  | q :: l, x, m => run_snoc G l (G.step x q).1 m
/-- At the start. -/
def startX (p : Po) (time : Int) : Ho := ⟨p, 0, time, time, 0, 0, ⟨#[]⟩⟩
theorem start_I {G : Gm} {ok : Po → Prop} (hG : G.Ok ok) {p : Po} (hp : ok p) {time : Int} (h : 1 ≤ time ∧ time ≤ 1000000) : HoI G ok (startX p time) :=
  ⟨hp, ⟨by simp [startX], by have := hG.pl; simp [startX]; omega⟩, by simp [startX], ⟨by simp [startX]; omega, by simp [startX]; omega⟩, ⟨by simp [startX]; omega, by simp [startX]; omega⟩, by simp [startX], fun _ => ⟨by simp [startX]; omega, by simp [startX]; omega⟩, by show ((0 : Nat) : Int) ≤ 100 * 0; omega⟩
end Go.Proofs.YtihojhfpepbjhaaGreatDoor
