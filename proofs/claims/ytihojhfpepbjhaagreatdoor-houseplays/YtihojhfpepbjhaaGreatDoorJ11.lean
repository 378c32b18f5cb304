/-
  A house of a game, in plain form: what a message does to it.
  (*strings.Builder).copyCheck, WriteByte, WriteString, walked at this program: what the builder holds grows by what is written; nothing below its block turns.
  Texts of positions, plain mathematics: what is written is read, what is read to its end is written so.
  board.writeHand and board.Write, walked: the text of a position.
  board.Write, walked at a position.
-/
import Derived.Test.YtihojhfpepbjhaaGreatDoorJ0
import Derived.Test.YtihojhfpepbjhaaGreatDoorV13
import Derived.Lib.ItoaLen
import Derived.Shelf.Strings.Builder1
import Derived.Test.YtihojhfpepbjhaaGreatDoorJ3
namespace Go.Proofs.YtihojhfpepbjhaaGreatDoor
open Go.RowKit

/-- A message. -/
structure Ms where
  seat : Int
  ply : Int
  mv : ByteArray
  at_ : Int
/-- A game that is played: where it stands, how many moves were made, what is left of the clocks, now, whether a clock ran out (and who has won so), what was done. -/
structure Ho where
  p : Po
  ply : Int
  l0 : Int
  l1 : Int
  now : Int
  flag : Int
  tx : ByteArray
/-- What a game is: its outcomes, its moves, what is behind them, their texts, how many moves it may have. -/
structure Gm where
  O : Po → Int
  L : Po → List Mv
  beh : Po → Mv → Po
  tx : Po → Mv → List UInt8
  pl : Int
def itoaB (n : Int) : ByteArray := ⟨(Lib.itoa n).toArray⟩
def lineX (ply now : Int) (mv : ByteArray) : ByteArray := itoaB ply ++ ⟨#[32]⟩ ++ itoaB now ++ ⟨#[32]⟩ ++ mv ++ ⟨#[10]⟩
def Gm.find (G : Gm) (p : Po) (s : ByteArray) : Option Mv := (G.L p).find? fun m => decide (G.tx p m = s.data.toList)
def Gm.ended (G : Gm) (x : Ho) : Int := if 0 < x.flag then x.flag else if G.O x.p = 0 ∧ x.ply = G.pl then 3 else G.O x.p
def Ho.left (x : Ho) : Int := if x.p.T = 0 then x.l0 else x.l1
def Ho.go (x : Ho) (a : Int) : Ho :=
  if x.now < a then (if x.p.T = 0 then { x with l0 := x.l0 - (a - x.now), now := a } else { x with l1 := x.l1 - (a - x.now), now := a }) else x
def Gm.step (G : Gm) (x : Ho) (m : Ms) : Ho × Int :=
  if G.ended x ≠ 0 then (x, 5)
  else if (x.go m.at_).left < 0 then ({ x.go m.at_ with flag := 2 - x.p.T }, 5)
  else if m.ply ≠ x.ply then (x.go m.at_, 2)
  else if m.seat ≠ x.p.T then (x.go m.at_, 3)
  else match G.find x.p m.mv with
    | none => (x.go m.at_, 4)
    | some mv => ({ x.go m.at_ with p := G.beh x.p mv, ply := x.ply + 1, tx := x.tx ++ lineX x.ply (x.go m.at_).now m.mv }, 1)
def Gm.run (G : Gm) : Ho → List Ms → Ho
  | x, [] => x
  | x, m :: l => G.run (G.step x m).1 l
/-- What the game is good for. -/
structure Gm.Ok (G : Gm) (ok : Po → Prop) : Prop where
  t : ∀ p, ok p → p.T = 0 ∨ p.T = 1
  o : ∀ p, ok p → 0 ≤ G.O p ∧ G.O p ≤ 3
  st : ∀ p, ok p → ∀ m ∈ G.L p, ok (G.beh p m) ∧ (G.beh p m).T = 1 - p.T
  tx : ∀ p, ok p → ∀ m ∈ G.L p, (G.tx p m).length ≤ 10
  pl : 1 ≤ G.pl ∧ G.pl ≤ 1000
/-- What holds of a game all the time. -/
structure HoI (G : Gm) (ok : Po → Prop) (x : Ho) : Prop where
  p : ok x.p
  ply : 0 ≤ x.ply ∧ x.ply ≤ G.pl
  now : 0 ≤ x.now ∧ x.now < 9223372036854775808
  l0 : -9223372036854775808 < x.l0 ∧ x.l0 ≤ 1000000
  l1 : -9223372036854775808 < x.l1 ∧ x.l1 ≤ 1000000
  flag : 0 ≤ x.flag ∧ x.flag ≤ 2
  live : x.flag = 0 → 0 ≤ x.l0 ∧ 0 ≤ x.l1
  tx : (x.tx.size : Int) ≤ 100 * x.ply
theorem itoa_len (n : Int) (h : 0 ≤ n ∧ n < 9223372036854775808) : (itoaB n).size ≤ 21 := by
  have := Lib.itoa_length_le n (by omega) (by omega)
  unfold itoaB
  show (Lib.itoa n).toArray.size ≤ 21
  rw [List.size_toArray]
  exact this
theorem lineX_len {ply now : Int} {mv : ByteArray} (h1 : 0 ≤ ply ∧ ply < 9223372036854775808) (h2 : 0 ≤ now ∧ now < 9223372036854775808) (h3 : mv.size ≤ 10) : (lineX ply now mv).size ≤ 100 := by
  have a := itoa_len ply h1
  have b := itoa_len now h2
  unfold lineX
  simp only [ByteArray.size_append]
  have e1 : (⟨#[32]⟩ : ByteArray).size = 1 := rfl
  have e2 : (⟨#[10]⟩ : ByteArray).size = 1 := rfl
  omega
theorem Ho.go_p (x : Ho) (a : Int) : (x.go a).p = x.p := by
  unfold Ho.go
  repeat' split
  all_goals rfl
theorem Ho.go_ply (x : Ho) (a : Int) : (x.go a).ply = x.ply := by
  unfold Ho.go
  repeat' split
  all_goals rfl
theorem Ho.go_flag (x : Ho) (a : Int) : (x.go a).flag = x.flag := by
  unfold Ho.go
  repeat' split
  all_goals rfl
theorem Ho.go_tx (x : Ho) (a : Int) : (x.go a).tx = x.tx := by
  unfold Ho.go
  repeat' split
  all_goals rfl
theorem Gm.find_mem {G : Gm} {p : Po} {s : ByteArray} {m : Mv} (h : G.find p s = some m) : m ∈ G.L p ∧ G.tx p m = s.data.toList :=
  ⟨List.mem_of_find?_eq_some h, by simpa using List.find?_some h⟩
theorem ended_flag {G : Gm} {x : Ho} (h : G.ended x = 0) (hx : 0 ≤ x.flag) : x.flag = 0 := by
  unfold Gm.ended at h
  split at h <;> omega
theorem ended_more {G : Gm} {ok : Po → Prop} {x : Ho} (hx : HoI G ok x) (h : G.ended x = 0) : x.ply < G.pl ∧ G.O x.p = 0 := by
  have hf := ended_flag h hx.flag.1
  have := hx.ply
  unfold Gm.ended at h
  rw [hf, if_neg (by omega)] at h
  split at h
  · cases h
  · exact ⟨by omega, h⟩
theorem HoI.go {G : Gm} {ok : Po → Prop} {x : Ho} (h : HoI G ok x) (hf : x.flag = 0) {a : Int} (ha : a < 9223372036854775808) : (HoI G ok { x.go a with flag := 1 } ∧ HoI G ok { x.go a with flag := 2 }) ∧ (0 ≤ (x.go a).left → HoI G ok (x.go a)) := by
  obtain ⟨l0, l1⟩ := h.live hf
  have n := h.now
  have b0 := h.l0
  have b1 := h.l1
  unfold Ho.left
  rw [Ho.go_p]
  unfold Ho.go
  split
  · split
    · refine ⟨⟨⟨h.p, h.ply, ⟨by dsimp; omega, ha⟩, ⟨by dsimp; omega, by dsimp; omega⟩, h.l1, ⟨by dsimp; omega, by dsimp; omega⟩, fun e => by dsimp at e; omega, h.tx⟩, ⟨h.p, h.ply, ⟨by dsimp; omega, ha⟩, ⟨by dsimp; omega, by dsimp; omega⟩, h.l1, ⟨by dsimp; omega, by dsimp; omega⟩, fun e => by dsimp at e; omega, h.tx⟩⟩, fun hl => ⟨h.p, h.ply, ⟨by dsimp; omega, ha⟩, ⟨by dsimp; omega, by dsimp; omega⟩, h.l1, h.flag, fun _ => ⟨hl, l1⟩, h.tx⟩⟩
    · refine ⟨⟨⟨h.p, h.ply, ⟨by dsimp; omega, ha⟩, h.l0, ⟨by dsimp; omega, by dsimp; omega⟩, ⟨by dsimp; omega, by dsimp; omega⟩, fun e => by dsimp at e; omega, h.tx⟩, ⟨h.p, h.ply, ⟨by dsimp; omega, ha⟩, h.l0, ⟨by dsimp; omega, by dsimp; omega⟩, ⟨by dsimp; omega, by dsimp; omega⟩, fun e => by dsimp at e; omega, h.tx⟩⟩, fun hl => ⟨h.p, h.ply, ⟨by dsimp; omega, ha⟩, h.l0, ⟨by dsimp; omega, by dsimp; omega⟩, h.flag, fun _ => ⟨l0, hl⟩, h.tx⟩⟩
  · exact ⟨⟨⟨h.p, h.ply, n, b0, b1, ⟨by dsimp; omega, by dsimp; omega⟩, fun e => by dsimp at e; omega, h.tx⟩, ⟨h.p, h.ply, n, b0, b1, ⟨by dsimp; omega, by dsimp; omega⟩, fun e => by dsimp at e; omega, h.tx⟩⟩, fun _ => h⟩
theorem HoI.step {G : Gm} {ok : Po → Prop} (hG : G.Ok ok) {x : Ho} (h : HoI G ok x) {m : Ms} (ha : m.at_ < 9223372036854775808) : HoI G ok (G.step x m).1 := by
  unfold Gm.step
  split
  · exact h
  · rename_i he
    have he : G.ended x = 0 := Classical.byContradiction he
    have hf := ended_flag he h.flag.1
    obtain ⟨⟨h1, h2⟩, h3⟩ := h.go hf ha
    obtain ⟨hm, -⟩ := ended_more h he
    split
    · rcases hG.t _ h.p with e | e
      · rw [e]; exact h2
      · rw [e]; exact h1
    · rename_i hl
      have h3 := h3 (by omega)
      split
      · exact h3
      split
      · exact h3
      split
      · exact h3
      · rename_i mv hmv
        obtain ⟨hm1, hm2⟩ := Gm.find_mem hmv
        have hst := hG.st _ h.p _ hm1
        have hp := h.ply
        have hpl := hG.pl
        refine ⟨hst.1, ⟨by dsimp; omega, by dsimp; omega⟩, h3.now, h3.l0, h3.l1, h3.flag, h3.live, ?_⟩
        have hs := hG.tx _ h.p _ hm1
        rw [hm2, len_data] at hs
        have hn := lineX_len (ply := x.ply) ⟨by omega, by omega⟩ h3.now hs
        have ht := h.tx
        dsimp
        rw [ByteArray.size_append]
        omega
theorem HoI.run {G : Gm} {ok : Po → Prop} (hG : G.Ok ok) : ∀ (l : List Ms) {x : Ho}, HoI G ok x → (∀ m ∈ l, m.at_ < 9223372036854775808) → HoI G ok (G.run x l)
  | [], _, h, _ => h
  | m :: l, _, h, ha => HoI.run hG l (h.step hG (ha m (by simp))) fun q hq => ha q (by simp [hq])
theorem run_snoc (G : Gm) : ∀ (l : List Ms) (x : Ho) (m : Ms), G.run x (l ++ [m]) = (G.step (G.run x l) m).1
  | [], _, _ => rfl
  | q :: l, x, m => run_snoc G l (G.step x q).1 m
/-- At the start. -/
def startX (p : Po) (time : Int) : Ho := ⟨p, 0, time, time, 0, 0, ⟨#[]⟩⟩
theorem start_I {G : Gm} {ok : Po → Prop} (hG : G.Ok ok) {p : Po} (hp : ok p) {time : Int} (h : 1 ≤ time ∧ time ≤ 1000000) : HoI G ok (startX p time) :=
  ⟨hp, ⟨by simp [startX], by have := hG.pl; simp [startX]; omega⟩, by simp [startX], ⟨by simp [startX]; omega, by simp [startX]; omega⟩, ⟨by simp [startX]; omega, by simp [startX]; omega⟩, by simp [startX], fun _ => ⟨by simp [startX]; omega, by simp [startX]; omega⟩, by show ((0 : Nat) : Int) ≤ 100 * 0; omega⟩
end Go.Proofs.YtihojhfpepbjhaaGreatDoor

namespace Go.Proofs.YtihojhfpepbjhaaGreatDoor
open Go.RowKit

theorem info_u8 : (Tryz.prog.info? 5).map (fun i => (i.zero, i.size, i.bytes)) = some (some (.int .u8 0), 1, 1) := by kernel_rfl
theorem size_bld : (Tryz.prog.info? 129).map (·.size) = some 2 := by kernel_rfl
theorem lies_bld : liesAt Tryz.prog Tryz.prog.depth 129 (2 / Tryz.prog.cellsOf 129) 0 129 1 = true := by kernel_rfl

/-- A builder in block b, all of its own from b on, that holds the bytes bs. -/
abbrev Bld (b : Nat) (l : List UInt8) (w : World) : Prop := Lib.IsBuilder 129 5 b b (Lib.byteCells l) w

set_option maxHeartbeats 1000000 in
set_option maxRecDepth 100000 in
theorem copyCheck_any (b : Nat) (l : List UInt8) (w : World) (h : Bld b l w) :
    Calls Tryz.prog 106 #[.pointer (some ⟨b, 0, none⟩)] w fun e w' => e = .returned (.tuple #[]) ∧ Lib.BuilderAt 129 5 b b (.pointer (some ⟨b, 0, none⟩)) (Lib.byteCells l) w' ∧ Below b w w' := by
  obtain ⟨j, hj, hjs⟩ := Option.map_eq_some_iff.1 size_bld
  rcases h with h | h
  · have h0 := h.cell0
    have hsh := h.shape
    have hfz := h.frozen0
    go_enter Tryz.func106, Tryz.ntmps106
    go_wp2
    rw [Lib.run_to_unsafe w ⟨b, 0, none⟩ Tryz.underlying126 Tryz.underlying192 hj (by rw [hjs]; decide) hsh (Nat.zero_lt_succ 1)]
    simp only [Result.andThen]
    rw [Oper.upon_value]
    go_wp2
    rw [run_callFunc_extern Tryz.func146 (by kernel_rfl) (by kernel_rfl) (by kernel_rfl) (e := Extern.AbiNoEscape.same) (by kernel_rfl)]
    rw [Lib.run_noEscape]
    simp only [Result.andThen]
    rw [Oper.upon_value]
    go_wp2
    rw [Lib.run_from_unsafe w ⟨b, 0, none⟩ Tryz.underlying192 Tryz.underlying126 hj hsh lies_bld]
    simp only [Result.andThen]
    rw [Oper.upon_value]
    go_wp2
    go_end0
    exact ⟨rfl, h.used _, (Below.refl b w).setCell (p := ⟨b, 0, none⟩) (Nat.le_refl _) _⟩
  · have h0 := h.cell0
    go_enter Tryz.func106, Tryz.ntmps106
    go_wp2
    rw [Lib.run_neq_ptr_same w _ Tryz.underlying126 hj]
    go_wp2
    go_end0
    exact ⟨rfl, h, Below.refl b _⟩

set_option maxHeartbeats 2000000 in
set_option maxRecDepth 100000 in
theorem WriteByte_any (b : Nat) (l : List UInt8) (c : UInt8) (w : World) (h : Bld b l w) (hlen : l.length < 1000000) :
    Calls Tryz.prog 70 #[.pointer (some ⟨b, 0, none⟩), .int .u8 (c.toNat : Int)] w fun e w' => e = .returned .nilIface ∧ Bld b (l ++ [c]) w' ∧ Below b w w' := by
  obtain ⟨i0, hi, hz0, hz1, hz2⟩ := info_parts info_u8
  have hbs : b < w.heap.size := by
    rcases h with h | h
    · exact h.lt
    · exact h.lt
  go_enter Tryz.func70, Tryz.ntmps70
  go_wp2_with (go_at_call 106; refine (copyCheck_any b l _ h).mono ?_)
  rintro e w1 ⟨rfl, h1, hb1⟩
  have hsz := hb1.size
  obtain ⟨hB, v, hbk, hown, hne⟩ := h1
  have c0 : w1.cell? ⟨b, 0, none⟩ = some (.pointer (some ⟨b, 0, none⟩)) := by rw [Lib.cell_of_heap hbk]; rfl
  have c1 : w1.cell? ⟨b, 1, none⟩ = some v := by rw [Lib.cell_of_heap hbk]; rfl
  have hll : (Lib.byteCells l).length = l.length := Lib.byteCells_length l
  go_wp2_with (at_builtin; refine wpList_append_own _ rfl _ _ 127 rfl b 5 i0 (.int .u8 0) 1 1 Tryz.underlying127 hi hz0 hz1 hz2 rfl (by decide) _ _ _ rfl (hown.alloc _) ⟨w1.heap.size, 0, none⟩ 1 1 [.int .u8 (c.toNat : Int)] rfl rfl ?c1 ?c2 ?c3 ?c4 ?c5 ?_)
  case c1 =>
    intro j u hj
    match j, hj with
    | 0, hj => simp at hj; subst hj; simp [Addr.add]
  case c2 => intro u hu; simp at hu; subst hu; rfl
  case c3 => unfold maxLen; omega
  case c4 => omega
  case c5 => simp; omega
  intro v' w2 hown' hgrow _
  have hlt : b < w1.heap.size := by omega
  have hb2 : w2.heap[b]? = some (.cells #[.pointer (some ⟨b, 0, none⟩), v] 129 (0, 0)) := by
    rw [hgrow.block b (by simp; omega) (fun e => hne e.symm), Lib.alloc_old w1 _ b hlt]
    exact hbk
  have d0 : w2.cell? ⟨b, 0, none⟩ = some (.pointer (some ⟨b, 0, none⟩)) := by rw [Lib.cell_of_heap hb2]; rfl
  have d1 : w2.cell? ⟨b, 1, none⟩ = some v := by rw [Lib.cell_of_heap hb2]; rfl
  have f1 : w2.frozen? ⟨b, 1, none⟩ = false := Lib.frozen_of_heap hb2 1
  obtain ⟨g, cap, rfl⟩ : ∃ g cap, v' = .slice (some ⟨g, 0, none⟩) (l.length + 1) cap := by
    rcases hown'.2 with ⟨_, h0⟩ | ⟨g, cap, cur, hv, _⟩
    · omega
    · exact ⟨g, cap, hv⟩
  go_wp2
  go_ret
  refine ⟨rfl, Or.inr ?_, ?_⟩
  · have hcs : Lib.byteCells (l ++ [c]) = Lib.byteCells l ++ [.int .u8 (c.toNat : Int)] := by simp [Lib.byteCells]
    rw [hcs]
    exact Lib.BuilderAt.put (T := 129) (e := 5) hB hb2 (bs' := Lib.byteCells l ++ [.int .u8 (c.toNat : Int)]) (by simpa [hll] using hown') (by decide)
  · exact ((hb1.alloc (by omega) _).grown hgrow (by simp; omega) (fun k hk => (hown.lt k hk).1)).setCell (p := ⟨b, 1, none⟩) hB _

set_option maxHeartbeats 2000000 in
set_option maxRecDepth 100000 in
theorem WriteString_any (b : Nat) (l : List UInt8) (s : ByteArray) (w : World) (h : Bld b l w) (hlen : l.length < 1000000) (hs : s.size < 1000000) :
    Calls Tryz.prog 69 #[.pointer (some ⟨b, 0, none⟩), .string s] w fun e w' => e = .returned (.tuple #[.int .i64 s.size, .nilIface]) ∧ Bld b (l ++ s.data.toList) w' ∧ Below b w w' := by
  obtain ⟨i0, hi, hz0, hz1, hz2⟩ := info_parts info_u8
  have hbs : b < w.heap.size := by
    rcases h with h | h
    · exact h.lt
    · exact h.lt
  go_enter Tryz.func69, Tryz.ntmps69
  go_wp2_with (go_at_call 106; refine (copyCheck_any b l _ h).mono ?_)
  rintro e w1 ⟨rfl, h1, hb1⟩
  have hsz := hb1.size
  obtain ⟨hB, v, hbk, hown, hne⟩ := h1
  have c0 : w1.cell? ⟨b, 0, none⟩ = some (.pointer (some ⟨b, 0, none⟩)) := by rw [Lib.cell_of_heap hbk]; rfl
  have c1 : w1.cell? ⟨b, 1, none⟩ = some v := by rw [Lib.cell_of_heap hbk]; rfl
  have hll : (Lib.byteCells l).length = l.length := Lib.byteCells_length l
  go_wp2_with (at_builtin; refine Lib.wpList_append_own_string _ rfl _ _ 127 9 rfl b 5 i0 Tryz.underlying127 Tryz.underlying9 hi hz0 hz1 hz2 _ _ _ rfl hown s rfl ?c3 ?c4 ?c5 ?_)
  case c3 => unfold maxLen; omega
  case c4 => omega
  case c5 => omega
  intro v' w2 hown' hgrow _
  have hlt : b < w1.heap.size := by omega
  have hb2 : w2.heap[b]? = some (.cells #[.pointer (some ⟨b, 0, none⟩), v] 129 (0, 0)) := by
    rw [hgrow.block b hlt (fun e => hne e.symm)]
    exact hbk
  have d0 : w2.cell? ⟨b, 0, none⟩ = some (.pointer (some ⟨b, 0, none⟩)) := by rw [Lib.cell_of_heap hb2]; rfl
  have d1 : w2.cell? ⟨b, 1, none⟩ = some v := by rw [Lib.cell_of_heap hb2]; rfl
  have f1 : w2.frozen? ⟨b, 1, none⟩ = false := Lib.frozen_of_heap hb2 1
  obtain ⟨ao, n', cap, rfl⟩ : ∃ ao n' cap, v' = .slice ao n' cap := by
    rcases hown'.2 with ⟨hv, _⟩ | ⟨g, cap, cur, hv, _⟩
    · exact ⟨_, _, _, hv⟩
    · exact ⟨_, _, _, hv⟩
  go_wp2
  go_ret2
  have hcs : Lib.byteCells (l ++ s.data.toList) = Lib.byteCells l ++ Lib.strCells s := by simp [Lib.byteCells, Lib.strCells]
  refine ⟨rfl, Or.inr ?_, ?_⟩
  · rw [hcs]
    exact Lib.BuilderAt.put (T := 129) (e := 5) hB hb2 (bs' := Lib.byteCells l ++ Lib.strCells s) (by simpa [Lib.strCells_length, hll] using hown') (by decide)
  · exact (hb1.grown hgrow (by omega) (fun k hk => (hown.lt k hk).1)).setCell (p := ⟨b, 1, none⟩) hB _

/-! ### (*strings.Builder).String: the library's contract, at this program's numbers -/
def str_ren : Go.Shelf.Ren := ⟨fun | 169 => 72 | n => n, fun | 0 => 0 | 3 => 3 | 5 => 5 | 9 => 9 | 37 => 127 | 70 => 126 | 72 => 129 | 127 => 156 | n => n, fun | n => n⟩
theorem str_lays : Go.Proofs.Lays.n169 Tryz.prog str_ren := {
  mixed := by kernel_rfl
  f169 := Tryz.func72.trans (congrArg some (by kernel_rfl))
  t0 := Tryz.underlying0
  a0 := Tryz.isAgg0
  z0 := Tryz.sizeOf0
  v0 := Tryz.zeroValue0
  t3 := Tryz.underlying3
  a3 := Tryz.isAgg3
  z3 := Tryz.sizeOf3
  v3 := Tryz.zeroValue3
  t9 := Tryz.underlying9
  a9 := Tryz.isAgg9
  z9 := Tryz.sizeOf9
  v9 := Tryz.zeroValue9
  t37 := Tryz.underlying127
  a37 := Tryz.isAgg127
  z37 := Tryz.sizeOf127
  v37 := Tryz.zeroValue127
  t70 := Tryz.underlying126
  a70 := Tryz.isAgg126
  z70 := Tryz.sizeOf126
  v70 := Tryz.zeroValue126
  t72 := Tryz.underlying129
  a72 := Tryz.isAgg129
  z72 := Tryz.sizeOf129
  v72 := Tryz.zeroValue129
  t127 := Tryz.underlying156
  a127 := Tryz.isAgg156
  z127 := Tryz.sizeOf156
  v127 := Tryz.zeroValue156 }
theorem str_extra : Builder.Extra Tryz.prog str_ren := {
  sizeBuilder := by kernel_rfl
  liesBuilder := by kernel_rfl
  t5 := Tryz.underlying5
  a5 := Tryz.isAgg5
  z5 := Tryz.sizeOf5
  v5 := Tryz.zeroValue5
  infoByte := by kernel_rfl
  cellsByte := by kernel_rfl
  sizeByte := by kernel_rfl
  neB5 := by decide }
theorem String_any (b : Nat) (l : List UInt8) (w : World) (h : Bld b l w) :
    Calls Tryz.prog 72 #[.pointer (some ⟨b, 0, none⟩)] w fun e w' => e = .returned (.string ⟨l.toArray⟩) ∧ Below b w w' :=
  Any.Builder_String_any str_lays str_extra b b l w h (by
    rcases h with h | h
    · exact Nat.le_of_lt h.lt
    · exact Nat.le_of_lt h.lt)
end Go.Proofs.YtihojhfpepbjhaaGreatDoor

namespace Go.Proofs.YtihojhfpepbjhaaGreatDoor

/-! ### Texts of positions: what is written, what is read -/

/-- The rows from the top one (of y) down, '/' between two. -/
def wrows (W : Nat) (C : List UInt8) : Nat → List UInt8
  | 0 => []
  | y + 1 => (C.drop (y * W)).take W ++ (if y = 0 then [] else 47 :: wrows W C y)
def whand (A : List UInt8) : List UInt8 := if A = [] then [45] else A
def wtxt (W H : Nat) (C : List UInt8) (T : Int) (A B : List UInt8) : List UInt8 :=
  wrows W C H ++ 32 :: (if T = 0 then 119 else 98) :: 32 :: (whand A ++ 47 :: whand B)

/-- How many capital letters stand at the head, none below b, none behind a greater one, at most m. -/
def hN : Nat → Int → List UInt8 → Nat
  | 0, _, _ => 0
  | _, _, [] => 0
  | m + 1, b, x :: l => if capB x.toNat && decide (b ≤ x.toNat) then hN m x.toNat l + 1 else 0

/-! ### Hands, and the whole -/

end Go.Proofs.YtihojhfpepbjhaaGreatDoor

namespace Go.Proofs.YtihojhfpepbjhaaGreatDoor
open Go.RowKit

theorem Bld.lt {b : Nat} {l : List UInt8} {w : World} (h : Bld b l w) : b < w.heap.size := by
  rcases h with h | h
  · exact h.lt
  · exact h.lt

theorem Bld.fresh (w : World) : Bld w.heap.size [] (w.alloc (.cells #[.pointer none, .slice none 0 0] 129 (0, 0))) := by
  refine Or.inl ⟨Nat.le_refl _, .slice none 0 0, heap_alloc_new w _, ?_, by simp [Value.ownBlock]⟩
  exact ⟨rfl, Or.inl ⟨rfl, rfl⟩⟩

theorem Bld.drew {b : Nat} {l : List UInt8} {w : World} (h : Bld b l w) : Bld b l w.drew := h

set_option maxHeartbeats 400000 in
theorem writeHand_any (b : Nat) (l : List UInt8) (s : ByteArray) (w : World) (h : Bld b l w) (hlen : l.length < 1000000) (hs : s.size < 1000000) :
    Calls Tryz.prog 71 #[.pointer (some ⟨b, 0, none⟩), .string s] w fun e w' => e = .returned (.tuple #[]) ∧ Bld b (l ++ whand s.data.toList) w' ∧ Below b w w' := by
  by_cases h0 : s.size = 0
  · have hs : s = ⟨#[]⟩ := by
      apply ByteArray.ext
      exact Array.eq_empty_of_size_eq_zero h0
    subst hs
    go_enter Tryz.func71, Tryz.ntmps71
    go_wp2_with (go_at_call 70; refine (WriteByte_any b l 45 _ h hlen).mono ?_)
    rintro e w1 ⟨rfl, h1, hb1⟩
    go_wp2
    refine bodyPost_ret (v := .tuple #[]) (by simp [results, Tryz.results71]) rfl ⟨rfl, h1, hb1⟩
  · have hne : s.data.toList ≠ [] := fun e => h0 (by rw [← len_data, e]; rfl)
    have hw : whand s.data.toList = s.data.toList := by rw [whand, if_neg hne]
    have hne2 : s.toList.isEmpty = false := by rw [Lib.toList_data, List.isEmpty_eq_false_iff]; exact hne
    go_enter Tryz.func71, Tryz.ntmps71
    go_wp2_with (go_at_call 69; refine (WriteString_any b l s _ h hlen hs).mono ?_)
    rintro e w1 ⟨rfl, h1, hb1⟩
    go_wp2
    go_end0
    exact ⟨rfl, by rw [hw]; exact h1, hb1⟩

end Go.Proofs.YtihojhfpepbjhaaGreatDoor

namespace Go.Proofs.YtihojhfpepbjhaaGreatDoor
open Go.RowKit

theorem wrows_length (W : Nat) (C : List UInt8) : ∀ n, (wrows W C n).length ≤ n * (W + 1)
  | 0 => by simp [wrows]
  | n + 1 => by
    have := wrows_length W C n
    rw [wrows, List.length_append, Nat.succ_mul]
    have h1 : (List.take W (List.drop (n * W) C)).length ≤ W := by simp; omega
    split <;> simp <;> omega

set_option maxHeartbeats 1000000 in
set_option maxRecDepth 100000 in
theorem Write_ok {W H : Nat} {T : Int} {C A B : ByteArray} (w : World) (p : IsPos W H C T A B) :
    Calls Tryz.prog 37 #[.agg #[.int .i64 W, .int .i64 H, .string C, .int .i64 T, .string A, .string B]] w fun e w' =>
      e = .returned (.tuple #[.string ⟨(wtxt W H C.data.toList T A.data.toList B.data.toList).toArray⟩, .int .i64 0]) ∧ Below w.heap.size w w' := by
  have HP := hide p
  have h64 := p.c64
  have hA := p.as
  have hB := p.bs
  have hW0 := p.w0
  have hW1 := p.w1
  have hH0 := p.h0
  have hH1 := p.h1
  have HC : Hid (C.size = W * H) := p.c
  have hT := p.t
  clear p
  go_enter Tryz.func37, Tryz.ntmps37
  go_wp2_with fail
  refine (Check_ok _ _ _ _ _ _ _ (by unfold maxLen; omega) (by unfold maxLen; omega) (by unfold maxLen; omega) (unhide HP).posB).mono ?_
  rintro e w1 ⟨rfl, hb1⟩
  have hs1 : w.heap.size + 1 ≤ w1.heap.size := by have := hb1.size; simp at this; omega
  obtain ⟨hc1, hf1⟩ := bcell hb1
  have d0 : w1.cell? ⟨w.heap.size, 0, none⟩ = some (.int .i64 W) := (hc1 w.heap.size 0 (by simp)).trans (by simp)
  have d1 : w1.cell? ⟨w.heap.size, 1, none⟩ = some (.int .i64 H) := (hc1 w.heap.size 1 (by simp)).trans (by simp)
  have d2 : w1.cell? ⟨w.heap.size, 2, none⟩ = some (.string C) := (hc1 w.heap.size 2 (by simp)).trans (by simp)
  have d3 : w1.cell? ⟨w.heap.size, 3, none⟩ = some (.int .i64 T) := (hc1 w.heap.size 3 (by simp)).trans (by simp)
  have d4 : w1.cell? ⟨w.heap.size, 4, none⟩ = some (.string A) := (hc1 w.heap.size 4 (by simp)).trans (by simp)
  have d5 : w1.cell? ⟨w.heap.size, 5, none⟩ = some (.string B) := (hc1 w.heap.size 5 (by simp)).trans (by simp)
  have hbw : Below w.heap.size w w1 := Below.trans ((Below.refl _ _).alloc (Nat.le_refl _) _) (hb1.mono (by simp))
  clear hc1 hf1 hb1
  have a1 : ∀ o, (w1.alloc o).cell? ⟨w.heap.size, 1, none⟩ = some (.int .i64 H) := fun o => (((Below.refl w1.heap.size w1).alloc (Nat.le_refl _) o).cell (p := ⟨w.heap.size, 1, none⟩) (by dsimp only; omega)).trans d1
  go_wp2
  clear a1
  have hfr := Bld.fresh w1
  go_loopw [6] (fun i wr => ∃ (k : Nat) (pre : List UInt8), k ≤ H ∧ i = .int .i64 ((k : Int) - 1) ∧ pre ++ wrows W C.data.toList k = wrows W C.data.toList H ∧ Bld w1.heap.size pre wr ∧ Below w1.heap.size w1 wr) (fun i _ => (intOf i + 1).toNat)
  case atStart => exact ⟨H, [], Nat.le_refl _, by go_num, rfl, hfr, (Below.refl _ _).alloc (Nat.le_refl _) _⟩
  case round =>
    obtain ⟨k, pre, hk, rfl, hpre, hbl, hbr⟩ := hrel
    clear hfr
    have hsz : w1.heap.size ≤ wr.heap.size := hbr.size
    have e0 := (hbr.cell (p := ⟨w.heap.size, 0, none⟩) (by dsimp only; omega)).trans d0
    have e2 := (hbr.cell (p := ⟨w.heap.size, 2, none⟩) (by dsimp only; omega)).trans d2
    have e3 := (hbr.cell (p := ⟨w.heap.size, 3, none⟩) (by dsimp only; omega)).trans d3
    have e4 := (hbr.cell (p := ⟨w.heap.size, 4, none⟩) (by dsimp only; omega)).trans d4
    have e5 := (hbr.cell (p := ⟨w.heap.size, 5, none⟩) (by dsimp only; omega)).trans d5
    have hpl : pre.length ≤ 72 := by
      have h1 := congrArg List.length hpre
      have h2 := wrows_length W C.data.toList H
      have h3 : H * (W + 1) ≤ 8 * 9 := Nat.mul_le_mul hH1 (by omega)
      rw [List.length_append] at h1
      omega
    cases k with
    | zero =>
      have hpe : pre = wrows W C.data.toList H := by rw [← hpre]; simp [wrows]
      have HPE := hide hpe
      have hA9 : A.data.toList.length ≤ 8 := by rw [len_data]; exact hA
      have hwA : (whand A.data.toList).length ≤ 8 := by unfold whand; split <;> simp <;> omega
      clear hpe hpre
      rcases hT with rfl | rfl
      · go_wp2_with fail
        refine (WriteString_any _ pre ⟨#[32, 119, 32]⟩ _ hbl (by omega) (by decide)).mono ?_
        rintro e w2 ⟨rfl, hbl2, hb2⟩
        have hs2 := hb2.size
        have q4 := (hb2.cell (p := ⟨w.heap.size, 4, none⟩) (by dsimp only; omega)).trans e4
        have q5 := (hb2.cell (p := ⟨w.heap.size, 5, none⟩) (by dsimp only; omega)).trans e5
        go_wp2_with fail
        refine (writeHand_any _ _ A _ hbl2 (by rw [List.length_append]; simp; omega) (by omega)).mono ?_
        rintro e w3 ⟨rfl, hbl3, hb3⟩
        have hs3 := hb3.size
        have t5 := (hb3.cell (p := ⟨w.heap.size, 5, none⟩) (by dsimp only; omega)).trans q5
        go_wp2_with fail
        refine (WriteByte_any _ _ 47 _ hbl3 (by rw [List.length_append, List.length_append]; simp; omega)).mono ?_
        rintro e w4 ⟨rfl, hbl4, hb4⟩
        have hs4 := hb4.size
        have v5 := (hb4.cell (p := ⟨w.heap.size, 5, none⟩) (by dsimp only; omega)).trans t5
        go_wp2_with fail
        refine (writeHand_any _ _ B _ hbl4 (by rw [List.length_append, List.length_append, List.length_append]; simp; omega) (by omega)).mono ?_
        rintro e w5 ⟨rfl, hbl5, hb5⟩
        go_wp2_with fail
        refine (String_any _ _ _ hbl5).mono ?_
        rintro e w6 ⟨rfl, hb6⟩
        go_wp2
        go_ret2
        refine ⟨?_, hbw.trans (((((hbr.trans hb2).trans hb3).trans hb4).trans hb5).trans hb6 |>.mono (by omega))⟩
        rw [unhide HPE]
        simp [wtxt]
      · go_wp2_with fail
        refine (WriteString_any _ pre ⟨#[32, 98, 32]⟩ _ hbl (by omega) (by decide)).mono ?_
        rintro e w2 ⟨rfl, hbl2, hb2⟩
        have hs2 := hb2.size
        have q4 := (hb2.cell (p := ⟨w.heap.size, 4, none⟩) (by dsimp only; omega)).trans e4
        have q5 := (hb2.cell (p := ⟨w.heap.size, 5, none⟩) (by dsimp only; omega)).trans e5
        go_wp2_with fail
        refine (writeHand_any _ _ A _ hbl2 (by rw [List.length_append]; simp; omega) (by omega)).mono ?_
        rintro e w3 ⟨rfl, hbl3, hb3⟩
        have hs3 := hb3.size
        have t5 := (hb3.cell (p := ⟨w.heap.size, 5, none⟩) (by dsimp only; omega)).trans q5
        go_wp2_with fail
        refine (WriteByte_any _ _ 47 _ hbl3 (by rw [List.length_append, List.length_append]; simp; omega)).mono ?_
        rintro e w4 ⟨rfl, hbl4, hb4⟩
        have hs4 := hb4.size
        have v5 := (hb4.cell (p := ⟨w.heap.size, 5, none⟩) (by dsimp only; omega)).trans t5
        go_wp2_with fail
        refine (writeHand_any _ _ B _ hbl4 (by rw [List.length_append, List.length_append, List.length_append]; simp; omega) (by omega)).mono ?_
        rintro e w5 ⟨rfl, hbl5, hb5⟩
        go_wp2_with fail
        refine (String_any _ _ _ hbl5).mono ?_
        rintro e w6 ⟨rfl, hb6⟩
        go_wp2
        go_ret2
        refine ⟨?_, hbw.trans (((((hbr.trans hb2).trans hb3).trans hb4).trans hb5).trans hb6 |>.mono (by omega))⟩
        rw [unhide HPE]
        simp [wtxt]
    | succ j =>
      obtain ⟨m, hm⟩ : ∃ m, m = j * W := ⟨_, rfl⟩
      have hmW : m + W = (j + 1) * W := by rw [hm, Nat.succ_mul]
      have hle : m + W ≤ C.size := by rw [hmW, unhide HC, Nat.mul_comm W H]; exact Nat.mul_le_mul_right _ hk
      have hmi : (j : Int) * (W : Int) = (m : Int) := by rw [hm]; simp
      have hni : ((j : Int) + 1) * (W : Int) = ((m + W : Nat) : Int) := by rw [hmW]; simp
      have hji : ((j + 1 : Nat) : Int) - 1 = (j : Int) := by omega
      rw [hji]
      clear hji
      have HM := hide hm
      have HMW := hide hmW
      clear hm hmW
      have hx : (C.extract m (m + W)).data.toList = (C.data.toList.drop m).take W := by
        rw [ByteArray.data_extract, Array.toList_extract, List.extract_eq_take_drop]
        congr 1
        omega
      have hxs : (C.extract m (m + W)).size ≤ 8 := by rw [ByteArray.size_extract]; omega
      have HX := hide hx
      clear hx
      have hrow : pre ++ ((C.data.toList.drop m).take W ++ (if j = 0 then [] else 47 :: wrows W C.data.toList j)) = wrows W C.data.toList H := by
        rw [← hpre, wrows, ← unhide HM]
      have HROW := hide hrow
      clear hrow
      go_wp2_with fail
      generalize C.extract m (m + W) = X at HX hxs ⊢
      refine (WriteString_any _ pre X _ hbl (by omega) (by omega)).mono ?_
      rintro e w2 ⟨rfl, hbl2, hb2⟩
      rw [unhide HX] at hbl2
      have hbr2 := hbr.trans hb2
      by_cases hj : j = 0
      · subst hj
        go_wp2
        go_roundw
        case rel => exact ⟨0, pre ++ (C.data.toList.drop m).take W, by omega, by go_num, by rw [← unhide HROW]; simp [wrows], hbl2, hbr2⟩
        case measure => simp [intOf]
      · have hj0 : (0 : Int) < (j : Int) := by omega
        go_wp2_with fail
        refine (WriteByte_any _ _ 47 _ hbl2 (by rw [List.length_append, List.length_take]; omega)).mono ?_
        rintro e w3 ⟨rfl, hbl3, hb3⟩
        have hbr3 := hbr2.trans hb3
        go_wp2
        go_roundw
        case rel => exact ⟨j, _, by omega, by go_num, by rw [← unhide HROW, if_neg hj, List.append_assoc, List.append_assoc]; rfl, hbl3, hbr3⟩
        case measure => simp [intOf]
end Go.Proofs.YtihojhfpepbjhaaGreatDoor
