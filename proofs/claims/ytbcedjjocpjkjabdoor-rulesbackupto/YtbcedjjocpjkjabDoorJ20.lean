/-
  package rules, walked: appendUpTo at pieces.
  strings.Cut, in letters.
  Plain mathematics: what Check asks of what was read; lists that were cut short.
-/
import Derived.Test.YtbcedjjocpjkjabDoorJ19
import Derived.Test.YtbcedjjocpjkjabDoorM17
namespace Go.Proofs.YtbcedjjocpjkjabDoor
open Go.RowKit
attribute [local go_sem ↓] Go.wp_at_zero Go.wp_at_succ

theorem infoPiece : (Tryd.prog.info? 51).map (fun i => (i.zero, i.size, i.bytes)) = some (some (.agg #[.int .u8 0, .int .i64 0, .slice none 0 0]), 3, 40) := by kernel_rfl
/-- A piece's three cells. -/
structure Pv where
  l : Nat
  v : Int
  ao : Option Addr
  n : Nat
  c : Nat
def Pv.cells (p : Pv) : List Value := [.int .u8 (p.l : Int), .int .i64 p.v, .slice p.ao p.n p.c]
def Pv.val (p : Pv) : Value := .agg #[.int .u8 (p.l : Int), .int .i64 p.v, .slice p.ao p.n p.c]
def pvals (l : List Pv) : List Value := l.flatMap Pv.cells

set_option maxHeartbeats 1000000 in
set_option maxRecDepth 100000 in
theorem upPiece_any (base : Nat) (v : Value) (ps : List Pv) (z : Pv) (w : World) (hown : w.ownsRow base 51 3 v ps.length (pvals ps)) (hlen : ps.length ≤ 11) (hbase : base ≤ w.heap.size) :
    Calls Tryd.prog 38 #[v, z.val, .int .i64 11] w fun e w' => ∃ v', e = .returned v' ∧ w'.ownsRow base 51 3 v' ((ps ++ [z]).take 11).length (pvals ((ps ++ [z]).take 11)) ∧ w.grownBy w' v.ownBlock ∧ Below base w w' := by
  obtain ⟨i0, hi, hz0, hz1, hz2⟩ := info_parts infoPiece
  obtain ⟨ao, cap, rfl⟩ : ∃ ao cap, v = .slice ao ps.length cap := by
    rcases hown.2 with ⟨h1, h2⟩ | ⟨g, cap, cur, h, -⟩
    · exact ⟨none, 0, by rw [h1, h2]⟩
    · exact ⟨_, _, h⟩
  by_cases h9 : ps.length = 11
  · have h9i : (ps.length : Int) = 11 := by omega
    have e : (ps ++ [z]).take 11 = ps := by rw [← h9]; simp
    rw [e]
    have HO := hide hown
    clear e hown
    unfold Pv.val
    go_enter Tryd.func38, Tryd.ntmps38
    go_wp2
    go_ret
    exact ⟨_, rfl, (unhide HO).alloc _, World.grownBy_alloc _ _ _, (Below.refl _ _).alloc hbase _⟩
  · have h9i : ¬ (ps.length : Int) = 11 := by omega
    have e : (ps ++ [z]).take 11 = ps ++ [z] := List.take_of_length_le (by simp; omega)
    rw [e]
    clear e
    unfold Pv.val
    go_enter Tryd.func38, Tryd.ntmps38
    go_wp2_with (at_builtin; refine wpList_append_own _ rfl _ _ 25 rfl base 51 i0 _ 3 40 Tryd.underlying25 hi hz0 hz1 hz2 rfl (by decide) _ _ _ rfl ((hown.alloc _).alloc _) ⟨w.heap.size + 1, 0, none⟩ 1 1 [.int .u8 (z.l : Int), .int .i64 z.v, .slice z.ao z.n z.c] rfl rfl ?c1 ?c2 ?c3 ?c4 ?c5 ?_)
    case c1 =>
      intro j u hj
      match j, hj with
      | 0, hj => simp at hj; subst hj; simp [Addr.add]
      | 1, hj => simp at hj; subst hj; simp [Addr.add]
      | 2, hj => simp at hj; subst hj; simp [Addr.add]
    case c2 =>
      intro u hu
      simp only [List.mem_cons, List.not_mem_nil, or_false] at hu
      rcases hu with rfl | rfl | rfl <;> rfl
    case c3 => unfold maxLen; omega
    case c4 => omega
    case c5 => simp; omega
    intro v' w2 hown' hgrow _
    have hb2 : Below base w w2 := (((Below.refl _ w).alloc hbase _).alloc (by simp; omega) _).grown hgrow (by simp; omega) (own_ge hown)
    have HG : Hid (w.grownBy w2 (Value.slice ao ps.length cap).ownBlock) := by
      refine hide ⟨hgrow.os, hgrow.tape, hgrow.output, ?_, ?_⟩
      · have := hgrow.size; simp at this; omega
      · intro k hk hne
        rw [hgrow.block k (by simp; omega) hne, Below.heap_alloc _ _ _ (by simp; omega), Below.heap_alloc _ _ _ hk]
    have e1 : pvals (ps ++ [z]) = pvals ps ++ [.int .u8 (z.l : Int), .int .i64 z.v, .slice z.ao z.n z.c] := by simp [pvals, Pv.cells]
    have HO : Hid (w2.ownsRow base 51 3 v' (ps ++ [z]).length (pvals (ps ++ [z]))) := by
      refine hide ?_
      rw [e1, List.length_append]
      exact hown'
    clear hown' hgrow hown e1
    go_wp2
    go_ret
    exact ⟨_, rfl, unhide HO, unhide HG, hb2⟩
end Go.Proofs.YtbcedjjocpjkjabDoor

namespace Go.Proofs.YtbcedjjocpjkjabDoor
open Go.RowKit

theorem cut_le (s sep : List UInt8) : (Lib.cut s sep).1.length ≤ s.length ∧ (Lib.cut s sep).2.1.length ≤ s.length := by
  by_cases h : (Lib.cut s sep).2.2 = true
  · have e := congrArg List.length (cut_back s sep h)
    simp only [List.length_append] at e
    omega
  · obtain ⟨h1, h2⟩ := cut_whole s sep (Bool.eq_false_iff.2 h)
    rw [h1, h2]
    simp
/-- What Cut leaves: two texts and whether it was found; the memory as it was. -/
theorem Cut_any (s sep : ByteArray) (m : Int) (w : World) (hs : s.size < 2000000) (hm : w.cell? ⟨0, 0, none⟩ = some (.int .i64 m)) :
    Calls Tryd.prog 7 #[.string s, .string sep] w fun e w' => ∃ (a b : ByteArray) (f : Bool), e = .returned (.tuple #[.string a, .string b, .bool f]) ∧ Lib.cut s.data.toList sep.data.toList = (a.data.toList, b.data.toList, f) ∧ a.size ≤ s.size ∧ b.size ≤ s.size ∧ Below w.heap.size w w' ∧ w'.heap.size = w.heap.size := by
  refine (Tryd.strings_Cut s sep m w (by omega) hm).mono ?_
  rintro e w' ⟨rfl, n, rfl⟩
  have hl := cut_le s.data.toList sep.data.toList
  rw [len_data] at hl
  refine ⟨_, _, _, rfl, rfl, ?_, ?_, below_drewN (Below.refl _ _) _, rfl⟩
  · rw [← len_data]; exact hl.1
  · rw [← len_data]; exact hl.2
end Go.Proofs.YtbcedjjocpjkjabDoor

namespace Go.Proofs.YtbcedjjocpjkjabDoor

theorem okP_all : ∀ (ps : List Pc) (S : Nat), okP S ps = true → ∀ p ∈ ps, pcB p.l p.v p.ws = true
  | [], _, _, p, hp => absurd hp (by simp)
  | q :: t, S, h, p, hp => by
    rw [okP, Bool.and_eq_true, Bool.and_eq_true] at h
    rcases List.mem_cons.1 hp with rfl | hp
    · exact h.1.1
    · exact okP_all t _ h.2 p hp
/-- Nine ways at most, eleven pieces at most: as the reader keeps them. -/
def Pc.cap (p : Pc) : Pc := ⟨p.l, p.v, p.ws.take 9⟩
def capP (ps : List Pc) : List Pc := (ps.map Pc.cap).take 11
theorem capP_ok (ps : List Pc) (h : psB (capP ps) = true) : capP ps = ps := by
  simp only [psB, inB, Bool.and_eq_true, decide_eq_true_eq] at h
  obtain ⟨⟨-, hl⟩, ho⟩ := h
  have hlen : ps.length ≤ 10 := by
    simp only [capP, List.length_take, List.length_map] at hl
    omega
  have e : capP ps = ps.map Pc.cap := List.take_of_length_le (by simp; omega)
  rw [e] at ho ⊢
  have hall := okP_all _ _ ho
  refine (List.map_congr_left fun p hp => ?_).trans (List.map_id ps)
  have := hall p.cap (List.mem_map_of_mem hp)
  simp only [pcB, Bool.and_eq_true, decide_eq_true_eq, Pc.cap, List.length_take] at this
  obtain ⟨l, v, ws⟩ := p
  simp only [Pc.cap, id]
  rw [List.take_of_length_le]
  have := this.1.2
  simp only at this
  omega
theorem capP_snoc (ps : List Pc) (p : Pc) : capP (ps ++ [p]) = (capP ps ++ [p.cap]).take 11 := by
  unfold capP
  rw [List.map_append, List.take_append, List.take_append, List.take_take]
  simp only [List.length_take, List.length_map, List.map_cons, List.map_nil, Nat.min_self]
  congr 1
  by_cases h : ps.length ≤ 11
  · rw [Nat.min_eq_right h]
  · rw [Nat.min_eq_left (by omega)]
    rw [show 11 - ps.length = 0 by omega]
theorem take_snoc9 (ws : List Wy) (z : Wy) : (ws ++ [z]).take 9 = (ws.take 9 ++ [z]).take 9 := by
  rw [List.take_append, List.take_append, List.take_take]
  simp only [List.length_take, Nat.min_self]
  congr 1
  by_cases h : ws.length ≤ 9
  · rw [Nat.min_eq_right h]
  · rw [Nat.min_eq_left (by omega)]
    rw [show 9 - ws.length = 0 by omega]
/-- Rules that Check takes are read as they were written. -/
theorem rules_ok (x : Rl) (h : rulesB x.W x.H x.C x.T x.A x.B x.ps x.lo.toNat x.li x.re.toNat x.pl = true) : Runs 0 Rl.none x.txt 8 x := by
  simp only [rulesB, inB, Bool.and_eq_true, Bool.or_eq_true, decide_eq_true_eq] at h
  obtain ⟨⟨⟨⟨⟨⟨hps, hpos⟩, -⟩, hlo⟩, hre⟩, hli⟩, hpl⟩ := h
  have hz : ∀ (S : Nat) (c : UInt8), hasZ S c.toNat = true → c = 0 ∨ capB (c.toNat : Nat) = true := by
    intro S c hc
    simp only [hasZ, hasL, Bool.and_eq_true, Bool.or_eq_true, decide_eq_true_eq] at hc
    rcases hc with hc | hc
    · exact Or.inl (UInt8.toNat_inj.1 (by simpa using hc))
    · exact Or.inr hc.1
  have hpp := hps
  simp only [psB, inB, Bool.and_eq_true, decide_eq_true_eq] at hpp
  refine rules_there x hpos ?_ (okP_all _ _ hpp.2) (hz _ _ hlo) (hz _ _ hre) (by omega) (by omega)
  intro e
  rw [e] at hpp
  simp at hpp
end Go.Proofs.YtbcedjjocpjkjabDoor
