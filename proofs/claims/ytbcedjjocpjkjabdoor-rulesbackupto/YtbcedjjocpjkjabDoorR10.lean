/-
  package rules, walked: Write.
-/
import Derived.Test.YtbcedjjocpjkjabDoorJ11
import Derived.Deep.Cut
namespace Go.Proofs.YtbcedjjocpjkjabDoor
open Go.RowKit
attribute [local go_sem ↓] Go.wp_at_zero Go.wp_at_succ

theorem writeLine2 (b : Nat) (l : List UInt8) (x y : ByteArray) (w : World) (h : Bld b l w) (hlen : l.length < 500000) (hx : x.size ≤ 100) (hy : y.size ≤ 1000) :
    Calls Tryd.prog 11 #[.pointer (some ⟨b, 0, none⟩), .slice (some ⟨w.heap.size, 0, none⟩) 2 2] (w.alloc (.cells #[.string x, .string y] 9 (0, 0))) fun e w' => e = .returned (.tuple #[]) ∧ Bld b (l ++ lineL [x.data.toList, y.data.toList]) w' ∧ Below b w w' := by
  have hba : Below w.heap.size w (w.alloc (.cells #[.string x, .string y] 9 (0, 0))) := (Below.refl _ w).alloc (Nat.le_refl _) _
  have hjl : (Lib.join ([x, y].map (·.data.toList)) [32]).length < 100000 := by
    rw [List.map_cons, List.map_cons, List.map_nil, join_two, Lib.join_one, List.length_append, List.length_append, len_data, len_data]
    simp; omega
  refine (writeLine_any b w.heap.size l [x, y] _ (h.below hba (Nat.le_refl _)) hlen ?_ (by simp) (by simp) hjl).mono ?_
  · intro j u hu
    rw [cell_of_row _ _ _ _ _ _ (heap_alloc_new w _)]
    match j, hu with
    | 0, hu => simp at hu; subst hu; rfl
    | 1, hu => simp at hu; subst hu; rfl
  · rintro e w' ⟨rfl, h1, h2⟩
    exact ⟨rfl, h1, (hba.mono (Nat.le_of_lt h.lt)).trans h2⟩
theorem writeLine1 (b : Nat) (l : List UInt8) (x : ByteArray) (w : World) (h : Bld b l w) (hlen : l.length < 500000) (hx : x.size ≤ 100) :
    Calls Tryd.prog 11 #[.pointer (some ⟨b, 0, none⟩), .slice (some ⟨w.heap.size, 0, none⟩) 1 1] (w.alloc (.cells #[.string x] 9 (0, 0))) fun e w' => e = .returned (.tuple #[]) ∧ Bld b (l ++ lineL [x.data.toList]) w' ∧ Below b w w' := by
  have hba : Below w.heap.size w (w.alloc (.cells #[.string x] 9 (0, 0))) := (Below.refl _ w).alloc (Nat.le_refl _) _
  have hjl : (Lib.join ([x].map (·.data.toList)) [32]).length < 100000 := by
    rw [List.map_cons, List.map_nil, Lib.join_one, len_data]
    omega
  refine (writeLine_any b w.heap.size l [x] _ (h.below hba (Nat.le_refl _)) hlen ?_ (by simp) (by simp) hjl).mono ?_
  · intro j u hu
    rw [cell_of_row _ _ _ _ _ _ (heap_alloc_new w _)]
    match j, hu with
    | 0, hu => simp at hu; subst hu; rfl
  · rintro e w' ⟨rfl, h1, h2⟩
    exact ⟨rfl, h1, (hba.mono (Nat.le_of_lt h.lt)).trans h2⟩

def wStart : List UInt8 := [115, 116, 97, 114, 116]
def wPiece : List UInt8 := [112, 105, 101, 99, 101]
def wDrops : List UInt8 := [100, 114, 111, 112, 115]
def wLose : List UInt8 := [108, 111, 115, 101]
def wLine : List UInt8 := [108, 105, 110, 101]
def wReach : List UInt8 := [114, 101, 97, 99, 104]
def wStuck : List UInt8 := [115, 116, 117, 99, 107]
def wPlies : List UInt8 := [112, 108, 105, 101, 115]
def pcL (p : Pc) : List UInt8 := lineL [wPiece, pieceL (UInt8.ofNat p.l) p.v p.ws]
def dropsL (dr : Bool) : List UInt8 := if dr then lineL [wDrops] else []
def stuckL (st : Bool) : List UInt8 := if st then lineL [wStuck] else []
def letL (wd : List UInt8) (c : UInt8) : List UInt8 := if c = 0 then [] else lineL [wd, [c]]
def numL (n : Int) : List UInt8 := if n = 0 then [] else lineL [wLine, Lib.decDigits n.toNat]
/-- The text of rules. -/
def rulesL (W H : Nat) (C : List UInt8) (T : Int) (A B : List UInt8) (ps : List Pc) (dr : Bool) (lo : UInt8) (li : Int) (re : UInt8) (st : Bool) (pl : Int) : List UInt8 :=
  lineL [wStart, wtxt W H C T A B] ++ ps.flatMap pcL ++ dropsL dr ++ letL wLose lo ++ numL li ++ letL wReach re ++ stuckL st ++ lineL [wPlies, Lib.decDigits pl.toNat]

theorem wtxt_len {W H : Nat} {T : Int} {C A B : ByteArray} (p : IsPos W H C T A B) : (wtxt W H C.data.toList T A.data.toList B.data.toList).length ≤ 200 := by
  have h1 := wrows_length W C.data.toList H
  have h2 : H * (W + 1) ≤ 8 * 9 := Nat.mul_le_mul p.h1 (by have := p.w1; omega)
  have ha := p.as
  have hb := p.bs
  have k : ∀ X : List UInt8, (whand X).length ≤ X.length + 1 := by
    intro X; unfold whand; split
    · simp
    · omega
  have ka := k A.data.toList
  have kb := k B.data.toList
  rw [len_data] at ka kb
  unfold wtxt
  simp only [List.length_append, List.length_cons]
  omega
theorem pieceL_len (c : UInt8) (v : Int) (ws : List Wy) (h : pcB (c.toNat : Nat) v ws = true) : (pieceL c v ws).length ≤ 150 := by
  simp only [pcB, inB, Bool.and_eq_true, decide_eq_true_eq] at h
  obtain ⟨⟨⟨_, hv0, hv1⟩, h8⟩, hall⟩ := h
  have k1 := dec_len v.toNat (by omega)
  have k2 := join_len [44, 32] 15 (ws.map wayL) (fun x hx => by
    obtain ⟨z, hz, rfl⟩ := List.mem_map.1 hx
    exact wayL_len z (List.all_eq_true.1 hall z hz))
  rw [List.length_map] at k2
  have e2 : ([44, 32] : List UInt8).length = 2 := rfl
  rw [e2] at k2
  simp only [pieceL, List.length_cons, List.length_append]
  split
  · simp; omega
  · simp only [List.length_cons]; omega
theorem okP_mem : ∀ (ps : List Pc) (S : Nat), okP S ps = true → ∀ p ∈ ps, pcB (p.l : Int) p.v p.ws = true
  | [], _, _, p, hp => by cases hp
  | q :: t, S, h, p, hp => by
    rw [okP, Bool.and_eq_true, Bool.and_eq_true] at h
    rcases List.mem_cons.1 hp with rfl | hp
    · exact h.1.1
    · exact okP_mem t _ h.2 p hp

set_option maxHeartbeats 400000 in
theorem rWrite_no (W H T : Int) (C A B : ByteArray) (ao : Option Addr) (cap : Nat) (ps : List Pc) (dr st : Bool) (lo re : UInt8) (li pl : Int) (w : World) (hC : C.size ≤ maxLen) (hA : A.size ≤ maxLen) (hB : B.size ≤ maxLen) (h : isPcs w ao cap ps) (hf : rulesB W H C.data.toList T A.data.toList B.data.toList ps lo.toNat li re.toNat pl = false) :
    Calls Tryd.prog 5 #[.agg #[.int .i64 W, .int .i64 H, .string C, .int .i64 T, .string A, .string B, .slice ao ps.length cap, .bool dr, .int .u8 (lo.toNat : Int), .int .i64 li, .int .u8 (re.toNat : Int), .bool st, .int .i64 pl]] w fun e w' => e = .returned (.tuple #[.string ⟨#[]⟩, .int .i64 1]) ∧ Below w.heap.size w w' := by
  have hba : Below w.heap.size w (w.alloc (.cells #[.int .i64 W, .int .i64 H, .string C, .int .i64 T, .string A, .string B, .slice ao ps.length cap, .bool dr, .int .u8 (lo.toNat : Int), .int .i64 li, .int .u8 (re.toNat : Int), .bool st, .int .i64 pl] 27 (0, 0))) := (Below.refl _ w).alloc (Nat.le_refl _) _
  have hck := rCheck_any W H T C A B ao cap ps dr st lo.toNat re.toNat li pl _ hC hA hB lo.toNat_lt re.toNat_lt (h.below hba (Nat.le_refl _))
  rw [hf] at hck
  have HCK := hide hck
  clear hck h hf
  go_enter Tryd.func5, Tryd.ntmps5
  go_wp2_with fail
  refine (unhide HCK).mono ?_
  rintro e w1 ⟨rfl, hb1⟩
  rw [show errI false = 1 from rfl]
  have hw1 : Below w.heap.size w w1 := bel_on (Below.refl _ _) (Nat.le_refl _) hb1
  clear hb1
  go_wp2
  go_ret2
  exact ⟨rfl, hw1⟩
end Go.Proofs.YtbcedjjocpjkjabDoor
