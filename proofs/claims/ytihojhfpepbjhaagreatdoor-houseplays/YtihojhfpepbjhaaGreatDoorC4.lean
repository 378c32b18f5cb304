/-
  Positions of play: the moves of one, what comes behind each.
-/
import Derived.Test.YtihojhfpepbjhaaGreatDoorJ27
import Derived.Test.YtihojhfpepbjhaaGreatDoorV23
import Derived.Test.YtihojhfpepbjhaaGreatDoorJ18
import Derived.Test.YtihojhfpepbjhaaGreatDoorJ12
namespace Go.Proofs.YtihojhfpepbjhaaGreatDoor
open Go.RowKit

/-- A position of play. -/
def PoF (ps : List Pc) (p : Po) : Prop := ∃ W' H' T' : Nat, AtF ps p.W p.H p.T p.C p.A p.B W' H' T'
def movP (ps : List Pc) (dr : Bool) (lo : Nat) (li : Int) (re : Nat) (p : Po) : List Mv := movesL p.W.toNat p.H.toNat p.T.toNat p.C p.A p.B ps dr lo li re
def behP (dr : Bool) (p : Po) (m : Mv) : Po :=
  ⟨p.W, p.H, ⟨(behC p.C.data.toList m.f m.t (letN p.T.toNat m.c).toUInt8).toArray⟩, 1 - p.T, if p.T = 0 then ⟨(behH p.C.data.toList p.A.data.toList dr m.f m.t m.c.toUInt8).toArray⟩ else p.A, if p.T = 0 then p.B else ⟨(behH p.C.data.toList p.B.data.toList dr m.f m.t m.c.toUInt8).toArray⟩⟩
theorem AtF.movs {ps : List Pc} {dr : Bool} {lo : Nat} {li : Int} {re : Nat} {p : Po} {W' H' T' : Nat} (h : AtF ps p.W p.H p.T p.C p.A p.B W' H' T') : movP ps dr lo li re p = movesL W' H' T' p.C p.A p.B ps dr lo li re := by
  unfold movP
  rw [h.w, h.h, h.t]
  rfl
theorem mov_is {W H T : Nat} {C A B : ByteArray} {ps : List Pc} {dr : Bool} {lo re : Nat} {li : Int} {m : Mv} (h : m ∈ movesL W H T C A B ps dr lo li re) : MvIs W H T C A B ps dr m := by
  unfold movesL at h
  split at h
  · exact poss_is h
  · cases h
theorem mov_len {ps : List Pc} {dr : Bool} {lo : Nat} {li : Int} {re : Nat} {p : Po} (h : PoF ps p) : (movP ps dr lo li re p).length ≤ 4608 := by
  obtain ⟨W', H', T', hf⟩ := h
  rw [hf.movs]
  unfold movesL
  split
  · exact possL_len hf.a hf.b (by rw [hf.c]; exact Nat.mul_le_mul hf.w1.2 hf.h1.2)
  · simp
theorem MvIs.facts {W H T : Nat} {C A B : ByteArray} {ps : List Pc} {dr : Bool} {m : Mv} (h : MvIs W H T C A B ps dr m) : m.t < C.size ∧ (m.f = -1 ∨ (0 ≤ m.f ∧ m.f < C.size)) ∧ m.c < 256 := by
  cases h with
  | drop h1 h2 h3 h4 h5 =>
    obtain ⟨a, _, h7⟩ := h5
    exact ⟨h2, .inl h1, by rw [h7]; exact UInt8.toNat_lt a⟩
  | go fr h1 h2 h3 h4 h5 h6 =>
    exact ⟨h3, .inr ⟨by omega, by omega⟩, by rw [h5]; exact (up_andNot _ (UInt8.toNat_lt _)).2⟩
theorem behH_size {C : List UInt8} {h : ByteArray} {dr : Bool} {f : Int} {t : Nat} {c : UInt8} (hs : h.size ≤ 8) : (⟨(behH C h.data.toList dr f t c).toArray⟩ : ByteArray).size ≤ 8 := by
  have h1 : (⟨(handA h.data.toList f c).toArray⟩ : ByteArray).size ≤ 8 := by
    unfold handA
    split
    · exact withoutL_len hs
    · exact hs
  unfold behH handB'
  split
  · exact withL_len (h := ⟨(handA h.data.toList f c).toArray⟩) h1
  · exact h1
theorem PoF.beh {ps : List Pc} {dr : Bool} {lo : Nat} {li : Int} {re : Nat} {p : Po} {m : Mv} (h : PoF ps p) (_hm : m ∈ movP ps dr lo li re p) : PoF ps (behP dr p m) := by
  obtain ⟨W', H', T', hf⟩ := h
  have ht := hf.t1
  refine ⟨W', H', 1 - T', hf.w, hf.h, ?_, by omega, hf.w1, hf.h1, ?_, ?_, ?_, hf.ok⟩
  · show 1 - p.T = _
    rw [hf.t]
    omega
  · show (behC p.C.data.toList m.f m.t _).toArray.size = _
    rw [List.size_toArray, behC_len, len_data, hf.c]
  · show (if p.T = 0 then _ else p.A : ByteArray).size ≤ 8
    split
    · exact behH_size hf.a
    · exact hf.a
  · show (if p.T = 0 then p.B else _ : ByteArray).size ≤ 8
    split
    · exact hf.b
    · exact behH_size hf.b
theorem PoF.ok {ps : List Pc} {p : Po} (h : PoF ps p) : p.ok := by
  obtain ⟨W', H', T', hf⟩ := h
  have h1 := hf.w1
  have h2 := hf.h1
  have h3 := hf.t1
  have h4 : p.C.size ≤ 64 := by rw [hf.c]; exact Nat.mul_le_mul hf.w1.2 hf.h1.2
  have h5 := hf.a
  have h6 := hf.b
  refine ⟨?_, ?_, ?_, by unfold maxLen; omega, by unfold maxLen; omega, by unfold maxLen; omega⟩
  · rw [hf.w]; exact WalkArith.wf_i64 (by omega)
  · rw [hf.h]; exact WalkArith.wf_i64 (by omega)
  · rw [hf.t]; exact WalkArith.wf_i64 (by omega)
/-- Behind, at a move of the list. -/
theorem behind_P {ps : List Pc} {dr : Bool} {lo : Nat} {li : Int} {re : Nat} {p : Po} {m : Mv} (h : PoF ps p) (hmv : m ∈ movP ps dr lo li re p) (v0 v1 v2 v3 v4 v5 v6 v8 v9 v10 v11 v12 : Value) (mx : Int) (w : World) (hm : w.cell? ⟨0, 0, none⟩ = some (.int .i64 mx)) :
    Calls Tryz.prog 145 #[.agg #[v0, v1, v2, v3, v4, v5, v6, .bool dr, v8, v9, v10, v11, v12], .agg #[.int .i64 p.W, .int .i64 p.H, .string p.C, .int .i64 p.T, .string p.A, .string p.B], .agg #[.int .i64 m.f, .int .i64 (m.t : Int), .int .u8 (m.c : Int)]] w fun e w' => e = .returned (.agg #[.int .i64 (behP dr p m).W, .int .i64 (behP dr p m).H, .string (behP dr p m).C, .int .i64 (behP dr p m).T, .string (behP dr p m).A, .string (behP dr p m).B]) ∧ Below w.heap.size w w' := by
  obtain ⟨W', H', T', hf⟩ := h
  rw [hf.movs] at hmv
  obtain ⟨h1, h2, h3⟩ := (mov_is hmv).facts
  have hcc : m.c.toUInt8.toNat = m.c := u8_back h3
  have ht1 := hf.t1
  rcases (by omega : T' = 0 ∨ T' = 1) with rfl | rfl
  · have hb := behind_0 W' H' p.C p.A p.B v0 v1 v2 v3 v4 v5 v6 v8 v9 v10 v11 v12 dr m.f m.t m.c.toUInt8 mx w hm hf.a hf.b h2 h1
    have hT : p.T = 0 := hf.t
    rw [hcc, ← hf.w, ← hf.h, ← hT] at hb
    refine hb.mono fun e w' hh => ⟨hh.1.trans ?_, hh.2⟩
    unfold behP
    simp only [hT, if_pos]
    rfl
  · have hb := behind_1 W' H' p.C p.A p.B v0 v1 v2 v3 v4 v5 v6 v8 v9 v10 v11 v12 dr m.f m.t m.c.toUInt8 mx w hm hf.a hf.b h2 h1
    have hT : p.T = 1 := hf.t
    rw [hcc, ← hf.w, ← hf.h, ← hT] at hb
    refine hb.mono fun e w' hh => ⟨hh.1.trans ?_, hh.2⟩
    unfold behP
    simp only [hT]
    rfl

/-- list, at a position of play. -/
theorem list_P {ps : List Pc} (dr : Bool) (lo : Nat) (li : Int) (re : Nat) {p : Po} (h : PoF ps p) (v0 v1 v2 v3 v4 v5 v11 v12 : Value) (ao : Option Addr) (cap : Nat) (w : World) (hps : isPcs w ao cap ps) (hlo8 : lo < 256) (hre8 : re < 256) :
    Calls Tryz.prog 49 #[.agg #[v0, v1, v2, v3, v4, v5, .slice ao ps.length cap, .bool dr, .int .u8 (lo : Int), .int .i64 li, .int .u8 (re : Int), v11, v12], .agg #[.int .i64 p.W, .int .i64 p.H, .string p.C, .int .i64 p.T, .string p.A, .string p.B]] w fun e w' => ∃ v, e = .returned v ∧ w'.ownsRow w.heap.size 61 3 v (movP ps dr lo li re p).length (mvals (movP ps dr lo li re p)) ∧ Below w.heap.size w w' := by
  obtain ⟨W', H', T', hf⟩ := h
  have := list_any W' H' T' p.C p.A p.B v0 v1 v2 v3 v4 v5 v11 v12 ao cap ps dr lo re li w hps hf.ok hlo8 hre8 hf.t1 hf.a hf.b hf.w1 hf.h1 hf.c
  rw [hf.movs, hf.w, hf.h, hf.t]
  exact this

/-! How many ways there are. -/
end Go.Proofs.YtihojhfpepbjhaaGreatDoor
