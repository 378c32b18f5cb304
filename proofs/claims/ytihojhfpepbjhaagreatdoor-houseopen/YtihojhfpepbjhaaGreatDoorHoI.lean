/-
  The join: what is known of moves and board where some rules lie.
-/
import Derived.Test.YtihojhfpepbjhaaGreatDoorHoD
import Derived.Test.YtihojhfpepbjhaaGreatDoorJ20
import Derived.Test.YtihojhfpepbjhaaGreatDoorJ19
import Derived.Test.YtihojhfpepbjhaaGreatDoorJ18
import Derived.Test.YtihojhfpepbjhaaGreatDoorJ22
import Derived.ChangeKeysEq
namespace Go.Proofs.YtihojhfpepbjhaaGreatDoor
open Go.RowKit

theorem eqReply (w : World) (a b c a' b' c' : Int) (t t' : ByteArray) :
    (Op.equalIn 10000 40 (.agg #[.int .i64 a, .int .i64 b, .int .i64 c, .string t]) (.agg #[.int .i64 a', .int .i64 b', .int .i64 c', .string t'])).run Tryz.prog w = .ok (a == a' && b == b' && c == c' && t.toList == t'.toList) w := by
  rw [run_equalIn_agg w 9999 40 _ _ (by kernel_rfl) (by kernel_rfl)]
  unfold Program.fieldsOf
  rw [Tryz.underlying40]
  simp [go_sem]
  by_cases h1 : a = a' <;> by_cases h2 : b = b' <;> by_cases h3 : c = c' <;> by_cases h4 : t.toList = t'.toList <;> simp [h1, h2, h3, h4]
/-- A slice of messages. -/
structure isMl (w : World) (lo : Option Addr) (lc : Nat) (l : List Ms) : Prop where
  le : l.length ≤ lc
  mx : lc ≤ maxLen
  cells : l ≠ [] → ∃ g off, lo = some ⟨g, off, none⟩ ∧ g < w.heap.size ∧ ∀ (i : Nat) (m : Ms), l[i]? = some m → w.cell? ⟨g, off + i * 4, none⟩ = some (.int .i64 m.seat) ∧ w.cell? ⟨g, off + i * 4 + 1, none⟩ = some (.int .i64 m.ply) ∧ w.cell? ⟨g, off + i * 4 + 2, none⟩ = some (.string m.mv) ∧ w.cell? ⟨g, off + i * 4 + 3, none⟩ = some (.int .i64 m.at_)
theorem entSave : ∀ args (u : World), (callFunc 10 args).run Tryz.prog u = .ok (.enter 10 args) u := enters_of Tryz.func10 (by kernel_rfl) rfl
/-- text, at a move of the list. -/
theorem text_H {ps : List Pc} {dr : Bool} {lo : Nat} {li : Int} {re : Nat} {W' H' T' : Nat} {C A B : ByteArray} (hf : AtF ps W' H' T' C A B W' H' T') {m : Mv} (hm : m ∈ movesL W' H' T' C A B ps dr lo li re) (u : World) :
    Calls Tryz.prog 143 #[.agg #[.int .i64 (W' : Int), .int .i64 (H' : Int), .string C, .int .i64 (T' : Int), .string A, .string B], .agg #[.int .i64 m.f, .int .i64 (m.t : Int), .int .u8 (m.c : Int)]] u fun e w' => e = .returned (.string ⟨(txM W' C m).toArray⟩) ∧ Below u.heap.size u w' := by
  obtain ⟨f1, f2, f3⟩ := (mov_is hm).facts
  have h64 : C.size ≤ 64 := by rw [hf.c]; exact Nat.mul_le_mul hf.w1.2 hf.h1.2
  have hcc : m.c.toUInt8.toNat = m.c := u8_back f3
  unfold txM
  rcases f2 with h | ⟨h1, h2⟩
  · have := text_drop W' H' T' C A B m.t m.c.toUInt8 u hf.w1 (by omega)
    rw [hcc] at this
    rw [h]
    exact this
  · obtain ⟨fr, hfr⟩ : ∃ fr : Nat, m.f = fr := ⟨m.f.toNat, by omega⟩
    have := text_go W' H' T' C A B fr m.t m.c.toUInt8 u hf.w1 (by omega) (by omega) f1
    rw [hcc] at this
    rw [hfr]
    exact this
theorem okP_len : ∀ (ps : List Pc) (S : Nat), okP S ps = true → ∀ p ∈ ps, p.ws.length ≤ 1000
  | [], _, _, p, hp => by cases hp
  | q :: t, S, h, p, hp => by
    rw [okP, Bool.and_eq_true, Bool.and_eq_true] at h
    rcases List.mem_cons.1 hp with rfl | hp
    · have := h.1.1
      simp only [pcB, Bool.and_eq_true, decide_eq_true_eq] at this
      omega
    · exact okP_len t _ h.2 p hp
theorem rules_len {W H T : Int} {C A B : List UInt8} {ps : List Pc} {lo re : Nat} {li pl : Int} (h : rulesB W H C T A B ps lo li re pl = true) : ps.length ≤ 1000 ∧ ∀ q ∈ ps, q.ws.length ≤ 1000 := by
  unfold rulesB psB at h
  simp only [Bool.and_eq_true] at h
  have h1 := h.1.1.1.1.1.1
  refine ⟨?_, okP_len ps _ h1.2⟩
  have h2 := h1.1
  simp only [inB, Bool.and_eq_true, decide_eq_true_eq] at h2
  omega
theorem tab_below {w w' : World} (h : isTab w) {S : Nat} (hb : Below S w w') (hS : w.heap.size ≤ S) : isTab w' := by
  unfold isTab Lib.TabIs World.var? at *
  cases hg : Tryz.prog.globalNamed "internal/strconv.uint64pow10" with
  | none => simp [hg] at h
  | some g =>
    simp only [hg, Option.bind_some] at h ⊢
    have hlt : g < w.heap.size := by
      rcases Nat.lt_or_ge g w.heap.size with h' | h'
      · exact h'
      · rw [Array.getElem?_eq_none h'] at h; simp at h
    rw [hb.block g (by omega)]
    exact h
theorem wonI_12H (T : Int) : wonI T = 1 ∨ wonI T = 2 := by unfold wonI; split <;> simp
theorem dec_rangeH (W H T : Nat) (C : ByteArray) (lo : Nat) (li : Int) (re : Nat) : decO W H T C lo li re = 0 ∨ decO W H T C lo li re = 1 ∨ decO W H T C lo li re = 2 := by
  unfold decO
  have h1 := wonI_12H (1 - (T : Int))
  have h2 := wonI_12H (T : Int)
  repeat' split
  all_goals omega
theorem out_rangeH (W H T : Nat) (C A B : ByteArray) (ps : List Pc) (dr st : Bool) (lo : Nat) (li : Int) (re : Nat) : 0 ≤ outO W H T C A B ps dr st lo li re ∧ outO W H T C A B ps dr st lo li re ≤ 3 := by
  unfold outO
  have h1 := dec_rangeH W H T C lo li re
  have h2 := wonI_12H (1 - (T : Int))
  repeat' split
  all_goals omega
/-- The game of some rules. -/
def gmP (ps : List Pc) (dr st : Bool) (lo : Nat) (li : Int) (re : Nat) (pl : Int) : Gm := ⟨outP ps dr st lo li re, movP ps dr lo li re, behP dr, fun p m => txM p.W.toNat p.C m, pl⟩
def txtP (p : Po) : ByteArray := ⟨(wtxt p.W.toNat p.H.toNat p.C.data.toList p.T p.A.data.toList p.B.data.toList).toArray⟩
theorem txtL_len (W : Nat) (C : ByteArray) (f : Int) (t : Nat) (c : UInt8) : (txtL W C f t c).length ≤ 10 := by
  unfold txtL
  split <;> simp [cellT]
theorem readM_find (tx : Mv → List UInt8) (s : ByteArray) : ∀ L : List Mv, (∀ m, (L.find? fun q => decide (tx q = s.data.toList)) = some m → readM tx s L = (m, 0)) ∧ ((L.find? fun q => decide (tx q = s.data.toList)) = none → readM tx s L = (⟨0, 0, 0⟩, 5))
  | [] => ⟨(fun m h => by simp at h), fun _ => rfl⟩
  | q :: L => by
    rw [readM, List.find?_cons]
    by_cases h : tx q = s.data.toList
    · rw [if_pos h, decide_eq_true h]
      exact ⟨(fun m h => by injection h with h; rw [h]), (fun h => by cases h)⟩
    · rw [if_neg h, decide_eq_false h]
      exact readM_find tx s L
theorem gm_ok {W0 H0 T0 : Int} {C0 A0 B0 : List UInt8} {ps : List Pc} {lo re : Nat} {li pl : Int} (dr st : Bool) (hpl : 1 ≤ pl ∧ pl ≤ 1000) : (gmP ps dr st lo li re pl).Ok (OkP W0 H0 T0 C0 A0 B0 ps lo re li pl) := by
  refine ⟨?_, ?_, ?_, ?_, hpl⟩
  · intro p hp
    obtain ⟨W', H', T', hf⟩ := at_facts hp
    have := hf.t
    have := hf.t1
    omega
  · intro p hp
    obtain ⟨W', H', T', hf⟩ := at_facts hp
    show 0 ≤ outP ps dr st lo li re p ∧ outP ps dr st lo li re p ≤ 3
    rw [hf.out]
    exact out_rangeH _ _ _ _ _ _ _ _ _ _ _ _
  · intro p hp m hm
    exact ⟨at_beh hp hm, rfl⟩
  · intro p hp m hm
    exact txtL_len _ _ _ _ _
section
variable {s : Po} {ps : List Pc} {dr st : Bool} {lo re : Nat} {li pl : Int}
/-- What is known where some rules lie: the program's moves. -/
theorem hc_of (ao : Option Addr) (cap : Nat) (S : Nat) (w00 : World) (hS : w00.heap.size = S) (h : isPcs w00 ao cap ps) (hsz : s.C.size ≤ maxLen ∧ s.A.size ≤ maxLen ∧ s.B.size ≤ maxLen) (hlo : lo < 256) (hre : re < 256) (mx : Int) (hm : w00.cell? ⟨0, 0, none⟩ = some (.int .i64 mx)) (ht : isTab w00) :
    Hc (gmP ps dr st lo li re pl) (OkP s.W s.H s.T s.C.data.toList s.A.data.toList s.B.data.toList ps lo re li pl) txtP S w00 (.int .i64 s.W) (.int .i64 s.H) (.string s.C) (.int .i64 s.T) (.string s.A) (.string s.B) (.slice ao ps.length cap) (.bool dr) (.int .u8 (lo : Int)) (.int .i64 li) (.int .u8 (re : Int)) (.bool st) := by
  have hps : ∀ u, Below S w00 u → isPcs u ao cap ps := fun u hu => h.below hu (Nat.le_of_eq hS)
  have hmx : ∀ u, Below S w00 u → u.cell? ⟨0, 0, none⟩ = some (.int .i64 mx) := fun u hu => (hu.cell (p := ⟨0, 0, none⟩) (by rw [← hS]; exact World.block_lt_of_cell? w00 ⟨0, 0, none⟩ hm)).trans hm
  have hle : ∀ u, Below S w00 u → S ≤ u.heap.size := fun u hu => by rw [← hS]; exact hu.size
  have hPs : ∀ q, OkP s.W s.H s.T s.C.data.toList s.A.data.toList s.B.data.toList ps lo re li pl q → q.C.size ≤ maxLen ∧ q.A.size ≤ maxLen ∧ q.B.size ≤ maxLen := fun q hq => by
    have := (show PoF ps q from at_facts hq).ok
    exact ⟨this.c, this.a, this.b⟩
  have hck : ∀ q, OkP s.W s.H s.T s.C.data.toList s.A.data.toList s.B.data.toList ps lo re li pl q → ∀ u, Below S w00 u → Calls Tryz.prog 48 #[.agg #[.int .i64 s.W, .int .i64 s.H, .string s.C, .int .i64 s.T, .string s.A, .string s.B, .slice ao ps.length cap, .bool dr, .int .u8 (lo : Int), .int .i64 li, .int .u8 (re : Int), .bool st, .int .i64 pl], .agg #[.int .i64 q.W, .int .i64 q.H, .string q.C, .int .i64 q.T, .string q.A, .string q.B]] u fun e w' => e = .returned (.int .i64 0) ∧ Below u.heap.size u w' := fun q hq u hu => by
    have := rCheckPosition_any s.W s.H s.T s.C s.A s.B ao cap ps dr st lo re li pl q.W q.H q.T q.C q.A q.B u hsz.1 hsz.2.1 hsz.2.2 hlo hre (hps u hu) (hPs q hq).1 (hPs q hq).2.1 (hPs q hq).2.2
    rw [show atB s.W s.H s.C.data.toList s.T s.A.data.toList s.B.data.toList ps lo li re pl q.W q.H q.C.data.toList q.T q.A.data.toList q.B.data.toList = true from hq] at this
    exact this
  have hrd : ∀ q, OkP s.W s.H s.T s.C.data.toList s.A.data.toList s.B.data.toList ps lo re li pl q → ∀ x u, Below S w00 u → Calls Tryz.prog 104 #[.agg #[.int .i64 s.W, .int .i64 s.H, .string s.C, .int .i64 s.T, .string s.A, .string s.B, .slice ao ps.length cap, .bool dr, .int .u8 (lo : Int), .int .i64 li, .int .u8 (re : Int), .bool st, .int .i64 pl], .agg #[.int .i64 q.W, .int .i64 q.H, .string q.C, .int .i64 q.T, .string q.A, .string q.B], .string x] u fun e w' => e = .returned (.tuple #[.agg #[.int .i64 (readM (txM q.W.toNat q.C) x (movP ps dr lo li re q)).1.f, .int .i64 ((readM (txM q.W.toNat q.C) x (movP ps dr lo li re q)).1.t : Int), .int .u8 ((readM (txM q.W.toNat q.C) x (movP ps dr lo li re q)).1.c : Int)], .int .i64 (readM (txM q.W.toNat q.C) x (movP ps dr lo li re q)).2]) ∧ Below u.heap.size u w' := fun q hq x u hu => by
    obtain ⟨W', H', T', hf⟩ := at_facts hq
    refine Read_ok _ _ _ _ _ _ _ _ _ _ _ _ _ q.W q.H q.T q.C q.A q.B x (movP ps dr lo li re q) (txM q.W.toNat q.C) u (fun v hv => hck q hq v (hu.trans (hv.mono (hle u hu)))) (fun v hv => list_P dr lo li re (at_facts hq) _ _ _ _ _ _ _ _ ao cap v (hps v (hu.trans (hv.mono (hle u hu)))) hlo hre) (fun m hm v => ?_)
    rw [hf.movs] at hm
    have hf2 := hf
    have e1 := hf.w
    have e2 := hf.h
    have e3 := hf.t
    rw [e1, e2, e3] at hf2 ⊢
    exact text_H hf2 hm v
  refine ⟨?_, ?_, ?_, ?_, ?_, ?_⟩
  · intro q hq u hu
    obtain ⟨W2, H2, T2, hf2⟩ := at_facts hq
    have := Outcome_ok s.W s.H s.T s.C s.A s.B ao cap ps dr st lo re li pl q.W q.H q.T q.C q.A q.B u hsz.1 hsz.2.1 hsz.2.2 hlo hre (hps u hu) (hPs q hq).1 (hPs q hq).2.1 (hPs q hq).2.2 hq W2 H2 T2 hf2
    rw [← hf2.out] at this
    exact this
  · intro q hq x hx u hu
    have := hrd q hq x u hu
    rw [(readM_find (txM q.W.toNat q.C) x (movP ps dr lo li re q)).2 hx] at this
    exact this
  · intro q hq x m hx u hu
    have := hrd q hq x u hu
    rw [(readM_find (txM q.W.toNat q.C) x (movP ps dr lo li re q)).1 m hx] at this
    exact this
  · intro q hq m hm u hu
    obtain ⟨W', H', T', hf⟩ := at_facts hq
    have hmm : m ∈ movP ps dr lo li re q := hm
    refine Apply_go s.W s.H s.T s.C s.A s.B ao cap ps dr st lo re li pl q.W q.H q.T q.C q.A q.B m.f m.t m.c _ _ _ _ _ _ u (fun v hv => ?_) (fun v hv => behind_P (dr := dr) (lo := lo) (li := li) (re := re) (at_facts hq) hmm _ _ _ _ _ _ _ _ _ _ _ _ mx v (hmx v (hu.trans (hv.mono (hle u hu)))))
    have := check_ok s.W s.H s.T s.C s.A s.B ao cap ps dr st lo re li pl q.W q.H q.T q.C q.A q.B m.f m.t m.c v hsz.1 hsz.2.1 hsz.2.2 hlo hre (hps v (hu.trans (hv.mono (hle u hu)))) (hPs q hq).1 (hPs q hq).2.1 (hPs q hq).2.2 hq W' H' T' hf
    rw [hf.movs] at hmm
    have hin : inM m.f (m.t : Int) m.c (movesL W' H' T' q.C q.A q.B ps dr lo li re) = true := by
      unfold inM
      rw [List.any_eq_true]
      exact ⟨m, hmm, by simp [eqM]⟩
    rw [hin, if_pos rfl] at this
    exact this
  · intro q hq u
    obtain ⟨W', H', T', hf⟩ := at_facts hq
    have hp := at_isPos hq hf
    have := Write_ok u hp
    unfold txtP
    rw [hf.w, hf.h, hf.t]
    exact this
  · exact fun u hu => tab_below ht hu (by omega)
end

end Go.Proofs.YtihojhfpepbjhaaGreatDoor
