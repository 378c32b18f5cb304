/-
  gamelaw.MovesAll, walked for whatever comes in.
-/
import Derived.Test.YtbnohmnbhnineabGreatDoorV37
namespace Go.Proofs.YtbnohmnbhnineabGreatDoor
open Go.RowKit

theorem movesAll_any (W0 H0 T0 : Int) (C0 A0 B0 : ByteArray) (ao : Option Addr) (cap : Nat) (ps : List Pc) (dr st : Bool) (lo re : Nat) (li pl : Int) (W H T : Int) (C A B : ByteArray) (f t : Int) (c : Nat) (mx : Int) (w : World) (hm : w.cell? ⟨0, 0, none⟩ = some (.int .i64 mx)) (hC0 : C0.size ≤ maxLen) (hA0 : A0.size ≤ maxLen) (hB0 : B0.size ≤ maxLen) (hlo : lo < 256) (hre : re < 256) (h : isPcs w ao cap ps) (hC : C.size ≤ maxLen) (hA : A.size ≤ maxLen) (hB : B.size ≤ maxLen) (hc8 : c < 256) :
    Calls Tryz.prog 3 #[.agg #[.int .i64 W0, .int .i64 H0, .string C0, .int .i64 T0, .string A0, .string B0, .slice ao ps.length cap, .bool dr, .int .u8 (lo : Int), .int .i64 li, .int .u8 (re : Int), .bool st, .int .i64 pl], .agg #[.int .i64 W, .int .i64 H, .string C, .int .i64 T, .string A, .string B], .agg #[.int .i64 f, .int .i64 t, .int .u8 (c : Int)]] w fun e w' => e = .returned (.bool true) ∧ Below w.heap.size w w' := by
  have hps : ∀ u, Below w.heap.size w u → isPcs u ao cap ps := fun u hu => h.below hu (Nat.le_refl _)
  cases hat : atB W0 H0 C0.data.toList T0 A0.data.toList B0.data.toList ps lo li re pl W H C.data.toList T A.data.toList B.data.toList with
  | false =>
    refine law_no (.int .i64 W0) (.int .i64 H0) (.string C0) (.int .i64 T0) (.string A0) (.string B0) (.slice ao ps.length cap) (.bool dr) (.int .u8 (lo : Int)) (.int .i64 li) (.int .u8 (re : Int)) (.bool st) (.int .i64 pl) W H T C A B f t c w
      (fun u hu => Moves_no W0 H0 T0 C0 A0 B0 ao cap ps dr st lo re li pl W H T C A B u hC0 hA0 hB0 hlo hre (hps u hu) hC hA hB hat)
      (fun u hu => Outcome_no W0 H0 T0 C0 A0 B0 ao cap ps dr st lo re li pl W H T C A B u hC0 hA0 hB0 hlo hre (hps u hu) hC hA hB hat)
      (fun u hu => Apply_err W0 H0 T0 C0 A0 B0 ao cap ps dr st lo re li pl W H T C A B f t c 1 u rfl (fun v hv => check_no W0 H0 T0 C0 A0 B0 ao cap ps dr st lo re li pl W H T C A B f t c v hC0 hA0 hB0 hlo hre (hps v (hu.trans (hv.mono hu.size))) hC hA hB hat))
      (fun u hu => ?_)
    have := rOf_any W0 H0 T0 C0 A0 B0 ao cap ps dr st lo re li pl W H T C A B u hA0 hB0 hlo hre (hps u hu) hA hB
    rw [hat] at this
    exact this
  | true =>
    obtain ⟨W', H', T', hf⟩ := at_facts hat
    have hg := at_more hat hf
    have hOF : ∀ u, Below w.heap.size w u → Calls Tryz.prog 10 #[.agg #[.int .i64 W0, .int .i64 H0, .string C0, .int .i64 T0, .string A0, .string B0, .slice ao ps.length cap, .bool dr, .int .u8 (lo : Int), .int .i64 li, .int .u8 (re : Int), .bool st, .int .i64 pl], .agg #[.int .i64 W, .int .i64 H, .string C, .int .i64 T, .string A, .string B]] u fun e u' => e = .returned (.bool true) ∧ Below u.heap.size u u' := fun u hu => by
      have := rOf_any W0 H0 T0 C0 A0 B0 ao cap ps dr st lo re li pl W H T C A B u hA0 hB0 hlo hre (hps u hu) hA hB
      rw [hat] at this
      exact this
    have hRM : ∀ u, Below w.heap.size w u → Calls Tryz.prog 11 #[.agg #[.int .i64 W0, .int .i64 H0, .string C0, .int .i64 T0, .string A0, .string B0, .slice ao ps.length cap, .bool dr, .int .u8 (lo : Int), .int .i64 li, .int .u8 (re : Int), .bool st, .int .i64 pl], .agg #[.int .i64 W, .int .i64 H, .string C, .int .i64 T, .string A, .string B]] u fun e u' => ∃ v, e = .returned v ∧ u'.ownsRow u.heap.size 29 3 v (movesL W' H' T' C A B ps dr lo li re).length (mvals (movesL W' H' T' C A B ps dr lo li re)) ∧ Below u.heap.size u u' := fun u hu => by
      have := rMoves_any W' H' T' C A B W0 H0 T0 C0 A0 B0 ao cap ps dr st lo re li pl u (hps u hu) hf.ok hf.t1 hf.a hf.b hf.w1 hf.h1 hf.c hg.cell hg.let_ hlo hre hg.loc hg.rec_ hg.li
      rw [← hf.w, ← hf.h, ← hf.t] at this
      exact this
    have hEN : ∀ u, Below w.heap.size w u → Calls Tryz.prog 12 #[.agg #[.int .i64 W0, .int .i64 H0, .string C0, .int .i64 T0, .string A0, .string B0, .slice ao ps.length cap, .bool dr, .int .u8 (lo : Int), .int .i64 li, .int .u8 (re : Int), .bool st, .int .i64 pl], .agg #[.int .i64 W, .int .i64 H, .string C, .int .i64 T, .string A, .string B]] u fun e u' => e = .returned (.int .i64 (outO W' H' T' C A B ps dr st lo li re)) ∧ Below u.heap.size u u' := fun u hu => by
      have := rEnds_any W' H' T' C A B W0 H0 T0 C0 A0 B0 ao cap ps dr st lo re li pl u (hps u hu) hf.ok hf.t1 hf.a hf.b hf.w1 hf.h1 hf.c hg.cell hg.let_ hlo hre hg.loc hg.rec_ hg.li
      rw [← hf.w, ← hf.h, ← hf.t] at this
      exact this
    have hMO := fun u (hu : Below w.heap.size w u) => Moves_ok W0 H0 T0 C0 A0 B0 ao cap ps dr st lo re li pl W H T C A B u hC0 hA0 hB0 hlo hre (hps u hu) hC hA hB hat W' H' T' hf
    have hOU := fun u (hu : Below w.heap.size w u) => Outcome_ok W0 H0 T0 C0 A0 B0 ao cap ps dr st lo re li pl W H T C A B u hC0 hA0 hB0 hlo hre (hps u hu) hC hA hB hat W' H' T' hf
    cases hin : inM f t c (movesL W' H' T' C A B ps dr lo li re) with
    | false =>
      refine law_yes (.int .i64 W0) (.int .i64 H0) (.string C0) (.int .i64 T0) (.string A0) (.string B0) (.slice ao ps.length cap) (.bool dr) (.int .u8 (lo : Int)) (.int .i64 li) (.int .u8 (re : Int)) (.bool st) (.int .i64 pl) W H T C A B f t c (movesL W' H' T' C A B ps dr lo li re) (outO W' H' T' C A B ps dr st lo li re) 5 0 0 0 ⟨#[]⟩ ⟨#[]⟩ ⟨#[]⟩ w hMO hOU ?_ hOF hRM hEN (.inl ⟨hin, rfl, rfl, rfl, rfl, rfl, rfl, rfl⟩)
      exact fun u hu => Apply_err W0 H0 T0 C0 A0 B0 ao cap ps dr st lo re li pl W H T C A B f t c 5 u rfl (fun v hv => by
        have := check_ok W0 H0 T0 C0 A0 B0 ao cap ps dr st lo re li pl W H T C A B f t c v hC0 hA0 hB0 hlo hre (hps v (hu.trans (hv.mono hu.size))) hC hA hB hat W' H' T' hf
        rw [hin, if_neg (by simp)] at this
        exact this)
    | true =>
      obtain ⟨Q0, Q1, Q3, Q2, Q4, Q5, hAP, hMD⟩ := made_pair W0 H0 T0 C0 A0 B0 ao cap ps dr st lo re li pl W H T C A B f t c mx w hm hC0 hA0 hB0 hlo hre h hC hA hB hc8 hat W' H' T' hf hin
      exact law_yes (.int .i64 W0) (.int .i64 H0) (.string C0) (.int .i64 T0) (.string A0) (.string B0) (.slice ao ps.length cap) (.bool dr) (.int .u8 (lo : Int)) (.int .i64 li) (.int .u8 (re : Int)) (.bool st) (.int .i64 pl) W H T C A B f t c (movesL W' H' T' C A B ps dr lo li re) (outO W' H' T' C A B ps dr st lo li re) 0 Q0 Q1 Q3 Q2 Q4 Q5 w hMO hOU hAP hOF hRM hEN (.inr ⟨hin, rfl, hMD⟩)
end Go.Proofs.YtbnohmnbhnineabGreatDoor
