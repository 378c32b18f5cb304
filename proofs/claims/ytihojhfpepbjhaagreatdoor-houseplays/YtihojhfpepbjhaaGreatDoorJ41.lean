/-
  package moves: Apply, joined with what it calls; what a position of rules is, as the document's answer asks for it.
  Mathematics: by a move of the other one the winner does not win.
  Plain mathematics: wins counted in moves of the winner's own, and in moves of both.
  Plain mathematics: what the hunt answers, and what it keeps.
  The game's rules are such a game: the winner does not win by a move of the other one.
-/
import Derived.Test.YtihojhfpepbjhaaGreatDoorV23
import Derived.Test.YtihojhfpepbjhaaGreatDoorJ37
import Derived.Test.YtihojhfpepbjhaaGreatDoorV34
import Derived.Test.YtihojhfpepbjhaaGreatDoorJ40
import Derived.Test.YtihojhfpepbjhaaGreatDoorJ36
import Derived.Test.YtihojhfpepbjhaaGreatDoorJ35
import Derived.RowKit
namespace Go.Proofs.YtihojhfpepbjhaaGreatDoor
open Go.RowKit

/-- What the document's answer needs of a position of rules. -/
structure AtG (ps : List Pc) (lo re : Nat) (li : Int) (C A B : ByteArray) (W' H' : Nat) : Prop where
  cell : ∀ c, c < W' * H' → cellB (cellN C c : Nat) = true ∧ cellN C c < 256
  let_ : ∀ c, c < W' * H' → cellN C c ≠ 46 → 0 ≤ idxF ps (upN (cellN C c)) 0 ∧ lowN (cellN C c) = upN (cellN C c)
  loc : lo ≠ 0 → capB (lo : Int) = true
  rec_ : re ≠ 0 → capB (re : Int) = true
  li : li = 0 ∨ (2 ≤ li ∧ li ≤ 8)
  oa : Ord A.data.toList ∧ ∀ a ∈ A.data.toList, capB a.toNat = true
  ob : Ord B.data.toList ∧ ∀ a ∈ B.data.toList, capB a.toNat = true
theorem hasZ_cap {S lo : Nat} (h : hasZ S lo = true) (h0 : lo ≠ 0) : capB (lo : Int) = true := by
  unfold hasZ hasL at h
  simp only [Bool.or_eq_true, Bool.and_eq_true, decide_eq_true_eq] at h
  rcases h with h | h
  · omega
  · exact h.1
theorem at_more {W0 H0 T0 : Int} {C0 A0 B0 : List UInt8} {ps : List Pc} {lo re : Nat} {li pl W H T : Int} {C A B : ByteArray} (h : atB W0 H0 C0 T0 A0 B0 ps lo li re pl W H C.data.toList T A.data.toList B.data.toList = true) {W' H' T' : Nat} (hf : AtF ps W H T C A B W' H' T') : AtG ps lo re li C A B W' H' := by
  have h1 := h
  rw [of_eq] at h1
  simp only [Bool.and_eq_true] at h1
  obtain ⟨hr, hp, -, -, hl⟩ := h1
  have hp0 := hp
  unfold posB at hp
  simp only [Bool.and_eq_true] at hp
  obtain ⟨⟨⟨⟨⟨-, -⟩, -, hcs⟩, -⟩, hA⟩, hB⟩ := hp
  have hcell : ∀ c, c < W' * H' → cellB (cellN C c : Nat) = true ∧ cellN C c < 256 := fun c hc => by
    have hc' : c < C.size := by rw [hf.c]; exact hc
    obtain ⟨q1, q2⟩ := cellN_list C c hc'
    unfold cellsB at hcs
    rw [List.all_eq_true] at hcs
    refine ⟨?_, by rw [q2]; exact UInt8.toNat_lt _⟩
    rw [q2]
    exact hcs _ (List.mem_of_getElem? q1)
  refine ⟨hcell, fun c hc h46 => ?_, ?_, ?_, ?_, hand_ord hA, hand_ord hB⟩
  · have hc' : c < C.size := by rw [hf.c]; exact hc
    obtain ⟨q1, q2⟩ := cellN_list C c hc'
    obtain ⟨u1, -⟩ := up_low (cellN C c) (hcell c hc).2 (hcell c hc).1 h46
    refine ⟨?_, u1.symm⟩
    rw [List.all_eq_true] at hl
    have := hl (C.get! c) (by simp only [List.mem_append]; exact .inl (.inl (List.mem_of_getElem? q1)))
    unfold hasP at this
    rw [← q2] at this
    simp only [Bool.or_eq_true, decide_eq_true_eq] at this
    rcases this with this | this
    · exact absurd this h46
    · rw [u1]; exact this
  · unfold rulesB at hr
    simp only [Bool.and_eq_true] at hr
    exact hasZ_cap hr.1.1.1.2
  · unfold rulesB at hr
    simp only [Bool.and_eq_true] at hr
    exact hasZ_cap hr.1.1.2
  · unfold rulesB inB at hr
    simp only [Bool.and_eq_true, Bool.or_eq_true, decide_eq_true_eq] at hr
    omega
end Go.Proofs.YtihojhfpepbjhaaGreatDoor

namespace Go.Proofs.YtihojhfpepbjhaaGreatDoor

end Go.Proofs.YtihojhfpepbjhaaGreatDoor

namespace Go.Proofs.YtihojhfpepbjhaaGreatDoor

section
variable {α : Type} (nx : α → List α) (wn : α → Bool)
variable {nx wn} {turn : α → Bool}
end
end Go.Proofs.YtihojhfpepbjhaaGreatDoor

namespace Go.Proofs.YtihojhfpepbjhaaGreatDoor

section
variable {α : Type} {nx : α → List α} {wn turn : α → Bool} {ok : α → Prop}
end
end Go.Proofs.YtihojhfpepbjhaaGreatDoor

namespace Go.Proofs.YtihojhfpepbjhaaGreatDoor
open Go.RowKit

/-- The outcome of a position. -/
def outP (ps : List Pc) (dr st : Bool) (lo : Nat) (li : Int) (re : Nat) (p : Po) : Int := outO p.W.toNat p.H.toNat p.T.toNat p.C p.A p.B ps dr st lo li re
theorem AtF.out {ps : List Pc} {dr st : Bool} {lo : Nat} {li : Int} {re : Nat} {p : Po} {W' H' T' : Nat} (h : AtF ps p.W p.H p.T p.C p.A p.B W' H' T') : outP ps dr st lo li re p = outO W' H' T' p.C p.A p.B ps dr st lo li re := by
  unfold outP
  rw [h.w, h.h, h.t]
  rfl
/-- A position of the rules. -/
def OkP (W0 H0 T0 : Int) (C0 A0 B0 : List UInt8) (ps : List Pc) (lo re : Nat) (li pl : Int) (p : Po) : Prop := atB W0 H0 C0 T0 A0 B0 ps lo li re pl p.W p.H p.C.data.toList p.T p.A.data.toList p.B.data.toList = true
end Go.Proofs.YtihojhfpepbjhaaGreatDoor
