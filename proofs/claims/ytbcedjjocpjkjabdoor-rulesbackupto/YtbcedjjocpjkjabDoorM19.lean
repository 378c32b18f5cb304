/-
  Plain mathematics: what Read answers; there and back.
-/
import Derived.Test.YtbcedjjocpjkjabDoorJ20
namespace Go.Proofs.YtbcedjjocpjkjabDoor

theorem capP_of (ps : List Pc) (h : psB ps = true) : capP ps = ps := by
  simp only [psB, inB, Bool.and_eq_true, decide_eq_true_eq] at h
  obtain ⟨⟨-, hl⟩, ho⟩ := h
  have e : capP ps = ps.map Pc.cap := List.take_of_length_le (by simp; omega)
  rw [e]
  have hall := okP_all _ _ ho
  refine (List.map_congr_left fun p hp => ?_).trans (List.map_id ps)
  have := hall p hp
  simp only [pcB, Bool.and_eq_true, decide_eq_true_eq] at this
  obtain ⟨l, v, ws⟩ := p
  simp only [Pc.cap, id]
  rw [List.take_of_length_le]
  have := this.1.2
  simp only at this
  omega
/-- P6 of what was read, as the reader keeps it. -/
def Rl.ok (x : Rl) : Bool := rulesB x.W x.H x.C x.T x.A x.B (capP x.ps) x.lo.toNat x.li x.re.toNat x.pl
def Rl.whole (x : Rl) : Bool := rulesB x.W x.H x.C x.T x.A x.B x.ps x.lo.toNat x.li x.re.toNat x.pl
theorem whole_of_ok (x : Rl) (h : x.ok = true) : capP x.ps = x.ps ∧ x.whole = true := by
  have hp : psB (capP x.ps) = true := by
    simp only [Rl.ok, rulesB, Bool.and_eq_true] at h
    exact h.1.1.1.1.1.1
  have e := capP_ok _ hp
  refine ⟨e, ?_⟩
  unfold Rl.ok at h
  rw [e] at h
  exact h
theorem ok_of_whole (x : Rl) (h : x.whole = true) : x.ok = true := by
  have hp : psB x.ps = true := by
    simp only [Rl.whole, rulesB, Bool.and_eq_true] at h
    exact h.1.1.1.1.1.1
  unfold Rl.ok
  rw [capP_of _ hp]
  exact h
/-- What Read answers: the rules, or none; the fault's two numbers. -/
def readR (s : List UInt8) : Option Rl × Int × Int :=
  match linesF s.length 0 Rl.none s 0 with
  | (some (last, x), k) => if last = 8 then (if x.ok then (some x, 0, 0) else (none, 1, -1)) else (none, 3, (k : Int))
  | (none, k) => (none, 3, (k : Int))
theorem readR_back (s : List UInt8) (x : Rl) (c : Int × Int) (h : readR s = (some x, c)) : x.txt = s ∧ capP x.ps = x.ps ∧ x.whole = true := by
  unfold readR at h
  split at h
  · rename_i last y k hl
    split at h
    · rename_i h8
      split at h
      · rename_i hok
        simp only [Prod.mk.injEq, Option.some.injEq] at h
        obtain ⟨rfl, -⟩ := h
        subst h8
        exact ⟨rules_back _ _ _ hl, whole_of_ok _ hok⟩
      · simp at h
    · simp at h
  · simp at h
theorem readR_there (x : Rl) (h : x.whole = true) : readR x.txt = (some x, 0, 0) := by
  obtain ⟨k, hk⟩ := rules_ok x h x.txt.length 0 (Nat.le_refl _)
  unfold readR
  rw [hk]
  simp only [if_true, ok_of_whole x h]
/-- The fault's number tells. -/
theorem readR_code (s : List UInt8) : ((readR s).1 = none ∧ (readR s).2.1 ≠ 0) ∨ ∃ x, readR s = (some x, 0, 0) := by
  unfold readR
  split
  · split
    · split
      · exact Or.inr ⟨_, rfl⟩
      · exact Or.inl ⟨rfl, by decide⟩
    · exact Or.inl ⟨rfl, by simp⟩
  · exact Or.inl ⟨rfl, by simp⟩
end Go.Proofs.YtbcedjjocpjkjabDoor
