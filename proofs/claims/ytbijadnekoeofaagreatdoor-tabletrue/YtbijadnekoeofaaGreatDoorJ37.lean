/-
  table.Make and gameref.Tabled come to the same entries (plain mathematics).
  gameref.Tabled: plain mathematics of its later loops; the row of entries that is copied.
-/
import Derived.Test.YtbijadnekoeofaaGreatDoorJ35
import Derived.Test.YtbijadnekoeofaaGreatDoorJ36
namespace Go.Proofs.YtbijadnekoeofaaGreatDoor
open Go.Sort

theorem en_same {nds : List Nd} (hnn : ∀ (i : Nat) (n : Nd), nds[i]? = some n → 0 ≤ n.v ∧ 0 ≤ n.d) : nds.map enN = enF (nds.map Nd.p) (aOf nds) := by
  apply List.ext_getElem?
  intro i
  rw [List.getElem?_map, enF_get, List.getElem?_map]
  cases hi : nds[i]? with
  | none => rfl
  | some n =>
    obtain ⟨h1, h2⟩ := hnn i n hi
    rw [aOf_at hi]
    simp only [Option.map_some, Option.some.injEq, enN, Prod.mk.injEq, true_and]
    omega
def ltE (x y : Po × Int × Int) : Prop := cmpP x.1 y.1 < 0
end Go.Proofs.YtbijadnekoeofaaGreatDoor

namespace Go.Proofs.YtbijadnekoeofaaGreatDoor
open Go.RowKit

/-- What a position is worth at the beginning. -/
def endW (o T : Int) : Int := if o = 0 then 0 else if o = 3 then 3 else if o = T + 1 then 1 else 2
theorem EnR.drew {u : World} {base g N : Nat} {ts : List (Po × Int × Int)} {r : List Value} (h : EnR u base g N ts r) : EnR u.drew base g N ts r := h.keep rfl
theorem InsI.mem {α : Type} {lt : α → α → Prop} {S : List α} {x : α} {rest : List α} {k : Nat} {ts : List α} (h : InsI lt S x rest (k + 1) ts) {a : α} (ha : ts[k]? = some a) : a ∈ S := by
  obtain ⟨A, B, rfl, rfl, hk, -⟩ := h
  rw [List.getElem?_append_left (by omega)] at ha
  exact List.mem_append_left _ (List.mem_of_getElem? ha)
/-- The sort: one more is put in its place. -/
structure SoI (all : List Po) (A : Nat → Nat × Nat) (i : Nat) (S : List (Po × Int × Int)) : Prop where
  len : S.length = i
  perm : S.Perm ((enF all (finR A)).take i)
  ord : S.Pairwise ltE
theorem SoI.ne {all : List Po} {A : Nat → Nat × Nat} {i : Nat} {S : List (Po × Int × Int)} (h : SoI all A i S) (hnd : all.Nodup) {ok : Po → Prop} (hok : ∀ p ∈ all, ok p) (hkey : ∀ p q, ok p → ok q → keyP p = keyP q → p = q) {p : Po} (hp : all[i]? = some p) : ∀ a ∈ S, keyP p ≠ keyP a.1 := fun a ha e => by
  have h1 := h.perm.subset ha
  obtain ⟨j, hj⟩ := List.getElem?_of_mem h1
  have hji : j < i := by
    have := (List.getElem?_eq_some_iff.1 hj).1
    rw [List.length_take] at this
    omega
  rw [List.getElem?_take_of_lt hji, enF_get] at hj
  obtain ⟨q, hq, rfl⟩ := Option.map_eq_some_iff.1 hj
  have hpq := hkey p q (hok p (List.mem_of_getElem? hp)) (hok q (List.mem_of_getElem? hq)) e
  subst hpq
  have e1 := idx_of hnd hp
  have e2 := idx_of hnd hq
  omega
theorem SoI.next {all : List Po} {A : Nat → Nat × Nat} {i : Nat} {S S' : List (Po × Int × Int)} {x : Po × Int × Int} (h : SoI all A i S) (hx : (enF all (finR A))[i]? = some x) (hp : S'.Perm (S ++ [x])) (ho : S'.Pairwise ltE) (hl : S'.length = S.length + 1) : SoI all A (i + 1) S' := by
  refine ⟨by rw [hl, h.len], ?_, ho⟩
  rw [List.take_add_one, hx]
  exact hp.trans (h.perm.append_right _)
/-- The rounds. -/
structure RdI (n : Nat) (nxt : Nat → List Nat) (v0 : Nat → Nat) (d : Nat) (mo : Bool) : Prop where
  yes : mo = true → d + opn (rds nxt v0 d) n ≤ n
  no : mo = false → ∃ D, d = D + 1 ∧ ∀ i, i < n → rds nxt v0 (D + 1) i = rds nxt v0 D i
theorem RdI.start {n : Nat} {nxt : Nat → List Nat} {v0 : Nat → Nat} : RdI n nxt v0 0 true := ⟨fun _ => by have := opn_le (rds nxt v0 0) n; omega, fun h => by cases h⟩
theorem RdI.next {n : Nat} {nxt : Nat → List Nat} {v0 : Nat → Nat} {d : Nat} (h : RdI n nxt v0 d true) : RdI n nxt v0 (d + 1) (fndN nxt (rds nxt v0 d) (d + 1) n) := by
  have h1 := h.yes rfl
  have h2 := opn_rnd (nxt := nxt) (A := rds nxt v0 d) (d := d + 1) n
  refine ⟨fun hm => ?_, fun hm => ⟨d, rfl, rds_still hm⟩⟩
  rw [if_pos hm] at h2
  have e : opn (rds nxt v0 (d + 1)) n = opn (rnd nxt (rds nxt v0 d) (d + 1)) n := rfl
  omega
end Go.Proofs.YtbijadnekoeofaaGreatDoor
