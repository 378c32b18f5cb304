/-
  gameref.Tabled: plain mathematics of its later loops; the row of entries that is copied.
-/
import Derived.Test.YtbijadnekoeofaaGreatDoorJ45
namespace Go.Proofs.YtbijadnekoeofaaGreatDoor
open Go.RowKit

/-- What a position is worth at the beginning. -/
def endW (o T : Int) : Int := if o = 0 then 0 else if o = 3 then 3 else if o = T + 1 then 1 else 2
theorem fill_next {all : List Po} {A : Nat → Nat × Nat} {i : Nat} {p : Po} {v : Int} (hp : all[i]? = some p) (hv : ((A i).1 : Int) = v) (hd : (A i).2 = 0) : ((enF all A).take i ++ [(p, 0, 0)]).set i (p, v, 0) = (enF all A).take (i + 1) := by
  have hil := (List.getElem?_eq_some_iff.1 hp).1
  have hl : ((enF all A).take i).length = i := by rw [List.length_take, enF_len]; omega
  rw [List.set_append_right _ _ (by omega), hl, Nat.sub_self, List.take_add_one, enF_at hp, hv, hd]
  rfl
theorem fill_zero {all : List Po} {A : Nat → Nat × Nat} {i : Nat} {p : Po} (hp : all[i]? = some p) (hv : (A i).1 = 0) (hd : (A i).2 = 0) : (enF all A).take i ++ [(p, 0, 0)] = (enF all A).take (i + 1) := by
  rw [List.take_add_one, enF_at hp, hv, hd]
  rfl
theorem so_push {all : List Po} {A : Nat → Nat × Nat} {i : Nat} {p : Po} (hp : all[i]? = some p) : ((enF all A).take i ++ [(p, (0 : Int), (0 : Int))])[i]? = some (p, 0, 0) := by
  have hil := (List.getElem?_eq_some_iff.1 hp).1
  have hl : ((enF all A).take i).length = i := by rw [List.length_take, enF_len]; omega
  rw [List.getElem?_append_right (by omega), hl, Nat.sub_self]
  rfl
theorem v0G_val {nx : Po → List Po} {ev : Po → Int} {all : List Po} {i : Nat} {p : Po} {x : Int} (hp : all[i]? = some p) (hev : nx p = [] → 1 ≤ ev p) (hx : x = if nx p = [] then ev p else 0) : ((v0G nx ev all i : Nat) : Int) = x := by
  unfold v0G
  rw [hp, hx]
  by_cases h : nx p = []
  · have := hev h
    simp only [h, if_true]
    omega
  · simp only [h, if_false]; rfl
/-- A row of entries is copied. -/
theorem EnR.copy {u : World} {base g N : Nat} {ts : List (Po × Int × Int)} (h : EnR u base g N ts []) (hN : 0 < N) (hN5 : N ≤ 5000) (hb : base ≤ u.heap.size) :
    ∃ gW cW u', (Builtin.append_ #[28, 28] 28 #[.slice none 0 0, .slice (some ⟨g, 0, none⟩) N N]).run Tryz.prog u = .ok (.slice (some ⟨gW, 0, none⟩) N cW) u' ∧ N ≤ cW ∧ cW ≤ maxLen ∧ u.heap.size ≤ gW ∧ u.grownBy u' none ∧
      ∀ (j : Nat) (e : Po × Int × Int), ts[j]? = some e → ∀ v : World, v.heap[gW]? = u'.heap[gW]? → ∀ c, c < 8 → v.cell? ⟨gW, j * 8 + c, none⟩ = (encE e)[c]? := by
  obtain ⟨i0, hinfo, hz0, hz1, hz2⟩ := info_parts infoEn
  have hl := h.len
  have hrow := h.row
  rw [List.append_nil] at hrow
  obtain ⟨v', u', hrun, hr, hg, -, hob⟩ := run_append_own_at (P := Tryz.prog) u base 28 28 34 i0 _ 8 88 Tryz.underlying28 hinfo hz0 hz1 hz2 rfl (by omega) (.slice none 0 0) 0 [] ⟨rfl, .inl ⟨rfl, rfl⟩⟩ ⟨g, 0, none⟩ N N (evs ts) (by rw [evs_len]; simpa using hl)
    (fun a x hx => by
      have hal : a < N * 8 := by
        have := (List.getElem?_eq_some_iff.1 hx).1
        rw [evs_len] at this
        simp at hl
        omega
      rw [show (⟨g, 0, none⟩ : Addr).add a = ⟨g, a, none⟩ by (simp [Addr.add]; try omega), hrow.cellAt a hal]
      exact hx)
    (fun x hx => by
      unfold evs at hx
      obtain ⟨e, _, he⟩ := List.mem_flatMap.1 hx
      simp only [encE, List.mem_cons, List.not_mem_nil, or_false] at he
      rcases he with rfl | rfl | rfl | rfl | rfl | rfl | rfl | rfl <;> rfl)
    (by unfold maxLen; omega) (by omega) hb
  rw [Nat.zero_add, List.nil_append] at hr
  rcases hr.2 with ⟨_, h0⟩ | ⟨gW, cW, cur, e, _, hgw, h1, h2, _⟩
  · omega
  · subst e
    have hgW : u.heap.size ≤ gW := by
      rcases hob with hob | hob
      · simp [Value.ownBlock] at hob
      · simp only [Value.ownBlock, Option.some.injEq] at hob
        omega
    refine ⟨gW, cW, u', hrun, h1, h2, hgW, hg, fun j e hj v hv c hc => ?_⟩
    have hjl := (List.getElem?_eq_some_iff.1 hj).1
    simp at hl
    rw [World.cell?_of_block (a := ⟨gW, j * 8 + c, none⟩) hv, hr.cellAt (j * 8 + c) (by omega)]
    exact fm_at (f := encE) (c := 8) (fun _ => rfl) ts j c e hj hc
theorem grown_trans {a u v : World} {g : Nat} (h : a.grownBy u (some g)) (h' : u.grownBy v (some g)) : a.grownBy v (some g) := h.andThen h' (fun _ hk => .inr hk)
theorem grown_below {a u v : World} {g : Nat} (h : a.grownBy u (some g)) (hb : Below u.heap.size u v) : a.grownBy v (some g) := h.andThen (show u.grownBy v none from ⟨hb.os, hb.tape, hb.output, hb.size, fun j hj _ => hb.block j hj⟩) (fun _ hk => by cases hk)
theorem grown_none {a u v : World} {g : Nat} (h : a.grownBy u (some g)) (h' : u.grownBy v none) : a.grownBy v (some g) := h.andThen h' (fun _ hk => by cases hk)
theorem EnR.drew {u : World} {base g N : Nat} {ts : List (Po × Int × Int)} {r : List Value} (h : EnR u base g N ts r) : EnR u.drew base g N ts r := h.keep rfl
theorem grown_drew {a u : World} {g : Nat} (h : a.grownBy u (some g)) : a.grownBy u.drew (some g) := ⟨h.os, h.tape, h.output, h.size, h.block⟩
theorem InsI.mem {α : Type} {lt : α → α → Prop} {S : List α} {x : α} {rest : List α} {k : Nat} {ts : List α} (h : InsI lt S x rest (k + 1) ts) {a : α} (ha : ts[k]? = some a) : a ∈ S := by
  obtain ⟨A, B, rfl, rfl, hk, -⟩ := h
  rw [List.getElem?_append_left (by omega)] at ha
  exact List.mem_append_left _ (List.mem_of_getElem? ha)
/-- The sort: one more is put in its place. -/
structure SoI (all : List Po) (A : Nat → Nat × Nat) (i : Nat) (S : List (Po × Int × Int)) : Prop where
  len : S.length = i
  perm : S.Perm ((enF all (finR A)).take i)
  ord : S.Pairwise ltE
theorem SoI.ne {all : List Po} {A : Nat → Nat × Nat} {i : Nat} {S : List (Po × Int × Int)} (h : SoI all A i S) (hnd : all.Nodup) {ok : Po → Prop} (hok : ∀ p ∈ all, ok p) (hkey : ∀ p q, ok p → ok q → keyP p = keyP q → p = q) {p : Po} (hp : all[i]? = some p) : ∀ a ∈ S, keyP p ≠ keyP a.1 := fun a ha e => by
  have h1 := h.perm.subset ha
  obtain ⟨j, hj⟩ := List.getElem?_of_mem h1
  have hji : j < i := by
    have := (List.getElem?_eq_some_iff.1 hj).1
    rw [List.length_take] at this
    omega
  rw [List.getElem?_take_of_lt hji, enF_get] at hj
  obtain ⟨q, hq, rfl⟩ := Option.map_eq_some_iff.1 hj
  have hpq := hkey p q (hok p (List.mem_of_getElem? hp)) (hok q (List.mem_of_getElem? hq)) e
  subst hpq
  have e1 := idx_of hnd hp
  have e2 := idx_of hnd hq
  omega
theorem SoI.next {all : List Po} {A : Nat → Nat × Nat} {i : Nat} {S S' : List (Po × Int × Int)} {x : Po × Int × Int} (h : SoI all A i S) (hx : (enF all (finR A))[i]? = some x) (hp : S'.Perm (S ++ [x])) (ho : S'.Pairwise ltE) (hl : S'.length = S.length + 1) : SoI all A (i + 1) S' := by
  refine ⟨by rw [hl, h.len], ?_, ho⟩
  rw [List.take_add_one, hx]
  exact hp.trans (h.perm.append_right _)
theorem so_at {all : List Po} {A : Nat → Nat × Nat} {i : Nat} {S : List (Po × Int × Int)} {p : Po} (hl : S.length = i) (hp : all[i]? = some p) : (S ++ (enF all A).drop i)[i]? = some (p, ((A i).1 : Int), ((A i).2 : Int)) := by
  rw [List.getElem?_append_right (by omega), hl, Nat.sub_self, List.getElem?_drop, Nat.add_zero]
  exact enF_at hp
theorem so_keep {all : List Po} {A : Nat → Nat × Nat} {i : Nat} {S : List (Po × Int × Int)} {p : Po} (hp : all[i]? = some p) (h : (A i).1 ≠ 0) : S ++ (enF all A).drop i = S ++ (p, ((finR A i).1 : Int), ((finR A i).2 : Int)) :: (enF all A).drop (i + 1) := by
  have hil : i < (enF all A).length := by rw [enF_len]; exact (List.getElem?_eq_some_iff.1 hp).1
  have hf : finR A i = A i := by unfold finR; rw [if_neg h]
  rw [hf, List.drop_eq_getElem_cons hil]
  have := enF_at (A := A) hp
  rw [List.getElem?_eq_getElem hil] at this
  rw [Option.some.inj this]
theorem so_even {all : List Po} {A : Nat → Nat × Nat} {i : Nat} {S : List (Po × Int × Int)} {p : Po} (hl : S.length = i) (hp : all[i]? = some p) (h : A i = (0, 0)) : (S ++ (enF all A).drop i).set i (p, 3, ((A i).2 : Int)) = S ++ (p, ((finR A i).1 : Int), ((finR A i).2 : Int)) :: (enF all A).drop (i + 1) := by
  have hil : i < (enF all A).length := by rw [enF_len]; exact (List.getElem?_eq_some_iff.1 hp).1
  have hf : finR A i = (3, 0) := by unfold finR; rw [if_pos (by rw [h])]
  rw [hf, List.set_append_right _ _ (by omega), hl, Nat.sub_self, List.drop_eq_getElem_cons hil, List.set_cons_zero, h]
  rfl
/-- The rounds. -/
structure RdI (n : Nat) (nxt : Nat → List Nat) (v0 : Nat → Nat) (d : Nat) (mo : Bool) : Prop where
  yes : mo = true → d + opn (rds nxt v0 d) n ≤ n
  no : mo = false → ∃ D, d = D + 1 ∧ ∀ i, i < n → rds nxt v0 (D + 1) i = rds nxt v0 D i
theorem RdI.start {n : Nat} {nxt : Nat → List Nat} {v0 : Nat → Nat} : RdI n nxt v0 0 true := ⟨fun _ => by have := opn_le (rds nxt v0 0) n; omega, fun h => by cases h⟩
theorem RdI.next {n : Nat} {nxt : Nat → List Nat} {v0 : Nat → Nat} {d : Nat} (h : RdI n nxt v0 d true) : RdI n nxt v0 (d + 1) (fndN nxt (rds nxt v0 d) (d + 1) n) := by
  have h1 := h.yes rfl
  have h2 := opn_rnd (nxt := nxt) (A := rds nxt v0 d) (d := d + 1) n
  refine ⟨fun hm => ?_, fun hm => ⟨d, rfl, rds_still hm⟩⟩
  rw [if_pos hm] at h2
  have e : opn (rds nxt v0 (d + 1)) n = opn (rnd nxt (rds nxt v0 d) (d + 1)) n := rfl
  omega
end Go.Proofs.YtbijadnekoeofaaGreatDoor
